/-
  THE WALK of stolelaw1.awake: it returns true wherever the tables of unicode/utf8 lie as Go lays them, and turns nothing that was there.
-/
import Derived.Test.YthoneoemfkpgmaaDoorNorm
import Derived.Test.YthoneoemfkpgmaaDoorLower
namespace Go.Proofs.YthoneoemfkpgmaaDoor
open Go.RowKit

theorem Wk.aw1 (w : World) (hT : Lib.Utf8Tabs 0 1 w) : Calls Tryd.prog 8 #[.string { data := #[97, 195, 169] }] w fun e w' => e = .returned (.bool true) ∧ Below w.heap.size w w' := by
  have h := Wk.may { data := #[97, 195, 169] } w hT (by decide)
  have e : Pl.mayL [97, 195, 169] = true := by decide
  simpa only [e] using h
theorem Wk.aw2 (w : World) (hT : Lib.Utf8Tabs 0 1 w) : Calls Tryd.prog 8 #[.string { data := #[0] }] w fun e w' => e = .returned (.bool false) ∧ Below w.heap.size w w' := by
  have h := Wk.may { data := #[0] } w hT (by decide)
  have e : Pl.mayL [0] = false := by decide
  simpa only [e] using h
theorem Wk.aw3 (w : World) (hT : Lib.Utf8Tabs 0 1 w) : Calls Tryd.prog 8 #[.string { data := #[237, 160, 128] }] w fun e w' => e = .returned (.bool false) ∧ Below w.heap.size w w' := by
  have h := Wk.may { data := #[237, 160, 128] } w hT (by decide)
  have e : Pl.mayL [237, 160, 128] = false := by decide
  simpa only [e] using h
theorem Wk.aw4 (w : World) (hT : Lib.Utf8Tabs 0 1 w) : Calls Tryd.prog 10 #[.string { data := #[97, 0, 195, 98] }] w fun e w' => e = .returned (.string { data := #[97, 239, 191, 189, 239, 191, 189, 98] }) ∧ Below w.heap.size w w' := by
  have h := Wk.norm { data := #[97, 0, 195, 98] } w hT (by decide)
  have e : Pl.normL [97, 0, 195, 98] = [97, 239, 191, 189, 239, 191, 189, 98] := by decide
  simpa only [e] using h
theorem Wk.aw5 (w : World) : Calls Tryd.prog 12 #[.string { data := #[65, 98, 90, 91, 195] }] w fun e w' => e = .returned (.string { data := #[97, 98, 122, 91, 195] }) ∧ Below w.heap.size w w' := by
  have h := Wk.lower { data := #[65, 98, 90, 91, 195] } w (by decide)
  have e : Pl.lowL [65, 98, 90, 91, 195] = [97, 98, 122, 91, 195] := by decide
  simpa only [e] using h

set_option maxHeartbeats 1000000 in
theorem Wk.awake (w : World) (hT : Lib.Utf8Tabs 0 1 w) : Calls Tryd.prog 14 #[] w fun e w' => e = .returned (.bool true) ∧ Below w.heap.size w w' := by
  go_enter Tryd.func14, Tryd.ntmps14
  go_wp2_with fail
  refine (Wk.aw1 w hT).mono ?_
  rintro e w1 ⟨rfl, b1⟩
  have t1 := Utf8Tabs_below hT b1
  go_wp2_with fail
  refine (Wk.aw2 w1 t1).mono ?_
  rintro e w2 ⟨rfl, b2⟩
  have t2 := Utf8Tabs_below t1 b2
  have b2' := Wk.below_step b1 b2
  clear b1 b2 t1
  go_wp2_with fail
  refine (Wk.aw3 w2 t2).mono ?_
  rintro e w3 ⟨rfl, b3⟩
  have t3 := Utf8Tabs_below t2 b3
  have b3' := Wk.below_step b2' b3
  clear b2' b3 t2
  go_wp2_with fail
  refine (Wk.aw4 w3 t3).mono ?_
  rintro e w4 ⟨rfl, b4⟩
  have b4' := Wk.below_step b3' b4
  clear b3' b4 t3
  go_wp2_with fail
  refine (Wk.aw5 w4).mono ?_
  rintro e w5 ⟨rfl, b5⟩
  have b5' := Wk.below_step b4' b5
  clear b4' b5
  go_wp2_with fail
  refine (Wk.num w5).mono ?_
  rintro e w6 ⟨rfl, rfl⟩
  go_wp2
  go_ret
  exact ⟨rfl, b5'⟩
end Go.Proofs.YthoneoemfkpgmaaDoor
