/-
  THE WALK of stolelaw1.Utfs: for any text of up to 2^40 bytes it returns true, and turns nothing that was there.
-/
import Derived.Test.YthoneoemfkpgmaaDoorAwake
import Derived.Test.YthoneoemfkpgmaaDoorRefNorm
import Derived.Test.YthoneoemfkpgmaaDoorRefLower
namespace Go.Proofs.YthoneoemfkpgmaaDoor
open Go.RowKit

set_option maxHeartbeats 1000000 in
theorem Law.utfs (s : ByteArray) (w : World) (hT : Lib.Utf8Tabs 0 1 w) (hs : s.size ≤ 1099511627776) :
    Calls Tryd.prog 3 #[.string s] w fun e w' => e = .returned (.bool true) ∧ Below w.heap.size w w' := by
  obtain ⟨x, hx⟩ : ∃ x : ByteArray, (⟨(Pl.normL s.data.toList).toArray⟩ : ByteArray) = x := ⟨_, rfl⟩
  have HX : Hid ((⟨(Pl.normL s.data.toList).toArray⟩ : ByteArray) = x) := hx
  obtain ⟨y, hy⟩ : ∃ y : ByteArray, (⟨(Pl.lowL s.data.toList).toArray⟩ : ByteArray) = y := ⟨_, rfl⟩
  have HY : Hid ((⟨(Pl.lowL s.data.toList).toArray⟩ : ByteArray) = y) := hy
  clear hx hy
  have m1 := Wk.may s w hT (by unfold maxLen; omega)
  have m2 : ∀ u : World, _ := fun u : World => Sz.may s u (by omega)
  generalize Pl.mayL s.data.toList = b at m1 m2
  go_enter Tryd.func3, Tryd.ntmps3
  go_wp2_with fail
  refine m1.mono ?_
  rintro e w1 ⟨rfl, b1⟩
  have t1 := Utf8Tabs_below hT b1
  go_wp2_with fail
  refine (m2 w1).mono ?_
  rintro e w2 ⟨rfl, b2⟩
  have t2 := Utf8Tabs_below t1 b2
  have b2' := Wk.below_step b1 b2
  clear b1 b2 t1 m1 m2
  go_wp2_with fail
  refine (Wk.norm s w2 t2 (by omega)).mono ?_
  rintro e w3 ⟨rfl, b3⟩
  rw [HX.out]
  have t3 := Utf8Tabs_below t2 b3
  have b3' := Wk.below_step b2' b3
  clear b2' b3 t2
  go_wp2_with fail
  refine (Sz.norm s w3 (by omega)).mono ?_
  rintro e w4 ⟨rfl, b4⟩
  rw [HX.out]
  have t4 := Utf8Tabs_below t3 b4
  have b4' := Wk.below_step b3' b4
  clear b3' b4 t3
  go_wp2_with fail
  refine (Wk.lower s w4 (by omega)).mono ?_
  rintro e w5 ⟨rfl, b5⟩
  rw [HY.out]
  have t5 := Utf8Tabs_below t4 b5
  have b5' := Wk.below_step b4' b5
  clear b4' b5 t4
  go_wp2_with fail
  refine (Sz.lower s w5 (by omega)).mono ?_
  rintro e w6 ⟨rfl, b6⟩
  rw [HY.out]
  have t6 := Utf8Tabs_below t5 b6
  have b6' := Wk.below_step b5' b6
  clear b5' b6 t5
  go_wp2_with fail
  refine (Wk.awake w6 t6).mono ?_
  rintro e w7 ⟨rfl, b7⟩
  have b7' := Wk.below_step b6' b7
  clear b6' b7 t6
  go_wp2
  go_ret
  exact ⟨rfl, b7'⟩
end Go.Proofs.YthoneoemfkpgmaaDoor
