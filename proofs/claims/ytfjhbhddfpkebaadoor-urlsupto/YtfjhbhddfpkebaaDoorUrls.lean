/-
  THE WALK of stolelaw9.Urls: for any text of up to 2^30 bytes it returns true.
-/
import Derived.Test.YtfjhbhddfpkebaaDoorQTo
namespace Go.Proofs.YtfjhbhddfpkebaaDoor
open Go.RowKit
set_option maxRecDepth 100000 in
set_option maxHeartbeats 2000000 in
theorem Law.urls (s : ByteArray) (w : World) (hT : Ut w) (hs : s.size ≤ 1073741824) : Calls Tryd.prog 3 #[.string s] w fun e w' => e = .returned (.bool true) ∧ Below w.heap.size w w' := by
  have c1 := fun u => Up.scheme s u (by omega)
  have c2 := fun u => Qs.scheme s u (by omega)
  have c3 := fun u hT => Up.start s u hT (by omega)
  have c4 := fun u => Qs.start s u (by omega)
  have c5 := fun u hT => Up.part s u hT (by omega)
  have c6 := fun u => Qr.part s u (by omega)
  generalize (Ug.scheme s.data.toList).isSome = b at *
  generalize (⟨((Ug.scheme s.data.toList).getD []).toArray⟩ : ByteArray) = A at *
  generalize (⟨(Ug.start s.data.toList).toArray⟩ : ByteArray) = X at *
  generalize (⟨(Ug.part s.data.toList).toArray⟩ : ByteArray) = Y at *
  have hb : (b == b) = true := by cases b <;> rfl
  go_enter Tryd.func3, Tryd.ntmps3
  go_wp2_with fail
  refine (c1 w).mono ?_
  rintro e w1 ⟨rfl, b1⟩
  have t1 := Utf8Tabs_below hT b1
  go_wp2_with fail
  refine (c2 w1).mono ?_
  rintro e w2 ⟨rfl, b2⟩
  have t2 := Utf8Tabs_below t1 b2
  have b2' := Wk.below_step b1 b2
  clear b1 b2 t1
  go_wp2_with fail
  refine (c3 w2 t2).mono ?_
  rintro e w3 ⟨rfl, b3⟩
  have t3 := Utf8Tabs_below t2 b3
  have b3' := Wk.below_step b2' b3
  clear b2' b3 t2
  go_wp2_with fail
  refine (c4 w3).mono ?_
  rintro e w4 ⟨rfl, b4⟩
  have t4 := Utf8Tabs_below t3 b4
  have b4' := Wk.below_step b3' b4
  clear b3' b4 t3
  go_wp2_with fail
  refine (c5 w4 t4).mono ?_
  rintro e w5 ⟨rfl, b5⟩
  have t5 := Utf8Tabs_below t4 b5
  have b5' := Wk.below_step b4' b5
  clear b4' b5 t4
  go_wp2_with fail
  refine (c6 w5).mono ?_
  rintro e w6 ⟨rfl, b6⟩
  have t6 := Utf8Tabs_below t5 b6
  have b6' := Wk.below_step b5' b6
  clear b5' b6 t5
  go_wp2_with fail
  refine (Ua.awake w6 t6).mono ?_
  rintro e w7 ⟨rfl, b7⟩
  have b7' := Wk.below_step b6' b7
  clear b6' b7 t6 c1 c2 c3 c4 c5 c6
  go_wp2
  go_ret
  exact ⟨rfl, b7'⟩
end Go.Proofs.YtfjhbhddfpkebaaDoor
