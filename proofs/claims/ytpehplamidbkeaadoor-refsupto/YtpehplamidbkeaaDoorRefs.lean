/-
  THE WALK of stolelaw2.Refs: for any text of up to 2^30 bytes it returns true, and turns nothing that was there.
-/
import Derived.Test.YtpehplamidbkeaaDoorRefDec
import Derived.Test.YtpehplamidbkeaaDoorRAwake
namespace Go.Proofs.YtpehplamidbkeaaDoor
open Go.RowKit

set_option maxHeartbeats 1000000 in
theorem Law.refs (s : ByteArray) (w : World) (hT : Lib.Utf8Tabs 1 2 w) (hs : s.size ≤ 1073741824) :
    Calls Tryd.prog 3 #[.string s] w fun e w' => e = .returned (.bool true) ∧ Below w.heap.size w w' := by
  have c1 := Re.encode s w hT (by omega)
  have c2 := fun u => Rt.encode s u (by omega)
  have c3 := fun u => Rr.decode s u (by omega)
  have c4 := fun u => Rt.decode s u (by omega)
  generalize (⟨(Pl.encL s.data.toList).toArray⟩ : ByteArray) = x at *
  generalize (⟨(Pl.decL s.data.toList).toArray⟩ : ByteArray) = y at *
  go_enter Tryd.func3, Tryd.ntmps3
  go_wp2_with fail
  refine c1.mono ?_
  rintro e w1 ⟨rfl, b1⟩
  have t1 := Utf8Tabs_below hT b1
  go_wp2_with fail
  refine (c2 w1).mono ?_
  rintro e w2 ⟨rfl, b2⟩
  have t2 := Utf8Tabs_below t1 b2
  have b2' := Wk.below_step b1 b2
  clear b1 b2 t1
  go_wp2_with fail
  refine (c3 w2).mono ?_
  rintro e w3 ⟨rfl, b3⟩
  have t3 := Utf8Tabs_below t2 b3
  have b3' := Wk.below_step b2' b3
  clear b2' b3 t2
  go_wp2_with fail
  refine (c4 w3).mono ?_
  rintro e w4 ⟨rfl, b4⟩
  have t4 := Utf8Tabs_below t3 b4
  have b4' := Wk.below_step b3' b4
  clear b3' b4 t3
  go_wp2_with fail
  refine (Aw.awake w4 t4).mono ?_
  rintro e w5 ⟨rfl, b5⟩
  have b5' := Wk.below_step b4' b5
  clear b4' b5 t4
  go_wp2
  go_ret
  exact ⟨rfl, b5'⟩
end Go.Proofs.YtpehplamidbkeaaDoor
