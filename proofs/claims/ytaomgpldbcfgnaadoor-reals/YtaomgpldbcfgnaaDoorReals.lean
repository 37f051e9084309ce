/-
  THE WALK of stolelaw3.Reals, at whatever bits: it returns true, and turns nothing that was there.
-/
import Derived.Test.YtaomgpldbcfgnaaDoorReAwake
import Derived.Test.YtaomgpldbcfgnaaDoorReRef2
namespace Go.Proofs.YtaomgpldbcfgnaaDoor
open Go.RowKit

set_option maxRecDepth 100000 in
set_option maxHeartbeats 1000000 in
theorem Law.reals (b : Nat) (hb : b < 18446744073709551616) (w : World) (h : Re.Tabs w) :
    Calls Tryd.prog 3 #[.int .u64 (b : Int)] w fun e w' => e = .returned (.bool true) ∧ Below w.heap.size w w' := by
  have a1 := Rk.whole b hb w
  have a2 := Rs.wholes b hb w
  have a3 := Rk.kind b hb w
  have a4 := Rs.real b hb w
  have a5 := Rt.text b hb w h
  have a6 := Rs.text b hb
  generalize Re.whole b = n at a1 a2
  generalize Re.is b = i at a1 a2
  generalize Re.kind b = k at a3 a4
  generalize (⟨(Re.text b).toArray⟩ : ByteArray) = T at a5 a6
  go_enter Tryd.func3, Tryd.ntmps3
  go_wp2_with fail
  refine a1.mono ?_
  rintro e w1 ⟨rfl, rfl⟩
  go_wp2_with fail
  refine a2.mono ?_
  rintro e w1 ⟨rfl, rfl⟩
  go_wp2_with fail
  refine a3.mono ?_
  rintro e w1 ⟨rfl, rfl⟩
  go_wp2_with fail
  refine a4.mono ?_
  rintro e w1 ⟨rfl, rfl⟩
  go_wp2_with fail
  refine a5.mono ?_
  rintro e w2 ⟨rfl, b2⟩
  have h2 := h.on b2
  go_wp2_with fail
  refine (a6 _).mono ?_
  rintro e w3 ⟨rfl, b3⟩
  have h3 := h2.on b3
  have b3' := Rt.step b2 b3
  clear b2 b3 h2
  go_wp2_with fail
  refine (Aw.awake _ h3).mono ?_
  rintro e w4 ⟨rfl, b4⟩
  have b4' := Rt.step b3' b4
  go_wp2_with fail
  go_ret
  exact ⟨rfl, b4'⟩
end Go.Proofs.YtaomgpldbcfgnaaDoor
