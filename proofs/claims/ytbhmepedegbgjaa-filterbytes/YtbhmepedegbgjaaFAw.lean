/-
  stolelaw12.awake.
-/
import Derived.Test.YtbhmepedegbgjaaFProg
namespace Go.Proofs.Ytbhmepedegbgjaa
open Go.RowKit
theorem Fa.errno (x : Int) (w : World) : Calls Try.prog 8 #[.int .i64 x] w fun e w' => e = .returned (.int .i64 x) ∧ w' = w := by
  go_enter Try.func8, Try.ntmps8
  go_wp2
  go_ret
  exact ⟨rfl, rfl⟩
set_option maxRecDepth 100000 in
theorem Fa.awake (w : World) : Calls Try.prog 7 #[] w fun e w' => e = .returned (.bool true) ∧ Below w.heap.size w w' := by
  have c1 := fun u => Cp.filter ⟨#[35, 97, 49, 32, 50, 46, 53, 37, 44, 45]⟩ u (by decide)
  have c2 := fun u => Cp.filter ⟨#[97, 59, 98]⟩ u (by decide)
  have c3 := fun u => Cp.filter ⟨#[]⟩ u (by decide)
  rw [show Cf.filt ⟨#[35, 97, 49, 32, 50, 46, 53, 37, 44, 45]⟩ = ⟨#[35, 97, 49, 32, 50, 46, 53, 37, 44, 45]⟩ from Cf.filt_ok (by decide)] at c1
  rw [show Cf.filt ⟨#[97, 59, 98]⟩ = ⟨#[90, 103, 111, 116, 109, 112, 108, 90]⟩ from Cf.filt_bad (by decide)] at c2
  rw [show Cf.filt ⟨#[]⟩ = ⟨#[]⟩ from Cf.filt_ok (by decide)] at c3
  have er := fun u => Fa.errno 0 u
  go_enter Try.func7, Try.ntmps7
  go_wp2_with (first | (go_at_call 5; refine (c1 _).mono ?_; rintro e w1 ⟨rfl, b1⟩; have B1 := Lib.hid b1; clear b1 c1) | (go_at_call 5; refine (c2 _).mono ?_; rintro e w2 ⟨rfl, b2⟩; have B2 := Lib.hid (Wk.below_step B1.out b2); clear b2 c2) | (go_at_call 5; refine (c3 _).mono ?_; rintro e w3 ⟨rfl, b3⟩; have B3 := Lib.hid (Wk.below_step B2.out b3); clear b3 c3) | (go_at_call 8; refine (er _).mono ?_; rintro e w' ⟨rfl, hw⟩; have hw := hw.symm; subst hw))
  go_ret
  exact ⟨rfl, B3.out⟩
end Go.Proofs.Ytbhmepedegbgjaa
