/-
  THE WALK of stolelaw12.Filters: it returns true.
-/
import Derived.Test.YtbhmepedegbgjaaFAw
import Derived.Test.YtbhmepedegbgjaaFRef
namespace Go.Proofs.Ytbhmepedegbgjaa
open Go.RowKit
set_option maxRecDepth 100000 in
set_option maxHeartbeats 4000000 in
theorem Law.filters (s t : ByteArray) (w : World) (hs : s.size ≤ 140737488355328) (ht : t.size ≤ 140737488355328) : Calls Try.prog 3 #[.string s, .string t] w fun e w' => e = .returned (.bool true) ∧ Below w.heap.size w w' := by
  have hz : (s ++ t).size = s.size + t.size := ByteArray.size_append
  have c1 := fun u => Cp.filter s u (by omega)
  have c2 := fun u => Cp.filter (s ++ t) u (by omega)
  have d1 := fun u => Cr.filter s u (by omega)
  have d2 := fun u => Cr.filter (s ++ t) u (by omega)
  have aw := fun u => Fa.awake u
  have hst := Cf.all_append s t
  cases ha : Cf.all s with
  | true =>
    have e1 := Cf.filt_ok ha
    rw [e1] at c1 d1
    have c3 := c1
    cases hb : Cf.all t with
    | true =>
      rw [ha, hb] at hst
      rw [Cf.filt_ok hst] at c2 d2
      clear ha hb hst e1
      go_enter Try.func3, Try.ntmps3
      go_wp2_with (first | (go_at_call 5; refine (c1 _).mono ?_; rintro e w1 ⟨rfl, b1⟩; have B1 := Lib.hid b1; clear b1 c1) | (go_at_call 5; refine (c2 _).mono ?_; rintro e w2 ⟨rfl, b2⟩; have B2 := Lib.hid (Wk.below_step B1.out b2); clear b2 c2) | (go_at_call 6; refine (d1 _).mono ?_; rintro e w' ⟨rfl, hw⟩; have hw := hw.symm; subst hw; clear d1) | (go_at_call 6; refine (d2 _).mono ?_; rintro e w' ⟨rfl, hw⟩; have hw := hw.symm; subst hw; clear d2) | (go_at_call 5; refine (c3 _).mono ?_; rintro e w3 ⟨rfl, b3⟩; have B3 := Lib.hid (Wk.below_step B2.out b3); clear b3 c3) | (go_at_call 7; refine (aw _).mono ?_; rintro e w4 ⟨rfl, b4⟩; have B4 := Lib.hid (Wk.below_step B3.out b4); clear b4))
      go_ret
      exact ⟨rfl, B4.out⟩
    | false =>
      rw [ha, hb] at hst
      have n1 := Cf.ne_Z hst
      rw [Cf.filt_bad hst] at c2 d2
      clear ha hb hst e1
      go_enter Try.func3, Try.ntmps3
      go_wp2_with (first | (go_at_call 5; refine (c1 _).mono ?_; rintro e w1 ⟨rfl, b1⟩; have B1 := Lib.hid b1; clear b1 c1) | (go_at_call 5; refine (c2 _).mono ?_; rintro e w2 ⟨rfl, b2⟩; have B2 := Lib.hid (Wk.below_step B1.out b2); clear b2 c2) | (go_at_call 6; refine (d1 _).mono ?_; rintro e w' ⟨rfl, hw⟩; have hw := hw.symm; subst hw; clear d1) | (go_at_call 6; refine (d2 _).mono ?_; rintro e w' ⟨rfl, hw⟩; have hw := hw.symm; subst hw; clear d2) | (go_at_call 5; refine (c3 _).mono ?_; rintro e w3 ⟨rfl, b3⟩; have B3 := Lib.hid (Wk.below_step B2.out b3); clear b3 c3) | (go_at_call 7; refine (aw _).mono ?_; rintro e w4 ⟨rfl, b4⟩; have B4 := Lib.hid (Wk.below_step B3.out b4); clear b4))
      go_ret
      exact ⟨rfl, B4.out⟩
  | false =>
    rw [ha] at hst
    have n1 := Cf.ne_Z hst
    have n2 := Cf.ne_Z ha
    have c3 := fun u => Cp.filter ⟨#[90, 103, 111, 116, 109, 112, 108, 90]⟩ u (by decide)
    rw [Cf.filt_Z] at c3
    rw [Cf.filt_bad hst] at c2 d2
    rw [Cf.filt_bad ha] at c1 d1
    clear ha hst
    go_enter Try.func3, Try.ntmps3
    go_wp2_with (first | (go_at_call 5; refine (c1 _).mono ?_; rintro e w1 ⟨rfl, b1⟩; have B1 := Lib.hid b1; clear b1 c1) | (go_at_call 5; refine (c2 _).mono ?_; rintro e w2 ⟨rfl, b2⟩; have B2 := Lib.hid (Wk.below_step B1.out b2); clear b2 c2) | (go_at_call 6; refine (d1 _).mono ?_; rintro e w' ⟨rfl, hw⟩; have hw := hw.symm; subst hw; clear d1) | (go_at_call 6; refine (d2 _).mono ?_; rintro e w' ⟨rfl, hw⟩; have hw := hw.symm; subst hw; clear d2) | (go_at_call 5; refine (c3 _).mono ?_; rintro e w3 ⟨rfl, b3⟩; have B3 := Lib.hid (Wk.below_step B2.out b3); clear b3 c3) | (go_at_call 7; refine (aw _).mono ?_; rintro e w4 ⟨rfl, b4⟩; have B4 := Lib.hid (Wk.below_step B3.out b4); clear b4))
    go_ret
    exact ⟨rfl, B4.out⟩
end Go.Proofs.Ytbhmepedegbgjaa
