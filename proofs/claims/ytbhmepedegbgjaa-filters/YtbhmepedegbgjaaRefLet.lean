/-
  THE WALKS of stoleref1.Letter and stoleref1.Digit.
-/
import Derived.Test.YtbhmepedegbgjaaSize
import Derived.Test.YtbhmepedegbgjaaRTok
namespace Go.Proofs.Ytbhmepedegbgjaa
open Go.RowKit

def Pl.letter (c : UInt8) : Bool := decide (97 ≤ (Pl.lowB c).toNat) && decide ((Pl.lowB c).toNat ≤ 122)
def Pl.digit (c : UInt8) : Bool := decide (48 ≤ c.toNat) && decide (c.toNat ≤ 57)
theorem Rt.ret_bool {a b : Bool} (h : a = b) : Ending.returned (.bool a) = .returned (.bool b) := by rw [h]

theorem Rt.letter (c : UInt8) (w : World) :
    Calls Try.prog 12 #[.int .u8 c.toNat] w fun e w' => e = .returned (.bool (Pl.letter c)) ∧ w' = w := by
  have cl := Sz.low c w
  have HL : Hid (Pl.letter c = (decide (97 ≤ (Pl.lowB c).toNat) && decide ((Pl.lowB c).toNat ≤ 122))) := rfl
  generalize (Pl.lowB c).toNat = m at *
  generalize Pl.letter c = b at *
  by_cases h1 : 97 ≤ m
  · by_cases h2 : m ≤ 122
    · have d1 : decide ((97 : Int) ≤ (m : Int)) = true := decide_eq_true (by omega)
      have d2 : decide ((m : Int) ≤ 122) = true := decide_eq_true (by omega)
      have hb : b = true := by rw [HL.out]; simp [h1, h2]
      subst hb
      clear HL
      go_enter Try.func12, Try.ntmps12
      go_wp2_with (go_at_call 16; refine cl.mono ?_; rintro e w1 ⟨rfl, rfl⟩)
      go_ret
      exact ⟨rfl, rfl⟩
    · have d1 : decide ((97 : Int) ≤ (m : Int)) = true := decide_eq_true (by omega)
      have d2 : decide ((m : Int) ≤ 122) = false := decide_eq_false (by omega)
      have hb : b = false := by rw [HL.out]; simp [h1, h2]
      subst hb
      clear HL
      go_enter Try.func12, Try.ntmps12
      go_wp2_with (go_at_call 16; refine cl.mono ?_; rintro e w1 ⟨rfl, rfl⟩)
      go_ret
      exact ⟨rfl, rfl⟩
  · have d1 : decide ((97 : Int) ≤ (m : Int)) = false := decide_eq_false (by omega)
    have hb : b = false := by rw [HL.out]; simp [h1]
    subst hb
    clear HL
    go_enter Try.func12, Try.ntmps12
    go_wp2_with (go_at_call 16; refine cl.mono ?_; rintro e w1 ⟨rfl, rfl⟩)
    go_ret
    exact ⟨rfl, rfl⟩
theorem Rt.digit (c : UInt8) (w : World) :
    Calls Try.prog 13 #[.int .u8 c.toNat] w fun e w' => e = .returned (.bool (Pl.digit c)) ∧ w' = w := by
  have HL : Hid (Pl.digit c = (decide (48 ≤ c.toNat) && decide (c.toNat ≤ 57))) := rfl
  generalize c.toNat = m at *
  generalize Pl.digit c = b at *
  by_cases h1 : 48 ≤ m
  · by_cases h2 : m ≤ 57
    · have hb : b = true := by rw [HL.out]; simp [h1, h2]
      subst hb
      clear HL
      go_enter Try.func13, Try.ntmps13
      go_wp2
      go_ret
      exact ⟨by simp; omega, rfl⟩
    · have hb : b = false := by rw [HL.out]; simp [h1, h2]
      subst hb
      clear HL
      go_enter Try.func13, Try.ntmps13
      go_wp2
      go_ret
      exact ⟨by simp; omega, rfl⟩
  · have hb : b = false := by rw [HL.out]; simp [h1]
    subst hb
    clear HL
    go_enter Try.func13, Try.ntmps13
    go_wp2
    go_ret
    exact ⟨by first | rfl | simp, rfl⟩
end Go.Proofs.Ytbhmepedegbgjaa
