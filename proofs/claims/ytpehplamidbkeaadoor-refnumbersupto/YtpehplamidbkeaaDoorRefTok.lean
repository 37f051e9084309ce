/-
  THE WALKS of stoleref1.Letter, Digit, hex: each returns what the plain function of the byte gives, and turns nothing.
-/
import Derived.Test.YtpehplamidbkeaaDoorRRune
namespace Go.Proofs.YtpehplamidbkeaaDoor
open Go.RowKit

def Pl.letter (c : UInt8) : Bool := decide (97 ≤ (Pl.lowB c).toNat) && decide ((Pl.lowB c).toNat ≤ 122)
def Pl.digit (c : UInt8) : Bool := decide (48 ≤ c.toNat) && decide (c.toNat ≤ 57)
theorem Pl.tokc_eq (c : UInt8) : Pl.tokc c = (Pl.letter c || Pl.digit c || decide (c = 35)) := rfl
theorem Rt.ret_bool {a b : Bool} (h : a = b) : Ending.returned (.bool a) = .returned (.bool b) := by rw [h]

theorem Rt.letter (c : UInt8) (w : World) :
    Calls Tryd.prog 24 #[.int .u8 c.toNat] w fun e w' => e = .returned (.bool (Pl.letter c)) ∧ w' = w := by
  have cl := Sz.low c w
  have HL : Hid (Pl.letter c = (decide (97 ≤ (Pl.lowB c).toNat) && decide ((Pl.lowB c).toNat ≤ 122))) := rfl
  generalize (Pl.lowB c).toNat = m at *
  generalize Pl.letter c = b at *
  by_cases h1 : 97 ≤ m
  · by_cases h2 : m ≤ 122
    · have d1 : decide ((97 : Int) ≤ (m : Int)) = true := decide_eq_true (by omega)
      have d2 : decide ((m : Int) ≤ 122) = true := decide_eq_true (by omega)
      have hb : b = true := by rw [HL.out]; simp [h1, h2]
      subst hb
      clear HL
      go_enter Tryd.func24, Tryd.ntmps24
      go_wp2_with (go_at_call 33; refine cl.mono ?_; rintro e w1 ⟨rfl, rfl⟩)
      go_ret
      exact ⟨rfl, rfl⟩
    · have d1 : decide ((97 : Int) ≤ (m : Int)) = true := decide_eq_true (by omega)
      have d2 : decide ((m : Int) ≤ 122) = false := decide_eq_false (by omega)
      have hb : b = false := by rw [HL.out]; simp [h1, h2]
      subst hb
      clear HL
      go_enter Tryd.func24, Tryd.ntmps24
      go_wp2_with (go_at_call 33; refine cl.mono ?_; rintro e w1 ⟨rfl, rfl⟩)
      go_ret
      exact ⟨rfl, rfl⟩
  · have d1 : decide ((97 : Int) ≤ (m : Int)) = false := decide_eq_false (by omega)
    have hb : b = false := by rw [HL.out]; simp [h1]
    subst hb
    clear HL
    go_enter Tryd.func24, Tryd.ntmps24
    go_wp2_with (go_at_call 33; refine cl.mono ?_; rintro e w1 ⟨rfl, rfl⟩)
    go_ret
    exact ⟨rfl, rfl⟩
theorem Rt.digit (c : UInt8) (w : World) :
    Calls Tryd.prog 25 #[.int .u8 c.toNat] w fun e w' => e = .returned (.bool (Pl.digit c)) ∧ w' = w := by
  have HL : Hid (Pl.digit c = (decide (48 ≤ c.toNat) && decide (c.toNat ≤ 57))) := rfl
  generalize c.toNat = m at *
  generalize Pl.digit c = b at *
  by_cases h1 : 48 ≤ m
  · by_cases h2 : m ≤ 57
    · have hb : b = true := by rw [HL.out]; simp [h1, h2]
      subst hb
      clear HL
      go_enter Tryd.func25, Tryd.ntmps25
      go_wp2
      go_ret
      exact ⟨by simp; omega, rfl⟩
    · have hb : b = false := by rw [HL.out]; simp [h1, h2]
      subst hb
      clear HL
      go_enter Tryd.func25, Tryd.ntmps25
      go_wp2
      go_ret
      exact ⟨by simp; omega, rfl⟩
  · have hb : b = false := by rw [HL.out]; simp [h1]
    subst hb
    clear HL
    go_enter Tryd.func25, Tryd.ntmps25
    go_wp2
    go_ret
    exact ⟨by first | rfl | simp, rfl⟩

/-- a digit of sixteen; -1: none -/
def Pl.hexI (c : UInt8) : Int := if Pl.dig c = 16 then -1 else Pl.dig c
theorem Pl.hexI_low (c : UInt8) : Pl.hexI c = if 48 ≤ (Pl.lowB c).toNat ∧ (Pl.lowB c).toNat ≤ 57 then ((Pl.lowB c).toNat : Int) - 48 else if 97 ≤ (Pl.lowB c).toNat ∧ (Pl.lowB c).toNat ≤ 102 then ((Pl.lowB c).toNat : Int) - 87 else -1 := by
  rw [Pl.hexI, Pl.lowB_toNat]
  unfold Pl.dig
  repeat' split
  all_goals omega

set_option maxHeartbeats 1000000 in
theorem Rt.hex (c : UInt8) (w : World) :
    Calls Tryd.prog 42 #[.int .u8 c.toNat] w fun e w' => e = .returned (.int .i64 (Pl.hexI c)) ∧ w' = w := by
  have cl := Sz.low c w
  have cd := Rt.digit (Pl.lowB c) w
  have hv := Pl.hexI_low c
  have hlt := (Pl.lowB c).toNat_lt
  have HD : Hid (Pl.digit (Pl.lowB c) = (decide (48 ≤ (Pl.lowB c).toNat) && decide ((Pl.lowB c).toNat ≤ 57))) := rfl
  generalize Pl.digit (Pl.lowB c) = b at *
  generalize (Pl.lowB c).toNat = m at *
  generalize Pl.hexI c = v at *
  by_cases h1 : 48 ≤ m ∧ m ≤ 57
  · have hb : b = true := by rw [HD.out]; simp [h1]
    subst hb
    rw [if_pos h1] at hv
    obtain ⟨h1a, h1b⟩ := h1
    have HV : Hid (v = (m : Int) - 48) := hv
    clear HD hv
    go_enter Tryd.func42, Tryd.ntmps42
    go_wp2_with (first | (go_at_call 33; refine cl.mono ?_; rintro e w1 ⟨rfl, rfl⟩) | (go_at_call 25; refine cd.mono ?_; rintro e w1 ⟨rfl, rfl⟩))
    go_ret
    refine ⟨?_, rfl⟩
    rw [HV.out]
    simp
    try omega
  · have hb : b = false := by
      rw [HD.out, Bool.and_eq_false_iff]
      simp
      omega
    subst hb
    rw [if_neg h1] at hv
    by_cases h2 : 97 ≤ m ∧ m ≤ 102
    · rw [if_pos h2] at hv
      obtain ⟨h2a, h2b⟩ := h2
      have HV : Hid (v = (m : Int) - 87) := hv
      clear HD hv h1
      go_enter Tryd.func42, Tryd.ntmps42
      go_wp2_with (first | (go_at_call 33; refine cl.mono ?_; rintro e w1 ⟨rfl, rfl⟩) | (go_at_call 25; refine cd.mono ?_; rintro e w1 ⟨rfl, rfl⟩))
      go_ret
      refine ⟨?_, rfl⟩
      rw [HV.out]
      simp
      try omega
    · rw [if_neg h2] at hv
      subst hv
      by_cases h3 : 97 ≤ m
      · have h4 : ¬ m ≤ 102 := fun h => h2 ⟨h3, h⟩
        clear HD h1 h2
        go_enter Tryd.func42, Tryd.ntmps42
        go_wp2_with (first | (go_at_call 33; refine cl.mono ?_; rintro e w1 ⟨rfl, rfl⟩) | (go_at_call 25; refine cd.mono ?_; rintro e w1 ⟨rfl, rfl⟩))
        go_ret
        exact ⟨rfl, rfl⟩
      · clear HD h1 h2
        go_enter Tryd.func42, Tryd.ntmps42
        go_wp2_with (first | (go_at_call 33; refine cl.mono ?_; rintro e w1 ⟨rfl, rfl⟩) | (go_at_call 25; refine cd.mono ?_; rintro e w1 ⟨rfl, rfl⟩))
        go_ret
        exact ⟨rfl, rfl⟩
end Go.Proofs.YtpehplamidbkeaaDoor
