/-
  THE WALK of stoleref1.Filter.
-/
import Derived.Test.YtbhmepedegbgjaaFPlain
import Derived.Test.YtbhmepedegbgjaaQRow
namespace Go.Proofs.Ytbhmepedegbgjaa
open Go.RowKit
set_option maxRecDepth 100000 in
set_option maxHeartbeats 4000000 in
theorem Cr.filter (s : ByteArray) (w : World) (hs : s.size ≤ 4611686018427387904) :
    Calls Try.prog 6 #[.string s] w fun e w' => e = .returned (.string (Cf.filt s)) ∧ w' = w := by
  have let1 := fun c u => Rt.letter c u
  have dig1 := fun c u => Rt.digit c u
  have in1 := fun c u => Qr.in c ⟨#[32, 35, 37, 46, 44, 45]⟩ u (by decide)
  obtain ⟨X, hX⟩ : ∃ X, Cf.filt s = X := ⟨_, rfl⟩
  rw [hX]
  have HX := Lib.hid hX
  clear hX
  go_enter Try.func6, Try.ntmps6
  go_wp2_with fail
  go_loopw [3] (fun ix wr => ∃ i : Nat, i ≤ s.size ∧ ix = .int .i64 (i : Int) ∧ Hid ((s.data.toList.take i).all Cf.ok = true) ∧ wr = w) (fun ix _ => s.size - (intOf ix).toNat)
  case atStart => exact ⟨0, Nat.zero_le _, rfl, rfl, rfl⟩
  case round =>
    obtain ⟨i, hi, rfl, HC, hw⟩ := hrel
    have hw := hw.symm
    subst hw
    by_cases hlt : i < s.size
    · have d1 : decide ((i : Int) < (s.size : Int)) = true := decide_eq_true (by omega)
      have let1 := let1 s[i]
      have dig1 := dig1 s[i]
      have in1 : ∀ u, Calls Try.prog 14 #[.int .u8 (s[i].toNat : Int), .string ⟨#[32, 35, 37, 46, 44, 45]⟩] u fun e w' => e = .returned (.bool ([32, 35, 37, 46, 44, 45].contains s[i])) ∧ w' = u := in1 s[i]
      have HST : Hid (Cf.ok s[i] = (Pl.letter s[i] || Pl.digit s[i] || [32, 35, 37, 46, 44, 45].contains s[i])) := rfl
      have HT : Hid (Cf.ok s[i] = true → (s.data.toList.take (i + 1)).all Cf.ok = true) := fun q => Cf.take hlt HC.out q
      have HF : Hid (Cf.ok s[i] = false → Cf.filt s = ⟨#[90, 103, 111, 116, 109, 112, 108, 90]⟩) := fun q => Cf.filt_bad (Cf.bad hlt q)
      generalize Pl.letter s[i] = bl at *
      generalize Pl.digit s[i] = bd at *
      generalize [32, 35, 37, 46, 44, 45].contains s[i] = bi at *
      have hc : bl = true ∨ (bl = false ∧ bd = true) ∨ (bl = false ∧ bd = false ∧ bi = true) ∨ (bl = false ∧ bd = false ∧ bi = false) := by cases bl <;> cases bd <;> cases bi <;> simp
      rcases hc with rfl | ⟨rfl, rfl⟩ | ⟨rfl, rfl, rfl⟩ | ⟨rfl, rfl, rfl⟩
      case inr.inr.inr =>
        have hX : ⟨#[90, 103, 111, 116, 109, 112, 108, 90]⟩ = X := (HF.out HST.out).symm.trans HX.out
        subst hX
        clear HF HT HST HC HX
        go_wp2_with (first | (go_at_call 12; refine (let1 _).mono ?_; rintro e w' ⟨rfl, hw⟩; have hw := hw.symm; subst hw) | (go_at_call 13; refine (dig1 _).mono ?_; rintro e w' ⟨rfl, hw⟩; have hw := hw.symm; subst hw) | (go_at_call 14; refine (in1 _).mono ?_; rintro e w' ⟨rfl, hw⟩; have hw := hw.symm; subst hw))
        go_ret
        exact ⟨rfl, rfl⟩
      all_goals
        have HT2 : Hid ((s.data.toList.take (i + 1)).all Cf.ok = true) := HT.out (HST.out.trans (by first | rfl | simp))
        clear HF HT HST HC
        go_wp2_with (first | (go_at_call 12; refine (let1 _).mono ?_; rintro e w' ⟨rfl, hw⟩; have hw := hw.symm; subst hw) | (go_at_call 13; refine (dig1 _).mono ?_; rintro e w' ⟨rfl, hw⟩; have hw := hw.symm; subst hw) | (go_at_call 14; refine (in1 _).mono ?_; rintro e w' ⟨rfl, hw⟩; have hw := hw.symm; subst hw))
        go_roundw
        case rel => exact ⟨i + 1, by omega, by go_num, HT2, by first | rfl | trivial⟩
        case measure => simp [intOf]; omega
    · have e : i = s.size := by omega
      subst e
      have d1 : decide ((s.size : Int) < (s.size : Int)) = false := decide_eq_false (by omega)
      have hX : s = X := (Cf.filt_ok (Cf.end HC.out)).symm.trans HX.out
      subst hX
      clear HC HX
      go_wp2
      go_ret
      exact ⟨rfl, rfl⟩
end Go.Proofs.Ytbhmepedegbgjaa
