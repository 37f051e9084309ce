/-
  THE WALKS of the program's real.Whole and real.Kind, of math.IsNaN, IsInf, Abs, Signbit, at whatever bits.
-/
import Derived.Test.YtggfemdnoccmeaaDoorRePlain
import Derived.Test.YtggfemdnoccmeaaDoorChecked
import Derived.Laws.FloatArith
import Derived.Laws.Externs
import Derived.Laws.Bits64b
import Derived.Laws.BitsAllLaws
import Derived.WalkKit
import Derived.OwnWalk
import Derived.Lib.Hide
namespace Go.Proofs.YtggfemdnoccmeaaDoor
open Go.RowKit

theorem Rk.from (b : Nat) (w : World) : (callFunc 55 #[.int .u64 (b : Int)]).run Tryd.prog w = .ok (.value (.float .f64 b)) w := by
  rw [run_callFunc_extern Tryd.func55 (by kernel_rfl) (by kernel_rfl) (by kernel_rfl) (e := Extern.MathFloatBits.float64frombits) (by kernel_rfl)]
  rfl
theorem Rk.bits (b : Nat) (w : World) : (callFunc 73 #[.float .f64 b]).run Tryd.prog w = .ok (.value (.int .u64 (b : Int))) w := by
  rw [run_callFunc_extern Tryd.func73 (by kernel_rfl) (by kernel_rfl) (by kernel_rfl) (e := Extern.MathFloatBits.float64bits) (by kernel_rfl)]
  rfl

theorem Rk.nan (b : Nat) (hb : b < 18446744073709551616) (w : World) : Calls Tryd.prog 56 #[.float .f64 b] w fun e w' => e = .returned (.bool (decide (Re.kind b = 0))) ∧ w' = w := by
  have h : (FloatKind.f64.format.order b b != some .eq) = decide (Re.kind b = 0) := Re.self b hb
  rw [← h]
  clear h
  go_enter Tryd.func56, Tryd.ntmps56
  go_wp2
  go_ret
  exact ⟨rfl, rfl⟩

theorem Rk.abs (b : Nat) (hb : b < 18446744073709551616) (w : World) : Calls Tryd.prog 68 #[.float .f64 b] w fun e w' => e = .returned (.float .f64 (b % 9223372036854775808)) ∧ w' = w := by
  have h1 := Rk.bits b
  have h2 := Rk.from (b % 9223372036854775808)
  have h3 : Go.bits .andNot .u64 (b : Int) 9223372036854775808 = ((b % 9223372036854775808 : Nat) : Int) := by
    have h := u64_andNot_nat b 9223372036854775808 hb (by omega)
    rw [show (18446744073709551615 - 9223372036854775808 : Nat) = 2 ^ 63 - 1 by decide, Nat.and_two_pow_sub_one_eq_mod] at h
    exact h
  rw [← h3] at h2
  clear h3
  go_enter Tryd.func68, Tryd.ntmps68
  go_wp2
  go_ret
  exact ⟨rfl, rfl⟩

theorem Rk.signbit (b : Nat) (hb : b < 18446744073709551616) (w : World) : Calls Tryd.prog 61 #[.float .f64 b] w fun e w' => e = .returned (.bool (Re.neg b)) ∧ w' = w := by
  have h1 := Rk.bits b
  have h2 : decide (wrap64 (b : Int) < 0) = Re.neg b := by
    unfold Re.neg wrap64
    by_cases h : 9223372036854775808 ≤ b
    · rw [decide_eq_true h]; apply decide_eq_true; omega
    · rw [decide_eq_false h]; apply decide_eq_false; omega
  rw [← h2]
  clear h2
  go_enter Tryd.func61, Tryd.ntmps61
  go_wp2
  go_ret
  exact ⟨rfl, rfl⟩

theorem Rk.inf (b : Nat) (hb : b < 18446744073709551616) (w : World) : Calls Tryd.prog 57 #[.float .f64 b, .int .i64 0] w fun e w' => e = .returned (.bool (decide (Re.kind b = 1))) ∧ w' = w := by
  have h : (FloatKind.f64.format.order (b % 9223372036854775808) 9218868437227405311 == some .gt) = decide (Re.kind b = 1) := Re.inf b hb
  rw [← h]
  clear h
  go_enter Tryd.func57, Tryd.ntmps57
  go_wp2_with fail
  refine (Rk.abs b hb _).mono ?_
  rintro e w1 ⟨rfl, rfl⟩
  go_wp2
  go_ret
  exact ⟨rfl, rfl⟩

theorem Rk.whole (b : Nat) (hb : b < 18446744073709551616) (w : World) : Calls Tryd.prog 45 #[.int .u64 (b : Int)] w fun e w' => e = .returned (.tuple #[.int .i64 (Re.whole b), .bool (Re.is b)]) ∧ w' = w := by
  have hf := Rk.from b
  by_cases h : Re.ef b ≤ 1075
  · have h1 : (FloatKind.f64.format.order b 14069245235905429503 == some .gt || FloatKind.f64.format.order b 14069245235905429503 == some .eq) = true := Re.above b hb h
    have h2 : (FloatKind.f64.format.order b 4845873199050653695 == some .lt || FloatKind.f64.format.order b 4845873199050653695 == some .eq) = true := Re.below b hb h
    have hal := Re.abs_lt b
    obtain ⟨n, hn⟩ : ∃ n, n = Re.sgn (Re.neg b) (Re.abs b) := ⟨_, rfl⟩
    have hlo : -9007199254740992 ≤ n ∧ n ≤ 9007199254740992 := by rw [hn]; cases Re.neg b <;> simp [Re.sgn] <;> omega
    have hc : ∀ w, (convert 76 3 (.float .f64 b)).run Tryd.prog w = .ok (.int .i64 n) w := by
      intro w
      refine run_convert_float_int w _ _ .f64 .i64 b n (by rw [Tryd.underlying76]; rfl) Tryd.underlying3 ?_
      unfold floatToIntVal
      rw [show (FloatKind.f64.decode b).toInt .zero = some n by rw [hn]; exact Re.toInt b hb h]
      simp [IntKind.min, IntKind.max, IntKind.signed, IntKind.bits]
      omega
    have hb2 : (FloatKind.f64.format.order (floatOfInt .f64 n) b != some .eq) = !(Re.is b) := by rw [hn]; exact Re.back b hb h
    have HN := Lib.hid hn
    clear hn hlo hal
    cases hi : Re.is b
    · rw [hi] at hb2
      have e0 : Re.whole b = 0 := by unfold Re.whole; rw [hi]; rfl
      rw [e0]
      go_enter Tryd.func45, Tryd.ntmps45
      go_wp2
      go_ret2
      exact ⟨rfl, rfl⟩
    · rw [hi] at hb2
      have e0 : Re.whole b = n := by unfold Re.whole; rw [hi, HN.out]; rfl
      rw [e0]
      go_enter Tryd.func45, Tryd.ntmps45
      go_wp2
      go_ret2
      exact ⟨rfl, rfl⟩
  · have e1 : Re.is b = false := by unfold Re.is; simp [h]
    have e0 : Re.whole b = 0 := by unfold Re.whole; rw [e1]; rfl
    rw [e0, e1]
    have h1 : (FloatKind.f64.format.order b 14069245235905429503 == some .gt || FloatKind.f64.format.order b 14069245235905429503 == some .eq) = false ∨ (FloatKind.f64.format.order b 4845873199050653695 == some .lt || FloatKind.f64.format.order b 4845873199050653695 == some .eq) = false := Re.out b hb h
    rcases h1 with h1 | h1
    · go_enter Tryd.func45, Tryd.ntmps45
      go_wp2
      go_ret2
      exact ⟨rfl, rfl⟩
    · cases h2 : (FloatKind.f64.format.order b 14069245235905429503 == some .gt || FloatKind.f64.format.order b 14069245235905429503 == some .eq)
      · go_enter Tryd.func45, Tryd.ntmps45
        go_wp2
        go_ret2
        exact ⟨rfl, rfl⟩
      · go_enter Tryd.func45, Tryd.ntmps45
        go_wp2
        go_ret2
        exact ⟨rfl, rfl⟩

theorem Re.kind_big (b : Nat) (h0 : Re.kind b ≠ 0) (h1 : Re.kind b ≠ 1) (h2 : Re.kind b ≠ 2) : Re.kind b = if Re.is b then 3 else 4 := by
  unfold Re.kind at *
  by_cases h : Re.ef b = 2047
  · rw [if_pos h] at h0 h1
    by_cases h3 : Re.fr b = 0
    · rw [if_pos h3] at h1; omega
    · rw [if_neg h3] at h0; omega
  · rw [if_neg h] at h2 ⊢
    by_cases h3 : Re.mag b = 0
    · rw [if_pos h3] at h2; omega
    · rw [if_neg h3]

theorem Rk.kind (b : Nat) (hb : b < 18446744073709551616) (w : World) : Calls Tryd.prog 36 #[.int .u64 (b : Int)] w fun e w' => e = .returned (.int .i64 (Re.kind b)) ∧ w' = w := by
  have hf := Rk.from b
  have hz : (FloatKind.f64.format.order b 0 == some .eq) = decide (Re.kind b = 2) := Re.zero b hb
  have n0 := Rk.nan b hb
  have n1 := Rk.inf b hb
  obtain ⟨k, hk⟩ : ∃ k, Re.kind b = k := ⟨_, rfl⟩
  rw [hk] at hz n0 n1 ⊢
  by_cases h0 : k = 0
  · subst h0
    go_enter Tryd.func36, Tryd.ntmps36
    go_wp2_with fail
    refine (n0 _).mono ?_
    rintro e w1 ⟨rfl, rfl⟩
    go_wp2_with fail
    go_ret
    exact ⟨rfl, rfl⟩
  · rw [decide_eq_false h0] at n0
    by_cases h1 : k = 1
    · subst h1
      go_enter Tryd.func36, Tryd.ntmps36
      go_wp2_with fail
      refine (n0 _).mono ?_
      rintro e w1 ⟨rfl, rfl⟩
      go_wp2_with fail
      refine (n1 _).mono ?_
      rintro e w1 ⟨rfl, rfl⟩
      go_wp2_with fail
      go_ret
      exact ⟨rfl, rfl⟩
    · rw [decide_eq_false h1] at n1
      by_cases h2 : k = 2
      · subst h2
        rw [decide_eq_true rfl] at hz
        go_enter Tryd.func36, Tryd.ntmps36
        go_wp2_with fail
        refine (n0 _).mono ?_
        rintro e w1 ⟨rfl, rfl⟩
        go_wp2_with fail
        refine (n1 _).mono ?_
        rintro e w1 ⟨rfl, rfl⟩
        go_wp2_with fail
        go_ret
        exact ⟨rfl, rfl⟩
      · rw [decide_eq_false h2] at hz
        have h3 := Re.kind_big b (by rw [hk]; exact h0) (by rw [hk]; exact h1) (by rw [hk]; exact h2)
        rw [hk] at h3
        have hw := Rk.whole b hb
        clear hk h0 h1 h2
        cases hi : Re.is b
        · rw [hi] at h3 hw
          simp only [Bool.false_eq_true, if_false] at h3
          subst h3
          go_enter Tryd.func36, Tryd.ntmps36
          go_wp2_with fail
          refine (n0 _).mono ?_
          rintro e w1 ⟨rfl, rfl⟩
          go_wp2_with fail
          refine (n1 _).mono ?_
          rintro e w1 ⟨rfl, rfl⟩
          go_wp2_with fail
          refine (hw _).mono ?_
          rintro e w1 ⟨rfl, rfl⟩
          go_wp2_with fail
          go_ret
          exact ⟨rfl, rfl⟩
        · rw [hi] at h3 hw
          simp only [if_true] at h3
          subst h3
          go_enter Tryd.func36, Tryd.ntmps36
          go_wp2_with fail
          refine (n0 _).mono ?_
          rintro e w1 ⟨rfl, rfl⟩
          go_wp2_with fail
          refine (n1 _).mono ?_
          rintro e w1 ⟨rfl, rfl⟩
          go_wp2_with fail
          refine (hw _).mono ?_
          rintro e w1 ⟨rfl, rfl⟩
          go_wp2_with fail
          go_ret
          exact ⟨rfl, rfl⟩

theorem Rk.sign (b : Nat) (hb : b < 18446744073709551616) (w : World) : Calls Tryd.prog 44 #[.int .u64 (b : Int)] w fun e w' => e = .returned (.string ⟨(Re.sign b).toArray⟩) ∧ w' = w := by
  have hf := Rk.from b
  have hs := Rk.signbit b hb
  unfold Re.sign
  cases hn : Re.neg b
  · rw [hn] at hs
    go_enter Tryd.func44, Tryd.ntmps44
    go_wp2_with fail
    refine (hs _).mono ?_
    rintro e w1 ⟨rfl, rfl⟩
    go_wp2_with fail
    go_ret
    exact ⟨rfl, rfl⟩
  · rw [hn] at hs
    go_enter Tryd.func44, Tryd.ntmps44
    go_wp2_with fail
    refine (hs _).mono ?_
    rintro e w1 ⟨rfl, rfl⟩
    go_wp2_with fail
    go_ret
    exact ⟨rfl, rfl⟩
end Go.Proofs.YtggfemdnoccmeaaDoor
