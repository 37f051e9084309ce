/-
  THE WALKS of the program's real.Whole and real.Kind, of math.IsNaN, IsInf, Abs, Signbit, at whatever bits.
-/
import Derived.Test.YtboalkfagfgnpaaGreatDoorBSigntoRePlain
import Derived.Test.YtboalkfagfgnpaaGreatDoorChecked
import Derived.Laws.FloatArith
import Derived.Laws.Externs
import Derived.Laws.Bits64b
import Derived.Laws.BitsAllLaws
import Derived.WalkKit
import Derived.OwnWalk
import Derived.Lib.Hide
import Derived.Shelf.Strconv.Itoa3
import Derived.Test.YtboalkfagfgnpaaGreatDoorProg
import Derived.Lib.AppendIntMem
import Derived.BigCall
import Derived.BigGuard
import Derived.Test.YtboalkfagfgnpaaGreatDoorCards
import Derived.Test.YtboalkfagfgnpaaGreatDoorTie
import Derived.Test.YtboalkfagfgnpaaGreatDoorBShelf
import Derived.ProofKit
import Derived.OpenShut
import Derived.ShutString
import Derived.SizedLaws
import Derived.Deep.DeepHandedRow
import Derived.Lib.LaidU8
import Derived.PinnedBridge
import Derived.Lib.TrailingZeros
namespace Go.Proofs.YtboalkfagfgnpaaGreatDoor
open Go.RowKit

theorem Rk.from (b : Nat) (w : World) : (callFunc 83 #[.int .u64 (b : Int)]).run Tryz.prog w = .ok (.value (.float .f64 b)) w := by
  rw [run_callFunc_extern Tryz.func83 (by kernel_rfl) (by kernel_rfl) (by kernel_rfl) (e := Extern.MathFloatBits.float64frombits) (by kernel_rfl)]
  rfl
theorem Rk.bits (b : Nat) (w : World) : (callFunc 127 #[.float .f64 b]).run Tryz.prog w = .ok (.value (.int .u64 (b : Int))) w := by
  rw [run_callFunc_extern Tryz.func127 (by kernel_rfl) (by kernel_rfl) (by kernel_rfl) (e := Extern.MathFloatBits.float64bits) (by kernel_rfl)]
  rfl

theorem Rk.nan (b : Nat) (hb : b < 18446744073709551616) (w : World) : Calls Tryz.prog 84 #[.float .f64 b] w fun e w' => e = .returned (.bool (decide (Re.kind b = 0))) ∧ w' = w := by
  have h : (FloatKind.f64.format.order b b != some .eq) = decide (Re.kind b = 0) := Re.self b hb
  rw [← h]
  clear h
  go_enter Tryz.func84, Tryz.ntmps84
  go_wp2
  go_ret
  exact ⟨rfl, rfl⟩

theorem Rk.abs (b : Nat) (hb : b < 18446744073709551616) (w : World) : Calls Tryz.prog 112 #[.float .f64 b] w fun e w' => e = .returned (.float .f64 (b % 9223372036854775808)) ∧ w' = w := by
  have h1 := Rk.bits b
  have h2 := Rk.from (b % 9223372036854775808)
  have h3 : Go.bits .andNot .u64 (b : Int) 9223372036854775808 = ((b % 9223372036854775808 : Nat) : Int) := by
    have h := u64_andNot_nat b 9223372036854775808 hb (by omega)
    rw [show (18446744073709551615 - 9223372036854775808 : Nat) = 2 ^ 63 - 1 by decide, Nat.and_two_pow_sub_one_eq_mod] at h
    exact h
  rw [← h3] at h2
  clear h3
  go_enter Tryz.func112, Tryz.ntmps112
  go_wp2
  go_ret
  exact ⟨rfl, rfl⟩

theorem Rk.signbit (b : Nat) (hb : b < 18446744073709551616) (w : World) : Calls Tryz.prog 113 #[.float .f64 b] w fun e w' => e = .returned (.bool (Re.neg b)) ∧ w' = w := by
  have h1 := Rk.bits b
  have h2 : decide (wrap64 (b : Int) < 0) = Re.neg b := by
    unfold Re.neg wrap64
    by_cases h : 9223372036854775808 ≤ b
    · rw [decide_eq_true h]; apply decide_eq_true; omega
    · rw [decide_eq_false h]; apply decide_eq_false; omega
  rw [← h2]
  clear h2
  go_enter Tryz.func113, Tryz.ntmps113
  go_wp2
  go_ret
  exact ⟨rfl, rfl⟩

theorem Rk.inf (b : Nat) (hb : b < 18446744073709551616) (w : World) : Calls Tryz.prog 85 #[.float .f64 b, .int .i64 0] w fun e w' => e = .returned (.bool (decide (Re.kind b = 1))) ∧ w' = w := by
  have h : (FloatKind.f64.format.order (b % 9223372036854775808) 9218868437227405311 == some .gt) = decide (Re.kind b = 1) := Re.inf b hb
  rw [← h]
  clear h
  go_enter Tryz.func85, Tryz.ntmps85
  go_wp2_with fail
  refine (Rk.abs b hb _).mono ?_
  rintro e w1 ⟨rfl, rfl⟩
  go_wp2
  go_ret
  exact ⟨rfl, rfl⟩

theorem Rk.whole (b : Nat) (hb : b < 18446744073709551616) (w : World) : Calls Tryz.prog 86 #[.int .u64 (b : Int)] w fun e w' => e = .returned (.tuple #[.int .i64 (Re.whole b), .bool (Re.is b)]) ∧ w' = w := by
  have hf := Rk.from b
  by_cases h : Re.ef b ≤ 1075
  · have h1 : (FloatKind.f64.format.order b 14069245235905429503 == some .gt || FloatKind.f64.format.order b 14069245235905429503 == some .eq) = true := Re.above b hb h
    have h2 : (FloatKind.f64.format.order b 4845873199050653695 == some .lt || FloatKind.f64.format.order b 4845873199050653695 == some .eq) = true := Re.below b hb h
    have hal := Re.abs_lt b
    obtain ⟨n, hn⟩ : ∃ n, n = Re.sgn (Re.neg b) (Re.abs b) := ⟨_, rfl⟩
    have hlo : -9007199254740992 ≤ n ∧ n ≤ 9007199254740992 := by rw [hn]; cases Re.neg b <;> simp [Re.sgn] <;> omega
    have hc : ∀ w, (convert 102 3 (.float .f64 b)).run Tryz.prog w = .ok (.int .i64 n) w := by
      intro w
      refine run_convert_float_int w _ _ .f64 .i64 b n (by rw [Tryz.underlying102]; rfl) Tryz.underlying3 ?_
      unfold floatToIntVal
      rw [show (FloatKind.f64.decode b).toInt .zero = some n by rw [hn]; exact Re.toInt b hb h]
      simp [IntKind.min, IntKind.max, IntKind.signed, IntKind.bits]
      omega
    have hb2 : (FloatKind.f64.format.order (floatOfInt .f64 n) b != some .eq) = !(Re.is b) := by rw [hn]; exact Re.back b hb h
    have HN := Lib.hid hn
    clear hn hlo hal
    cases hi : Re.is b
    · rw [hi] at hb2
      have e0 : Re.whole b = 0 := by unfold Re.whole; rw [hi]; rfl
      rw [e0]
      go_enter Tryz.func86, Tryz.ntmps86
      go_wp2
      go_ret2
      exact ⟨rfl, rfl⟩
    · rw [hi] at hb2
      have e0 : Re.whole b = n := by unfold Re.whole; rw [hi, HN.out]; rfl
      rw [e0]
      go_enter Tryz.func86, Tryz.ntmps86
      go_wp2
      go_ret2
      exact ⟨rfl, rfl⟩
  · have e1 : Re.is b = false := by unfold Re.is; simp [h]
    have e0 : Re.whole b = 0 := by unfold Re.whole; rw [e1]; rfl
    rw [e0, e1]
    have h1 : (FloatKind.f64.format.order b 14069245235905429503 == some .gt || FloatKind.f64.format.order b 14069245235905429503 == some .eq) = false ∨ (FloatKind.f64.format.order b 4845873199050653695 == some .lt || FloatKind.f64.format.order b 4845873199050653695 == some .eq) = false := Re.out b hb h
    rcases h1 with h1 | h1
    · go_enter Tryz.func86, Tryz.ntmps86
      go_wp2
      go_ret2
      exact ⟨rfl, rfl⟩
    · cases h2 : (FloatKind.f64.format.order b 14069245235905429503 == some .gt || FloatKind.f64.format.order b 14069245235905429503 == some .eq)
      · go_enter Tryz.func86, Tryz.ntmps86
        go_wp2
        go_ret2
        exact ⟨rfl, rfl⟩
      · go_enter Tryz.func86, Tryz.ntmps86
        go_wp2
        go_ret2
        exact ⟨rfl, rfl⟩

theorem Re.kind_big (b : Nat) (h0 : Re.kind b ≠ 0) (h1 : Re.kind b ≠ 1) (h2 : Re.kind b ≠ 2) : Re.kind b = if Re.is b then 3 else 4 := by
  unfold Re.kind at *
  by_cases h : Re.ef b = 2047
  · rw [if_pos h] at h0 h1
    by_cases h3 : Re.fr b = 0
    · rw [if_pos h3] at h1; omega
    · rw [if_neg h3] at h0; omega
  · rw [if_neg h] at h2 ⊢
    by_cases h3 : Re.mag b = 0
    · rw [if_pos h3] at h2; omega
    · rw [if_neg h3]

theorem Rk.kind (b : Nat) (hb : b < 18446744073709551616) (w : World) : Calls Tryz.prog 63 #[.int .u64 (b : Int)] w fun e w' => e = .returned (.int .i64 (Re.kind b)) ∧ w' = w := by
  have hf := Rk.from b
  have hz : (FloatKind.f64.format.order b 0 == some .eq) = decide (Re.kind b = 2) := Re.zero b hb
  have n0 := Rk.nan b hb
  have n1 := Rk.inf b hb
  obtain ⟨k, hk⟩ : ∃ k, Re.kind b = k := ⟨_, rfl⟩
  rw [hk] at hz n0 n1 ⊢
  by_cases h0 : k = 0
  · subst h0
    go_enter Tryz.func63, Tryz.ntmps63
    go_wp2_with fail
    refine (n0 _).mono ?_
    rintro e w1 ⟨rfl, rfl⟩
    go_wp2_with fail
    go_ret
    exact ⟨rfl, rfl⟩
  · rw [decide_eq_false h0] at n0
    by_cases h1 : k = 1
    · subst h1
      go_enter Tryz.func63, Tryz.ntmps63
      go_wp2_with fail
      refine (n0 _).mono ?_
      rintro e w1 ⟨rfl, rfl⟩
      go_wp2_with fail
      refine (n1 _).mono ?_
      rintro e w1 ⟨rfl, rfl⟩
      go_wp2_with fail
      go_ret
      exact ⟨rfl, rfl⟩
    · rw [decide_eq_false h1] at n1
      by_cases h2 : k = 2
      · subst h2
        rw [decide_eq_true rfl] at hz
        go_enter Tryz.func63, Tryz.ntmps63
        go_wp2_with fail
        refine (n0 _).mono ?_
        rintro e w1 ⟨rfl, rfl⟩
        go_wp2_with fail
        refine (n1 _).mono ?_
        rintro e w1 ⟨rfl, rfl⟩
        go_wp2_with fail
        go_ret
        exact ⟨rfl, rfl⟩
      · rw [decide_eq_false h2] at hz
        have h3 := Re.kind_big b (by rw [hk]; exact h0) (by rw [hk]; exact h1) (by rw [hk]; exact h2)
        rw [hk] at h3
        have hw := Rk.whole b hb
        clear hk h0 h1 h2
        cases hi : Re.is b
        · rw [hi] at h3 hw
          simp only [Bool.false_eq_true, if_false] at h3
          subst h3
          go_enter Tryz.func63, Tryz.ntmps63
          go_wp2_with fail
          refine (n0 _).mono ?_
          rintro e w1 ⟨rfl, rfl⟩
          go_wp2_with fail
          refine (n1 _).mono ?_
          rintro e w1 ⟨rfl, rfl⟩
          go_wp2_with fail
          refine (hw _).mono ?_
          rintro e w1 ⟨rfl, rfl⟩
          go_wp2_with fail
          go_ret
          exact ⟨rfl, rfl⟩
        · rw [hi] at h3 hw
          simp only [if_true] at h3
          subst h3
          go_enter Tryz.func63, Tryz.ntmps63
          go_wp2_with fail
          refine (n0 _).mono ?_
          rintro e w1 ⟨rfl, rfl⟩
          go_wp2_with fail
          refine (n1 _).mono ?_
          rintro e w1 ⟨rfl, rfl⟩
          go_wp2_with fail
          refine (hw _).mono ?_
          rintro e w1 ⟨rfl, rfl⟩
          go_wp2_with fail
          go_ret
          exact ⟨rfl, rfl⟩

theorem Rk.sign (b : Nat) (hb : b < 18446744073709551616) (w : World) : Calls Tryz.prog 87 #[.int .u64 (b : Int)] w fun e w' => e = .returned (.string ⟨(Re.sign b).toArray⟩) ∧ w' = w := by
  have hf := Rk.from b
  have hs := Rk.signbit b hb
  unfold Re.sign
  cases hn : Re.neg b
  · rw [hn] at hs
    go_enter Tryz.func87, Tryz.ntmps87
    go_wp2_with fail
    refine (hs _).mono ?_
    rintro e w1 ⟨rfl, rfl⟩
    go_wp2_with fail
    go_ret
    exact ⟨rfl, rfl⟩
  · rw [hn] at hs
    go_enter Tryz.func87, Tryz.ntmps87
    go_wp2_with fail
    refine (hs _).mono ?_
    rintro e w1 ⟨rfl, rfl⟩
    go_wp2_with fail
    go_ret
    exact ⟨rfl, rfl⟩
end Go.Proofs.YtboalkfagfgnpaaGreatDoor
/-
  The library's contracts that the walks lean on, laid at this program's own numbers: strconv.Itoa, and what internal/strconv.FormatUint calls.
-/
namespace Go.Proofs.YtboalkfagfgnpaaGreatDoor
open Go.Shelf
def Sh.laysM171_ren : Go.Shelf.Ren := ⟨fun | 171 => 37 | 243 => 62 | 246 => 82 | 283 => 108 | 284 => 109 | 285 => 110 | 286 => 111 | 129 => 123 | 317 => 122 | 318 => 124 | 319 => 125 | 320 => 126 | 337 => 131 | 338 => 114 | n => n, fun | 3 => 3 | 9 => 9 | 2 => 2 | 4 => 4 | 171 => 119 | 0 => 0 | 53 => 22 | 37 => 44 | 5 => 5 | 173 => 121 | 212 => 132 | 51 => 133 | 20 => 20 | 213 => 134 | 46 => 87 | 232 => 141 | 233 => 138 | n => n, fun | 17 => 3 | 18 => 6 | 19 => 4 | n => n⟩
theorem Sh.laysM171 : Go.Proofs.LaysM.n171 Tryz.prog Sh.laysM171_ren := {
  mixed := by kernel_rfl
  f129 := Tryz.func123.trans (congrArg some (by kernel_rfl))
  f171 := Tryz.func37.trans (congrArg some (by kernel_rfl))
  f243 := Tryz.func62.trans (congrArg some (by kernel_rfl))
  f246 := Tryz.func82.trans (congrArg some (by kernel_rfl))
  f283 := Tryz.func108.trans (congrArg some (by kernel_rfl))
  f284 := Tryz.func109.trans (congrArg some (by kernel_rfl))
  f285 := Tryz.func110.trans (congrArg some (by kernel_rfl))
  f286 := Tryz.func111.trans (congrArg some (by kernel_rfl))
  f317 := Tryz.func122.trans (congrArg some (by kernel_rfl))
  f318 := Tryz.func124.trans (congrArg some (by kernel_rfl))
  f319 := Tryz.func125.trans (congrArg some (by kernel_rfl))
  f320 := Tryz.func126.trans (congrArg some (by kernel_rfl))
  f337 := Tryz.func131.trans (congrArg some (by kernel_rfl))
  f338 := Tryz.func114.trans (congrArg some (by kernel_rfl))
  t0 := Tryz.underlying0
  a0 := Tryz.isAgg0
  z0 := Tryz.sizeOf0
  v0 := Tryz.zeroValue0
  t2 := Tryz.underlying2
  a2 := Tryz.isAgg2
  z2 := Tryz.sizeOf2
  v2 := Tryz.zeroValue2
  t3 := Tryz.underlying3
  a3 := Tryz.isAgg3
  z3 := Tryz.sizeOf3
  v3 := Tryz.zeroValue3
  t4 := Tryz.underlying4
  a4 := Tryz.isAgg4
  z4 := Tryz.sizeOf4
  v4 := Tryz.zeroValue4
  t5 := Tryz.underlying5
  a5 := Tryz.isAgg5
  z5 := Tryz.sizeOf5
  v5 := Tryz.zeroValue5
  t9 := Tryz.underlying9
  a9 := Tryz.isAgg9
  z9 := Tryz.sizeOf9
  v9 := Tryz.zeroValue9
  t20 := Tryz.underlying20
  a20 := Tryz.isAgg20
  z20 := Tryz.sizeOf20
  v20 := Tryz.zeroValue20
  t37 := Tryz.underlying44
  a37 := Tryz.isAgg44
  z37 := Tryz.sizeOf44
  v37 := Tryz.zeroValue44
  t46 := Tryz.underlying87
  a46 := Tryz.isAgg87
  z46 := Tryz.sizeOf87
  v46 := Tryz.zeroValue87
  t51 := Tryz.underlying133
  a51 := Tryz.isAgg133
  z51 := Tryz.sizeOf133
  v51 := Tryz.zeroValue133
  t53 := Tryz.underlying22
  a53 := Tryz.isAgg22
  z53 := Tryz.sizeOf22
  v53 := Tryz.zeroValue22
  t171 := Tryz.underlying119
  a171 := Tryz.isAgg119
  z171 := Tryz.sizeOf119
  v171 := Tryz.zeroValue119
  t173 := Tryz.underlying121
  a173 := Tryz.isAgg121
  z173 := Tryz.sizeOf121
  v173 := Tryz.zeroValue121
  t212 := Tryz.underlying132
  a212 := Tryz.isAgg132
  z212 := Tryz.sizeOf132
  v212 := Tryz.zeroValue132
  t213 := Tryz.underlying134
  a213 := Tryz.isAgg134
  z213 := Tryz.sizeOf134
  t232 := Tryz.underlying141
  a232 := Tryz.isAgg141
  z232 := Tryz.sizeOf141
  v232 := Tryz.zeroValue141
  t233 := Tryz.underlying138
  a233 := Tryz.isAgg138
  z233 := Tryz.sizeOf138
  v233 := Tryz.zeroValue138
  g17 := by kernel_rfl
  g18 := by kernel_rfl
  g19 := by kernel_rfl
  i0 := by kernel_rfl
  i2 := by kernel_rfl
  i3 := by kernel_rfl
  i4 := by kernel_rfl
  i5 := by kernel_rfl
  i9 := by kernel_rfl
  i20 := by kernel_rfl
  i37 := by kernel_rfl
  i46 := by kernel_rfl
  i51 := by kernel_rfl
  i53 := by kernel_rfl
  i171 := by kernel_rfl
  i173 := by kernel_rfl
  i212 := by kernel_rfl
  i232 := by kernel_rfl
  i233 := by kernel_rfl
  m17 := by kernel_rfl
  m18 := by kernel_rfl
  m19 := by kernel_rfl }
def Sh.lays283_ren : Go.Shelf.Ren := ⟨fun | 283 => 108 | n => n, fun | 3 => 3 | 9 => 9 | 4 => 4 | n => n, fun | n => n⟩
theorem Sh.lays283 : Go.Proofs.Lays.n283 Tryz.prog Sh.lays283_ren := {
  mixed := by kernel_rfl
  f283 := Tryz.func108.trans (congrArg some (by kernel_rfl))
  t3 := Tryz.underlying3
  a3 := Tryz.isAgg3
  z3 := Tryz.sizeOf3
  v3 := Tryz.zeroValue3
  t4 := Tryz.underlying4
  a4 := Tryz.isAgg4
  z4 := Tryz.sizeOf4
  v4 := Tryz.zeroValue4
  t9 := Tryz.underlying9
  a9 := Tryz.isAgg9
  z9 := Tryz.sizeOf9
  v9 := Tryz.zeroValue9 }
def Sh.laysM284_ren : Go.Shelf.Ren := ⟨fun | 284 => 109 | 129 => 123 | 317 => 122 | 318 => 124 | n => n, fun | 53 => 22 | 3 => 3 | 212 => 132 | 0 => 0 | 4 => 4 | 46 => 87 | 5 => 5 | 9 => 9 | n => n, fun | 17 => 3 | n => n⟩
theorem Sh.laysM284 : Go.Proofs.LaysM.n284 Tryz.prog Sh.laysM284_ren := {
  mixed := by kernel_rfl
  f129 := Tryz.func123.trans (congrArg some (by kernel_rfl))
  f284 := Tryz.func109.trans (congrArg some (by kernel_rfl))
  f317 := Tryz.func122.trans (congrArg some (by kernel_rfl))
  f318 := Tryz.func124.trans (congrArg some (by kernel_rfl))
  t0 := Tryz.underlying0
  a0 := Tryz.isAgg0
  z0 := Tryz.sizeOf0
  v0 := Tryz.zeroValue0
  t3 := Tryz.underlying3
  a3 := Tryz.isAgg3
  z3 := Tryz.sizeOf3
  v3 := Tryz.zeroValue3
  t4 := Tryz.underlying4
  a4 := Tryz.isAgg4
  z4 := Tryz.sizeOf4
  v4 := Tryz.zeroValue4
  t5 := Tryz.underlying5
  a5 := Tryz.isAgg5
  z5 := Tryz.sizeOf5
  v5 := Tryz.zeroValue5
  t9 := Tryz.underlying9
  a9 := Tryz.isAgg9
  z9 := Tryz.sizeOf9
  v9 := Tryz.zeroValue9
  t46 := Tryz.underlying87
  a46 := Tryz.isAgg87
  z46 := Tryz.sizeOf87
  v46 := Tryz.zeroValue87
  t53 := Tryz.underlying22
  a53 := Tryz.isAgg22
  z53 := Tryz.sizeOf22
  v53 := Tryz.zeroValue22
  t212 := Tryz.underlying132
  a212 := Tryz.isAgg132
  z212 := Tryz.sizeOf132
  v212 := Tryz.zeroValue132
  g17 := by kernel_rfl
  i0 := by kernel_rfl
  i3 := by kernel_rfl
  i4 := by kernel_rfl
  i5 := by kernel_rfl
  i9 := by kernel_rfl
  i46 := by kernel_rfl
  i53 := by kernel_rfl
  i212 := by kernel_rfl
  m17 := by kernel_rfl }
def Sh.lays285_ren : Go.Shelf.Ren := ⟨fun | 285 => 110 | n => n, fun | 37 => 44 | 53 => 22 | 3 => 3 | 4 => 4 | 51 => 133 | 9 => 9 | 5 => 5 | 0 => 0 | n => n, fun | n => n⟩
theorem Sh.lays285 : Go.Proofs.Lays.n285 Tryz.prog Sh.lays285_ren := {
  mixed := by kernel_rfl
  f285 := Tryz.func110.trans (congrArg some (by kernel_rfl))
  t0 := Tryz.underlying0
  a0 := Tryz.isAgg0
  z0 := Tryz.sizeOf0
  v0 := Tryz.zeroValue0
  t3 := Tryz.underlying3
  a3 := Tryz.isAgg3
  z3 := Tryz.sizeOf3
  v3 := Tryz.zeroValue3
  t4 := Tryz.underlying4
  a4 := Tryz.isAgg4
  z4 := Tryz.sizeOf4
  v4 := Tryz.zeroValue4
  t5 := Tryz.underlying5
  a5 := Tryz.isAgg5
  z5 := Tryz.sizeOf5
  v5 := Tryz.zeroValue5
  t9 := Tryz.underlying9
  a9 := Tryz.isAgg9
  z9 := Tryz.sizeOf9
  v9 := Tryz.zeroValue9
  t37 := Tryz.underlying44
  a37 := Tryz.isAgg44
  z37 := Tryz.sizeOf44
  v37 := Tryz.zeroValue44
  t51 := Tryz.underlying133
  a51 := Tryz.isAgg133
  z51 := Tryz.sizeOf133
  v51 := Tryz.zeroValue133
  t53 := Tryz.underlying22
  a53 := Tryz.isAgg22
  z53 := Tryz.sizeOf22
  v53 := Tryz.zeroValue22 }
end Go.Proofs.YtboalkfagfgnpaaGreatDoor
/-
  THE WALKS of strconv.Itoa and strconv.FormatUint (base 10), and of math/bits.TrailingZeros64, where the library's tables lie as its initialisers lay them.
-/
namespace Go.Proofs.YtboalkfagfgnpaaGreatDoor
open Go.RowKit Go.Sort Go.Lib

def Re.tzTab : List Int := Lib.deBruijn64tab.map fun z : Nat => (z : Int)
/-- the tables of the library, as they are laid -/
structure Re.Tabs (w : World) : Prop where
  pow : Lib.TabIs Tryz.prog w "internal/strconv.uint64pow10" .u64 Lib.pow10Tab
  tz : Lib.TabIs Tryz.prog w "math/bits.deBruijn64tab" .u8 Re.tzTab
theorem Re.Tabs.on {w w' : World} (h : Re.Tabs w) (hb : Below w.heap.size w w') : Re.Tabs w' :=
  ⟨Lib.tabBelow_of_tabIs h.pow w' hb, Lib.tabBelow_of_tabIs h.tz w' hb⟩

set_option maxHeartbeats 6400000 in
set_option maxRecDepth 100000 in
theorem Rf.inner (u : Nat) (hu64 : u < 18446744073709551616) (w : World) (htab : Lib.TabIs Tryz.prog w "internal/strconv.uint64pow10" .u64 Lib.pow10Tab) :
    Calls Tryz.prog 115 #[.int .u64 (u : Int), .int .i64 10] w fun e w' => e = .returned (.string ⟨(Lib.decDigits u).toArray⟩) ∧ Below w.heap.size w w' := by
  by_cases hi : u < 100
  · go_enter Tryz.func115, Tryz.ntmps115
    go_wp2_with fail
    refine (Any.internal_strconv_small Sh.lays283 u hi _).mono ?_
    rintro e w' ⟨rfl, rfl⟩
    go_wp2
    go_ret
    exact ⟨rfl, Below.refl _ _⟩
  · have hu1 : 1 ≤ u := by omega
    have hnd20 : Lib.nDigits u ≤ 20 := by have := Lib.numDigits_eq u hu1 hu64; split at this <;> omega
    have hal : (Tryz.prog).arrayLen 119 = 24 := by simp [Program.arrayLen, Tryz.underlying119]
    have hsl1 : ∀ W, (Instr.sliceAt 119 (.pointer (some ⟨w.heap.size, 0, none⟩)) none (some (.int .i64 (Lib.nDigits u : Int))) none).run Tryz.prog W = .ok (.slice (some ⟨w.heap.size, 0, none⟩) (Lib.nDigits u) 24) W := fun W => by
      rw [run_sliceAt_array_h W 119 ⟨w.heap.size, 0, none⟩ (by simp [Program.arrayLen, Program.elem, Tryz.underlying119]) .i64 (Lib.nDigits u : Int) (by omega) (by rw [hal]; omega)]
      go_simp
    have hH0 := Lib.holds_zero0 w 119 (Lib.nDigits u) (by omega)
    have hfmt := Any.internal_strconv_formatBase10 Sh.lays285 w.heap.size 0 24 u (Array.replicate (Lib.nDigits u) 0) (w.alloc (.cells Lib.zeros24 119)) hH0 (by rw [Array.size_replicate]; exact Lib.lt_pow_nDigits u) hu64 (by rw [Array.size_replicate]; omega)
    rw [Array.size_replicate] at hfmt
    have HH0 := Lib.hid hH0
    have iu : (100 : Int) ≤ (u : Int) := by omega
    clear hH0 hal
    go_enter Tryz.func115, Tryz.ntmps115
    go_wp2_with (go_at_call 109; refine (Any.internal_strconv_numDigits Sh.laysM284 u hu1 hu64 _ (Lib.tabIs_alloc htab _)).mono ?_; rintro e w' ⟨rfl, rfl⟩)
    refine hfmt.mono ?_
    rintro e w' ⟨rfl, k, v', dk, rfl, hF⟩
    have hcv : (convert 44 9 (.slice (some ⟨w.heap.size, 0, none⟩) (Lib.nDigits u) 24)).run Tryz.prog ((putRow (fun (b : UInt8) => Value.int .u8 (b.toNat : Int)) (w.alloc (.cells Lib.zeros24 119)) w.heap.size 0 dk).drewN k) = .ok (.string ⟨(Lib.decDigits u).toArray⟩) ((putRow (fun (b : UInt8) => Value.int .u8 (b.toNat : Int)) (w.alloc (.cells Lib.zeros24 119)) w.heap.size 0 dk).drewN k) := by
      have h := run_convert_bytes_back (P := Tryz.prog) ((putRow (fun (b : UInt8) => Value.int .u8 (b.toNat : Int)) (w.alloc (.cells Lib.zeros24 119)) w.heap.size 0 dk).drewN k) 44 9 5 ⟨w.heap.size, 0, none⟩ 24 (Lib.decDigits u) Tryz.underlying44 Tryz.underlying5 Tryz.underlying9 (fun j hj => by
        rw [Lib.row_is_numeral hF j hj, Lib.add_plain, World.cell?_drewN]
        exact cell?_putRow (fun (b : UInt8) => Value.int .u8 (b.toNat : Int)) _ w.heap.size 0 _ dk HH0.out (by rw [hF.size, Array.size_replicate]) j (by rw [hF.size]; rw [Lib.decDigits_length] at hj; exact hj))
      rw [Lib.decDigits_length] at h
      exact h
    obtain ⟨os, eo⟩ := Lib.fin_at w (.cells Lib.zeros24 119) dk k 0
    have hnx : Below w.heap.size w ((putRow (fun (b : UInt8) => Value.int .u8 (b.toNat : Int)) (w.alloc (.cells Lib.zeros24 119)) w.heap.size 0 dk).drewN k) := by rw [eo]; exact Lib.below_grow w.heap.size w (Nat.le_refl _) k os
    generalize (putRow (fun (b : UInt8) => Value.int .u8 (b.toNat : Int)) (w.alloc (.cells Lib.zeros24 119)) w.heap.size 0 dk).drewN k = W2 at hcv hnx ⊢
    clear eo HH0 hfmt
    go_wp2
    go_ret
    exact ⟨rfl, hnx⟩

theorem Rf.formatUint (u : Nat) (hu64 : u < 18446744073709551616) (w : World) (h : Re.Tabs w) :
    Calls Tryz.prog 89 #[.int .u64 (u : Int), .int .i64 10] w fun e w' => e = .returned (.string ⟨(Lib.decDigits u).toArray⟩) ∧ Below w.heap.size w w' := by
  go_enter Tryz.func89, Tryz.ntmps89
  go_wp2_with fail
  refine (Rf.inner u hu64 _ h.pow).mono ?_
  rintro e w' ⟨rfl, b⟩
  go_wp2
  go_ret
  exact ⟨rfl, b⟩

theorem Rf.itoa (n : Int) (h0 : -9223372036854775808 ≤ n) (h1 : n ≤ 9223372036854775807) (w : World) (h : Re.Tabs w) :
    Calls Tryz.prog 37 #[.int .i64 n] w fun e w' => e = .returned (.string ⟨(Lib.itoa n).toArray⟩) ∧ Below w.heap.size w w' := by
  refine (Any.strconv_Itoa Sh.laysM171 n h0 h1 w h.pow).mono ?_
  rintro e w' ⟨rfl, k, os, rfl⟩
  exact ⟨rfl, Lib.below_grow w.heap.size w (Nat.le_refl _) k os⟩

theorem Rf.tz_at (w : World) (h : Re.Tabs w) (j : Nat) (hj : j < 64) : w.cell? ⟨4, j, none⟩ = some (.int .u8 (Lib.deBruijn64tab.getD j 0 : Nat)) := by
  have := Lib.TabIs.cell h.tz (g := 4) (by kernel_rfl) j (show j < 64 from hj)
  rw [this]
  congr 2
  have ha : ∀ j, j < 64 → Re.tzTab.getD j 0 = ((Lib.deBruijn64tab.getD j 0 : Nat) : Int) := by decide +kernel
  exact ha j hj

theorem Rf.tz_key (x a : Nat) (hx : x < 18446744073709551616) (hx0 : x ≠ 0) (hlow : x &&& (18446744073709551616 - x) = a) :
    IntKind.u64.wrap (bits BinOp.and IntKind.u64 (x : Int) (IntKind.u64.wrap (-(x : Int))) * 285870213051353865) / 288230376151711744 = ((a * 285870213051353865 % 18446744073709551616 / 288230376151711744 : Nat) : Int) := by
  have e1 : IntKind.u64.wrap (-(x : Int)) = ((18446744073709551616 - x : Nat) : Int) := by rw [IntKind.wrap_u64]; omega
  rw [e1, bits_and_u64_nat x _ hx (by omega), hlow, IntKind.wrap_u64]
  omega

set_option maxHeartbeats 1000000 in
theorem Rf.tz_core (x k idx : Nat) (w : World) (hx0 : ((x : Int) == 0) = false)
    (key : IntKind.u64.wrap (bits BinOp.and IntKind.u64 (x : Int) (IntKind.u64.wrap (-(x : Int))) * 285870213051353865) / 288230376151711744 = (idx : Int))
    (hi : idx < 64) (hk : k < 64) (hcell : w.cell? ⟨4, idx, none⟩ = some (.int .u8 k)) :
    Calls Tryz.prog 114 #[.int .u64 (x : Int)] w fun e w' => e = .returned (.int .i64 k) ∧ w' = w := by
  go_enter Tryz.func114, Tryz.ntmps114
  go_wp2_with (simp only [key])
  go_ret
  exact ⟨rfl, rfl⟩

theorem Rf.tz (x : Nat) (hx : x < 18446744073709551616) (hx0 : x ≠ 0) (w : World) (h : Re.Tabs w) :
    Calls Tryz.prog 114 #[.int .u64 (x : Int)] w fun e w' => e = .returned (.int .i64 (Lib.ctz 64 x)) ∧ w' = w := by
  obtain ⟨hlow, hk⟩ := Lib.lowest_bit 64 x hx0 hx
  obtain ⟨hi, htab⟩ := Lib.deBruijn64_at _ hk
  have hcell := Rf.tz_at w h _ hi
  rw [htab] at hcell
  exact Rf.tz_core x _ _ w (by simp; omega) (Rf.tz_key x _ hx hx0 hlow) hi hk hcell
end Go.Proofs.YtboalkfagfgnpaaGreatDoor
/-
  The tables that json.Put and json.Get read.
-/
namespace Go.Proofs.YtboalkfagfgnpaaGreatDoor
open Go.RowKit
/-- the tables that the program reads -/
structure Jt (w : World) : Prop where
  utf : Lib.Utf8Tabs 1 2 w
  re : Re.Tabs w
theorem Jt.on {w w' : World} (h : Jt w) (hb : Below w.heap.size w w') : Jt w' := ⟨Utf8Tabs_below h.utf hb, h.re.on hb⟩
end Go.Proofs.YtboalkfagfgnpaaGreatDoor
/-
  WHAT ALL CARDS OF THIS SEAT SHARE: the tables of unicode/utf8, math/bits and internal/strconv out of the rows' lists, and a world for the witness in which they lie.
-/
namespace Go.Proofs.YtboalkfagfgnpaaGreatDoor
open Go.ChangeShapes Go.WideShapes Go.ChangeAt Go.RowKit

theorem Fr.own : ownKnob Tryz.prog.godebug = none := by kernel_rfl
/-- a variable that reads as a table holds its numbers -/
theorem Fr.tab {P : Program} {W : World} {name : String} {k : IntKind} {zs : List Int} {g : Nat} {t e : TypeId} {n : Nat}
    (hg : P.globalNamed name = some g) (hty : (P.globals[g]?).map (·.type) = some t) (ht : P.underlying t = some (.array n e)) (he : P.underlying e = some (.int k)) (hce : P.cellsOf e = 1) (hct : P.cellsOf t = n)
    (h : Lib.VarReads P W name (Lib.tabData k zs)) : Lib.TabIs P W name k zs := by
  obtain ⟨g', t', cs, fuel, p, hg', ht', hvar, hd⟩ := h
  obtain rfl := Option.some.inj (hg.symm.trans hg')
  obtain rfl := Option.some.inj (hty.symm.trans ht')
  unfold Lib.TabIs
  rw [hvar, ← Lib.cells_of_tab ht he hce hct hd]
theorem Fr.e64 : (Rows.laid_math_bits_deBruijn64tab : DataW Unit) = Lib.tabData .u8 Re.tzTab := by kernel_rfl
theorem Fr.e10 : (Rows.laid_internal_strconv_uint64pow10 : DataW Unit) = Lib.tabData .u64 Lib.pow10Tab := by kernel_rfl
set_option maxRecDepth 100000 in
theorem Fr.acc : (Rows.laid_unicode_utf8_acceptRanges : DataW Unit) = Lib.acceptData := by kernel_rfl
theorem Fr.extra : U8Extra Tryz.prog Sh.lays260_ren := ⟨by kernel_rfl, by kernel_rfl, by kernel_rfl, by kernel_rfl, by kernel_rfl, by kernel_rfl, by kernel_rfl⟩

/-- WHAT THE ROWS' LIST GIVES: the tables lie as Go lays them. -/
theorem Fr.tabs {W : World} (h : laidMet Tryz.prog Rows.jsonsRow.laid W) : Jt W := by
  have h2 := Lib.laidMet.reads h (.tail _ (.head _))
  have h3 := Lib.laidMet.reads h (.tail _ (.tail _ (.head _)))
  have h4 := Lib.laidMet.reads h (.tail _ (.tail _ (.tail _ (.head _))))
  have h5 := Lib.laidMet.reads h (.tail _ (.tail _ (.tail _ (.tail _ (.head _)))))
  have e5 : Rows.laid_unicode_utf8_first = Lib.firstData := Pinned.utf8First_eq
  rw [Fr.e64] at h2
  rw [Fr.e10] at h3
  rw [Fr.acc] at h4
  rw [e5] at h5
  exact ⟨utf8Tabs_of_reads (ρ := Sh.lays260_ren) Sh.lays260 Fr.extra h5 h4,
    Fr.tab (g := 3) (t := 132) (by kernel_rfl) (by kernel_rfl) Tryz.underlying132 Tryz.underlying22 (by kernel_rfl) (by kernel_rfl) h3,
    Fr.tab (g := 4) (t := 138) (by kernel_rfl) (by kernel_rfl) Tryz.underlying138 Tryz.underlying5 (by kernel_rfl) (by kernel_rfl) h2⟩

/-- what the second form's condition says -/
theorem Fr.bulk {H : Type} {ds : List (DataW H)} (hk : Rows.uptoSmall H ds = true) : Rows.uptoBulkAll ds ≤ 1048576 := of_decide_eq_true hk
/-- a block's cells, laid anew -/
def Fr.put (k : IntKind) (cs : List Nat) : Obj → Obj
  | .cells _ t frozen => .cells (cs.map fun z : Nat => Value.int k z).toArray t frozen
  | o => o
def Fr.ranges : List Nat := [128, 191, 160, 191, 128, 159, 144, 191, 128, 143, 0, 0, 0, 0, 0, 0, 0, 0, 0, 0, 0, 0, 0, 0, 0, 0, 0, 0, 0, 0, 0, 0]
/-- FOR THE WITNESS's WORLD: the tables holding what their initialisers lay. -/
def Fr.lay (w : World) : World := { w with heap := ((((w.heap.modify 4 (Fr.put .u8 Lib.deBruijn64tab)).modify 6 (Fr.put .u8 Lib.deBruijn32tab)).modify 3 (Fr.put .u64 ((List.range 20).map fun i => 10 ^ i))).modify 1 (Fr.put .u8 Pinned.utf8FirstZ)).modify 2 (Fr.put .u8 Fr.ranges) }
/-- what an argument's kind says of it -/
theorem Fr.u64 {n : Int} (h : (Lit.int .u64 n).wf = true) : ∃ m : Nat, n = (m : Int) ∧ m < 18446744073709551616 := by
  simp [Lit.wf, IntKind.min, IntKind.max, IntKind.signed, IntKind.bits] at h
  exact ⟨n.toNat, by omega, by omega⟩
theorem Fr.i64 {n : Int} (h : (Lit.int .i64 n).wf = true) : -9223372036854775808 ≤ n ∧ n ≤ 9223372036854775807 := by
  simp [Lit.wf, IntKind.min, IntKind.max, IntKind.signed, IntKind.bits] at h
  omega
end Go.Proofs.YtboalkfagfgnpaaGreatDoor
