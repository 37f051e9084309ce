/-
  THE WALKS of the reference's Split, Real, Whole, Number and RealText, at whatever bits.
-/
import Derived.Test.YtggfemdnoccmeaaDoorReDec
namespace Go.Proofs.YtggfemdnoccmeaaDoor
open Go.RowKit

/-- the odd number, the power: what they are -/
theorem Rs.split (b : Nat) (hm0 : Re.mag b ≠ 0) : ∃ n, Re.mag b = 2 ^ Re.zeros b * (2 * n + 1) ∧ Re.zeros b ≤ 52 ∧ Re.odd b = 2 * n + 1 := by
  have h := Re.mag_lt b
  obtain ⟨n, hn, _⟩ := Lib.ctzFrom_spec 64 (Re.mag b) (by omega) (by omega)
  have e : Re.zeros b = Lib.ctzFrom 64 (Re.mag b) := by unfold Re.zeros Lib.ctz; rw [if_neg hm0]
  rw [← e] at hn
  refine ⟨n, hn, ?_, ?_⟩
  · apply Nat.le_of_not_lt
    intro h1
    have h2 : 2 ^ 53 ≤ 2 ^ Re.zeros b := Nat.pow_le_pow_right (by omega) h1
    have h3 : 2 ^ Re.zeros b * 1 ≤ 2 ^ Re.zeros b * (2 * n + 1) := Nat.mul_le_mul_left _ (by omega)
    omega
  · have hp := Nat.two_pow_pos (Re.zeros b)
    unfold Re.odd
    rw [hn]
    exact Nat.mul_div_cancel_left _ hp

theorem Rs.odd_dvd (d z n : Nat) (h : 2 ^ z * (2 * n + 1) % 2 ^ d = 0) : d ≤ z := by
  apply Nat.le_of_not_lt
  intro h1
  obtain ⟨r, rfl⟩ : ∃ r, d = z + (r + 1) := ⟨d - z - 1, by omega⟩
  rw [Nat.pow_add, Nat.mul_mod_mul_left] at h
  have h2 : (2 * n + 1) % 2 ^ (r + 1) = 0 := by
    rcases Nat.mul_eq_zero.1 h with h3 | h3
    · have := Nat.two_pow_pos z; omega
    · exact h3
  have h3 := Nat.div_add_mod (2 * n + 1) (2 ^ (r + 1))
  rw [h2, Nat.pow_succ, Nat.mul_comm (2 ^ r) 2, Nat.mul_assoc] at h3
  omega

/-- whole: the power is not below 0, and the number is not too great -/
theorem Rs.whole (b : Nat) (hm0 : Re.mag b ≠ 0) (hi : Re.is b = true) :
    ∃ p : Nat, Re.pow b = p ∧ p ≤ 52 ∧ Re.odd b ≤ 9007199254740991 / 2 ^ p ∧ Re.odd b * 2 ^ p = Re.abs b := by
  have hlt := Re.mag_lt b
  obtain ⟨n, hn, hz, ho⟩ := Rs.split b hm0
  obtain ⟨h1, h2⟩ := of_decide_eq_true hi
  have ha := Re.down_at b h1
  have hd : Re.down b ≤ Re.zeros b := Rs.odd_dvd _ _ n (by rw [← hn]; exact h2)
  have hpow : Re.pow b = ((Re.zeros b - Re.down b : Nat) : Int) := by unfold Re.pow; rw [ha]; omega
  have habs : Re.odd b * 2 ^ (Re.zeros b - Re.down b) = Re.abs b := by
    unfold Re.abs
    rw [hn, ho]
    have e : 2 ^ Re.zeros b = 2 ^ Re.down b * 2 ^ (Re.zeros b - Re.down b) := by rw [← Nat.pow_add, show Re.down b + (Re.zeros b - Re.down b) = Re.zeros b by omega]
    rw [e, Nat.mul_assoc, Nat.mul_div_cancel_left _ (Nat.two_pow_pos _), Nat.mul_comm]
  refine ⟨Re.zeros b - Re.down b, hpow, by omega, ?_, habs⟩
  rw [Nat.le_div_iff_mul_le (Nat.two_pow_pos _), habs]
  have := Re.abs_lt b
  omega
/-- .. not whole: one of the three fails -/
theorem Rs.other (b : Nat) (hm0 : Re.mag b ≠ 0) (hi : Re.is b = false) :
    Re.pow b < 0 ∨ 52 < Re.pow b ∨ ∃ p : Nat, Re.pow b = p ∧ p ≤ 52 ∧ 9007199254740991 / 2 ^ p < Re.odd b := by
  by_cases h0 : Re.pow b < 0
  · exact .inl h0
  · by_cases h1 : 52 < Re.pow b
    · exact .inr (.inl h1)
    · refine .inr (.inr ⟨(Re.pow b).toNat, by omega, by omega, ?_⟩)
      apply Nat.lt_of_not_le
      intro h2
      rw [Nat.le_div_iff_mul_le (Nat.two_pow_pos _)] at h2
      have hlt := Re.mag_lt b
      obtain ⟨n, hn, hz, ho⟩ := Rs.split b hm0
      have hfr := Re.fr_lt b
      have hne : Re.ef b ≠ 0 := by
        intro h3
        have : Re.at b = -1074 := by unfold Re.at; rw [if_pos h3]
        have : Re.pow b = Re.at b + Re.zeros b := rfl
        omega
      have hM : 4503599627370496 ≤ Re.mag b := by unfold Re.mag; rw [if_neg hne]; omega
      have hat : Re.at b = (Re.ef b : Int) - 1075 := by unfold Re.at; rw [if_neg hne]
      have hpw : Re.pow b = Re.at b + Re.zeros b := rfl
      have hle : Re.ef b ≤ 1075 := by
        apply Nat.le_of_not_lt
        intro h3
        obtain ⟨r, hr⟩ : ∃ r, (Re.pow b).toNat = Re.zeros b + (r + 1) := ⟨Re.ef b - 1076, by omega⟩
        rw [hr, Nat.pow_add, ho, ← Nat.mul_assoc, Nat.mul_comm (2 * n + 1), ← hn, Nat.pow_succ] at h2
        have h4 : Re.mag b * (1 * 2) ≤ Re.mag b * (2 ^ r * 2) := Nat.mul_le_mul_left _ (Nat.mul_le_mul_right _ (Nat.two_pow_pos r))
        omega
      have hdn : Re.down b = 1075 - Re.ef b := by unfold Re.down; rw [if_neg hne]
      have hd : Re.mag b % 2 ^ Re.down b = 0 := by
        rw [hn]
        obtain ⟨r, hr⟩ : ∃ r, Re.zeros b = Re.down b + r := ⟨Re.zeros b - Re.down b, by omega⟩
        rw [hr, Nat.pow_add, Nat.mul_assoc, Nat.mul_mod_right]
      have : Re.is b = true := decide_eq_true ⟨hle, hd⟩
      rw [hi] at this
      cases this

theorem Rs.and1 (m : Nat) (hm : m < 18446744073709551616) : Go.bits .and .u64 (m : Int) 1 = ((m % 2 : Nat) : Int) := by
  have h := bits_and_u64_nat m 1 hm (by omega)
  rw [show (1 : Nat) = 2 ^ 1 - 1 by decide, Nat.and_two_pow_sub_one_eq_mod] at h
  exact h
theorem Rs.neg (b : Nat) (hb : b < 18446744073709551616) : ((b : Int) / 9223372036854775808 == 1) = Re.neg b := by
  unfold Re.neg
  by_cases h : 9223372036854775808 ≤ b
  · rw [decide_eq_true h]; apply beq_iff_eq.2; omega
  · rw [decide_eq_false h]; exact beq_eq_false_iff_ne.2 (by omega)

set_option maxRecDepth 100000 in
set_option maxHeartbeats 1000000 in
theorem Rs.walk (b : Nat) (hb : b < 18446744073709551616) (hm0 : Re.mag b ≠ 0) (w : World) :
    Calls Tryd.prog 50 #[.int .u64 (b : Int)] w fun e w' => e = .returned (.tuple #[.bool (Re.neg b), .int .u64 (Re.odd b), .int .i64 (Re.pow b)]) ∧ w' = w := by
  have h1 := Rt.and52 b hb
  have h2 := Rt.and11 b hb
  have hf := Re.fr_lt b
  have hel := Re.ef_lt b
  have hml := Re.mag_lt b
  have hng := Rs.neg b hb
  obtain ⟨n, hn, hz, ho⟩ := Rs.split b hm0
  have hat : Re.at b = if Re.ef b = 0 then -1074 else (Re.ef b : Int) - 1075 := rfl
  have ep : Re.pow b = Re.at b + Re.zeros b := rfl
  by_cases h0 : Re.ef b = 0
  · have em : Re.fr b = Re.mag b := by unfold Re.mag; rw [if_pos h0]
    rw [if_pos h0] at hat
    rw [h0] at h2
    rw [em] at h1
    rw [ho, ep, hat]
    clear em hat ep ho h0 hel hf
    generalize Re.zeros b = z at hn hz ⊢
    generalize Re.mag b = m at hn hm0 hml h1
    generalize Re.neg b = s at hng ⊢
    have HN := Lib.hid hn
    clear hn
    go_enter Tryd.func50, Tryd.ntmps50
    go_wp2_with fail
    go_loop [5, 6] (fun y v => ∃ j y' : Nat, y = .int .u64 (y' : Int) ∧ v = .int .i64 (-1074 + (j : Int)) ∧ j ≤ z ∧ y' < 9007199254740992 ∧ Hid (y' = 2 ^ (z - j) * (2 * n + 1))) (fun y _ => (intOf y).toNat)
    case atStart => exact ⟨0, m, rfl, by go_num, by omega, hml, by rw [Nat.sub_zero]; exact HN.out⟩
    case round =>
      obtain ⟨j, y, rfl, rfl, hj, hy, HY⟩ := hrel
      have hy1 : ¬ y = 0 := by
        rw [HY.out]
        exact Nat.ne_of_gt (Nat.mul_pos (Nat.two_pow_pos _) (by omega))
      have hy2 : ((y : Int) == 0) = false := beq_eq_false_iff_ne.2 (by omega)
      have hy3 : ((y : Int) != 0) = true := bne_iff_ne.2 (by omega)
      have ha := Rs.and1 y (by omega)
      by_cases hjz : j = z
      · subst hjz
        have ey : y = 2 * n + 1 := by rw [HY.out, Nat.sub_self, Nat.pow_zero, Nat.one_mul]
        rw [show y % 2 = 1 by omega] at ha
        have EY := Lib.hid ey
        clear ey HY HN
        go_wp2_with fail
        go_ret3
        rw [EY.out]
        exact ⟨rfl, rfl⟩
      · have ey : y = 2 * (2 ^ (z - (j + 1)) * (2 * n + 1)) := by
          rw [HY.out, show z - j = (z - (j + 1)) + 1 by omega, Nat.pow_succ, Nat.mul_comm (2 ^ (z - (j + 1))) 2, Nat.mul_assoc]
        rw [show y % 2 = 0 by omega] at ha
        have EY : Hid (y / 2 = 2 ^ (z - (j + 1)) * (2 * n + 1)) := by
          show y / 2 = _
          omega
        clear ey HY
        go_wp2_with fail
        go_round
        case rel => exact ⟨j + 1, y / 2, by go_num, by go_num, by omega, by omega, EY⟩
        case measure => simp [intOf]; omega
  · have em : 4503599627370496 + Re.fr b = Re.mag b := by unfold Re.mag; rw [if_neg h0]
    have h3 := Rt.or52 (Re.fr b) hf
    rw [em] at h3
    rw [if_neg h0] at hat
    rw [ho, ep, hat]
    clear em hat ep ho
    generalize Re.zeros b = z at hn hz ⊢
    generalize Re.mag b = m at hn hm0 hml h3
    generalize Re.neg b = s at hng ⊢
    generalize Re.fr b = f at h1 h3 hf
    generalize Re.ef b = k at h2 h0 hel ⊢
    have HN := Lib.hid hn
    clear hn
    have hk0 : ((k : Int) == 0) = false := beq_eq_false_iff_ne.2 (by omega)
    go_enter Tryd.func50, Tryd.ntmps50
    go_wp2_with fail
    go_loop [5, 6] (fun y v => ∃ j y' : Nat, y = .int .u64 (y' : Int) ∧ v = .int .i64 ((k : Int) - 1075 + (j : Int)) ∧ j ≤ z ∧ y' < 9007199254740992 ∧ Hid (y' = 2 ^ (z - j) * (2 * n + 1))) (fun y _ => (intOf y).toNat)
    case atStart => exact ⟨0, m, rfl, by go_num, by omega, hml, by rw [Nat.sub_zero]; exact HN.out⟩
    case round =>
      obtain ⟨j, y, rfl, rfl, hj, hy, HY⟩ := hrel
      have hy1 : ¬ y = 0 := by
        rw [HY.out]
        exact Nat.ne_of_gt (Nat.mul_pos (Nat.two_pow_pos _) (by omega))
      have hy2 : ((y : Int) == 0) = false := beq_eq_false_iff_ne.2 (by omega)
      have hy3 : ((y : Int) != 0) = true := bne_iff_ne.2 (by omega)
      have ha := Rs.and1 y (by omega)
      by_cases hjz : j = z
      · subst hjz
        have ey : y = 2 * n + 1 := by rw [HY.out, Nat.sub_self, Nat.pow_zero, Nat.one_mul]
        rw [show y % 2 = 1 by omega] at ha
        have EY := Lib.hid ey
        clear ey HY HN
        go_wp2_with fail
        go_ret3
        rw [EY.out]
        exact ⟨rfl, rfl⟩
      · have ey : y = 2 * (2 ^ (z - (j + 1)) * (2 * n + 1)) := by
          rw [HY.out, show z - j = (z - (j + 1)) + 1 by omega, Nat.pow_succ, Nat.mul_comm (2 ^ (z - (j + 1))) 2, Nat.mul_assoc]
        rw [show y % 2 = 0 by omega] at ha
        have EY : Hid (y / 2 = 2 ^ (z - (j + 1)) * (2 * n + 1)) := by
          show y / 2 = _
          omega
        clear ey HY
        go_wp2_with fail
        go_round
        case rel => exact ⟨j + 1, y / 2, by go_num, by go_num, by omega, by omega, EY⟩
        case measure => simp [intOf]; omega

theorem Rs.kind_of (b : Nat) (h : Re.ef b ≠ 2047) (h0 : Re.mag b ≠ 0) : Re.kind b = if Re.is b then 3 else 4 := by
  unfold Re.kind; rw [if_neg h, if_neg h0]

set_option maxRecDepth 100000 in
set_option maxHeartbeats 1000000 in
theorem Rs.real (b : Nat) (hb : b < 18446744073709551616) (w : World) :
    Calls Tryd.prog 29 #[.int .u64 (b : Int)] w fun e w' => e = .returned (.int .i64 (Re.kind b)) ∧ w' = w := by
  have h1 := Rt.and52 b hb
  have h2 := Rt.and11 b hb
  have hf := Re.fr_lt b
  have hel := Re.ef_lt b
  by_cases c0 : Re.ef b = 2047
  · by_cases c1 : Re.fr b = 0
    · have e0 : Re.kind b = 1 := by unfold Re.kind; rw [if_pos c0, if_pos c1]
      rw [e0]
      rw [c0] at h2
      rw [c1] at h1
      go_enter Tryd.func29, Tryd.ntmps29
      go_wp2_with fail
      go_ret
      exact ⟨rfl, rfl⟩
    · have e0 : Re.kind b = 0 := by unfold Re.kind; rw [if_pos c0, if_neg c1]
      rw [e0]
      rw [c0] at h2
      generalize Re.fr b = m at h1 c1 hf
      have c2 : ((m : Int) != 0) = true := bne_iff_ne.2 (by omega)
      go_enter Tryd.func29, Tryd.ntmps29
      go_wp2_with fail
      go_ret
      exact ⟨rfl, rfl⟩
  · by_cases c2 : Re.ef b = 0 ∧ Re.fr b = 0
    · obtain ⟨c2, c3⟩ := c2
      have e0 : Re.kind b = 2 := by unfold Re.kind Re.mag; rw [if_neg c0, if_pos c2, if_pos c3]
      rw [e0]
      rw [c2] at h2
      rw [c3] at h1
      go_enter Tryd.func29, Tryd.ntmps29
      go_wp2_with fail
      go_ret
      exact ⟨rfl, rfl⟩
    · have hm : Re.mag b ≠ 0 := by unfold Re.mag; split <;> omega
      have ho := Rs.kind_of b c0 hm
      have hs := Rs.walk b hb hm w
      have hol : Re.odd b < 9007199254740992 := Nat.lt_of_le_of_lt (Nat.div_le_self _ _) (Re.mag_lt b)
      have hi : ((Re.ef b : Int) == 2047) = false := beq_eq_false_iff_ne.2 (by omega)
      have hzz : (Re.ef b = 0 ∧ ((Re.fr b : Int) == 0) = false) ∨ ((Re.ef b : Int) == 0) = false := by
        by_cases q : Re.ef b = 0
        · have q2 : ¬ Re.fr b = 0 := fun h => c2 ⟨q, h⟩
          exact .inl ⟨q, beq_eq_false_iff_ne.2 (by omega)⟩
        · exact .inr (beq_eq_false_iff_ne.2 (by omega))
      cases his : Re.is b
      · rw [his, if_neg (by decide)] at ho
        have hor := Rs.other b hm his
        rw [ho]
        generalize Re.odd b = o at hs hor hol
        generalize Re.pow b = pw at hs hor
        generalize Re.neg b = s at hs
        generalize Re.fr b = f at h1 hf hzz c2
        generalize Re.ef b = e at h2 hel hi hzz c0 c2
        clear ho hm his c2
        rcases hor with hor | hor | ⟨p, rfl, hp, hlt⟩
        · have q1 : decide (0 ≤ pw) = false := decide_eq_false (by omega)
          rcases hzz with ⟨hz1, hz2⟩ | hz1
          · subst hz1
            go_enter Tryd.func29, Tryd.ntmps29
            go_wp2_with fail
            refine hs.mono ?_
            rintro e w1 ⟨rfl, rfl⟩
            go_wp2_with fail
            go_ret
            exact ⟨rfl, rfl⟩
          · go_enter Tryd.func29, Tryd.ntmps29
            go_wp2_with fail
            refine hs.mono ?_
            rintro e w1 ⟨rfl, rfl⟩
            go_wp2_with fail
            go_ret
            exact ⟨rfl, rfl⟩
        · have q1 : decide (0 ≤ pw) = true := decide_eq_true (by omega)
          have q2 : decide (pw ≤ 52) = false := decide_eq_false (by omega)
          rcases hzz with ⟨hz1, hz2⟩ | hz1
          · subst hz1
            go_enter Tryd.func29, Tryd.ntmps29
            go_wp2_with fail
            refine hs.mono ?_
            rintro e w1 ⟨rfl, rfl⟩
            go_wp2_with fail
            go_ret
            exact ⟨rfl, rfl⟩
          · go_enter Tryd.func29, Tryd.ntmps29
            go_wp2_with fail
            refine hs.mono ?_
            rintro e w1 ⟨rfl, rfl⟩
            go_wp2_with fail
            go_ret
            exact ⟨rfl, rfl⟩
        · have e1 : ((9007199254740991 / 2 ^ p : Nat) : Int) = (9007199254740991 : Int) / 2 ^ p := by simp
          have q3 : decide ((o : Int) ≤ (9007199254740991 : Int) / 2 ^ p) = false := decide_eq_false (by rw [← e1]; omega)
          clear e1 hlt
          rcases hzz with ⟨hz1, hz2⟩ | hz1
          · subst hz1
            go_enter Tryd.func29, Tryd.ntmps29
            go_wp2_with fail
            refine hs.mono ?_
            rintro e w1 ⟨rfl, rfl⟩
            go_wp2_with fail
            go_ret
            exact ⟨rfl, rfl⟩
          · go_enter Tryd.func29, Tryd.ntmps29
            go_wp2_with fail
            refine hs.mono ?_
            rintro e w1 ⟨rfl, rfl⟩
            go_wp2_with fail
            go_ret
            exact ⟨rfl, rfl⟩
      · rw [his, if_pos rfl] at ho
        obtain ⟨p, hpw, hp, hlt, _⟩ := Rs.whole b hm his
        rw [ho]
        rw [hpw] at hs
        generalize Re.odd b = o at hs hlt hol
        generalize Re.neg b = s at hs
        generalize Re.fr b = f at h1 hf hzz c2
        generalize Re.ef b = e at h2 hel hi hzz c0 c2
        clear ho hm his c2 hpw
        have e1 : ((9007199254740991 / 2 ^ p : Nat) : Int) = (9007199254740991 : Int) / 2 ^ p := by simp
        have q3 : decide ((o : Int) ≤ (9007199254740991 : Int) / 2 ^ p) = true := decide_eq_true (by rw [← e1]; omega)
        clear e1 hlt
        rcases hzz with ⟨hz1, hz2⟩ | hz1
        · subst hz1
          go_enter Tryd.func29, Tryd.ntmps29
          go_wp2_with fail
          refine hs.mono ?_
          rintro e w1 ⟨rfl, rfl⟩
          go_wp2_with fail
          go_ret
          exact ⟨rfl, rfl⟩
        · go_enter Tryd.func29, Tryd.ntmps29
          go_wp2_with fail
          refine hs.mono ?_
          rintro e w1 ⟨rfl, rfl⟩
          go_wp2_with fail
          go_ret
          exact ⟨rfl, rfl⟩
end Go.Proofs.YtggfemdnoccmeaaDoor
