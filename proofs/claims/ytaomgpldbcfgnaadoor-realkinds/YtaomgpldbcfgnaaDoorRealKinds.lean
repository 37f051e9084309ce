/-
  THE WALK of stolelaw3.RealKinds, at whatever bits: it returns true, and turns nothing that was there.
-/
import Derived.Test.YtaomgpldbcfgnaaDoorReAwake
namespace Go.Proofs.YtaomgpldbcfgnaaDoor
open Go.RowKit

theorem Kd.nan (b : Nat) (h : Re.ef b = 2047) (h0 : Re.fr b ≠ 0) : Re.kind b = 0 := by unfold Re.kind; rw [if_pos h, if_neg h0]
theorem Kd.inf (b : Nat) (h : Re.ef b = 2047) (h0 : Re.fr b = 0) : Re.kind b = 1 := by unfold Re.kind; rw [if_pos h, if_pos h0]
theorem Kd.zero (b : Nat) (h : Re.ef b = 0) (h0 : Re.fr b = 0) : Re.kind b = 2 := by
  unfold Re.kind Re.mag; rw [if_neg (by omega), if_pos h, if_pos h0]
theorem Kd.small (b : Nat) (h : Re.ef b < 1023) : Re.is b = decide (Re.mag b = 0) := by
  have hm := Re.mag_lt b
  have hd : 53 ≤ Re.down b := by unfold Re.down; split <;> omega
  have h2 : Re.mag b < 2 ^ Re.down b := Nat.lt_of_lt_of_le hm (show 2 ^ 53 ≤ 2 ^ Re.down b from Nat.pow_le_pow_right (by omega) hd)
  unfold Re.is
  rw [Nat.mod_eq_of_lt h2]
  apply decide_eq_decide.2
  constructor
  · exact fun h => h.2
  · exact fun h0 => ⟨by omega, h0⟩
theorem Kd.of (b : Nat) (h : Re.ef b ≠ 2047) (h0 : Re.mag b ≠ 0) : Re.kind b = if Re.is b then 3 else 4 := by
  unfold Re.kind; rw [if_neg h, if_neg h0]
theorem Kd.mag0 (b : Nat) (h : ¬ (Re.ef b = 0 ∧ Re.fr b = 0)) : Re.mag b ≠ 0 := by
  unfold Re.mag; split <;> omega
theorem Kd.mid (b : Nat) (h : 1023 ≤ Re.ef b) (h1 : Re.ef b ≤ 1075) : Re.is b = decide (Re.fr b % 2 ^ (1075 - Re.ef b) = 0) := by
  unfold Re.is Re.down Re.mag
  rw [if_neg (by omega), if_neg (by omega)]
  have e : (4503599627370496 : Nat) = 2 ^ (1075 - Re.ef b) * 2 ^ (52 - (1075 - Re.ef b)) := by
    rw [← Nat.pow_add, show 1075 - Re.ef b + (52 - (1075 - Re.ef b)) = 52 by omega]
  rw [e, Nat.mul_add_mod]
  simp [h1]

theorem Kd.mask (m e : Nat) (hm : m < 18446744073709551616) (h0 : 1023 ≤ e) (h1 : e ≤ 1075) :
    Go.bits .and .u64 (m : Int) (IntKind.u64.wrap (IntKind.u64.wrap ((2 : Int) ^ (1075 - e)) - 1)) = ((m % 2 ^ (1075 - e) : Nat) : Int) := by
  obtain ⟨k, hk⟩ : ∃ k, 1075 - e = k := ⟨_, rfl⟩
  rw [hk]
  have hk52 : k ≤ 52 := by omega
  have h2 : 2 ^ k ≤ 2 ^ 52 := Nat.pow_le_pow_right (by omega) hk52
  have h3 : 0 < 2 ^ k := Nat.two_pow_pos k
  have e1 : ((2 : Int) ^ k) = ((2 ^ k : Nat) : Int) := by simp
  have e2 : IntKind.u64.wrap (IntKind.u64.wrap (((2 ^ k : Nat) : Int)) - 1) = ((2 ^ k - 1 : Nat) : Int) := by
    rw [IntKind.wrap_u64, IntKind.wrap_u64]
    omega
  rw [e1, e2, bits_and_u64_nat m _ hm (by omega), Nat.and_two_pow_sub_one_eq_mod]

set_option maxRecDepth 100000 in
set_option maxHeartbeats 1000000 in
theorem Law.realKinds (b : Nat) (hb : b < 18446744073709551616) (w : World) (h : Re.Tabs w) :
    Calls Tryd.prog 7 #[.int .u64 (b : Int)] w fun e w' => e = .returned (.bool true) ∧ Below w.heap.size w w' := by
  have hA := Aw.awake w h
  have hk := Rk.kind b hb
  have h1 := Rt.and52 b hb
  have h2 := Rt.and11 b hb
  have hf := Re.fr_lt b
  have hel := Re.ef_lt b
  by_cases c0 : Re.ef b = 2047
  · by_cases c1 : Re.fr b = 0
    · rw [Kd.inf b c0 c1] at hk
      rw [c0] at h2
      rw [c1] at h1
      go_enter Tryd.func7, Tryd.ntmps7
      go_wp2_with fail
      refine hA.mono ?_
      rintro e w1 ⟨rfl, b1⟩
      go_wp2_with fail
      refine (hk _).mono ?_
      rintro e w2 ⟨rfl, rfl⟩
      go_wp2_with fail
      go_ret
      exact ⟨rfl, b1⟩
    · rw [Kd.nan b c0 c1] at hk
      rw [c0] at h2
      generalize Re.fr b = m at h1 c1 hf
      have c2 : ((m : Int) != 0) = true := by simp; exact c1
      go_enter Tryd.func7, Tryd.ntmps7
      go_wp2_with fail
      refine hA.mono ?_
      rintro e w1 ⟨rfl, b1⟩
      go_wp2_with fail
      refine (hk _).mono ?_
      rintro e w2 ⟨rfl, rfl⟩
      go_wp2_with fail
      go_ret
      exact ⟨rfl, b1⟩
  · by_cases c2 : Re.ef b = 0 ∧ Re.fr b = 0
    · obtain ⟨c2, c3⟩ := c2
      rw [Kd.zero b c2 c3] at hk
      rw [c2] at h2
      rw [c3] at h1
      go_enter Tryd.func7, Tryd.ntmps7
      go_wp2_with fail
      refine hA.mono ?_
      rintro e w1 ⟨rfl, b1⟩
      go_wp2_with fail
      refine (hk _).mono ?_
      rintro e w2 ⟨rfl, rfl⟩
      go_wp2_with fail
      go_ret
      exact ⟨rfl, b1⟩
    · have hm := Kd.mag0 b c2
      have ho := Kd.of b c0 hm
      by_cases c3 : Re.ef b < 1023
      · rw [Kd.small b c3, decide_eq_false hm] at ho
        rw [ho] at hk
        generalize Re.fr b = m at h1 c2 hf
        generalize Re.ef b = e at h2 c2 c0 c3 hel
        clear ho hm
        by_cases c4 : e = 0
        · have c5 : ¬ m = 0 := fun h => c2 ⟨c4, h⟩
          have c6 : ((m : Int) == 0) = false := by simp; exact c5
          subst c4
          go_enter Tryd.func7, Tryd.ntmps7
          go_wp2_with fail
          refine hA.mono ?_
          rintro e w1 ⟨rfl, b1⟩
          go_wp2_with fail
          refine (hk _).mono ?_
          rintro e w2 ⟨rfl, rfl⟩
          go_wp2_with fail
          go_ret
          exact ⟨rfl, b1⟩
        · have c6 : ((e : Int) == 0) = false := by simp; exact c4
          have c7 : ((e : Int) == 2047) = false := beq_eq_false_iff_ne.2 (by omega)
          have c8 : decide ((e : Int) < 1023) = true := decide_eq_true (by omega)
          clear c2
          go_enter Tryd.func7, Tryd.ntmps7
          go_wp2_with fail
          refine hA.mono ?_
          rintro e w1 ⟨rfl, b1⟩
          go_wp2_with fail
          refine (hk _).mono ?_
          rintro e w2 ⟨rfl, rfl⟩
          go_wp2_with fail
          go_ret
          exact ⟨rfl, b1⟩
      · by_cases c4 : 1075 < Re.ef b
        · have hi : Re.is b = false := by unfold Re.is; apply decide_eq_false; omega
          rw [hi] at ho
          rw [ho] at hk
          generalize Re.fr b = m at h1 c2 hf
          generalize Re.ef b = e at h2 c2 c0 c3 c4 hel
          have c6 : ((e : Int) == 0) = false := beq_eq_false_iff_ne.2 (by omega)
          have c7 : ((e : Int) == 2047) = false := beq_eq_false_iff_ne.2 (by omega)
          have c8 : decide ((e : Int) < 1023) = false := decide_eq_false (by omega)
          have c9 : decide (1075 < (e : Int)) = true := decide_eq_true (by omega)
          clear c2 ho hm
          go_enter Tryd.func7, Tryd.ntmps7
          go_wp2_with fail
          refine hA.mono ?_
          rintro e w1 ⟨rfl, b1⟩
          go_wp2_with fail
          refine (hk _).mono ?_
          rintro e w2 ⟨rfl, rfl⟩
          go_wp2_with fail
          go_ret
          exact ⟨rfl, b1⟩
        · rw [Kd.mid b (by omega) (by omega)] at ho
          by_cases c5 : Re.ef b = 1075
          · rw [c5, decide_eq_true (by rw [Nat.sub_self, Nat.pow_zero, Nat.mod_one])] at ho
            rw [ho] at hk
            rw [c5] at h2
            generalize Re.fr b = m at h1 hf
            clear c2 ho hm
            go_enter Tryd.func7, Tryd.ntmps7
            go_wp2_with fail
            refine hA.mono ?_
            rintro e w1 ⟨rfl, b1⟩
            go_wp2_with fail
            refine (hk _).mono ?_
            rintro e w2 ⟨rfl, rfl⟩
            go_wp2_with fail
            go_ret
            exact ⟨rfl, b1⟩
          · rw [ho] at hk
            clear c2 ho hm
            generalize Re.fr b = m at h1 hf hk
            generalize Re.ef b = e at h2 c0 c3 c4 c5 hel hk
            have c6 : ((e : Int) == 0) = false := beq_eq_false_iff_ne.2 (by omega)
            have c7 : ((e : Int) == 2047) = false := beq_eq_false_iff_ne.2 (by omega)
            have c8 : decide ((e : Int) < 1023) = false := decide_eq_false (by omega)
            have c9 : decide (1075 < (e : Int)) = false := decide_eq_false (by omega)
            have c10 : ((e : Int) == 1075) = false := beq_eq_false_iff_ne.2 (by omega)
            have hM := Kd.mask m e (by omega) (by omega) (by omega)
            generalize m % 2 ^ (1075 - e) = r at hM hk
            by_cases c11 : r = 0
            · subst c11
              rw [decide_eq_true rfl] at hk
              go_enter Tryd.func7, Tryd.ntmps7
              go_wp2_with fail
              refine hA.mono ?_
              rintro e w1 ⟨rfl, b1⟩
              go_wp2_with fail
              refine (hk _).mono ?_
              rintro e w2 ⟨rfl, rfl⟩
              go_wp2_with fail
              go_ret
              exact ⟨rfl, b1⟩
            · rw [decide_eq_false c11] at hk
              have c12 : ((r : Int) == 0) = false := beq_eq_false_iff_ne.2 (by omega)
              go_enter Tryd.func7, Tryd.ntmps7
              go_wp2_with fail
              refine hA.mono ?_
              rintro e w1 ⟨rfl, b1⟩
              go_wp2_with fail
              refine (hk _).mono ?_
              rintro e w2 ⟨rfl, rfl⟩
              go_wp2_with fail
              go_ret
              exact ⟨rfl, b1⟩
end Go.Proofs.YtaomgpldbcfgnaaDoor
