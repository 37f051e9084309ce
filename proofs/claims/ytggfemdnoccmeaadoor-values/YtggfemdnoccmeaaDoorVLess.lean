/-
  THE WALKS of the program's value.isNumber, rank, Less.
-/
import Derived.Test.YtggfemdnoccmeaaDoorVEq
namespace Go.Proofs.YtggfemdnoccmeaaDoor
open Go.RowKit

/-- a real's place among the others -/
def Re.rank (b : Nat) : Int := if 9223372036854775808 ≤ b then -((b - 9223372036854775808 : Nat) : Int) else (b : Int)
def Re.num (b : Nat) : Bool := !(decide (Re.kind b = 0))

theorem Vl.top {b : Nat} (h : 9223372036854775808 ≤ b) (hb : b < 18446744073709551616) : b &&& 9223372036854775808 = 9223372036854775808 := by
  rw [show (9223372036854775808 : Nat) = 2 ^ 63 by decide]
  apply Nat.eq_of_testBit_eq
  intro i
  rw [Nat.testBit_and, Nat.testBit_two_pow]
  by_cases e : 63 = i
  · subst e
    simp
    have : b / 2 ^ 63 = 1 := by omega
    rw [Nat.testBit, Nat.shiftRight_eq_div_pow, this]
    rfl
  · simp [e]
theorem Vl.low {b : Nat} (h : ¬ 9223372036854775808 ≤ b) : b &&& 9223372036854775808 = 0 := by
  rw [show (9223372036854775808 : Nat) = 2 ^ 63 by decide]
  apply Nat.eq_of_testBit_eq
  intro i
  rw [Nat.testBit_and, Nat.testBit_two_pow]
  by_cases e : 63 = i
  · subst e
    simp
    exact Nat.testBit_lt_two_pow (by omega)
  · simp [e]

theorem Vl.number (b : Nat) (hb : b < 18446744073709551616) (w : World) : Calls Tryd.prog 27 #[.int .u64 (b : Int)] w fun e w' => e = .returned (.bool (Re.num b)) ∧ w' = w := by
  have HN : Hid (Re.num b = !(decide (Re.kind b = 0))) := rfl
  generalize Re.num b = Z at *
  go_enter Tryd.func27, Tryd.ntmps27
  go_wp2_with fail
  refine (Rk.kind b hb _).mono ?_
  rintro e w2 ⟨rfl, rfl⟩
  generalize Re.kind b = K at *
  by_cases h : K = 0
  · subst h
    go_wp2
    go_ret
    rw [HN.out]
    exact ⟨rfl, rfl⟩
  · have d0 : ((K : Int) == 0) = false := beq_eq_false_iff_ne.2 (by omega)
    go_wp2
    go_ret
    rw [HN.out, decide_eq_false h]
    refine ⟨?_, rfl⟩
    simp [h]

theorem Vl.rank (b : Nat) (hb : b < 18446744073709551616) (w : World) : Calls Tryd.prog 28 #[.int .u64 (b : Int)] w fun e w' => e = .returned (.int .i64 (Re.rank b)) ∧ w' = w := by
  have h3 : Go.bits .andNot .u64 (b : Int) 9223372036854775808 = ((b % 9223372036854775808 : Nat) : Int) := by
    have h := u64_andNot_nat b 9223372036854775808 hb (by omega)
    rw [show (18446744073709551615 - 9223372036854775808 : Nat) = 2 ^ 63 - 1 by decide, Nat.and_two_pow_sub_one_eq_mod] at h
    exact h
  have h4 := bits_and_u64_nat b 9223372036854775808 hb (by omega)
  by_cases hg : 9223372036854775808 ≤ b
  · have h5 : Go.bits .and .u64 (b : Int) 9223372036854775808 = 9223372036854775808 := by rw [Vl.top hg hb] at h4; exact h4
    have e1 : b % 9223372036854775808 = b - 9223372036854775808 := by omega
    rw [e1] at h3
    have HR : Hid (Re.rank b = -((b - 9223372036854775808 : Nat) : Int)) := by unfold Hid Re.rank; rw [if_pos hg]
    generalize hc : b - 9223372036854775808 = c at *
    have hc' : c < 9223372036854775808 := by omega
    clear hc e1 h4
    go_enter Tryd.func28, Tryd.ntmps28
    go_wp2
    go_ret
    rw [HR.out]
    exact ⟨rfl, rfl⟩
  · have h5 : Go.bits .and .u64 (b : Int) 9223372036854775808 = 0 := by rw [Vl.low hg] at h4; exact h4
    have e1 : b % 9223372036854775808 = b := by omega
    rw [e1] at h3
    have HR : Hid (Re.rank b = (b : Int)) := by unfold Hid Re.rank; rw [if_neg hg]
    have hc' : b < 9223372036854775808 := by omega
    clear e1 h4
    go_enter Tryd.func28, Tryd.ntmps28
    go_wp2
    go_ret
    rw [HR.out]
    exact ⟨rfl, rfl⟩

def Vt.less : Vt → Vt → Bool × Int
  | .nil, _ => (false, 400)
  | .mk .., .nil => (false, 400)
  | .mk k x b s n it m ks, .mk k' x' b' s' n' it' m' ks' =>
    if (Vt.mk k x b s n it m ks).may = false ∨ (Vt.mk k' x' b' s' n' it' m' ks').may = false then (false, 400)
    else if k ≠ k' then (false, 402)
    else if k = 2 then (decide (x < x'), 0)
    else if k = 3 then (Re.num b && Re.num b' && decide (Re.rank b < Re.rank b'), 0)
    else if k = 4 then (Op.bytesLess s.toList s'.toList, 0)
    else (false, 402)

set_option maxRecDepth 100000 in
set_option maxHeartbeats 4000000 in
theorem Vl.less (t u : Vt) (v v' : Value) (w : World) (h : t.Lies w (· < w.heap.size) v) (h' : u.Lies w (· < w.heap.size) v') : Calls Tryd.prog 8 #[v, v'] w fun e w' => e = .returned (.tuple #[.bool (t.less u).1, .int .i64 (t.less u).2]) ∧ Below w.heap.size w w' := by
  cases t with
  | nil => exact h.elim
  | mk k x b s n it m ks =>
  cases u with
  | nil => exact h'.elim
  | mk k' x' b' s' n' it' m' ks' =>
    have H := Lib.hid h
    have H' := Lib.hid h'
    obtain ⟨ai, c, ak, d, rfl, hb, hn, hc, _, _⟩ := h
    obtain ⟨ai', c', ak', d', rfl, hb', hn', hc', _, _⟩ := h'
    have HT : Hid (Vt.less (.mk k x b s n it m ks) (.mk k' x' b' s' n' it' m' ks') = if (Vt.mk k x b s n it m ks).may = false ∨ (Vt.mk k' x' b' s' n' it' m' ks').may = false then (false, 400)
      else if k ≠ k' then (false, 402)
      else if k = 2 then (decide (x < x'), 0)
      else if k = 3 then (Re.num b && Re.num b' && decide (Re.rank b < Re.rank b'), 0)
      else if k = 4 then (Op.bytesLess s.toList s'.toList, 0)
      else (false, 402)) := rfl
    generalize hz : Vt.less (.mk k x b s n it m ks) (.mk k' x' b' s' n' it' m' ks') = Z at *
    clear hz
    go_enter Tryd.func8, Tryd.ntmps8
    go_wp2_with fail
    refine (Vm.may (Vt.mk k x b s n it m ks) _ _ ((H.out.alloc _).alloc _)).mono ?_
    rintro e w1 ⟨rfl, hw⟩
    have B1 := (Vm.box hw)
    have A1 := (Vm.box (Vm.behind hw))
    have hb1 := Vm.behind2 hw
    have hs1 : w.heap.size + 2 ≤ w1.heap.size := by have := hw.size; simp at this; omega
    simp only [World.size_alloc] at B1
    obtain ⟨c0, c1, c2, c3, c4, c5⟩ := A1.cells
    obtain ⟨d0, d1, d2, d3, d4, d5⟩ := B1.cells
    have HA := Lib.hid A1
    have HB := Lib.hid B1
    clear hw H A1 B1
    generalize (Vt.mk k x b s n it m ks).may = M at *
    cases M with
    | false =>
      go_wp2
      go_ret2
      rw [HT.out]
      exact ⟨rfl, hb1⟩
    | true =>
      go_wp2_with fail
      refine (Vm.may (Vt.mk k' x' b' s' n' it' m' ks') _ _ (H'.out.on' hb1)).mono ?_
      rintro e w2 ⟨rfl, hw2⟩
      have hb2 := Vm.then hb1 hw2
      clear c0 c1 c2 c3 c4 c5 d0 d1 d2 d3 d4 d5
      obtain ⟨c0, c1, c2, c3, c4, c5⟩ := (HA.out.on (by omega) hw2).cells
      obtain ⟨d0, d1, d2, d3, d4, d5⟩ := (HB.out.on (by omega) hw2).cells
      clear HA HB hw2 hb1 H' hs1
      generalize (Vt.mk k' x' b' s' n' it' m' ks').may = M' at *
      cases M' with
      | false =>
        go_wp2
        go_ret2
        rw [HT.out]
        exact ⟨rfl, hb2⟩
      | true =>
        by_cases hk : k = k'
        · subst hk
          by_cases k2 : k = 2
          · subst k2
            go_wp2
            go_ret2
            rw [HT.out]
            exact ⟨rfl, hb2⟩
          by_cases k3 : k = 3
          · subst k3
            have N1 := fun W => Vl.number b hb W
            have N2 := fun W => Vl.number b' hb' W
            have R1 := fun W => Vl.rank b hb W
            have R2 := fun W => Vl.rank b' hb' W
            have HK : Hid (Z = (Re.num b && Re.num b' && decide (Re.rank b < Re.rank b'), 0)) := HT.out
            clear HT
            generalize Re.num b = P at *
            generalize Re.num b' = P' at *
            generalize Re.rank b = r at *
            generalize Re.rank b' = r' at *
            have n1 := Lib.hid N1
            have n2 := Lib.hid N2
            have r1 := Lib.hid R1
            have r2 := Lib.hid R2
            clear N1 N2 R1 R2
            cases P with
            | false =>
              go_wp2_with fail
              go_quiet (first | (go_at_call_of 27 b; exact Calls.quiet_of_same (n1.out _)))
              go_wp2
              go_ret2
              rw [HK.out]
              exact ⟨rfl, Vm.drewN hb2 _⟩
            | true =>
              cases P' with
              | false =>
                go_wp2_with fail
                go_quiet (first | (go_at_call_of 27 b; exact Calls.quiet_of_same (n1.out _)) | (go_at_call_of 27 b'; exact Calls.quiet_of_same (n2.out _)))
                go_wp2
                go_ret2
                rw [HK.out]
                exact ⟨rfl, Vm.drewN hb2 _⟩
              | true =>
                go_wp2_with fail
                go_quiet (first | (go_at_call_of 27 b; exact Calls.quiet_of_same (n1.out _)) | (go_at_call_of 27 b'; exact Calls.quiet_of_same (n2.out _)) | (go_at_call_of 28 b; exact Calls.quiet_of_same (r1.out _)) | (go_at_call_of 28 b'; exact Calls.quiet_of_same (r2.out _)))
                go_wp2
                go_ret2
                rw [HK.out]
                exact ⟨rfl, Vm.drewN hb2 _⟩
          by_cases k4 : k = 4
          · subst k4
            go_wp2
            go_ret2
            rw [HT.out]
            exact ⟨rfl, hb2⟩
          have e2 : (k == 2) = false := beq_eq_false_iff_ne.2 k2
          have e3 : (k == 3) = false := beq_eq_false_iff_ne.2 k3
          have e4 : (k == 4) = false := beq_eq_false_iff_ne.2 k4
          have HE : Hid (Z = (false, 402)) := by
            have := HT.out
            rw [if_neg (by simp), if_neg (by simp), if_neg k2, if_neg k3, if_neg k4] at this
            exact this
          clear HT
          go_wp2
          go_ret2
          rw [HE.out]
          exact ⟨rfl, hb2⟩
        · have e : (k == k') = false := beq_eq_false_iff_ne.2 hk
          have HE : Hid (Z = (false, 402)) := by
            have := HT.out
            rw [if_neg (by simp), if_pos hk] at this
            exact this
          clear HT
          go_wp2
          go_ret2
          rw [HE.out]
          exact ⟨rfl, hb2⟩
end Go.Proofs.YtggfemdnoccmeaaDoor
