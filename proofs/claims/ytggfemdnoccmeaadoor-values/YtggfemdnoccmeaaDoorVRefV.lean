/-
  THE WALKS of the reference's True, place, Less.
-/
import Derived.Test.YtggfemdnoccmeaaDoorVCount
import Derived.Test.YtggfemdnoccmeaaDoorReRef
import Derived.BigQuiet
namespace Go.Proofs.YtggfemdnoccmeaaDoor
open Go.RowKit

set_option maxRecDepth 100000 in
set_option maxHeartbeats 4000000 in
theorem Rv.truth (t : Vt) (v : Value) (w : World) (h : t.Lies w (· < w.heap.size) v) : Calls Tryd.prog 18 #[v] w fun e w' => e = .returned (.bool t.truth) ∧ Below w.heap.size w w' := by
  cases t with
  | nil => exact h.elim
  | mk k x b s n it m ks =>
    have H := Lib.hid h
    obtain ⟨ai, c, ak, d, rfl, hb, hn, hc, _, _⟩ := h
    have HT : Hid ((Vt.mk k x b s n it m ks).truth = ((Vt.mk k x b s n it m ks).may && (if k = 1 ∨ k = 2 then !(x == 0) else if k = 3 then !((Re.kind b : Int) == 2) && !((Re.kind b : Int) == 0) else if k = 4 then !(s.toList == []) else decide (0 < n)))) := rfl
    generalize hz : (Vt.mk k x b s n it m ks).truth = Z at *
    clear hz
    go_enter Tryd.func18, Tryd.ntmps18
    go_wp2_with fail
    refine (Rv.may (Vt.mk k x b s n it m ks) _ _ (H.out.alloc _)).mono ?_
    rintro e w1 ⟨rfl, hw⟩
    obtain ⟨c0, c1, c2, c3, c4, c5⟩ := (Vm.box hw).cells
    have hb1 := Vm.behind hw
    clear hw H
    generalize (Vt.mk k x b s n it m ks).may = M at *
    cases M with
    | false =>
      go_wp2
      go_ret
      rw [HT.out]
      exact ⟨rfl, hb1⟩
    | true =>
      by_cases k1 : k = 1
      · subst k1
        go_wp2
        go_ret
        rw [HT.out]
        exact ⟨rfl, hb1⟩
      by_cases k2 : k = 2
      · subst k2
        go_wp2
        go_ret
        rw [HT.out]
        exact ⟨rfl, hb1⟩
      by_cases k3 : k = 3
      · subst k3
        generalize hK : Re.kind b = K at *
        have HK := Lib.hid hK
        clear hK
        have HR := Lib.hid (fun W => Rs.real b hb W)
        go_wp2_with fail
        refine (HR.out _).mono ?_
        rintro e w2 ⟨rfl, rfl⟩
        rw [HK.out]
        by_cases e2 : K = 2
        · subst e2
          go_wp2
          go_ret
          rw [HT.out]
          exact ⟨rfl, hb1⟩
        · have d2 : ((K : Int) == 2) = false := beq_eq_false_iff_ne.2 (by omega)
          go_wp2_with fail
          refine (HR.out _).mono ?_
          rintro e w2 ⟨rfl, rfl⟩
          rw [HK.out]
          by_cases e0 : K = 0
          · subst e0
            clear d2 e2
            go_wp2
            go_ret
            rw [HT.out]
            exact ⟨rfl, hb1⟩
          · have d0 : ((K : Int) == 0) = false := beq_eq_false_iff_ne.2 (by omega)
            go_wp2
            go_ret
            rw [HT.out, d2, d0]
            refine ⟨?_, hb1⟩
            simp [e0]
            omega
      by_cases k4 : k = 4
      · subst k4
        go_wp2
        go_ret
        rw [HT.out]
        refine ⟨?_, hb1⟩
        simp
      have d1 : (k == 1) = false := beq_eq_false_iff_ne.2 k1
      have d2 : (k == 2) = false := beq_eq_false_iff_ne.2 k2
      have d3 : (k == 3) = false := beq_eq_false_iff_ne.2 k3
      have d4 : (k == 4) = false := beq_eq_false_iff_ne.2 k4
      have HE : Hid (Z = decide (0 < n)) := by
        have := HT.out
        rw [if_neg (by omega), if_neg k3, if_neg k4] at this
        exact this
      clear HT
      go_wp2
      go_ret
      rw [HE.out]
      refine ⟨?_, hb1⟩
      simp

theorem Rv.b1 {z : Bool} (h : false = !z) : z = true := by cases z <;> simp_all
theorem Rv.b2 {z : Bool} (h : true = !z) : z = false := by cases z <;> simp_all
theorem Rv.isnum (b : Nat) : Re.num b = !((Re.kind b : Int) == 0) := by
  unfold Re.num
  congr 1
  rw [Bool.eq_iff_iff, decide_eq_true_iff, beq_iff_eq]
  omega
theorem Rv.and63 (b : Nat) (hb : b < 18446744073709551616) : Go.bits .and .u64 (b : Int) 9223372036854775807 = ((b % 9223372036854775808 : Nat) : Int) := by
  have h := bits_and_u64_nat b 9223372036854775807 hb (by omega)
  rw [show (9223372036854775807 : Nat) = 2 ^ 63 - 1 by decide, Nat.and_two_pow_sub_one_eq_mod] at h
  exact h
theorem Rv.place (b : Nat) (hb : b < 18446744073709551616) (w : World) : Calls Tryd.prog 30 #[.int .u64 (b : Int)] w fun e w' => e = .returned (.int .i64 (Re.rank b)) ∧ w' = w := by
  have h1 := Rv.and63 b hb
  have h2 := Rs.neg b hb
  have hr : Re.rank b = if Re.neg b then -((b % 9223372036854775808 : Nat) : Int) else ((b % 9223372036854775808 : Nat) : Int) := by
    unfold Re.rank Re.neg
    by_cases h : 9223372036854775808 ≤ b
    · simp only [h, decide_true, if_true]
      omega
    · simp only [h, decide_false, if_false]
      rw [Nat.mod_eq_of_lt (by omega)]
      rfl
  have hm : b % 9223372036854775808 < 9223372036854775808 := Nat.mod_lt _ (by decide)
  rw [hr]
  generalize b % 9223372036854775808 = M at *
  have hw : wrap64 (M : Int) = M := by rw [wrap64]; omega
  clear hr
  generalize Re.neg b = N at *
  cases N
  all_goals go_enter Tryd.func30, Tryd.ntmps30
  all_goals go_wp2
  all_goals go_ret
  all_goals exact ⟨rfl, rfl⟩

set_option maxRecDepth 100000 in
set_option maxHeartbeats 4000000 in
theorem Rv.less (t u : Vt) (v v' : Value) (w : World) (h : t.Lies w (· < w.heap.size) v) (h' : u.Lies w (· < w.heap.size) v') : Calls Tryd.prog 9 #[v, v'] w fun e w' => e = .returned (.tuple #[.bool (t.less u).1, .int .i64 (t.less u).2]) ∧ Below w.heap.size w w' := by
  cases t with
  | nil => exact h.elim
  | mk k x b s n it m ks =>
  cases u with
  | nil => exact h'.elim
  | mk k' x' b' s' n' it' m' ks' =>
    have H := Lib.hid h
    have H' := Lib.hid h'
    obtain ⟨ai, c, ak, d, rfl, hb, hn, hc, _, _⟩ := h
    obtain ⟨ai', c', ak', d', rfl, hb', hn', hc', _, _⟩ := h'
    have HT : Hid (Vt.less (.mk k x b s n it m ks) (.mk k' x' b' s' n' it' m' ks') = if (Vt.mk k x b s n it m ks).may = false ∨ (Vt.mk k' x' b' s' n' it' m' ks').may = false then (false, 400)
      else if k ≠ k' then (false, 402)
      else if k = 2 then (decide (x < x'), 0)
      else if k = 3 then (Re.num b && Re.num b' && decide (Re.rank b < Re.rank b'), 0)
      else if k = 4 then (Op.bytesLess s.toList s'.toList, 0)
      else (false, 402)) := rfl
    generalize hz : Vt.less (.mk k x b s n it m ks) (.mk k' x' b' s' n' it' m' ks') = Z at *
    clear hz
    go_enter Tryd.func9, Tryd.ntmps9
    go_wp2_with fail
    refine (Rv.may (Vt.mk k x b s n it m ks) _ _ ((H.out.alloc _).alloc _)).mono ?_
    rintro e w1 ⟨rfl, hw⟩
    have B1 := (Vm.box hw)
    have A1 := (Vm.box (Vm.behind hw))
    have hb1 := Vm.behind2 hw
    have hs1 : w.heap.size + 2 ≤ w1.heap.size := by have := hw.size; simp at this; omega
    simp only [World.size_alloc] at B1
    obtain ⟨c0, c1, c2, c3, c4, c5⟩ := A1.cells
    obtain ⟨d0, d1, d2, d3, d4, d5⟩ := B1.cells
    have HA := Lib.hid A1
    have HB := Lib.hid B1
    clear hw H A1 B1
    generalize (Vt.mk k x b s n it m ks).may = M at *
    cases M with
    | false =>
      go_wp2
      go_ret2
      rw [HT.out]
      exact ⟨rfl, hb1⟩
    | true =>
      go_wp2_with fail
      refine (Rv.may (Vt.mk k' x' b' s' n' it' m' ks') _ _ (H'.out.on' hb1)).mono ?_
      rintro e w2 ⟨rfl, hw2⟩
      have hb2 := Vm.then hb1 hw2
      clear c0 c1 c2 c3 c4 c5 d0 d1 d2 d3 d4 d5
      obtain ⟨c0, c1, c2, c3, c4, c5⟩ := (HA.out.on (by omega) hw2).cells
      obtain ⟨d0, d1, d2, d3, d4, d5⟩ := (HB.out.on (by omega) hw2).cells
      clear HA HB hw2 hb1 H' hs1
      generalize (Vt.mk k' x' b' s' n' it' m' ks').may = M' at *
      cases M' with
      | false =>
        go_wp2
        go_ret2
        rw [HT.out]
        exact ⟨rfl, hb2⟩
      | true =>
        by_cases hk : k = k'
        · subst hk
          by_cases k2 : k = 2
          · subst k2
            go_wp2
            go_ret2
            rw [HT.out]
            exact ⟨rfl, hb2⟩
          by_cases k3 : k = 3
          · subst k3
            have N1 := fun W => Rs.real b hb W
            have N2 := fun W => Rs.real b' hb' W
            have R1 := fun W => Rv.place b hb W
            have R2 := fun W => Rv.place b' hb' W
            have HK : Hid (Z = (Re.num b && Re.num b' && decide (Re.rank b < Re.rank b'), 0)) := HT.out
            clear HT
            have hP : Re.num b = !((Re.kind b : Int) == 0) := Rv.isnum b
            have hP' : Re.num b' = !((Re.kind b' : Int) == 0) := Rv.isnum b'
            generalize Re.num b = P at *
            generalize Re.num b' = P' at *
            generalize Re.kind b = KA at *
            generalize Re.kind b' = KB at *
            generalize Re.rank b = r at *
            generalize Re.rank b' = r' at *
            have n1 := Lib.hid N1
            have n2 := Lib.hid N2
            have r1 := Lib.hid R1
            have r2 := Lib.hid R2
            clear N1 N2 R1 R2
            cases P with
            | false =>
              have q1 : ((KA : Int) == 0) = true := Rv.b1 hP
              have p1 : ((KA : Int) != 0) = false := by rw [bne, q1]; rfl
              clear hP hP'
              go_wp2_with fail
              go_quiet (first | (go_at_call_of 29 b; exact Calls.quiet_of_same (n1.out _)))
              go_wp2
              go_ret2
              rw [HK.out]
              exact ⟨rfl, Vm.drewN hb2 _⟩
            | true =>
              have q1 : ((KA : Int) == 0) = false := Rv.b2 hP
              have p1 : ((KA : Int) != 0) = true := by rw [bne, q1]; rfl
              cases P' with
              | false =>
                have q2 : ((KB : Int) == 0) = true := Rv.b1 hP'
                have p2 : ((KB : Int) != 0) = false := by rw [bne, q2]; rfl
                clear hP hP'
                go_wp2_with fail
                go_quiet (first | (go_at_call_of 29 b; exact Calls.quiet_of_same (n1.out _)) | (go_at_call_of 29 b'; exact Calls.quiet_of_same (n2.out _)))
                go_wp2
                go_ret2
                rw [HK.out]
                exact ⟨rfl, Vm.drewN hb2 _⟩
              | true =>
                have q2 : ((KB : Int) == 0) = false := Rv.b2 hP'
                have p2 : ((KB : Int) != 0) = true := by rw [bne, q2]; rfl
                clear hP hP'
                go_wp2_with fail
                go_quiet (first | (go_at_call_of 29 b; exact Calls.quiet_of_same (n1.out _)) | (go_at_call_of 29 b'; exact Calls.quiet_of_same (n2.out _)) | (go_at_call_of 30 b; exact Calls.quiet_of_same (r1.out _)) | (go_at_call_of 30 b'; exact Calls.quiet_of_same (r2.out _)))
                go_wp2
                go_ret2
                rw [HK.out]
                exact ⟨rfl, Vm.drewN hb2 _⟩
          by_cases k4 : k = 4
          · subst k4
            go_wp2
            go_ret2
            rw [HT.out]
            exact ⟨rfl, hb2⟩
          have e2 : (k == 2) = false := beq_eq_false_iff_ne.2 k2
          have e3 : (k == 3) = false := beq_eq_false_iff_ne.2 k3
          have e4 : (k == 4) = false := beq_eq_false_iff_ne.2 k4
          have HE : Hid (Z = (false, 402)) := by
            have := HT.out
            rw [if_neg (by simp), if_neg (by simp), if_neg k2, if_neg k3, if_neg k4] at this
            exact this
          clear HT
          go_wp2
          go_ret2
          rw [HE.out]
          exact ⟨rfl, hb2⟩
        · have e : (k == k') = false := beq_eq_false_iff_ne.2 hk
          have HE : Hid (Z = (false, 402)) := by
            have := HT.out
            rw [if_neg (by simp), if_pos hk] at this
            exact this
          clear HT
          go_wp2
          go_ret2
          rw [HE.out]
          exact ⟨rfl, hb2⟩
end Go.Proofs.YtggfemdnoccmeaaDoor
