/-
  THE WALKS of the law's own SameValue, Num, num, text, bits.
-/
import Derived.Test.YtggfemdnoccmeaaDoorVAlike
import Derived.BigCall
import Derived.Deep.RegionWith
namespace Go.Proofs.YtggfemdnoccmeaaDoor
open Go.RowKit

/-- the same in all its fields -/
def Vt.eq : Vt → Vt → Bool
  | .nil, _ => false
  | .mk .., .nil => false
  | .mk k x b s n it m ks, .mk k' x' b' s' n' it' m' ks' =>
    decide (k = k') && decide (x = x') && decide (b = b') && (s.toList == s'.toList) && decide (n = n') && Vt.sameKeys m m' ks ks' && Vt.allTo (fun i => (it i).eq (it' i)) n

theorem Vs.back {wr w3 : World} (h : Below wr.drew.heap.size wr.drew w3) : Below wr.heap.size wr w3 := ⟨h.os, h.tape, h.output, h.size, h.block⟩
theorem Vt.Lies.drew' {w : World} {t : Vt} {v : Value} (h : t.Lies w (· < w.heap.size) v) : t.Lies w.drew (· < w.drew.heap.size) v := Vt.Lies.on (w := w) (w' := w.drew) (R := (· < w.heap.size)) (R' := (· < w.drew.heap.size)) (fun _ hg => ⟨hg, rfl⟩) h

set_option maxRecDepth 100000 in
set_option maxHeartbeats 4000000 in
theorem Vs.same : ∀ (t u : Vt) (v v' : Value) (w : World), t.Lies w (· < w.heap.size) v → u.Lies w (· < w.heap.size) v' →
    Calls Tryd.prog 13 #[v, v'] w fun e w' => e = .returned (.bool (t.eq u)) ∧ Below w.heap.size w w' := by
  intro t
  induction t with
  | nil => intro u v v' w h h'; exact h.elim
  | mk k x b s n it m ks ih =>
  intro u
  cases u with
  | nil => intro v v' w h h'; exact h'.elim
  | mk k' x' b' s' n' it' m' ks' =>
    intro v v' w h h'
    have H := Lib.hid h
    have H' := Lib.hid h'
    obtain ⟨ai, c, ak, d, rfl, hb, hn, hc, _, _⟩ := h
    obtain ⟨ai', c', ak', d', rfl, hb', hn', hc', _, _⟩ := h'
    have HT : Hid ((Vt.mk k x b s n it m ks).eq (.mk k' x' b' s' n' it' m' ks') = (decide (k = k') && decide (x = x') && decide (b = b') && (s.toList == s'.toList) && decide (n = n') && Vt.sameKeys m m' ks ks' && Vt.allTo (fun i => (it i).eq (it' i)) n)) := by unfold Hid; rw [Vt.eq]
    have HI : Hid (∀ i, ∀ (v v' : Value) (w : World), (it i).Lies w (· < w.heap.size) v → (it' i).Lies w (· < w.heap.size) v' →
      Calls Tryd.prog 13 #[v, v'] w fun e w' => e = .returned (.bool ((it i).eq (it' i))) ∧ Below w.heap.size w w') := fun i => ih i (it' i)
    clear ih
    generalize hz : (Vt.mk k x b s n it m ks).eq (.mk k' x' b' s' n' it' m' ks') = Z at *
    clear hz
    by_cases q1 : k = k'
    case neg =>
      have e1 : (k == k') = false := beq_eq_false_iff_ne.2 q1
      have HZ : Hid (Z = false) := by have := HT.out; rw [decide_eq_false q1] at this; exact (show Z = false from by simpa using this)
      clear HT
      go_enter Tryd.func13, Tryd.ntmps13
      go_wp2
      go_ret
      rw [HZ.out]
      exact ⟨rfl, ((Below.refl _ _).alloc (Nat.le_refl _) _).alloc (by simp) _⟩
    subst q1
    by_cases q2 : x = x'
    case neg =>
      have e2 : (x == x') = false := beq_eq_false_iff_ne.2 q2
      have HZ : Hid (Z = false) := by have := HT.out; rw [decide_eq_false q2] at this; exact (show Z = false from by simpa using this)
      clear HT
      go_enter Tryd.func13, Tryd.ntmps13
      go_wp2
      go_ret
      rw [HZ.out]
      exact ⟨rfl, ((Below.refl _ _).alloc (Nat.le_refl _) _).alloc (by simp) _⟩
    subst q2
    by_cases q3 : b = b'
    case neg =>
      have e3 : ((b : Int) == (b' : Int)) = false := beq_eq_false_iff_ne.2 (by omega)
      have HZ : Hid (Z = false) := by have := HT.out; rw [decide_eq_false q3] at this; exact (show Z = false from by simpa using this)
      clear HT
      go_enter Tryd.func13, Tryd.ntmps13
      go_wp2
      go_ret
      rw [HZ.out]
      exact ⟨rfl, ((Below.refl _ _).alloc (Nat.le_refl _) _).alloc (by simp) _⟩
    subst q3
    cases q4 : (s.toList == s'.toList)
    case false =>
      have HZ : Hid (Z = false) := by have := HT.out; rw [q4] at this; exact (show Z = false from by simpa using this)
      clear HT
      go_enter Tryd.func13, Tryd.ntmps13
      go_wp2
      go_ret
      rw [HZ.out]
      exact ⟨rfl, ((Below.refl _ _).alloc (Nat.le_refl _) _).alloc (by simp) _⟩
    by_cases q5 : n = n'
    case neg =>
      have e5 : ((n : Int) == (n' : Int)) = false := beq_eq_false_iff_ne.2 (by omega)
      have HZ : Hid (Z = false) := by have := HT.out; rw [decide_eq_false q5] at this; exact (show Z = false from by simpa using this)
      clear HT
      go_enter Tryd.func13, Tryd.ntmps13
      go_wp2
      go_ret
      rw [HZ.out]
      exact ⟨rfl, ((Below.refl _ _).alloc (Nat.le_refl _) _).alloc (by simp) _⟩
    subst q5
    have HE : Hid (Z = (Vt.sameKeys m m' ks ks' && Vt.allTo (fun i => (it i).eq (it' i)) n)) := by have := HT.out; rw [q4] at this; exact (show Z = (Vt.sameKeys m m' ks ks' && Vt.allTo (fun i => (it i).eq (it' i)) n) from by simpa using this)
    clear HT
    generalize hq : Vt.sameKeys m m' ks ks' = K at *
    have HK := Lib.hid hq
    clear hq
    go_enter Tryd.func13, Tryd.ntmps13
    go_wp2_with fail
    refine (Ve.texts m m' ks ks' ak ak' d d' _ _ _ (((H.out.alloc _).alloc _).keys).1 (((H'.out.alloc _).alloc _).keys).1).mono ?_
    rintro e w1 ⟨rfl, hw⟩
    rw [HK.out]
    have B1 := (Vm.box hw)
    have A1 := (Vm.box (Vm.behind hw))
    have hb1 := Vm.behind2 hw
    have hs1 : w.heap.size + 2 ≤ w1.heap.size := by have := hw.size; simp at this; omega
    simp only [World.size_alloc] at B1
    obtain ⟨c0, c1, c2, c3, c4, c5⟩ := A1.cells
    obtain ⟨d0, d1, d2, d3, d4, d5⟩ := B1.cells
    have HA := Lib.hid A1
    have HB := Lib.hid B1
    clear hw A1 B1
    cases K with
    | false =>
      have HZ : Hid (Z = false) := HE.out
      clear HE
      go_wp2
      go_ret
      rw [HZ.out]
      exact ⟨rfl, hb1⟩
    | true =>
      have HZ : Hid (Z = Vt.allTo (fun i => (it i).eq (it' i)) n) := HE.out.trans (Bool.true_and _)
      clear HE
      have hm : n ≤ 9223372036854775807 := by unfold maxLen at hc; omega
      go_wp2_with fail
      clear c0 c1 c2 c3 c4 c5 d0 d1 d2 d3 d4 d5
      go_loopw [5] (fun i wr => ∃ j : Nat, j ≤ n ∧ i = .int .i64 j ∧ Hid (Vt.allTo (fun i => (it i).eq (it' i)) j = true) ∧ Below w1.heap.size w1 wr) (fun i _ => n - (intOf i).toNat)
      case atStart => exact ⟨0, Nat.zero_le _, by go_num, rfl, Below.refl _ _⟩
      case round =>
        obtain ⟨j, hj, rfl, HJ, hbr⟩ := hrel
        have c4 := (HA.out.on (by omega) hbr).cells.2.2.2.2.1
        have d4 := (HB.out.on (by omega) hbr).cells.2.2.2.2.1
        have hb2 := Vm.then hb1 hbr
        by_cases hjm : j < n
        · obtain ⟨bi, oi, v0, v1, v2, v3, v4, v5, rfl, hbi, y0, y1, y2, y3, y4, y5, hli⟩ := ((H.out.on' hb2).keys).2.2 j hjm
          obtain ⟨bi', oi', u0, u1, u2, u3, u4, u5, rfl, hbi', z0, z1, z2, z3, z4, z5, hli'⟩ := ((H'.out.on' hb2).keys).2.2 j hjm
          have hle : j < c := Nat.lt_of_lt_of_le hjm hn
          have hle' : j < c' := Nat.lt_of_lt_of_le hjm hn'
          obtain ⟨k1, x1, b1, s1, ai1, n1, c1', ak1, m1, e1, rfl, rfl, rfl, rfl, rfl, rfl⟩ := hli.cells
          obtain ⟨k2, x2, b2, s2, ai2, n2, c2', ak2, m2, e2, rfl, rfl, rfl, rfl, rfl, rfl⟩ := hli'.cells
          have HL := Lib.hid hli.drew'
          have HL' := Lib.hid hli'.drew'
          clear hli hli'
          have HBR := Lib.hid hb2
          have HB3 := Lib.hid hbr
          clear hb2 hbr
          cases hq : (it j).eq (it' j) with
          | false =>
            have HZ2 : Hid (Z = false) := HZ.out.trans (Vt.allTo_no hq hjm)
            have HQ := Lib.hid hq
            clear hq HZ
            go_wp2_with fail
            go_region_with (go_at_call 13; refine (HI.out j _ _ _ ?_ ?_).mono ?_; exact HL.out; exact HL'.out; rintro e w3 ⟨rfl, hw3⟩; rw [HQ.out]; have hw4 := Vs.back hw3; clear hw3)
            all_goals go_wp2
            all_goals go_ret
            all_goals rw [HZ2.out]
            all_goals exact ⟨rfl, Vm.then HBR.out hw4⟩
          | true =>
            have HN : Hid (Vt.allTo (fun i => (it i).eq (it' i)) (j + 1) = true) := by unfold Hid Vt.allTo; rw [HJ.out, hq]; rfl
            have HQ := Lib.hid hq
            clear hq
            go_wp2_with fail
            go_region_with (go_at_call 13; refine (HI.out j _ _ _ ?_ ?_).mono ?_; exact HL.out; exact HL'.out; rintro e w3 ⟨rfl, hw3⟩; rw [HQ.out]; have hw4 := Vs.back hw3; clear hw3)
            all_goals go_wp2
            all_goals refine ⟨⟨j + 1, hjm, by go_num, HN, Vm.then HB3.out hw4⟩, ?_⟩
            all_goals simp [intOf]
            all_goals omega
        · have e : j = n := by omega
          subst e
          go_wp2
          go_ret
          rw [HZ.out, HJ.out]
          exact ⟨rfl, hb2⟩
end Go.Proofs.YtggfemdnoccmeaaDoor
