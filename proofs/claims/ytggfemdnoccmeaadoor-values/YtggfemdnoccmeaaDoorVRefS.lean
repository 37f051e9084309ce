/-
  THE WALKS of the reference's same and Same.
-/
import Derived.Test.YtggfemdnoccmeaaDoorVCount
import Derived.Test.YtggfemdnoccmeaaDoorVRefV
import Derived.Test.YtggfemdnoccmeaaDoorVAwake
namespace Go.Proofs.YtggfemdnoccmeaaDoor
open Go.RowKit

set_option maxRecDepth 100000 in
set_option maxHeartbeats 8000000 in
theorem Rv.same : ∀ (t u : Vt) (v v' : Value) (w : World), t.Lies w (· < w.heap.size) v → u.Lies w (· < w.heap.size) v' →
    Calls Tryd.prog 38 #[v, v'] w fun e w' => e = .returned (.bool (t.rsame u)) ∧ Below w.heap.size w w' := by
  intro t
  induction t with
  | nil => intro u v v' w h h'; exact h.elim
  | mk k x b s n it m ks ih =>
  intro u
  cases u with
  | nil => intro v v' w h h'; exact h'.elim
  | mk k' x' b' s' n' it' m' ks' =>
    intro v v' w h h'
    have H := Lib.hid h
    have H' := Lib.hid h'
    obtain ⟨ai, c, ak, d, rfl, hb, hn, hc, _, _⟩ := h
    obtain ⟨ai', c', ak', d', rfl, hb', hn', hc', _, _⟩ := h'
    have HT : Hid ((Vt.mk k x b s n it m ks).rsame (.mk k' x' b' s' n' it' m' ks') = if k = k' ∧ x = x' ∧ s.toList = s'.toList ∧ n = n' ∧ m = m' then (if k = 3 then Re.like b b' else Vt.allTo (fun i => (it i).rsame (it' i) && (decide (m ≤ i) || (ks i).toList == (ks' i).toList)) n) else false) := by unfold Hid; rw [Vt.rsame]
    have HI : Hid (∀ i, ∀ (v v' : Value) (w : World), (it i).Lies w (· < w.heap.size) v → (it' i).Lies w (· < w.heap.size) v' →
      Calls Tryd.prog 38 #[v, v'] w fun e w' => e = .returned (.bool ((it i).rsame (it' i))) ∧ Below w.heap.size w w') := fun i => ih i (it' i)
    clear ih
    generalize hz : (Vt.mk k x b s n it m ks).rsame (.mk k' x' b' s' n' it' m' ks') = Z at *
    clear hz
    by_cases q1 : k = k'
    case neg =>
      have e1 : (k == k') = false := beq_eq_false_iff_ne.2 q1
      have HZ : Hid (Z = false) := by have := HT.out; rw [if_neg (by rintro ⟨a1, a2, a3, a4, a5⟩; exact q1 a1)] at this; exact this
      clear HT
      go_enter Tryd.func38, Tryd.ntmps38
      go_wp2
      go_ret
      rw [HZ.out]
      exact ⟨rfl, ((Below.refl _ _).alloc (Nat.le_refl _) _).alloc (by simp) _⟩
    subst q1
    by_cases q2 : x = x'
    case neg =>
      have e2 : (x == x') = false := beq_eq_false_iff_ne.2 q2
      have HZ : Hid (Z = false) := by have := HT.out; rw [if_neg (by rintro ⟨a1, a2, a3, a4, a5⟩; exact q2 a2)] at this; exact this
      clear HT
      go_enter Tryd.func38, Tryd.ntmps38
      go_wp2
      go_ret
      rw [HZ.out]
      exact ⟨rfl, ((Below.refl _ _).alloc (Nat.le_refl _) _).alloc (by simp) _⟩
    subst q2
    by_cases q4 : s.toList = s'.toList
    case neg =>
      have e4 : (s.toList == s'.toList) = false := beq_eq_false_iff_ne.2 q4
      have HZ : Hid (Z = false) := by have := HT.out; rw [if_neg (by rintro ⟨a1, a2, a3, a4, a5⟩; exact q4 a3)] at this; exact this
      clear HT
      go_enter Tryd.func38, Tryd.ntmps38
      go_wp2
      go_ret
      rw [HZ.out]
      exact ⟨rfl, ((Below.refl _ _).alloc (Nat.le_refl _) _).alloc (by simp) _⟩
    have e4 : (s.toList == s'.toList) = true := beq_iff_eq.2 q4
    by_cases q5 : n = n'
    case neg =>
      have e5 : ((n : Int) == (n' : Int)) = false := beq_eq_false_iff_ne.2 (by omega)
      have HZ : Hid (Z = false) := by have := HT.out; rw [if_neg (by rintro ⟨a1, a2, a3, a4, a5⟩; exact q5 a4)] at this; exact this
      clear HT
      go_enter Tryd.func38, Tryd.ntmps38
      go_wp2
      go_ret
      rw [HZ.out]
      exact ⟨rfl, ((Below.refl _ _).alloc (Nat.le_refl _) _).alloc (by simp) _⟩
    subst q5
    by_cases q6 : m = m'
    case neg =>
      have e6 : ((m : Int) == (m' : Int)) = false := beq_eq_false_iff_ne.2 (by omega)
      have HZ : Hid (Z = false) := by have := HT.out; rw [if_neg (by rintro ⟨a1, a2, a3, a4, a5⟩; exact q6 a5)] at this; exact this
      clear HT
      go_enter Tryd.func38, Tryd.ntmps38
      go_wp2
      go_ret
      rw [HZ.out]
      exact ⟨rfl, ((Below.refl _ _).alloc (Nat.le_refl _) _).alloc (by simp) _⟩
    subst q6
    have HE : Hid (Z = if k = 3 then Re.like b b' else Vt.allTo (fun i => (it i).rsame (it' i) && (decide (m ≤ i) || (ks i).toList == (ks' i).toList)) n) := by have := HT.out; rw [if_pos ⟨rfl, rfl, q4, rfl, rfl⟩] at this; exact this
    clear HT q4
    have A1 := Vm.box ((Below.refl _ ((w.alloc (.cells #[.int .i64 k, .int .i64 x, .int .u64 (b : Int), .string s, .slice ai n c, .slice ak m d] 26)))).alloc (Nat.le_refl _) (.cells #[.int .i64 k, .int .i64 x, .int .u64 (b' : Int), .string s', .slice ai' n c', .slice ak' m d'] 26))
    have B1 : Vm.Box ((w.alloc (.cells #[.int .i64 k, .int .i64 x, .int .u64 (b : Int), .string s, .slice ai n c, .slice ak m d] 26)).alloc (.cells #[.int .i64 k, .int .i64 x, .int .u64 (b' : Int), .string s', .slice ai' n c', .slice ak' m d'] 26)) (w.heap.size + 1) _ _ _ _ _ _ := ⟨Vm.Has.new _ _ _ (by simp)⟩
    have hb1 : Below w.heap.size w ((w.alloc (.cells #[.int .i64 k, .int .i64 x, .int .u64 (b : Int), .string s, .slice ai n c, .slice ak m d] 26)).alloc (.cells #[.int .i64 k, .int .i64 x, .int .u64 (b' : Int), .string s', .slice ai' n c', .slice ak' m d'] 26)) := ((Below.refl _ _).alloc (Nat.le_refl _) _).alloc (by simp) _
    have HA := Lib.hid A1
    have HB := Lib.hid B1
    have HB1 := Lib.hid hb1
    clear A1 B1 hb1
    by_cases k3 : k = 3
    · subst k3
      have HL : Hid (Z = Re.like b b') := HE.out
      have hlk : Re.like b b' = (!((Re.kind b : Int) == 0) && (((b : Int) == (b' : Int)) || (((Re.kind b : Int) == 2) && ((Re.kind b' : Int) == 2)))) := by
        unfold Re.like
        rw [Rv.isnum]
        congr 1
        congr 1
        · rw [Bool.eq_iff_iff, decide_eq_true_iff, beq_iff_eq]; omega
        · congr 1
          · rw [Bool.eq_iff_iff, decide_eq_true_iff, beq_iff_eq]; omega
          · rw [Bool.eq_iff_iff, decide_eq_true_iff, beq_iff_eq]; omega
      have N1 := fun W => Rs.real b hb W
      have N2 := fun W => Rs.real b' hb' W
      have HL2 := Lib.hid (HL.out.trans hlk)
      clear hlk HL HE HI
      generalize Re.kind b = KA at *
      generalize Re.kind b' = KB at *
      have n1 := Lib.hid N1
      have n2 := Lib.hid N2
      clear N1 N2
      go_enter Tryd.func38, Tryd.ntmps38
      go_wp2_with fail
      go_quiet (first | (go_at_call_of 29 b; exact Calls.quiet_of_same (n1.out _)) | (go_at_call_of 29 b'; exact Calls.quiet_of_same (n2.out _)))
      cases z0 : ((KA : Int) == 0) with
      | true =>
        have p0 : ((KA : Int) != 0) = false := by rw [bne, z0]; rfl
        rw [z0] at HL2
        go_wp2
        go_ret
        rw [HL2.out]
        exact ⟨rfl, Vm.drewN HB1.out _⟩
      | false =>
        have p0 : ((KA : Int) != 0) = true := by rw [bne, z0]; rfl
        cases z1 : ((b : Int) == (b' : Int)) with
        | true =>
          rw [z0, z1] at HL2
          go_wp2
          go_ret
          rw [HL2.out]
          exact ⟨rfl, Vm.drewN HB1.out _⟩
        | false =>
          cases z2 : ((KA : Int) == 2) with
          | false =>
            rw [z0, z1, z2] at HL2
            go_wp2
            go_ret
            rw [HL2.out]
            exact ⟨rfl, Vm.drewN HB1.out _⟩
          | true =>
            rw [z0, z1, z2] at HL2
            go_wp2
            go_ret
            rw [HL2.out]
            exact ⟨rfl, Vm.drewN HB1.out _⟩
    · have e3 : (k == 3) = false := beq_eq_false_iff_ne.2 k3
      have HZ : Hid (Z = Vt.allTo (fun i => (it i).rsame (it' i) && (decide (m ≤ i) || (ks i).toList == (ks' i).toList)) n) := by have := HE.out; rw [if_neg k3] at this; exact this
      clear HE
      have hnm : n ≤ 9223372036854775807 := by unfold maxLen at hc; omega
      go_enter Tryd.func38, Tryd.ntmps38
      go_wp2_with fail
      generalize (w.alloc (.cells #[.int .i64 k, .int .i64 x, .int .u64 (b : Int), .string s, .slice ai n c, .slice ak m d] 26)).alloc (.cells #[.int .i64 k, .int .i64 x, .int .u64 (b' : Int), .string s', .slice ai' n c', .slice ak' m d'] 26) = w1 at *
      go_loopw [7] (fun i wr => ∃ j : Nat, j ≤ n ∧ i = .int .i64 j ∧ Hid (Vt.allTo (fun i => (it i).rsame (it' i) && (decide (m ≤ i) || (ks i).toList == (ks' i).toList)) j = true) ∧ Below w1.heap.size w1 wr) (fun i _ => n - (intOf i).toNat)
      case atStart => exact ⟨0, Nat.zero_le _, by go_num, rfl, Below.refl _ _⟩
      case round =>
        obtain ⟨j, hj, rfl, HJ, hbr⟩ := hrel
        have c4 := (HA.out.on HA.out.lt hbr).cells.2.2.2.2.1
        have d4 := (HB.out.on HB.out.lt hbr).cells.2.2.2.2.1
        have hb2 := Vm.then HB1.out hbr
        by_cases hjm : j < n
        · obtain ⟨bi, oi, v0, v1, v2, v3, v4, v5, rfl, hbi, y0, y1, y2, y3, y4, y5, hli⟩ := ((H.out.on' hb2).keys).2.2 j hjm
          obtain ⟨bi', oi', u0, u1, u2, u3, u4, u5, rfl, hbi', z0, z1, z2, z3, z4, z5, hli'⟩ := ((H'.out.on' hb2).keys).2.2 j hjm
          have hle : j < c := Nat.lt_of_lt_of_le hjm hn
          have hle' : j < c' := Nat.lt_of_lt_of_le hjm hn'
          obtain ⟨k1, x1, b1, s1, ai1, n1, c1', ak1, m1, e1, rfl, rfl, rfl, rfl, rfl, rfl⟩ := hli.cells
          obtain ⟨k2, x2, b2, s2, ai2, n2, c2', ak2, m2, e2, rfl, rfl, rfl, rfl, rfl, rfl⟩ := hli'.cells
          have ne := Vw.wd_ne wr
          have HL : Hid (∀ q : Vw.Wd wr, (it j).Lies q.1 (· < q.1.heap.size) (.agg #[.int .i64 k1, .int .i64 x1, .int .u64 (b1 : Int), .string s1, .slice ai1 n1 c1', .slice ak1 m1 e1])) := fun q => hli.on' q.2
          have HL' : Hid (∀ q : Vw.Wd wr, (it' j).Lies q.1 (· < q.1.heap.size) (.agg #[.int .i64 k2, .int .i64 x2, .int .u64 (b2 : Int), .string s2, .slice ai2 n2 c2', .slice ak2 m2 e2])) := fun q => hli'.on' q.2
          clear hli hli'
          have HBR := Lib.hid hb2
          have HB3 := Lib.hid hbr
          have BA := HA.out.on HA.out.lt hbr
          have BB := HB.out.on HB.out.lt hbr
          have qa4 := fun q : Vw.Wd wr => (BA.on BA.lt q.2).cells.2.2.2.2.1
          have qa5 := fun q : Vw.Wd wr => (BA.on BA.lt q.2).cells.2.2.2.2.2
          have qb4 := fun q : Vw.Wd wr => (BB.on BB.lt q.2).cells.2.2.2.2.1
          have qb5 := fun q : Vw.Wd wr => (BB.on BB.lt q.2).cells.2.2.2.2.2
          have qy0 := fun q : Vw.Wd wr => Vt.cell_on (q.2.block _ hbi) y0
          have qy1 := fun q : Vw.Wd wr => Vt.cell_on (q.2.block _ hbi) y1
          have qy2 := fun q : Vw.Wd wr => Vt.cell_on (q.2.block _ hbi) y2
          have qy3 := fun q : Vw.Wd wr => Vt.cell_on (q.2.block _ hbi) y3
          have qy4 := fun q : Vw.Wd wr => Vt.cell_on (q.2.block _ hbi) y4
          have qy5 := fun q : Vw.Wd wr => Vt.cell_on (q.2.block _ hbi) y5
          have qz0 := fun q : Vw.Wd wr => Vt.cell_on (q.2.block _ hbi') z0
          have qz1 := fun q : Vw.Wd wr => Vt.cell_on (q.2.block _ hbi') z1
          have qz2 := fun q : Vw.Wd wr => Vt.cell_on (q.2.block _ hbi') z2
          have qz3 := fun q : Vw.Wd wr => Vt.cell_on (q.2.block _ hbi') z3
          have qz4 := fun q : Vw.Wd wr => Vt.cell_on (q.2.block _ hbi') z4
          have qz5 := fun q : Vw.Wd wr => Vt.cell_on (q.2.block _ hbi') z5
          have HKY := Lib.hid ((H.out.on' hb2).keys).1
          have HKZ := Lib.hid ((H'.out.on' hb2).keys).1
          clear hb2 hbr BA BB y0 y1 y2 y3 y4 y5 z0 z1 z2 z3 z4 z5
          cases hq : (it j).rsame (it' j) with
          | false =>
            have HZ2 : Hid (Z = false) := HZ.out.trans (Vt.allTo_no (by rw [hq]; rfl) hjm)
            have hcq := fun q : Vw.Wd wr => Vw.call q (congrArg Value.bool hq) (HI.out j _ _ q.1 (HL.out q) (HL'.out q))
            have HC := Lib.hid hcq
            clear hcq
            clear hq HZ
            go_wp2_with fail
            clear c4 d4
            refine Vw.region (L := wr) (by kernel_rfl) ?_
            repeat (go_big_quiet_step (first | (go_at_call 38; exact HC.out _)))
            refine wpQuiet_nil ?_
            rintro _ ⟨q, rfl⟩
            go_wp2
            go_ret
            rw [HZ2.out]
            exact ⟨rfl, Vm.then HBR.out q.2⟩
          | true =>
            have hcq := fun q : Vw.Wd wr => Vw.call q (congrArg Value.bool hq) (HI.out j _ _ q.1 (HL.out q) (HL'.out q))
            have HC := Lib.hid hcq
            clear hcq
            by_cases hjk : j < m
            · have dk : decide ((j : Int) < (m : Int)) = true := decide_eq_true (by omega)
              obtain ⟨bk, ok, rfl, hbk, hck⟩ := HKY.out.cell j hjk
              obtain ⟨bk', ok', rfl, hbk', hck'⟩ := HKZ.out.cell j hjk
              have hld : j < d := Nat.lt_of_lt_of_le hjk HKY.out.le
              have hld' : j < d' := Nat.lt_of_lt_of_le hjk HKZ.out.le
              have qk := fun q : Vw.Wd wr => Vt.cell_on (q.2.block _ hbk) hck
              have qk' := fun q : Vw.Wd wr => Vt.cell_on (q.2.block _ hbk') hck'
              clear hck hck'
              cases hy : ((ks j).toList == (ks' j).toList) with
              | true =>
                have HN : Hid (Vt.allTo (fun i => (it i).rsame (it' i) && (decide (m ≤ i) || (ks i).toList == (ks' i).toList)) (j + 1) = true) := by unfold Hid Vt.allTo; rw [HJ.out, hq, hy]; simp
                clear hq
                generalize ks j = X at *
                generalize ks' j = Y at *
                go_wp2_with fail
                clear c4 d4
                refine Vw.region (L := wr) (by kernel_rfl) ?_
                repeat (go_big_quiet_step (first | (go_at_call 38; exact HC.out _)))
                refine wpQuiet_nil ?_
                rintro _ ⟨q, rfl⟩
                go_wp2
                refine ⟨⟨j + 1, hjm, by go_num, HN, Vm.then HB3.out q.2⟩, ?_⟩
                simp [intOf]
                omega
              | false =>
                have HZ2 : Hid (Z = false) := HZ.out.trans (Vt.allTo_no (by rw [hq, hy, decide_eq_false (by omega)]; rfl) hjm)
                clear hq HZ
                generalize ks j = X at *
                generalize ks' j = Y at *
                go_wp2_with fail
                clear c4 d4
                refine Vw.region (L := wr) (by kernel_rfl) ?_
                repeat (go_big_quiet_step (first | (go_at_call 38; exact HC.out _)))
                refine wpQuiet_nil ?_
                rintro _ ⟨q, rfl⟩
                go_wp2
                go_ret
                rw [HZ2.out]
                exact ⟨rfl, Vm.then HBR.out q.2⟩
            · have dk : decide ((j : Int) < (m : Int)) = false := decide_eq_false (by omega)
              have HN : Hid (Vt.allTo (fun i => (it i).rsame (it' i) && (decide (m ≤ i) || (ks i).toList == (ks' i).toList)) (j + 1) = true) := by unfold Hid Vt.allTo; rw [HJ.out, hq, decide_eq_true (show m ≤ j by omega)]; rfl
              clear hq
              go_wp2_with fail
              clear c4 d4
              refine Vw.region (L := wr) (by kernel_rfl) ?_
              repeat (go_big_quiet_step (first | (go_at_call 38; exact HC.out _)))
              refine wpQuiet_nil ?_
              rintro _ ⟨q, rfl⟩
              go_wp2
              refine ⟨⟨j + 1, hjm, by go_num, HN, Vm.then HB3.out q.2⟩, ?_⟩
              simp [intOf]
              omega
        · have e : j = n := by omega
          subst e
          go_wp2
          go_ret
          rw [HZ.out, HJ.out]
          exact ⟨rfl, hb2⟩

set_option maxRecDepth 100000 in
set_option maxHeartbeats 4000000 in
theorem Rv.sameAll (t u : Vt) (v v' : Value) (w : World) (h : t.Lies w (· < w.heap.size) v) (h' : u.Lies w (· < w.heap.size) v') : Calls Tryd.prog 20 #[v, v'] w fun e w' => e = .returned (.bool (t.same u)) ∧ Below w.heap.size w w' := by
  obtain ⟨k, x, b, s, ai, n, c, ak, m, d, rfl⟩ := h.form
  obtain ⟨k', x', b', s', ai', n', c', ak', m', d', rfl⟩ := h'.form
  have H := Lib.hid h
  have H' := Lib.hid h'
  have HS : Hid (t.same u = (t.may && u.may && t.rsame u)) := (Vt.rsame_same t u _ _ h h').symm
  clear h h'
  generalize hz : t.same u = Z at *
  clear hz
  go_enter Tryd.func20, Tryd.ntmps20
  go_wp2_with fail
  refine (Rv.may t _ _ ((H.out.alloc _).alloc _)).mono ?_
  rintro e w1 ⟨rfl, hw⟩
  have B1 := (Vm.box hw)
  have A1 := (Vm.box (Vm.behind hw))
  have hb1 := Vm.behind2 hw
  have hs1 : w.heap.size + 2 ≤ w1.heap.size := by have := hw.size; simp at this; omega
  simp only [World.size_alloc] at B1
  obtain ⟨c0, c1, c2, c3, c4, c5⟩ := A1.cells
  obtain ⟨d0, d1, d2, d3, d4, d5⟩ := B1.cells
  have HA := Lib.hid A1
  have HB := Lib.hid B1
  clear hw A1 B1
  generalize t.may = M at *
  cases M with
  | false =>
    go_wp2
    go_ret
    rw [HS.out]
    exact ⟨rfl, hb1⟩
  | true =>
    go_wp2_with fail
    refine (Rv.may u _ _ (H'.out.on' hb1)).mono ?_
    rintro e w2 ⟨rfl, hw2⟩
    have hb2 := Vm.then hb1 hw2
    clear c0 c1 c2 c3 c4 c5 d0 d1 d2 d3 d4 d5
    obtain ⟨c0, c1, c2, c3, c4, c5⟩ := (HA.out.on (by omega) hw2).cells
    obtain ⟨d0, d1, d2, d3, d4, d5⟩ := (HB.out.on (by omega) hw2).cells
    clear HA HB hw2 hb1 hs1
    generalize u.may = M' at *
    cases M' with
    | false =>
      go_wp2
      go_ret
      rw [HS.out]
      exact ⟨rfl, hb2⟩
    | true =>
      go_wp2_with fail
      refine (Rv.same t u _ _ _ (H.out.on' hb2) (H'.out.on' hb2)).mono ?_
      rintro e w3 ⟨rfl, hw3⟩
      have hb3 := Vm.then hb2 hw3
      clear hb2 hw3 c0 c1 c2 c3 c4 c5 d0 d1 d2 d3 d4 d5 H H'
      generalize t.rsame u = Q at *
      go_wp2
      go_ret
      rw [HS.out]
      exact ⟨by simp, hb3⟩
end Go.Proofs.YtggfemdnoccmeaaDoor
