/-
  THE WALKS of the program's value.alike and Same, of slices.EqualFunc with it.
-/
import Derived.Test.YtggfemdnoccmeaaDoorVLess
namespace Go.Proofs.YtggfemdnoccmeaaDoor
open Go.RowKit

theorem Vt.cell_alloc {w : World} {b o : Nat} {v : Value} (h : w.cell? ⟨b, o, none⟩ = some v) (x : Obj) : (w.alloc x).cell? ⟨b, o, none⟩ = some v := Vt.cell_on (Below.heap_alloc _ _ _ (Vt.cell_lt h)) h
/-- are two values the same, as the program compares them? -/
def Vt.alike : Vt → Vt → Bool
  | .nil, _ => false
  | .mk .., .nil => false
  | .mk k x b s n it m ks, .mk k' x' b' s' n' it' m' ks' =>
    if k ≠ k' then false
    else if k = 3 then Re.num b && decide (Re.rank b = Re.rank b')
    else decide (x = x') && (s.toList == s'.toList) && Vt.sameKeys m m' ks ks' && (decide (n = n') && Vt.allTo (fun i => (it i).alike (it' i)) n)

/-- what alike comes to, of two trees -/
def Va.Said (t u : Vt) : Prop := ∀ (v v' : Value) (w : World), t.Lies w (· < w.heap.size) v → u.Lies w (· < w.heap.size) v' →
  Calls Tryd.prog 37 #[v, v'] w fun e w' => e = .returned (.bool (t.alike u)) ∧ Below w.heap.size w w'

set_option maxRecDepth 100000 in
set_option maxHeartbeats 2000000 in
theorem Va.equalFunc (n n' : Nat) (it it' : Nat → Vt) (ih : ∀ i, Va.Said (it i) (it' i)) (ai ai' : Option Addr) (c c' : Nat) (w : World) (hc : n ≤ c ∧ c ≤ maxLen) (hc' : n' ≤ c' ∧ c' ≤ maxLen)
    (h : ∀ i, i < n → ∃ bi oi v0 v1 v2 v3 v4 v5, ai = some ⟨bi, oi, none⟩ ∧ bi < w.heap.size ∧ w.cell? ⟨bi, oi + i * 6, none⟩ = some v0 ∧ w.cell? ⟨bi, oi + i * 6 + 1, none⟩ = some v1 ∧ w.cell? ⟨bi, oi + i * 6 + 2, none⟩ = some v2 ∧ w.cell? ⟨bi, oi + i * 6 + 3, none⟩ = some v3 ∧ w.cell? ⟨bi, oi + i * 6 + 4, none⟩ = some v4 ∧ w.cell? ⟨bi, oi + i * 6 + 5, none⟩ = some v5 ∧ (it i).Lies w (· < w.heap.size) (.agg #[v0, v1, v2, v3, v4, v5]))
    (h' : ∀ i, i < n' → ∃ bi oi v0 v1 v2 v3 v4 v5, ai' = some ⟨bi, oi, none⟩ ∧ bi < w.heap.size ∧ w.cell? ⟨bi, oi + i * 6, none⟩ = some v0 ∧ w.cell? ⟨bi, oi + i * 6 + 1, none⟩ = some v1 ∧ w.cell? ⟨bi, oi + i * 6 + 2, none⟩ = some v2 ∧ w.cell? ⟨bi, oi + i * 6 + 3, none⟩ = some v3 ∧ w.cell? ⟨bi, oi + i * 6 + 4, none⟩ = some v4 ∧ w.cell? ⟨bi, oi + i * 6 + 5, none⟩ = some v5 ∧ (it' i).Lies w (· < w.heap.size) (.agg #[v0, v1, v2, v3, v4, v5])) :
    Calls Tryd.prog 59 #[.slice ai n c, .slice ai' n' c', .func (.func 37) #[] #[]] w fun e w' => e = .returned (.bool (decide (n = n') && Vt.allTo (fun i => (it i).alike (it' i)) n)) ∧ Below w.heap.size w w' := by
  by_cases hmm : n = n'
  · subst hmm
    have hm : n ≤ 9223372036854775807 := by have := hc.2; unfold maxLen at this; omega
    have HH := Lib.hid h
    have HH' := Lib.hid h'
    have HI := Lib.hid ih
    clear h h' ih
    rw [decide_eq_true (rfl : n = n), Bool.true_and]
    generalize hz : Vt.allTo (fun i => (it i).alike (it' i)) n = Z
    have HZ := Lib.hid hz
    clear hz
    go_enter Tryd.func59, Tryd.ntmps59
    go_wp2
    go_loopw [17] (fun i wr => ∃ j : Nat, j ≤ n ∧ i = .int .i64 j ∧ Hid (Vt.allTo (fun i => (it i).alike (it' i)) j = true) ∧ Below w.heap.size w wr) (fun i _ => n - (intOf i).toNat)
    case atStart => exact ⟨0, Nat.zero_le _, by go_num, rfl, Below.refl _ _⟩
    case round =>
      obtain ⟨j, hj, rfl, HK, hbr⟩ := hrel
      by_cases hjm : j < n
      · obtain ⟨bi, oi, v0, v1, v2, v3, v4, v5, rfl, hbi, c0, c1, c2, c3, c4, c5, hli⟩ := HH.out j hjm
        obtain ⟨bi', oi', u0, u1, u2, u3, u4, u5, rfl, hbi', d0, d1, d2, d3, d4, d5, hli'⟩ := HH'.out j hjm
        have hle : j < c := Nat.lt_of_lt_of_le hjm hc.1
        have hle' : j < c' := Nat.lt_of_lt_of_le hjm hc'.1
        have hbl := hbr.block bi hbi
        have hbl' := hbr.block bi' hbi'
        replace c0 := Vt.cell_on hbl c0
        replace c1 := Vt.cell_on hbl c1
        replace c2 := Vt.cell_on hbl c2
        replace c3 := Vt.cell_on hbl c3
        replace c4 := Vt.cell_on hbl c4
        replace c5 := Vt.cell_on hbl c5
        replace d0 := Vt.cell_on hbl' d0
        replace d1 := Vt.cell_on hbl' d1
        replace d2 := Vt.cell_on hbl' d2
        replace d3 := Vt.cell_on hbl' d3
        replace d4 := Vt.cell_on hbl' d4
        replace d5 := Vt.cell_on hbl' d5
        obtain ⟨k1, x1, b1, s1, ai1, n1, c1', ak1, m1, e1, rfl, rfl, rfl, rfl, rfl, rfl⟩ := hli.cells
        obtain ⟨k2, x2, b2, s2, ai2, n2, c2', ak2, m2, e2, rfl, rfl, rfl, rfl, rfl, rfl⟩ := hli'.cells
        replace d0 := Vt.cell_alloc d0
        replace d1 := Vt.cell_alloc d1
        replace d2 := Vt.cell_alloc d2
        replace d3 := Vt.cell_alloc d3
        replace d4 := Vt.cell_alloc d4
        replace d5 := Vt.cell_alloc d5
        have HL := Lib.hid (hli.on' hbr)
        have HL' := Lib.hid (hli'.on' hbr)
        clear hli hli' hbl hbl'
        go_wp2_with fail
        refine (HI.out j _ _ _ ((HL.out.alloc _).alloc _) ((HL'.out.alloc _).alloc _)).mono ?_
        rintro e w2 ⟨rfl, hw2⟩
        have hb2 := Vm.then hbr (Vm.behind2 hw2)
        clear hw2 c0 c1 c2 c3 c4 c5 d0 d1 d2 d3 d4 d5 HL HL' hbr
        cases hq : (it j).alike (it' j) with
        | false =>
          have HZ2 : Hid (Z = false) := HZ.out.symm.trans (Vt.allTo_no hq hjm)
          clear HZ
          go_wp2
          go_ret
          rw [HZ2.out]
          exact ⟨rfl, hb2⟩
        | true =>
          have HN : Hid (Vt.allTo (fun i => (it i).alike (it' i)) (j + 1) = true) := by unfold Hid Vt.allTo; rw [HK.out, hq]; rfl
          clear hq
          go_wp2
          refine ⟨⟨j + 1, hjm, by go_num, HN, hb2⟩, ?_⟩
          simp [intOf]
          omega
      · have e : j = n := by omega
        subst e
        go_wp2
        go_ret
        rw [← HZ.out, HK.out]
        exact ⟨rfl, hbr⟩
  · have d1 : ((n : Int) == (n' : Int)) = false := beq_eq_false_iff_ne.2 (by omega)
    rw [decide_eq_false hmm, Bool.false_and]
    go_enter Tryd.func59, Tryd.ntmps59
    go_wp2
    go_ret
    exact ⟨rfl, Below.refl _ _⟩
theorem Vt.Lies.keys {w : World} {R : Nat → Prop} {k x : Int} {b : Nat} {s : ByteArray} {n : Nat} {it : Nat → Vt} {m : Nat} {ks : Nat → ByteArray} {ai ak : Option Addr} {c d : Nat}
    (h : (Vt.mk k x b s n it m ks).Lies w R (.agg #[.int .i64 k, .int .i64 x, .int .u64 (b : Int), .string s, .slice ai n c, .slice ak m d])) :
    Vt.Keys w R m ks ak d ∧ (n ≤ c ∧ c ≤ maxLen) ∧ ∀ i, i < n → ∃ bi oi v0 v1 v2 v3 v4 v5, ai = some ⟨bi, oi, none⟩ ∧ R bi ∧ w.cell? ⟨bi, oi + i * 6, none⟩ = some v0 ∧ w.cell? ⟨bi, oi + i * 6 + 1, none⟩ = some v1 ∧ w.cell? ⟨bi, oi + i * 6 + 2, none⟩ = some v2 ∧ w.cell? ⟨bi, oi + i * 6 + 3, none⟩ = some v3 ∧ w.cell? ⟨bi, oi + i * 6 + 4, none⟩ = some v4 ∧ w.cell? ⟨bi, oi + i * 6 + 5, none⟩ = some v5 ∧ (it i).Lies w R (.agg #[v0, v1, v2, v3, v4, v5]) := by
  obtain ⟨ai', c', ak', d', e, hb, hn, hc, hk, hi⟩ := h
  simp only [Value.agg.injEq, Array.mk.injEq, List.cons.injEq, Value.slice.injEq, true_and, and_true] at e
  obtain ⟨⟨rfl, rfl⟩, rfl, rfl⟩ := e
  exact ⟨hk, ⟨hn, hc⟩, hi⟩

set_option maxRecDepth 100000 in
set_option maxHeartbeats 4000000 in
theorem Va.alike : ∀ (t u : Vt), Va.Said t u := by
  intro t
  induction t with
  | nil => intro u v v' w h h'; exact h.elim
  | mk k x b s n it m ks ih =>
  intro u
  cases u with
  | nil => intro v v' w h h'; exact h'.elim
  | mk k' x' b' s' n' it' m' ks' =>
    intro v v' w h h'
    have H := Lib.hid h
    have H' := Lib.hid h'
    obtain ⟨ai, c, ak, d, rfl, hb, hn, hc, _, _⟩ := h
    obtain ⟨ai', c', ak', d', rfl, hb', hn', hc', _, _⟩ := h'
    have HT : Hid ((Vt.mk k x b s n it m ks).alike (.mk k' x' b' s' n' it' m' ks') = if k ≠ k' then false
      else if k = 3 then Re.num b && decide (Re.rank b = Re.rank b')
      else decide (x = x') && (s.toList == s'.toList) && Vt.sameKeys m m' ks ks' && (decide (n = n') && Vt.allTo (fun i => (it i).alike (it' i)) n)) := by unfold Hid; rw [Vt.alike]
    have HI : Hid (∀ i, Va.Said (it i) (it' i)) := fun i => ih i (it' i)
    clear ih
    generalize hz : (Vt.mk k x b s n it m ks).alike (.mk k' x' b' s' n' it' m' ks') = Z at *
    clear hz
    by_cases hk : k = k'
    · subst hk
      by_cases k3 : k = 3
      · subst k3
        have N1 := fun W => Vl.number b hb W
        have R1 := fun W => Vl.rank b hb W
        have R2 := fun W => Vl.rank b' hb' W
        have HK : Hid (Z = (Re.num b && decide (Re.rank b = Re.rank b'))) := HT.out
        clear HT
        generalize Re.num b = P at *
        generalize Re.rank b = r at *
        generalize Re.rank b' = r' at *
        have n1 := Lib.hid N1
        have r1 := Lib.hid R1
        have r2 := Lib.hid R2
        clear N1 R1 R2
        cases P with
        | false =>
          go_enter Tryd.func37, Tryd.ntmps37
          go_wp2_with fail
          go_quiet (first | (go_at_call_of 27 b; exact Calls.quiet_of_same (n1.out _)))
          go_wp2
          go_ret
          rw [HK.out]
          exact ⟨rfl, Vm.drewN (((Below.refl _ _).alloc (Nat.le_refl _) _).alloc (by simp) _) _⟩
        | true =>
          go_enter Tryd.func37, Tryd.ntmps37
          go_wp2_with fail
          go_quiet (first | (go_at_call_of 27 b; exact Calls.quiet_of_same (n1.out _)) | (go_at_call_of 28 b; exact Calls.quiet_of_same (r1.out _)) | (go_at_call_of 28 b'; exact Calls.quiet_of_same (r2.out _)))
          go_wp2
          go_ret
          rw [HK.out]
          refine ⟨?_, Vm.drewN (((Below.refl _ _).alloc (Nat.le_refl _) _).alloc (by simp) _) _⟩
          simp
          rfl
      · have e3 : (k == 3) = false := beq_eq_false_iff_ne.2 k3
        have HE : Hid (Z = (decide (x = x') && (s.toList == s'.toList) && Vt.sameKeys m m' ks ks' && (decide (n = n') && Vt.allTo (fun i => (it i).alike (it' i)) n))) := by
          have := HT.out
          rw [if_neg (by simp), if_neg k3] at this
          exact this
        clear HT
        by_cases hx : x = x'
        · have ex : (x == x') = true := beq_iff_eq.2 hx
          cases hs : (s.toList == s'.toList) with
          | false =>
            have HZ : Hid (Z = false) := (by have := HE.out; rw [hs] at this; exact (show Z = false from by simpa using this))
            clear HE
            go_enter Tryd.func37, Tryd.ntmps37
            go_wp2
            go_ret
            rw [HZ.out]
            exact ⟨rfl, ((Below.refl _ _).alloc (Nat.le_refl _) _).alloc (by simp) _⟩
          | true =>
            generalize hq : Vt.sameKeys m m' ks ks' = Q at *
            have HQ := Lib.hid hq
            clear hq
            go_enter Tryd.func37, Tryd.ntmps37
            go_wp2_with fail
            refine (Ve.equal m m' ks ks' ak ak' d d' _ _ _ (((H.out.alloc _).alloc _).keys).1 (((H'.out.alloc _).alloc _).keys).1).mono ?_
            rintro e w1 ⟨rfl, hw⟩
            rw [HQ.out]
            have B1 := (Vm.box hw)
            have A1 := (Vm.box (Vm.behind hw))
            have hb1 := Vm.behind2 hw
            simp only [World.size_alloc] at B1
            obtain ⟨c0, c1, c2, c3, c4, c5⟩ := A1.cells
            obtain ⟨d0, d1, d2, d3, d4, d5⟩ := B1.cells
            clear hw A1 B1
            cases Q with
            | false =>
              have HZ : Hid (Z = false) := (by have := HE.out; rw [hs] at this; exact (show Z = false from by simpa using this))
              clear HE
              go_wp2
              go_ret
              rw [HZ.out]
              exact ⟨rfl, hb1⟩
            | true =>
              have HZ : Hid (Z = (decide (n = n') && Vt.allTo (fun i => (it i).alike (it' i)) n)) := (by have := HE.out; rw [hs, decide_eq_true hx] at this; exact (show Z = (decide (n = n') && Vt.allTo (fun i => (it i).alike (it' i)) n) from by simpa using this))
              clear HE
              go_wp2_with fail
              refine (Va.equalFunc n n' it it' HI.out ai ai' c c' _ ⟨hn, hc⟩ ⟨hn', hc'⟩ ((H.out.on' hb1).keys).2.2 ((H'.out.on' hb1).keys).2.2).mono ?_
              rintro e w2 ⟨rfl, hw2⟩
              have hb2 := Vm.then hb1 hw2
              rw [← HZ.out]
              clear hw2 hb1 c0 c1 c2 c3 c4 c5 d0 d1 d2 d3 d4 d5 H H' HZ HQ HI
              go_wp2
              go_ret
              exact ⟨rfl, hb2⟩
        · have ex : (x == x') = false := beq_eq_false_iff_ne.2 hx
          have HZ : Hid (Z = false) := (by have := HE.out; rw [decide_eq_false hx] at this; exact (show Z = false from by simpa using this))
          clear HE
          go_enter Tryd.func37, Tryd.ntmps37
          go_wp2
          go_ret
          rw [HZ.out]
          exact ⟨rfl, ((Below.refl _ _).alloc (Nat.le_refl _) _).alloc (by simp) _⟩
    · have e : (k == k') = false := beq_eq_false_iff_ne.2 hk
      have HE : Hid (Z = false) := by
        have := HT.out
        rw [if_pos hk] at this
        exact this
      clear HT
      go_enter Tryd.func37, Tryd.ntmps37
      go_wp2
      go_ret
      rw [HE.out]
      exact ⟨rfl, ((Below.refl _ _).alloc (Nat.le_refl _) _).alloc (by simp) _⟩
def Vt.same (t u : Vt) : Bool := t.may && u.may && t.alike u

set_option maxRecDepth 100000 in
set_option maxHeartbeats 4000000 in
theorem Va.same (t u : Vt) (v v' : Value) (w : World) (h : t.Lies w (· < w.heap.size) v) (h' : u.Lies w (· < w.heap.size) v') : Calls Tryd.prog 19 #[v, v'] w fun e w' => e = .returned (.bool (t.same u)) ∧ Below w.heap.size w w' := by
  obtain ⟨k, x, b, s, ai, n, c, ak, m, d, rfl⟩ := h.form
  obtain ⟨k', x', b', s', ai', n', c', ak', m', d', rfl⟩ := h'.form
  have H := Lib.hid h
  have H' := Lib.hid h'
  clear h h'
  have HS : Hid (t.same u = (t.may && u.may && t.alike u)) := rfl
  generalize hz : t.same u = Z at *
  clear hz
  go_enter Tryd.func19, Tryd.ntmps19
  go_wp2_with fail
  refine (Vm.may t _ _ ((H.out.alloc _).alloc _)).mono ?_
  rintro e w1 ⟨rfl, hw⟩
  have B1 := (Vm.box hw)
  have A1 := (Vm.box (Vm.behind hw))
  have hb1 := Vm.behind2 hw
  have hs1 : w.heap.size + 2 ≤ w1.heap.size := by have := hw.size; simp at this; omega
  simp only [World.size_alloc] at B1
  obtain ⟨c0, c1, c2, c3, c4, c5⟩ := A1.cells
  obtain ⟨d0, d1, d2, d3, d4, d5⟩ := B1.cells
  have HA := Lib.hid A1
  have HB := Lib.hid B1
  clear hw A1 B1
  generalize t.may = M at *
  cases M with
  | false =>
    go_wp2
    go_ret
    rw [HS.out]
    exact ⟨rfl, hb1⟩
  | true =>
    go_wp2_with fail
    refine (Vm.may u _ _ (H'.out.on' hb1)).mono ?_
    rintro e w2 ⟨rfl, hw2⟩
    have hb2 := Vm.then hb1 hw2
    clear c0 c1 c2 c3 c4 c5 d0 d1 d2 d3 d4 d5
    obtain ⟨c0, c1, c2, c3, c4, c5⟩ := (HA.out.on (by omega) hw2).cells
    obtain ⟨d0, d1, d2, d3, d4, d5⟩ := (HB.out.on (by omega) hw2).cells
    clear HA HB hw2 hb1 hs1
    generalize u.may = M' at *
    cases M' with
    | false =>
      go_wp2
      go_ret
      rw [HS.out]
      exact ⟨rfl, hb2⟩
    | true =>
      go_wp2_with fail
      refine (Va.alike t u _ _ _ (H.out.on' hb2) (H'.out.on' hb2)).mono ?_
      rintro e w3 ⟨rfl, hw3⟩
      have hb3 := Vm.then hb2 hw3
      clear hb2 hw3 c0 c1 c2 c3 c4 c5 d0 d1 d2 d3 d4 d5 H H'
      generalize t.alike u = Q at *
      go_wp2
      go_ret
      rw [HS.out]
      exact ⟨by simp, hb3⟩
end Go.Proofs.YtggfemdnoccmeaaDoor
