/-
  THE WALK of begin.
-/
import Derived.Test.YtjppobeomocgbaaGreatDoorTNMovetoNPut
namespace Go.Proofs.YtjppobeomocgbaaGreatDoor
open Go.RowKit
/-- the error of a step -/
def Mz.code (R : Except Int Mz.St) : Int :=
  match R with
  | .error c => c
  | .ok _ => 0
/-- what a step of the reader leaves -/
structure Ml.Out (base : Nat) (w : World) (g : Nat) (R : Except Int Mz.St) (e : Ending) (w' : World) : Prop where
  low : Below base w w'
  e : e = .returned (.int .i64 (Mz.code R))
  ne : ∀ c, R = .error c → c ≠ 0
  ok : ∀ t, R = .ok t → Ml.Is base w' g t
theorem Ml.Out.err {base g : Nat} {w w' : World} {c : Int} (hb : Below base w w') (hc : c ≠ 0) : Ml.Out base w g (.error c) (.returned (.int .i64 c)) w' := ⟨hb, rfl, fun d hd => (by injection hd with hd; rw [← hd]; exact hc), fun t ht => by cases ht⟩
theorem Ml.Out.fine {base g : Nat} {w w' : World} {t : Mz.St} (hb : Below base w w') (hi : Ml.Is base w' g t) : Ml.Out base w g (.ok t) (.returned (.int .i64 0)) w' := ⟨hb, rfl, fun d hd => (by cases hd), fun u hu => by injection hu with hu; rw [← hu]; exact hi⟩
theorem Ml.Out.same {base g : Nat} {w w' : World} {R : Except Int Mz.St} (hb : Below base w w') (hn : ∀ c, R = .error c → c ≠ 0) (hi : ∀ t, R = .ok t → Ml.Is base w' g t) : Ml.Out base w g R (.returned (.int .i64 (Mz.code R))) w' := ⟨hb, rfl, hn, hi⟩
theorem Ml.info : (Tryz.prog.info? 140).map (fun i => (i.zero, i.size, i.bytes)) = some (some (.agg #[.int .i64 0, .string ⟨#[]⟩, .slice none 0 0, .slice none 0 0, .slice none 0 0, .bool false]), 6, 104) := by kernel_rfl
theorem Ml.six_ones (k : Int) (a : Option Addr) (n d : Nat) : ∀ u ∈ Ml.six k (.slice a n d), u.oneCell' = true := by
  intro u hu
  unfold Ml.six at hu
  simp only [List.mem_cons, List.not_mem_nil, or_false] at hu
  rcases hu with rfl | rfl | rfl | rfl | rfl | rfl <;> rfl
set_option maxRecDepth 100000 in
set_option maxHeartbeats 8000000 in
theorem Ml.begin {base g : Nat} {w : World} {s : Mz.St} {k : Int} {p : List Cm} {a2 : Option Addr} {n2 d2 : Nat} (h : Ml.Has base w g s [Cm.rows p] [.slice a2 n2 d2]) (hlo : base ≤ w.heap.size) :
    Calls Tryz.prog 85 #[.pointer (some ⟨g, 0, none⟩), .agg #[.int .i64 k, .string ⟨#[]⟩, .slice a2 n2 d2, .slice none 0 0, .slice none 0 0]] w (Ml.Out base w g (if s.op.length = 16 then .error 1603 else .ok (s.begin k p))) := by
  obtain ⟨w1, hw1⟩ : ∃ w1, w.alloc (.cells #[.int .i64 k, .string ⟨#[]⟩, .slice a2 n2 d2, .slice none 0 0, .slice none 0 0] 37) = w1 := ⟨_, rfl⟩
  have hB1 : Below w.heap.size w w1 := by rw [← hw1]; exact (Below.refl w.heap.size w).alloc (Nat.le_refl _) _
  have hX : Bs.Box w1 w.heap.size #[.int .i64 k, .string ⟨#[]⟩, .slice a2 n2 d2, .slice none 0 0, .slice none 0 0] 37 := by rw [← hw1]; exact Bs.Box.new w _ _ _ rfl
  have h1 := h.on hB1
  have hlo1 : base ≤ w1.heap.size := Nat.le_trans hlo hB1.size
  have HB1 : Hid (Below base w w1) := hB1.mono hlo
  obtain ⟨own, iv, ov, xs, hA, hF, _⟩ := h1
  have hxb := hX.lt
  have hgl := hA.box.lt
  obtain ⟨ub, hub⟩ : ∃ ub, w.heap.size = ub := ⟨_, rfl⟩
  rw [hub] at hX hxb
  have hdp := hA.deep
  obtain ⟨_, a, d, rfl⟩ := hA.form
  have c1 : w1.cell? ⟨g, 1, none⟩ = some (.slice a s.op.length d) := hA.box.cell 1 rfl
  have fz := fun q => hA.box.frozen q
  by_cases h16 : s.op.length = 16
  · rw [if_pos h16]
    rw [h16] at c1
    clear hA hF h hB1 hX
    go_enter Tryz.func85, Tryz.ntmps85
    go_wp2_with fail
    go_ret
    exact .err HB1.out (by decide)
  · rw [if_neg h16]
    have HE := Lib.hid (fun (u w4 : World) (ov4 : Value) hb hown hg hf => Ml.At.begin (w1 := u) (w4 := w4) (ov4 := ov4) (k := k) (p := p) hA (by omega) hF hb hown hg hf)
    have d16 : ((s.op.length : Int) == 16) = false := beq_eq_false_iff_ne.2 (by omega)
    have hgo : (Value.slice a s.op.length d).ownBlock ≠ some g := fun e => (hA.oo g e).2 rfl
    have HG : Hid (∀ u : World, u.heap = w1.heap → u.ownsRow base 140 6 (.slice a s.op.length d) s.op.length xs) := fun u e => Rm.own_on hA.op fun _ _ => by rw [e]
    have HN : Hid (s.op.length + 1 ≤ maxLen ∧ (s.op.length + 1) * 104 ≤ 140737488355328 ∧ base ≤ w1.heap.size) := ⟨by unfold maxLen; omega, by omega, hlo1⟩
    have x0 : w1.cell? ⟨ub, 0, none⟩ = some (.int .i64 k) := hX.cell 0 rfl
    have x1 : w1.cell? ⟨ub, 1, none⟩ = some (.string ⟨#[]⟩) := hX.cell 1 rfl
    have x2 : w1.cell? ⟨ub, 2, none⟩ = some (.slice a2 n2 d2) := hX.cell 2 rfl
    have x3 : w1.cell? ⟨ub, 3, none⟩ = some (.slice none 0 0) := hX.cell 3 rfl
    have x4 : w1.cell? ⟨ub, 4, none⟩ = some (.slice none 0 0) := hX.cell 4 rfl
    have HC4 : Hid (∀ (u w4 : World) {o : Obj}, u.heap = (w1.alloc o).heap → u.grownBy w4 (Value.slice a s.op.length d).ownBlock → w4.cell? ⟨g, 1, none⟩ = some (.slice a s.op.length d)) := fun u w4 o e hg => by
      refine (World.cell?_of_block (hg.block g (by rw [e]; simp; omega) (fun q => hgo q.symm))).trans ?_
      refine (World.cell?_of_block (w := w1) ?_).trans c1
      rw [e]
      exact Below.heap_alloc _ _ _ hgl
    have HF4 : Hid (∀ (u w4 : World) {o : Obj}, u.heap = (w1.alloc o).heap → u.grownBy w4 (Value.slice a s.op.length d).ownBlock → w4.frozen? ⟨g, 1, none⟩ = false) := fun u w4 o e hg => by
      refine (World.frozen?_of_block (hg.block g (by rw [e]; simp; omega) (fun q => hgo q.symm))).trans ?_
      refine (World.frozen?_of_block (w := w1) ?_).trans (fz 1)
      rw [e]
      exact Below.heap_alloc _ _ _ hgl
    have HBW : Hid (∀ (u w4 : World) {o : Obj} {u2 : Value}, u.heap = (w1.alloc o).heap → Below w1.heap.size w1 u → u.grownBy w4 (Value.slice a s.op.length d).ownBlock → Below base w1 (w4.setCell ⟨g, 1, none⟩ u2)) := fun u w4 o u2 e hb hg => by
      have hz := hg.size
      have hbz := hb.size
      refine ⟨hg.os.trans hb.os, hg.tape.trans hb.tape, hg.output.trans hb.output, by simp; omega, fun q hq => (Below.heap_setCell _ _ _ _ (by have := hA.lo; show q ≠ g; omega)).trans ((hg.block q (by omega) (fun e => by have := (hA.op.lt q e.symm).1; omega)).trans (hb.block q (by omega)))⟩
    have HDN : Hid (∀ (n1 : Nat) (o' : Obj), Below w1.heap.size w1 ((w1.drewN n1).alloc o')) := fun n1 o' => ⟨rfl, rfl, rfl, by simp, fun q hq => Below.heap_alloc (w1.drewN n1) _ _ hq⟩
    clear hA hF h hB1 hX h16 fz
    generalize s.op.length = n at *
    go_enter Tryz.func85, Tryz.ntmps85
    go_upto_region 3 with fail
    have hal : ∀ (o' : Obj) (q r : Nat), q < w1.heap.size → (w1.drew.alloc o').cell? ⟨q, r, none⟩ = w1.cell? ⟨q, r, none⟩ := fun o' q r hq => World.cell?_of_block (w := w1) (Below.heap_alloc w1.drew _ _ hq)
    have c1A := fun o' => (hal o' g 1 hgl).trans c1
    have HDR : Hid (∀ o' : Obj, Below w1.heap.size w1 (w1.drew.alloc o')) := fun o' => HDN.out 1 o'
    clear hal HDN
    go_region_law (first | (refine Ro.step_push rfl (.tmp 15) (.tmp 18) 52 140 6 104 _ rfl Tryz.underlying52 Ml.info rfl (by decide) (.slice a n d) (by rfl) ((HG.out _ rfl).alloc _) w1.heap.size (Ml.six k (.slice a2 n2 d2)) (by rfl) (Gr.cells _ _ _) rfl (Ml.six_ones k a2 n2 d2) HN.out.1 HN.out.2.1 (by have := HN.out.2.2; first | omega | (simp; omega)) ?_; intro v' w4 R4 hg4 hf4; obtain ⟨b4, d5, rfl, hd5⟩ := Ml.slice_form R4; have hc4 := HC4.out _ _ (o := .cells (Ml.six k (.slice a2 n2 d2)).toArray 140) (by rfl) hg4; have hz4 := HF4.out _ _ (o := .cells (Ml.six k (.slice a2 n2 d2)).toArray 140) (by rfl) hg4; have HR4 := Lib.hid R4; have HG4 := Lib.hid hg4; have HF5 := Lib.hid hf4; clear R4 hg4 hf4))
    all_goals go_wp2
    all_goals go_ret
    all_goals
      exact .fine (HB1.out.trans (HBW.out _ _ (o := .cells (Ml.six k (.slice a2 n2 d2)).toArray 140) (by rfl) (HDR.out _) HG4.out)) (HE.out _ _ _ (HDR.out _) HR4.out HG4.out HF5.out)
end Go.Proofs.YtjppobeomocgbaaGreatDoor
/-
  THE WALK of isInLoop.
-/
namespace Go.Proofs.YtjppobeomocgbaaGreatDoor
open Go.RowKit
/-- the six cells of an open block -/
theorem Ml.At.six {base g : Nat} {w : World} {own : Nat → Nat} {s : Mz.St} {iv : Value} {a : Option Addr} {n d : Nat} {xs : List Value} (h : Ml.At base w g own s iv (.slice a n d) xs) {i : Nat} {b : Mz.Bk} (hi : s.op[i]? = some b) :
    ∃ pb a2 n2 d2 a3 n3 d3 a4 n4 d4, a = some ⟨pb, 0, none⟩ ∧ w.cell? ⟨pb, i * 6, none⟩ = some (.int .i64 b.k) ∧ w.cell? ⟨pb, i * 6 + 1, none⟩ = some (.string ⟨#[]⟩) ∧ w.cell? ⟨pb, i * 6 + 2, none⟩ = some (.slice a2 n2 d2) ∧ w.cell? ⟨pb, i * 6 + 3, none⟩ = some (.slice a3 n3 d3) ∧ w.cell? ⟨pb, i * 6 + 4, none⟩ = some (.slice a4 n4 d4) ∧ w.cell? ⟨pb, i * 6 + 5, none⟩ = some (.bool b.e) := by
  have hop := h.op
  have hil := (List.getElem?_eq_some_iff.1 hi).1
  obtain ⟨ck, ct, ⟨pv, cp1, cp2⟩, ⟨tv, ct1, ct2⟩, ⟨ev, ce1, ce2⟩, ce⟩ := h.cell i b hi
  obtain ⟨a2, d2, rfl⟩ := Tr.form cp2
  obtain ⟨a3, d3, rfl⟩ := ct2.form
  obtain ⟨a4, d4, rfl⟩ := ce2.form
  rcases hop.2 with ⟨_, e⟩ | ⟨pb, d5, cur, e, h1, h2, h3, h4, h5, h6⟩
  · omega
  · injection e with e1 e2 e3
    subst e1 e2 e3
    have hc : ∀ r, r < 6 → w.cell? ⟨pb, i * 6 + r, none⟩ = xs[i * 6 + r]? := fun r hr => hop.cellAt _ (by omega)
    exact ⟨pb, _, _, _, _, _, _, _, _, _, rfl, (hc 0 (by decide)).trans ck, (hc 1 (by decide)).trans ct, (hc 2 (by decide)).trans cp1, (hc 3 (by decide)).trans ct1, (hc 4 (by decide)).trans ce1, (hc 5 (by decide)).trans ce⟩
theorem Mz.loop_take {l : List Mz.Bk} {j : Nat} {b : Mz.Bk} (hg : l[j]? = some b) (h : Mz.loop (l.take j) = false) (hb : (decide (b.k = 5) && !b.e) = false) : Mz.loop (l.take (j + 1)) = false := by
  rw [List.take_add_one, hg]
  unfold Mz.loop at h ⊢
  rw [List.any_append, h]
  simpa using hb
theorem Mz.loop_at {l : List Mz.Bk} {j : Nat} {b : Mz.Bk} (hg : l[j]? = some b) (hb : (decide (b.k = 5) && !b.e) = true) : Mz.loop l = true := List.any_eq_true.2 ⟨b, List.mem_of_getElem? hg, hb⟩
set_option maxRecDepth 100000 in
set_option maxHeartbeats 4000000 in
theorem Ml.isInLoop {base g : Nat} {w : World} {own : Nat → Nat} {s : Mz.St} {iv ov : Value} {xs : List Value} (h : Ml.At base w g own s iv ov xs) :
    Calls Tryz.prog 118 #[.pointer (some ⟨g, 0, none⟩)] w fun e w' => e = .returned (.bool (Mz.loop s.op)) ∧ Below w.heap.size w w' := by
  obtain ⟨E, hE⟩ : ∃ E, Mz.loop s.op = E := ⟨_, rfl⟩
  rw [hE]
  have HE := Lib.hid hE
  clear hE
  have c1 : w.cell? ⟨g, 1, none⟩ = some ov := h.box.cell 1 rfl
  obtain ⟨_, a, d, rfl⟩ := h.form
  have hm : s.op.length ≤ 16 := h.deep
  have HX := Lib.hid (fun i b hi => h.six (i := i) (b := b) hi)
  clear h
  generalize s.op = l at *
  go_enter Tryz.func118, Tryz.ntmps118
  go_wp2
  go_loopw [10] (fun i wr => ∃ j : Nat, j ≤ l.length ∧ i = .int .i64 (j : Int) ∧ Hid (Mz.loop (l.take j) = false) ∧ Hid (Below w.heap.size w wr)) (fun i _ => l.length - (intOf i).toNat)
  case atStart => exact ⟨0, Nat.zero_le _, rfl, rfl, Below.refl _ _⟩
  case round =>
    obtain ⟨j, hj, rfl, HL, HB⟩ := hrel
    by_cases hlt : j < l.length
    · have hg := List.getElem?_eq_getElem hlt
      obtain ⟨pb, a2, n2, d2, a3, n3, d3, a4, n4, d4, rfl, c0, c1, c2, c3, c4, c5⟩ := HX.out j l[j] hg
      have c0 := Tp.keep HB.out c0
      have c1 := Tp.keep HB.out c1
      have c2 := Tp.keep HB.out c2
      have c3 := Tp.keep HB.out c3
      have c4 := Tp.keep HB.out c4
      have c5 := Tp.keep HB.out c5
      have HG := Lib.hid hg
      have dlt : decide ((j : Int) < (l.length : Int)) = true := decide_eq_true (by omega)
      clear hg
      generalize l[j] = b at *
      obtain ⟨k, p, thn, els, e⟩ := b
      simp only at c0 c5
      have HB2 := Lib.hid (HB.out.alloc HB.out.size (.cells #[.int .i64 k, .string ⟨#[]⟩, .slice a2 n2 d2, .slice a3 n3 d3, .slice a4 n4 d4, .bool e] 140))
      by_cases h5 : k = 5
      · subst h5
        cases e with
        | false =>
          have hE : E = true := HE.out.symm.trans (Mz.loop_at HG.out rfl)
          subst hE
          clear HG HL HE
          go_wp2
          go_ret
          exact ⟨rfl, HB2.out⟩
        | true =>
          have HL2 : Hid (Mz.loop (l.take (j + 1)) = false) := Mz.loop_take HG.out HL.out rfl
          clear HG HL
          go_wp2
          go_roundw
          case rel => exact ⟨j + 1, by omega, by go_num, HL2, HB2⟩
          case measure => simp [intOf]; omega
      · have d5 : (k == 5) = false := beq_eq_false_iff_ne.2 h5
        have HL2 : Hid (Mz.loop (l.take (j + 1)) = false) := Mz.loop_take HG.out HL.out (by simp only [decide_eq_false h5, Bool.false_and])
        clear HG HL h5
        go_wp2
        go_roundw
        case rel => exact ⟨j + 1, by omega, by go_num, HL2, HB2⟩
        case measure => simp [intOf]; omega
    · have e : j = l.length := by omega
      subst e
      have dlt : decide ((l.length : Int) < (l.length : Int)) = false := decide_eq_false (by omega)
      have hl := HL.out
      rw [List.take_length] at hl
      have hE : E = false := HE.out.symm.trans hl
      subst hE
      clear HL HE hl
      go_wp2
      go_ret
      exact ⟨rfl, HB.out⟩
end Go.Proofs.YtjppobeomocgbaaGreatDoor
/-
  THE WALKS of turn, end, leave.
-/
namespace Go.Proofs.YtjppobeomocgbaaGreatDoor
open Go.RowKit
/-- no row is too long -/
def Mz.St.Few (m : Nat) (s : Mz.St) : Prop := s.items.length ≤ m ∧ ∀ b ∈ s.op, b.thn.length ≤ m ∧ b.els.length ≤ m
theorem Mz.St.Few.cur {m : Nat} {s : Mz.St} (h : s.Few m) : s.cur.length ≤ m := by
  obtain ⟨is, op⟩ := s
  rcases Mz.op_case ⟨is, op⟩ with e | ⟨l, b, e⟩
  · simp only at e
    subst e
    exact h.1
  · simp only at e
    subst e
    have := h.2 b (by simp)
    simp only [Mz.St.cur, List.getLast?_concat, Mz.Bk.cur]
    split
    · exact this.2
    · exact this.1
theorem Mz.St.Few.mono {m n : Nat} {s : Mz.St} (h : s.Few m) (hn : m ≤ n) : s.Few n := ⟨Nat.le_trans h.1 hn, fun b hb => ⟨Nat.le_trans (h.2 b hb).1 hn, Nat.le_trans (h.2 b hb).2 hn⟩⟩
theorem Ml.top_last {base g : Nat} {w : World} {own : Nat → Nat} {is : List It} {l : List Mz.Bk} {b : Mz.Bk} {iv : Value} {a : Option Addr} {n d : Nat} {xs : List Value} (h : Ml.At base w g own ⟨is, l ++ [b]⟩ iv (.slice a n d) xs) :
    ∃ pb, a = some ⟨pb, 0, none⟩ ∧ n = l.length + 1 ∧ Calls Tryz.prog 79 #[.pointer (some ⟨g, 0, none⟩)] w fun e w' => e = .returned (.pointer (some ⟨pb, l.length * 6, none⟩)) ∧ ∃ k, w' = w.drewN k := by
  obtain ⟨pb, d2, e2, -⟩ := h.last
  injection e2 with e1 e2 e3
  subst e1 e2
  refine ⟨pb, rfl, rfl, (Ml.top h).mono ?_⟩
  rintro e w1 ⟨⟨he, _⟩ | ⟨l', b', pb', d', he, h2, h3⟩, hk⟩
  · exact absurd he (by simp)
  · obtain ⟨e1, e2⟩ := List.append_inj he (by have := congrArg List.length he; simp at this; omega)
    subst e1
    injection h2 with h2
    injection h2 with h2
    injection h2 with h2
    subst h2
    exact ⟨h3, hk⟩
theorem Ml.top_nil {base g : Nat} {w : World} {own : Nat → Nat} {is : List It} {iv ov : Value} {xs : List Value} (h : Ml.At base w g own ⟨is, []⟩ iv ov xs) :
    Calls Tryz.prog 79 #[.pointer (some ⟨g, 0, none⟩)] w fun e w' => e = .returned (.pointer none) ∧ ∃ k, w' = w.drewN k := by
  refine (Ml.top h).mono ?_
  rintro e w1 ⟨⟨_, he⟩ | ⟨l', b', pb', d', he, _⟩, hk⟩
  · exact ⟨he, hk⟩
  · exact absurd he (by simp)
theorem Ml.drewN_below (w : World) (n base : Nat) : Below base w (w.drewN n) := ⟨rfl, rfl, rfl, Nat.le_refl _, fun _ _ => rfl⟩
set_option maxRecDepth 100000 in
set_option maxHeartbeats 4000000 in
theorem Ml.turn {base g : Nat} {w : World} {s : Mz.St} (h : Ml.Is base w g s) :
    Calls Tryz.prog 86 #[.pointer (some ⟨g, 0, none⟩)] w (Ml.Out base w g s.turn) := by
  obtain ⟨own, iv, ov, xs, h⟩ := h
  obtain ⟨is, op⟩ := s
  rcases Mz.op_case ⟨is, op⟩ with e | ⟨l, b, e⟩
  · simp only at e
    subst e
    have tp := Ml.top_nil h
    have hR : Mz.St.turn ⟨is, []⟩ = .error 1601 := rfl
    rw [hR]
    clear h hR
    go_enter Tryz.func86, Tryz.ntmps86
    go_wp2_with (go_at_call 79; refine tp.mono ?_; rintro e w1 ⟨rfl, n1, rfl⟩)
    go_ret
    exact .err (Ml.drewN_below _ _ _) (by decide)
  · simp only at e
    subst e
    obtain ⟨_, a, d, rfl⟩ := h.form
    obtain ⟨pb, rfl, hn, tp⟩ := Ml.top_last h
    rw [hn] at h
    obtain ⟨pb2, d2, e2, p1, p2, p3, p4, p5, p6, p7, p8, p9, p10, hc⟩ := h.last
    injection e2 with e1 e2 e3
    injection e1 with e1
    injection e1 with e1
    subst e1 e3
    have ce := p10 5 _ (by decide) hc.e
    have fz := p9 (l.length * 6 + 5)
    cases hb : b.e with
    | true =>
      have hR : Mz.St.turn ⟨is, l ++ [b]⟩ = .error 1601 := by simp [Mz.St.turn, hb]
      rw [hR]
      rw [hb] at ce
      clear h hR hc p10 p9 hb
      generalize l.length * 6 = m at *
      go_enter Tryz.func86, Tryz.ntmps86
      go_wp2_with (go_at_call 79; refine tp.mono ?_; rintro e w1 ⟨rfl, n1, rfl⟩)
      go_ret
      exact .err (Ml.drewN_below _ _ _) (by decide)
    | false =>
      have hR : Mz.St.turn ⟨is, l ++ [b]⟩ = .ok ⟨is, l ++ [⟨b.k, b.p, b.thn, b.els, true⟩]⟩ := by simp [Mz.St.turn, hb]
      rw [hR]
      rw [hb] at ce
      have HF : Hid (∀ n, Ml.Is base ((w.drewN n).setCell ⟨pb, l.length * 6 + 5, none⟩ (.bool true)) g ⟨is, l ++ [⟨b.k, b.p, b.thn, b.els, true⟩]⟩) := fun n => (h.drewN n).turn
      clear h hR hc p10 p9 hb hn
      generalize l.length * 6 = m at *
      go_enter Tryz.func86, Tryz.ntmps86
      go_wp2_with (go_at_call 79; refine tp.mono ?_; rintro e w1 ⟨rfl, n1, rfl⟩)
      go_ret
      exact .fine ((Ml.drewN_below _ _ _).setCell p3 _) (HF.out _)
set_option maxRecDepth 100000 in
set_option maxHeartbeats 8000000 in
theorem Ml.end {base g : Nat} {w : World} {s : Mz.St} (h : Ml.Is base w g s) (hf : s.Few 1048576) :
    Calls Tryz.prog 87 #[.pointer (some ⟨g, 0, none⟩)] w (Ml.Out base w g s.end) := by
  obtain ⟨own, iv, ov, xs, h⟩ := h
  obtain ⟨is, op⟩ := s
  rcases Mz.op_case ⟨is, op⟩ with e | ⟨l, b, e⟩
  · simp only at e
    subst e
    have tp := Ml.top_nil h
    have hR : Mz.St.end ⟨is, []⟩ = .error 1600 := rfl
    rw [hR]
    clear h hR
    go_enter Tryz.func87, Tryz.ntmps87
    go_wp2_with (go_at_call 79; refine tp.mono ?_; rintro e w1 ⟨rfl, n1, rfl⟩)
    go_ret
    exact .err (Ml.drewN_below _ _ _) (by decide)
  · simp only at e
    subst e
    have hR : Mz.St.end ⟨is, l ++ [b]⟩ = .ok (Mz.St.put ⟨is, l⟩ b.item) := by simp [Mz.St.end]
    rw [hR]
    have hcur : (Mz.St.cur ⟨is, l⟩).length ≤ 1048576 := Mz.St.Few.cur ⟨hf.1, fun c hc => hf.2 c (by simp [hc])⟩
    obtain ⟨_, a, d, rfl⟩ := h.form
    obtain ⟨pb, rfl, hn, tp⟩ := Ml.top_last h
    obtain ⟨pb2, a2, n2, d2, a3, n3, d3, a4, n4, d4, e1, c0, c1, c2, c3, c4, c5⟩ := h.six (i := l.length) (b := b) (by simp)
    injection e1 with e1
    injection e1 with e1
    subst e1
    rw [hn] at h
    obtain ⟨pb2, d2', e2, p1, p2, p3, p4, p5, p6, p7, p8, p9, p10, hc⟩ := h.last
    injection e2 with e1 e2 e3
    injection e1 with e1
    injection e1 with e1
    subst e1 e3
    obtain ⟨ck, ct, ⟨pv, cp1, cp2⟩, ⟨tv, ct1, ct2⟩, ⟨ev, ce1, ce2⟩, ce⟩ := hc
    have q2 := Option.some.inj ((p10 2 _ (by decide) cp1).symm.trans c2)
    have q3 := Option.some.inj ((p10 3 _ (by decide) ct1).symm.trans c3)
    have q4 := Option.some.inj ((p10 4 _ (by decide) ce1).symm.trans c4)
    subst q2 q3 q4
    have hgl := h.box.lt
    have cg : w.cell? ⟨g, 1, none⟩ = some (.slice (some ⟨pb, 0, none⟩) (l.length + 1) d) := h.box.cell 1 rfl
    have fg := h.box.frozen 1
    have HP : Hid (∀ W, Below w.heap.size w W → Ml.Has base (W.setCell ⟨g, 1, none⟩ (.slice (some ⟨pb, 0, none⟩) l.length d)) g ⟨is, l⟩ (It.dt b.item) [.int .i64 b.k, .string ⟨#[]⟩, .slice a2 n2 d2, .slice a3 n3 d3, .slice a4 n4 d4]) := fun W hW => (h.on hW.size fun q _ hq _ => ⟨rfl, hW.block q hq⟩).pop cp1 ct1 ce1
    have hlo := h.lo
    have hbg : base ≤ w.heap.size := by omega
    have HLO := Lib.hid hlo
    clear h hR hf cp1 cp2 ct1 ct2 ce1 ce2 p10 p9 ck ct ce hn p8 c5
    generalize b.item = x at *
    generalize b.k = k at *
    generalize l.length = m at *
    have hm1 : m ≤ m + 1 := by omega
    go_enter Tryz.func87, Tryz.ntmps87
    go_upto_region 4 with (go_at_call 79; refine tp.mono ?_; rintro e w1 ⟨rfl, n1, rfl⟩)
    have c0 : (w.drewN n1).cell? _ = _ := c0
    have c1 : (w.drewN n1).cell? _ = _ := c1
    have c2 : (w.drewN n1).cell? _ = _ := c2
    have c3 : (w.drewN n1).cell? _ = _ := c3
    have c4 : (w.drewN n1).cell? _ = _ := c4
    have cg : (w.drewN n1).cell? _ = _ := cg
    have fg : (w.drewN n1).frozen? _ = _ := fg
    have HB1 := Lib.hid (Ml.drewN_below w n1 w.heap.size)
    have hgl : g < (w.drewN n1).heap.size := hgl
    clear tp
    generalize w.drewN n1 = w1 at *
    have HB2 : Hid (Below w1.heap.size w1 (w1.alloc (.cells #[.int .i64 k, .string ⟨#[]⟩, .slice a2 n2 d2, .slice a3 n3 d3, .slice a4 n4 d4] 37))) := (Below.refl _ _).alloc (Nat.le_refl _) _
    have HX : Hid (Bs.Box (w1.alloc (.cells #[.int .i64 k, .string ⟨#[]⟩, .slice a2 n2 d2, .slice a3 n3 d3, .slice a4 n4 d4] 37)) w1.heap.size #[.int .i64 k, .string ⟨#[]⟩, .slice a2 n2 d2, .slice a3 n3 d3, .slice a4 n4 d4] 37) := Bs.Box.new _ _ _ _ rfl
    go_upto_region 5 with fail
    have cg2 := (World.cell?_alloc_lt _ (Obj.cells #[.int .i64 k, .string ⟨#[]⟩, .slice a2 n2 d2, .slice a3 n3 d3, .slice a4 n4 d4] 37) _ hgl).trans cg
    have fg2 : (w1.alloc (Obj.cells #[.int .i64 k, .string ⟨#[]⟩, .slice a2 n2 d2, .slice a3 n3 d3, .slice a4 n4 d4] 37)).frozen? ⟨g, 1, none⟩ = false := (World.frozen?_of_block (Below.heap_alloc _ _ _ hgl)).trans fg
    have x0 := HX.out.cell 0 rfl
    have x1 := HX.out.cell 1 rfl
    have x2 := HX.out.cell 2 rfl
    have x3 := HX.out.cell 3 rfl
    have x4 := HX.out.cell 4 rfl
    have hub := HX.out.lt
    have HB3 := Lib.hid (HB1.out.trans (HB2.out.mono HB1.out.size))
    have hug : w1.heap.size ≠ g := by omega
    clear cg fg c0 c1 c2 c3 c4 HX HB1 HB2
    generalize w1.alloc (Obj.cells #[.int .i64 k, .string ⟨#[]⟩, .slice a2 n2 d2, .slice a3 n3 d3, .slice a4 n4 d4] 37) = w2 at *
    generalize w1.heap.size = ub at *
    have hmd : m ≤ d := by omega
    have hdm : d ≤ 9223372036854775807 := by unfold maxLen at p7; omega
    go_region
    have HW : Hid (Ml.Has base (w2.setCell ⟨g, 1, none⟩ (.slice (some ⟨pb, 0, none⟩) m d)).drew g ⟨is, l⟩ (It.dt x) [.int .i64 k, .string ⟨#[]⟩, .slice a2 n2 d2, .slice a3 n3 d3, .slice a4 n4 d4]) := HP.out w2.drew HB3.out.drew
    have HB4 : Hid (Below base w (w2.setCell ⟨g, 1, none⟩ (.slice (some ⟨pb, 0, none⟩) m d)).drew) := ((HB3.out.mono hbg).setCell (p := ⟨g, 1, none⟩) HLO.out _).drew
    have hal : ∀ r, (w2.setCell ⟨g, 1, none⟩ (.slice (some ⟨pb, 0, none⟩) m d)).drew.cell? ⟨ub, r, none⟩ = w2.cell? ⟨ub, r, none⟩ := fun r => World.cell?_of_block (Below.heap_setCell _ _ _ _ hug)
    have y0 := (hal 0).trans x0
    have y1 := (hal 1).trans x1
    have y2 := (hal 2).trans x2
    have y3 := (hal 3).trans x3
    have y4 := (hal 4).trans x4
    clear hal x0 x1 x2 x3 x4 HP HB3 cg2 fg2
    generalize (w2.setCell ⟨g, 1, none⟩ (.slice (some ⟨pb, 0, none⟩) m d)).drew = w3 at *
    have pt := Ml.put HW.out (Nat.le_trans hbg HB4.out.size) hcur
    go_wp2_with (go_at_call 26; refine pt.mono ?_; rintro e w4 ⟨rfl, i4, b4⟩; have HI4 := Lib.hid i4; have HB5 := Lib.hid (HB4.out.trans b4); clear i4 b4 pt)
    go_ret
    exact .fine HB5.out HI4.out
set_option maxRecDepth 100000 in
set_option maxHeartbeats 4000000 in
theorem Ml.leave {base g : Nat} {w : World} {s : Mz.St} {k : Int} (h : Ml.Is base w g s) (hlo : base ≤ w.heap.size) (hf : s.Few 1048576) :
    Calls Tryz.prog 88 #[.pointer (some ⟨g, 0, none⟩), .int .i64 k] w (Ml.Out base w g (s.leave k)) := by
  have hi := h
  obtain ⟨own, iv, ov, xs, hA⟩ := hi
  have il := Ml.isInLoop hA
  have hcur := hf.cur
  have HP : Hid (∀ W, Below w.heap.size w W → Ml.Has base W g s (It.dt (.mk k [] [] [] [])) [.int .i64 k, .string ⟨#[]⟩, .slice none 0 0, .slice none 0 0, .slice none 0 0]) := fun W hW => h.has hW hlo (It.fits rfl (Cm.nil _ _) (It.nil _ _) (It.nil _ _))
  unfold Mz.St.leave
  clear hA h hf
  generalize Mz.loop s.op = L at *
  cases L with
  | false =>
    rw [if_neg (by decide)]
    go_enter Tryz.func88, Tryz.ntmps88
    go_wp2_with (go_at_call 118; refine il.mono ?_; rintro e w1 ⟨rfl, b1⟩; have HB1 := Lib.hid b1; clear b1 il)
    go_ret
    exact .err (HB1.out.mono hlo) (by decide)
  | true =>
    rw [if_pos rfl]
    go_enter Tryz.func88, Tryz.ntmps88
    go_wp2_with (first | (go_at_call 118; refine il.mono ?_; rintro e w1 ⟨rfl, b1⟩; have HB1 := Lib.hid b1; have HH := Lib.hid (HP.out _ b1); clear b1 il) | (go_at_call 26; refine (Ml.put HH.out (Nat.le_trans hlo HB1.out.size) hcur).mono ?_; rintro e w4 ⟨rfl, i4, b4⟩; have HI4 := Lib.hid i4; have HB5 := Lib.hid ((HB1.out.mono hlo).trans b4); clear i4 b4))
    go_ret
    exact .fine HB5.out HI4.out
end Go.Proofs.YtjppobeomocgbaaGreatDoor
