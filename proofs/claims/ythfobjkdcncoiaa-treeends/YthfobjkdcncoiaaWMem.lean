/-
  THE PROGRAM's BUILDER IN MEMORY: its block g of three cells, the row of nodes, the row of numbers, the row of bytes.
-/
import Derived.Test.YthfobjkdcncoiaaWPlain
import Derived.Test.YthfobjkdcncoiaaUMk
import Derived.Test.YthfobjkdcncoiaaUCopy
import Derived.Lib.AppendStr
import Derived.Lib.UnsafeStr
namespace Go.Proofs.Ythfobjkdcncoiaa
open Go.RowKit
def Pm.No (g : Nat) (pv tv : Value) (k : Nat) : Prop := k = g ∨ pv.ownBlock = some k ∨ tv.ownBlock = some k
def Pm.Mine (g : Nat) (ov pv tv : Value) (k : Nat) : Prop := k = g ∨ ov.ownBlock = some k ∨ pv.ownBlock = some k ∨ tv.ownBlock = some k
structure Pm.At (base : Nat) (w : World) (g : Nat) (m : Bt) (bs : ByteArray) (ov pv tv : Value) : Prop where
  ge : base ≤ g
  c0 : w.cell? ⟨g, 0, none⟩ = some ov
  c1 : w.cell? ⟨g, 1, none⟩ = some pv
  c2 : w.cell? ⟨g, 2, none⟩ = some tv
  fz : ∀ i, w.frozen? ⟨g, i, none⟩ = false
  out : Um.Row base m.out w ov (Pm.No g pv tv)
  opn : w.ownsRow base 3 1 pv m.opn.length (Um.ints m.opn)
  txt : w.ownsRow base 5 1 tv bs.size (Lib.strCells bs)
  og : ov.ownBlock ≠ some g
  pg : pv.ownBlock ≠ some g
  tg : tv.ownBlock ≠ some g
  op : ∀ k, ov.ownBlock = some k → pv.ownBlock ≠ some k
  ot : ∀ k, ov.ownBlock = some k → tv.ownBlock ≠ some k
  pt : ∀ k, pv.ownBlock = some k → tv.ownBlock ≠ some k
section
variable {base : Nat} {w : World} {g : Nat} {m : Bt} {bs : ByteArray} {ov pv tv : Value}
theorem Pm.At.lt (h : Pm.At base w g m bs ov pv tv) : g < w.heap.size := World.block_lt_of_cell? _ _ h.c0
theorem Pm.At.lo (h : Pm.At base w g m bs ov pv tv) : base ≤ w.heap.size := Nat.le_trans h.ge (Nat.le_of_lt h.lt)
theorem Pm.At.ovLt (h : Pm.At base w g m bs ov pv tv) {k : Nat} (hk : ov.ownBlock = some k) : base ≤ k ∧ k < w.heap.size := by
  obtain ⟨xs, ho, _⟩ := h.out
  exact ho.lt k hk
theorem Pm.At.pvLt (h : Pm.At base w g m bs ov pv tv) {k : Nat} (hk : pv.ownBlock = some k) : base ≤ k ∧ k < w.heap.size := h.opn.lt k hk
theorem Pm.At.tvLt (h : Pm.At base w g m bs ov pv tv) {k : Nat} (hk : tv.ownBlock = some k) : base ≤ k ∧ k < w.heap.size := h.txt.lt k hk
theorem Pm.At.mine (h : Pm.At base w g m bs ov pv tv) {k : Nat} (hk : Pm.Mine g ov pv tv k) : base ≤ k ∧ k < w.heap.size := by
  rcases hk with rfl | q | q | q
  · exact ⟨h.ge, h.lt⟩
  · exact h.ovLt q
  · exact h.pvLt q
  · exact h.tvLt q
theorem Pm.At.on {w' : World} (h : Pm.At base w g m bs ov pv tv) (hb : Below w.heap.size w w') : Pm.At base w' g m bs ov pv tv :=
  ⟨h.ge, Tp.keep hb h.c0, Tp.keep hb h.c1, Tp.keep hb h.c2, Tp.keepF hb h.lt h.fz, h.out.on hb.size (fun k hk => hb.block k (h.ovLt hk).2) (fun k _ h2 _ h4 => ⟨h4, hb.block k h2⟩), Rm.own_on h.opn (fun k hk => hb.block k (h.pvLt hk).2), Rm.own_on h.txt (fun k hk => hb.block k (h.tvLt hk).2), h.og, h.pg, h.tg, h.op, h.ot, h.pt⟩
end
/-- all that was none of A's stands as it stood, and is none of B's -/
structure Pm.Kept (w w' : World) (A B : Nat → Prop) : Prop where
  os : w'.os = w.os
  tape : w'.tape = w.tape
  output : w'.output = w.output
  size : w.heap.size ≤ w'.heap.size
  block : ∀ k, k < w.heap.size → ¬ A k → w'.heap[k]? = w.heap[k]? ∧ ¬ B k
theorem Pm.Kept.refl (w : World) (A : Nat → Prop) : Pm.Kept w w A A := ⟨rfl, rfl, rfl, Nat.le_refl _, fun _ _ h => ⟨rfl, h⟩⟩
theorem Pm.Kept.trans {w w1 w2 : World} {A B C : Nat → Prop} (h : Pm.Kept w w1 A B) (h2 : Pm.Kept w1 w2 B C) : Pm.Kept w w2 A C :=
  ⟨h2.os.trans h.os, h2.tape.trans h.tape, h2.output.trans h.output, Nat.le_trans h.size h2.size, fun k hk hf => by
    obtain ⟨a1, a2⟩ := h.block k hk hf
    obtain ⟨b1, b2⟩ := h2.block k (Nat.lt_of_lt_of_le hk h.size) a2
    exact ⟨b1.trans a1, b2⟩⟩
theorem Pm.Kept.of {w w1 : World} (A : Nat → Prop) (hb : Below w.heap.size w w1) : Pm.Kept w w1 A A := ⟨hb.os, hb.tape, hb.output, hb.size, fun k hk hf => ⟨hb.block k hk, hf⟩⟩
theorem Pm.Kept.cell {w w' : World} {A B : Nat → Prop} (h : Pm.Kept w w' A B) {b o : Nat} {v : Value} (hf : ¬ A b) (hc : w.cell? ⟨b, o, none⟩ = some v) : w'.cell? ⟨b, o, none⟩ = some v :=
  (World.cell?_of_block (a := ⟨b, o, none⟩) (h.block b (World.block_lt_of_cell? _ _ hc) hf).1).trans hc
theorem Pm.Kept.low {base lo : Nat} {w wr w' : World} {g : Nat} {m : Bt} {bs : ByteArray} {ov pv tv : Value} {B : Nat → Prop} (hK : Pm.Kept wr w' (Pm.Mine g ov pv tv) B) (hA : Pm.At base wr g m bs ov pv tv) (hb : Below lo w wr) (hlo : lo ≤ base) (hs : lo ≤ w.heap.size) : Below lo w w' :=
  ⟨hK.os.trans hb.os, hK.tape.trans hb.tape, hK.output.trans hb.output, Nat.le_trans hb.size hK.size, fun k hk => (hK.block k (by have := hb.size; omega) (fun q => by have := (hA.mine q).1; omega)).1.trans (hb.block k hk)⟩
/-- attributes that lie apart of the builder's own blocks lie there still -/
def Pm.Off (base : Nat) (w : World) (A : Nat → Prop) (k : Nat) : Prop := base ≤ k ∧ k < w.heap.size ∧ ¬ A k ∧ Rm.Ub w k
theorem Pm.Kept.attrs {base : Nat} {w w' : World} {A B : Nat → Prop} (h : Pm.Kept w w' A B) {al : List (ByteArray × ByteArray)} {v : Value} (hl : Ak.Lies w (Pm.Off base w A) al v) : Ak.Lies w' (Pm.Off base w' B) al v :=
  hl.on fun k hk => by
    obtain ⟨q1, q2⟩ := h.block k hk.2.1 hk.2.2.1
    exact ⟨⟨hk.1, Nat.lt_of_lt_of_le hk.2.1 h.size, q2, hk.2.2.2.on q1⟩, q1⟩
theorem Pm.held {w w1 w4 : World} {xv xv' : Value} {r : Option Nat} (hq : Below w.heap.size w w1) (hr : r = xv.ownBlock ∨ ∃ k, r = some k ∧ w.heap.size ≤ k) (hg : w1.grownBy w4 r) (hf : xv'.ownBlock = xv.ownBlock ∨ ∃ k, xv'.ownBlock = some k ∧ w.heap.size ≤ k) (k : Nat) (hk : k < w.heap.size) (hv : xv.ownBlock ≠ some k) : xv'.ownBlock ≠ some k ∧ w4.heap[k]? = w.heap[k]? :=
  ⟨(fun e => by
    rcases hf with q | ⟨k', q, hk'⟩
    · rw [q] at e; exact hv e
    · rw [q] at e; have := Option.some.inj e; omega), (hg.block k (Nat.lt_of_lt_of_le hk hq.size) (fun e => by
      rcases hr with q | ⟨k', q, hk'⟩
      · rw [q] at e; exact hv e.symm
      · rw [q] at e; have := Option.some.inj e; omega)).trans (hq.block k hk)⟩
/-- another row in one of the builder's cells: what is kept -/
theorem Pm.setKept {w w1 w4 : World} {g j : Nat} {A B : Nat → Prop} {x' : Value} (hgA : A g) (hq : Below w.heap.size w w1) {r : Option Nat} (hg : w1.grownBy w4 r) (hb : ∀ k, k < w.heap.size → ¬ A k → w4.heap[k]? = w.heap[k]? ∧ ¬ B k) : Pm.Kept w (w4.setCell ⟨g, j, none⟩ x') A B :=
  ⟨hg.os.trans hq.os, hg.tape.trans hq.tape, hg.output.trans hq.output, by simpa using Nat.le_trans hq.size hg.size, fun k hk hfr => ⟨(Below.heap_setCell _ _ _ _ (fun e => hfr (by rw [e]; exact hgA))).trans (hb k hk hfr).1, (hb k hk hfr).2⟩⟩
theorem Pm.frozenOn {w w' : World} {g : Nat} (hb : w'.heap[g]? = w.heap[g]?) (h : ∀ i, w.frozen? ⟨g, i, none⟩ = false) (i : Nat) : w'.frozen? ⟨g, i, none⟩ = false := by
  have := h i
  unfold World.frozen? at this ⊢
  rw [hb]
  exact this
/-- a node more, laid down -/
theorem Pm.At.push {base : Nat} {w w1 w4 : World} {g : Nat} {m : Bt} {bs : ByteArray} {ov pv tv ov' av : Value} {x : Nd} (h : Pm.At base w g m bs ov pv tv) (hq : Below w.heap.size w w1) (xs : List Value)
    (hx : w.ownsRow base 38 5 ov m.out.length xs ∧ ∀ i x, m.out[i]? = some x → ∃ av, Nd.Has xs i x av ∧ Ak.Lies w (fun k => base ≤ k ∧ k < w.heap.size ∧ ov.ownBlock ≠ some k ∧ ¬ (Pm.No g pv tv) k ∧ Rm.Ub w k) x.attrs av)
    (hat : Ak.Lies w (Pm.Off base w (Pm.Mine g ov pv tv)) x.attrs av)
    (R4 : w4.ownsRow base 38 5 ov' (m.out.length + 1) (xs ++ Nd.five x av)) (hg : w1.grownBy w4 ov.ownBlock) (hf : ov'.ownBlock = ov.ownBlock ∨ ov'.ownBlock = some w1.heap.size) :
    Pm.At base (w4.setCell ⟨g, 0, none⟩ ov') g { m with out := m.out ++ [x] } bs ov' pv tv ∧ Pm.Kept w (w4.setCell ⟨g, 0, none⟩ ov') (Pm.Mine g ov pv tv) (Pm.Mine g ov' pv tv) := by
  have hlt := h.lt
  have hold := Pm.held (xv := ov) (xv' := ov') hq (.inl rfl) hg (hf.imp id fun e => ⟨_, e, hq.size⟩)
  have hne : ∀ k, k ≠ g → (w4.setCell ⟨g, 0, none⟩ ov').heap[k]? = w4.heap[k]? := fun k hk => Below.heap_setCell _ _ _ _ hk
  have hsz : w.heap.size ≤ w4.heap.size := Nat.le_trans hq.size hg.size
  have hpv : ∀ k, pv.ownBlock = some k → k < w.heap.size ∧ ov.ownBlock ≠ some k := fun k hk => ⟨(h.pvLt hk).2, fun e => h.op k e hk⟩
  have htv : ∀ k, tv.ownBlock = some k → k < w.heap.size ∧ ov.ownBlock ≠ some k := fun k hk => ⟨(h.tvLt hk).2, fun e => h.ot k e hk⟩
  obtain ⟨hg1, hg2⟩ := hold g hlt h.og
  have hT : Um.Row base (m.out ++ [x]) w4 ov' (Pm.No g pv tv) := by
    refine Um.Row.push xs hx.1 hx.2 hsz R4 (hat.on fun k hk => ?_) (fun k _ h2 h3 h4 => ⟨⟨(hold k h2 h3).1, h4⟩, (hold k h2 h3).2⟩)
    have h3 : ov.ownBlock ≠ some k := fun e => hk.2.2.1 (.inr (.inl e))
    obtain ⟨q1, q2⟩ := hold k hk.2.1 h3
    refine ⟨⟨hk.1, Nat.lt_of_lt_of_le hk.2.1 hsz, q1, fun q => hk.2.2.1 ?_, hk.2.2.2.on q2⟩, q2⟩
    rcases q with q | q | q
    · exact .inl q
    · exact .inr (.inr (.inl q))
    · exact .inr (.inr (.inr q))
  have hc0 : w4.cell? ⟨g, 0, none⟩ = some ov := (World.cell?_of_block (a := ⟨g, 0, none⟩) hg2).trans h.c0
  have hc1 : w4.cell? ⟨g, 1, none⟩ = some pv := (World.cell?_of_block (a := ⟨g, 1, none⟩) hg2).trans h.c1
  have hc2 : w4.cell? ⟨g, 2, none⟩ = some tv := (World.cell?_of_block (a := ⟨g, 2, none⟩) hg2).trans h.c2
  refine ⟨⟨h.ge, by simp [go_sem, hc0], ?_, ?_, fun i => ?_, ?_, ?_, ?_, hg1, h.pg, h.tg, fun k hk hk2 => (hold k (hpv k hk2).1 (hpv k hk2).2).1 hk, fun k hk hk2 => (hold k (htv k hk2).1 (htv k hk2).2).1 hk, h.pt⟩, Pm.setKept (.inl rfl) hq hg fun k hk hfr => ?_⟩
  · rw [World.cell?_setCell_other _ _ _ _ (fun e => by injection e with e1 e2; cases e2)]
    exact hc1
  · rw [World.cell?_setCell_other _ _ _ _ (fun e => by injection e with e1 e2; cases e2)]
    exact hc2
  · rw [World.frozen?_setCell]
    exact Pm.frozenOn hg2 h.fz i
  · exact hT.on (by simp) (fun k hk => hne k (fun e => hg1 (by rw [← e]; exact hk))) (fun k _ _ _ h4 => ⟨h4, hne k (fun e => h4 (.inl e))⟩)
  · exact Rm.own_on h.opn (fun k hk => (hne k (fun e => h.pg (by rw [← e]; exact hk))).trans (hold k (hpv k hk).1 (hpv k hk).2).2)
  · exact Rm.own_on h.txt (fun k hk => (hne k (fun e => h.tg (by rw [← e]; exact hk))).trans (hold k (htv k hk).1 (htv k hk).2).2)
  · have h3 : ov.ownBlock ≠ some k := fun e => hfr (.inr (.inl e))
    refine ⟨(hold k hk h3).2, fun q => ?_⟩
    rcases q with q | q | q
    · exact hfr (.inl q)
    · exact (hold k hk h3).1 q
    · exact hfr (.inr (.inr q))
/-- another text in a node -/
theorem Pm.At.put {base : Nat} {w : World} {g : Nat} {m : Bt} {bs : ByteArray} {og od : Nat} {pv tv : Value} (h : Pm.At base w g m bs (.slice (some ⟨og, 0, none⟩) m.out.length od) pv tv) {i : Nat} {x : Nd} (hi : m.out[i]? = some x) (y : ByteArray) :
    Pm.At base (w.setCell ⟨og, i * 5 + 2, none⟩ (.string y)) g { m with out := m.out.set i { x with text := y } } bs (.slice (some ⟨og, 0, none⟩) m.out.length od) pv tv ∧ Pm.Kept w (w.setCell ⟨og, i * 5 + 2, none⟩ (.string y)) (Pm.Mine g (.slice (some ⟨og, 0, none⟩) m.out.length od) pv tv) (Pm.Mine g (.slice (some ⟨og, 0, none⟩) m.out.length od) pv tv) := by
  have hg : g ≠ og := fun e => h.og (by rw [e]; rfl)
  have hne : ∀ k, k ≠ og → (w.setCell ⟨og, i * 5 + 2, none⟩ (.string y)).heap[k]? = w.heap[k]? := fun k hk => Below.heap_setCell _ _ _ _ hk
  have hb := hne g hg
  refine ⟨⟨h.ge, (World.cell?_of_block (a := ⟨g, 0, none⟩) hb).trans h.c0, (World.cell?_of_block (a := ⟨g, 1, none⟩) hb).trans h.c1, (World.cell?_of_block (a := ⟨g, 2, none⟩) hb).trans h.c2, fun j => by rw [World.frozen?_setCell]; exact h.fz j, ?_, ?_, ?_, h.og, h.pg, h.tg, h.op, h.ot, h.pt⟩, ⟨rfl, rfl, rfl, by simp, fun k _ hf => ⟨hne k (fun e => hf (.inr (.inl (by rw [e]; rfl)))), hf⟩⟩⟩
  · have := Um.Row.put h.out hi y
    exact this
  · exact Rm.own_on h.opn (fun k hk => hne k (fun e => h.op og rfl (by rw [← e]; exact hk)))
  · exact Rm.own_on h.txt (fun k hk => hne k (fun e => h.ot og rfl (by rw [← e]; exact hk)))
/-- another row of numbers -/
theorem Pm.At.open {base : Nat} {w w1 w4 : World} {g : Nat} {m : Bt} {bs : ByteArray} {ov pv tv pv' : Value} {l : List Nat} (h : Pm.At base w g m bs ov pv tv) (hq : Below w.heap.size w w1) {r : Option Nat} (hr : r = pv.ownBlock ∨ ∃ k, r = some k ∧ w.heap.size ≤ k)
    (R4 : w4.ownsRow base 3 1 pv' l.length (Um.ints l)) (hg : w1.grownBy w4 r) (hf : pv'.ownBlock = pv.ownBlock ∨ ∃ k, pv'.ownBlock = some k ∧ w.heap.size ≤ k) :
    Pm.At base (w4.setCell ⟨g, 1, none⟩ pv') g { m with opn := l } bs ov pv' tv ∧ Pm.Kept w (w4.setCell ⟨g, 1, none⟩ pv') (Pm.Mine g ov pv tv) (Pm.Mine g ov pv' tv) := by
  have hlt := h.lt
  have hold := Pm.held (xv := pv) (xv' := pv') hq hr hg hf
  have hne : ∀ k, k ≠ g → (w4.setCell ⟨g, 1, none⟩ pv').heap[k]? = w4.heap[k]? := fun k hk => Below.heap_setCell _ _ _ _ hk
  have hsz : w.heap.size ≤ w4.heap.size := Nat.le_trans hq.size hg.size
  obtain ⟨hg1, hg2⟩ := hold g hlt h.pg
  have hov : ∀ k, ov.ownBlock = some k → k < w.heap.size ∧ pv.ownBlock ≠ some k := fun k hk => ⟨(h.ovLt hk).2, h.op k hk⟩
  have htv : ∀ k, tv.ownBlock = some k → k < w.heap.size ∧ pv.ownBlock ≠ some k := fun k hk => ⟨(h.tvLt hk).2, fun e => h.pt k e hk⟩
  have hc0 : w4.cell? ⟨g, 0, none⟩ = some ov := (World.cell?_of_block (a := ⟨g, 0, none⟩) hg2).trans h.c0
  have hc1 : w4.cell? ⟨g, 1, none⟩ = some pv := (World.cell?_of_block (a := ⟨g, 1, none⟩) hg2).trans h.c1
  have hc2 : w4.cell? ⟨g, 2, none⟩ = some tv := (World.cell?_of_block (a := ⟨g, 2, none⟩) hg2).trans h.c2
  refine ⟨⟨h.ge, ?_, by simp [go_sem, hc1], ?_, fun i => ?_, ?_, ?_, ?_, h.og, hg1, h.tg, fun k hk => (hold k (hov k hk).1 (hov k hk).2).1, h.ot, fun k hk hk2 => (hold k (htv k hk2).1 (htv k hk2).2).1 hk⟩, Pm.setKept (.inl rfl) hq hg fun k hk hfr => ?_⟩
  · rw [World.cell?_setCell_other _ _ _ _ (fun e => by injection e with e1 e2; cases e2)]
    exact hc0
  · rw [World.cell?_setCell_other _ _ _ _ (fun e => by injection e with e1 e2; cases e2)]
    exact hc2
  · rw [World.frozen?_setCell]
    exact Pm.frozenOn hg2 h.fz i
  · refine h.out.on (by simpa using hsz) (fun k hk => (hne k (fun e => h.og (by rw [← e]; exact hk))).trans (hold k (hov k hk).1 (hov k hk).2).2) (fun k _ h2 _ h4 => ?_)
    have h5 : pv.ownBlock ≠ some k := fun e => h4 (.inr (.inl e))
    refine ⟨fun q => ?_, (hne k (fun e => h4 (.inl e))).trans (hold k h2 h5).2⟩
    rcases q with q | q | q
    · exact h4 (.inl q)
    · exact (hold k h2 h5).1 q
    · exact h4 (.inr (.inr q))
  · exact Rm.own_on R4 (fun k hk => hne k (fun e => hg1 (by rw [← e]; exact hk)))
  · exact Rm.own_on h.txt (fun k hk => (hne k (fun e => h.tg (by rw [← e]; exact hk))).trans (hold k (htv k hk).1 (htv k hk).2).2)
  · have h3 : pv.ownBlock ≠ some k := fun e => hfr (.inr (.inr (.inl e)))
    refine ⟨(hold k hk h3).2, fun q => ?_⟩
    rcases q with q | q | q | q
    · exact hfr (.inl q)
    · exact hfr (.inr (.inl q))
    · exact (hold k hk h3).1 q
    · exact hfr (.inr (.inr (.inr q)))
/-- another row of bytes -/
theorem Pm.At.text {base : Nat} {w w1 w4 : World} {g : Nat} {m : Bt} {bs bs' : ByteArray} {ov pv tv tv' : Value} (h : Pm.At base w g m bs ov pv tv) (hq : Below w.heap.size w w1) {r : Option Nat} (hr : r = tv.ownBlock ∨ ∃ k, r = some k ∧ w.heap.size ≤ k)
    (R4 : w4.ownsRow base 5 1 tv' bs'.size (Lib.strCells bs')) (hg : w1.grownBy w4 r) (hf : tv'.ownBlock = tv.ownBlock ∨ ∃ k, tv'.ownBlock = some k ∧ w.heap.size ≤ k) :
    Pm.At base (w4.setCell ⟨g, 2, none⟩ tv') g m bs' ov pv tv' ∧ Pm.Kept w (w4.setCell ⟨g, 2, none⟩ tv') (Pm.Mine g ov pv tv) (Pm.Mine g ov pv tv') := by
  have hlt := h.lt
  have hold := Pm.held (xv := tv) (xv' := tv') hq hr hg hf
  have hne : ∀ k, k ≠ g → (w4.setCell ⟨g, 2, none⟩ tv').heap[k]? = w4.heap[k]? := fun k hk => Below.heap_setCell _ _ _ _ hk
  have hsz : w.heap.size ≤ w4.heap.size := Nat.le_trans hq.size hg.size
  obtain ⟨hg1, hg2⟩ := hold g hlt h.tg
  have hov : ∀ k, ov.ownBlock = some k → k < w.heap.size ∧ tv.ownBlock ≠ some k := fun k hk => ⟨(h.ovLt hk).2, h.ot k hk⟩
  have hpv : ∀ k, pv.ownBlock = some k → k < w.heap.size ∧ tv.ownBlock ≠ some k := fun k hk => ⟨(h.pvLt hk).2, h.pt k hk⟩
  have hc0 : w4.cell? ⟨g, 0, none⟩ = some ov := (World.cell?_of_block (a := ⟨g, 0, none⟩) hg2).trans h.c0
  have hc1 : w4.cell? ⟨g, 1, none⟩ = some pv := (World.cell?_of_block (a := ⟨g, 1, none⟩) hg2).trans h.c1
  have hc2 : w4.cell? ⟨g, 2, none⟩ = some tv := (World.cell?_of_block (a := ⟨g, 2, none⟩) hg2).trans h.c2
  refine ⟨⟨h.ge, ?_, ?_, by simp [go_sem, hc2], fun i => ?_, ?_, ?_, ?_, h.og, h.pg, hg1, h.op, fun k hk => (hold k (hov k hk).1 (hov k hk).2).1, fun k hk => (hold k (hpv k hk).1 (hpv k hk).2).1⟩, Pm.setKept (.inl rfl) hq hg fun k hk hfr => ?_⟩
  · rw [World.cell?_setCell_other _ _ _ _ (fun e => by injection e with e1 e2; cases e2)]
    exact hc0
  · rw [World.cell?_setCell_other _ _ _ _ (fun e => by injection e with e1 e2; cases e2)]
    exact hc1
  · rw [World.frozen?_setCell]
    exact Pm.frozenOn hg2 h.fz i
  · refine h.out.on (by simpa using hsz) (fun k hk => (hne k (fun e => h.og (by rw [← e]; exact hk))).trans (hold k (hov k hk).1 (hov k hk).2).2) (fun k _ h2 _ h4 => ?_)
    have h5 : tv.ownBlock ≠ some k := fun e => h4 (.inr (.inr e))
    refine ⟨fun q => ?_, (hne k (fun e => h4 (.inl e))).trans (hold k h2 h5).2⟩
    rcases q with q | q | q
    · exact h4 (.inl q)
    · exact h4 (.inr (.inl q))
    · exact (hold k h2 h5).1 q
  · exact Rm.own_on h.opn (fun k hk => (hne k (fun e => h.pg (by rw [← e]; exact hk))).trans (hold k (hpv k hk).1 (hpv k hk).2).2)
  · exact Rm.own_on R4 (fun k hk => hne k (fun e => hg1 (by rw [← e]; exact hk)))
  · have h3 : tv.ownBlock ≠ some k := fun e => hfr (.inr (.inr (.inr e)))
    refine ⟨(hold k hk h3).2, fun q => ?_⟩
    rcases q with q | q | q | q
    · exact hfr (.inl q)
    · exact hfr (.inr (.inl q))
    · exact hfr (.inr (.inr (.inl q)))
    · exact (hold k hk h3).1 q
/-- a row of one's own, cut short -/
theorem Pm.short {w : World} {base : Nat} {e : TypeId} {n g d : Nat} {xs : List Value} (h : w.ownsRow base e 1 (.slice (some ⟨g, 0, none⟩) n d) n xs) (i : Nat) (hi : i ≤ n) : w.ownsRow base e 1 (.slice (some ⟨g, 0, none⟩) i d) i (xs.take i) := by
  have hl := h.1
  rcases h.2 with ⟨q, _⟩ | ⟨g', cap, cur, q, hb, hg, h1, h2, h3, h4⟩
  · cases q
  · injection q with q1 q2 q3
    subst q3
    injection q1 with q1
    injection q1 with q1
    subst q1
    refine ⟨by rw [List.length_take]; omega, .inr ⟨g, _, cur, rfl, hb, hg, by omega, h2, h3, ?_⟩⟩
    rw [← h4, List.take_take]
    congr 1
    omega
theorem Pm.none_bytes : Lib.strCells Ts.e = [] := rfl
theorem Pm.bytes_append (a b : ByteArray) : Lib.strCells (a ++ b) = Lib.strCells a ++ Lib.strCells b := by simp [Lib.strCells, ByteArray.data_append]
/-- the bytes' row as a text -/
theorem Pm.conv {wr : World} {B : Nat} {v : Value} {s : ByteArray} (h : wr.ownsRow B 5 1 v s.size (Lib.strCells s)) :
    (convert 52 9 v).run Try.prog wr = .ok (.string s) wr := by
  obtain ⟨acc, rfl⟩ : ∃ acc : List UInt8, s = ⟨acc.toArray⟩ := ⟨s.data.toList, by apply ByteArray.ext; simp⟩
  have hz : (⟨acc.toArray⟩ : ByteArray).size = acc.length := by show acc.toArray.size = _; simp
  have hc : Lib.strCells ⟨acc.toArray⟩ = Lib.byteCells acc := by simp [Lib.strCells, Lib.byteCells]
  rw [hz, hc] at h
  rcases h.2 with ⟨rfl, h0⟩ | ⟨g, cap, cur, rfl, _⟩
  · have e : acc = [] := List.eq_nil_of_length_eq_zero h0
    subst e
    rw [run_convert_bytes_string wr 52 9 5 none 0 0 Try.underlying52 Try.underlying5 Try.underlying9]
    simp [Conv.bytesToString]
    rfl
  · refine run_convert_bytes_back (P := Try.prog) wr 52 9 5 ⟨g, 0, none⟩ cap acc Try.underlying52 Try.underlying5 Try.underlying9 (fun j hj => ?_)
    have e : (⟨g, 0, none⟩ : Addr).add j = ⟨g, j, none⟩ := by rw [Addr.add_lit, Nat.zero_add]
    rw [e, h.cellAt j (by omega)]
    simp [Lib.byteCells, hj]
end Go.Proofs.Ythfobjkdcncoiaa
