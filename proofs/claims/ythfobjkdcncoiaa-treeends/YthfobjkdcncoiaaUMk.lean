/-
  THE REFERENCE's MAKER IN MEMORY: its block g of two cells, the row of nodes, the row of numbers.
-/
import Derived.Test.YthfobjkdcncoiaaUNode
import Derived.Deep.CutRange
import Derived.Deep.RegionLaw
namespace Go.Proofs.Ythfobjkdcncoiaa
open Go.RowKit
def Um.ints (l : List Nat) : List Value := l.map fun k : Nat => Value.int .i64 (k : Int)
theorem Um.ints_length (l : List Nat) : (Um.ints l).length = l.length := by unfold Um.ints; rw [List.length_map]
theorem Um.ints_get {l : List Nat} {i k : Nat} (h : l[i]? = some k) : (Um.ints l)[i]? = some (.int .i64 (k : Int)) := by unfold Um.ints; rw [List.getElem?_map, h]; rfl
theorem Um.ints_one (l : List Nat) : ∀ u ∈ Um.ints l, u.oneCell' = true := by
  intro u hu
  unfold Um.ints at hu
  obtain ⟨k, _, rfl⟩ := List.mem_map.1 hu
  rfl
theorem Um.ints_append (a b : List Nat) : Um.ints (a ++ b) = Um.ints a ++ Um.ints b := by unfold Um.ints; rw [List.map_append]
theorem Um.form {w : World} {base : Nat} {e : TypeId} {size n : Nat} {v : Value} {xs : List Value} (h : w.ownsRow base e size v n xs) : ∃ a d, v = .slice a n d := by
  rcases h.2 with ⟨rfl, rfl⟩ | ⟨g, cap, cur, rfl, _⟩
  · exact ⟨_, _, rfl⟩
  · exact ⟨_, _, rfl⟩
theorem Um.form1 {w : World} {base : Nat} {e : TypeId} {size n : Nat} {v : Value} {xs : List Value} (h : w.ownsRow base e size v n xs) (hn : 0 < n) : ∃ g d, v = .slice (some ⟨g, 0, none⟩) n d ∧ n ≤ d ∧ d ≤ maxLen := by
  rcases h.2 with ⟨rfl, rfl⟩ | ⟨g, cap, cur, rfl, _, _, h1, h2, _⟩
  · exact absurd hn (by decide)
  · exact ⟨g, cap, rfl, h1, h2⟩
/-- the maker's whole state lies in memory -/
structure Um.At (base : Nat) (w : World) (g : Nat) (m : Bt) (ov pv : Value) : Prop where
  ge : base ≤ g
  c0 : w.cell? ⟨g, 0, none⟩ = some ov
  c1 : w.cell? ⟨g, 1, none⟩ = some pv
  fz : ∀ i, w.frozen? ⟨g, i, none⟩ = false
  out : Um.Row base m.out w ov (fun k => k = g ∨ pv.ownBlock = some k)
  opn : w.ownsRow base 3 1 pv m.opn.length (Um.ints m.opn)
  og : ov.ownBlock ≠ some g
  pg : pv.ownBlock ≠ some g
  op : ∀ k, ov.ownBlock = some k → pv.ownBlock ≠ some k
theorem Um.At.lt {base : Nat} {w : World} {g : Nat} {m : Bt} {ov pv : Value} (h : Um.At base w g m ov pv) : g < w.heap.size := World.block_lt_of_cell? _ _ h.c0
theorem Um.At.ovLt {base : Nat} {w : World} {g : Nat} {m : Bt} {ov pv : Value} (h : Um.At base w g m ov pv) {k : Nat} (hk : ov.ownBlock = some k) : base ≤ k ∧ k < w.heap.size := by
  obtain ⟨xs, ho, _⟩ := h.out
  exact ho.lt k hk
theorem Um.At.pvLt {base : Nat} {w : World} {g : Nat} {m : Bt} {ov pv : Value} (h : Um.At base w g m ov pv) {k : Nat} (hk : pv.ownBlock = some k) : base ≤ k ∧ k < w.heap.size := h.opn.lt k hk
theorem Um.At.on {base : Nat} {w w' : World} {g : Nat} {m : Bt} {ov pv : Value} (h : Um.At base w g m ov pv) (hb : Below w.heap.size w w') : Um.At base w' g m ov pv :=
  ⟨h.ge, Tp.keep hb h.c0, Tp.keep hb h.c1, Tp.keepF hb h.lt h.fz, h.out.on hb.size (fun k hk => hb.block k (h.ovLt hk).2) (fun k _ h2 _ h4 => ⟨h4, hb.block k h2⟩), Rm.own_on h.opn (fun k hk => hb.block k (h.pvLt hk).2), h.og, h.pg, h.op⟩
/-- a block that is none of the maker's -/
def Um.Free (ov pv : Value) (g k : Nat) : Prop := k ≠ g ∧ ov.ownBlock ≠ some k ∧ pv.ownBlock ≠ some k
structure Um.Kept (w w' : World) (g : Nat) (ov pv ov' pv' : Value) : Prop where
  os : w'.os = w.os
  tape : w'.tape = w.tape
  output : w'.output = w.output
  size : w.heap.size ≤ w'.heap.size
  block : ∀ k, k < w.heap.size → Um.Free ov pv g k → w'.heap[k]? = w.heap[k]? ∧ Um.Free ov' pv' g k
theorem Um.Kept.refl (w : World) (g : Nat) (ov pv : Value) : Um.Kept w w g ov pv ov pv := ⟨rfl, rfl, rfl, Nat.le_refl _, fun _ _ h => ⟨rfl, h⟩⟩
theorem Um.Kept.trans {w w1 w2 : World} {g : Nat} {ov pv ov1 pv1 ov2 pv2 : Value} (h : Um.Kept w w1 g ov pv ov1 pv1) (h2 : Um.Kept w1 w2 g ov1 pv1 ov2 pv2) : Um.Kept w w2 g ov pv ov2 pv2 :=
  ⟨h2.os.trans h.os, h2.tape.trans h.tape, h2.output.trans h.output, Nat.le_trans h.size h2.size, fun k hk hf => by
    obtain ⟨a1, a2⟩ := h.block k hk hf
    obtain ⟨b1, b2⟩ := h2.block k (Nat.lt_of_lt_of_le hk h.size) a2
    exact ⟨b1.trans a1, b2⟩⟩
theorem Um.Kept.of {w w1 : World} (g : Nat) (ov pv : Value) (hb : Below w.heap.size w w1) : Um.Kept w w1 g ov pv ov pv := ⟨hb.os, hb.tape, hb.output, hb.size, fun k hk hf => ⟨hb.block k hk, hf⟩⟩
theorem Um.Kept.cell {w w' : World} {g : Nat} {ov pv ov' pv' : Value} (h : Um.Kept w w' g ov pv ov' pv') {b o : Nat} {v : Value} (hf : Um.Free ov pv g b) (hc : w.cell? ⟨b, o, none⟩ = some v) : w'.cell? ⟨b, o, none⟩ = some v :=
  (World.cell?_of_block (a := ⟨b, o, none⟩) (h.block b (World.block_lt_of_cell? _ _ hc) hf).1).trans hc
theorem Um.Kept.below {base : Nat} {w wr w' : World} {g : Nat} {m : Bt} {ov pv ov' pv' : Value} (hK : Um.Kept wr w' g ov pv ov' pv') (hA : Um.At base wr g m ov pv) (hb : Below base w wr) (hs : base ≤ w.heap.size) : Below base w w' :=
  ⟨hK.os.trans hb.os, hK.tape.trans hb.tape, hK.output.trans hb.output, Nat.le_trans hb.size hK.size, fun k hk => (hK.block k (by have := hb.size; omega) ⟨by have := hA.ge; omega, (fun e => by have := (hA.ovLt e).1; omega), (fun e => by have := (hA.pvLt e).1; omega)⟩).1.trans (hb.block k hk)⟩
/-- a node more, laid down -/
theorem Um.At.push {base : Nat} {w w1 w4 : World} {g : Nat} {m : Bt} {ov pv ov' av : Value} {x : Nd} (h : Um.At base w g m ov pv) (hq : Below w.heap.size w w1) (xs : List Value)
    (hx : w.ownsRow base 38 5 ov m.out.length xs ∧ ∀ i x, m.out[i]? = some x → ∃ av, Nd.Has xs i x av ∧ Ak.Lies w (fun k => base ≤ k ∧ k < w.heap.size ∧ ov.ownBlock ≠ some k ∧ ¬ (k = g ∨ pv.ownBlock = some k) ∧ Rm.Ub w k) x.attrs av)
    (hat : Ak.Lies w (fun k => base ≤ k ∧ k < w.heap.size ∧ ov.ownBlock ≠ some k ∧ ¬ (k = g ∨ pv.ownBlock = some k) ∧ Rm.Ub w k) x.attrs av)
    (R4 : w4.ownsRow base 38 5 ov' (m.out.length + 1) (xs ++ Nd.five x av)) (hg : w1.grownBy w4 ov.ownBlock) (hf : ov'.ownBlock = ov.ownBlock ∨ ov'.ownBlock = some w1.heap.size) :
    Um.At base (w4.setCell ⟨g, 0, none⟩ ov') g { m with out := m.out ++ [x] } ov' pv ∧ Um.Kept w (w4.setCell ⟨g, 0, none⟩ ov') g ov pv ov' pv := by
  have hlt := h.lt
  have hold : ∀ k, k < w.heap.size → ov.ownBlock ≠ some k → ov'.ownBlock ≠ some k ∧ w4.heap[k]? = w.heap[k]? := fun k hk hv => ⟨(fun e => by
    rcases hf with q | q
    · rw [q] at e; exact hv e
    · rw [q] at e; have := Option.some.inj e; have := hq.size; omega), (hg.block k (Nat.lt_of_lt_of_le hk hq.size) (fun e => hv e.symm)).trans (hq.block k hk)⟩
  have hne : ∀ k, k ≠ g → (w4.setCell ⟨g, 0, none⟩ ov').heap[k]? = w4.heap[k]? := fun k hk => Below.heap_setCell _ _ _ _ hk
  have hsz : w.heap.size ≤ w4.heap.size := Nat.le_trans hq.size hg.size
  have hpv : ∀ k, pv.ownBlock = some k → k < w.heap.size ∧ ov.ownBlock ≠ some k := fun k hk => ⟨(h.pvLt hk).2, fun e => h.op k e hk⟩
  obtain ⟨hg1, hg2⟩ := hold g hlt h.og
  have hT : Um.Row base (m.out ++ [x]) w4 ov' (fun k => k = g ∨ pv.ownBlock = some k) := by
    refine Um.Row.push xs hx.1 hx.2 hsz R4 (hat.on fun k hk => ?_) (fun k _ h2 h3 h4 => ⟨⟨(hold k h2 h3).1, h4⟩, (hold k h2 h3).2⟩)
    obtain ⟨q1, q2⟩ := hold k hk.2.1 hk.2.2.1
    exact ⟨⟨hk.1, by omega, q1, hk.2.2.2.1, hk.2.2.2.2.on q2⟩, q2⟩
  obtain ⟨ys, hys, hyx⟩ := id hT
  have hc0 : w4.cell? ⟨g, 0, none⟩ = some ov := (World.cell?_of_block (a := ⟨g, 0, none⟩) hg2).trans h.c0
  have hc1 : w4.cell? ⟨g, 1, none⟩ = some pv := (World.cell?_of_block (a := ⟨g, 1, none⟩) hg2).trans h.c1
  refine ⟨⟨h.ge, by simp [go_sem, hc0], ?_, fun i => ?_, ?_, ?_, hg1, h.pg, fun k hk hk2 => (hold k (hpv k hk2).1 (hpv k hk2).2).1 hk⟩, ⟨hg.os.trans hq.os, hg.tape.trans hq.tape, hg.output.trans hq.output, by simpa using hsz, fun k hk hfr => ⟨?_, hfr.1, (hold k hk hfr.2.1).1, hfr.2.2⟩⟩⟩
  · rw [World.cell?_setCell_other _ _ _ _ (fun e => by injection e with e1 e2; cases e2)]
    exact hc1
  · rw [World.frozen?_setCell]
    have := h.fz i
    unfold World.frozen? at this ⊢
    rw [hg2]
    exact this
  · exact hT.on (by simp) (fun k hk => hne k (fun e => hg1 (by rw [← e]; exact hk))) (fun k _ _ _ h4 => ⟨h4, hne k (fun e => h4 (.inl e))⟩)
  · exact Rm.own_on h.opn (fun k hk => (hne k (fun e => h.pg (by rw [← e]; exact hk))).trans (hold k (hpv k hk).1 (hpv k hk).2).2)
  · rw [hne k hfr.1]
    exact (hold k hk hfr.2.1).2
/-- another text in a node -/
theorem Um.At.put {base : Nat} {w : World} {g : Nat} {m : Bt} {og od : Nat} {pv : Value} (h : Um.At base w g m (.slice (some ⟨og, 0, none⟩) m.out.length od) pv) {i : Nat} {x : Nd} (hi : m.out[i]? = some x) (y : ByteArray) :
    Um.At base (w.setCell ⟨og, i * 5 + 2, none⟩ (.string y)) g { m with out := m.out.set i { x with text := y } } (.slice (some ⟨og, 0, none⟩) m.out.length od) pv ∧ Um.Kept w (w.setCell ⟨og, i * 5 + 2, none⟩ (.string y)) g (.slice (some ⟨og, 0, none⟩) m.out.length od) pv (.slice (some ⟨og, 0, none⟩) m.out.length od) pv := by
  have hg : g ≠ og := fun e => h.og (by rw [e]; rfl)
  have hne : ∀ k, k ≠ og → (w.setCell ⟨og, i * 5 + 2, none⟩ (.string y)).heap[k]? = w.heap[k]? := fun k hk => Below.heap_setCell _ _ _ _ hk
  have hb := hne g hg
  refine ⟨⟨h.ge, (World.cell?_of_block (a := ⟨g, 0, none⟩) hb).trans h.c0, (World.cell?_of_block (a := ⟨g, 1, none⟩) hb).trans h.c1, fun j => by rw [World.frozen?_setCell]; exact h.fz j, ?_, ?_, h.og, h.pg, h.op⟩, ⟨rfl, rfl, rfl, by simp, fun k _ hf => ⟨hne k (fun e => hf.2.1 (by rw [e]; rfl)), hf⟩⟩⟩
  · have := Um.Row.put h.out hi y
    exact this
  · exact Rm.own_on h.opn (fun k hk => hne k (fun e => h.op og rfl (by rw [← e]; exact hk)))
/-- another row of numbers -/
theorem Um.At.open {base : Nat} {w w1 w4 : World} {g : Nat} {m : Bt} {ov pv pv' : Value} {l : List Nat} (h : Um.At base w g m ov pv) (hq : Below w.heap.size w w1) {r : Option Nat} (hr : r = pv.ownBlock ∨ ∃ k, r = some k ∧ w.heap.size ≤ k)
    (R4 : w4.ownsRow base 3 1 pv' l.length (Um.ints l)) (hg : w1.grownBy w4 r) (hf : pv'.ownBlock = pv.ownBlock ∨ ∃ k, pv'.ownBlock = some k ∧ w.heap.size ≤ k) :
    Um.At base (w4.setCell ⟨g, 1, none⟩ pv') g { m with opn := l } ov pv' ∧ Um.Kept w (w4.setCell ⟨g, 1, none⟩ pv') g ov pv ov pv' := by
  have hlt := h.lt
  have hold : ∀ k, k < w.heap.size → pv.ownBlock ≠ some k → pv'.ownBlock ≠ some k ∧ w4.heap[k]? = w.heap[k]? := fun k hk hv => ⟨(fun e => by
    rcases hf with q | ⟨k', q, hk'⟩
    · rw [q] at e; exact hv e
    · rw [q] at e; have := Option.some.inj e; omega), (hg.block k (Nat.lt_of_lt_of_le hk hq.size) (fun e => by
      rcases hr with q | ⟨k', q, hk'⟩
      · rw [q] at e; exact hv e.symm
      · rw [q] at e; have := Option.some.inj e; omega)).trans (hq.block k hk)⟩
  have hne : ∀ k, k ≠ g → (w4.setCell ⟨g, 1, none⟩ pv').heap[k]? = w4.heap[k]? := fun k hk => Below.heap_setCell _ _ _ _ hk
  have hsz : w.heap.size ≤ w4.heap.size := Nat.le_trans hq.size hg.size
  obtain ⟨hg1, hg2⟩ := hold g hlt h.pg
  have hov : ∀ k, ov.ownBlock = some k → k < w.heap.size ∧ pv.ownBlock ≠ some k := fun k hk => ⟨(h.ovLt hk).2, h.op k hk⟩
  have hc0 : w4.cell? ⟨g, 0, none⟩ = some ov := (World.cell?_of_block (a := ⟨g, 0, none⟩) hg2).trans h.c0
  have hc1 : w4.cell? ⟨g, 1, none⟩ = some pv := (World.cell?_of_block (a := ⟨g, 1, none⟩) hg2).trans h.c1
  refine ⟨⟨h.ge, ?_, by simp [go_sem, hc1], fun i => ?_, ?_, ?_, h.og, hg1, fun k hk => (hold k (hov k hk).1 (hov k hk).2).1⟩, ⟨hg.os.trans hq.os, hg.tape.trans hq.tape, hg.output.trans hq.output, by simpa using hsz, fun k hk hfr => ⟨?_, hfr.1, hfr.2.1, (hold k hk hfr.2.2).1⟩⟩⟩
  · rw [World.cell?_setCell_other _ _ _ _ (fun e => by injection e with e1 e2; cases e2)]
    exact hc0
  · rw [World.frozen?_setCell]
    have := h.fz i
    unfold World.frozen? at this ⊢
    rw [hg2]
    exact this
  · refine h.out.on (by simpa using hsz) (fun k hk => (hne k (fun e => h.og (by rw [← e]; exact hk))).trans (hold k (hov k hk).1 (hov k hk).2).2) (fun k _ h2 _ h4 => ?_)
    have h5 : pv.ownBlock ≠ some k := fun e => h4 (.inr e)
    refine ⟨fun q => ?_, (hne k (fun e => h4 (.inl e))).trans (hold k h2 h5).2⟩
    rcases q with q | q
    · exact h4 (.inl q)
    · exact (hold k h2 h5).1 q
  · exact Rm.own_on R4 (fun k hk => hne k (fun e => hg1 (by rw [← e]; exact hk)))
  · rw [hne k hfr.1]
    exact (hold k hk hfr.2.2).2
theorem Um.At.drew {base : Nat} {w : World} {g : Nat} {m : Bt} {ov pv : Value} (h : Um.At base w g m ov pv) : Um.At base w.drew g m ov pv := h.on (Below.refl _ _).drew
end Go.Proofs.Ythfobjkdcncoiaa
