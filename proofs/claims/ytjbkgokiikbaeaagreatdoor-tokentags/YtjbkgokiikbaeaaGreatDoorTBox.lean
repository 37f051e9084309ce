/-
  THE READER in memory: its block; what a call of its methods leaves as it was.
-/
import Derived.Test.YtjbkgokiikbaeaaGreatDoorTMem
namespace Go.Proofs.YtjbkgokiikbaeaaGreatDoor
open Go.RowKit

/-- the reader's cells -/
structure Rm.Box (w : World) (g : Nat) (P : ByteArray) (st : Ts) (tv : Value) (text opn value : Nat) (av : Value) (taken : Bool) : Prop where
  page : w.cell? ⟨g, 0, none⟩ = some (.string P)
  tab : Tp.Table w g 1
  s0 : w.cell? ⟨g, 24, none⟩ = some (.int .i64 st.pl)
  s1 : w.cell? ⟨g, 25, none⟩ = some (.string st.name)
  s2 : w.cell? ⟨g, 26, none⟩ = some (.bool st.fin)
  s3 : w.cell? ⟨g, 27, none⟩ = some (.string st.attr)
  s4 : w.cell? ⟨g, 28, none⟩ = some (.string st.held)
  s5 : w.cell? ⟨g, 29, none⟩ = some (.int .i64 st.read)
  toks : w.cell? ⟨g, 30, none⟩ = some tv
  text : w.cell? ⟨g, 31, none⟩ = some (.int .i64 (text : Int))
  opn : w.cell? ⟨g, 32, none⟩ = some (.int .i64 (opn : Int))
  value : w.cell? ⟨g, 33, none⟩ = some (.int .i64 (value : Int))
  attrs : w.cell? ⟨g, 34, none⟩ = some av
  taken : w.cell? ⟨g, 35, none⟩ = some (.bool taken)
  fz : ∀ i, w.frozen? ⟨g, i, none⟩ = false
  quotes : ∀ B C, w.cell? ⟨g, 1 + 8, none⟩ = some (Tp.quote B) → w.cell? ⟨g, 1 + 9, none⟩ = some (Tp.quote C) → B < g ∧ C < g
theorem Rm.Box.lt {w : World} {g : Nat} {P : ByteArray} {st : Ts} {tv : Value} {text opn value : Nat} {av : Value} {taken : Bool} (h : Rm.Box w g P st tv text opn value av taken) : g < w.heap.size := h.tab.lt
theorem Rm.cell_of {w w' : World} {b o : Nat} {v : Value} (h : w.cell? ⟨b, o, none⟩ = some v) (hw : w'.heap[b]? = w.heap[b]?) : w'.cell? ⟨b, o, none⟩ = some v := (World.cell?_of_block (a := ⟨b, o, none⟩) hw).trans h
/-- the table's quotes lie below the reader -/
theorem Rm.Box.two {w : World} {g : Nat} {P : ByteArray} {st : Ts} {tv : Value} {text opn value : Nat} {av : Value} {taken : Bool} (h : Rm.Box w g P st tv text opn value av taken) : ∃ B C, B < g ∧ C < g ∧ w.cell? ⟨B, 0, none⟩ = some (.int .u8 34) ∧ w.cell? ⟨C, 0, none⟩ = some (.int .u8 39) ∧ ∀ k v, (Tp.table B C)[k]? = some v → w.cell? ⟨g, 1 + k, none⟩ = some v := by
  obtain ⟨B, C, hB, hC, h34, h39, hk⟩ := h.tab.cell
  obtain ⟨h1, h2⟩ := h.quotes B C (hk 8 _ rfl) (hk 9 _ rfl)
  exact ⟨B, C, h1, h2, h34, h39, hk⟩
/-- the block and what lies below it are as they were -/
theorem Rm.Box.on {w w' : World} {g : Nat} {P : ByteArray} {st : Ts} {tv : Value} {text opn value : Nat} {av : Value} {taken : Bool} (h : Rm.Box w g P st tv text opn value av taken) (hs : w.heap.size ≤ w'.heap.size) (hw : ∀ k, k ≤ g → w'.heap[k]? = w.heap[k]?) : Rm.Box w' g P st tv text opn value av taken := by
  have hg := hw g (Nat.le_refl _)
  have hlt := h.lt
  obtain ⟨B, C, hB, hC, h34, h39, hk⟩ := h.two
  exact ⟨Rm.cell_of h.page hg, ⟨Nat.lt_of_lt_of_le h.tab.lt hs, B, C, by omega, by omega, Rm.cell_of h34 (hw B (by omega)), Rm.cell_of h39 (hw C (by omega)), fun k v hv => Rm.cell_of (hk k v hv) hg⟩,
    Rm.cell_of h.s0 hg, Rm.cell_of h.s1 hg, Rm.cell_of h.s2 hg, Rm.cell_of h.s3 hg, Rm.cell_of h.s4 hg, Rm.cell_of h.s5 hg, Rm.cell_of h.toks hg, Rm.cell_of h.text hg, Rm.cell_of h.opn hg, Rm.cell_of h.value hg, Rm.cell_of h.attrs hg, Rm.cell_of h.taken hg,
    fun i => (World.frozen?_of_block (a := ⟨g, i, none⟩) hg).trans (h.fz i), fun B' C' e1 e2 => h.quotes B' C' ((World.cell?_of_block (a := ⟨g, 1 + 8, none⟩) hg).symm.trans e1) ((World.cell?_of_block (a := ⟨g, 1 + 9, none⟩) hg).symm.trans e2)⟩
/-- a store into the reader's block -/
theorem Rm.other (w : World) (g j : Nat) (u : Value) {o : Nat} (hj : o ≠ j) : (w.setCell ⟨g, j, none⟩ u).cell? ⟨g, o, none⟩ = w.cell? ⟨g, o, none⟩ :=
  World.cell?_setCell_other _ _ _ _ (fun e => hj (by injection e with e1 e2 e3; exact e2.symm))
theorem Rm.out (w : World) (g j : Nat) (u : Value) {b : Nat} (hb : b ≠ g) (o : Nat) : (w.setCell ⟨g, j, none⟩ u).cell? ⟨b, o, none⟩ = w.cell? ⟨b, o, none⟩ :=
  World.cell?_setCell_other _ _ _ _ (fun e => hb (by injection e with e1; exact e1.symm))
theorem Rm.tab_set {w : World} {g : Nat} {P : ByteArray} {st : Ts} {tv : Value} {text opn value : Nat} {av : Value} {taken : Bool} (h : Rm.Box w g P st tv text opn value av taken) (j : Nat) (u : Value) (hj : 24 ≤ j) : Tp.Table (w.setCell ⟨g, j, none⟩ u) g 1 := by
  obtain ⟨B, C, hB, hC, h34, h39, hk⟩ := h.two
  have hlt := h.lt
  refine ⟨by simp; exact h.tab.lt, B, C, by simp; omega, by simp; omega, ?_, ?_, fun k v hv => ?_⟩
  · rw [Rm.out _ _ _ _ (by omega)]; exact h34
  · rw [Rm.out _ _ _ _ (by omega)]; exact h39
  · have hk23 : k < 23 := by
      have := (Array.getElem?_eq_some_iff.1 hv).1
      simpa [Tp.table] using this
    rw [Rm.other _ _ _ _ (by omega)]; exact hk k v hv
theorem Rm.quotes_set {w : World} {g : Nat} {P : ByteArray} {st : Ts} {tv : Value} {text opn value : Nat} {av : Value} {taken : Bool} (h : Rm.Box w g P st tv text opn value av taken) (j : Nat) (u : Value) (hj : 24 ≤ j) : ∀ B C, (w.setCell ⟨g, j, none⟩ u).cell? ⟨g, 1 + 8, none⟩ = some (Tp.quote B) → (w.setCell ⟨g, j, none⟩ u).cell? ⟨g, 1 + 9, none⟩ = some (Tp.quote C) → B < g ∧ C < g := by
  intro B C
  rw [Rm.other _ _ _ _ (by omega), Rm.other _ _ _ _ (by omega)]
  exact h.quotes B C
theorem Rm.Box.setToks {w : World} {g : Nat} {P : ByteArray} {st : Ts} {tv : Value} {text opn value : Nat} {av : Value} {taken : Bool} (h : Rm.Box w g P st tv text opn value av taken) (tv' : Value) : Rm.Box (w.setCell ⟨g, 30, none⟩ (tv')) g P st tv' text opn value av taken := by
  have e : ∀ k, k ≠ 30 → (w.setCell ⟨g, 30, none⟩ (tv')).cell? ⟨g, k, none⟩ = w.cell? ⟨g, k, none⟩ := fun k hk => Rm.other _ _ _ _ hk
  exact ⟨(e 0 (by decide)).trans h.page, Rm.tab_set h 30 _ (by decide), (e 24 (by decide)).trans h.s0, (e 25 (by decide)).trans h.s1, (e 26 (by decide)).trans h.s2, (e 27 (by decide)).trans h.s3, (e 28 (by decide)).trans h.s4, (e 29 (by decide)).trans h.s5, World.cell?_setCell_same _ _ _ h.toks, (e 31 (by decide)).trans h.text, (e 32 (by decide)).trans h.opn, (e 33 (by decide)).trans h.value, (e 34 (by decide)).trans h.attrs, (e 35 (by decide)).trans h.taken, fun i => by rw [World.frozen?_setCell]; exact h.fz i, Rm.quotes_set h 30 _ (by decide)⟩
theorem Rm.Box.setText {w : World} {g : Nat} {P : ByteArray} {st : Ts} {tv : Value} {text opn value : Nat} {av : Value} {taken : Bool} (h : Rm.Box w g P st tv text opn value av taken) (n : Nat) : Rm.Box (w.setCell ⟨g, 31, none⟩ (.int .i64 (n : Int))) g P st tv n opn value av taken := by
  have e : ∀ k, k ≠ 31 → (w.setCell ⟨g, 31, none⟩ (.int .i64 (n : Int))).cell? ⟨g, k, none⟩ = w.cell? ⟨g, k, none⟩ := fun k hk => Rm.other _ _ _ _ hk
  exact ⟨(e 0 (by decide)).trans h.page, Rm.tab_set h 31 _ (by decide), (e 24 (by decide)).trans h.s0, (e 25 (by decide)).trans h.s1, (e 26 (by decide)).trans h.s2, (e 27 (by decide)).trans h.s3, (e 28 (by decide)).trans h.s4, (e 29 (by decide)).trans h.s5, (e 30 (by decide)).trans h.toks, World.cell?_setCell_same _ _ _ h.text, (e 32 (by decide)).trans h.opn, (e 33 (by decide)).trans h.value, (e 34 (by decide)).trans h.attrs, (e 35 (by decide)).trans h.taken, fun i => by rw [World.frozen?_setCell]; exact h.fz i, Rm.quotes_set h 31 _ (by decide)⟩
theorem Rm.Box.setOpn {w : World} {g : Nat} {P : ByteArray} {st : Ts} {tv : Value} {text opn value : Nat} {av : Value} {taken : Bool} (h : Rm.Box w g P st tv text opn value av taken) (n : Nat) : Rm.Box (w.setCell ⟨g, 32, none⟩ (.int .i64 (n : Int))) g P st tv text n value av taken := by
  have e : ∀ k, k ≠ 32 → (w.setCell ⟨g, 32, none⟩ (.int .i64 (n : Int))).cell? ⟨g, k, none⟩ = w.cell? ⟨g, k, none⟩ := fun k hk => Rm.other _ _ _ _ hk
  exact ⟨(e 0 (by decide)).trans h.page, Rm.tab_set h 32 _ (by decide), (e 24 (by decide)).trans h.s0, (e 25 (by decide)).trans h.s1, (e 26 (by decide)).trans h.s2, (e 27 (by decide)).trans h.s3, (e 28 (by decide)).trans h.s4, (e 29 (by decide)).trans h.s5, (e 30 (by decide)).trans h.toks, (e 31 (by decide)).trans h.text, World.cell?_setCell_same _ _ _ h.opn, (e 33 (by decide)).trans h.value, (e 34 (by decide)).trans h.attrs, (e 35 (by decide)).trans h.taken, fun i => by rw [World.frozen?_setCell]; exact h.fz i, Rm.quotes_set h 32 _ (by decide)⟩
theorem Rm.Box.setValue {w : World} {g : Nat} {P : ByteArray} {st : Ts} {tv : Value} {text opn value : Nat} {av : Value} {taken : Bool} (h : Rm.Box w g P st tv text opn value av taken) (n : Nat) : Rm.Box (w.setCell ⟨g, 33, none⟩ (.int .i64 (n : Int))) g P st tv text opn n av taken := by
  have e : ∀ k, k ≠ 33 → (w.setCell ⟨g, 33, none⟩ (.int .i64 (n : Int))).cell? ⟨g, k, none⟩ = w.cell? ⟨g, k, none⟩ := fun k hk => Rm.other _ _ _ _ hk
  exact ⟨(e 0 (by decide)).trans h.page, Rm.tab_set h 33 _ (by decide), (e 24 (by decide)).trans h.s0, (e 25 (by decide)).trans h.s1, (e 26 (by decide)).trans h.s2, (e 27 (by decide)).trans h.s3, (e 28 (by decide)).trans h.s4, (e 29 (by decide)).trans h.s5, (e 30 (by decide)).trans h.toks, (e 31 (by decide)).trans h.text, (e 32 (by decide)).trans h.opn, World.cell?_setCell_same _ _ _ h.value, (e 34 (by decide)).trans h.attrs, (e 35 (by decide)).trans h.taken, fun i => by rw [World.frozen?_setCell]; exact h.fz i, Rm.quotes_set h 33 _ (by decide)⟩
theorem Rm.Box.setAttrs {w : World} {g : Nat} {P : ByteArray} {st : Ts} {tv : Value} {text opn value : Nat} {av : Value} {taken : Bool} (h : Rm.Box w g P st tv text opn value av taken) (av' : Value) : Rm.Box (w.setCell ⟨g, 34, none⟩ (av')) g P st tv text opn value av' taken := by
  have e : ∀ k, k ≠ 34 → (w.setCell ⟨g, 34, none⟩ (av')).cell? ⟨g, k, none⟩ = w.cell? ⟨g, k, none⟩ := fun k hk => Rm.other _ _ _ _ hk
  exact ⟨(e 0 (by decide)).trans h.page, Rm.tab_set h 34 _ (by decide), (e 24 (by decide)).trans h.s0, (e 25 (by decide)).trans h.s1, (e 26 (by decide)).trans h.s2, (e 27 (by decide)).trans h.s3, (e 28 (by decide)).trans h.s4, (e 29 (by decide)).trans h.s5, (e 30 (by decide)).trans h.toks, (e 31 (by decide)).trans h.text, (e 32 (by decide)).trans h.opn, (e 33 (by decide)).trans h.value, World.cell?_setCell_same _ _ _ h.attrs, (e 35 (by decide)).trans h.taken, fun i => by rw [World.frozen?_setCell]; exact h.fz i, Rm.quotes_set h 34 _ (by decide)⟩
theorem Rm.Box.setTaken {w : World} {g : Nat} {P : ByteArray} {st : Ts} {tv : Value} {text opn value : Nat} {av : Value} {taken : Bool} (h : Rm.Box w g P st tv text opn value av taken) (b : Bool) : Rm.Box (w.setCell ⟨g, 35, none⟩ (.bool b)) g P st tv text opn value av b := by
  have e : ∀ k, k ≠ 35 → (w.setCell ⟨g, 35, none⟩ (.bool b)).cell? ⟨g, k, none⟩ = w.cell? ⟨g, k, none⟩ := fun k hk => Rm.other _ _ _ _ hk
  exact ⟨(e 0 (by decide)).trans h.page, Rm.tab_set h 35 _ (by decide), (e 24 (by decide)).trans h.s0, (e 25 (by decide)).trans h.s1, (e 26 (by decide)).trans h.s2, (e 27 (by decide)).trans h.s3, (e 28 (by decide)).trans h.s4, (e 29 (by decide)).trans h.s5, (e 30 (by decide)).trans h.toks, (e 31 (by decide)).trans h.text, (e 32 (by decide)).trans h.opn, (e 33 (by decide)).trans h.value, (e 34 (by decide)).trans h.attrs, World.cell?_setCell_same _ _ _ h.taken, fun i => by rw [World.frozen?_setCell]; exact h.fz i, Rm.quotes_set h 35 _ (by decide)⟩
theorem Rm.Box.setS0 {w : World} {g : Nat} {P : ByteArray} {st : Ts} {tv : Value} {text opn value : Nat} {av : Value} {taken : Bool} (h : Rm.Box w g P st tv text opn value av taken) (x : Int) : Rm.Box (w.setCell ⟨g, 24, none⟩ (.int .i64 x)) g P ⟨x, st.name, st.fin, st.attr, st.held, st.read⟩ tv text opn value av taken := by
  have e : ∀ k, k ≠ 24 → (w.setCell ⟨g, 24, none⟩ (.int .i64 x)).cell? ⟨g, k, none⟩ = w.cell? ⟨g, k, none⟩ := fun k hk => Rm.other _ _ _ _ hk
  exact ⟨(e 0 (by decide)).trans h.page, Rm.tab_set h 24 _ (by decide), World.cell?_setCell_same _ _ _ h.s0, (e 25 (by decide)).trans h.s1, (e 26 (by decide)).trans h.s2, (e 27 (by decide)).trans h.s3, (e 28 (by decide)).trans h.s4, (e 29 (by decide)).trans h.s5, (e 30 (by decide)).trans h.toks, (e 31 (by decide)).trans h.text, (e 32 (by decide)).trans h.opn, (e 33 (by decide)).trans h.value, (e 34 (by decide)).trans h.attrs, (e 35 (by decide)).trans h.taken, fun i => by rw [World.frozen?_setCell]; exact h.fz i, Rm.quotes_set h 24 _ (by decide)⟩
theorem Rm.Box.setS1 {w : World} {g : Nat} {P : ByteArray} {st : Ts} {tv : Value} {text opn value : Nat} {av : Value} {taken : Bool} (h : Rm.Box w g P st tv text opn value av taken) (x : ByteArray) : Rm.Box (w.setCell ⟨g, 25, none⟩ (.string x)) g P ⟨st.pl, x, st.fin, st.attr, st.held, st.read⟩ tv text opn value av taken := by
  have e : ∀ k, k ≠ 25 → (w.setCell ⟨g, 25, none⟩ (.string x)).cell? ⟨g, k, none⟩ = w.cell? ⟨g, k, none⟩ := fun k hk => Rm.other _ _ _ _ hk
  exact ⟨(e 0 (by decide)).trans h.page, Rm.tab_set h 25 _ (by decide), (e 24 (by decide)).trans h.s0, World.cell?_setCell_same _ _ _ h.s1, (e 26 (by decide)).trans h.s2, (e 27 (by decide)).trans h.s3, (e 28 (by decide)).trans h.s4, (e 29 (by decide)).trans h.s5, (e 30 (by decide)).trans h.toks, (e 31 (by decide)).trans h.text, (e 32 (by decide)).trans h.opn, (e 33 (by decide)).trans h.value, (e 34 (by decide)).trans h.attrs, (e 35 (by decide)).trans h.taken, fun i => by rw [World.frozen?_setCell]; exact h.fz i, Rm.quotes_set h 25 _ (by decide)⟩
theorem Rm.Box.setS2 {w : World} {g : Nat} {P : ByteArray} {st : Ts} {tv : Value} {text opn value : Nat} {av : Value} {taken : Bool} (h : Rm.Box w g P st tv text opn value av taken) (x : Bool) : Rm.Box (w.setCell ⟨g, 26, none⟩ (.bool x)) g P ⟨st.pl, st.name, x, st.attr, st.held, st.read⟩ tv text opn value av taken := by
  have e : ∀ k, k ≠ 26 → (w.setCell ⟨g, 26, none⟩ (.bool x)).cell? ⟨g, k, none⟩ = w.cell? ⟨g, k, none⟩ := fun k hk => Rm.other _ _ _ _ hk
  exact ⟨(e 0 (by decide)).trans h.page, Rm.tab_set h 26 _ (by decide), (e 24 (by decide)).trans h.s0, (e 25 (by decide)).trans h.s1, World.cell?_setCell_same _ _ _ h.s2, (e 27 (by decide)).trans h.s3, (e 28 (by decide)).trans h.s4, (e 29 (by decide)).trans h.s5, (e 30 (by decide)).trans h.toks, (e 31 (by decide)).trans h.text, (e 32 (by decide)).trans h.opn, (e 33 (by decide)).trans h.value, (e 34 (by decide)).trans h.attrs, (e 35 (by decide)).trans h.taken, fun i => by rw [World.frozen?_setCell]; exact h.fz i, Rm.quotes_set h 26 _ (by decide)⟩
theorem Rm.Box.setS3 {w : World} {g : Nat} {P : ByteArray} {st : Ts} {tv : Value} {text opn value : Nat} {av : Value} {taken : Bool} (h : Rm.Box w g P st tv text opn value av taken) (x : ByteArray) : Rm.Box (w.setCell ⟨g, 27, none⟩ (.string x)) g P ⟨st.pl, st.name, st.fin, x, st.held, st.read⟩ tv text opn value av taken := by
  have e : ∀ k, k ≠ 27 → (w.setCell ⟨g, 27, none⟩ (.string x)).cell? ⟨g, k, none⟩ = w.cell? ⟨g, k, none⟩ := fun k hk => Rm.other _ _ _ _ hk
  exact ⟨(e 0 (by decide)).trans h.page, Rm.tab_set h 27 _ (by decide), (e 24 (by decide)).trans h.s0, (e 25 (by decide)).trans h.s1, (e 26 (by decide)).trans h.s2, World.cell?_setCell_same _ _ _ h.s3, (e 28 (by decide)).trans h.s4, (e 29 (by decide)).trans h.s5, (e 30 (by decide)).trans h.toks, (e 31 (by decide)).trans h.text, (e 32 (by decide)).trans h.opn, (e 33 (by decide)).trans h.value, (e 34 (by decide)).trans h.attrs, (e 35 (by decide)).trans h.taken, fun i => by rw [World.frozen?_setCell]; exact h.fz i, Rm.quotes_set h 27 _ (by decide)⟩
theorem Rm.Box.setS4 {w : World} {g : Nat} {P : ByteArray} {st : Ts} {tv : Value} {text opn value : Nat} {av : Value} {taken : Bool} (h : Rm.Box w g P st tv text opn value av taken) (x : ByteArray) : Rm.Box (w.setCell ⟨g, 28, none⟩ (.string x)) g P ⟨st.pl, st.name, st.fin, st.attr, x, st.read⟩ tv text opn value av taken := by
  have e : ∀ k, k ≠ 28 → (w.setCell ⟨g, 28, none⟩ (.string x)).cell? ⟨g, k, none⟩ = w.cell? ⟨g, k, none⟩ := fun k hk => Rm.other _ _ _ _ hk
  exact ⟨(e 0 (by decide)).trans h.page, Rm.tab_set h 28 _ (by decide), (e 24 (by decide)).trans h.s0, (e 25 (by decide)).trans h.s1, (e 26 (by decide)).trans h.s2, (e 27 (by decide)).trans h.s3, World.cell?_setCell_same _ _ _ h.s4, (e 29 (by decide)).trans h.s5, (e 30 (by decide)).trans h.toks, (e 31 (by decide)).trans h.text, (e 32 (by decide)).trans h.opn, (e 33 (by decide)).trans h.value, (e 34 (by decide)).trans h.attrs, (e 35 (by decide)).trans h.taken, fun i => by rw [World.frozen?_setCell]; exact h.fz i, Rm.quotes_set h 28 _ (by decide)⟩
theorem Rm.Box.setS5 {w : World} {g : Nat} {P : ByteArray} {st : Ts} {tv : Value} {text opn value : Nat} {av : Value} {taken : Bool} (h : Rm.Box w g P st tv text opn value av taken) (x : Int) : Rm.Box (w.setCell ⟨g, 29, none⟩ (.int .i64 x)) g P ⟨st.pl, st.name, st.fin, st.attr, st.held, x⟩ tv text opn value av taken := by
  have e : ∀ k, k ≠ 29 → (w.setCell ⟨g, 29, none⟩ (.int .i64 x)).cell? ⟨g, k, none⟩ = w.cell? ⟨g, k, none⟩ := fun k hk => Rm.other _ _ _ _ hk
  exact ⟨(e 0 (by decide)).trans h.page, Rm.tab_set h 29 _ (by decide), (e 24 (by decide)).trans h.s0, (e 25 (by decide)).trans h.s1, (e 26 (by decide)).trans h.s2, (e 27 (by decide)).trans h.s3, (e 28 (by decide)).trans h.s4, World.cell?_setCell_same _ _ _ h.s5, (e 30 (by decide)).trans h.toks, (e 31 (by decide)).trans h.text, (e 32 (by decide)).trans h.opn, (e 33 (by decide)).trans h.value, (e 34 (by decide)).trans h.attrs, (e 35 (by decide)).trans h.taken, fun i => by rw [World.frozen?_setCell]; exact h.fz i, Rm.quotes_set h 29 _ (by decide)⟩
theorem Rm.Box.setState {w : World} {g : Nat} {P : ByteArray} {st : Ts} {tv : Value} {text opn value : Nat} {av : Value} {taken : Bool} (h : Rm.Box w g P st tv text opn value av taken) (s : Ts) : Rm.Box ((((((w.setCell ⟨g, 24, none⟩ (.int .i64 s.pl)).setCell ⟨g, 25, none⟩ (.string s.name)).setCell ⟨g, 26, none⟩ (.bool s.fin)).setCell ⟨g, 27, none⟩ (.string s.attr)).setCell ⟨g, 28, none⟩ (.string s.held)).setCell ⟨g, 29, none⟩ (.int .i64 s.read)) g P s tv text opn value av taken :=
  (((((h.setS0 s.pl).setS1 s.name).setS2 s.fin).setS3 s.attr).setS4 s.held).setS5 s.read
/-- a block that is none of the reader's -/
def Rm.Free (tv av : Value) (g k : Nat) : Prop := k ≠ g ∧ tv.ownBlock ≠ some k ∧ av.ownBlock ≠ some k
/-- the reader's whole state lies in memory: its block g, its tokens in the row tv, its attributes in the row av -/
structure Rm.At (w : World) (g : Nat) (P : ByteArray) (r : Rd) (tv av : Value) : Prop where
  box : Rm.Box w g P r.st tv r.text r.opn r.value av r.taken
  toks : Rm.Toks (g + 1) r.toks w tv av.ownBlock
  attrs : w.ownsRow (g + 1) 45 2 av r.attrs.length (Ak.cells r.attrs)
  apart : ∀ k, tv.ownBlock = some k → av.ownBlock ≠ some k
theorem Rm.At.lt {w : World} {g : Nat} {P : ByteArray} {r : Rd} {tv av : Value} (h : Rm.At w g P r tv av) : g < w.heap.size := h.box.lt
theorem Rm.At.tvLt {w : World} {g : Nat} {P : ByteArray} {r : Rd} {tv av : Value} (h : Rm.At w g P r tv av) {k : Nat} (hk : tv.ownBlock = some k) : g < k ∧ k < w.heap.size := by
  obtain ⟨xs, ho, _⟩ := h.toks
  exact ho.lt k hk
theorem Rm.At.avLt {w : World} {g : Nat} {P : ByteArray} {r : Rd} {tv av : Value} (h : Rm.At w g P r tv av) {k : Nat} (hk : av.ownBlock = some k) : g < k ∧ k < w.heap.size := h.attrs.lt k hk
/-- a new block is free -/
theorem Rm.At.new {w : World} {g : Nat} {P : ByteArray} {r : Rd} {tv av : Value} (h : Rm.At w g P r tv av) {k : Nat} (hk : w.heap.size ≤ k) : Rm.Free tv av g k :=
  ⟨by have := h.lt; omega, fun e => by have := (h.tvLt e).2; omega, fun e => by have := (h.avLt e).2; omega⟩
/-- what was there is as it was -/
theorem Rm.At.on {w w' : World} {g : Nat} {P : ByteArray} {r : Rd} {tv av : Value} (h : Rm.At w g P r tv av) (hb : Below w.heap.size w w') : Rm.At w' g P r tv av :=
  ⟨h.box.on hb.size fun k hk => hb.block k (by have := h.lt; omega), h.toks.on hb.size (fun k hk => hb.block k (h.tvLt hk).2) (fun k _ hk _ hn => ⟨hn, hb.block k hk⟩), Rm.own_on h.attrs fun k hk => hb.block k (h.avLt hk).2, h.apart⟩
/-- one free block has turned -/
theorem Rm.At.free {w w' : World} {g q : Nat} {P : ByteArray} {r : Rd} {tv av : Value} (h : Rm.At w g P r tv av) (hs : w.heap.size ≤ w'.heap.size) (hq : w.heap.size ≤ q) (hb : ∀ k, k ≠ q → k < w.heap.size → w'.heap[k]? = w.heap[k]?) : Rm.At w' g P r tv av :=
  ⟨h.box.on hs fun k hk => hb k (by have := h.lt; omega) (by have := h.lt; omega), h.toks.on hs (fun k hk => hb k (by have := (h.tvLt hk).2; omega) (h.tvLt hk).2) (fun k _ hk _ hn => ⟨hn, hb k (by omega) hk⟩), Rm.own_on h.attrs fun k hk => hb k (by have := (h.avLt hk).2; omega) (h.avLt hk).2, h.apart⟩
/-- what a method leaves as it was: all but the reader's own blocks -/
structure Rm.Kept (w w' : World) (g : Nat) (tv av tv' av' : Value) : Prop where
  os : w'.os = w.os
  tape : w'.tape = w.tape
  output : w'.output = w.output
  size : w.heap.size ≤ w'.heap.size
  block : ∀ k, k < w.heap.size → Rm.Free tv av g k → w'.heap[k]? = w.heap[k]? ∧ Rm.Free tv' av' g k
theorem Rm.Kept.refl (w : World) (g : Nat) (tv av : Value) : Rm.Kept w w g tv av tv av := ⟨rfl, rfl, rfl, Nat.le_refl _, fun _ _ h => ⟨rfl, h⟩⟩
theorem Rm.Kept.trans {w w1 w2 : World} {g : Nat} {tv av tv1 av1 tv2 av2 : Value} (h : Rm.Kept w w1 g tv av tv1 av1) (h2 : Rm.Kept w1 w2 g tv1 av1 tv2 av2) : Rm.Kept w w2 g tv av tv2 av2 :=
  ⟨h2.os.trans h.os, h2.tape.trans h.tape, h2.output.trans h.output, Nat.le_trans h.size h2.size, fun k hk hf => by
    obtain ⟨a, b⟩ := h.block k hk hf
    obtain ⟨c, d⟩ := h2.block k (Nat.lt_of_lt_of_le hk h.size) b
    exact ⟨c.trans a, d⟩⟩
theorem Rm.Kept.of {w w1 : World} (g : Nat) (tv av : Value) (hb : Below w.heap.size w w1) : Rm.Kept w w1 g tv av tv av := ⟨hb.os, hb.tape, hb.output, hb.size, fun k hk hf => ⟨hb.block k hk, hf⟩⟩
/-- a store into the reader's own block -/
theorem Rm.Kept.set (w : World) (g j : Nat) (u tv av : Value) : Rm.Kept w (w.setCell ⟨g, j, none⟩ u) g tv av tv av := ⟨rfl, rfl, rfl, by simp, fun _ _ hf => ⟨Below.heap_setCell _ _ _ _ hf.1, hf⟩⟩
/-- other rows, by name alone -/
theorem Rm.Kept.rename {w w' : World} {g : Nat} {tv av tv' av' tv2 av2 : Value} (h : Rm.Kept w w' g tv av tv' av') (hn : ∀ k, Rm.Free tv' av' g k → Rm.Free tv2 av2 g k) : Rm.Kept w w' g tv av tv2 av2 :=
  ⟨h.os, h.tape, h.output, h.size, fun k hk hf => ⟨(h.block k hk hf).1, hn k (h.block k hk hf).2⟩⟩
theorem Rm.Kept.cell {w w' : World} {g : Nat} {tv av tv' av' : Value} (h : Rm.Kept w w' g tv av tv' av') {b o : Nat} {v : Value} (hf : Rm.Free tv av g b) (hc : w.cell? ⟨b, o, none⟩ = some v) : w'.cell? ⟨b, o, none⟩ = some v :=
  Rm.cell_of hc (h.block b (World.block_lt_of_cell? _ _ hc) hf).1
theorem Rm.Kept.frozen {w w' : World} {g : Nat} {tv av tv' av' : Value} (h : Rm.Kept w w' g tv av tv' av') {b : Nat} (hf : Rm.Free tv av g b) (hlt : b < w.heap.size) (hc : ∀ i, w.frozen? ⟨b, i, none⟩ = false) : ∀ i, w'.frozen? ⟨b, i, none⟩ = false :=
  fun i => (World.frozen?_of_block (a := ⟨b, i, none⟩) (h.block b hlt hf).1).trans (hc i)
end Go.Proofs.YtjbkgokiikbaeaaGreatDoor
