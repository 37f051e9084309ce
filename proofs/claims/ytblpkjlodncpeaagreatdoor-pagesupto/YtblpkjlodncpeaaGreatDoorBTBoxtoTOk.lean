/-
  THE READER in memory: its block; what a call of its methods leaves as it was.
-/
import Derived.Test.YtblpkjlodncpeaaGreatDoorBTMemtoUMk
import Derived.Test.YtblpkjlodncpeaaGreatDoorBPlaintoKPlain
namespace Go.Proofs.YtblpkjlodncpeaaGreatDoor
open Go.RowKit
structure Rm.Box (w : World) (g : Nat) (P : ByteArray) (st : Ts) (tv : Value) (text opn value : Nat) (av : Value) (taken : Bool) : Prop where
 page : w.cell? ⟨g, 0, none⟩ = some (.string P)
 tab : Tp.Table w g 1
 s0 : w.cell? ⟨g, 24, none⟩ = some (.int .i64 st.pl)
 s1 : w.cell? ⟨g, 25, none⟩ = some (.string st.name)
 s2 : w.cell? ⟨g, 26, none⟩ = some (.bool st.fin)
 s3 : w.cell? ⟨g, 27, none⟩ = some (.string st.attr)
 s4 : w.cell? ⟨g, 28, none⟩ = some (.string st.held)
 s5 : w.cell? ⟨g, 29, none⟩ = some (.int .i64 st.read)
 toks : w.cell? ⟨g, 30, none⟩ = some tv
 text : w.cell? ⟨g, 31, none⟩ = some (.int .i64 (text : Int))
 opn : w.cell? ⟨g, 32, none⟩ = some (.int .i64 (opn : Int))
 value : w.cell? ⟨g, 33, none⟩ = some (.int .i64 (value : Int))
 attrs : w.cell? ⟨g, 34, none⟩ = some av
 taken : w.cell? ⟨g, 35, none⟩ = some (.bool taken)
 fz : ∀ i, w.frozen? ⟨g, i, none⟩ = false
 quotes : ∀ B C, w.cell? ⟨g, 1 + 8, none⟩ = some (Tp.quote B) → w.cell? ⟨g, 1 + 9, none⟩ = some (Tp.quote C) → B < g ∧ C < g
theorem Rm.Box.lt {w : World} {g : Nat} {P : ByteArray} {st : Ts} {tv : Value} {text opn value : Nat} {av : Value} {taken : Bool} (h : Rm.Box w g P st tv text opn value av taken) : g < w.heap.size := h.tab.lt
theorem Rm.cell_of {w w' : World} {b o : Nat} {v : Value} (h : w.cell? ⟨b, o, none⟩ = some v) (hw : w'.heap[b]? = w.heap[b]?) : w'.cell? ⟨b, o, none⟩ = some v := (World.cell?_of_block (a := ⟨b, o, none⟩) hw).trans h
theorem Rm.Box.two {w : World} {g : Nat} {P : ByteArray} {st : Ts} {tv : Value} {text opn value : Nat} {av : Value} {taken : Bool} (h : Rm.Box w g P st tv text opn value av taken) : ∃ B C, B < g ∧ C < g ∧ w.cell? ⟨B, 0, none⟩ = some (.int .u8 34) ∧ w.cell? ⟨C, 0, none⟩ = some (.int .u8 39) ∧ ∀ k v, (Tp.table B C)[k]? = some v → w.cell? ⟨g, 1 + k, none⟩ = some v := by
 obtain ⟨B, C, hB, hC, h34, h39, hk⟩ := h.tab.cell
 obtain ⟨h1, h2⟩ := h.quotes B C (hk 8 _ rfl) (hk 9 _ rfl)
 exact ⟨B, C, h1, h2, h34, h39, hk⟩
theorem Rm.Box.on {w w' : World} {g : Nat} {P : ByteArray} {st : Ts} {tv : Value} {text opn value : Nat} {av : Value} {taken : Bool} (h : Rm.Box w g P st tv text opn value av taken) (hs : w.heap.size ≤ w'.heap.size) (hw : ∀ k, k ≤ g → w'.heap[k]? = w.heap[k]?) : Rm.Box w' g P st tv text opn value av taken := by
 have hg := hw g (Nat.le_refl _)
 have hlt := h.lt
 obtain ⟨B, C, hB, hC, h34, h39, hk⟩ := h.two
 exact ⟨Rm.cell_of h.page hg, ⟨Nat.lt_of_lt_of_le h.tab.lt hs, B, C, by omega, by omega, Rm.cell_of h34 (hw B (by omega)), Rm.cell_of h39 (hw C (by omega)), fun k v hv => Rm.cell_of (hk k v hv) hg⟩,
  Rm.cell_of h.s0 hg, Rm.cell_of h.s1 hg, Rm.cell_of h.s2 hg, Rm.cell_of h.s3 hg, Rm.cell_of h.s4 hg, Rm.cell_of h.s5 hg, Rm.cell_of h.toks hg, Rm.cell_of h.text hg, Rm.cell_of h.opn hg, Rm.cell_of h.value hg, Rm.cell_of h.attrs hg, Rm.cell_of h.taken hg,
  fun i => (World.frozen?_of_block (a := ⟨g, i, none⟩) hg).trans (h.fz i), fun B' C' e1 e2 => h.quotes B' C' ((World.cell?_of_block (a := ⟨g, 1 + 8, none⟩) hg).symm.trans e1) ((World.cell?_of_block (a := ⟨g, 1 + 9, none⟩) hg).symm.trans e2)⟩
theorem Rm.other (w : World) (g j : Nat) (u : Value) {o : Nat} (hj : o ≠ j) : (w.setCell ⟨g, j, none⟩ u).cell? ⟨g, o, none⟩ = w.cell? ⟨g, o, none⟩ :=
 World.cell?_setCell_other _ _ _ _ (fun e => hj (by injection e with e1 e2 e3; exact e2.symm))
theorem Rm.out (w : World) (g j : Nat) (u : Value) {b : Nat} (hb : b ≠ g) (o : Nat) : (w.setCell ⟨g, j, none⟩ u).cell? ⟨b, o, none⟩ = w.cell? ⟨b, o, none⟩ :=
 World.cell?_setCell_other _ _ _ _ (fun e => hb (by injection e with e1; exact e1.symm))
theorem Rm.tab_set {w : World} {g : Nat} {P : ByteArray} {st : Ts} {tv : Value} {text opn value : Nat} {av : Value} {taken : Bool} (h : Rm.Box w g P st tv text opn value av taken) (j : Nat) (u : Value) (hj : 24 ≤ j) : Tp.Table (w.setCell ⟨g, j, none⟩ u) g 1 := by
 obtain ⟨B, C, hB, hC, h34, h39, hk⟩ := h.two
 have hlt := h.lt
 refine ⟨by simp; exact h.tab.lt, B, C, by simp; omega, by simp; omega, ?_, ?_, fun k v hv => ?_⟩
 ·
  rw [Rm.out _ _ _ _ (by omega)]; exact h34
 ·
  rw [Rm.out _ _ _ _ (by omega)]; exact h39
 ·
  have hk23 : k < 23 := by
   have := (Array.getElem?_eq_some_iff.1 hv).1
   simpa [Tp.table] using this
  rw [Rm.other _ _ _ _ (by omega)]; exact hk k v hv
theorem Rm.quotes_set {w : World} {g : Nat} {P : ByteArray} {st : Ts} {tv : Value} {text opn value : Nat} {av : Value} {taken : Bool} (h : Rm.Box w g P st tv text opn value av taken) (j : Nat) (u : Value) (hj : 24 ≤ j) : ∀ B C, (w.setCell ⟨g, j, none⟩ u).cell? ⟨g, 1 + 8, none⟩ = some (Tp.quote B) → (w.setCell ⟨g, j, none⟩ u).cell? ⟨g, 1 + 9, none⟩ = some (Tp.quote C) → B < g ∧ C < g := by
 intro B C
 rw [Rm.other _ _ _ _ (by omega), Rm.other _ _ _ _ (by omega)]
 exact h.quotes B C
theorem Rm.Box.setToks {w : World} {g : Nat} {P : ByteArray} {st : Ts} {tv : Value} {text opn value : Nat} {av : Value} {taken : Bool} (h : Rm.Box w g P st tv text opn value av taken) (tv' : Value) : Rm.Box (w.setCell ⟨g, 30, none⟩ (tv')) g P st tv' text opn value av taken := by
 have e : ∀ k, k ≠ 30 → (w.setCell ⟨g, 30, none⟩ (tv')).cell? ⟨g, k, none⟩ = w.cell? ⟨g, k, none⟩ := fun k hk => Rm.other _ _ _ _ hk
 exact ⟨(e 0 (by decide)).trans h.page, Rm.tab_set h 30 _ (by decide), (e 24 (by decide)).trans h.s0, (e 25 (by decide)).trans h.s1, (e 26 (by decide)).trans h.s2, (e 27 (by decide)).trans h.s3, (e 28 (by decide)).trans h.s4, (e 29 (by decide)).trans h.s5, World.cell?_setCell_same _ _ _ h.toks, (e 31 (by decide)).trans h.text, (e 32 (by decide)).trans h.opn, (e 33 (by decide)).trans h.value, (e 34 (by decide)).trans h.attrs, (e 35 (by decide)).trans h.taken, fun i => by rw [World.frozen?_setCell]; exact h.fz i, Rm.quotes_set h 30 _ (by decide)⟩
theorem Rm.Box.setText {w : World} {g : Nat} {P : ByteArray} {st : Ts} {tv : Value} {text opn value : Nat} {av : Value} {taken : Bool} (h : Rm.Box w g P st tv text opn value av taken) (n : Nat) : Rm.Box (w.setCell ⟨g, 31, none⟩ (.int .i64 (n : Int))) g P st tv n opn value av taken := by
 have e : ∀ k, k ≠ 31 → (w.setCell ⟨g, 31, none⟩ (.int .i64 (n : Int))).cell? ⟨g, k, none⟩ = w.cell? ⟨g, k, none⟩ := fun k hk => Rm.other _ _ _ _ hk
 exact ⟨(e 0 (by decide)).trans h.page, Rm.tab_set h 31 _ (by decide), (e 24 (by decide)).trans h.s0, (e 25 (by decide)).trans h.s1, (e 26 (by decide)).trans h.s2, (e 27 (by decide)).trans h.s3, (e 28 (by decide)).trans h.s4, (e 29 (by decide)).trans h.s5, (e 30 (by decide)).trans h.toks, World.cell?_setCell_same _ _ _ h.text, (e 32 (by decide)).trans h.opn, (e 33 (by decide)).trans h.value, (e 34 (by decide)).trans h.attrs, (e 35 (by decide)).trans h.taken, fun i => by rw [World.frozen?_setCell]; exact h.fz i, Rm.quotes_set h 31 _ (by decide)⟩
theorem Rm.Box.setOpn {w : World} {g : Nat} {P : ByteArray} {st : Ts} {tv : Value} {text opn value : Nat} {av : Value} {taken : Bool} (h : Rm.Box w g P st tv text opn value av taken) (n : Nat) : Rm.Box (w.setCell ⟨g, 32, none⟩ (.int .i64 (n : Int))) g P st tv text n value av taken := by
 have e : ∀ k, k ≠ 32 → (w.setCell ⟨g, 32, none⟩ (.int .i64 (n : Int))).cell? ⟨g, k, none⟩ = w.cell? ⟨g, k, none⟩ := fun k hk => Rm.other _ _ _ _ hk
 exact ⟨(e 0 (by decide)).trans h.page, Rm.tab_set h 32 _ (by decide), (e 24 (by decide)).trans h.s0, (e 25 (by decide)).trans h.s1, (e 26 (by decide)).trans h.s2, (e 27 (by decide)).trans h.s3, (e 28 (by decide)).trans h.s4, (e 29 (by decide)).trans h.s5, (e 30 (by decide)).trans h.toks, (e 31 (by decide)).trans h.text, World.cell?_setCell_same _ _ _ h.opn, (e 33 (by decide)).trans h.value, (e 34 (by decide)).trans h.attrs, (e 35 (by decide)).trans h.taken, fun i => by rw [World.frozen?_setCell]; exact h.fz i, Rm.quotes_set h 32 _ (by decide)⟩
theorem Rm.Box.setValue {w : World} {g : Nat} {P : ByteArray} {st : Ts} {tv : Value} {text opn value : Nat} {av : Value} {taken : Bool} (h : Rm.Box w g P st tv text opn value av taken) (n : Nat) : Rm.Box (w.setCell ⟨g, 33, none⟩ (.int .i64 (n : Int))) g P st tv text opn n av taken := by
 have e : ∀ k, k ≠ 33 → (w.setCell ⟨g, 33, none⟩ (.int .i64 (n : Int))).cell? ⟨g, k, none⟩ = w.cell? ⟨g, k, none⟩ := fun k hk => Rm.other _ _ _ _ hk
 exact ⟨(e 0 (by decide)).trans h.page, Rm.tab_set h 33 _ (by decide), (e 24 (by decide)).trans h.s0, (e 25 (by decide)).trans h.s1, (e 26 (by decide)).trans h.s2, (e 27 (by decide)).trans h.s3, (e 28 (by decide)).trans h.s4, (e 29 (by decide)).trans h.s5, (e 30 (by decide)).trans h.toks, (e 31 (by decide)).trans h.text, (e 32 (by decide)).trans h.opn, World.cell?_setCell_same _ _ _ h.value, (e 34 (by decide)).trans h.attrs, (e 35 (by decide)).trans h.taken, fun i => by rw [World.frozen?_setCell]; exact h.fz i, Rm.quotes_set h 33 _ (by decide)⟩
theorem Rm.Box.setAttrs {w : World} {g : Nat} {P : ByteArray} {st : Ts} {tv : Value} {text opn value : Nat} {av : Value} {taken : Bool} (h : Rm.Box w g P st tv text opn value av taken) (av' : Value) : Rm.Box (w.setCell ⟨g, 34, none⟩ (av')) g P st tv text opn value av' taken := by
 have e : ∀ k, k ≠ 34 → (w.setCell ⟨g, 34, none⟩ (av')).cell? ⟨g, k, none⟩ = w.cell? ⟨g, k, none⟩ := fun k hk => Rm.other _ _ _ _ hk
 exact ⟨(e 0 (by decide)).trans h.page, Rm.tab_set h 34 _ (by decide), (e 24 (by decide)).trans h.s0, (e 25 (by decide)).trans h.s1, (e 26 (by decide)).trans h.s2, (e 27 (by decide)).trans h.s3, (e 28 (by decide)).trans h.s4, (e 29 (by decide)).trans h.s5, (e 30 (by decide)).trans h.toks, (e 31 (by decide)).trans h.text, (e 32 (by decide)).trans h.opn, (e 33 (by decide)).trans h.value, World.cell?_setCell_same _ _ _ h.attrs, (e 35 (by decide)).trans h.taken, fun i => by rw [World.frozen?_setCell]; exact h.fz i, Rm.quotes_set h 34 _ (by decide)⟩
theorem Rm.Box.setTaken {w : World} {g : Nat} {P : ByteArray} {st : Ts} {tv : Value} {text opn value : Nat} {av : Value} {taken : Bool} (h : Rm.Box w g P st tv text opn value av taken) (b : Bool) : Rm.Box (w.setCell ⟨g, 35, none⟩ (.bool b)) g P st tv text opn value av b := by
 have e : ∀ k, k ≠ 35 → (w.setCell ⟨g, 35, none⟩ (.bool b)).cell? ⟨g, k, none⟩ = w.cell? ⟨g, k, none⟩ := fun k hk => Rm.other _ _ _ _ hk
 exact ⟨(e 0 (by decide)).trans h.page, Rm.tab_set h 35 _ (by decide), (e 24 (by decide)).trans h.s0, (e 25 (by decide)).trans h.s1, (e 26 (by decide)).trans h.s2, (e 27 (by decide)).trans h.s3, (e 28 (by decide)).trans h.s4, (e 29 (by decide)).trans h.s5, (e 30 (by decide)).trans h.toks, (e 31 (by decide)).trans h.text, (e 32 (by decide)).trans h.opn, (e 33 (by decide)).trans h.value, (e 34 (by decide)).trans h.attrs, World.cell?_setCell_same _ _ _ h.taken, fun i => by rw [World.frozen?_setCell]; exact h.fz i, Rm.quotes_set h 35 _ (by decide)⟩
theorem Rm.Box.setS0 {w : World} {g : Nat} {P : ByteArray} {st : Ts} {tv : Value} {text opn value : Nat} {av : Value} {taken : Bool} (h : Rm.Box w g P st tv text opn value av taken) (x : Int) : Rm.Box (w.setCell ⟨g, 24, none⟩ (.int .i64 x)) g P ⟨x, st.name, st.fin, st.attr, st.held, st.read⟩ tv text opn value av taken := by
 have e : ∀ k, k ≠ 24 → (w.setCell ⟨g, 24, none⟩ (.int .i64 x)).cell? ⟨g, k, none⟩ = w.cell? ⟨g, k, none⟩ := fun k hk => Rm.other _ _ _ _ hk
 exact ⟨(e 0 (by decide)).trans h.page, Rm.tab_set h 24 _ (by decide), World.cell?_setCell_same _ _ _ h.s0, (e 25 (by decide)).trans h.s1, (e 26 (by decide)).trans h.s2, (e 27 (by decide)).trans h.s3, (e 28 (by decide)).trans h.s4, (e 29 (by decide)).trans h.s5, (e 30 (by decide)).trans h.toks, (e 31 (by decide)).trans h.text, (e 32 (by decide)).trans h.opn, (e 33 (by decide)).trans h.value, (e 34 (by decide)).trans h.attrs, (e 35 (by decide)).trans h.taken, fun i => by rw [World.frozen?_setCell]; exact h.fz i, Rm.quotes_set h 24 _ (by decide)⟩
theorem Rm.Box.setS1 {w : World} {g : Nat} {P : ByteArray} {st : Ts} {tv : Value} {text opn value : Nat} {av : Value} {taken : Bool} (h : Rm.Box w g P st tv text opn value av taken) (x : ByteArray) : Rm.Box (w.setCell ⟨g, 25, none⟩ (.string x)) g P ⟨st.pl, x, st.fin, st.attr, st.held, st.read⟩ tv text opn value av taken := by
 have e : ∀ k, k ≠ 25 → (w.setCell ⟨g, 25, none⟩ (.string x)).cell? ⟨g, k, none⟩ = w.cell? ⟨g, k, none⟩ := fun k hk => Rm.other _ _ _ _ hk
 exact ⟨(e 0 (by decide)).trans h.page, Rm.tab_set h 25 _ (by decide), (e 24 (by decide)).trans h.s0, World.cell?_setCell_same _ _ _ h.s1, (e 26 (by decide)).trans h.s2, (e 27 (by decide)).trans h.s3, (e 28 (by decide)).trans h.s4, (e 29 (by decide)).trans h.s5, (e 30 (by decide)).trans h.toks, (e 31 (by decide)).trans h.text, (e 32 (by decide)).trans h.opn, (e 33 (by decide)).trans h.value, (e 34 (by decide)).trans h.attrs, (e 35 (by decide)).trans h.taken, fun i => by rw [World.frozen?_setCell]; exact h.fz i, Rm.quotes_set h 25 _ (by decide)⟩
theorem Rm.Box.setS2 {w : World} {g : Nat} {P : ByteArray} {st : Ts} {tv : Value} {text opn value : Nat} {av : Value} {taken : Bool} (h : Rm.Box w g P st tv text opn value av taken) (x : Bool) : Rm.Box (w.setCell ⟨g, 26, none⟩ (.bool x)) g P ⟨st.pl, st.name, x, st.attr, st.held, st.read⟩ tv text opn value av taken := by
 have e : ∀ k, k ≠ 26 → (w.setCell ⟨g, 26, none⟩ (.bool x)).cell? ⟨g, k, none⟩ = w.cell? ⟨g, k, none⟩ := fun k hk => Rm.other _ _ _ _ hk
 exact ⟨(e 0 (by decide)).trans h.page, Rm.tab_set h 26 _ (by decide), (e 24 (by decide)).trans h.s0, (e 25 (by decide)).trans h.s1, World.cell?_setCell_same _ _ _ h.s2, (e 27 (by decide)).trans h.s3, (e 28 (by decide)).trans h.s4, (e 29 (by decide)).trans h.s5, (e 30 (by decide)).trans h.toks, (e 31 (by decide)).trans h.text, (e 32 (by decide)).trans h.opn, (e 33 (by decide)).trans h.value, (e 34 (by decide)).trans h.attrs, (e 35 (by decide)).trans h.taken, fun i => by rw [World.frozen?_setCell]; exact h.fz i, Rm.quotes_set h 26 _ (by decide)⟩
theorem Rm.Box.setS3 {w : World} {g : Nat} {P : ByteArray} {st : Ts} {tv : Value} {text opn value : Nat} {av : Value} {taken : Bool} (h : Rm.Box w g P st tv text opn value av taken) (x : ByteArray) : Rm.Box (w.setCell ⟨g, 27, none⟩ (.string x)) g P ⟨st.pl, st.name, st.fin, x, st.held, st.read⟩ tv text opn value av taken := by
 have e : ∀ k, k ≠ 27 → (w.setCell ⟨g, 27, none⟩ (.string x)).cell? ⟨g, k, none⟩ = w.cell? ⟨g, k, none⟩ := fun k hk => Rm.other _ _ _ _ hk
 exact ⟨(e 0 (by decide)).trans h.page, Rm.tab_set h 27 _ (by decide), (e 24 (by decide)).trans h.s0, (e 25 (by decide)).trans h.s1, (e 26 (by decide)).trans h.s2, World.cell?_setCell_same _ _ _ h.s3, (e 28 (by decide)).trans h.s4, (e 29 (by decide)).trans h.s5, (e 30 (by decide)).trans h.toks, (e 31 (by decide)).trans h.text, (e 32 (by decide)).trans h.opn, (e 33 (by decide)).trans h.value, (e 34 (by decide)).trans h.attrs, (e 35 (by decide)).trans h.taken, fun i => by rw [World.frozen?_setCell]; exact h.fz i, Rm.quotes_set h 27 _ (by decide)⟩
theorem Rm.Box.setS4 {w : World} {g : Nat} {P : ByteArray} {st : Ts} {tv : Value} {text opn value : Nat} {av : Value} {taken : Bool} (h : Rm.Box w g P st tv text opn value av taken) (x : ByteArray) : Rm.Box (w.setCell ⟨g, 28, none⟩ (.string x)) g P ⟨st.pl, st.name, st.fin, st.attr, x, st.read⟩ tv text opn value av taken := by
 have e : ∀ k, k ≠ 28 → (w.setCell ⟨g, 28, none⟩ (.string x)).cell? ⟨g, k, none⟩ = w.cell? ⟨g, k, none⟩ := fun k hk => Rm.other _ _ _ _ hk
 exact ⟨(e 0 (by decide)).trans h.page, Rm.tab_set h 28 _ (by decide), (e 24 (by decide)).trans h.s0, (e 25 (by decide)).trans h.s1, (e 26 (by decide)).trans h.s2, (e 27 (by decide)).trans h.s3, World.cell?_setCell_same _ _ _ h.s4, (e 29 (by decide)).trans h.s5, (e 30 (by decide)).trans h.toks, (e 31 (by decide)).trans h.text, (e 32 (by decide)).trans h.opn, (e 33 (by decide)).trans h.value, (e 34 (by decide)).trans h.attrs, (e 35 (by decide)).trans h.taken, fun i => by rw [World.frozen?_setCell]; exact h.fz i, Rm.quotes_set h 28 _ (by decide)⟩
theorem Rm.Box.setS5 {w : World} {g : Nat} {P : ByteArray} {st : Ts} {tv : Value} {text opn value : Nat} {av : Value} {taken : Bool} (h : Rm.Box w g P st tv text opn value av taken) (x : Int) : Rm.Box (w.setCell ⟨g, 29, none⟩ (.int .i64 x)) g P ⟨st.pl, st.name, st.fin, st.attr, st.held, x⟩ tv text opn value av taken := by
 have e : ∀ k, k ≠ 29 → (w.setCell ⟨g, 29, none⟩ (.int .i64 x)).cell? ⟨g, k, none⟩ = w.cell? ⟨g, k, none⟩ := fun k hk => Rm.other _ _ _ _ hk
 exact ⟨(e 0 (by decide)).trans h.page, Rm.tab_set h 29 _ (by decide), (e 24 (by decide)).trans h.s0, (e 25 (by decide)).trans h.s1, (e 26 (by decide)).trans h.s2, (e 27 (by decide)).trans h.s3, (e 28 (by decide)).trans h.s4, World.cell?_setCell_same _ _ _ h.s5, (e 30 (by decide)).trans h.toks, (e 31 (by decide)).trans h.text, (e 32 (by decide)).trans h.opn, (e 33 (by decide)).trans h.value, (e 34 (by decide)).trans h.attrs, (e 35 (by decide)).trans h.taken, fun i => by rw [World.frozen?_setCell]; exact h.fz i, Rm.quotes_set h 29 _ (by decide)⟩
theorem Rm.Box.setState {w : World} {g : Nat} {P : ByteArray} {st : Ts} {tv : Value} {text opn value : Nat} {av : Value} {taken : Bool} (h : Rm.Box w g P st tv text opn value av taken) (s : Ts) : Rm.Box ((((((w.setCell ⟨g, 24, none⟩ (.int .i64 s.pl)).setCell ⟨g, 25, none⟩ (.string s.name)).setCell ⟨g, 26, none⟩ (.bool s.fin)).setCell ⟨g, 27, none⟩ (.string s.attr)).setCell ⟨g, 28, none⟩ (.string s.held)).setCell ⟨g, 29, none⟩ (.int .i64 s.read)) g P s tv text opn value av taken :=
 (((((h.setS0 s.pl).setS1 s.name).setS2 s.fin).setS3 s.attr).setS4 s.held).setS5 s.read
def Rm.Free (tv av : Value) (g k : Nat) : Prop := k ≠ g ∧ tv.ownBlock ≠ some k ∧ av.ownBlock ≠ some k
structure Rm.At (w : World) (g : Nat) (P : ByteArray) (r : Rd) (tv av : Value) : Prop where
 box : Rm.Box w g P r.st tv r.text r.opn r.value av r.taken
 toks : Rm.Toks (g + 1) r.toks w tv av.ownBlock
 attrs : w.ownsRow (g + 1) 50 2 av r.attrs.length (Ak.cells r.attrs)
 apart : ∀ k, tv.ownBlock = some k → av.ownBlock ≠ some k
theorem Rm.At.lt {w : World} {g : Nat} {P : ByteArray} {r : Rd} {tv av : Value} (h : Rm.At w g P r tv av) : g < w.heap.size := h.box.lt
theorem Rm.At.tvLt {w : World} {g : Nat} {P : ByteArray} {r : Rd} {tv av : Value} (h : Rm.At w g P r tv av) {k : Nat} (hk : tv.ownBlock = some k) : g < k ∧ k < w.heap.size := by
 obtain ⟨xs, ho, _⟩ := h.toks
 exact ho.lt k hk
theorem Rm.At.avLt {w : World} {g : Nat} {P : ByteArray} {r : Rd} {tv av : Value} (h : Rm.At w g P r tv av) {k : Nat} (hk : av.ownBlock = some k) : g < k ∧ k < w.heap.size := h.attrs.lt k hk
theorem Rm.At.new {w : World} {g : Nat} {P : ByteArray} {r : Rd} {tv av : Value} (h : Rm.At w g P r tv av) {k : Nat} (hk : w.heap.size ≤ k) : Rm.Free tv av g k :=
 ⟨by have := h.lt; omega, fun e => by have := (h.tvLt e).2; omega, fun e => by have := (h.avLt e).2; omega⟩
theorem Rm.At.on {w w' : World} {g : Nat} {P : ByteArray} {r : Rd} {tv av : Value} (h : Rm.At w g P r tv av) (hb : Below w.heap.size w w') : Rm.At w' g P r tv av :=
 ⟨h.box.on hb.size fun k hk => hb.block k (by have := h.lt; omega), h.toks.on hb.size (fun k hk => hb.block k (h.tvLt hk).2) (fun k _ hk _ hn => ⟨hn, hb.block k hk⟩), Rm.own_on h.attrs fun k hk => hb.block k (h.avLt hk).2, h.apart⟩
structure Rm.Kept (w w' : World) (g : Nat) (tv av tv' av' : Value) : Prop where
 os : w'.os = w.os
 tape : w'.tape = w.tape
 output : w'.output = w.output
 size : w.heap.size ≤ w'.heap.size
 block : ∀ k, k < w.heap.size → Rm.Free tv av g k → w'.heap[k]? = w.heap[k]? ∧ Rm.Free tv' av' g k
theorem Rm.Kept.refl (w : World) (g : Nat) (tv av : Value) : Rm.Kept w w g tv av tv av := ⟨rfl, rfl, rfl, Nat.le_refl _, fun _ _ h => ⟨rfl, h⟩⟩
theorem Rm.Kept.trans {w w1 w2 : World} {g : Nat} {tv av tv1 av1 tv2 av2 : Value} (h : Rm.Kept w w1 g tv av tv1 av1) (h2 : Rm.Kept w1 w2 g tv1 av1 tv2 av2) : Rm.Kept w w2 g tv av tv2 av2 :=
 ⟨h2.os.trans h.os, h2.tape.trans h.tape, h2.output.trans h.output, Nat.le_trans h.size h2.size, fun k hk hf => by
  obtain ⟨a, b⟩ := h.block k hk hf
  obtain ⟨c, d⟩ := h2.block k (Nat.lt_of_lt_of_le hk h.size) b
  exact ⟨c.trans a, d⟩⟩
theorem Rm.Kept.of {w w1 : World} (g : Nat) (tv av : Value) (hb : Below w.heap.size w w1) : Rm.Kept w w1 g tv av tv av := ⟨hb.os, hb.tape, hb.output, hb.size, fun k hk hf => ⟨hb.block k hk, hf⟩⟩
theorem Rm.Kept.set (w : World) (g j : Nat) (u tv av : Value) : Rm.Kept w (w.setCell ⟨g, j, none⟩ u) g tv av tv av := ⟨rfl, rfl, rfl, by simp, fun _ _ hf => ⟨Below.heap_setCell _ _ _ _ hf.1, hf⟩⟩
theorem Rm.Kept.cell {w w' : World} {g : Nat} {tv av tv' av' : Value} (h : Rm.Kept w w' g tv av tv' av') {b o : Nat} {v : Value} (hf : Rm.Free tv av g b) (hc : w.cell? ⟨b, o, none⟩ = some v) : w'.cell? ⟨b, o, none⟩ = some v :=
 Rm.cell_of hc (h.block b (World.block_lt_of_cell? _ _ hc) hf).1
theorem Rm.form {w : World} {base : Nat} {e : TypeId} {size n : Nat} {v : Value} {xs : List Value} (h : w.ownsRow base e size v n xs) : ∃ a d, v = .slice a n d := by
 rcases h.2 with ⟨rfl, rfl⟩ | ⟨g, cap, cur, rfl, _⟩
 ·
  exact ⟨_, _, rfl⟩
 ·
  exact ⟨_, _, rfl⟩
def Rm.five (t : Tk) (tav : Value) : List Value := [.int .i64 t.kind, .string t.name, .string t.text, tav, .bool t.self]
theorem Rm.toks_push {base : Nat} {ts : List Tk} {w0 w w4 : World} {tv v' : Value} {no : Option Nat} {xs : List Value} {t : Tk} {tav : Value} (ho : w0.ownsRow base 84 5 tv ts.length xs)
  (hx : ∀ i t, ts[i]? = some t → ∃ av, xs[i * 5]? = some (.int .i64 t.kind) ∧ xs[i * 5 + 1]? = some (.string t.name) ∧ xs[i * 5 + 2]? = some (.string t.text) ∧ xs[i * 5 + 3]? = some av ∧ xs[i * 5 + 4]? = some (.bool t.self) ∧ Ak.Lies w0 (fun k => base ≤ k ∧ k < w0.heap.size ∧ tv.ownBlock ≠ some k ∧ no ≠ some k ∧ Rm.Ub w0 k) t.attrs av)
  (hl : Ak.Lies w0 (fun k => base ≤ k ∧ k < w0.heap.size ∧ tv.ownBlock ≠ some k ∧ Rm.Ub w0 k) t.attrs tav) (hs : w0.heap.size ≤ w.heap.size) (hw : ∀ k, k < w0.heap.size → w.heap[k]? = w0.heap[k]?)
  (R4 : w4.ownsRow base 84 5 v' (ts.length + 1) (xs ++ Rm.five t tav)) (hg : w.grownBy w4 tv.ownBlock) (hf : v'.ownBlock = tv.ownBlock ∨ v'.ownBlock = some w.heap.size) : Rm.Toks base (ts ++ [t]) w4 v' none := by
 have hkeep : ∀ k, base ≤ k → k < w0.heap.size → tv.ownBlock ≠ some k → Rm.Ub w0 k → (base ≤ k ∧ k < w4.heap.size ∧ v'.ownBlock ≠ some k ∧ (none : Option Nat) ≠ some k ∧ Rm.Ub w4 k) ∧ w4.heap[k]? = w0.heap[k]? := fun k h1 h2 h3 h4 =>
  have hq : w4.heap[k]? = w0.heap[k]? := (hg.block k (by omega) (fun e => h3 e.symm)).trans (hw k h2)
  ⟨⟨h1, by have := hg.size; omega, fun e => by
   rcases hf with e' | e'
   ·
    rw [e'] at e; exact h3 e
   ·
    rw [e'] at e; have := Option.some.inj e; omega, (fun e => by cases e), h4.on hq⟩, hq⟩
 have hlen := ho.1
 refine ⟨_, by rw [List.length_append]; exact R4, fun i u hi => ?_⟩
 by_cases e : i < ts.length
 ·
  rw [List.getElem?_append_left e] at hi
  obtain ⟨av, x0, x1, x2, x3, x4, hl'⟩ := hx i u hi
  refine ⟨av, ?_, ?_, ?_, ?_, ?_, hl'.on fun k hk => hkeep k hk.1 hk.2.1 hk.2.2.1 hk.2.2.2.2⟩
  all_goals rw [List.getElem?_append_left (by omega)]
  all_goals assumption
 ·
  have hi' : i = ts.length := by
   have := (List.getElem?_eq_some_iff.1 hi).1
   simp at this; omega
  subst hi'
  rw [List.getElem?_append_right (Nat.le_refl _), Nat.sub_self] at hi
  have : t = u := by simpa using hi
  subst this
  have at5 : ∀ r, (xs ++ Rm.five t tav)[ts.length * 5 + r]? = (Rm.five t tav)[r]? := fun r => by rw [List.getElem?_append_right (by omega), hlen, Nat.add_sub_cancel_left]
  exact ⟨tav, at5 0, at5 1, at5 2, at5 3, at5 4, hl.on fun k hk => hkeep k hk.1 hk.2.1 hk.2.2.1 hk.2.2.2⟩
theorem Rm.kept_push {W W1 w4 : World} {tv av v' av' : Value} {g : Nat} (hb : Below W.heap.size W W1) (hg : W1.grownBy w4 tv.ownBlock) (hf : v'.ownBlock = tv.ownBlock ∨ v'.ownBlock = some W1.heap.size) (ha : ∀ k, av.ownBlock ≠ some k → av'.ownBlock ≠ some k) : Rm.Kept W w4 g tv av v' av' :=
 ⟨hg.os.trans hb.os, hg.tape.trans hb.tape, hg.output.trans hb.output, Nat.le_trans hb.size hg.size, fun k hk hfr =>
  ⟨(hg.block k (Nat.lt_of_lt_of_le hk hb.size) (fun e => hfr.2.1 e.symm)).trans (hb.block k hk), hfr.1, fun e => by
   rcases hf with e' | e'
   ·
    rw [e'] at e; exact hfr.2.1 e
   ·
    rw [e'] at e; have := Option.some.inj e; have := hb.size; omega, ha k hfr.2.2⟩⟩
theorem Rm.set_ne (w : World) (g j : Nat) (u : Value) {k : Nat} (h : g + 1 ≤ k) : (w.setCell ⟨g, j, none⟩ u).heap[k]? = w.heap[k]? := Below.heap_setCell _ _ _ _ (by show k ≠ g; omega)
theorem Rm.five_cells (W : World) (t : Tk) (tav : Value) (g1 : Nat) (h : g1 = W.heap.size) : ∀ j u, (Rm.five t tav)[j]? = some u → (W.alloc (.cells #[.int .i64 t.kind, .string t.name, .string t.text, tav, .bool t.self] 84)).cell? ⟨g1, j, none⟩ = some u := by
 subst h
 intro j u hj
 unfold World.cell?
 rw [show (W.alloc (.cells #[.int .i64 t.kind, .string t.name, .string t.text, tav, .bool t.self] 84)).heap[W.heap.size]? = some _ from heap_alloc_new W _]
 simpa [Rm.five] using hj
theorem Rm.five_one (t : Tk) (ta : Option Addr) (m td : Nat) : ∀ u ∈ Rm.five t (.slice ta m td), u.oneCell' = true := by
 intro u hu
 simp only [Rm.five, List.mem_cons, List.not_mem_nil, or_false] at hu
 rcases hu with rfl | rfl | rfl | rfl | rfl <;> rfl
set_option maxHeartbeats 4000000 in
theorem Rm.tell (r : Rd) (t : Tk) (tav : Value) (next : Nat) (w : World) (g : Nat) (P : ByteArray) (tv av : Value) (h : Rm.At w g P r tv av) (hl : Ak.Lies w (fun k => g + 1 ≤ k ∧ k < w.heap.size ∧ tv.ownBlock ≠ some k ∧ Rm.Ub w k) t.attrs tav) (hn : r.toks.length ≤ 1000000) :
  Calls Tryz.prog 75 #[.pointer (some ⟨g, 0, none⟩), .agg #[.int .i64 t.kind, .string t.name, .string t.text, tav, .bool t.self], .int .i64 (next : Int)] w fun e w' => e = .returned (.tuple #[]) ∧ ∃ tv', Rm.At w' g P (r.tell t next) tv' (.slice none 0 0) ∧ Rm.Kept w w' g tv av tv' (.slice none 0 0) := by
 obtain ⟨xs, ho, hx⟩ := h.toks
 obtain ⟨ta, td, htav, htd1, htd2, hrest⟩ := id hl
 clear hrest
 have HH := Lib.hid h
 have HL := Lib.hid hl
 have HO := Lib.hid ho
 have HX := Lib.hid hx
 have B := h.box
 have c30 := B.toks
 have c31 := B.text
 have c34 := B.attrs
 have cf := B.fz
 have hglt := B.lt
 have n1 : w.heap.size ≠ g := by omega
 have n2 : w.heap.size + 1 ≠ g := by omega
 have n3 : g ≠ w.heap.size := by omega
 have n4 : g ≠ w.heap.size + 1 := by omega
 generalize hm : t.attrs.length = m at htav htd1
 subst htav
 clear h hl ho hx B hm
 go_enter Tryz.func75, Tryz.ntmps75
 go_wp2_with fail
 obtain ⟨W, hW⟩ : ∃ W, w.alloc (.cells #[.int .i64 t.kind, .string t.name, .string t.text, .slice ta m td, .bool t.self] 84) = W := ⟨_, rfl⟩
 have hbW : Below w.heap.size w W := by rw [← hW]; exact (Below.refl _ _).alloc (Nat.le_refl _) _
 have hsW : W.heap.size = w.heap.size + 1 := by rw [← hW]; simp
 have k0 : W.cell? ⟨w.heap.size, 0, none⟩ = some (.int .i64 t.kind) := by rw [← hW]; simp
 have k1 : W.cell? ⟨w.heap.size, 1, none⟩ = some (.string t.name) := by rw [← hW]; simp
 have k2 : W.cell? ⟨w.heap.size, 2, none⟩ = some (.string t.text) := by rw [← hW]; simp
 have k3 : W.cell? ⟨w.heap.size, 3, none⟩ = some (.slice ta m td) := by rw [← hW]; simp
 have k4 : W.cell? ⟨w.heap.size, 4, none⟩ = some (.bool t.self) := by rw [← hW]; simp
 have c30' := Tp.keep hbW c30
 have n5 : W.heap.size ≠ g := by omega
 have n6 : W.heap.size ≠ w.heap.size := by omega
 rw [hW]
 have HB := Lib.hid hbW
 have HW1 : Hid (W.ownsRow (g + 1) 84 5 tv r.toks.length xs) := Rm.own_on HO.out fun k hk => HB.out.block k (HO.out.lt k hk).2
 have HN : Hid (r.toks.length + 1 ≤ maxLen ∧ (r.toks.length + 1) * 72 ≤ 140737488355328) := ⟨by unfold maxLen; omega, by omega⟩
 clear hW c30 c31 c34 cf hbW hn htd1 htd2
 go_region_law (first | (refine Ro.step_push rfl (.tmp 10) (.tmp 12) 55 84 5 72 _ rfl Tryz.underlying55 Rm.infoT rfl (by decide) tv (by simp [Act.eval]) (HW1.out.alloc _) (w.heap.size + 1) (Rm.five t (.slice ta m td)) (by simp [Act.eval]) (Rm.five_cells _ t _ _ (by first | omega | (simp; omega))) rfl (Rm.five_one _ _ _ _) HN.out.1 HN.out.2 (by first | omega | (simp; omega)) ?_; intro v' w4 R4 hg4 hf4; obtain ⟨a4, d4, rfl⟩ := Rm.form R4; have HR4 := Lib.hid R4; have HG4 := Lib.hid hg4; have HF4 := Lib.hid hf4; have B4 := (HH.out.on HB.out).box.on (w' := w4) (by have hq := hg4.size; first | omega | (simp at hq; omega)) (fun k hk => (hg4.block k (by first | omega | (simp; omega)) (fun e => by have := (HO.out.lt k e.symm).1; omega)).trans (Below.heap_alloc _ _ _ (by first | omega | (simp; omega)))); have d30 := B4.toks; have d31 := B4.text; have d34 := B4.attrs; have df := B4.fz; have HB4 := Lib.hid B4; clear R4 hg4 hf4 B4))
 all_goals go_wp2
 all_goals go_end0
 all_goals
  have hq : Below W.heap.size W (W.drew.alloc (.cells #[.int .i64 t.kind, .string t.name, .string t.text, .slice ta m td, .bool t.self] 84)) := (Below.refl _ _).drew.alloc (Nat.le_refl _) _
  have hk4 : Rm.Kept W w4 g tv av (.slice a4 (r.toks.length + 1) d4) (.slice none 0 0) := Rm.kept_push hq HG4.out HF4.out (fun k _ e => by cases e)
  have ht4 := Rm.toks_push (w := W.drew.alloc (.cells #[.int .i64 t.kind, .string t.name, .string t.text, .slice ta m td, .bool t.self] 84)) HO.out HX.out HL.out (Nat.le_trans HB.out.size hq.size) (fun k hk => (hq.block k (Nat.lt_of_lt_of_le hk HB.out.size)).trans (HB.out.block k hk)) HR4.out HG4.out HF4.out
  refine ⟨rfl, .slice a4 (r.toks.length + 1) d4, ⟨((HB4.out.setToks _).setText next).setAttrs _, ?_, World.ownsRow_nil _ _ _ _, fun k _ e => by cases e⟩, (((Rm.Kept.of g tv av HB.out).trans hk4).trans (Rm.Kept.set _ _ _ _ _ _)).trans ((Rm.Kept.set _ _ _ _ _ _).trans (Rm.Kept.set _ _ _ _ _ _))⟩
  have hne : ∀ k, g + 1 ≤ k → (((w4.setCell ⟨g, 30, none⟩ (.slice a4 (r.toks.length + 1) d4)).setCell ⟨g, 31, none⟩ (.int .i64 (next : Int))).setCell ⟨g, 34, none⟩ (.slice none 0 0)).heap[k]? = w4.heap[k]? := fun k hk => by
   rw [Rm.set_ne _ _ _ _ hk, Rm.set_ne _ _ _ _ hk, Rm.set_ne _ _ _ _ hk]
  exact Rm.Toks.on ht4 (by simp) (fun k hk => hne k (HR4.out.lt k hk).1) (fun k hk _ _ _ => ⟨(fun e => by cases e), hne k hk⟩)
def Ts.nexts : Nat → List Int
 | 0 => [0, 1]
 | 1 => [3, 2, 13, 1, 0]
 | 2 => [3, 1, 0]
 | 3 => [4, 12, 0, 19, 3]
 | 4 => [4, 12, 0, 19, 5]
 | 5 => [6, 12, 0, 19, 7, 5]
 | 6 => [6, 12, 0, 19, 7, 5]
 | 7 => [7, 8, 9, 0, 19, 10]
 | 8 => [11, 8]
 | 9 => [11, 9]
 | 10 => [4, 0, 19, 10]
 | 11 => [4, 12, 0, 19, 5]
 | 12 => [0, 19, 4, 12, 5]
 | 13 => [14, 0, 18]
 | 14 => [15, 0, 18]
 | 15 => [16, 15]
 | 16 => [17, 15]
 | 17 => [0, 17, 15]
 | 18 => [0, 18]
 | 19 => [20, 19]
 | 20 => [21, 20, 19]
 | 21 => [22, 20, 19]
 | 22 => [22, 20, 19, 4, 12, 0]
 | _ => []
theorem Ts.closed_pl (s : Ts) : s.closed.pl = 0 ∨ s.closed.pl = 19 := by
 unfold Ts.closed
 split
 ·
  exact .inl rfl
 ·
  exact .inr rfl
theorem Ts.step_at (s : Ts) (c : UInt8) (k : Nat) (hk : s.pl = (k : Int)) (h : k < 23) : s.step c = (s.to k).at c k := by
 unfold Ts.step
 rw [if_neg (by omega), hk, Int.toNat_natCast]
set_option maxHeartbeats 4000000 in
theorem Ts.step_next (s : Ts) (c : UInt8) (k : Nat) (hk : s.pl = (k : Int)) (h : k < 23) : (s.step c).pl ∈ Ts.nexts k := by
 rw [Ts.step_at s c k hk h]
 have hcl := Ts.closed_pl (s.to (k : Int))
 have hp : (s.to (k : Int)).pl = (k : Int) := rfl
 generalize s.to (k : Int) = t at *
 have hc : k = 0 ∨ k = 1 ∨ k = 2 ∨ k = 3 ∨ k = 4 ∨ k = 5 ∨ k = 6 ∨ k = 7 ∨ k = 8 ∨ k = 9 ∨ k = 10 ∨ k = 11 ∨ k = 12 ∨ k = 13 ∨ k = 14 ∨ k = 15 ∨ k = 16 ∨ k = 17 ∨ k = 18 ∨ k = 19 ∨ k = 20 ∨ k = 21 ∨ k = 22 := by omega
 rcases hc with rfl | rfl | rfl | rfl | rfl | rfl | rfl | rfl | rfl | rfl | rfl | rfl | rfl | rfl | rfl | rfl | rfl | rfl | rfl | rfl | rfl | rfl | rfl
 all_goals
  first | (rw [show t.at c 0 = t.data c from rfl]; unfold Ts.data) | (rw [show t.at c 1 = t.tagOpen c from rfl]; unfold Ts.tagOpen) | (rw [show t.at c 2 = t.endOpen c from rfl]; unfold Ts.endOpen) | (rw [show t.at c 3 = t.tagName c from rfl]; unfold Ts.tagName) | (rw [show t.at c 4 = t.beforeAttr c from rfl]; unfold Ts.beforeAttr) | (rw [show t.at c 5 = t.attrName c from rfl]; unfold Ts.attrName) | (rw [show t.at c 6 = t.afterName c from rfl]; unfold Ts.afterName) | (rw [show t.at c 7 = t.beforeValue c from rfl]; unfold Ts.beforeValue) | (rw [show t.at c 8 = t.quoted 34 c from rfl]; unfold Ts.quoted) | (rw [show t.at c 9 = t.quoted 39 c from rfl]; unfold Ts.quoted) | (rw [show t.at c 10 = t.bare c from rfl]; unfold Ts.bare) | (rw [show t.at c 11 = t.afterValue c from rfl]; unfold Ts.afterValue) | (rw [show t.at c 12 = t.selfClose c from rfl]; unfold Ts.selfClose) | (rw [show t.at c 13 = t.bang c from rfl]; unfold Ts.bang) | (rw [show t.at c 14 = t.bangDash c from rfl]; unfold Ts.bangDash) | (rw [show t.at c 15 = t.comment c from rfl]; unfold Ts.comment) | (rw [show t.at c 16 = t.commentDash c from rfl]; unfold Ts.commentDash) | (rw [show t.at c 17 = t.commentEnd c from rfl]; unfold Ts.commentEnd) | (rw [show t.at c 18 = t.bogus c from rfl]; unfold Ts.bogus) | (rw [show t.at c 19 = t.heldS c from rfl]; unfold Ts.heldS) | (rw [show t.at c 20 = t.heldLt c from rfl]; unfold Ts.heldLt) | (rw [show t.at c 21 = t.heldSlash c from rfl]; unfold Ts.heldSlash) | (rw [show t.at c 22 = t.heldName c from rfl]; unfold Ts.heldName)
  repeat' split
 all_goals (try (unfold Ts.heldOn; split))
 all_goals first | exact of_decide_eq_true rfl | (rw [hp]; exact of_decide_eq_true rfl) | (show t.pl ∈ _; rw [hp]; exact of_decide_eq_true rfl) | (rcases hcl with q | q <;> rw [q] <;> exact of_decide_eq_true rfl)
def Ts.Small (s : Ts) : Prop := s.name.size ≤ 32 ∧ s.attr.size ≤ 32 ∧ s.held.size ≤ 32
theorem Ts.to_small {s : Ts} (h : s.Small) (a : Int) : (s.to a).Small := by
 have e : Ts.e.size ≤ 32 := by decide
 unfold Ts.to
 refine ⟨?_, ?_, ?_⟩
 ·
  show (if _ then _ else _ : ByteArray).size ≤ _
  split
  ·
   exact h.1
  ·
   exact e
 ·
  show (if _ then _ else _ : ByteArray).size ≤ _
  split
  ·
   exact h.2.1
  ·
   exact e
 ·
  show (if _ then _ else _ : ByteArray).size ≤ _
  split
  ·
   exact h.2.2
  ·
   exact e
theorem Ts.low_small (c : UInt8) : (Ts.low c).size ≤ 32 := by show (1 : Nat) ≤ 32; decide
theorem Ts.grown_small (n : ByteArray) (c : UInt8) : (Ts.grown n c).size ≤ 32 := by
 unfold Ts.grown
 split
 ·
  rw [ByteArray.size_extract]; omega
 ·
  rw [ByteArray.size_append]; have : (Ts.low c).size = 1 := rfl; omega
theorem Ts.openTag_small {s : Ts} (h : s.Small) (c : UInt8) : (s.openTag c).Small := ⟨Ts.low_small c, (Ts.to_small h 3).2.1, (Ts.to_small h 3).2.2⟩
theorem Ts.openAttr_small {s : Ts} (h : s.Small) (c : UInt8) : (s.openAttr c).Small := ⟨(Ts.to_small h 5).1, Ts.low_small c, (Ts.to_small h 5).2.2⟩
theorem Ts.closed_small {s : Ts} (h : s.Small) : s.closed.Small := by
 unfold Ts.closed
 split
 ·
  exact Ts.to_small h 0
 ·
  exact Ts.to_small (s := ⟨s.pl, s.name, s.fin, s.attr, s.name, s.read⟩) ⟨h.1, h.2.1, h.1⟩ 19
theorem Ts.heldOn_small {s : Ts} (h : s.Small) (c : UInt8) : (s.heldOn c).Small := by
 unfold Ts.heldOn
 split
 ·
  exact Ts.to_small h _
 ·
  exact Ts.to_small h _
theorem Ts.heldEnd_small {s : Ts} (h : s.Small) (a : Int) : (s.heldEnd a).Small := Ts.to_small (s := ⟨s.pl, s.held, true, s.attr, s.held, s.read⟩) ⟨h.2.2, h.2.1, h.2.2⟩ a
set_option maxHeartbeats 4000000 in
theorem Ts.at_small {s : Ts} (h : s.Small) (c : UInt8) (k : Nat) : (s.at c k).Small := by
 unfold Ts.at
 split
 all_goals
  first | unfold Ts.data | unfold Ts.tagOpen | unfold Ts.endOpen | unfold Ts.tagName | unfold Ts.beforeAttr | unfold Ts.attrName | unfold Ts.afterName | unfold Ts.beforeValue | unfold Ts.quoted | unfold Ts.bare | unfold Ts.afterValue | unfold Ts.selfClose | unfold Ts.bang | unfold Ts.bangDash | unfold Ts.comment | unfold Ts.commentDash | unfold Ts.commentEnd | unfold Ts.bogus | unfold Ts.heldS | unfold Ts.heldLt | unfold Ts.heldSlash | unfold Ts.heldName
  repeat' split
 all_goals first | exact h | exact Ts.to_small h _ | exact Ts.closed_small h | exact Ts.openTag_small h c | exact Ts.openAttr_small h c | exact Ts.heldOn_small h c | exact Ts.heldEnd_small h _ | exact ⟨Ts.grown_small _ _, h.2.1, h.2.2⟩ | exact ⟨h.1, Ts.grown_small _ _, h.2.2⟩ | exact ⟨(Ts.openTag_small h c).1, (Ts.openTag_small h c).2.1, (Ts.openTag_small h c).2.2⟩ | exact ⟨(Ts.to_small h 22).1, (Ts.to_small h 22).2.1, (Ts.to_small h 22).2.2⟩ | exact ⟨h.1, h.2.1, h.2.2⟩
theorem Ts.step_small {s : Ts} (h : s.Small) (c : UInt8) : (s.step c).Small := by
 unfold Ts.step
 split
 ·
  exact h
 ·
  exact Ts.at_small (Ts.to_small h _) c _
end Go.Proofs.YtblpkjlodncpeaaGreatDoor
