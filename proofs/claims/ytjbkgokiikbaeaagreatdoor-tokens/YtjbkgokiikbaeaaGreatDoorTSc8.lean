/-
  THE WALK of the reference's emit: a tag's token, laid down.
-/
import Derived.Test.YtjbkgokiikbaeaaGreatDoorTSc7
namespace Go.Proofs.YtjbkgokiikbaeaaGreatDoor
open Go.RowKit
/-- a tag's token behind the others, and no attributes any more -/
theorem Sc.At.tagPut {w w1 w4 : World} {g : Nat} {P : ByteArray} {x : Rf} {bv ov av ov' tav : Value} {t : Tk} (h : Sc.At w g P x bv ov av) (hq : Below w.heap.size w w1) (xs : List Value)
    (hx : w.ownsRow (g + 1) 47 5 ov x.out.length xs ∧ ∀ i t, x.out[i]? = some t → ∃ av', xs[i * 5]? = some (.int .i64 t.kind) ∧ xs[i * 5 + 1]? = some (.string t.name) ∧ xs[i * 5 + 2]? = some (.string t.text) ∧ xs[i * 5 + 3]? = some av' ∧ xs[i * 5 + 4]? = some (.bool t.self) ∧ Ak.Lies w (fun k => g + 1 ≤ k ∧ k < w.heap.size ∧ ov.ownBlock ≠ some k ∧ ¬ (bv.ownBlock = some k ∨ av.ownBlock = some k)) t.attrs av')
    (hl : Ak.Lies w (fun k => av.ownBlock = some k) t.attrs tav) (R4 : w4.ownsRow (g + 1) 47 5 ov' (x.out.length + 1) (xs ++ Rm.five t tav)) (hg : w1.grownBy w4 ov.ownBlock) (hf : ov'.ownBlock = ov.ownBlock ∨ ov'.ownBlock = some w1.heap.size) :
    Sc.At ((w4.setCell ⟨g, 10, none⟩ ov').setCell ⟨g, 11, none⟩ (.slice none 0 0)) g P { x with out := x.out ++ [t], attrs := [] } bv ov' (.slice none 0 0) ∧ Sc.Kept w ((w4.setCell ⟨g, 10, none⟩ ov').setCell ⟨g, 11, none⟩ (.slice none 0 0)) g bv ov av bv ov' (.slice none 0 0) := by
  have hlt := h.lt
  have hgne : ov.ownBlock ≠ some g := fun e => by have := (h.ovLt e).1; omega
  have hold : ∀ k, k < w.heap.size → ov.ownBlock ≠ some k → ov'.ownBlock ≠ some k ∧ w4.heap[k]? = w.heap[k]? := fun k hk hv => ⟨fun e => by
    rcases hf with q | q
    · rw [q] at e; exact hv e
    · rw [q] at e; have := Option.some.inj e; have := hq.size; omega, (hg.block k (Nat.lt_of_lt_of_le hk hq.size) (fun e => hv e.symm)).trans (hq.block k hk)⟩
  have hne : ∀ k, k ≠ g → ((w4.setCell ⟨g, 10, none⟩ ov').setCell ⟨g, 11, none⟩ (.slice none 0 0)).heap[k]? = w4.heap[k]? := fun k hk => (Below.heap_setCell _ _ _ _ (by show k ≠ g; exact hk)).trans (Below.heap_setCell _ _ _ _ (by show k ≠ g; exact hk))
  have hsz : w.heap.size ≤ w4.heap.size := Nat.le_trans hq.size hg.size
  have hbv : ∀ k, bv.ownBlock = some k → k < w.heap.size ∧ ov.ownBlock ≠ some k := fun k hk => ⟨(h.buf.lt k hk).2, fun e => h.ob k e hk⟩
  have hav : ∀ k, av.ownBlock = some k → k < w.heap.size ∧ ov.ownBlock ≠ some k := fun k hk => ⟨(h.attrs.lt k hk).2, fun e => h.oa k e hk⟩
  have hT : Sc.Toks (g + 1) (x.out ++ [t]) w4 ov' (fun k => bv.ownBlock = some k ∨ (Value.slice none 0 0).ownBlock = some k) := by
    refine Sc.toksPush xs hx.1 hx.2 hsz R4 (hl.on fun k hk => ⟨⟨(h.attrs.lt k hk).1, Nat.lt_of_lt_of_le (hav k hk).1 hsz, (hold k (hav k hk).1 (hav k hk).2).1, fun q => q.elim (fun q => h.ba k q hk) (fun q => nomatch q)⟩, (hold k (hav k hk).1 (hav k hk).2).2⟩) (fun k _ h2 h3 h4 => ⟨⟨(hold k h2 h3).1, fun q => q.elim (fun q => h4 (Or.inl q)) (fun q => nomatch q)⟩, (hold k h2 h3).2⟩)
  obtain ⟨ys, hys, hyx⟩ := id hT
  refine ⟨⟨?_, ?_, ?_, World.ownsRow_nil _ _ _ _, ?_, fun k _ e => (by cases e), fun k _ e => (by cases e)⟩, ⟨hg.os.trans hq.os, hg.tape.trans hq.tape, hg.output.trans hq.output, by simpa using hsz, fun k hk hfr => ⟨(hne k hfr.1).trans (hold k hk hfr.2.2.1).2, hfr.1, hfr.2.1, (hold k hk hfr.2.2.1).1, (fun e => by cases e)⟩⟩⟩
  · exact ((h.box.on (hold g hlt hgne).2).set 10 ov' (by show 10 < 15; decide)).set 11 (.slice none 0 0) (by show 11 < 15; decide)
  · exact Rm.own_on h.buf (fun k hk => (hne k (by have := (h.buf.lt k hk).1; omega)).trans (hold k (hbv k hk).1 (hbv k hk).2).2)
  · exact hT.on (by simp) (fun k hk => hne k (by have := (hys.lt k hk).1; omega)) (fun k h1 _ _ h4 => ⟨h4, hne k (by omega)⟩)
  · intro k hk hk2
    exact (hold k (hbv k hk2).1 (hbv k hk2).2).1 hk
end Go.Proofs.YtjbkgokiikbaeaaGreatDoor
