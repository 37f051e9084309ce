/-
  ROWS OF TEXTS IN MEMORY.
-/
import Derived.Test.YtnophkbbeipaaaaGKit
namespace Go.Proofs.Ytnophkbbeipaaaa
open Go.RowKit
theorem St.info : (Try.prog.info? 9).map (fun i => (i.zero, i.size, i.bytes)) = some (some (.string ⟨#[]⟩), 1, 16) := by kernel_rfl
def St.cells (ts : List (List UInt8)) : List Value := ts.map fun t => .string ⟨t.toArray⟩
theorem St.cells_snoc (ts : List (List UInt8)) (t : List UInt8) : St.cells (ts ++ [t]) = St.cells ts ++ [.string ⟨t.toArray⟩] := by simp [St.cells]
theorem St.ones (t : ByteArray) : ∀ u ∈ [Value.string t], u.oneCell' = true := by
  intro u hu
  rw [List.mem_singleton.1 hu]
  rfl
theorem St.cell1 (W : World) (t : ByteArray) : ∀ (j : Nat) (u : Value), [Value.string t][j]? = some u → (W.alloc (.cells #[.string t] 9)).cell? ⟨W.heap.size, j, none⟩ = some u := by
  intro j u hj
  unfold World.cell?
  rw [show (W.alloc (.cells #[.string t] 9)).heap[W.heap.size]? = some _ from heap_alloc_new W _]
  simpa using hj
/-- texts lie in a block of R -/
def St.Lies (w : World) (R : Nat → Prop) (ts : List (List UInt8)) (v : Value) : Prop :=
  ∃ a d, v = .slice a ts.length d ∧ ts.length ≤ d ∧ d ≤ maxLen ∧ ∀ j t, ts[j]? = some t → ∃ b o, a = some ⟨b, o, none⟩ ∧ R b ∧ w.cell? ⟨b, o + j, none⟩ = some (.string ⟨t.toArray⟩)
theorem St.Lies.on {w w' : World} {R R' : Nat → Prop} {ts : List (List UInt8)} {v : Value} (h : St.Lies w R ts v) (hR : ∀ k, R k → R' k ∧ w'.heap[k]? = w.heap[k]?) : St.Lies w' R' ts v := by
  obtain ⟨a, d, e, h1, h2, hx⟩ := h
  refine ⟨a, d, e, h1, h2, fun i t hi => ?_⟩
  obtain ⟨b, o, ea, hb, c0⟩ := hx i t hi
  obtain ⟨hb', hw⟩ := hR b hb
  exact ⟨b, o, ea, hb', (World.cell?_of_block (a := ⟨b, o + i, none⟩) hw).trans c0⟩
theorem St.Lies.nil (w : World) (R : Nat → Prop) : St.Lies w R [] (.slice none 0 0) := ⟨none, 0, rfl, Nat.le_refl _, Nat.zero_le _, fun j x h => by simp at h⟩
theorem St.Lies.own {w : World} {base : Nat} {ts : List (List UInt8)} {v : Value} (h : w.ownsRow base 9 1 v ts.length (St.cells ts)) : St.Lies w (fun k => base ≤ k ∧ k < w.heap.size ∧ Rm.Ub w k) ts v := by
  have hc := fun g hg => h.cells (g := g) hg
  have hlt := h.lt
  have hub : ∀ k, v.ownBlock = some k → Rm.Ub w k := fun k hk => Rm.Ub.own h hk
  rcases h.2 with ⟨rfl, hn⟩ | ⟨g, cap, cur, rfl, hbg, hg, hnc, hcm, hcs, htake⟩
  · have : ts = [] := List.eq_nil_of_length_eq_zero hn
    subst this
    exact St.Lies.nil _ _
  · refine ⟨some ⟨g, 0, none⟩, cap, rfl, hnc, hcm, fun j x hj => ?_⟩
    have c1 := hc g rfl j (.string ⟨x.toArray⟩) (by unfold St.cells; rw [List.getElem?_map, hj]; rfl)
    rw [Ro.add] at c1
    exact ⟨g, 0, rfl, ⟨(hlt g rfl).1, (hlt g rfl).2, hub g rfl⟩, c1⟩
end Go.Proofs.Ytnophkbbeipaaaa
