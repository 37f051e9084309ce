/-
  PLAIN, AND IN MEMORY: what PageForms' cases want.
-/
import Derived.Test.YtblpkjlodncpeaaGreatDoorALFm
namespace Go.Proofs.YtblpkjlodncpeaaGreatDoor
open Go.RowKit
/-- a node of the row gets other attributes -/
theorem Lf.setA {w : World} {R : Nat → Prop} {ns : List Nd} {b o d : Nat} (h : Nd.Lies w R ns (.slice (some ⟨b, o, none⟩) ns.length d)) {i : Nat} {x : Nd} (hi : ns[i]? = some x) (al : List (ByteArray × ByteArray)) (av' : Value) (hal : Ak.Lies w R al av') :
    Nd.Lies (w.setCell ⟨b, o + i * 5 + 3, none⟩ av') R (ns.set i { x with attrs := al }) (.slice (some ⟨b, o, none⟩) ns.length d) := by
  obtain ⟨a', d', e, h1, h2, hx⟩ := h
  injection e with e1 e2 e3
  subst e1
  subst e3
  obtain ⟨b0, o0, av0, e0, hb0, c00, c01, c02, c03, c04, hl0⟩ := hx i x hi
  injection e0 with e0
  injection e0 with e01 e02
  subst e01
  subst e02
  have hatt : ∀ (al : List (ByteArray × ByteArray)) (av : Value), Ak.Lies w R al av → Ak.Lies (w.setCell ⟨b, o + i * 5 + 3, none⟩ av') R al av := fun al av hl => by
    obtain ⟨aa0, ad0, ea0, _⟩ := hl0
    obtain ⟨a1, d1, e1, g1, g2, gx⟩ := hl
    refine ⟨a1, d1, e1, g1, g2, fun j z hj => ?_⟩
    obtain ⟨b1, o1, ea, hb1, q1, q2⟩ := gx j z hj
    have ne : ∀ c s, w.cell? ⟨b1, c, none⟩ = some (.string s) → (w.setCell ⟨b, o + i * 5 + 3, none⟩ av').cell? ⟨b1, c, none⟩ = some (.string s) := fun c s hc => by
      rw [World.cell?_setCell_other _ _ _ _ (fun q => by rw [q, hc, ea0] at c03; injection c03 with c03; cases c03)]
      exact hc
    exact ⟨b1, o1, ea, hb1, ne _ _ q1, ne _ _ q2⟩
  have get : ∀ j s u, s ≠ 3 ∨ j ≠ i → s < 5 → w.cell? ⟨b, o + j * 5 + s, none⟩ = some u → (w.setCell ⟨b, o + i * 5 + 3, none⟩ av').cell? ⟨b, o + j * 5 + s, none⟩ = some u := fun j s u hs h5 hu => by
    rw [World.cell?_setCell_other _ _ _ _ (fun q => by injection q with _ q2; omega)]
    exact hu
  refine ⟨some ⟨b, o, none⟩, d, by rw [List.length_set], by rw [List.length_set]; exact h1, h2, fun j y hj => ?_⟩
  by_cases q : i = j
  · subst q
    rw [List.getElem?_set_self (List.getElem?_eq_some_iff.1 hi).1] at hj
    injection hj with hj
    subst hj
    exact ⟨b, o, av', rfl, hb0, get i 0 _ (.inl (by decide)) (by decide) c00, get i 1 _ (.inl (by decide)) (by decide) c01, get i 2 _ (.inl (by decide)) (by decide) c02, World.cell?_setCell_same _ _ _ c03, get i 4 _ (.inl (by decide)) (by decide) c04, hatt _ _ hal⟩
  · rw [List.getElem?_set_ne q] at hj
    obtain ⟨b1, o1, av1, e1, hb1, p0, p1, p2, p3, p4, hl1⟩ := hx j y hj
    injection e1 with e1
    injection e1 with e11 e12
    subst e11
    subst e12
    have hji : j ≠ i := fun e => q e.symm
    exact ⟨b, o, av1, rfl, hb1, get j 0 _ (.inr hji) (by decide) p0, get j 1 _ (.inr hji) (by decide) p1, get j 2 _ (.inr hji) (by decide) p2, get j 3 _ (.inr hji) (by decide) p3, get j 4 _ (.inr hji) (by decide) p4, hatt _ _ hl1⟩
def Lf.Small (x : Nd) : Prop := x.name.size ≤ 1 ∧ x.text.size ≤ 1 ∧ x.attrs.length ≤ 1 ∧ ∀ y ∈ x.attrs, y.1.size ≤ 1
theorem Lf.smallNodes : ∀ x ∈ Lf.nodes, Lf.Small x := by
  intro y hy
  simp only [Lf.nodes, List.mem_cons, List.not_mem_nil, or_false] at hy
  rcases hy with rfl | rfl | rfl | rfl
  · exact ⟨by decide, by decide, by decide, fun z hz => by cases hz⟩
  · exact ⟨by decide, by decide, by decide, fun z hz => by rw [List.mem_singleton.1 hz]; decide⟩
  · exact ⟨by decide, by decide, by decide, fun z hz => by cases hz⟩
  · exact ⟨by decide, by decide, by decide, fun z hz => by cases hz⟩
theorem Lf.smallSet {i : Nat} {x : Nd} (h : Lf.Small x) : ∀ y ∈ Lf.nodes.set i x, Lf.Small y := fun y hy => by
  rcases List.mem_or_eq_of_mem_set hy with q | q
  · exact Lf.smallNodes y q
  · rw [q]; exact h
theorem Lf.bulk {ns : List Nd} (hl : ns.length ≤ 4) (h : ∀ x ∈ ns, Lf.Small x) : (Sk.skel ns).length + 32 ≤ 140737488355328 ∧ ∀ x ∈ ns, x.text.size ≤ 281474976710656 := by
  refine ⟨?_, fun x hx => by have := (h x hx).2.1; omega⟩
  refine Nat.le_trans (Nat.add_le_add_right (Kb.skel ns (by omega)) 32) ?_
  have := Kp.sum_le (ns.map Kb.w) 1048576 (fun q hq => by
    obtain ⟨x, hx, rfl⟩ := List.mem_map.1 hq
    obtain ⟨h1, h2, h3, h4⟩ := h x hx
    have hat : Kb.ats x ≤ 2 := by
      unfold Kb.ats
      have := Kp.sum_le (x.attrs.map fun a => a.1.size + 1) 2 (fun q hq => by
        obtain ⟨y, hy, rfl⟩ := List.mem_map.1 hq
        have := h4 y hy
        show y.1.size + 1 ≤ 2
        omega)
      rw [List.length_map] at this
      omega
    unfold Kb.w
    split
    · exact Nat.zero_le _
    · split <;> omega)
  rw [List.length_map] at this
  omega
theorem Lf.not {ns : List Nd} (i : Nat) (x : Nd) (hi : ns[i]? = some x) (h : ¬ Sk.At ns i x) : ¬ Sk.May ns := fun q => h (q.2 i x hi)
/-- what Skeleton and Texts say of nodes that may not be -/
theorem Lf.skel {ns : List Nd} (hl : ns.length = 4) (hs : ∀ x ∈ ns, Lf.Small x) (hn : ¬ Sk.May ns) (a : Option Addr) (d : Nat) (w : World) (h : Nd.Lies w (· < w.heap.size) ns (.slice a 4 d)) (ht : Pq.Tab w) :
    Calls Tryz.prog 9 #[.slice a 4 d] w fun e w' => e = .returned (.tuple #[.string ⟨#[]⟩, .int .i64 800]) ∧ Below w.heap.size w w' := by
  rw [← hl] at h ⊢
  refine (Pq.skeleton ns a d w h (by omega) (Lf.bulk (by omega) hs).1 ht).mono ?_
  rintro e w' ⟨hb, q | q⟩
  · exact ⟨q.2, hb⟩
  · exact absurd q.1 hn
theorem Lf.text {ns : List Nd} (hl : ns.length = 4) (hs : ∀ x ∈ ns, Lf.Small x) (hn : ¬ Sk.May ns) (a : Option Addr) (d : Nat) (w : World) (h : Nd.Lies w (· < w.heap.size) ns (.slice a 4 d)) :
    Calls Tryz.prog 11 #[.slice a 4 d] w fun e w' => e = .returned (.tuple #[.slice none 0 0, .int .i64 800]) ∧ Below w.heap.size w w' := by
  rw [← hl] at h ⊢
  refine (Pq.texts ns a d w h (by omega) (Lf.bulk (by omega) hs).2).mono ?_
  rintro e w' ⟨hb, q | q⟩
  · exact ⟨q.2, hb⟩
  · exact absurd q.1 hn
end Go.Proofs.YtblpkjlodncpeaaGreatDoor
