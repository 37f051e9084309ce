/-
  NODES IN MEMORY: a row that lies somewhere; a row of one's own that grows.
-/
import Derived.Test.YthfobjkdcncoiaaUPlain
import Derived.Test.YthfobjkdcncoiaaTMem
import Derived.Test.YthfobjkdcncoiaaTKit
namespace Go.Proofs.Ythfobjkdcncoiaa
open Go.RowKit
def Nd.five (x : Nd) (av : Value) : List Value := [.int .i64 x.kind, .string x.name, .string x.text, av, .int .i64 x.parent]
theorem Um.infoN : (Try.prog.info? 38).map (fun i => (i.zero, i.size, i.bytes)) = some (some (.agg #[.int .i64 0, .string ⟨#[]⟩, .string ⟨#[]⟩, .slice none 0 0, .int .i64 0]), 5, 72) := by kernel_rfl
theorem Um.infoI : (Try.prog.info? 3).map (fun i => (i.zero, i.size, i.bytes)) = some (some (.int .i64 0), 1, 8) := by kernel_rfl
/-- nodes lie in blocks of R -/
def Nd.Lies (w : World) (R : Nat → Prop) (ns : List Nd) (v : Value) : Prop :=
  ∃ a d, v = .slice a ns.length d ∧ ns.length ≤ d ∧ d ≤ maxLen ∧ ∀ i x, ns[i]? = some x → ∃ b o av, a = some ⟨b, o, none⟩ ∧ R b ∧ w.cell? ⟨b, o + i * 5, none⟩ = some (.int .i64 x.kind) ∧ w.cell? ⟨b, o + i * 5 + 1, none⟩ = some (.string x.name) ∧ w.cell? ⟨b, o + i * 5 + 2, none⟩ = some (.string x.text) ∧ w.cell? ⟨b, o + i * 5 + 3, none⟩ = some av ∧ w.cell? ⟨b, o + i * 5 + 4, none⟩ = some (.int .i64 x.parent) ∧ Ak.Lies w R x.attrs av
theorem Nd.Lies.on {w w' : World} {R R' : Nat → Prop} {ns : List Nd} {v : Value} (h : Nd.Lies w R ns v) (hR : ∀ k, R k → R' k ∧ w'.heap[k]? = w.heap[k]?) : Nd.Lies w' R' ns v := by
  obtain ⟨a, d, e, h1, h2, hx⟩ := h
  refine ⟨a, d, e, h1, h2, fun i t hi => ?_⟩
  obtain ⟨b, o, av, ea, hb, c0, c1, c2, c3, c4, hl⟩ := hx i t hi
  obtain ⟨hb', hw⟩ := hR b hb
  exact ⟨b, o, av, ea, hb', (World.cell?_of_block (a := ⟨b, o + i * 5, none⟩) hw).trans c0, (World.cell?_of_block (a := ⟨b, o + i * 5 + 1, none⟩) hw).trans c1, (World.cell?_of_block (a := ⟨b, o + i * 5 + 2, none⟩) hw).trans c2, (World.cell?_of_block (a := ⟨b, o + i * 5 + 3, none⟩) hw).trans c3, (World.cell?_of_block (a := ⟨b, o + i * 5 + 4, none⟩) hw).trans c4, hl.on hR⟩
/-- the i-th five cells are this node's -/
def Nd.Has (xs : List Value) (i : Nat) (x : Nd) (av : Value) : Prop := ∀ r u, (Nd.five x av)[r]? = some u → xs[i * 5 + r]? = some u
theorem Nd.five_lt {x : Nd} {av u : Value} {r : Nat} (h : (Nd.five x av)[r]? = some u) : r < 5 := (List.getElem?_eq_some_iff.1 h).1
/-- nodes in a row that grows; what their attributes lie in is none of the row's block nor of a block of 'no' -/
def Um.Row (base : Nat) (ns : List Nd) (w : World) (v : Value) (no : Nat → Prop) : Prop :=
  ∃ xs, w.ownsRow base 38 5 v ns.length xs ∧ ∀ i x, ns[i]? = some x → ∃ av, Nd.Has xs i x av ∧ Ak.Lies w (fun k => base ≤ k ∧ k < w.heap.size ∧ v.ownBlock ≠ some k ∧ ¬ no k ∧ Rm.Ub w k) x.attrs av
theorem Um.Row.on {base : Nat} {ns : List Nd} {w w' : World} {v : Value} {no no' : Nat → Prop} (h : Um.Row base ns w v no) (hs : w.heap.size ≤ w'.heap.size) (hb : ∀ k, v.ownBlock = some k → w'.heap[k]? = w.heap[k]?) (hw : ∀ k, base ≤ k → k < w.heap.size → v.ownBlock ≠ some k → ¬ no k → ¬ no' k ∧ w'.heap[k]? = w.heap[k]?) : Um.Row base ns w' v no' := by
  obtain ⟨xs, ho, hx⟩ := h
  refine ⟨xs, Rm.own_on ho hb, fun i t hi => ?_⟩
  obtain ⟨av, h0, hl⟩ := hx i t hi
  refine ⟨av, h0, hl.on fun k hk => ?_⟩
  obtain ⟨h1, h2⟩ := hw k hk.1 hk.2.1 hk.2.2.1 hk.2.2.2.1
  exact ⟨⟨hk.1, Nat.lt_of_lt_of_le hk.2.1 hs, hk.2.2.1, h1, hk.2.2.2.2.on h2⟩, h2⟩
theorem Um.Row.push {base : Nat} {ns : List Nd} {w w2 : World} {v v' av : Value} {no no' : Nat → Prop} {x : Nd} (xs : List Value) (ho : w.ownsRow base 38 5 v ns.length xs)
    (hx : ∀ i x, ns[i]? = some x → ∃ av, Nd.Has xs i x av ∧ Ak.Lies w (fun k => base ≤ k ∧ k < w.heap.size ∧ v.ownBlock ≠ some k ∧ ¬ no k ∧ Rm.Ub w k) x.attrs av)
    (hs : w.heap.size ≤ w2.heap.size) (hown : w2.ownsRow base 38 5 v' (ns.length + 1) (xs ++ Nd.five x av))
    (hat : Ak.Lies w2 (fun k => base ≤ k ∧ k < w2.heap.size ∧ v'.ownBlock ≠ some k ∧ ¬ no' k ∧ Rm.Ub w2 k) x.attrs av)
    (hw : ∀ k, base ≤ k → k < w.heap.size → v.ownBlock ≠ some k → ¬ no k → (v'.ownBlock ≠ some k ∧ ¬ no' k) ∧ w2.heap[k]? = w.heap[k]?) : Um.Row base (ns ++ [x]) w2 v' no' := by
  have hl : xs.length = ns.length * 5 := ho.1
  refine ⟨xs ++ Nd.five x av, by rw [List.length_append]; exact hown, fun i u hi => ?_⟩
  by_cases hlt : i < ns.length
  · rw [List.getElem?_append_left hlt] at hi
    obtain ⟨av1, x0, hl1⟩ := hx i u hi
    refine ⟨av1, fun r q hr => ?_, hl1.on fun k hk => ?_⟩
    · have := Nd.five_lt hr
      rw [List.getElem?_append_left (by omega)]
      exact x0 r q hr
    · obtain ⟨h1, h2⟩ := hw k hk.1 hk.2.1 hk.2.2.1 hk.2.2.2.1
      exact ⟨⟨hk.1, by omega, h1.1, h1.2, hk.2.2.2.2.on h2⟩, h2⟩
  · have hi' : i = ns.length := by
      have := (List.getElem?_eq_some_iff.1 hi).1
      simp at this
      omega
    subst hi'
    have hu : u = x := by simpa using hi.symm
    subst hu
    refine ⟨av, fun r q hr => ?_, hat⟩
    rw [List.getElem?_append_right (by omega), hl, Nat.add_sub_cancel_left]
    exact hr
theorem Um.Row.lies {base : Nat} {ns : List Nd} {w : World} {v : Value} {no : Nat → Prop} (h : Um.Row base ns w v no) : Nd.Lies w (fun k => base ≤ k ∧ k < w.heap.size ∧ Rm.Ub w k) ns v := by
  obtain ⟨xs, ho, hx⟩ := h
  have hc := fun g hg => ho.cells (g := g) hg
  have hlt := ho.lt
  have hub : ∀ k, v.ownBlock = some k → Rm.Ub w k := fun k hk => Rm.Ub.own ho hk
  rcases ho.2 with ⟨rfl, hn⟩ | ⟨g, cap, cur, rfl, hbg, hg, hnc, hcm, hcs, htake⟩
  · have : ns = [] := List.eq_nil_of_length_eq_zero hn
    subst this
    exact ⟨none, 0, rfl, Nat.le_refl _, Nat.zero_le _, fun j x h => by simp at h⟩
  · refine ⟨some ⟨g, 0, none⟩, cap, rfl, hnc, hcm, fun i t hi => ?_⟩
    obtain ⟨av, h0, hl⟩ := hx i t hi
    have c0 := hc g rfl _ _ (h0 0 _ rfl)
    have c1 := hc g rfl _ _ (h0 1 _ rfl)
    have c2 := hc g rfl _ _ (h0 2 _ rfl)
    have c3 := hc g rfl _ _ (h0 3 _ rfl)
    have c4 := hc g rfl _ _ (h0 4 _ rfl)
    rw [Ro.add] at c0 c1 c2 c3 c4
    exact ⟨g, 0, av, rfl, ⟨(hlt g rfl).1, (hlt g rfl).2, hub g rfl⟩, c0, by rw [Nat.add_assoc]; exact c1, by rw [Nat.add_assoc]; exact c2, by rw [Nat.add_assoc]; exact c3, by rw [Nat.add_assoc]; exact c4, hl.on fun k hk => ⟨⟨hk.1, hk.2.1, hk.2.2.2.2⟩, rfl⟩⟩
/-- a node of the row, by its cells -/
theorem Um.Row.cell {base : Nat} {ns : List Nd} {w : World} {g n cap : Nat} {no : Nat → Prop} (h : Um.Row base ns w (.slice (some ⟨g, 0, none⟩) n cap) no) {i : Nat} {x : Nd} (hi : ns[i]? = some x) : ∃ av, (∀ r u, (Nd.five x av)[r]? = some u → w.cell? ⟨g, i * 5 + r, none⟩ = some u) := by
  obtain ⟨xs, ho, hx⟩ := h
  obtain ⟨av, h0, hl⟩ := hx i x hi
  refine ⟨av, fun r u hr => ?_⟩
  have := ho.cells (g := g) rfl _ _ (h0 r u hr)
  rw [Ro.add, Nat.zero_add] at this
  exact this
/-- another text in a node of the row -/
theorem Um.Row.put {base : Nat} {ns : List Nd} {w : World} {g cap : Nat} {no : Nat → Prop} (h : Um.Row base ns w (.slice (some ⟨g, 0, none⟩) ns.length cap) no) {i : Nat} {x : Nd} (hi : ns[i]? = some x) (y : ByteArray) : Um.Row base (ns.set i { x with text := y }) (w.setCell ⟨g, i * 5 + 2, none⟩ (.string y)) (.slice (some ⟨g, 0, none⟩) ns.length cap) no := by
  obtain ⟨xs, ho, hx⟩ := h
  have hlen := ho.1
  have hil : i < ns.length := (List.getElem?_eq_some_iff.1 hi).1
  refine ⟨xs.set (i * 5 + 2) (.string y), by rw [List.length_set]; exact (ho.stored (i * 5 + 2) (.string y)).1, fun j z hj => ?_⟩
  have hkeep : ∀ (al : List (ByteArray × ByteArray)) (av : Value), Ak.Lies w (fun k => base ≤ k ∧ k < w.heap.size ∧ (Value.slice (some ⟨g, 0, none⟩) ns.length cap).ownBlock ≠ some k ∧ ¬ no k ∧ Rm.Ub w k) al av → Ak.Lies (w.setCell ⟨g, i * 5 + 2, none⟩ (.string y)) (fun k => base ≤ k ∧ k < (w.setCell ⟨g, i * 5 + 2, none⟩ (.string y)).heap.size ∧ (Value.slice (some ⟨g, 0, none⟩) ns.length cap).ownBlock ≠ some k ∧ ¬ no k ∧ Rm.Ub (w.setCell ⟨g, i * 5 + 2, none⟩ (.string y)) k) al av := fun al av hl => hl.on fun k hk => by
    have hne : k ≠ g := fun e => hk.2.2.1 (by rw [e]; rfl)
    have hb : (w.setCell ⟨g, i * 5 + 2, none⟩ (.string y)).heap[k]? = w.heap[k]? := Below.heap_setCell _ _ _ _ hne
    exact ⟨⟨hk.1, by simpa using hk.2.1, hk.2.2.1, hk.2.2.2.1, hk.2.2.2.2.on hb⟩, hb⟩
  by_cases e : i = j
  · subst e
    rw [List.getElem?_set_self hil] at hj
    injection hj with hj
    subst hj
    obtain ⟨av, h0, hl⟩ := hx i x hi
    refine ⟨av, fun r u hr => ?_, hkeep _ _ hl⟩
    have hr5 := Nd.five_lt hr
    by_cases e2 : r = 2
    · subst e2
      have hu : u = .string y := by simpa [Nd.five] using hr.symm
      rw [List.getElem?_set_self (by omega), hu]
    · rw [List.getElem?_set_ne (by omega)]
      refine h0 r u ?_
      have : r = 0 ∨ r = 1 ∨ r = 3 ∨ r = 4 := by omega
      rcases this with rfl | rfl | rfl | rfl <;> exact hr
  · rw [List.getElem?_set_ne e] at hj
    obtain ⟨av, h0, hl⟩ := hx j z hj
    refine ⟨av, fun r u hr => ?_, hkeep _ _ hl⟩
    have hr5 := Nd.five_lt hr
    rw [List.getElem?_set_ne (by omega)]
    exact h0 r u hr
end Go.Proofs.Ythfobjkdcncoiaa
