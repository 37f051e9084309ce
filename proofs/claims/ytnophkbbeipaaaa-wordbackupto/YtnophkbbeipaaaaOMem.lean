/-
  WORDS IN MEMORY: a row that lies somewhere; a row of one's own that grows.
-/
import Derived.Test.YtnophkbbeipaaaaOPath
namespace Go.Proofs.Ytnophkbbeipaaaa
open Go.RowKit
theorem Wm.info : (Try.prog.info? 37).map (fun i => (i.zero, i.size, i.bytes)) = some (some (.agg #[.int .i64 0, .string ⟨#[]⟩, .slice none 0 0, .int .i64 0]), 4, 56) := by kernel_rfl
def Wo.four (x : Wo) (pv : Value) : List Value := [.int .i64 (x.kind : Int), .string ⟨x.text.toArray⟩, pv, .int .i64 x.num]
/-- words lie in blocks of R -/
def Wo.Lies (w : World) (R : Nat → Prop) (ws : List Wo) (v : Value) : Prop :=
  ∃ a d, v = .slice a ws.length d ∧ ws.length ≤ d ∧ d ≤ maxLen ∧ ∀ i x, ws[i]? = some x → ∃ b o pv, a = some ⟨b, o, none⟩ ∧ R b ∧ w.cell? ⟨b, o + i * 4, none⟩ = some (.int .i64 (x.kind : Int)) ∧ w.cell? ⟨b, o + i * 4 + 1, none⟩ = some (.string ⟨x.text.toArray⟩) ∧ w.cell? ⟨b, o + i * 4 + 2, none⟩ = some pv ∧ w.cell? ⟨b, o + i * 4 + 3, none⟩ = some (.int .i64 x.num) ∧ St.Lies w R x.path pv
theorem Wo.Lies.on {w w' : World} {R R' : Nat → Prop} {ws : List Wo} {v : Value} (h : Wo.Lies w R ws v) (hR : ∀ k, R k → R' k ∧ w'.heap[k]? = w.heap[k]?) : Wo.Lies w' R' ws v := by
  obtain ⟨a, d, e, h1, h2, hx⟩ := h
  refine ⟨a, d, e, h1, h2, fun i t hi => ?_⟩
  obtain ⟨b, o, pv, ea, hb, c0, c1, c2, c3, hl⟩ := hx i t hi
  obtain ⟨hb', hw⟩ := hR b hb
  exact ⟨b, o, pv, ea, hb', (World.cell?_of_block (a := ⟨b, o + i * 4, none⟩) hw).trans c0, (World.cell?_of_block (a := ⟨b, o + i * 4 + 1, none⟩) hw).trans c1, (World.cell?_of_block (a := ⟨b, o + i * 4 + 2, none⟩) hw).trans c2, (World.cell?_of_block (a := ⟨b, o + i * 4 + 3, none⟩) hw).trans c3, hl.on hR⟩
theorem Wo.Lies.nil (w : World) (R : Nat → Prop) : Wo.Lies w R [] (.slice none 0 0) := ⟨none, 0, rfl, Nat.le_refl _, Nat.zero_le _, fun j x h => by simp at h⟩
/-- the i-th four cells are this word's -/
def Wo.Has (xs : List Value) (i : Nat) (x : Wo) (pv : Value) : Prop := ∀ r u, (Wo.four x pv)[r]? = some u → xs[i * 4 + r]? = some u
theorem Wo.four_lt {x : Wo} {pv u : Value} {r : Nat} (h : (Wo.four x pv)[r]? = some u) : r < 4 := (List.getElem?_eq_some_iff.1 h).1
/-- words in a row that grows; what their paths lie in is none of the row's block, nor block g -/
def Wo.Row (base g : Nat) (ws : List Wo) (w : World) (v : Value) : Prop :=
  ∃ xs, w.ownsRow base 37 4 v ws.length xs ∧ ∀ i x, ws[i]? = some x → ∃ pv, Wo.Has xs i x pv ∧ St.Lies w (fun k => base ≤ k ∧ k < w.heap.size ∧ v.ownBlock ≠ some k ∧ k ≠ g ∧ Rm.Ub w k) x.path pv
theorem Wo.Row.nil (base g : Nat) (w : World) : Wo.Row base g [] w (.slice none 0 0) := ⟨[], World.ownsRow_nil _ _ _ _, fun i x h => by simp at h⟩
theorem Wo.Row.form {base g : Nat} {ws : List Wo} {w : World} {v : Value} (h : Wo.Row base g ws w v) : ∃ a d, v = .slice a ws.length d := by
  obtain ⟨xs, ho, _⟩ := h
  rcases ho.2 with ⟨rfl, h0⟩ | ⟨gg, cap, cur, rfl, _⟩
  · exact ⟨none, 0, by rw [h0]⟩
  · exact ⟨_, _, rfl⟩
/-- what has turned at most is block g, none of the row's -/
theorem Wo.Row.on {base g : Nat} {ws : List Wo} {w w' : World} {v : Value} (h : Wo.Row base g ws w v) (hv : v.ownBlock ≠ some g) (hk : Cu.Kept w w' g) : Wo.Row base g ws w' v := by
  obtain ⟨xs, ho, hx⟩ := h
  refine ⟨xs, Rm.own_on ho (fun k hk' => hk.block k (ho.lt k hk').2 (fun e => hv (by rw [hk', e]))), fun i t hi => ?_⟩
  obtain ⟨pv, h0, hl⟩ := hx i t hi
  refine ⟨pv, h0, hl.on fun k hb => ?_⟩
  have e := hk.block k hb.2.1 hb.2.2.2.1
  exact ⟨⟨hb.1, Nat.lt_of_lt_of_le hb.2.1 hk.size, hb.2.2.1, hb.2.2.2.1, hb.2.2.2.2.on e⟩, e⟩
/-- a word more -/
theorem Wo.Row.push {base g : Nat} {ws : List Wo} {w w2 : World} {v v' pv : Value} {x : Wo} {ob : Obj} (h : Wo.Row base g ws w v) (hv : v.ownBlock ≠ some g) (hgw : g < w.heap.size) (hat : St.Lies w (fun k => base ≤ k ∧ k < w.heap.size ∧ v.ownBlock ≠ some k ∧ k ≠ g ∧ Rm.Ub w k) x.path pv)
    (hown : ∀ xs, w.ownsRow base 37 4 v ws.length xs → w2.ownsRow base 37 4 v' (ws.length + 1) (xs ++ Wo.four x pv))
    (hg : (w.alloc ob).grownBy w2 v.ownBlock) (hf : v'.ownBlock = v.ownBlock ∨ v'.ownBlock = some (w.heap.size + 1)) : Wo.Row base g (ws ++ [x]) w2 v' ∧ v'.ownBlock ≠ some g := by
  obtain ⟨xs, ho, hx⟩ := h
  have hl : xs.length = ws.length * 4 := ho.1
  have hsz : w.heap.size ≤ w2.heap.size := by have := hg.size; simp at this; omega
  have hold : ∀ k, k < w.heap.size → v.ownBlock ≠ some k → v'.ownBlock ≠ some k ∧ w2.heap[k]? = w.heap[k]? := fun k hk hne => ⟨(fun e => by
    rcases hf with q | q
    · rw [q] at e; exact hne e
    · rw [q] at e; have := Option.some.inj e; omega), (hg.block k (by simp; omega) (fun e => hne e.symm)).trans (Below.heap_alloc _ _ _ hk)⟩
  refine ⟨⟨xs ++ Wo.four x pv, by rw [List.length_append]; exact hown xs ho, fun i u hi => ?_⟩, (hold g hgw hv).1⟩
  by_cases hlt : i < ws.length
  · rw [List.getElem?_append_left hlt] at hi
    obtain ⟨pv1, x0, hl1⟩ := hx i u hi
    refine ⟨pv1, fun r q hr => ?_, hl1.on fun k hk => ?_⟩
    · have := Wo.four_lt hr
      rw [List.getElem?_append_left (by omega)]
      exact x0 r q hr
    · obtain ⟨q1, q2⟩ := hold k hk.2.1 hk.2.2.1
      exact ⟨⟨hk.1, by omega, q1, hk.2.2.2.1, hk.2.2.2.2.on q2⟩, q2⟩
  · have hi' : i = ws.length := by
      have := (List.getElem?_eq_some_iff.1 hi).1
      simp at this
      omega
    subst hi'
    have hu : u = x := by simpa using hi.symm
    subst hu
    refine ⟨pv, fun r q hr => ?_, hat.on fun k hk => ?_⟩
    · rw [List.getElem?_append_right (by omega), hl, Nat.add_sub_cancel_left]
      exact hr
    · obtain ⟨q1, q2⟩ := hold k hk.2.1 hk.2.2.1
      exact ⟨⟨hk.1, by omega, q1, hk.2.2.2.1, hk.2.2.2.2.on q2⟩, q2⟩
theorem Wo.Row.lies {base g : Nat} {ws : List Wo} {w : World} {v : Value} (h : Wo.Row base g ws w v) : Wo.Lies w (fun k => base ≤ k ∧ k < w.heap.size ∧ Rm.Ub w k) ws v := by
  obtain ⟨xs, ho, hx⟩ := h
  have hc := fun g hg => ho.cells (g := g) hg
  have hlt := ho.lt
  have hub : ∀ k, v.ownBlock = some k → Rm.Ub w k := fun k hk => Rm.Ub.own ho hk
  rcases ho.2 with ⟨rfl, hn⟩ | ⟨b, cap, cur, rfl, hbg, hg, hnc, hcm, hcs, htake⟩
  · have : ws = [] := List.eq_nil_of_length_eq_zero hn
    subst this
    exact Wo.Lies.nil _ _
  · refine ⟨some ⟨b, 0, none⟩, cap, rfl, hnc, hcm, fun i t hi => ?_⟩
    obtain ⟨pv, h0, hl⟩ := hx i t hi
    have c0 := hc b rfl _ _ (h0 0 _ rfl)
    have c1 := hc b rfl _ _ (h0 1 _ rfl)
    have c2 := hc b rfl _ _ (h0 2 _ rfl)
    have c3 := hc b rfl _ _ (h0 3 _ rfl)
    rw [Ro.add] at c0 c1 c2 c3
    exact ⟨b, 0, pv, rfl, ⟨(hlt b rfl).1, (hlt b rfl).2, hub b rfl⟩, c0, by rw [Nat.add_assoc]; exact c1, by rw [Nat.add_assoc]; exact c2, by rw [Nat.add_assoc]; exact c3, hl.on fun k hk => ⟨⟨hk.1, hk.2.1, hk.2.2.2.2⟩, rfl⟩⟩
theorem Wm.own_unique {w : World} {base : Nat} {e : TypeId} {size n : Nat} {v : Value} {xs ys : List Value} (h1 : w.ownsRow base e size v n xs) (h2 : w.ownsRow base e size v n ys) : xs = ys := by
  rcases h1.2 with ⟨rfl, rfl⟩ | ⟨g, cap, cur, rfl, _, hg, _, _, _, ht⟩
  · have e1 : xs = [] := List.eq_nil_of_length_eq_zero (by rw [h1.1, Nat.zero_mul])
    have e2 : ys = [] := List.eq_nil_of_length_eq_zero (by rw [h2.1, Nat.zero_mul])
    rw [e1, e2]
  · rcases h2.2 with ⟨q, _⟩ | ⟨g2, cap2, cur2, q, _, hg2, _, _, _, ht2⟩
    · cases q
    · injection q with q1 q2 q3
      injection q1 with q1
      injection q1 with q1
      subst q1
      rw [hg] at hg2
      injection hg2 with hg2
      injection hg2 with hg2
      subst hg2
      rw [← ht, ← ht2]
theorem Wo.cell4 (W : World) (x : Wo) (pv : Value) : ∀ (j : Nat) (u : Value), (Wo.four x pv)[j]? = some u → (W.alloc (.cells #[.int .i64 (x.kind : Int), .string ⟨x.text.toArray⟩, pv, .int .i64 x.num] 37)).cell? ⟨W.heap.size, j, none⟩ = some u := by
  intro j u hj
  unfold World.cell?
  rw [show (W.alloc (.cells #[.int .i64 (x.kind : Int), .string ⟨x.text.toArray⟩, pv, .int .i64 x.num] 37)).heap[W.heap.size]? = some _ from heap_alloc_new W _]
  simpa [Wo.four] using hj
theorem Wo.ones (x : Wo) (a : Option Addr) (n d : Nat) : ∀ u ∈ Wo.four x (.slice a n d), u.oneCell' = true := by
  intro u hu
  simp only [Wo.four, List.mem_cons, List.not_mem_nil, or_false] at hu
  rcases hu with rfl | rfl | rfl | rfl <;> rfl
end Go.Proofs.Ytnophkbbeipaaaa
