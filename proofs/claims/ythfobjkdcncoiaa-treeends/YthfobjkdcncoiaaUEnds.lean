/-
  PLAIN: begins and ends of few names: what is open, whose child each begin is; and the walk of stolelaw7.at.
-/
import Derived.Test.YthfobjkdcncoiaaTreeShapes
namespace Go.Proofs.Ythfobjkdcncoiaa
open Go.RowKit
theorem Te.run_snoc : ∀ (ts : List Tk) (m : Bt) (t : Tk), (Bt.run m ts).2 = true → ((Bt.run m ts).1.token t).out.length ≤ 4096 → Bt.run m (ts ++ [t]) = ((Bt.run m ts).1.token t, true)
  | [], m, t, _, h => by
    have h : (m.token t).out.length ≤ 4096 := h
    show (if 4096 < (m.token t).out.length then (m.token t, false) else Bt.run (m.token t) []) = _
    rw [if_neg (by omega)]
    rfl
  | u :: ts, m, t, hr, h => by
    unfold Bt.run at hr h
    split at hr
    · cases hr
    · next q =>
      rw [if_neg q] at h
      show (if 4096 < (m.token u).out.length then (m.token u, false) else Bt.run (m.token u) (ts ++ [t])) = _
      rw [if_neg q, Te.run_snoc ts (m.token u) t hr h]
      have : Bt.run m (u :: ts) = Bt.run (m.token u) ts := by
        show (if 4096 < (m.token u).out.length then (m.token u, false) else Bt.run (m.token u) ts) = _
        rw [if_neg q]
      rw [this]
def Te.beg (n : ByteArray) : Tk := ⟨1, n, ⟨#[]⟩, [], false⟩
def Te.fin (n : ByteArray) : Tk := ⟨2, n, ⟨#[]⟩, [], false⟩
/-- the tree under way, its tokens, those that are open (the root aside), whose child each one is -/
structure Te.Rel (m : Bt) (ts : List Tk) (op wa : List Nat) : Prop where
  opn : m.opn = 0 :: op
  par : m.out.map (·.parent) = (-1) :: wa.map (fun k : Nat => (k : Int))
  tags : Bt.tags ts = wa.length
  nam : ∀ (q : Nat) (x : Nd), 1 ≤ q → m.out[q]? = some x → ∃ (i : Nat) (t : Tk), ts[i]? = some t ∧ t.kind = 1 ∧ Bt.tags (ts.take i) + 1 = q ∧ t.name = x.name
  lt : ∀ k ∈ op, 1 ≤ k ∧ k ≤ wa.length
theorem Te.Rel.start : Te.Rel Bt.start [] [] [] := by
  refine ⟨rfl, rfl, rfl, fun q x hq hx => ?_, fun k hk => by cases hk⟩
  have := (List.getElem?_eq_some_iff.1 hx).1
  simp [Bt.start] at this
  omega
theorem Te.Rel.len {m : Bt} {ts : List Tk} {op wa : List Nat} (h : Te.Rel m ts op wa) : m.out.length = wa.length + 1 := by
  have := congrArg List.length h.par
  simpa using this
theorem Te.Rel.top {m : Bt} {ts : List Tk} {op wa : List Nat} (h : Te.Rel m ts op wa) : m.top = op.getLastD 0 := by
  unfold Bt.top
  rw [h.opn]
  cases op with
  | nil => rfl
  | cons a l => rfl
theorem Te.tags_snoc (ts : List Tk) (t : Tk) : Bt.tags (ts ++ [t]) = Bt.tags ts + (if t.kind = 1 then 1 else 0) := by
  unfold Bt.tags
  rw [List.countP_append]
  by_cases q : t.kind = 1
  · simp [q]
  · simp [q]
/-- what was there keeps its place -/
theorem Te.old {ts : List Tk} {t : Tk} {q : Nat} {n : ByteArray} (h : ∃ (i : Nat) (t : Tk), ts[i]? = some t ∧ t.kind = 1 ∧ Bt.tags (ts.take i) + 1 = q ∧ t.name = n) : ∃ (i : Nat) (u : Tk), (ts ++ [t])[i]? = some u ∧ u.kind = 1 ∧ Bt.tags ((ts ++ [t]).take i) + 1 = q ∧ u.name = n := by
  obtain ⟨i, u, h1, h2, h3, h4⟩ := h
  have hl := (List.getElem?_eq_some_iff.1 h1).1
  exact ⟨i, u, by rw [List.getElem?_append_left hl]; exact h1, h2, by rw [List.take_append_of_le_length (by omega)]; exact h3, h4⟩
theorem Te.Rel.begin {m : Bt} {ts : List Tk} {op wa : List Nat} (h : Te.Rel m ts op wa) (n : ByteArray) : Te.Rel (m.token (Te.beg n)) (ts ++ [Te.beg n]) (if Ts.kind n ≠ 1 ∧ op.length < 32 then op ++ [wa.length + 1] else op) (wa ++ [op.getLastD 0]) := by
  have hlen := h.len
  have htop := h.top
  have hout : (m.token (Te.beg n)).out = m.out ++ [⟨1, n, Ts.e, [], (m.top : Int)⟩] := by
    unfold Bt.token Te.beg
    simp only [show ¬ (1 : Int) = 0 by decide, show ¬ (1 : Int) = 3 by decide, if_false, if_true]
    split <;> rfl
  have hopn : (m.token (Te.beg n)).opn = 0 :: (if Ts.kind n ≠ 1 ∧ op.length < 32 then op ++ [wa.length + 1] else op) := by
    unfold Bt.token Te.beg
    simp only [show ¬ (1 : Int) = 0 by decide, show ¬ (1 : Int) = 3 by decide, if_false, if_true]
    have e : m.opn.length ≤ 32 ↔ op.length < 32 := by rw [h.opn, List.length_cons]; omega
    by_cases q : Ts.kind n ≠ 1 ∧ op.length < 32
    · rw [if_pos q, if_pos ⟨q.1, e.2 q.2⟩]
      show m.opn ++ [m.out.length] = _
      rw [h.opn, hlen]
      rfl
    · rw [if_neg q, if_neg (fun r => q ⟨r.1, e.1 r.2⟩)]
      exact h.opn
  refine ⟨hopn, ?_, ?_, fun q x hq hx => ?_, fun k hk => ?_⟩
  · rw [hout, List.map_append, h.par, List.map_append, htop]
    rfl
  · rw [Te.tags_snoc, h.tags, List.length_append]
    rfl
  · rw [hout] at hx
    by_cases e : q < m.out.length
    · rw [List.getElem?_append_left e] at hx
      exact Te.old (h.nam q x hq hx)
    · have h1 := (List.getElem?_eq_some_iff.1 hx).1
      rw [List.length_append] at h1
      have e' : q = m.out.length := by simp at h1; omega
      subst e'
      rw [List.getElem?_append_right (Nat.le_refl _), Nat.sub_self] at hx
      have hx : x = ⟨1, n, Ts.e, [], (m.top : Int)⟩ := by simpa using hx.symm
      subst hx
      refine ⟨ts.length, Te.beg n, ?_, rfl, ?_, rfl⟩
      · rw [List.getElem?_append_right (Nat.le_refl _), Nat.sub_self]; rfl
      · rw [List.take_append_of_le_length (Nat.le_refl _), List.take_length, h.tags, hlen]
  · rw [List.length_append]
    have one : ∀ k ∈ op, 1 ≤ k ∧ k ≤ wa.length + [op.getLastD 0].length := fun k hk => by have := h.lt k hk; simp; omega
    split at hk
    · rcases List.mem_append.1 hk with r | r
      · exact one k r
      · have := List.mem_singleton.1 r
        simp; omega
    · exact one k hk
theorem Te.token_fin (m : Bt) (n : ByteArray) : m.token (Te.fin n) = if m.find n m.opn.length = 0 then m else { m with opn := m.opn.take (m.find n m.opn.length) } := by
  unfold Bt.token Te.fin
  simp only [show ¬ (2 : Int) = 0 by decide, show ¬ (2 : Int) = 3 by decide, show ¬ (2 : Int) = 1 by decide, if_false, if_true]
theorem Te.Rel.keep {m : Bt} {ts : List Tk} {op wa : List Nat} (h : Te.Rel m ts op wa) (n : ByteArray) (hf : m.find n m.opn.length = 0) : Te.Rel (m.token (Te.fin n)) (ts ++ [Te.fin n]) op wa := by
  rw [Te.token_fin, if_pos hf]
  exact ⟨h.opn, h.par, by rw [Te.tags_snoc, h.tags]; rfl, fun q x hq hx => Te.old (h.nam q x hq hx), h.lt⟩
theorem Te.Rel.cut {m : Bt} {ts : List Tk} {op wa : List Nat} (h : Te.Rel m ts op wa) (n : ByteArray) (j : Nat) (hf : m.find n m.opn.length = j + 1) : Te.Rel (m.token (Te.fin n)) (ts ++ [Te.fin n]) (op.take j) wa := by
  rw [Te.token_fin, if_neg (by omega), hf]
  refine ⟨?_, h.par, by rw [Te.tags_snoc, h.tags]; rfl, fun q x hq hx => Te.old (h.nam q x hq hx), fun k hk => h.lt k (List.mem_of_mem_take hk)⟩
  show m.opn.take (j + 1) = _
  rw [h.opn]
  rfl
/-- the search, a step -/
theorem Te.Rel.step {m : Bt} {ts : List Tk} {op wa : List Nat} (h : Te.Rel m ts op wa) (n : ByteArray) {j k : Nat} (hj : op[j]? = some k) : ∃ (i : Nat) (t : Tk), ts[i]? = some t ∧ t.kind = 1 ∧ Bt.tags (ts.take i) + 1 = k ∧ m.find n (j + 2) = if t.name = n then j + 1 else m.find n (j + 1) := by
  have hk := h.lt k (List.mem_of_getElem? hj)
  obtain ⟨x, hx⟩ : ∃ x, m.out[k]? = some x := ⟨_, List.getElem?_eq_getElem (by rw [h.len]; omega)⟩
  obtain ⟨i, t, h1, h2, h3, h4⟩ := h.nam k x hk.1 hx
  refine ⟨i, t, h1, h2, h3, ?_⟩
  show (if j + 1 = 0 then 0 else if (m.nth (m.opn.getD (j + 1) 0)).name = n then j + 1 else m.find n (j + 1)) = _
  have e : m.opn.getD (j + 1) 0 = k := by rw [h.opn, List.getD_eq_getElem?_getD, List.getElem?_cons_succ, hj]; rfl
  have e2 : m.nth k = x := by unfold Bt.nth; rw [hx]; rfl
  rw [if_neg (by omega), e, e2, h4]
theorem Te.find_one (m : Bt) (n : ByteArray) : m.find n 1 = 0 := rfl
end Go.Proofs.Ythfobjkdcncoiaa
