/-
  PLAIN: what is answered for words is small.
-/
import Derived.Test.YtjmobhohfcieoaaIHeld
namespace Go.Proofs.Ytjmobhohfcieoaa
theorem Pi.path_few {p : List (List UInt8)} (h : Pi.path p = true) : p.length ≤ 8 ∧ ∀ t ∈ p, t.length ≤ 32 := by
  unfold Pi.path at h
  simp only [Bool.and_eq_true, List.all_eq_true, decide_eq_true_eq] at h
  refine ⟨h.2, fun t ht => ?_⟩
  have := h.1 t ht
  unfold Pi.name at this
  simp only [Bool.and_eq_true, decide_eq_true_eq] at this
  exact this.2.2
/-- an argument of a word: its path, its texts -/
theorem Pi.arg_few {x : Wi} (hx : x.text.length ≤ 1048576) (h : (Pi.arg x).2 = true) : (Pi.arg x).1.path.length ≤ 8 ∧ (∀ t ∈ (Pi.arg x).1.path, t.length ≤ 32) ∧ (Pi.arg x).1.name.length ≤ 1048576 ∧ (Pi.arg x).1.text.length ≤ 1048576 := by
  have nil : (([] : List (List UInt8)).length ≤ 8 ∧ (∀ t ∈ ([] : List (List UInt8)), t.length ≤ 32)) := ⟨by decide, fun t ht => by cases ht⟩
  unfold Pi.arg at h ⊢
  split at h
  · rename_i hk
    rw [if_pos hk]
    simp only [Bool.and_eq_true] at h
    have := Pi.path_few h.2.2
    exact ⟨this.1, this.2, Nat.zero_le _, Nat.zero_le _⟩
  · rename_i hk
    rw [if_neg hk]
    split at h
    · rename_i hk
      rw [if_pos hk]
      simp only [Bool.and_eq_true] at h
      have := Pi.path_few h.2.2
      exact ⟨this.1, this.2, hx, Nat.zero_le _⟩
    · rename_i hk
      rw [if_neg hk]
      repeat' split
      all_goals first | exact ⟨nil.1, nil.2, Nat.zero_le _, Nat.zero_le _⟩ | exact ⟨nil.1, nil.2, Nat.zero_le _, hx⟩
/-- an argument that is answered -/
def Ar.Few (a : Ar) : Prop := a.path.length ≤ 8 ∧ (∀ t ∈ a.path, t.length ≤ 32) ∧ a.name.length ≤ 1048576 ∧ a.text.length ≤ 1048576
theorem Pi.args_few : ∀ (ws : List Wi) (out r : List Ar), (∀ x ∈ ws, x.text.length ≤ 1048576) → (∀ a ∈ out, a.Few) → Pi.args ws out = some r → ∀ a ∈ r, a.Few := by
  intro ws
  induction ws with
  | nil =>
    intro out r _ ho h
    have h := Option.some.inj h
    subst h
    exact ho
  | cons x ws ih =>
    intro out r hx ho h
    unfold Pi.args at h
    split at h
    · rename_i hk
      refine ih _ _ (fun y hy => hx y (List.mem_cons_of_mem _ hy)) (fun a ha => ?_) h
      rcases List.mem_append.1 ha with ha | ha
      · exact ho a ha
      · rw [List.mem_singleton.1 ha]
        exact Pi.arg_few (hx x (List.mem_cons_self ..)) hk
    · cases h
theorem Pi.fn_few {t : List UInt8} (h : Pi.isFn t = true) : t.length ≤ 32 := by
  unfold Pi.isFn Pi.fns at h
  simp only [List.contains_cons, List.contains_nil, Bool.or_eq_true, beq_iff_eq, Bool.or_false] at h
  rcases h with h | h | h | h | h | h | h | h
  all_goals
    rw [h]
    decide
theorem Pi.command_few {ws : List Wi} {first : Bool} {c : Cm} (hx : ∀ x ∈ ws, x.text.length ≤ 1048576) (h : Pi.command ws first = some c) : c.fn.length ≤ 32 ∧ ∀ a ∈ c.args, a.Few := by
  cases ws with
  | nil => cases h
  | cons y l =>
    by_cases hk : y.kind = 0 ∧ Pi.isFn y.text = true
    · rw [Pi.commandA hk] at h
      split at h
      · cases h
      · cases hr : Pi.args ((y :: l).drop 1) [] with
        | none => rw [hr] at h; cases h
        | some r =>
          rw [hr] at h
          have h := Option.some.inj h
          subst h
          exact ⟨Pi.fn_few hk.2, Pi.args_few _ _ _ (fun x hx' => hx x (List.mem_of_mem_drop hx')) (fun a ha => by cases ha) hr⟩
    · rw [Pi.commandB hk] at h
      cases hr : Pi.args ((y :: l).drop 0) [] with
      | none => rw [hr] at h; cases h
      | some r =>
        rw [hr] at h
        unfold Pi.resB at h
        simp only at h
        split at h
        · have h := Option.some.inj h
          subst h
          exact ⟨Nat.zero_le _, Pi.args_few _ _ _ (fun x hx' => hx x (List.mem_of_mem_drop hx')) (fun a ha => by cases ha) hr⟩
        · cases h
theorem Pi.go_few : ∀ (ws cur : List Wi) (out r : List Cm), (∀ x ∈ ws, x.text.length ≤ 1048576) → (∀ x ∈ cur, x.text.length ≤ 1048576) → (∀ c ∈ out, c.fn.length ≤ 32 ∧ ∀ a ∈ c.args, a.Few) → Pi.go ws cur out = some r → ∀ c ∈ r, c.fn.length ≤ 32 ∧ ∀ a ∈ c.args, a.Few := by
  intro ws
  have snoc : ∀ (out : List Cm) (c : Cm), (∀ c ∈ out, c.fn.length ≤ 32 ∧ ∀ a ∈ c.args, a.Few) → (c.fn.length ≤ 32 ∧ ∀ a ∈ c.args, a.Few) → ∀ q ∈ out ++ [c], q.fn.length ≤ 32 ∧ ∀ a ∈ q.args, a.Few := fun out c ho hc q hq => by
    rcases List.mem_append.1 hq with hq | hq
    · exact ho q hq
    · rw [List.mem_singleton.1 hq]; exact hc
  induction ws with
  | nil =>
    intro cur out r _ hc ho h
    unfold Pi.go at h
    cases hk : Pi.command cur out.isEmpty with
    | none => rw [hk] at h; cases h
    | some c =>
      rw [hk] at h
      have h := Option.some.inj h
      subst h
      exact snoc out c ho (Pi.command_few hc hk)
  | cons x ws ih =>
    intro cur out r hx hc ho h
    have hx' := fun y hy => hx y (List.mem_cons_of_mem _ hy)
    unfold Pi.go at h
    split at h
    · cases hk : Pi.command cur out.isEmpty with
      | none => rw [hk] at h; cases h
      | some c =>
        rw [hk] at h
        exact ih _ _ _ hx' (fun y hy => by cases hy) (snoc out c ho (Pi.command_few hc hk)) h
    · refine ih _ _ _ hx' (fun y hy => ?_) ho h
      rcases List.mem_append.1 hy with hy | hy
      · exact hc y hy
      · rw [List.mem_singleton.1 hy]; exact hx x (List.mem_cons_self ..)
/-- what is answered: few of everything -/
theorem Pi.parse_few {ws : List Wi} (h : Wi.Fits ws) : Cm.Few (Pi.parse ws).1 32 ∧ Cm.Held (Pi.parse ws).1 := by
  rw [Pi.parse_fin]
  have nil : Cm.Few [] 32 ∧ Cm.Held [] := ⟨⟨by decide, fun c hc => by cases hc⟩, ⟨by decide, fun c hc => by cases hc⟩⟩
  cases hg : Pi.go ws [] [] with
  | none => exact nil
  | some cs =>
    have hf := Pi.go_few ws [] [] cs (fun x hx => (h.2 x hx).1) (fun x hx => by cases hx) (fun c hc => by cases hc) hg
    unfold Pi.fin
    simp only
    split
    · exact nil
    · rename_i hk
      have hm : Cm.many cs = false := by
        cases q : Cm.many cs with
        | true => exact absurd (Or.inl q) hk
        | false => rfl
      have hl : cs.length ≤ 8 := by
        by_cases q : 8 < cs.length
        · exact absurd (Or.inr q) hk
        · omega
      have ha : ∀ c ∈ cs, c.args.length ≤ 8 := fun c hc => by
        unfold Cm.many at hm
        have := List.any_eq_false.1 hm c hc
        simpa using this
      refine ⟨⟨hl, fun c hc => ⟨(hf c hc).1, ha c hc, fun x hx => ⟨((hf c hc).2 x hx).1, ((hf c hc).2 x hx).2.1⟩⟩⟩, ⟨by show cs.length ≤ _; omega, fun c hc => ⟨by have := (hf c hc).1; omega, by have := ha c hc; omega, fun x hx => ?_⟩⟩⟩
      obtain ⟨q1, q2, q3, q4⟩ := (hf c hc).2 x hx
      exact ⟨q3, q4, by omega, fun t ht => by have := q2 t ht; omega⟩
end Go.Proofs.Ytjmobhohfcieoaa
