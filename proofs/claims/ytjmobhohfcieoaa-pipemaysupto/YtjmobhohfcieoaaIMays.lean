/-
  PLAIN: what is answered for words may be; with a bad command more it may not.
-/
import Derived.Test.YtjmobhohfcieoaaIFew
namespace Go.Proofs.Ytjmobhohfcieoaa
theorem Pi.arg_may {x : Wi} (h : (Pi.arg x).2 = true) : Pi.argMay (Pi.arg x).1 = true := by
  unfold Pi.arg at h ⊢
  split at h
  · rename_i hk
    rw [if_pos hk]
    simp only [Bool.and_eq_true] at h
    unfold Pi.argMay
    simp [h.2.2]
  rename_i k1
  split at h
  · rename_i hk
    rw [if_neg k1, if_pos hk]
    simp only [Bool.and_eq_true] at h
    unfold Pi.argMay
    simp [h.2.1, h.2.2]
  rename_i k2
  split at h
  · rename_i hk
    rw [if_neg k1, if_neg k2, if_pos hk]
    simp only [Bool.and_eq_true] at h
    unfold Pi.argMay
    simp [h.2.2]
  rename_i k3
  split at h
  · rename_i hk
    rw [if_neg k1, if_neg k2, if_neg k3, if_pos hk]
    simp only [Bool.and_eq_true] at h
    unfold Pi.argMay
    have := of_decide_eq_true h.2.2
    simp [this]
  rename_i k4
  rw [if_neg k1, if_neg k2, if_neg k3, if_neg k4]
  split at h
  · cases h
  rename_i k5
  rw [if_neg k5]
  split at h
  · rename_i hk
    rw [if_pos hk]
    decide
  rename_i k6
  rw [if_neg k6]
  split at h
  · rename_i hk
    rw [if_pos hk]
    decide
  rename_i k7
  rw [if_neg k7]
  show Pi.argMay ⟨5, [], [], 0, []⟩ = true
  decide
theorem Pi.args_may : ∀ (ws : List Wi) (out r : List Ar), (∀ a ∈ out, Pi.argMay a = true) → Pi.args ws out = some r → ∀ a ∈ r, Pi.argMay a = true := by
  intro ws
  induction ws with
  | nil =>
    intro out r ho h
    have h := Option.some.inj h
    subst h
    exact ho
  | cons x ws ih =>
    intro out r ho h
    unfold Pi.args at h
    split at h
    · rename_i hk
      refine ih _ _ (fun a ha => ?_) h
      rcases List.mem_append.1 ha with ha | ha
      · exact ho a ha
      · rw [List.mem_singleton.1 ha]
        exact Pi.arg_may hk
    · cases h
/-- a command that may stand at its place -/
def Cm.Good (i : Nat) (c : Cm) : Prop := (Pi.isFn c.fn = true ∨ c.fn = [] ∧ i = 0 ∧ c.args.length = 1) ∧ ∀ a ∈ c.args, Pi.argMay a = true
theorem Pi.command_good {ws : List Wi} {i : Nat} {c : Cm} (h : Pi.command ws (decide (i = 0)) = some c) : Cm.Good i c := by
  cases ws with
  | nil => cases h
  | cons y l =>
    by_cases hk : y.kind = 0 ∧ Pi.isFn y.text = true
    · rw [Pi.commandA hk] at h
      split at h
      · cases h
      · cases hr : Pi.args ((y :: l).drop 1) [] with
        | none => rw [hr] at h; cases h
        | some r =>
          rw [hr] at h
          have h := Option.some.inj h
          subst h
          exact ⟨Or.inl hk.2, Pi.args_may _ _ _ (fun a ha => by cases ha) hr⟩
    · rw [Pi.commandB hk] at h
      cases hr : Pi.args ((y :: l).drop 0) [] with
      | none => rw [hr] at h; cases h
      | some r =>
        rw [hr] at h
        unfold Pi.resB at h
        simp only at h
        split at h
        · rename_i hq
          have h := Option.some.inj h
          subst h
          exact ⟨Or.inr ⟨rfl, of_decide_eq_true hq.1, hq.2⟩, Pi.args_may _ _ _ (fun a ha => by cases ha) hr⟩
        · cases h
theorem Cm.empty_zero (out : List Cm) : out.isEmpty = decide (out.length = 0) := by cases out <;> simp
theorem Pi.go_good : ∀ (ws cur : List Wi) (out r : List Cm), (∀ i c, out[i]? = some c → Cm.Good i c) → Pi.go ws cur out = some r → 1 ≤ r.length ∧ ∀ i c, r[i]? = some c → Cm.Good i c := by
  intro ws
  have snoc : ∀ (out : List Cm) (c : Cm), (∀ i c, out[i]? = some c → Cm.Good i c) → Cm.Good out.length c → ∀ i q, (out ++ [c])[i]? = some q → Cm.Good i q := fun out c ho hc i q hq => by
    by_cases hi : i < out.length
    · rw [List.getElem?_append_left hi] at hq
      exact ho i q hq
    · have hl := (List.getElem?_eq_some_iff.1 hq).1
      rw [List.length_append] at hl
      have e : i = out.length := by simp at hl; omega
      subst e
      rw [List.getElem?_append_right (Nat.le_refl _), Nat.sub_self] at hq
      have := Option.some.inj hq
      subst this
      exact hc
  induction ws with
  | nil =>
    intro cur out r ho h
    unfold Pi.go at h
    rw [Cm.empty_zero] at h
    cases hk : Pi.command cur (decide (out.length = 0)) with
    | none => rw [hk] at h; cases h
    | some c =>
      rw [hk] at h
      have h := Option.some.inj h
      subst h
      exact ⟨by simp, snoc out c ho (Pi.command_good hk)⟩
  | cons x ws ih =>
    intro cur out r ho h
    unfold Pi.go at h
    split at h
    · rw [Cm.empty_zero] at h
      cases hk : Pi.command cur (decide (out.length = 0)) with
      | none => rw [hk] at h; cases h
      | some c =>
        rw [hk] at h
        exact ih _ _ _ (snoc out c ho (Pi.command_good hk)) h
    · exact ih _ _ _ ho h
theorem Pi.row_all : ∀ (cs : List Cm) (i : Nat), (∀ j c, cs[j]? = some c → Pi.cmdMay (i + j) c = true) → Pi.rowMay i cs = true := by
  intro cs
  induction cs with
  | nil => intro i _; rfl
  | cons c cs ih =>
    intro i h
    unfold Pi.rowMay
    rw [show Pi.cmdMay i c = true from h 0 c rfl, ih (i + 1) (fun j d hj => by rw [show i + 1 + j = i + (j + 1) by omega]; exact h (j + 1) d hj)]
    rfl
theorem Pi.row_snoc (c : Cm) : ∀ (cs : List Cm) (i : Nat), Pi.cmdMay (i + cs.length) c = false → Pi.rowMay i (cs ++ [c]) = false := by
  intro cs
  induction cs with
  | nil => intro i h; unfold Pi.rowMay; rw [List.length_nil, Nat.add_zero] at h; simp [h]
  | cons d cs ih =>
    intro i h
    show (Pi.cmdMay i d && Pi.rowMay (i + 1) (cs ++ [c])) = false
    rw [ih (i + 1) (by rw [show i + 1 + cs.length = i + (d :: cs).length by simp; omega]; exact h)]
    cases Pi.cmdMay i d <;> rfl
theorem Cm.Good.may {i : Nat} {c : Cm} (h : Cm.Good i c) (ha : c.args.length ≤ 8) : Pi.cmdMay i c = true := by
  unfold Pi.cmdMay
  rw [decide_eq_true ha, List.all_eq_true.2 h.2]
  rcases h.1 with h | ⟨h1, h2, h3⟩
  · rw [h]; rfl
  · rw [h1, decide_eq_true h2, decide_eq_true h3]; rfl
/-- what is answered for words: a pipe that may be, or none and why -/
theorem Pi.parse_may (ws : List Wi) : ((Pi.parse ws).2 = 0 ∧ Pi.may (Pi.parse ws).1 = true ∧ 1 ≤ (Pi.parse ws).1.length ∧ (Pi.parse ws).1.length ≤ 8) ∨ ((Pi.parse ws).1 = [] ∧ ((Pi.parse ws).2 = 1500 ∨ (Pi.parse ws).2 = 1501)) := by
  rw [Pi.parse_fin]
  cases hg : Pi.go ws [] [] with
  | none => exact Or.inr ⟨rfl, Or.inl rfl⟩
  | some cs =>
    obtain ⟨h1, hf⟩ := Pi.go_good ws [] [] cs (fun i c hc => by cases hc) hg
    unfold Pi.fin
    simp only
    split
    · exact Or.inr ⟨rfl, Or.inr rfl⟩
    · rename_i hk
      have hm : Cm.many cs = false := by
        cases q : Cm.many cs with
        | true => exact absurd (Or.inl q) hk
        | false => rfl
      have hl : cs.length ≤ 8 := by
        by_cases q : 8 < cs.length
        · exact absurd (Or.inr q) hk
        · omega
      have ha : ∀ c ∈ cs, c.args.length ≤ 8 := fun c hc => by
        unfold Cm.many at hm
        have := List.any_eq_false.1 hm c hc
        simpa using this
      refine Or.inl ⟨rfl, ?_, h1, hl⟩
      unfold Pi.may
      rw [Pi.row_all cs 0 (fun j c hj => by rw [Nat.zero_add]; exact (hf j c hj).may (ha c (List.mem_of_getElem? hj))), decide_eq_true h1, decide_eq_true hl]
      rfl
/-- commands that are none behind another -/
def Pi.bads : List Cm := [⟨[], []⟩, ⟨[102, 111, 111], []⟩, ⟨[], [⟨2, [], [], 1, []⟩]⟩, ⟨[99, 97, 116], [⟨99, [], [], 0, []⟩]⟩, ⟨[99, 97, 116], [⟨1, [], [], 0, []⟩]⟩, ⟨[99, 97, 116], [⟨4, [], [], 2, []⟩]⟩, ⟨[99, 97, 116], [⟨5, [], [], 0, [120]⟩]⟩, ⟨[99, 97, 116], List.replicate 9 ⟨0, [], [], 0, []⟩⟩]
theorem Pi.bad_not (k : Nat) (c : Cm) (hk : Pi.bads[k]? = some c) (i : Nat) (hi : 1 ≤ i) : Pi.cmdMay i c = false := by
  have e : decide (i = 0) = false := decide_eq_false (by omega)
  match k, hk with
  | 0, hk => have := Option.some.inj hk; subst this; unfold Pi.cmdMay; rw [e]; rfl
  | 1, hk => have := Option.some.inj hk; subst this; unfold Pi.cmdMay; rw [e]; rfl
  | 2, hk => have := Option.some.inj hk; subst this; unfold Pi.cmdMay; rw [e]; rfl
  | 3, hk => have := Option.some.inj hk; subst this; unfold Pi.cmdMay; rw [e]; rfl
  | 4, hk => have := Option.some.inj hk; subst this; unfold Pi.cmdMay; rw [e]; rfl
  | 5, hk => have := Option.some.inj hk; subst this; unfold Pi.cmdMay; rw [e]; rfl
  | 6, hk => have := Option.some.inj hk; subst this; unfold Pi.cmdMay; rw [e]; rfl
  | 7, hk => have := Option.some.inj hk; subst this; unfold Pi.cmdMay; rw [e]; rfl
  | k + 8, hk => cases hk
theorem Pi.bad_may {cs : List Cm} {c : Cm} {k : Nat} (h1 : 1 ≤ cs.length) (hk : Pi.bads[k]? = some c) : Pi.may (cs ++ [c]) = false := by
  unfold Pi.may
  rw [Pi.row_snoc c cs 0 (by rw [Nat.zero_add]; exact Pi.bad_not k c hk _ h1)]
  rfl
end Go.Proofs.Ytjmobhohfcieoaa
