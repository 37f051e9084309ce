/-
  PLAIN LISTS OF BYTES, no program: what utf.May, utf.Norm and utf.Lower give, as functions on lists of bytes, and the laws among them that the statements of layer 1 ask.
-/
import Derived.Lib.DecodeN
namespace Go.Proofs.Ytbhmepedegbgjaa.Pl

/-- a further byte of a sign -/
def cont (b : Nat) : Bool := decide (128 ≤ b) && decide (b ≤ 191)

/-- how long the sign is that n bytes begin with, b0 to b3 the first of them (0 beyond the end); 0: none, or the byte 0 -/
def sgnN (n b0 b1 b2 b3 : Nat) : Nat :=
  if b0 = 0 then 0
  else if b0 < 128 then 1
  else if b0 < 194 then 0
  else if b0 < 224 then (if 2 ≤ n ∧ (128 ≤ b1 ∧ b1 ≤ 191) then 2 else 0)
  else if b0 < 240 then (if 3 ≤ n ∧ (128 ≤ b1 ∧ b1 ≤ 191) ∧ (128 ≤ b2 ∧ b2 ≤ 191) ∧ (b0 = 224 → 160 ≤ b1) ∧ (b0 = 237 → b1 ≤ 159) then 3 else 0)
  else if b0 < 245 then (if 4 ≤ n ∧ (128 ≤ b1 ∧ b1 ≤ 191) ∧ (128 ≤ b2 ∧ b2 ≤ 191) ∧ (128 ≤ b3 ∧ b3 ≤ 191) ∧ (b0 = 240 → 144 ≤ b1) ∧ (b0 = 244 → b1 ≤ 143) then 4 else 0)
  else 0

set_option maxRecDepth 100000 in
set_option maxHeartbeats 4000000 in
theorem sgnN_decode (n b0 b1 b2 b3 : Nat) (h0 : b0 < 256) (h1 : b1 < 256) (h2 : b2 < 256) (h3 : b3 < 256) (r k : Nat) (h : Lib.decodeN n b0 b1 b2 b3 = (r, k)) :
    (if r = 0 ∨ (r = 65533 ∧ k = 1) then 0 else k) = sgnN n b0 b1 b2 b3 := by
  unfold Lib.decodeN at h
  repeat' split at h
  all_goals
    simp only [Prod.mk.injEq] at h
    obtain ⟨rfl, rfl⟩ := h
    unfold sgnN
    repeat' split
    all_goals omega

theorem sgnN_le (n b0 b1 b2 b3 : Nat) : sgnN n b0 b1 b2 b3 ≤ 4 := by
  unfold sgnN; repeat' split
  all_goals omega
theorem sgnN_len (n b0 b1 b2 b3 : Nat) (hn : 1 ≤ n) : sgnN n b0 b1 b2 b3 ≤ n := by
  unfold sgnN; repeat' split
  all_goals omega

def nb (l : List UInt8) (i : Nat) : Nat := (l.getD i 0).toNat
def sgn (l : List UInt8) : Nat := sgnN l.length (nb l 0) (nb l 1) (nb l 2) (nb l 3)

theorem nb_lt (l : List UInt8) (i : Nat) : nb l i < 256 := (l.getD i 0).toNat_lt
theorem nb_take (l : List UInt8) (k i : Nat) (h : i < k) : nb (l.take k) i = nb l i := by
  simp [nb, List.getD_eq_getElem?_getD, h]
theorem nb_append (l r : List UInt8) (i : Nat) (h : i < l.length) : nb (l ++ r) i = nb l i := by
  simp [nb, List.getD_eq_getElem?_getD, List.getElem?_append, h]
theorem nb_beyond (l : List UInt8) (i : Nat) (h : l.length ≤ i) : nb l i = 0 := by
  simp [nb, List.getD_eq_getElem?_getD, List.getElem?_eq_none h]

theorem sgn_nil : sgn [] = 0 := rfl
theorem sgn_le_four (l : List UInt8) : sgn l ≤ 4 := sgnN_le ..
theorem sgn_le (l : List UInt8) : sgn l ≤ l.length := by
  cases l with
  | nil => exact Nat.le_refl _
  | cons c r => exact sgnN_len _ _ _ _ _ (by simp)

/-- A SIGN IS ONE WHATEVER STANDS BEHIND IT. -/
theorem sgnN_more (n m b0 b1 b2 b3 c1 c2 c3 k : Nat) (hk : k ≠ 0) (h : sgnN n b0 b1 b2 b3 = k) (hm : k ≤ m) (e1 : 1 < k → c1 = b1) (e2 : 2 < k → c2 = b2) (e3 : 3 < k → c3 = b3) : sgnN m b0 c1 c2 c3 = k := by
  unfold sgnN at h ⊢
  repeat' split at h
  all_goals subst h
  all_goals first | (exact absurd rfl hk) | skip
  all_goals simp at e1 e2 e3
  all_goals (try subst e1) <;> (try subst e2) <;> (try subst e3)
  all_goals repeat' split
  all_goals omega

/-- what the sign's own bytes and then anything else begin with -/
theorem sgn_take_append (l r : List UInt8) (h : sgn l ≠ 0) : sgn (l.take (sgn l) ++ r) = sgn l := by
  have hl := sgn_le l
  have h4 := sgn_le_four l
  have hlen : (l.take (sgn l)).length = sgn l := by rw [List.length_take]; omega
  have e : ∀ i, i < sgn l → nb (l.take (sgn l) ++ r) i = nb l i := fun i hi => by
    rw [nb_append _ _ _ (by omega), nb_take _ _ _ hi]
  have key := sgnN_more l.length (l.take (sgn l) ++ r).length (nb l 0) (nb l 1) (nb l 2) (nb l 3) (nb (l.take (sgn l) ++ r) 1) (nb (l.take (sgn l) ++ r) 2) (nb (l.take (sgn l) ++ r) 3) (sgn l) h rfl (by rw [List.length_append, hlen]; omega) (e 1) (e 2) (e 3)
  rw [← e 0 (by omega)] at key
  exact key
theorem sgn_append (l r : List UInt8) (h : sgn l ≠ 0) : sgn (l ++ r) = sgn l := by
  have := sgn_take_append l (l.drop (sgn l) ++ r) h
  rwa [← List.append_assoc, List.take_append_drop] at this

/-! ### May, Norm, Lower -/
def mayF : Nat → List UInt8 → Bool
  | 0, l => l.isEmpty
  | f + 1, l => if l.isEmpty then true else if sgn l = 0 then false else mayF f (l.drop (sgn l))
def mayL (l : List UInt8) : Bool := mayF l.length l
def fffd : List UInt8 := [239, 191, 189]
def normF : Nat → List UInt8 → List UInt8
  | 0, _ => []
  | f + 1, l => if l.isEmpty then [] else if sgn l = 0 then fffd ++ normF f (l.drop 1) else l.take (sgn l) ++ normF f (l.drop (sgn l))
def normL (l : List UInt8) : List UInt8 := normF l.length l

theorem mayF_fuel : ∀ (f g : Nat) (l : List UInt8), l.length ≤ f → l.length ≤ g → mayF f l = mayF g l := by
  intro f
  induction f with
  | zero =>
    intro g l hf _
    have : l = [] := List.eq_nil_of_length_eq_zero (by omega)
    subst this
    cases g <;> simp [mayF]
  | succ f ih =>
    intro g l hf hg
    cases g with
    | zero =>
      have : l = [] := List.eq_nil_of_length_eq_zero (by omega)
      subst this
      simp [mayF]
    | succ g =>
      simp only [mayF]
      by_cases h : sgn l = 0
      · simp [h]
      · simp only [h, if_false]
        rw [ih g (l.drop (sgn l)) (by simp; omega) (by simp; omega)]
theorem normF_fuel : ∀ (f g : Nat) (l : List UInt8), l.length ≤ f → l.length ≤ g → normF f l = normF g l := by
  intro f
  induction f with
  | zero =>
    intro g l hf _
    have : l = [] := List.eq_nil_of_length_eq_zero (by omega)
    subst this
    cases g <;> simp [normF]
  | succ f ih =>
    intro g l hf hg
    cases g with
    | zero =>
      have : l = [] := List.eq_nil_of_length_eq_zero (by omega)
      subst this
      simp [normF]
    | succ g =>
      simp only [normF]
      by_cases h : sgn l = 0
      · simp only [h, if_true]
        rw [ih g (l.drop 1) (by simp; omega) (by simp; omega)]
      · simp only [h, if_false]
        rw [ih g (l.drop (sgn l)) (by simp; omega) (by simp; omega)]

theorem mayL_nil : mayL [] = true := rfl
theorem normL_nil : normL [] = [] := rfl
theorem ne_nil_of_sgn {l : List UInt8} (h : sgn l ≠ 0) : l ≠ [] := by rintro rfl; exact h rfl
theorem mayL_bad (l : List UInt8) (hl : l ≠ []) (h : sgn l = 0) : mayL l = false := by
  cases l with
  | nil => exact absurd rfl hl
  | cons c r => simp [mayL, mayF, h]
theorem mayL_sign (l : List UInt8) (h : sgn l ≠ 0) : mayL l = mayL (l.drop (sgn l)) := by
  cases l with
  | nil => exact absurd rfl (ne_nil_of_sgn h)
  | cons c r =>
    have : mayL (c :: r) = mayF r.length ((c :: r).drop (sgn (c :: r))) := by simp [mayL, mayF, h]
    rw [this]
    exact mayF_fuel _ _ _ (by simp; omega) (Nat.le_refl _)
theorem normL_bad (l : List UInt8) (hl : l ≠ []) (h : sgn l = 0) : normL l = fffd ++ normL (l.drop 1) := by
  cases l with
  | nil => exact absurd rfl hl
  | cons c r =>
    have : normL (c :: r) = fffd ++ normF r.length r := by simp [normL, normF, h]
    rw [this]
    rfl
theorem normL_sign (l : List UInt8) (h : sgn l ≠ 0) : normL l = l.take (sgn l) ++ normL (l.drop (sgn l)) := by
  cases l with
  | nil => exact absurd rfl (ne_nil_of_sgn h)
  | cons c r =>
    have : normL (c :: r) = (c :: r).take (sgn (c :: r)) ++ normF r.length ((c :: r).drop (sgn (c :: r))) := by simp [normL, normF, h]
    rw [this, normF_fuel _ _ _ (by simp; omega) (Nat.le_refl _)]
    rfl

/-- an induction by signs -/
theorem ind {p : List UInt8 → Prop} (h0 : p []) (h1 : ∀ l, l ≠ [] → sgn l = 0 → p (l.drop 1) → p l) (h2 : ∀ l, sgn l ≠ 0 → p (l.drop (sgn l)) → p l) : ∀ l, p l := by
  intro l
  generalize hn : l.length = n
  induction n using Nat.strongRecOn generalizing l with
  | ind n ih =>
    by_cases hl : l = []
    · subst hl; exact h0
    · have hpos : 0 < l.length := List.length_pos_iff.2 hl
      by_cases h : sgn l = 0
      · exact h1 l hl h (ih (l.drop 1).length (by simp; omega) _ rfl)
      · exact h2 l h (ih (l.drop (sgn l)).length (by simp; omega) _ rfl)

theorem sgn_fffd (r : List UInt8) : sgn (fffd ++ r) = 3 := by
  have h : sgn fffd = 3 := by decide
  rw [sgn_append _ _ (by rw [h]; decide), h]
theorem mayL_fffd (r : List UInt8) : mayL (fffd ++ r) = mayL r := by
  rw [mayL_sign _ (by rw [sgn_fffd]; decide), sgn_fffd]; rfl
theorem normL_fffd (r : List UInt8) : normL (fffd ++ r) = fffd ++ normL r := by
  rw [normL_sign _ (by rw [sgn_fffd]; decide), sgn_fffd]; rfl
theorem drop_take_append (l r : List UInt8) (k : Nat) (h : k ≤ l.length) : (l.take k ++ r).drop k = r := by
  rw [List.drop_append_of_le_length (by simp; omega)]; simp
theorem take_take_append (l r : List UInt8) (k : Nat) (h : k ≤ l.length) : (l.take k ++ r).take k = l.take k := by
  rw [List.take_append_of_le_length (by rw [List.length_take]; omega), List.take_take, Nat.min_self]
theorem mayL_take (l r : List UInt8) (h : sgn l ≠ 0) : mayL (l.take (sgn l) ++ r) = mayL r := by
  have e := sgn_take_append l r h
  rw [mayL_sign _ (by rw [e]; exact h), e, drop_take_append _ _ _ (sgn_le l)]
theorem normL_take (l r : List UInt8) (h : sgn l ≠ 0) : normL (l.take (sgn l) ++ r) = l.take (sgn l) ++ normL r := by
  have e := sgn_take_append l r h
  rw [normL_sign _ (by rw [e]; exact h), e, drop_take_append _ _ _ (sgn_le l), take_take_append _ _ _ (sgn_le l)]

/-- WHAT IS NORMED MAY BE. -/
theorem may_norm (l : List UInt8) : mayL (normL l) = true := by
  refine ind (p := fun l => mayL (normL l) = true) rfl ?_ ?_ l
  · intro l hl h ih
    rw [normL_bad l hl h, mayL_fffd]; exact ih
  · intro l h ih
    rw [normL_sign l h, mayL_take l _ h]; exact ih
/-- WHAT MAY BE STAYS, and what stands behind it is normed by itself. -/
theorem norm_append (x t : List UInt8) : mayL x = true → normL (x ++ t) = x ++ normL t := by
  refine ind (p := fun x => mayL x = true → normL (x ++ t) = x ++ normL t) (fun _ => rfl) ?_ ?_ x
  · intro l hl h _ hm
    rw [mayL_bad l hl h] at hm; cases hm
  · intro l h ih hm
    rw [mayL_sign l h] at hm
    have hsp : l ++ t = l.take (sgn l) ++ (l.drop (sgn l) ++ t) := by rw [← List.append_assoc, List.take_append_drop]
    rw [hsp, normL_take l _ h, ih hm, ← List.append_assoc, List.take_append_drop]
theorem may_append (x t : List UInt8) : mayL x = true → mayL (x ++ t) = mayL t := by
  refine ind (p := fun x => mayL x = true → mayL (x ++ t) = mayL t) (fun _ => rfl) ?_ ?_ x
  · intro l hl h _ hm
    rw [mayL_bad l hl h] at hm; cases hm
  · intro l h ih hm
    rw [mayL_sign l h] at hm
    have hsp : l ++ t = l.take (sgn l) ++ (l.drop (sgn l) ++ t) := by rw [← List.append_assoc, List.take_append_drop]
    rw [hsp, mayL_take l _ h, ih hm]
theorem norm_of_may (x : List UInt8) (h : mayL x = true) : normL x = x := by
  have := norm_append x [] h
  simpa [normL_nil] using this
theorem norm_norm (l : List UInt8) : normL (normL l) = normL l := norm_of_may _ (may_norm l)
theorem norm_eq_iff (l : List UInt8) : (normL l = l) ↔ mayL l = true :=
  ⟨fun h => by rw [← h]; exact may_norm l, norm_of_may l⟩
theorem norm_long (l : List UInt8) : l.length ≤ (normL l).length := by
  refine ind (p := fun l => l.length ≤ (normL l).length) (Nat.le_refl _) ?_ ?_ l
  · intro l hl h ih
    rw [normL_bad l hl h]
    simp [fffd] at ih ⊢; omega
  · intro l h ih
    have := sgn_le l
    rw [normL_sign l h]
    simp at ih ⊢; omega
theorem norm_short (l : List UInt8) : (normL l).length ≤ 3 * l.length := by
  refine ind (p := fun l => (normL l).length ≤ 3 * l.length) (Nat.le_refl _) ?_ ?_ l
  · intro l hl h ih
    have hpos : 0 < l.length := List.length_pos_iff.2 hl
    rw [normL_bad l hl h]
    simp [fffd] at ih ⊢; omega
  · intro l h ih
    have := sgn_le l
    rw [normL_sign l h]
    simp at ih ⊢; omega

def lowB (c : UInt8) : UInt8 := if 65 ≤ c.toNat ∧ c.toNat ≤ 90 then c + 32 else c
def lowL (l : List UInt8) : List UInt8 := l.map lowB
theorem lowB_toNat (c : UInt8) : (lowB c).toNat = if 65 ≤ c.toNat ∧ c.toNat ≤ 90 then c.toNat + 32 else c.toNat := by
  unfold lowB
  split
  · rw [UInt8.toNat_add]; simp; omega
  · rfl
theorem lowB_lowB (c : UInt8) : lowB (lowB c) = lowB c := by
  apply UInt8.toNat_inj.1
  rw [lowB_toNat, lowB_toNat]
  repeat' split
  all_goals omega
theorem low_low (l : List UInt8) : lowL (lowL l) = lowL l := by
  simp [lowL, lowB_lowB]
theorem low_append (l r : List UInt8) : lowL (l ++ r) = lowL l ++ lowL r := by simp [lowL]
theorem low_length (l : List UInt8) : (lowL l).length = l.length := by simp [lowL]

end Go.Proofs.Ytbhmepedegbgjaa.Pl
