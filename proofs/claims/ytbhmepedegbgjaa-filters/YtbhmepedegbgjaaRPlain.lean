/-
  PLAIN LISTS OF BYTES, no program: what refs.Encode and refs.Decode give, as functions on lists of bytes, and the laws among them that the statements of layer 2 ask.
-/
import Derived.Test.YtbhmepedegbgjaaPlain
namespace Go.Proofs.Ytbhmepedegbgjaa.Pl

/-! ### Encode -/
def encB (c : UInt8) : List UInt8 :=
  if c = 38 then [38, 97, 109, 112, 59] else if c = 60 then [38, 108, 116, 59] else if c = 62 then [38, 103, 116, 59]
  else if c = 34 then [38, 113, 117, 111, 116, 59] else if c = 39 then [38, 35, 51, 57, 59] else if c = 13 then [38, 35, 49, 51, 59] else [c]
def encS (l : List UInt8) : List UInt8 := l.flatMap encB
def encL (l : List UInt8) : List UInt8 := encS (normL l)
theorem encS_nil : encS [] = [] := rfl
theorem encS_cons (c : UInt8) (l : List UInt8) : encS (c :: l) = encB c ++ encS l := by simp [encS]
theorem encS_append (l r : List UInt8) : encS (l ++ r) = encS l ++ encS r := by simp [encS]
theorem encB_len (c : UInt8) : (encB c).length ≤ 6 := by
  unfold encB; repeat' split
  all_goals simp
theorem encB_pos (c : UInt8) : 1 ≤ (encB c).length := by
  unfold encB; repeat' split
  all_goals simp
theorem encS_len (l : List UInt8) : (encS l).length ≤ 6 * l.length := by
  induction l with
  | nil => exact Nat.le_refl _
  | cons c r ih =>
    have := encB_len c
    rw [encS_cons, List.length_append, List.length_cons]; omega
theorem encL_len (l : List UInt8) : (encL l).length ≤ 18 * l.length := by
  have h1 := encS_len (normL l)
  have h2 := norm_short l
  unfold encL; omega

/-! ### Decode -/
/-- a digit of sixteen; 16: it is none -/
def dig (c : UInt8) : Nat :=
  if 48 ≤ c.toNat ∧ c.toNat ≤ 57 then c.toNat - 48 else if 97 ≤ c.toNat ∧ c.toNat ≤ 102 then c.toNat - 87 else if 65 ≤ c.toNat ∧ c.toNat ≤ 70 then c.toNat - 55 else 16
theorem dig_le (c : UInt8) : dig c ≤ 16 := by
  unfold dig; repeat' split
  all_goals omega
/-- a number's sign -/
def runeL (x : Nat) : List UInt8 :=
  if x = 0 ∨ (55296 ≤ x ∧ x ≤ 57343) ∨ 1114111 < x then fffd
  else if x < 128 then [UInt8.ofNat x]
  else if x < 2048 then [UInt8.ofNat (192 + x / 64), UInt8.ofNat (128 + x % 64)]
  else if x < 65536 then [UInt8.ofNat (224 + x / 4096), UInt8.ofNat (128 + x / 64 % 64), UInt8.ofNat (128 + x % 64)]
  else [UInt8.ofNat (240 + x / 262144), UInt8.ofNat (128 + x / 4096 % 64), UInt8.ofNat (128 + x / 64 % 64), UInt8.ofNat (128 + x % 64)]
theorem runeL_len (x : Nat) : (runeL x).length ≤ 4 := by
  unfold runeL; repeat' split
  all_goals simp [fffd]
/-- digits, at most m, from the place i on: the number, the place behind them -/
def scan (base : Nat) : Nat → List UInt8 → Nat → Nat → Nat × Nat
  | 0, _, x, i => (x, i)
  | _ + 1, [], x, i => (x, i)
  | m + 1, c :: r, x, i => if dig c < base then scan base m r (x * base + dig c) (i + 1) else (x, i)
/-- a reference by number whose digits begin at a place -/
def numL (l : List UInt8) (start base most : Nat) : List UInt8 × Nat :=
  let p := scan base most (l.drop start) 0 start
  if p.2 = start ∨ l[p.2]? ≠ some 59 then ([], 0) else (runeL p.1, p.2 + 1)
def names : List (List UInt8 × List UInt8) :=
  [([97, 109, 112, 59], [38]), ([108, 116, 59], [60]), ([103, 116, 59], [62]), ([113, 117, 111, 116, 59], [34]), ([97, 112, 111, 115, 59], [39]), ([110, 98, 115, 112, 59], [194, 160]), ([99, 111, 112, 121, 59], [194, 169])]
def pre (p l : List UInt8) : Bool := p.isPrefixOf l
def nameL : List (List UInt8 × List UInt8) → List UInt8 → List UInt8 × Nat
  | [], _ => ([], 0)
  | n :: ns, l => if pre n.1 l then (n.2, n.1.length) else nameL ns l
def refL (l : List UInt8) : List UInt8 × Nat :=
  if pre [35, 120] l || pre [35, 88] l then numL l 2 16 6 else if pre [35] l then numL l 1 10 7 else nameL names l
def decF : Nat → List UInt8 → List UInt8
  | 0, _ => []
  | _ + 1, [] => []
  | f + 1, c :: r => if c = 38 ∧ (refL r).2 ≠ 0 then (refL r).1 ++ decF f (r.drop (refL r).2) else c :: decF f r
def decL (l : List UInt8) : List UInt8 := decF l.length l

theorem decF_fuel : ∀ (f g : Nat) (l : List UInt8), l.length ≤ f → l.length ≤ g → decF f l = decF g l := by
  intro f
  induction f with
  | zero =>
    intro g l hf _
    have : l = [] := List.eq_nil_of_length_eq_zero (by omega)
    subst this
    cases g <;> simp [decF]
  | succ f ih =>
    intro g l hf hg
    cases l with
    | nil => cases g <;> simp [decF]
    | cons c r =>
      cases g with
      | zero => simp at hg
      | succ g =>
        simp only [List.length_cons] at hf hg
        simp only [decF]
        rw [ih g r (by omega) (by omega), ih g (r.drop (refL r).2) (by simp; omega) (by simp; omega)]
theorem decL_nil : decL [] = [] := rfl
theorem decL_ref (c : UInt8) (r : List UInt8) (hc : c = 38) (h : (refL r).2 ≠ 0) : decL (c :: r) = (refL r).1 ++ decL (r.drop (refL r).2) := by
  have : decL (c :: r) = (refL r).1 ++ decF r.length (r.drop (refL r).2) := by simp [decL, decF, hc, h]
  rw [this, decF_fuel _ _ _ (by simp) (Nat.le_refl _)]; rfl
theorem decL_step (c : UInt8) (r : List UInt8) (h : ¬ (c = 38 ∧ (refL r).2 ≠ 0)) : decL (c :: r) = c :: decL r := by
  show decF (r.length + 1) (c :: r) = _
  rw [decF, if_neg h]; rfl
theorem decL_other (c : UInt8) (r : List UInt8) (hc : c ≠ 38) : decL (c :: r) = c :: decL r := decL_step c r (fun h => hc h.1)
theorem decL_none (c : UInt8) (r : List UInt8) (h : (refL r).2 = 0) : decL (c :: r) = c :: decL r := decL_step c r (fun x => x.2 h)

/-! a reference is no longer than what it stands in, and its sign is no longer than it -/
theorem scan_at (base : Nat) : ∀ (m : Nat) (d : List UInt8) (x i : Nat), i ≤ (scan base m d x i).2 ∧ (scan base m d x i).2 ≤ i + d.length ∧ (scan base m d x i).2 ≤ i + m := by
  intro m
  induction m with
  | zero => intro d x i; simp [scan]
  | succ m ih =>
    intro d x i
    cases d with
    | nil => simp [scan]
    | cons c r =>
      rw [scan]
      split
      · have := ih r (x * base + dig c) (i + 1)
        simp only [List.length_cons]; omega
      · simp only [List.length_cons]; omega
theorem pre_iff (p l : List UInt8) : pre p l = true ↔ ∃ r, l = p ++ r := by
  unfold pre
  rw [List.isPrefixOf_iff_prefix]
  exact ⟨fun ⟨r, h⟩ => ⟨r, h.symm⟩, fun ⟨r, h⟩ => ⟨r, h.symm⟩⟩
theorem nameL_le : ∀ (ns : List (List UInt8 × List UInt8)) (l : List UInt8), (nameL ns l).2 ≤ l.length := by
  intro ns
  induction ns with
  | nil => intro l; exact Nat.zero_le _
  | cons n ns ih =>
    intro l
    rw [nameL]
    split
    · rename_i h
      obtain ⟨r, rfl⟩ := (pre_iff _ _).1 h
      simp
    · exact ih l
theorem numL_le (l : List UInt8) (start base most : Nat) : (numL l start base most).2 ≤ l.length := by
  unfold numL
  simp only
  split
  · exact Nat.zero_le _
  · rename_i h1
    have h2 : l[(scan base most (l.drop start) 0 start).2]? = some 59 := Classical.not_not.1 fun x => h1 (.inr x)
    obtain ⟨h3, _⟩ := List.getElem?_eq_some_iff.1 h2
    exact h3
theorem refL_le (l : List UInt8) : (refL l).2 ≤ l.length := by
  unfold refL
  split
  · exact numL_le ..
  · split
    · exact numL_le ..
    · exact nameL_le _ _
theorem refL_nil : refL [] = ([], 0) := by decide
theorem nameL_sign : ∀ (ns : List (List UInt8 × List UInt8)) (l : List UInt8), (∀ n ∈ ns, n.2.length ≤ 4) → (nameL ns l).1.length ≤ 4 := by
  intro ns
  induction ns with
  | nil => intro l _; exact Nat.zero_le _
  | cons n ns ih =>
    intro l h
    rw [nameL]
    split
    · exact h n (by simp)
    · exact ih l (fun m hm => h m (by simp [hm]))
theorem numL_sign (l : List UInt8) (start base most : Nat) : (numL l start base most).1.length ≤ 4 := by
  unfold numL
  simp only
  split
  · exact Nat.zero_le _
  · exact runeL_len _
theorem refL_sign (l : List UInt8) : (refL l).1.length ≤ 4 := by
  unfold refL
  split
  · exact numL_sign ..
  · split
    · exact numL_sign ..
    · exact nameL_sign _ _ (by decide)
/-- at most four bytes for each -/
theorem decF_len : ∀ (f : Nat) (l : List UInt8), (decF f l).length ≤ 4 * l.length := by
  intro f
  induction f with
  | zero => intro l; exact Nat.zero_le _
  | succ f ih =>
    intro l
    cases l with
    | nil => exact Nat.zero_le _
    | cons c r =>
      rw [decF]
      split
      · have h1 := ih (r.drop (refL r).2)
        have h2 := refL_sign r
        have h3 := refL_le r
        rw [List.length_append]
        simp only [List.length_drop, List.length_cons] at *
        omega
      · have h1 := ih r
        simp only [List.length_cons]; omega
theorem decL_len (l : List UInt8) : (decL l).length ≤ 4 * l.length := decF_len _ _

/-! ### what has no ; stays -/
theorem numL_plain (l : List UInt8) (start base most : Nat) (h : (59 : UInt8) ∉ l) : (numL l start base most).2 = 0 := by
  unfold numL
  simp only
  split
  · rfl
  · rename_i h1
    have h2 : l[(scan base most (l.drop start) 0 start).2]? = some 59 := Classical.not_not.1 fun x => h1 (.inr x)
    exact absurd (List.mem_of_getElem? h2) h
theorem nameL_plain (l : List UInt8) (h : (59 : UInt8) ∉ l) : ∀ (ns : List (List UInt8 × List UInt8)), (∀ n ∈ ns, (59 : UInt8) ∈ n.1) → (nameL ns l).2 = 0 := by
  intro ns
  induction ns with
  | nil => intro _; rfl
  | cons n ns ih =>
    intro hn
    rw [nameL]
    split
    · rename_i hp
      obtain ⟨r, rfl⟩ := (pre_iff _ _).1 hp
      exact absurd (List.mem_append_left _ (hn n (by simp))) h
    · exact ih (fun m hm => hn m (by simp [hm]))
theorem refL_plain (l : List UInt8) (h : (59 : UInt8) ∉ l) : (refL l).2 = 0 := by
  unfold refL
  split
  · exact numL_plain _ _ _ _ h
  · split
    · exact numL_plain _ _ _ _ h
    · exact nameL_plain l h _ (by decide)
/-- WHAT HAS NO ; STAYS. -/
theorem dec_plain : ∀ (l : List UInt8), (59 : UInt8) ∉ l → decL l = l := by
  intro l
  induction l with
  | nil => intro _; rfl
  | cons c r ih =>
    intro h
    have hr : (59 : UInt8) ∉ r := fun x => h (List.mem_cons_of_mem _ x)
    rw [decL_none c r (refL_plain r hr), ih hr]

/-! ### what is encoded is decoded -/
theorem dec_body (b s t : List UInt8) (n : Nat) (h : refL (b ++ t) = (s, n)) (hn : n = b.length) (h0 : n ≠ 0) : decL (38 :: (b ++ t)) = s ++ decL t := by
  rw [decL_ref 38 _ rfl (by rw [h]; exact h0), h]
  subst hn
  simp
theorem dec_encB (c : UInt8) (t : List UInt8) : decL (encB c ++ t) = c :: decL t := by
  unfold encB
  split
  · rename_i h; subst h; exact dec_body [97, 109, 112, 59] [38] t 4 rfl rfl (by decide)
  split
  · rename_i h; subst h; exact dec_body [108, 116, 59] [60] t 3 rfl rfl (by decide)
  split
  · rename_i h; subst h; exact dec_body [103, 116, 59] [62] t 3 rfl rfl (by decide)
  split
  · rename_i h; subst h; exact dec_body [113, 117, 111, 116, 59] [34] t 5 rfl rfl (by decide)
  split
  · rename_i h; subst h; exact dec_body [35, 51, 57, 59] [39] t 4 rfl rfl (by decide)
  split
  · rename_i h; subst h; exact dec_body [35, 49, 51, 59] [13] t 4 rfl rfl (by decide)
  · rename_i h _ _ _ _ _
    exact decL_other c t h
/-- WHAT IS ENCODED IS DECODED, whatever stands behind it. -/
theorem dec_encS (x t : List UInt8) : decL (encS x ++ t) = x ++ decL t := by
  induction x with
  | nil => rfl
  | cons c r ih => rw [encS_cons, List.append_assoc, dec_encB, ih]; rfl
theorem dec_enc (l t : List UInt8) : decL (encL l ++ t) = normL l ++ decL t := dec_encS _ _
theorem dec_enc' (l : List UInt8) : decL (encL l) = normL l := by
  have := dec_enc l []
  simpa [decL_nil] using this
theorem enc_append (s t : List UInt8) : encL (normL s ++ t) = encL s ++ encL t := by
  unfold encL
  rw [norm_append _ _ (may_norm s), encS_append]

/-! ### what is encoded may be -/
theorem sgn_one (c : UInt8) (r : List UInt8) (h0 : c ≠ 0) (h1 : c.toNat < 128) : sgn (c :: r) = 1 := by
  have hc : c.toNat ≠ 0 := fun h => h0 (UInt8.toNat_inj.1 h)
  show sgnN _ c.toNat _ _ _ = 1
  unfold sgnN
  rw [if_neg hc, if_pos h1]
theorem may_ascii : ∀ (b r : List UInt8), (∀ c ∈ b, c ≠ 0 ∧ c.toNat < 128) → mayL (b ++ r) = mayL r := by
  intro b
  induction b with
  | nil => intro r _; rfl
  | cons c b ih =>
    intro r h
    obtain ⟨h0, h1⟩ := h c (by simp)
    have e := sgn_one c (b ++ r) h0 h1
    rw [List.cons_append, mayL_sign _ (by rw [e]; decide), e]
    exact ih r (fun d hd => h d (by simp [hd]))
theorem encB_high (c : UInt8) (h : 128 ≤ c.toNat) : encB c = [c] := by
  have hne : ∀ k : UInt8, k.toNat < 128 → c ≠ k := fun k hk e => by rw [e] at h; omega
  unfold encB
  rw [if_neg (hne 38 (by decide)), if_neg (hne 60 (by decide)), if_neg (hne 62 (by decide)), if_neg (hne 34 (by decide)), if_neg (hne 39 (by decide)), if_neg (hne 13 (by decide))]
theorem encB_low (c : UInt8) (h0 : c ≠ 0) (h : c.toNat < 128) : ∀ d ∈ encB c, d ≠ 0 ∧ d.toNat < 128 := by
  unfold encB
  repeat' split
  all_goals first | decide | (intro d hd; simp at hd; subst hd; exact ⟨h0, h⟩)
theorem encS_high : ∀ (l : List UInt8), (∀ c ∈ l, 128 ≤ c.toNat) → encS l = l := by
  intro l
  induction l with
  | nil => intro _; rfl
  | cons c r ih =>
    intro h
    rw [encS_cons, encB_high c (h c (by simp)), ih (fun d hd => h d (by simp [hd]))]; rfl
/-- a sign is one low byte, or high bytes -/
theorem sgnN_parts (n b0 b1 b2 b3 k : Nat) (h : sgnN n b0 b1 b2 b3 = k) (hk : k ≠ 0) : (k = 1 ∧ b0 ≠ 0 ∧ b0 < 128) ∨ (128 ≤ b0 ∧ (1 < k → 128 ≤ b1) ∧ (2 < k → 128 ≤ b2) ∧ (3 < k → 128 ≤ b3) ∧ 1 < k) := by
  unfold sgnN at h
  repeat' split at h
  all_goals subst h
  all_goals omega
theorem nb_get (l : List UInt8) (i : Nat) (c : UInt8) (h : l[i]? = some c) : nb l i = c.toNat := by
  simp [nb, List.getD_eq_getElem?_getD, h]
theorem sgn_parts (l : List UInt8) (h : sgn l ≠ 0) : (∃ c, l.take (sgn l) = [c] ∧ c ≠ 0 ∧ c.toNat < 128) ∨ (∀ c ∈ l.take (sgn l), 128 ≤ c.toNat) := by
  have hle := sgn_le l
  have h4 := sgn_le_four l
  rcases sgnN_parts l.length (nb l 0) (nb l 1) (nb l 2) (nb l 3) (sgn l) rfl h with ⟨h1, h0, h2⟩ | ⟨g0, g1, g2, g3, g4⟩
  · cases l with
    | nil => exact absurd rfl (ne_nil_of_sgn h)
    | cons c r =>
      refine .inl ⟨c, by rw [h1]; rfl, ?_, h2⟩
      rintro rfl
      exact h0 rfl
  · refine .inr fun c hc => ?_
    obtain ⟨i, hi⟩ := List.mem_iff_getElem?.1 hc
    rw [List.getElem?_take] at hi
    split at hi
    · rename_i hlt
      have e := nb_get l i c hi
      have : i = 0 ∨ i = 1 ∨ i = 2 ∨ i = 3 := by omega
      rcases this with rfl | rfl | rfl | rfl
      all_goals (rw [← e])
      · exact g0
      · exact g1 (by omega)
      · exact g2 (by omega)
      · exact g3 (by omega)
    · cases hi
theorem encS_fffd : encS fffd = fffd := by decide
theorem may_enc (l : List UInt8) : mayL (encL l) = true := by
  refine ind (p := fun l => mayL (encL l) = true) rfl ?_ ?_ l
  · intro l hl h ih
    unfold encL
    rw [normL_bad l hl h, encS_append, encS_fffd, mayL_fffd]; exact ih
  · intro l h ih
    unfold encL
    rw [normL_sign l h, encS_append]
    rcases sgn_parts l h with ⟨c, hc, h0, h1⟩ | hh
    · rw [hc]
      have e : encS [c] = encB c := by rw [encS_cons, encS_nil, List.append_nil]
      rw [e, may_ascii _ _ (encB_low c h0 h1)]; exact ih
    · rw [encS_high _ hh, mayL_take l _ h]; exact ih
theorem enc_enc (l : List UInt8) : encL (encL l) = encS (encL l) := by
  show encS (normL (encL l)) = _
  rw [norm_of_may _ (may_enc l)]

/-! ### no sign that could end a text -/
def ends (c : UInt8) : Prop := c = 60 ∨ c = 62 ∨ c = 34 ∨ c = 39 ∨ c = 13 ∨ c = 0
theorem encB_safe (c : UInt8) (h0 : c ≠ 0) : ∀ d ∈ encB c, d ≠ 60 ∧ d ≠ 62 ∧ d ≠ 34 ∧ d ≠ 39 ∧ d ≠ 13 ∧ d ≠ 0 := by
  unfold encB
  split
  · decide
  split
  · decide
  split
  · decide
  split
  · decide
  split
  · decide
  split
  · decide
  · rename_i h1 h2 h3 h4 h5 h6
    intro d hd
    simp at hd
    subst hd
    exact ⟨h2, h3, h4, h5, h6, h0⟩
theorem norm_nonzero (l : List UInt8) : ∀ c ∈ normL l, c ≠ 0 := by
  refine ind (p := fun l => ∀ c ∈ normL l, c ≠ 0) (by intro c hc; cases hc) ?_ ?_ l
  · intro l hl h ih c hc
    rw [normL_bad l hl h, List.mem_append] at hc
    rcases hc with hc | hc
    · revert c; decide
    · exact ih c hc
  · intro l h ih c hc
    rw [normL_sign l h, List.mem_append] at hc
    rcases hc with hc | hc
    · rcases sgn_parts l h with ⟨d, hd, h0, _⟩ | hh
      · rw [hd] at hc
        simp at hc
        subst hc; exact h0
      · intro e
        have := hh c hc
        subst e
        simp at this
    · exact ih c hc
theorem enc_safe (l : List UInt8) : ∀ d ∈ encL l, d ≠ 60 ∧ d ≠ 62 ∧ d ≠ 34 ∧ d ≠ 39 ∧ d ≠ 13 ∧ d ≠ 0 := by
  intro d hd
  unfold encL encS at hd
  rw [List.mem_flatMap] at hd
  obtain ⟨c, hc, hd⟩ := hd
  exact encB_safe c (norm_nonzero l c hc) d hd
end Go.Proofs.Ytbhmepedegbgjaa.Pl
