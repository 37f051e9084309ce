/-
  PLAIN: what the laws of addresses say.
-/
import Derived.Test.YtfjhbhddfpkebaaDoorQPlain
namespace Go.Proofs.YtfjhbhddfpkebaaDoor
theorem Ug.norm_ascii {l : List UInt8} (h : ∀ d ∈ l, 33 ≤ d.toNat ∧ d.toNat < 128) : Pl.normL l = l := by
  refine Pl.norm_of_may l ?_
  have := Pl.may_ascii l [] (fun c hc => ⟨fun e => by have := (h c hc).1; rw [e] at this; exact absurd this (by decide), (h c hc).2⟩)
  rw [List.append_nil] at this
  rw [this]
  rfl
theorem Ug.sign_facts (c : UInt8) (h : Ug.sign c = true) : Ug.stays Ug.more c = true ∧ c ≠ 37 ∧ c ≠ 58 ∧ 33 ≤ c.toNat ∧ Ug.gap c = false := by
  have := Ug.all (p := fun c => !Ug.sign c || (Ug.stays Ug.more c && !decide (c = 37) && !decide (c = 58) && decide (33 ≤ c.toNat) && !Ug.gap c)) (by decide +kernel) c
  rw [h] at this
  simpa [Bool.and_eq_true, and_assoc] using this
theorem Ug.letter_facts (c : UInt8) (h : Pl.letter c = true) : Ug.sign c = true ∧ 33 ≤ c.toNat := by
  have hs : Ug.sign c = true := by unfold Ug.sign; rw [h]; rfl
  exact ⟨hs, (Ug.sign_facts c hs).2.2.2.1⟩
/-- a scheme written out: signs, the first a letter, and a ':' -/
theorem Ug.of_parts {t a : List UInt8} (h : Ug.of t = some a) : ∃ c b r, Pl.letter c = true ∧ (∀ d ∈ c :: b, Ug.sign d = true) ∧ t = (c :: b) ++ 58 :: r ∧ a = Pl.lowL (c :: b) := by
  unfold Ug.of at h
  split at h
  · next q =>
    injection h with h
    obtain ⟨q1, q2⟩ := q
    cases t with
    | nil => simp at q2
    | cons c t =>
      have hc : Pl.letter c = true := q1
      have hs := (Ug.letter_facts c hc).1
      have htw : (c :: t).takeWhile Ug.sign = c :: t.takeWhile Ug.sign := by rw [List.takeWhile_cons, if_pos hs]
      have hsplit : (c :: t) = (c :: t).takeWhile Ug.sign ++ (c :: t).dropWhile Ug.sign := (List.takeWhile_append_dropWhile).symm
      have hd : ∃ r, (c :: t).dropWhile Ug.sign = 58 :: r := by
        have h2 : ((c :: t).takeWhile Ug.sign ++ (c :: t).dropWhile Ug.sign)[((c :: t).takeWhile Ug.sign).length]? = some 58 := by rw [← hsplit]; exact q2
        rw [List.getElem?_append_right (Nat.le_refl _), Nat.sub_self] at h2
        cases hq : (c :: t).dropWhile Ug.sign with
        | nil => rw [hq] at h2; simp at h2
        | cons x r => rw [hq] at h2; simp at h2; exact ⟨r, by rw [h2]⟩
      obtain ⟨r, hr⟩ := hd
      refine ⟨c, t.takeWhile Ug.sign, r, hc, ?_, ?_, ?_⟩
      · rw [← htw]
        intro d hd'
        exact List.all_eq_true.1 (List.all_takeWhile) d hd'
      · rw [← htw, ← hr]
        exact hsplit
      · rw [← htw]
        exact h.symm
  · cases h
theorem Ug.takeWhile_parts (b r : List UInt8) (h : ∀ d ∈ b, Ug.sign d = true) : (b ++ 58 :: r).takeWhile Ug.sign = b := by
  induction b with
  | nil => rfl
  | cons c b ih => rw [List.cons_append, List.takeWhile_cons, if_pos (h c List.mem_cons_self), ih fun d hd => h d (List.mem_cons_of_mem _ hd)]
theorem Ug.of_mk {c : UInt8} {b r : List UInt8} (hc : Pl.letter c = true) (h : ∀ d ∈ c :: b, Ug.sign d = true) : Ug.of ((c :: b) ++ 58 :: r) = some (Pl.lowL (c :: b)) := by
  have htw := Ug.takeWhile_parts (c :: b) r h
  unfold Ug.of
  rw [htw, if_pos]
  refine ⟨hc, ?_⟩
  rw [List.getElem?_append_right (Nat.le_refl _), Nat.sub_self]
  rfl
/-- what stands at the head of what was told stood there before -/
theorem Ug.pct_head : ∀ (b n r : List UInt8), (∀ d ∈ b, d ≠ 37) → Ug.pct Ug.more n = b ++ r → ∃ m, n = b ++ m ∧ Ug.pct Ug.more m = r
  | [], n, r, _, h => ⟨n, rfl, h⟩
  | c :: b, n, r, hb, h => by
    cases n with
    | nil => cases h
    | cons x n =>
      rw [Ug.pct_cons] at h
      unfold Ug.byte at h
      by_cases hx : Ug.stays Ug.more x = true
      · rw [if_pos hx] at h
        injection h with h1 h2
        obtain ⟨m, e, hm⟩ := Ug.pct_head b n r (fun d hd => hb d (List.mem_cons_of_mem _ hd)) h2
        exact ⟨m, by rw [e, h1]; rfl, hm⟩
      · rw [if_neg hx] at h
        injection h with h1 h2
        exact absurd h1.symm (hb c List.mem_cons_self)
/-- the scheme of what was told stood there before -/
theorem Ug.of_pct {n a : List UInt8} (h : Ug.of (Ug.pct Ug.more n) = some a) : Ug.scheme n = some a := by
  obtain ⟨c, b, r, hc, hs, ht, ha⟩ := Ug.of_parts h
  obtain ⟨m, hn, _⟩ := Ug.pct_head ((c :: b) ++ [58]) n r (fun d hd => by
    rcases List.mem_append.1 hd with q | q
    · exact (Ug.sign_facts d (hs d q)).2.1
    · rw [List.mem_singleton.1 q]; decide) (by rw [ht, List.append_assoc]; rfl)
  have hstrip : Ug.strip n = (c :: b) ++ 58 :: m.filter fun c => !Ug.gap c := by
    unfold Ug.strip
    rw [hn]
    have h1 : ((c :: b) ++ [58] ++ m).dropWhile (fun c => decide (c.toNat ≤ 32)) = (c :: b) ++ [58] ++ m := by
      show (c :: (b ++ [58] ++ m)).dropWhile _ = _
      rw [List.dropWhile_cons, if_neg]
      · rfl
      · have := (Ug.letter_facts c hc).2
        simp
        omega
    rw [h1, List.filter_append, List.filter_append]
    have h2 : (c :: b).filter (fun c => !Ug.gap c) = c :: b := by
      rw [List.filter_eq_self]
      intro d hd
      rw [(Ug.sign_facts d (hs d hd)).2.2.2.2]
      rfl
    rw [h2, List.append_assoc]
    rfl
  unfold Ug.scheme
  rw [hstrip, Ug.of_mk hc hs, ha]
/-- what Start tells: all of it stays -/
theorem Ug.start_stays (l : List UInt8) : ∀ d ∈ Ug.start l, Ug.stays Ug.more d = true := by
  have hno : ∀ d ∈ Ug.no, Ug.stays Ug.more d = true := by decide
  unfold Ug.start
  split
  · split
    · exact Ug.pct_more _
    · exact hno
  · exact Ug.pct_more _
theorem Ug.start_scheme (l : List UInt8) : Ug.scheme (Ug.start l) = none ∨ ∃ a, Ug.scheme (Ug.start l) = some a ∧ Ug.known a = true := by
  have hst : Ug.strip (Ug.start l) = Ug.start l := Ug.strip_safe fun d hd => by
    have := (Ug.more_safe d (Ug.start_stays l d hd)).1
    unfold Ug.safe at this
    simp only [Bool.and_eq_true, decide_eq_true_eq] at this
    omega
  cases hs : Ug.scheme (Ug.start l) with
  | none => exact .inl rfl
  | some a =>
    refine .inr ⟨a, rfl, ?_⟩
    unfold Ug.scheme at hs
    rw [hst] at hs
    unfold Ug.start at hs
    split at hs
    · next s e =>
      split at hs
      · next k =>
        have := Ug.of_pct hs
        rw [e] at this
        injection this with this
        rw [← this]
        exact k
      · rw [show Ug.of Ug.no = none by decide] at hs
        cases hs
    · next e =>
      have := Ug.of_pct hs
      rw [e] at this
      cases this
theorem Ug.sober_facts (d : UInt8) (h : Ug.sober d = true) : 33 ≤ d.toNat ∧ d.toNat < 127 ∧ d ≠ 58 := by
  unfold Ug.sober Ug.safe at h
  simp only [Bool.and_eq_true, decide_eq_true_eq, Bool.not_eq_true', decide_eq_false_iff_not] at h
  exact ⟨by omega, by omega, h.1.1.1.1.2⟩
theorem Ug.part_scheme (l : List UInt8) : Ug.scheme (Ug.part l) = none := by
  have h := Ug.pct_part (Pl.normL l)
  show Ug.of (Ug.strip (Ug.pct Ug.plain (Pl.normL l))) = none
  rw [Ug.strip_safe fun d hd => (Ug.sober_facts d (h d hd)).1]
  exact Ug.of_colon fun d hd => (Ug.sober_facts d (h d hd)).2.2
/-- a part behind what Start tells brings no scheme -/
theorem Ug.both {s t b : List UInt8} (h : Ug.scheme (Ug.start s ++ Ug.part t) = some b) : Ug.scheme (Ug.start s) = some b := by
  have hx : ∀ d ∈ Ug.start s, 33 ≤ d.toNat := fun d hd => by
    have := (Ug.more_safe d (Ug.start_stays s d hd)).1
    unfold Ug.safe at this
    simp only [Bool.and_eq_true, decide_eq_true_eq] at this
    omega
  have hy := Ug.pct_part (Pl.normL t)
  unfold Ug.scheme at h ⊢
  rw [Ug.strip_safe (fun d hd => by
    rcases List.mem_append.1 hd with q | q
    · exact hx d q
    · exact (Ug.sober_facts d (hy d q)).1)] at h
  rw [Ug.strip_safe hx]
  obtain ⟨c, b', r, hc, hs, ht, hb⟩ := Ug.of_parts h
  -- the ':' stands in the first part
  have hlen : (c :: b').length < (Ug.start s).length := by
    refine Nat.lt_of_not_le fun hle => ?_
    have h1 : (Ug.start s ++ Ug.part t)[(c :: b').length]? = some 58 := by
      rw [ht, List.getElem?_append_right (Nat.le_refl _), Nat.sub_self]
      rfl
    rw [List.getElem?_append_right hle] at h1
    exact (Ug.sober_facts 58 (hy 58 (List.mem_of_getElem? h1))).2.2 rfl
  have hx2 : Ug.start s = (c :: b') ++ 58 :: r.take ((Ug.start s).length - (c :: b').length - 1) := by
    have h1 : Ug.start s = ((c :: b') ++ 58 :: r).take (Ug.start s).length := by rw [← ht, List.take_left]
    rw [List.take_append] at h1
    rw [List.take_of_length_le (Nat.le_of_lt hlen)] at h1
    obtain ⟨k, hk⟩ : ∃ k, (Ug.start s).length - (c :: b').length = k + 1 := ⟨_, (Nat.sub_add_cancel (by omega)).symm⟩
    rw [hk, List.take_succ_cons] at h1
    rw [hk, Nat.add_sub_cancel]
    exact h1
  rw [hx2, Ug.of_mk hc hs, hb]
/-- what Start tells is its own Start -/
theorem Ug.start_start (l : List UInt8) : Ug.start (Ug.start l) = Ug.start l := by
  have h1 : Pl.normL (Ug.start l) = Ug.start l := Ug.norm_ascii fun d hd => by
    have := Ug.more_safe d (Ug.start_stays l d hd)
    unfold Ug.safe at this
    simp only [Bool.and_eq_true, decide_eq_true_eq] at this
    omega
  have h2 := Ug.start_scheme l
  have h3 := Ug.pct_stays (Ug.start_stays l)
  generalize Ug.start l = x at *
  unfold Ug.start
  rw [h1]
  rcases h2 with q | ⟨a, q, k⟩
  · rw [q]
    exact h3
  · rw [q]
    show (if Ug.known a = true then _ else _) = _
    rw [if_pos k]
    exact h3
theorem Ug.part_ascii (l : List UInt8) : Pl.normL (Ug.part l) = Ug.part l := Ug.norm_ascii fun d hd => by
  have := Ug.sober_facts d (Ug.pct_part _ d hd)
  omega
theorem Ug.plain_stays (c : UInt8) : ∀ d ∈ Ug.byte Ug.plain c, d ≠ 37 → Ug.stays Ug.plain d = true := by
  have h := Ug.all (p := fun c => (Ug.byte Ug.plain c).all fun d => decide (d = 37) || Ug.stays Ug.plain d) (by decide +kernel) c
  intro d hd hn
  have := List.all_eq_true.1 h d hd
  simpa [hn] using this
/-- a Part is its own Part, if it has no '%' -/
theorem Ug.part_part (l : List UInt8) : (Ug.part (Ug.part l) = Ug.part l) ↔ ∀ d ∈ Ug.part l, d ≠ 37 := by
  constructor
  · intro h d hd e
    subst e
    have h1 : (Ug.part (Ug.part l)).length = (Ug.part l).length := by rw [h]
    have h2 : Ug.part (Ug.part l) = Ug.pct Ug.plain (Ug.part l) := by
      show Ug.pct Ug.plain (Pl.normL (Ug.part l)) = _
      rw [Ug.part_ascii]
    rw [h2] at h1
    obtain ⟨a, b, e⟩ := List.append_of_mem hd
    rw [e, Ug.pct_append, Ug.pct_cons, List.length_append, List.length_append, List.length_append, List.length_cons] at h1
    have ha := (Ug.pct_len Ug.plain a).1
    have hb := (Ug.pct_len Ug.plain b).1
    have hc : (Ug.byte Ug.plain 37).length = 3 := by decide
    omega
  · intro h
    show Ug.pct Ug.plain (Pl.normL (Ug.part l)) = _
    rw [Ug.part_ascii]
    refine Ug.pct_stays fun d hd => ?_
    obtain ⟨c, _, hc⟩ := List.mem_flatMap.1 hd
    exact Ug.plain_stays c d hc (h d hd)
/-- bytes that stay in both, behind and ahead of others -/
theorem Ug.plain_more (c : UInt8) (h : Ug.stays Ug.plain c = true) : Ug.stays Ug.more c = true ∧ 33 ≤ c.toNat ∧ c.toNat < 128 ∧ c ≠ 58 := by
  have := Ug.all (p := fun c => !Ug.stays Ug.plain c || (Ug.stays Ug.more c && decide (33 ≤ c.toNat) && decide (c.toNat < 128) && !decide (c = 58))) (by decide +kernel) c
  rw [h] at this
  simpa [Bool.and_eq_true, and_assoc] using this
theorem Ug.start_none {l : List UInt8} (h : Ug.scheme (Pl.normL l) = none) : Ug.start l = Ug.pct Ug.more (Pl.normL l) := by
  unfold Ug.start
  rw [h]
theorem Ug.plain_part {t : List UInt8} (h : ∀ d ∈ t, Ug.stays Ug.plain d = true) : Ug.part t = t ∧ Ug.start t = t := by
  have hn : Pl.normL t = t := Ug.norm_ascii fun d hd => by have := Ug.plain_more d (h d hd); omega
  refine ⟨?_, ?_⟩
  · show Ug.pct Ug.plain (Pl.normL t) = t
    rw [hn]
    exact Ug.pct_stays h
  · rw [Ug.start_none, hn]
    · exact Ug.pct_stays fun d hd => (Ug.plain_more d (h d hd)).1
    · rw [hn]
      unfold Ug.scheme
      rw [Ug.strip_safe fun d hd => (Ug.plain_more d (h d hd)).2.1]
      exact Ug.of_colon fun d hd => (Ug.plain_more d (h d hd)).2.2.2
/-- a '/' ahead: no scheme -/
theorem Ug.slash {l : List UInt8} (h : ∀ d ∈ l, Ug.stays Ug.more d = true) : Ug.start (47 :: l) = 47 :: l := by
  have hall : ∀ d ∈ 47 :: l, Ug.stays Ug.more d = true := fun d hd => by
    rcases List.mem_cons.1 hd with q | q
    · rw [q]; decide
    · exact h d q
  have hf : ∀ d ∈ 47 :: l, 33 ≤ d.toNat ∧ d.toNat < 128 := fun d hd => by
    have := Ug.more_safe d (hall d hd)
    unfold Ug.safe at this
    simp only [Bool.and_eq_true, decide_eq_true_eq] at this
    omega
  have hn := Ug.norm_ascii hf
  rw [Ug.start_none, hn]
  · exact Ug.pct_stays hall
  · rw [hn]
    unfold Ug.scheme
    rw [Ug.strip_safe fun d hd => (hf d hd).1]
    unfold Ug.of
    rw [if_neg]
    rintro ⟨q, _⟩
    exact absurd (show Pl.letter 47 = true from q) (by decide)
end Go.Proofs.YtfjhbhddfpkebaaDoor
