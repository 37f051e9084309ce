/-
  PLAIN: words that are written are read again: word by word.
-/
import Derived.Test.YtnophkbbeipaaaaOBack
import Derived.Test.YtnophkbbeipaaaaOWords
namespace Go.Proofs.Ytnophkbbeipaaaa
theorem Wx.hd {S l : List UInt8} {c : UInt8} {p : Nat} (h : S.drop p = c :: l) : S.getD p 0 = c ∧ p < S.length := by
  have := Wx.at0 h
  refine ⟨?_, (List.getElem?_eq_some_iff.1 this).1⟩
  rw [List.getD_eq_getElem?_getD, this]
  rfl
theorem Wx.ends_gap {S rest : List UInt8} {q : Nat} (k : Nat) (hS : S.drop q = rest) (hg : Wx.gap rest) : Wx.ends S k q = true := by
  unfold Wx.ends
  rcases hg with rfl | ⟨c, r, rfl, hb⟩
  · rw [decide_eq_true (List.drop_eq_nil_iff.1 hS)]
    simp
  · rw [(Wx.hd hS).1, hb]
    simp
theorem Wx.sign_off (c : UInt8) (h : Wx.sign true c = true) : c ≠ 124 ∧ c ≠ 58 ∧ c ≠ 34 ∧ c ≠ 45 ∧ Pl.digit c = false ∧ c ≠ 46 ∧ c ≠ 36 ∧ Lx.blank c = false := by
  have : ∀ n : Nat, n < 256 → Wx.sign true (UInt8.ofNat n) = true → UInt8.ofNat n ≠ 124 ∧ UInt8.ofNat n ≠ 58 ∧ UInt8.ofNat n ≠ 34 ∧ UInt8.ofNat n ≠ 45 ∧ Pl.digit (UInt8.ofNat n) = false ∧ UInt8.ofNat n ≠ 46 ∧ UInt8.ofNat n ≠ 36 ∧ Lx.blank (UInt8.ofNat n) = false := by decide +kernel
  have h2 := this c.toNat c.toNat_lt
  rw [UInt8.ofNat_toNat] at h2
  exact h2 h
theorem Wx.digit_off (c : UInt8) (h : Pl.digit c = true) : c ≠ 124 ∧ c ≠ 58 ∧ c ≠ 34 ∧ Lx.blank c = false := by
  have : ∀ n : Nat, n < 256 → Pl.digit (UInt8.ofNat n) = true → UInt8.ofNat n ≠ 124 ∧ UInt8.ofNat n ≠ 58 ∧ UInt8.ofNat n ≠ 34 ∧ Lx.blank (UInt8.ofNat n) = false := by decide +kernel
  have h2 := this c.toNat c.toNat_lt
  rw [UInt8.ofNat_toNat] at h2
  exact h2 h
theorem Wx.nm_head {t : List UInt8} (h : Wx.nm t) : ∃ c r, t = c :: r ∧ Wx.sign true c = true := by
  obtain ⟨h1, h2, _⟩ := h
  cases t with
  | nil => exact absurd rfl h2
  | cons c r =>
    unfold Wx.signs at h1
    rw [Bool.and_eq_true] at h1
    exact ⟨c, r, rfl, h1.1⟩
theorem Wx.or_some {α β : Type} {o : Option α} {a : α} {e : Int} {f : α → β} (h : o = some a) : (Wx.or o e).map f = .ok (f a) := by
  subst h; rfl
/-- a name that stands by itself -/
theorem Wx.word0 {S rest t : List UInt8} {p : Nat} (ht : Wx.nm t) (hS : S.drop p = t ++ rest) (hg : Wx.off rest) : Wx.word S p = .ok (⟨0, t, [], 0⟩, p + t.length) := by
  have hn := Wx.name_back ht hS hg
  obtain ⟨c, r, rfl, hc⟩ := Wx.nm_head ht
  obtain ⟨q1, q2, q3, q4, q5, q6, q7, _⟩ := Wx.sign_off c hc
  unfold Wx.word
  simp only
  rw [(Wx.hd (l := r ++ rest) hS).1, if_neg q1, if_neg (fun h => q2 h.1), if_neg q3, if_neg (fun h => h.elim q4 (fun h => by rw [q5] at h; cases h)), if_neg q6, if_neg q7]
  exact Wx.or_some hn
/-- a number that stands by itself -/
theorem Wx.word3 {S rest : List UInt8} {p z : Nat} (u : Nat) (neg : Bool) (hu : u ≤ 9007199254740991) (hS : S.drop p = (if neg = true then [45] else []) ++ (List.replicate z 48 ++ (Lib.decDigits u ++ rest))) (hr : rest = [] ∨ ∃ c r, rest = c :: r ∧ Pl.digit c = false) : Wx.word S p = .ok (⟨3, [], [], if neg = true then -(u : Int) else (u : Int)⟩, p + ((if neg = true then 1 else 0) + (z + (Lib.decDigits u).length))) := by
  have hn := Wx.int_back u neg hu hS hr
  obtain ⟨c, l, e, hc⟩ : ∃ c l, (if neg = true then [45] else []) ++ (List.replicate z 48 ++ (Lib.decDigits u ++ rest)) = c :: l ∧ (c = 45 ∨ Pl.digit c = true) := by
    cases neg with
    | true => exact ⟨45, _, rfl, .inl rfl⟩
    | false =>
      cases z with
      | zero =>
        cases hq : Lib.decDigits u with
        | nil => exact absurd hq (Dm.digits_ne u)
        | cons c l => exact ⟨c, l ++ rest, rfl, .inr (Wx.dec_digit u c (by rw [hq]; exact List.mem_cons_self ..))⟩
      | succ z => exact ⟨48, _, rfl, .inr (by decide)⟩
  rw [e] at hS
  have ho : c ≠ 124 ∧ c ≠ 58 ∧ c ≠ 34 := by
    rcases hc with rfl | hc
    · decide
    · exact ⟨(Wx.digit_off c hc).1, (Wx.digit_off c hc).2.1, (Wx.digit_off c hc).2.2.1⟩
  unfold Wx.word
  simp only
  rw [(Wx.hd hS).1, if_neg ho.1, if_neg (fun h => ho.2.1 h.1), if_neg ho.2.2, if_pos hc]
  exact Wx.or_some hn
theorem Wx.word_back {S rest : List UInt8} {p : Nat} {x : Wo} (hx : Wx.good x) (hS : S.drop p = Wx.wr x ++ rest) (hg : Wx.gap rest) : Wx.word S p = .ok (x, p + (Wx.wr x).length) ∧ ∃ c l, Wx.wr x = c :: l ∧ Lx.blank c = false := by
  obtain ⟨k, t, ps, m⟩ := x
  have hgd : rest = [] ∨ ∃ c r, rest = c :: r ∧ Pl.digit c = false := by
    rcases hg with h | ⟨c, r, h, hb⟩
    · exact .inl h
    · exact .inr ⟨c, r, h, (Wx.blank_off c hb).2.1⟩
  rcases hx with h | h | h | h | h | h | h <;> simp only at h
  · obtain ⟨rfl, h1, rfl, rfl⟩ := h
    obtain ⟨c, r, e, hc⟩ := Wx.nm_head h1
    exact ⟨Wx.word0 h1 hS hg.off, c, r, e, (Wx.sign_off c hc).2.2.2.2.2.2.2⟩
  · obtain ⟨rfl, rfl, h1, rfl⟩ := h
    cases ps with
    | nil =>
      have hS : S.drop p = 46 :: rest := hS
      refine ⟨?_, 46, [], rfl, by decide⟩
      unfold Wx.word
      simp only
      rw [(Wx.hd hS).1, if_neg (by decide), if_neg (fun h => absurd h.1 (by decide)), if_neg (by decide), if_neg (fun h => h.elim (by decide) (by decide)), if_pos rfl, if_neg]
      · rfl
      · intro hh
        have hq : S.drop (p + 1) = rest := Wx.drop_more (a := [46]) hS
        rcases hg with rfl | ⟨c, r, rfl, hb⟩
        · have := List.drop_eq_nil_iff.1 hq
          omega
        · have h3 := hh.2.1
          rw [(Wx.hd hq).1, hb] at h3
          cases h3
    | cons t ps =>
      have hw : Wx.wr ⟨1, [], t :: ps, 0⟩ = Wx.dots (t :: ps) := rfl
      rw [hw] at hS ⊢
      obtain ⟨c, r, rfl, hc⟩ := Wx.nm_head (h1.2 t (List.mem_cons_self ..))
      have hd : Wx.dots ((c :: r) :: ps) = 46 :: c :: (r ++ Wx.dots ps) := by simp [Wx.dots]
      have hpb := Wx.path_back h1 hS hg
      rw [hd] at hS
      have hq : S.drop (p + 1) = c :: (r ++ Wx.dots ps) ++ rest := Wx.drop_more (a := [46]) hS
      obtain ⟨q1, q2, q3, q4, q5, q6, q7, q8⟩ := Wx.sign_off c hc
      refine ⟨?_, 46, _, hd, by decide⟩
      unfold Wx.word
      simp only
      rw [(Wx.hd hS).1, if_neg (by decide), if_neg (fun h => absurd h.1 (by decide)), if_neg (by decide), if_neg (fun h => h.elim (by decide) (by decide)), if_pos rfl, if_pos ⟨(Wx.hd hq).2, by rw [(Wx.hd hq).1]; exact q8, by rw [(Wx.hd hq).1]; exact q1⟩]
      exact Wx.or_some hpb
  · obtain ⟨rfl, h1, h2, rfl⟩ := h
    have hw : Wx.wr ⟨2, t, ps, 0⟩ = 36 :: (t ++ Wx.dots ps) := rfl
    rw [hw] at hS ⊢
    have hS : S.drop p = 36 :: (t ++ (Wx.dots ps ++ rest)) := by rw [hS]; simp
    have hq : S.drop (p + 1) = t ++ (Wx.dots ps ++ rest) := Wx.drop_more (a := [36]) hS
    have hn := Wx.name_back h1 hq (Wx.off_dots ps hg.off)
    have hpb := Wx.path_back h2 (Wx.drop_more hq) hg
    refine ⟨?_, 36, _, rfl, by decide⟩
    unfold Wx.word
    simp only
    rw [(Wx.hd hS).1, if_neg (by decide), if_neg (fun h => absurd h.1 (by decide)), if_neg (by decide), if_neg (fun h => h.elim (by decide) (by decide)), if_neg (by decide), if_pos rfl, hn]
    simp only
    rw [Wx.or_some hpb, List.length_cons, List.length_append, show p + 1 + t.length + (Wx.dots ps).length = p + (t.length + (Wx.dots ps).length + 1) by omega]
  · obtain ⟨rfl, rfl, rfl, h1, h2⟩ := h
    have hw : Wx.wr ⟨3, [], [], m⟩ = if m < 0 then 45 :: Lib.decDigits (-m).toNat else Lib.decDigits m.toNat := rfl
    rw [hw] at hS ⊢
    by_cases hm : m < 0
    · rw [if_pos hm] at hS ⊢
      have h3 := Wx.word3 (z := 0) (-m).toNat true (by omega) (hS.trans (by simp)) hgd
      refine ⟨?_, 45, _, rfl, by decide⟩
      rw [h3, if_pos rfl, if_pos rfl, show -((-m).toNat : Int) = m by omega, List.length_cons, show 1 + (0 + (Lib.decDigits (-m).toNat).length) = (Lib.decDigits (-m).toNat).length + 1 by omega]
    · rw [if_neg hm] at hS ⊢
      have h3 := Wx.word3 (z := 0) m.toNat false (by omega) (hS.trans (by simp)) hgd
      refine ⟨?_, ?_⟩
      · rw [h3, if_neg (by decide), if_neg (by decide), show (m.toNat : Int) = m by omega, show 0 + (0 + (Lib.decDigits m.toNat).length) = (Lib.decDigits m.toNat).length by omega]
      · cases hq : Lib.decDigits m.toNat with
        | nil => exact absurd hq (Dm.digits_ne _)
        | cons c l => exact ⟨c, l, rfl, (Wx.digit_off c (Wx.dec_digit m.toNat c (by rw [hq]; exact List.mem_cons_self ..))).2.2.2⟩
  · obtain ⟨rfl, rfl, rfl⟩ := h
    have hw : Wx.wr ⟨4, t, [], 0⟩ = 34 :: (t.flatMap Wx.esc ++ [34]) := rfl
    rw [hw] at hS ⊢
    have hS : S.drop p = 34 :: (t.flatMap Wx.esc ++ 34 :: rest) := by rw [hS]; simp
    have hq : S.drop (p + 1) = t.flatMap Wx.esc ++ 34 :: rest := Wx.drop_more (a := [34]) hS
    have ht := Wx.text_back t (p + 1) [] rest
    rw [← hq] at ht
    refine ⟨?_, 34, _, rfl, by decide⟩
    unfold Wx.word
    simp only
    rw [(Wx.hd hS).1, if_neg (by decide), if_neg (fun h => absurd h.1 (by decide)), if_pos rfl, Wx.or_some ht, List.length_cons, List.length_append, List.length_singleton, show p + 1 + (t.flatMap Wx.esc).length + 1 = p + ((t.flatMap Wx.esc).length + 1 + 1) by omega]
    rfl
  · obtain ⟨rfl, rfl, rfl, rfl⟩ := h
    have hS : S.drop p = 124 :: rest := hS
    refine ⟨?_, 124, [], rfl, by decide⟩
    unfold Wx.word
    simp only
    rw [(Wx.hd hS).1, if_pos rfl]
    rfl
  · obtain ⟨rfl, rfl, rfl, rfl⟩ := h
    have hS : S.drop p = 58 :: 61 :: rest := hS
    have hq : S.drop (p + 1) = 61 :: rest := Wx.drop_more (a := [58]) hS
    refine ⟨?_, 58, [61], rfl, by decide⟩
    unfold Wx.word
    simp only
    rw [(Wx.hd hS).1, if_neg (by decide), if_pos ⟨rfl, Wx.at0 hq⟩]
    rfl
theorem Wx.skip_over : ∀ (g : List UInt8) (i : Nat) (r : List UInt8), (∀ c ∈ g, Lx.blank c = true) → (r = [] ∨ ∃ c l, r = c :: l ∧ Lx.blank c = false) → Lx.skip i (g ++ r) = i + g.length := by
  intro g
  induction g with
  | nil =>
    intro i r _ hr
    rcases hr with rfl | ⟨c, l, rfl, hc⟩
    · rfl
    · rw [List.nil_append, Lx.skip, if_neg (by rw [hc]; decide)]
      rfl
  | cons c g ih =>
    intro i r hg hr
    rw [List.cons_append, Lx.skip, if_pos (hg c (List.mem_cons_self ..)), ih _ _ (fun d hd => hg d (List.mem_cons_of_mem _ hd)) hr, List.length_cons]
    omega
/-- words, each with blanks ahead -/
def Wx.line (ps : List (List UInt8 × Wo)) : List UInt8 := ps.flatMap fun p => p.1 ++ Wx.wr p.2
theorem Wx.line_gap (ps : List (List UInt8 × Wo)) (hp : ∀ p ∈ ps, p.1 ≠ [] ∧ ∀ c ∈ p.1, Lx.blank c = true) : Wx.gap (Wx.line ps ++ [32]) := by
  cases ps with
  | nil => exact .inr ⟨32, [], rfl, by decide⟩
  | cons p ps =>
    obtain ⟨h1, h2⟩ := hp p (List.mem_cons_self ..)
    cases hg : p.1 with
    | nil => exact absurd hg h1
    | cons c g =>
      refine .inr ⟨c, g ++ (Wx.wr p.2 ++ (Wx.line ps ++ [32])), ?_, h2 c (by rw [hg]; exact List.mem_cons_self ..)⟩
      simp [Wx.line, hg]
theorem Wx.go_back : ∀ (ps : List (List UInt8 × Wo)) (n : Nat) (S : List UInt8) (i : Nat) (out : List Wo), (∀ p ∈ ps, (p.1 ≠ [] ∧ ∀ c ∈ p.1, Lx.blank c = true) ∧ Wx.good p.2) → ps.length < n → S.drop i = Wx.line ps ++ [32] → Wx.go n S i out = .ok (out ++ ps.map (·.2)) := by
  intro ps
  induction ps with
  | nil =>
    intro n S i out _ hn hS
    have hS : S.drop i = [32] ++ [] := hS
    have hl := congrArg List.length hS
    rw [List.length_drop] at hl
    simp at hl
    rw [Wx.go_end (by simpa using hn) rfl (by rw [hS, Wx.skip_over [32] i [] (fun c hc => by rw [List.mem_singleton.1 hc]; decide) (.inl rfl)]; simp; omega)]
    simp
  | cons p ps ih =>
    intro n S i out hp hn hS
    obtain ⟨⟨h1, h2⟩, h3⟩ := hp p (List.mem_cons_self ..)
    have hrest := Wx.line_gap ps (fun q hq => (hp q (List.mem_cons_of_mem _ hq)).1)
    have hS1 : S.drop i = p.1 ++ (Wx.wr p.2 ++ (Wx.line ps ++ [32])) := by rw [hS]; simp [Wx.line]
    have hS2 := Wx.drop_more hS1
    obtain ⟨hw, c, l, e, hb⟩ := Wx.word_back h3 hS2 hrest
    have hsk : Lx.skip i (S.drop i) = i + p.1.length := by
      rw [hS1]
      exact Wx.skip_over p.1 i _ h2 (.inr ⟨c, l ++ (Wx.line ps ++ [32]), by rw [e]; rfl, hb⟩)
    have hlt : i + p.1.length < S.length := by
      rw [e] at hS2
      exact (Wx.hd hS2).2
    rw [Wx.go_word (by simp at hn; omega) hsk hlt, hw]
    simp only
    rw [Wx.ends_gap p.2.kind (Wx.drop_more hS2) hrest, if_pos rfl, ih (n - 1) S _ (out ++ [p.2]) (fun q hq => hp q (List.mem_cons_of_mem _ hq)) (by simp at hn; omega) (Wx.drop_more hS2)]
    simp
theorem Wx.line_len : ∀ (ps : List (List UInt8 × Wo)), (∀ p ∈ ps, p.1 ≠ []) → ps.length ≤ (Wx.line ps).length := by
  intro ps
  induction ps with
  | nil => intro _; simp
  | cons p ps ih =>
    intro h
    have h1 := ih (fun q hq => h q (List.mem_cons_of_mem _ hq))
    have h2 : 0 < p.1.length := List.length_pos_iff.2 (h p (List.mem_cons_self ..))
    have : Wx.line (p :: ps) = (p.1 ++ Wx.wr p.2) ++ Wx.line ps := by simp [Wx.line]
    rw [this, List.length_append, List.length_append, List.length_cons]
    omega
theorem Wx.words_back (ps : List (List UInt8 × Wo)) (s : ByteArray) (hs : s.data.toList = Wx.line ps ++ [32]) (hp : ∀ p ∈ ps, (p.1 ≠ [] ∧ ∀ c ∈ p.1, Lx.blank c = true) ∧ Wx.good p.2) : Wx.words s = (ps.map (·.2), 0) := by
  have hl := Wx.line_len ps (fun p h => (hp p h).1.1)
  have hz : s.size = (Wx.line ps).length + 1 := by rw [← Wk.len_data, hs]; simp
  unfold Wx.words
  rw [Wx.go_back ps (s.size + 1) s.data.toList 0 [] hp (by omega) (by rw [hs]; rfl)]
  rfl
end Go.Proofs.Ytnophkbbeipaaaa
