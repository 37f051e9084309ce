/-
  PLAIN: words that are written are read again.
-/
import Derived.Test.YtnophkbbeipaaaaOGood
namespace Go.Proofs.Ytnophkbbeipaaaa
/-- nothing, or a blank first -/
def Wx.gap (l : List UInt8) : Prop := l = [] ∨ ∃ c r, l = c :: r ∧ Lx.blank c = true
theorem Wx.blank_off (c : UInt8) (h : Lx.blank c = true) : Wx.sign false c = false ∧ Pl.digit c = false ∧ c ≠ 46 ∧ c ≠ 124 := by
  have : ∀ n : Nat, n < 256 → Lx.blank (UInt8.ofNat n) = true → Wx.sign false (UInt8.ofNat n) = false ∧ Pl.digit (UInt8.ofNat n) = false ∧ UInt8.ofNat n ≠ 46 ∧ UInt8.ofNat n ≠ 124 := by decide +kernel
  have h2 := this c.toNat c.toNat_lt
  rw [UInt8.ofNat_toNat] at h2
  exact h2 h
/-- what does not go on a name -/
def Wx.off (l : List UInt8) : Prop := l = [] ∨ ∃ c r, l = c :: r ∧ Wx.sign false c = false
theorem Wx.gap.off {l : List UInt8} (h : Wx.gap l) : Wx.off l := by
  rcases h with h | ⟨c, r, h, hb⟩
  · exact .inl h
  · exact .inr ⟨c, r, h, (Wx.blank_off c hb).1⟩
theorem Wx.nend_off (f : Bool) (i : Nat) {l : List UInt8} (hf : f = false) (h : Wx.off l) : Wx.nend f i l = i := by
  subst hf
  rcases h with rfl | ⟨c, r, rfl, hc⟩
  · rfl
  · unfold Wx.nend
    rw [hc]
    rfl
theorem Wx.nend_signs : ∀ (t : List UInt8) (f : Bool) (i : Nat) (rest : List UInt8), Wx.signs f t = true → (t = [] → f = false) → Wx.off rest → Wx.nend f i (t ++ rest) = i + t.length := by
  intro t
  induction t with
  | nil => intro f i rest _ hf ho; exact Wx.nend_off f i (hf rfl) ho
  | cons c t ih =>
    intro f i rest hs _ ho
    unfold Wx.signs at hs
    rw [Bool.and_eq_true] at hs
    rw [List.cons_append, Wx.nend, if_pos hs.1, ih false (i + 1) rest hs.2 (fun _ => rfl) ho, List.length_cons]
    omega
theorem Wx.name_back {S t rest : List UInt8} {p : Nat} (ht : Wx.nm t) (hS : S.drop p = t ++ rest) (ho : Wx.off rest) : Wx.name S p = some (t, p + t.length) := by
  obtain ⟨h1, h2, h3⟩ := ht
  have h4 : 0 < t.length := List.length_pos_iff.2 h2
  unfold Wx.name
  simp only
  rw [hS, Wx.nend_signs t true p rest h1 (fun e => absurd e h2) ho, if_neg (by omega), show p + t.length - p = t.length by omega, List.take_left']
  rfl
theorem Wx.drop_more {S a b : List UInt8} {p : Nat} (h : S.drop p = a ++ b) : S.drop (p + a.length) = b := by
  rw [← List.drop_drop, h, List.drop_left']
  rfl
theorem Wx.at0 {S l : List UInt8} {c : UInt8} {p : Nat} (h : S.drop p = c :: l) : S[p]? = some c := by
  have := List.getElem?_drop (xs := S) (i := p) (j := 0)
  rw [h] at this
  simpa using this.symm
theorem Wx.atN {S : List UInt8} {p : Nat} (j : Nat) : S[p + j]? = (S.drop p)[j]? := (List.getElem?_drop (xs := S) (i := p) (j := j)).symm
theorem Wx.off_dots (p : List (List UInt8)) {rest : List UInt8} (h : Wx.off rest) : Wx.off (Wx.dots p ++ rest) := by
  cases p with
  | nil => exact h
  | cons t p => exact .inr ⟨46, t ++ (Wx.dots p ++ rest), by simp [Wx.dots], by decide⟩
theorem Wx.names_back : ∀ (ps : List (List UInt8)) (n : Nat) (S : List UInt8) (p : Nat) (out : List (List UInt8)) (rest : List UInt8), (∀ t ∈ ps, Wx.nm t) → ps.length < n → S.drop p = Wx.dots ps ++ rest → Wx.gap rest → Wx.names n S p out = some (out ++ ps, p + (Wx.dots ps).length) := by
  intro ps
  induction ps with
  | nil =>
    intro n S p out rest _ hn hS hg
    obtain ⟨m, rfl⟩ : ∃ m, n = m + 1 := ⟨n - 1, by simp at hn; omega⟩
    have hS : S.drop p = rest := hS
    unfold Wx.names
    rw [if_neg]
    · simp [Wx.dots]
    · intro h
      rcases hg with rfl | ⟨c, r, rfl, hb⟩
      · have := Wx.atN (S := S) (p := p) 0
        rw [Nat.add_zero, h, hS] at this
        simp at this
      · rw [Wx.at0 hS] at h
        exact (Wx.blank_off c hb).2.2.1 (by injection h)
  | cons t ps ih =>
    intro n S p out rest hp hn hS hg
    obtain ⟨m, rfl⟩ : ∃ m, n = m + 1 := ⟨n - 1, by simp at hn; omega⟩
    have hS1 : S.drop p = 46 :: (t ++ (Wx.dots ps ++ rest)) := by rw [hS]; simp [Wx.dots]
    have hS2 : S.drop (p + 1) = t ++ (Wx.dots ps ++ rest) := by
      rw [← List.drop_drop, hS1]; rfl
    have hn1 := Wx.name_back (hp t (List.mem_cons_self ..)) hS2 (Wx.off_dots ps hg.off)
    unfold Wx.names
    rw [if_pos (Wx.at0 hS1), hn1]
    simp only
    rw [ih m S (p + 1 + t.length) (out ++ [t]) rest (fun u hu => hp u (List.mem_cons_of_mem _ hu)) (by simp at hn; omega) (Wx.drop_more hS2) hg]
    simp [Wx.dots]
    omega
theorem Wx.dots_len : ∀ (ps : List (List UInt8)), ps.length ≤ (Wx.dots ps).length := by
  intro ps
  induction ps with
  | nil => simp [Wx.dots]
  | cons t ps ih =>
    have : Wx.dots (t :: ps) = 46 :: (t ++ Wx.dots ps) := by simp [Wx.dots]
    rw [this]
    simp
    omega
theorem Wx.path_back {S rest : List UInt8} {p : Nat} {ps : List (List UInt8)} (hp : Wx.nms ps) (hS : S.drop p = Wx.dots ps ++ rest) (hg : Wx.gap rest) : Wx.path S p = some (ps, p + (Wx.dots ps).length) := by
  have hl : ps.length < S.length + 1 := by
    have h1 := congrArg List.length hS
    have h2 := Wx.dots_len ps
    rw [List.length_drop, List.length_append] at h1
    omega
  unfold Wx.path
  rw [Wx.names_back ps (S.length + 1) S p [] rest hp.2 hl hS hg]
  simp only
  rw [if_neg (by have := hp.1; simp; omega)]
  rfl
theorem Wx.text_back : ∀ (t : List UInt8) (i : Nat) (acc rest : List UInt8), Wx.text false i (t.flatMap Wx.esc ++ 34 :: rest) acc = some (acc ++ t, i + (t.flatMap Wx.esc).length + 1) := by
  intro t
  induction t with
  | nil => intro i acc rest; simp [Wx.text]
  | cons c t ih =>
    intro i acc rest
    have hu : ∀ e : List UInt8, Wx.esc c = e → Wx.text false i (e ++ (t.flatMap Wx.esc ++ 34 :: rest)) acc = some (acc ++ (c :: t), i + (e.length + (t.flatMap Wx.esc).length) + 1) → Wx.text false i ((c :: t).flatMap Wx.esc ++ 34 :: rest) acc = some (acc ++ (c :: t), i + ((c :: t).flatMap Wx.esc).length + 1) := fun e he h => by
      rw [List.flatMap_cons, List.append_assoc, he, h, List.length_append]
    by_cases h1 : c = 34 ∨ c = 92
    · refine hu [92, c] (if_pos h1) ?_
      show Wx.text false i (92 :: c :: (t.flatMap Wx.esc ++ 34 :: rest)) acc = _
      rw [Wx.text, if_neg (by decide), if_pos rfl, Wx.text, if_pos h1, ih, List.append_assoc]
      simp only [List.length_cons, List.length_nil, List.singleton_append, Option.some.injEq, Prod.mk.injEq, true_and]
      omega
    by_cases h2 : c = 10
    · refine hu [92, 110] ((if_neg h1).trans (if_pos h2)) ?_
      subst h2
      show Wx.text false i (92 :: 110 :: (t.flatMap Wx.esc ++ 34 :: rest)) acc = _
      rw [Wx.text, if_neg (by decide), if_pos rfl, Wx.text, if_neg (by decide), if_pos rfl, ih, List.append_assoc]
      simp only [List.length_cons, List.length_nil, List.singleton_append, Option.some.injEq, Prod.mk.injEq, true_and]
      omega
    by_cases h3 : c = 9
    · refine hu [92, 116] ((if_neg h1).trans ((if_neg h2).trans (if_pos h3))) ?_
      subst h3
      show Wx.text false i (92 :: 116 :: (t.flatMap Wx.esc ++ 34 :: rest)) acc = _
      rw [Wx.text, if_neg (by decide), if_pos rfl, Wx.text, if_neg (by decide), if_neg (by decide), if_pos rfl, ih, List.append_assoc]
      simp only [List.length_cons, List.length_nil, List.singleton_append, Option.some.injEq, Prod.mk.injEq, true_and]
      omega
    · refine hu [c] ((if_neg h1).trans ((if_neg h2).trans (if_neg h3))) ?_
      show Wx.text false i (c :: (t.flatMap Wx.esc ++ 34 :: rest)) acc = _
      rw [Wx.text, if_neg (fun e => h1 (.inl e)), if_neg (fun e => h1 (.inr e)), ih, List.append_assoc]
      simp only [List.length_cons, List.length_nil, List.singleton_append, Option.some.injEq, Prod.mk.injEq, true_and]
      omega
def Wx.dstep (x : Nat) (c : UInt8) : Nat := if x ≤ 9007199254740991 then 10 * x + (c.toNat - 48) else x
theorem Wx.digs_more : ∀ (l : List UInt8) (i x : Nat) (rest : List UInt8), (∀ c ∈ l, Pl.digit c = true) → Wx.digs i (l ++ rest) x = Wx.digs (i + l.length) rest (l.foldl Wx.dstep x) := by
  intro l
  induction l with
  | nil => intro i x rest _; rfl
  | cons c l ih =>
    intro i x rest h
    rw [List.cons_append, Wx.digs, if_pos (h c (List.mem_cons_self ..)), ih _ _ _ (fun d hd => h d (List.mem_cons_of_mem _ hd))]
    show Wx.digs (i + 1 + l.length) rest (l.foldl Wx.dstep (Wx.dstep x c)) = _
    rw [List.length_cons, show i + 1 + l.length = i + (l.length + 1) by omega]
    rfl
theorem Wx.digs_val (u : Nat) : u ≤ 9007199254740991 → (Lib.decDigits u).foldl Wx.dstep 0 = u := by
  induction u using Nat.strongRecOn with
  | ind u ih =>
    intro hu
    rw [Lib.decDigits]
    split
    · rename_i h
      show Wx.dstep 0 _ = u
      have e : (UInt8.ofNat (48 + u)).toNat = 48 + u := UInt8.toNat_ofNat_of_lt (by show _ < 256; omega)
      unfold Wx.dstep
      rw [if_pos (Nat.zero_le _), e]
      omega
    · rename_i h
      rw [List.foldl_append, ih (u / 10) (by omega) (by omega)]
      show Wx.dstep (u / 10) _ = u
      have e : (UInt8.ofNat (48 + u % 10)).toNat = 48 + u % 10 := UInt8.toNat_ofNat_of_lt (by show _ < 256; omega)
      unfold Wx.dstep
      rw [if_pos (by omega), e]
      omega
theorem Wx.dec_digit (u : Nat) : ∀ c ∈ Lib.decDigits u, Pl.digit c = true := fun c hc => by
  have := Dm.digit u c hc
  unfold Pl.digit
  rw [decide_eq_true this.1, decide_eq_true this.2]
  rfl
/-- digits, zeros ahead, and behind them what is none -/
theorem Wx.digs_back (u z i : Nat) (rest : List UInt8) (hu : u ≤ 9007199254740991) (hr : rest = [] ∨ ∃ c r, rest = c :: r ∧ Pl.digit c = false) : Wx.digs i (List.replicate z 48 ++ (Lib.decDigits u ++ rest)) 0 = (u, i + (z + (Lib.decDigits u).length)) := by
  have hz : ∀ z : Nat, (List.replicate z (48 : UInt8)).foldl Wx.dstep 0 = 0 := by
    intro z
    induction z with
    | zero => rfl
    | succ z ih => rw [List.replicate_succ, List.foldl_cons]; exact ih
  rw [Wx.digs_more _ _ _ _ (fun c hc => by rw [List.eq_of_mem_replicate hc]; decide), hz, Wx.digs_more _ _ _ _ (Wx.dec_digit u), Wx.digs_val u hu, List.length_replicate]
  rcases hr with rfl | ⟨c, r, rfl, hc⟩
  · rw [Wx.digs, Nat.add_assoc]
  · rw [Wx.digs, hc, if_neg (by decide), Nat.add_assoc]
/-- a number, zeros ahead -/
theorem Wx.int_back {S rest : List UInt8} {p z : Nat} (u : Nat) (neg : Bool) (hu : u ≤ 9007199254740991) (hS : S.drop p = (if neg = true then [45] else []) ++ (List.replicate z 48 ++ (Lib.decDigits u ++ rest))) (hr : rest = [] ∨ ∃ c r, rest = c :: r ∧ Pl.digit c = false) : Wx.int S p = some (if neg = true then -(u : Int) else (u : Int), p + ((if neg = true then 1 else 0) + (z + (Lib.decDigits u).length))) := by
  have hpos : 0 < (Lib.decDigits u).length := List.length_pos_iff.2 (Dm.digits_ne u)
  cases neg with
  | true =>
    have h0 : S[p]? = some 45 := Wx.at0 (l := List.replicate z 48 ++ (Lib.decDigits u ++ rest)) hS
    have h1 : S.drop (p + 1) = List.replicate z 48 ++ (Lib.decDigits u ++ rest) := Wx.drop_more (a := [45]) hS
    unfold Wx.int
    simp only
    rw [decide_eq_true h0, if_pos rfl, h1, Wx.digs_back u z (p + 1) rest hu hr, if_neg (by simp only; omega)]
    simp only [if_true]
    rw [show p + 1 + (z + (Lib.decDigits u).length) = p + (1 + (z + (Lib.decDigits u).length)) by omega]
  | false =>
    have hS : S.drop p = List.replicate z 48 ++ (Lib.decDigits u ++ rest) := hS
    have h0 : ¬ S[p]? = some 45 := by
      obtain ⟨c, l, e, hc⟩ : ∃ c l, List.replicate z 48 ++ (Lib.decDigits u ++ rest) = c :: l ∧ Pl.digit c = true := by
        cases z with
        | zero =>
          cases hq : Lib.decDigits u with
          | nil => exact absurd hq (Dm.digits_ne u)
          | cons c l => exact ⟨c, l ++ rest, rfl, Wx.dec_digit u c (by rw [hq]; exact List.mem_cons_self ..)⟩
        | succ z => exact ⟨48, _, rfl, by decide⟩
      rw [e] at hS
      rw [Wx.at0 hS]
      intro q
      injection q with q
      subst q
      exact absurd hc (by decide)
    unfold Wx.int
    simp only
    rw [decide_eq_false h0]
    simp only [Bool.false_eq_true, if_false]
    rw [hS, Wx.digs_back u z p rest hu hr, if_neg (by simp only; omega)]
    simp
end Go.Proofs.Ytnophkbbeipaaaa
