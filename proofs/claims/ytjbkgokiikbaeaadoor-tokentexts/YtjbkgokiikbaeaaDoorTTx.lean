/-
  PLAIN: no text that is told is empty, no two stand side by side; a page with no sign of a tag is one text.
-/
import Derived.Test.YtjbkgokiikbaeaaDoorTHalf
namespace Go.Proofs.YtjbkgokiikbaeaaDoor
theorem Tx.rune (x : Nat) : Pl.runeL x ≠ [] := by
  unfold Pl.runeL
  repeat' split
  all_goals simp [Pl.fffd]
theorem Tx.num (l : List UInt8) (a b c : Nat) (h : (Pl.numL l a b c).2 ≠ 0) : (Pl.numL l a b c).1 ≠ [] := by
  unfold Pl.numL at h ⊢
  dsimp only at h ⊢
  split at h
  · exact absurd rfl h
  · rename_i hn
    rw [if_neg hn]
    exact Tx.rune _
theorem Tx.nameL (ns : List (List UInt8 × List UInt8)) (hns : ∀ n ∈ ns, n.2 ≠ []) (l : List UInt8) (h : (Pl.nameL ns l).2 ≠ 0) : (Pl.nameL ns l).1 ≠ [] := by
  induction ns with
  | nil => exact absurd rfl h
  | cons n ns ih =>
    unfold Pl.nameL at h ⊢
    split
    · exact hns n (by simp)
    · rename_i hn
      rw [if_neg hn] at h
      exact ih (fun m hm => hns m (by simp [hm])) h
theorem Tx.ref (l : List UInt8) (h : (Pl.refL l).2 ≠ 0) : (Pl.refL l).1 ≠ [] := by
  unfold Pl.refL at h ⊢
  split
  · rename_i h1
    rw [if_pos h1] at h
    exact Tx.num _ _ _ _ h
  · rename_i h1
    rw [if_neg h1] at h
    split
    · rename_i h2
      rw [if_pos h2] at h
      exact Tx.num _ _ _ _ h
    · rename_i h2
      rw [if_neg h2] at h
      exact Tx.nameL _ (by decide) _ h
theorem Tx.dec (l : List UInt8) (h : l ≠ []) : Pl.decL l ≠ [] := by
  rcases l with _ | ⟨c, r⟩
  · exact absurd rfl h
  · by_cases hc : c = 38 ∧ (Pl.refL r).2 ≠ 0
    · rw [Pl.decL_ref c r hc.1 hc.2]
      intro e
      exact Tx.ref r hc.2 (List.append_eq_nil_iff.1 e).1
    · rw [Pl.decL_step c r hc]
      simp
theorem Tx.textOf (P : ByteArray) (a b : Nat) (h : ByteArray) (hab : a < b) (hb : b ≤ P.size) : (Rd.textOf P a b h).size ≠ 0 := by
  have hx : (P.extract a b).size ≠ 0 := by rw [ByteArray.size_extract]; omega
  unfold Rd.textOf
  split
  · exact hx
  · intro e
    have e2 : Pl.decL (P.extract a b).data.toList = [] := by
      have : (Pl.decL (P.extract a b).data.toList).toArray.size = 0 := e
      simpa using this
    refine Tx.dec _ ?_ e2
    intro e3
    apply hx
    show (P.extract a b).data.size = 0
    rw [← Array.length_toList, e3]
    rfl
def Tx.last (l : List Tk) : Prop := ∀ t, l.getLast? = some t → t.kind ≠ 0
structure Tx.Fine (l : List Tk) : Prop where
  two : ∀ (i : Nat) (a b : Tk), l[i]? = some a → l[i + 1]? = some b → ¬ (a.kind = 0 ∧ b.kind = 0)
  some : ∀ t ∈ l, t.kind = 0 → t.text.size ≠ 0
theorem Tx.Fine.snoc {l : List Tk} (h : Tx.Fine l) (t : Tk) (ht : t.kind = 0 → Tx.last l ∧ t.text.size ≠ 0) : Tx.Fine (l ++ [t]) := by
  refine ⟨fun i a b ha hb => ?_, fun x hx hk => ?_⟩
  · by_cases h1 : i + 1 < l.length
    · rw [List.getElem?_append_left (by omega)] at ha hb
      exact h.two i a b ha hb
    · by_cases h2 : i + 1 = l.length
      · rw [List.getElem?_append_left (by omega)] at ha
        rw [h2, List.getElem?_append_right (Nat.le_refl _)] at hb
        simp at hb
        subst hb
        rintro ⟨hka, hkb⟩
        refine (ht hkb).1 a ?_ hka
        rw [List.getLast?_eq_getElem?, ← ha]
        congr 1
        omega
      · rw [List.getElem?_eq_none (by simp; omega)] at hb
        cases hb
  · rcases List.mem_append.1 hx with q | q
    · exact h.some x q hk
    · simp at q
      subst q
      exact (ht hk).2
theorem Tx.last_snoc (l : List Tk) (t : Tk) (h : t.kind ≠ 0) : Tx.last (l ++ [t]) := by
  intro x hx
  simp at hx
  subst hx
  exact h
theorem Tx.tellText {P : ByteArray} {r : Rd} {f : Nat} {h : ByteArray} (hr : Tx.Fine r.toks) (hl : Tx.last r.toks) (hf : r.text ≤ f) (hP : f ≤ P.size) : Tx.Fine (Rd.tellText P r f h).toks := by
  unfold Rd.tellText
  split
  · exact hr
  · rename_i hne
    exact hr.snoc _ (fun _ => ⟨hl, Tx.textOf P _ _ _ (by omega) hP⟩)
theorem Tx.tell {r : Rd} (hr : Tx.Fine r.toks) (t : Tk) (n : Nat) (ht : t.kind ≠ 0) : Tx.Fine (r.tell t n).toks ∧ Tx.last (r.tell t n).toks :=
  ⟨hr.snoc t (fun e => absurd e ht), Tx.last_snoc _ _ ht⟩
structure Tx.Good (r : Rd) : Prop where
  fine : Tx.Fine r.toks
  last : Rd.loose r.st.pl = true → Tx.last r.toks
theorem Tx.Good.read {P : ByteArray} {r : Rd} {i : Nat} (hg : Tx.Good r) (h : Rd.Ok r i) (hi : i ≤ P.size) (c : UInt8) : Tx.Good (Rd.read P r i c) := by
  have hl := h.lo
  have hh := h.hi
  have hk : r.st.pl = (r.st.pl.toNat : Int) := by omega
  have hN := Ts.step_next r.st c r.st.pl.toNat hk (by omega)
  rw [Rd.read_go]
  generalize r.st.step c = N at hN
  obtain ⟨o, ho⟩ : ∃ o, (if N.pl = 1 ∨ N.pl = 20 then i else r.opn) = o := ⟨_, rfl⟩
  rw [ho]
  unfold Rd.go
  split
  · next e =>
    have hx := h.tx _ hk hN ho (Or.inl e)
    have hf := Tx.tellText (P := P) (r := ⟨N, r.toks, r.text, o, r.value, r.attrs, r.taken⟩) (f := o) (h := r.st.held) hg.fine (hg.last (by rw [e.1]; rfl)) hx.1 (by omega)
    have := Tx.tell hf ⟨2, r.st.held, Ts.e, [], false⟩ (i + 1) (by show (2 : Int) ≠ 0; decide)
    exact ⟨this.1, fun _ => this.2⟩
  split
  · next e =>
    have hx := h.tx _ hk hN ho (Or.inr e)
    refine ⟨Tx.tellText (r := ⟨N, r.toks, r.text, o, r.value, r.attrs, r.taken⟩) hg.fine (hg.last e.1) hx.1 (by omega), fun q => ?_⟩
    rw [(Rd.tellText_facts P _ o r.st.held).1] at q
    exact absurd (e.2.symm.trans q) (by decide)
  split
  · have hf := Rd.readAttr_facts P ⟨N, r.toks, r.text, o, r.value, r.attrs, r.taken⟩ r.st N i h.attrs
    unfold Rd.tags
    dsimp only
    split
    · have hf2 : Tx.Fine (Rd.readAttr P ⟨N, r.toks, r.text, o, r.value, r.attrs, r.taken⟩ r.st N i).toks := by rw [hf.2.2.1]; exact hg.fine
      unfold Rd.tellTag
      split
      · have := Tx.tell hf2 ⟨2, r.st.name, Ts.e, [], false⟩ (i + 1) (by show (2 : Int) ≠ 0; decide)
        exact ⟨this.1, fun _ => this.2⟩
      · have := Tx.tell hf2 ⟨1, r.st.name, Ts.e, (Rd.readAttr P ⟨N, r.toks, r.text, o, r.value, r.attrs, r.taken⟩ r.st N i).attrs, r.st.pl == 12⟩ (i + 1) (by show (1 : Int) ≠ 0; decide)
        exact ⟨this.1, fun _ => this.2⟩
    · next hn =>
      refine ⟨by rw [hf.2.2.1]; exact hg.fine, fun q => ?_⟩
      rw [hf.1] at q
      exact absurd q hn
  split
  · unfold Rd.tellComment
    have := Tx.tell (r := ⟨N, r.toks, r.text, o, r.value, r.attrs, r.taken⟩) hg.fine ⟨3, Ts.e, if r.st.pl = 17 then P.extract (o + 4) (i - 2) else P.extract (o + 2) i, [], false⟩ (i + 1) (by show (3 : Int) ≠ 0; decide)
    exact ⟨this.1, fun _ => this.2⟩
  · next n1 n2 n3 n4 =>
    refine ⟨hg.fine, fun q => hg.last ?_⟩
    by_cases hq : Rd.loose r.st.pl = true
    · exact hq
    · exact absurd ⟨by simpa using hq, q⟩ n4
theorem Tx.Good.run {P : ByteArray} : ∀ (l : List UInt8) {r : Rd} {i : Nat}, Tx.Good r → Rd.Ok r i → i + l.length ≤ P.size → Tx.Good (Rd.run P r i l)
  | [], _, _, hg, _, _ => hg
  | c :: l, r, i, hg, h, hi => by
    simp only [List.length_cons] at hi
    exact Tx.Good.run l (hg.read h (by omega) c) (h.read c) (by omega)
theorem Tx.tokens (s : ByteArray) : Tx.Fine (Rd.tokens s) := by
  have hok : Rd.Ok (Rd.run (Rd.page s) Rd.start 0 (Rd.lines s.data.toList)) (0 + (Rd.lines s.data.toList).length) := Rd.Ok.start.run _
  have hsz : (Rd.page s).size = (Rd.lines s.data.toList).length := by
    show (Rd.lines s.data.toList).toArray.size = _
    simp
  have hg : Tx.Good (Rd.run (Rd.page s) Rd.start 0 (Rd.lines s.data.toList)) := Tx.Good.run _ ⟨⟨fun i a b h => by simp [Rd.start] at h, fun t h => by simp [Rd.start] at h⟩, fun _ t h => by simp [Rd.start] at h⟩ Rd.Ok.start (by omega)
  unfold Rd.tokens Rd.done
  split
  · next e => exact Tx.tellText hg.fine (hg.last e) (by have := hok.text; omega) (Nat.le_refl _)
  · exact hg.fine
theorem Tx.plain (s : ByteArray) (h : ∀ c ∈ s.data.toList, c ≠ 60 ∧ c ≠ 38 ∧ c ≠ 13) : Rd.tokens s = if s.size = 0 then [] else [⟨0, Ts.e, s, [], false⟩] := by
  obtain ⟨l, hl⟩ : ∃ l, s.data.toList = l := ⟨_, rfl⟩
  have hs : s = ⟨l.toArray⟩ := by
    apply ByteArray.ext
    rw [← hl]
  subst hs
  clear hl
  have h : ∀ c ∈ l, c ≠ 60 ∧ c ≠ 38 ∧ c ≠ 13 := h
  have hx := Hf.tokens_eq l [] h (by simp)
  simp only [List.append_nil] at hx
  rw [hx]
  show (Rd.tellText ⟨l.toArray⟩ Rd.start (ByteArray.size ⟨l.toArray⟩) Ts.e).toks = _
  unfold Rd.tellText
  have e0 : (⟨l.toArray⟩ : ByteArray).size = l.length := by show l.toArray.size = _; simp
  by_cases hz : l.length = 0
  · rw [if_pos (by show 0 = _; rw [e0, hz]), if_pos (by rw [e0, hz])]
    rfl
  · rw [if_neg (by show ¬ 0 = _; rw [e0]; omega), if_neg (by rw [e0]; exact hz)]
    show [(⟨0, Ts.e, Rd.dec ((⟨l.toArray⟩ : ByteArray).extract 0 (ByteArray.size ⟨l.toArray⟩)), [], false⟩ : Tk)] = _
    rw [Hf.all l _ e0.symm (fun c hc => (h c hc).2.1)]
end Go.Proofs.YtjbkgokiikbaeaaDoor
