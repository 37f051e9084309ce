/-
  PLAIN: what the reader's parts keep to.
-/
import Derived.Test.YtblpkjlodncpeaaGreatDoorATOk
namespace Go.Proofs.YtblpkjlodncpeaaGreatDoor
/-- what the reader's parts keep to, ahead of the byte at i -/
structure Rd.Ok (r : Rd) (i : Nat) : Prop where
  lo : 0 ≤ r.st.pl
  hi : r.st.pl < 23
  small : r.st.Small
  text : r.text ≤ i
  toks : r.toks.length ≤ 2 * i
  attrs : r.attrs.length ≤ 32
  opn : (r.st.pl = 1 ∨ r.st.pl = 2 ∨ r.st.pl = 20 ∨ r.st.pl = 21 ∨ r.st.pl = 22) → r.text ≤ r.opn ∧ r.opn + 1 ≤ i
  bang : 13 ≤ r.st.pl → r.st.pl ≤ 18 → r.opn + 2 ≤ i
  c14 : r.st.pl = 14 → r.opn + 3 ≤ i
  c15 : r.st.pl = 15 → r.opn + 4 ≤ i
  c16 : r.st.pl = 16 → r.opn + 5 ≤ i
  c17 : r.st.pl = 17 → r.opn + 6 ≤ i
  value : (r.st.pl = 8 ∨ r.st.pl = 9 ∨ r.st.pl = 10) → r.value ≤ i
  taken : 6 ≤ r.st.pl → r.st.pl ≤ 10 → r.taken = true → r.attrs ≠ []
theorem Rd.Ok.start : Rd.Ok Rd.start 0 := by
  refine ⟨by decide, by decide, ⟨by decide, by decide, by decide⟩, by decide, by decide, by decide, ?_, ?_, ?_, ?_, ?_, ?_, ?_, ?_⟩ <;> decide
/-- the reader's answer to a byte, the state behind it and where a `<` stood given -/
def Rd.go (P : ByteArray) (r : Rd) (N : Ts) (o i : Nat) : Rd :=
  if r.st.pl = 22 ∧ N.pl = 0 then (Rd.tellText P ⟨N, r.toks, r.text, o, r.value, r.attrs, r.taken⟩ o r.st.held).tell ⟨2, r.st.held, Ts.e, [], false⟩ (i + 1) else if Rd.loose r.st.pl = true ∧ Rd.loose N.pl = false then Rd.tellText P ⟨N, r.toks, r.text, o, r.value, r.attrs, r.taken⟩ o r.st.held else if Ts.inTag r.st.pl = true then Rd.tags P ⟨N, r.toks, r.text, o, r.value, r.attrs, r.taken⟩ r.st i else if Rd.loose r.st.pl = false ∧ Rd.loose N.pl = true then Rd.tellComment P ⟨N, r.toks, r.text, o, r.value, r.attrs, r.taken⟩ r.st i else ⟨N, r.toks, r.text, o, r.value, r.attrs, r.taken⟩
theorem Rd.read_go (P : ByteArray) (r : Rd) (i : Nat) (c : UInt8) : Rd.read P r i c = Rd.go P r (r.st.step c) (if (r.st.step c).pl = 1 ∨ (r.st.step c).pl = 20 then i else r.opn) i := rfl
theorem Rd.tellText_facts (P : ByteArray) (r : Rd) (f : Nat) (h : ByteArray) : (Rd.tellText P r f h).st = r.st ∧ (Rd.tellText P r f h).text = f ∧ (Rd.tellText P r f h).toks.length ≤ r.toks.length + 1 ∧ (Rd.tellText P r f h).attrs.length ≤ r.attrs.length ∧ (Rd.tellText P r f h).opn = r.opn := by
  unfold Rd.tellText
  split
  · next e => exact ⟨rfl, e, by omega, Nat.le_refl _, rfl⟩
  · exact ⟨rfl, rfl, by simp [Rd.tell], by simp [Rd.tell], rfl⟩
theorem Rd.addAttr_facts (r : Rd) (n : ByteArray) (h : r.attrs.length ≤ 32) : (r.addAttr n).st = r.st ∧ (r.addAttr n).text = r.text ∧ (r.addAttr n).toks = r.toks ∧ (r.addAttr n).attrs.length ≤ 32 ∧ (r.addAttr n).opn = r.opn ∧ ((r.addAttr n).taken = true → (r.addAttr n).attrs ≠ []) := by
  unfold Rd.addAttr
  split
  · next e => exact ⟨rfl, rfl, rfl, by simp; omega, rfl, fun _ => by simp⟩
  · exact ⟨rfl, rfl, rfl, h, rfl, fun q => by cases q⟩
theorem Rd.setLast_len (l : List (ByteArray × ByteArray)) (v : ByteArray) : (Rd.setLast l v).length = l.length := by simp [Rd.setLast]
theorem Rd.readAttr_facts (P : ByteArray) (r : Rd) (was now : Ts) (i : Nat) (h : r.attrs.length ≤ 32) : (Rd.readAttr P r was now i).st = r.st ∧ (Rd.readAttr P r was now i).text = r.text ∧ (Rd.readAttr P r was now i).toks = r.toks ∧ (Rd.readAttr P r was now i).attrs.length ≤ 32 ∧ (Rd.readAttr P r was now i).opn = r.opn := by
  unfold Rd.readAttr
  split
  · exact ⟨rfl, rfl, rfl, h, rfl⟩
  split
  · obtain ⟨a, b, c, d, e, _⟩ := Rd.addAttr_facts r was.attr h
    exact ⟨a, b, c, d, e⟩
  split
  · exact ⟨rfl, rfl, rfl, h, rfl⟩
  split
  · split
    · exact ⟨rfl, rfl, rfl, by show (Rd.setLast _ _).length ≤ _; rw [Rd.setLast_len]; exact h, rfl⟩
    · exact ⟨rfl, rfl, rfl, h, rfl⟩
  · exact ⟨rfl, rfl, rfl, h, rfl⟩
theorem Rd.tellTag_facts (r : Rd) (s : Ts) (i : Nat) : (r.tellTag s i).st = r.st ∧ (r.tellTag s i).text = i + 1 ∧ (r.tellTag s i).toks.length = r.toks.length + 1 ∧ (r.tellTag s i).attrs = [] := by
  unfold Rd.tellTag
  split <;> exact ⟨rfl, rfl, by simp [Rd.tell], rfl⟩
/-- a state behind which no clause but the plain ones asks anything -/
theorem Rd.Ok.plain {r : Rd} {i : Nat} {m : Int} (hm : r.st.pl = m) (h0 : m = 0 ∨ m = 3 ∨ m = 4 ∨ m = 5 ∨ m = 11 ∨ m = 12 ∨ m = 19) (hs : r.st.Small) (ht : r.text ≤ i) (hk : r.toks.length ≤ 2 * i) (ha : r.attrs.length ≤ 32) : Rd.Ok r i :=
  ⟨by omega, by omega, hs, ht, hk, ha, fun q => by omega, fun q1 q2 => by omega, fun q => by omega, fun q => by omega, fun q => by omega, fun q => by omega, fun q => by omega, fun q1 q2 => by omega⟩
set_option maxHeartbeats 4000000 in
theorem Rd.Ok.go {P : ByteArray} {r : Rd} {i : Nat} {N : Ts} (k : Nat) (hk : r.st.pl = (k : Int)) (h : Rd.Ok r i) (hN : N.pl ∈ Ts.nexts k) (hs : N.Small) : Rd.Ok (Rd.go P r N (if N.pl = 1 ∨ N.pl = 20 then i else r.opn) i) (i + 1) := by
  have htx := h.text
  have htk := h.toks
  have hat := h.attrs
  have hlt : k < 23 := by have := h.hi; omega
  by_cases e0 : k = 0
  · subst e0
    simp only [Ts.nexts, List.mem_cons, List.not_mem_nil, or_false] at hN
    rcases hN with e | e
    · have ho : (if N.pl = 1 ∨ N.pl = 20 then i else r.opn) = r.opn := if_neg (by omega)
      rw [ho]
      have q1 : Rd.loose r.st.pl = true := by rw [hk]; rfl
      have q2 : Rd.loose N.pl = true := by rw [e]; rfl
      have q3 : Ts.inTag r.st.pl = false := by rw [hk]; rfl
      have hg : Rd.go P r N r.opn i = ⟨N, r.toks, r.text, r.opn, r.value, r.attrs, r.taken⟩ := by unfold Rd.go; rw [if_neg (by omega), if_neg (by rw [q1, q2]; simp), if_neg (by rw [q3]; simp), if_neg (by rw [q1, q2]; simp)]
      rw [hg]
      exact Rd.Ok.plain (m := 0) e (by omega) hs (by show r.text ≤ i + 1; omega) (by show r.toks.length ≤ _; omega) hat
    · have ho : (if N.pl = 1 ∨ N.pl = 20 then i else r.opn) = i := if_pos (by omega)
      rw [ho]
      have q1 : Rd.loose r.st.pl = true := by rw [hk]; rfl
      have q2 : Rd.loose N.pl = true := by rw [e]; rfl
      have q3 : Ts.inTag r.st.pl = false := by rw [hk]; rfl
      have hg : Rd.go P r N i i = ⟨N, r.toks, r.text, i, r.value, r.attrs, r.taken⟩ := by unfold Rd.go; rw [if_neg (by omega), if_neg (by rw [q1, q2]; simp), if_neg (by rw [q3]; simp), if_neg (by rw [q1, q2]; simp)]
      rw [hg]
      exact ⟨by show 0 ≤ N.pl; omega, by show N.pl < 23; omega, hs, by show r.text ≤ i + 1; omega, by show r.toks.length ≤ _; omega, hat, fun q => by simp only at q; show r.text ≤ i ∧ i + 1 ≤ i + 1; omega, fun q1 q2 => by simp only at q1 q2; show i + 2 ≤ i + 1; omega, fun q => by simp only at q; show i + 3 ≤ i + 1; omega, fun q => by simp only at q; show i + 4 ≤ i + 1; omega, fun q => by simp only at q; show i + 5 ≤ i + 1; omega, fun q => by simp only at q; show i + 6 ≤ i + 1; omega, fun q => by simp only at q; omega, fun q1 q2 => by simp only at q1 q2; omega⟩
  by_cases e1 : k = 1
  · subst e1
    simp only [Ts.nexts, List.mem_cons, List.not_mem_nil, or_false] at hN
    rcases hN with e | e | e | e | e
    · have ho : (if N.pl = 1 ∨ N.pl = 20 then i else r.opn) = r.opn := if_neg (by omega)
      rw [ho]
      have q1 : Rd.loose r.st.pl = true := by rw [hk]; rfl
      have q2 : Rd.loose N.pl = false := by rw [e]; rfl
      have q3 : Ts.inTag r.st.pl = false := by rw [hk]; rfl
      have hg : Rd.go P r N r.opn i = Rd.tellText P ⟨N, r.toks, r.text, r.opn, r.value, r.attrs, r.taken⟩ r.opn r.st.held := by unfold Rd.go; rw [if_neg (by omega), if_pos ⟨q1, q2⟩]
      rw [hg]
      obtain ⟨f1, f2, f3, f4, f5⟩ := Rd.tellText_facts P ⟨N, r.toks, r.text, r.opn, r.value, r.attrs, r.taken⟩ r.opn r.st.held
      simp only at f1 f2 f3 f4 f5
      have hq := h.opn (by omega)
      exact Rd.Ok.plain (m := 3) (by rw [f1]; exact e) (by omega) (by rw [f1]; exact hs) (by omega) (by omega) (by omega)
    · have ho : (if N.pl = 1 ∨ N.pl = 20 then i else r.opn) = r.opn := if_neg (by omega)
      rw [ho]
      have q1 : Rd.loose r.st.pl = true := by rw [hk]; rfl
      have q2 : Rd.loose N.pl = true := by rw [e]; rfl
      have q3 : Ts.inTag r.st.pl = false := by rw [hk]; rfl
      have hg : Rd.go P r N r.opn i = ⟨N, r.toks, r.text, r.opn, r.value, r.attrs, r.taken⟩ := by unfold Rd.go; rw [if_neg (by omega), if_neg (by rw [q1, q2]; simp), if_neg (by rw [q3]; simp), if_neg (by rw [q1, q2]; simp)]
      rw [hg]
      have hq := h.opn (by omega)
      exact ⟨by show 0 ≤ N.pl; omega, by show N.pl < 23; omega, hs, by show r.text ≤ i + 1; omega, by show r.toks.length ≤ _; omega, hat, fun q => by simp only at q; show r.text ≤ r.opn ∧ r.opn + 1 ≤ i + 1; omega, fun q1 q2 => by simp only at q1 q2; show r.opn + 2 ≤ i + 1; omega, fun q => by simp only at q; show r.opn + 3 ≤ i + 1; omega, fun q => by simp only at q; show r.opn + 4 ≤ i + 1; omega, fun q => by simp only at q; show r.opn + 5 ≤ i + 1; omega, fun q => by simp only at q; show r.opn + 6 ≤ i + 1; omega, fun q => by simp only at q; omega, fun q1 q2 => by simp only at q1 q2; omega⟩
    · have ho : (if N.pl = 1 ∨ N.pl = 20 then i else r.opn) = r.opn := if_neg (by omega)
      rw [ho]
      have q1 : Rd.loose r.st.pl = true := by rw [hk]; rfl
      have q2 : Rd.loose N.pl = false := by rw [e]; rfl
      have q3 : Ts.inTag r.st.pl = false := by rw [hk]; rfl
      have hg : Rd.go P r N r.opn i = Rd.tellText P ⟨N, r.toks, r.text, r.opn, r.value, r.attrs, r.taken⟩ r.opn r.st.held := by unfold Rd.go; rw [if_neg (by omega), if_pos ⟨q1, q2⟩]
      rw [hg]
      obtain ⟨f1, f2, f3, f4, f5⟩ := Rd.tellText_facts P ⟨N, r.toks, r.text, r.opn, r.value, r.attrs, r.taken⟩ r.opn r.st.held
      simp only at f1 f2 f3 f4 f5
      have hq := h.opn (by omega)
      refine ⟨by rw [f1]; omega, by rw [f1]; omega, by rw [f1]; exact hs, by omega, by omega, by omega, fun q => ?_, fun _ _ => by omega, fun q => ?_, fun q => ?_, fun q => ?_, fun q => ?_, fun q => ?_, fun _ q => ?_⟩
      all_goals (rw [f1] at q; omega)
    · have ho : (if N.pl = 1 ∨ N.pl = 20 then i else r.opn) = i := if_pos (by omega)
      rw [ho]
      have q1 : Rd.loose r.st.pl = true := by rw [hk]; rfl
      have q2 : Rd.loose N.pl = true := by rw [e]; rfl
      have q3 : Ts.inTag r.st.pl = false := by rw [hk]; rfl
      have hg : Rd.go P r N i i = ⟨N, r.toks, r.text, i, r.value, r.attrs, r.taken⟩ := by unfold Rd.go; rw [if_neg (by omega), if_neg (by rw [q1, q2]; simp), if_neg (by rw [q3]; simp), if_neg (by rw [q1, q2]; simp)]
      rw [hg]
      exact ⟨by show 0 ≤ N.pl; omega, by show N.pl < 23; omega, hs, by show r.text ≤ i + 1; omega, by show r.toks.length ≤ _; omega, hat, fun q => by simp only at q; show r.text ≤ i ∧ i + 1 ≤ i + 1; omega, fun q1 q2 => by simp only at q1 q2; show i + 2 ≤ i + 1; omega, fun q => by simp only at q; show i + 3 ≤ i + 1; omega, fun q => by simp only at q; show i + 4 ≤ i + 1; omega, fun q => by simp only at q; show i + 5 ≤ i + 1; omega, fun q => by simp only at q; show i + 6 ≤ i + 1; omega, fun q => by simp only at q; omega, fun q1 q2 => by simp only at q1 q2; omega⟩
    · have ho : (if N.pl = 1 ∨ N.pl = 20 then i else r.opn) = r.opn := if_neg (by omega)
      rw [ho]
      have q1 : Rd.loose r.st.pl = true := by rw [hk]; rfl
      have q2 : Rd.loose N.pl = true := by rw [e]; rfl
      have q3 : Ts.inTag r.st.pl = false := by rw [hk]; rfl
      have hg : Rd.go P r N r.opn i = ⟨N, r.toks, r.text, r.opn, r.value, r.attrs, r.taken⟩ := by unfold Rd.go; rw [if_neg (by omega), if_neg (by rw [q1, q2]; simp), if_neg (by rw [q3]; simp), if_neg (by rw [q1, q2]; simp)]
      rw [hg]
      exact Rd.Ok.plain (m := 0) e (by omega) hs (by show r.text ≤ i + 1; omega) (by show r.toks.length ≤ _; omega) hat
  by_cases e2 : k = 2
  · subst e2
    simp only [Ts.nexts, List.mem_cons, List.not_mem_nil, or_false] at hN
    rcases hN with e | e | e
    · have ho : (if N.pl = 1 ∨ N.pl = 20 then i else r.opn) = r.opn := if_neg (by omega)
      rw [ho]
      have q1 : Rd.loose r.st.pl = true := by rw [hk]; rfl
      have q2 : Rd.loose N.pl = false := by rw [e]; rfl
      have q3 : Ts.inTag r.st.pl = false := by rw [hk]; rfl
      have hg : Rd.go P r N r.opn i = Rd.tellText P ⟨N, r.toks, r.text, r.opn, r.value, r.attrs, r.taken⟩ r.opn r.st.held := by unfold Rd.go; rw [if_neg (by omega), if_pos ⟨q1, q2⟩]
      rw [hg]
      obtain ⟨f1, f2, f3, f4, f5⟩ := Rd.tellText_facts P ⟨N, r.toks, r.text, r.opn, r.value, r.attrs, r.taken⟩ r.opn r.st.held
      simp only at f1 f2 f3 f4 f5
      have hq := h.opn (by omega)
      exact Rd.Ok.plain (m := 3) (by rw [f1]; exact e) (by omega) (by rw [f1]; exact hs) (by omega) (by omega) (by omega)
    · have ho : (if N.pl = 1 ∨ N.pl = 20 then i else r.opn) = i := if_pos (by omega)
      rw [ho]
      have q1 : Rd.loose r.st.pl = true := by rw [hk]; rfl
      have q2 : Rd.loose N.pl = true := by rw [e]; rfl
      have q3 : Ts.inTag r.st.pl = false := by rw [hk]; rfl
      have hg : Rd.go P r N i i = ⟨N, r.toks, r.text, i, r.value, r.attrs, r.taken⟩ := by unfold Rd.go; rw [if_neg (by omega), if_neg (by rw [q1, q2]; simp), if_neg (by rw [q3]; simp), if_neg (by rw [q1, q2]; simp)]
      rw [hg]
      exact ⟨by show 0 ≤ N.pl; omega, by show N.pl < 23; omega, hs, by show r.text ≤ i + 1; omega, by show r.toks.length ≤ _; omega, hat, fun q => by simp only at q; show r.text ≤ i ∧ i + 1 ≤ i + 1; omega, fun q1 q2 => by simp only at q1 q2; show i + 2 ≤ i + 1; omega, fun q => by simp only at q; show i + 3 ≤ i + 1; omega, fun q => by simp only at q; show i + 4 ≤ i + 1; omega, fun q => by simp only at q; show i + 5 ≤ i + 1; omega, fun q => by simp only at q; show i + 6 ≤ i + 1; omega, fun q => by simp only at q; omega, fun q1 q2 => by simp only at q1 q2; omega⟩
    · have ho : (if N.pl = 1 ∨ N.pl = 20 then i else r.opn) = r.opn := if_neg (by omega)
      rw [ho]
      have q1 : Rd.loose r.st.pl = true := by rw [hk]; rfl
      have q2 : Rd.loose N.pl = true := by rw [e]; rfl
      have q3 : Ts.inTag r.st.pl = false := by rw [hk]; rfl
      have hg : Rd.go P r N r.opn i = ⟨N, r.toks, r.text, r.opn, r.value, r.attrs, r.taken⟩ := by unfold Rd.go; rw [if_neg (by omega), if_neg (by rw [q1, q2]; simp), if_neg (by rw [q3]; simp), if_neg (by rw [q1, q2]; simp)]
      rw [hg]
      exact Rd.Ok.plain (m := 0) e (by omega) hs (by show r.text ≤ i + 1; omega) (by show r.toks.length ≤ _; omega) hat
  by_cases e3 : k = 3
  · subst e3
    simp only [Ts.nexts, List.mem_cons, List.not_mem_nil, or_false] at hN
    rcases hN with e | e | e | e | e
    · have ho : (if N.pl = 1 ∨ N.pl = 20 then i else r.opn) = r.opn := if_neg (by omega)
      rw [ho]
      have q1 : Rd.loose r.st.pl = false := by rw [hk]; rfl
      have q2 : Rd.loose N.pl = false := by rw [e]; rfl
      have q3 : Ts.inTag r.st.pl = true := by rw [hk]; rfl
      have hg : Rd.go P r N r.opn i = Rd.readAttr P ⟨N, r.toks, r.text, r.opn, r.value, r.attrs, r.taken⟩ r.st N i := by unfold Rd.go; rw [if_neg (by omega), if_neg (by rw [q1]; simp), if_pos q3]; unfold Rd.tags; exact if_neg (by rw [q2]; simp)
      rw [hg]
      obtain ⟨f1, f2, f3, f4, f5⟩ := Rd.readAttr_facts P ⟨N, r.toks, r.text, r.opn, r.value, r.attrs, r.taken⟩ r.st N i hat
      simp only at f1 f2 f3 f5
      exact Rd.Ok.plain (m := 4) (by rw [f1]; exact e) (by omega) (by rw [f1]; exact hs) (by omega) (by rw [f3]; omega) f4
    · have ho : (if N.pl = 1 ∨ N.pl = 20 then i else r.opn) = r.opn := if_neg (by omega)
      rw [ho]
      have q1 : Rd.loose r.st.pl = false := by rw [hk]; rfl
      have q2 : Rd.loose N.pl = false := by rw [e]; rfl
      have q3 : Ts.inTag r.st.pl = true := by rw [hk]; rfl
      have hg : Rd.go P r N r.opn i = Rd.readAttr P ⟨N, r.toks, r.text, r.opn, r.value, r.attrs, r.taken⟩ r.st N i := by unfold Rd.go; rw [if_neg (by omega), if_neg (by rw [q1]; simp), if_pos q3]; unfold Rd.tags; exact if_neg (by rw [q2]; simp)
      rw [hg]
      obtain ⟨f1, f2, f3, f4, f5⟩ := Rd.readAttr_facts P ⟨N, r.toks, r.text, r.opn, r.value, r.attrs, r.taken⟩ r.st N i hat
      simp only at f1 f2 f3 f5
      exact Rd.Ok.plain (m := 12) (by rw [f1]; exact e) (by omega) (by rw [f1]; exact hs) (by omega) (by rw [f3]; omega) f4
    · have ho : (if N.pl = 1 ∨ N.pl = 20 then i else r.opn) = r.opn := if_neg (by omega)
      rw [ho]
      have q1 : Rd.loose r.st.pl = false := by rw [hk]; rfl
      have q2 : Rd.loose N.pl = true := by rw [e]; rfl
      have q3 : Ts.inTag r.st.pl = true := by rw [hk]; rfl
      have hg : Rd.go P r N r.opn i = (Rd.readAttr P ⟨N, r.toks, r.text, r.opn, r.value, r.attrs, r.taken⟩ r.st N i).tellTag r.st i := by unfold Rd.go; rw [if_neg (by omega), if_neg (by rw [q1]; simp), if_pos q3]; unfold Rd.tags; exact if_pos q2
      rw [hg]
      obtain ⟨f1, f2, f3, f4, f5⟩ := Rd.readAttr_facts P ⟨N, r.toks, r.text, r.opn, r.value, r.attrs, r.taken⟩ r.st N i hat
      simp only at f1 f2 f3 f5
      obtain ⟨d1, d2, d3, d4⟩ := Rd.tellTag_facts (Rd.readAttr P ⟨N, r.toks, r.text, r.opn, r.value, r.attrs, r.taken⟩ r.st N i) r.st i
      exact Rd.Ok.plain (m := 0) (by rw [d1, f1]; exact e) (by omega) (by rw [d1, f1]; exact hs) (by omega) (by rw [d3, f3]; omega) (by rw [d4]; show (0 : Nat) ≤ 32; omega)
    · have ho : (if N.pl = 1 ∨ N.pl = 20 then i else r.opn) = r.opn := if_neg (by omega)
      rw [ho]
      have q1 : Rd.loose r.st.pl = false := by rw [hk]; rfl
      have q2 : Rd.loose N.pl = true := by rw [e]; rfl
      have q3 : Ts.inTag r.st.pl = true := by rw [hk]; rfl
      have hg : Rd.go P r N r.opn i = (Rd.readAttr P ⟨N, r.toks, r.text, r.opn, r.value, r.attrs, r.taken⟩ r.st N i).tellTag r.st i := by unfold Rd.go; rw [if_neg (by omega), if_neg (by rw [q1]; simp), if_pos q3]; unfold Rd.tags; exact if_pos q2
      rw [hg]
      obtain ⟨f1, f2, f3, f4, f5⟩ := Rd.readAttr_facts P ⟨N, r.toks, r.text, r.opn, r.value, r.attrs, r.taken⟩ r.st N i hat
      simp only at f1 f2 f3 f5
      obtain ⟨d1, d2, d3, d4⟩ := Rd.tellTag_facts (Rd.readAttr P ⟨N, r.toks, r.text, r.opn, r.value, r.attrs, r.taken⟩ r.st N i) r.st i
      exact Rd.Ok.plain (m := 19) (by rw [d1, f1]; exact e) (by omega) (by rw [d1, f1]; exact hs) (by omega) (by rw [d3, f3]; omega) (by rw [d4]; show (0 : Nat) ≤ 32; omega)
    · have ho : (if N.pl = 1 ∨ N.pl = 20 then i else r.opn) = r.opn := if_neg (by omega)
      rw [ho]
      have q1 : Rd.loose r.st.pl = false := by rw [hk]; rfl
      have q2 : Rd.loose N.pl = false := by rw [e]; rfl
      have q3 : Ts.inTag r.st.pl = true := by rw [hk]; rfl
      have hg : Rd.go P r N r.opn i = Rd.readAttr P ⟨N, r.toks, r.text, r.opn, r.value, r.attrs, r.taken⟩ r.st N i := by unfold Rd.go; rw [if_neg (by omega), if_neg (by rw [q1]; simp), if_pos q3]; unfold Rd.tags; exact if_neg (by rw [q2]; simp)
      rw [hg]
      obtain ⟨f1, f2, f3, f4, f5⟩ := Rd.readAttr_facts P ⟨N, r.toks, r.text, r.opn, r.value, r.attrs, r.taken⟩ r.st N i hat
      simp only at f1 f2 f3 f5
      exact Rd.Ok.plain (m := 3) (by rw [f1]; exact e) (by omega) (by rw [f1]; exact hs) (by omega) (by rw [f3]; omega) f4
  by_cases e4 : k = 4
  · subst e4
    simp only [Ts.nexts, List.mem_cons, List.not_mem_nil, or_false] at hN
    rcases hN with e | e | e | e | e
    · have ho : (if N.pl = 1 ∨ N.pl = 20 then i else r.opn) = r.opn := if_neg (by omega)
      rw [ho]
      have q1 : Rd.loose r.st.pl = false := by rw [hk]; rfl
      have q2 : Rd.loose N.pl = false := by rw [e]; rfl
      have q3 : Ts.inTag r.st.pl = true := by rw [hk]; rfl
      have hg : Rd.go P r N r.opn i = Rd.readAttr P ⟨N, r.toks, r.text, r.opn, r.value, r.attrs, r.taken⟩ r.st N i := by unfold Rd.go; rw [if_neg (by omega), if_neg (by rw [q1]; simp), if_pos q3]; unfold Rd.tags; exact if_neg (by rw [q2]; simp)
      rw [hg]
      obtain ⟨f1, f2, f3, f4, f5⟩ := Rd.readAttr_facts P ⟨N, r.toks, r.text, r.opn, r.value, r.attrs, r.taken⟩ r.st N i hat
      simp only at f1 f2 f3 f5
      exact Rd.Ok.plain (m := 4) (by rw [f1]; exact e) (by omega) (by rw [f1]; exact hs) (by omega) (by rw [f3]; omega) f4
    · have ho : (if N.pl = 1 ∨ N.pl = 20 then i else r.opn) = r.opn := if_neg (by omega)
      rw [ho]
      have q1 : Rd.loose r.st.pl = false := by rw [hk]; rfl
      have q2 : Rd.loose N.pl = false := by rw [e]; rfl
      have q3 : Ts.inTag r.st.pl = true := by rw [hk]; rfl
      have hg : Rd.go P r N r.opn i = Rd.readAttr P ⟨N, r.toks, r.text, r.opn, r.value, r.attrs, r.taken⟩ r.st N i := by unfold Rd.go; rw [if_neg (by omega), if_neg (by rw [q1]; simp), if_pos q3]; unfold Rd.tags; exact if_neg (by rw [q2]; simp)
      rw [hg]
      obtain ⟨f1, f2, f3, f4, f5⟩ := Rd.readAttr_facts P ⟨N, r.toks, r.text, r.opn, r.value, r.attrs, r.taken⟩ r.st N i hat
      simp only at f1 f2 f3 f5
      exact Rd.Ok.plain (m := 12) (by rw [f1]; exact e) (by omega) (by rw [f1]; exact hs) (by omega) (by rw [f3]; omega) f4
    · have ho : (if N.pl = 1 ∨ N.pl = 20 then i else r.opn) = r.opn := if_neg (by omega)
      rw [ho]
      have q1 : Rd.loose r.st.pl = false := by rw [hk]; rfl
      have q2 : Rd.loose N.pl = true := by rw [e]; rfl
      have q3 : Ts.inTag r.st.pl = true := by rw [hk]; rfl
      have hg : Rd.go P r N r.opn i = (Rd.readAttr P ⟨N, r.toks, r.text, r.opn, r.value, r.attrs, r.taken⟩ r.st N i).tellTag r.st i := by unfold Rd.go; rw [if_neg (by omega), if_neg (by rw [q1]; simp), if_pos q3]; unfold Rd.tags; exact if_pos q2
      rw [hg]
      obtain ⟨f1, f2, f3, f4, f5⟩ := Rd.readAttr_facts P ⟨N, r.toks, r.text, r.opn, r.value, r.attrs, r.taken⟩ r.st N i hat
      simp only at f1 f2 f3 f5
      obtain ⟨d1, d2, d3, d4⟩ := Rd.tellTag_facts (Rd.readAttr P ⟨N, r.toks, r.text, r.opn, r.value, r.attrs, r.taken⟩ r.st N i) r.st i
      exact Rd.Ok.plain (m := 0) (by rw [d1, f1]; exact e) (by omega) (by rw [d1, f1]; exact hs) (by omega) (by rw [d3, f3]; omega) (by rw [d4]; show (0 : Nat) ≤ 32; omega)
    · have ho : (if N.pl = 1 ∨ N.pl = 20 then i else r.opn) = r.opn := if_neg (by omega)
      rw [ho]
      have q1 : Rd.loose r.st.pl = false := by rw [hk]; rfl
      have q2 : Rd.loose N.pl = true := by rw [e]; rfl
      have q3 : Ts.inTag r.st.pl = true := by rw [hk]; rfl
      have hg : Rd.go P r N r.opn i = (Rd.readAttr P ⟨N, r.toks, r.text, r.opn, r.value, r.attrs, r.taken⟩ r.st N i).tellTag r.st i := by unfold Rd.go; rw [if_neg (by omega), if_neg (by rw [q1]; simp), if_pos q3]; unfold Rd.tags; exact if_pos q2
      rw [hg]
      obtain ⟨f1, f2, f3, f4, f5⟩ := Rd.readAttr_facts P ⟨N, r.toks, r.text, r.opn, r.value, r.attrs, r.taken⟩ r.st N i hat
      simp only at f1 f2 f3 f5
      obtain ⟨d1, d2, d3, d4⟩ := Rd.tellTag_facts (Rd.readAttr P ⟨N, r.toks, r.text, r.opn, r.value, r.attrs, r.taken⟩ r.st N i) r.st i
      exact Rd.Ok.plain (m := 19) (by rw [d1, f1]; exact e) (by omega) (by rw [d1, f1]; exact hs) (by omega) (by rw [d3, f3]; omega) (by rw [d4]; show (0 : Nat) ≤ 32; omega)
    · have ho : (if N.pl = 1 ∨ N.pl = 20 then i else r.opn) = r.opn := if_neg (by omega)
      rw [ho]
      have q1 : Rd.loose r.st.pl = false := by rw [hk]; rfl
      have q2 : Rd.loose N.pl = false := by rw [e]; rfl
      have q3 : Ts.inTag r.st.pl = true := by rw [hk]; rfl
      have hg : Rd.go P r N r.opn i = Rd.readAttr P ⟨N, r.toks, r.text, r.opn, r.value, r.attrs, r.taken⟩ r.st N i := by unfold Rd.go; rw [if_neg (by omega), if_neg (by rw [q1]; simp), if_pos q3]; unfold Rd.tags; exact if_neg (by rw [q2]; simp)
      rw [hg]
      obtain ⟨f1, f2, f3, f4, f5⟩ := Rd.readAttr_facts P ⟨N, r.toks, r.text, r.opn, r.value, r.attrs, r.taken⟩ r.st N i hat
      simp only at f1 f2 f3 f5
      exact Rd.Ok.plain (m := 5) (by rw [f1]; exact e) (by omega) (by rw [f1]; exact hs) (by omega) (by rw [f3]; omega) f4
  by_cases e5 : k = 5
  · subst e5
    simp only [Ts.nexts, List.mem_cons, List.not_mem_nil, or_false] at hN
    rcases hN with e | e | e | e | e | e
    · have ho : (if N.pl = 1 ∨ N.pl = 20 then i else r.opn) = r.opn := if_neg (by omega)
      rw [ho]
      have q1 : Rd.loose r.st.pl = false := by rw [hk]; rfl
      have q2 : Rd.loose N.pl = false := by rw [e]; rfl
      have q3 : Ts.inTag r.st.pl = true := by rw [hk]; rfl
      have hg : Rd.go P r N r.opn i = Rd.readAttr P ⟨N, r.toks, r.text, r.opn, r.value, r.attrs, r.taken⟩ r.st N i := by unfold Rd.go; rw [if_neg (by omega), if_neg (by rw [q1]; simp), if_pos q3]; unfold Rd.tags; exact if_neg (by rw [q2]; simp)
      rw [hg]
      obtain ⟨f1, f2, f3, f4, f5⟩ := Rd.readAttr_facts P ⟨N, r.toks, r.text, r.opn, r.value, r.attrs, r.taken⟩ r.st N i hat
      simp only at f1 f2 f3 f5
      have hR : Rd.readAttr P ⟨N, r.toks, r.text, r.opn, r.value, r.attrs, r.taken⟩ r.st N i = Rd.addAttr ⟨N, r.toks, r.text, r.opn, r.value, r.attrs, r.taken⟩ r.st.attr := by unfold Rd.readAttr; rw [if_neg (by omega), if_pos (by omega)]
      have hT := (Rd.addAttr_facts ⟨N, r.toks, r.text, r.opn, r.value, r.attrs, r.taken⟩ r.st.attr hat).2.2.2.2.2
      rw [← hR] at hT
      refine ⟨by rw [f1]; omega, by rw [f1]; omega, by rw [f1]; exact hs, by omega, by rw [f3]; omega, f4, fun q => ?_, fun q _ => ?_, fun q => ?_, fun q => ?_, fun q => ?_, fun q => ?_, fun q => ?_, fun _ _ => ?_⟩
      rotate_left 7
      · exact hT
      rotate_left 6
      · rw [f1] at q; omega
      all_goals (rw [f1] at q; omega)
    · have ho : (if N.pl = 1 ∨ N.pl = 20 then i else r.opn) = r.opn := if_neg (by omega)
      rw [ho]
      have q1 : Rd.loose r.st.pl = false := by rw [hk]; rfl
      have q2 : Rd.loose N.pl = false := by rw [e]; rfl
      have q3 : Ts.inTag r.st.pl = true := by rw [hk]; rfl
      have hg : Rd.go P r N r.opn i = Rd.readAttr P ⟨N, r.toks, r.text, r.opn, r.value, r.attrs, r.taken⟩ r.st N i := by unfold Rd.go; rw [if_neg (by omega), if_neg (by rw [q1]; simp), if_pos q3]; unfold Rd.tags; exact if_neg (by rw [q2]; simp)
      rw [hg]
      obtain ⟨f1, f2, f3, f4, f5⟩ := Rd.readAttr_facts P ⟨N, r.toks, r.text, r.opn, r.value, r.attrs, r.taken⟩ r.st N i hat
      simp only at f1 f2 f3 f5
      exact Rd.Ok.plain (m := 12) (by rw [f1]; exact e) (by omega) (by rw [f1]; exact hs) (by omega) (by rw [f3]; omega) f4
    · have ho : (if N.pl = 1 ∨ N.pl = 20 then i else r.opn) = r.opn := if_neg (by omega)
      rw [ho]
      have q1 : Rd.loose r.st.pl = false := by rw [hk]; rfl
      have q2 : Rd.loose N.pl = true := by rw [e]; rfl
      have q3 : Ts.inTag r.st.pl = true := by rw [hk]; rfl
      have hg : Rd.go P r N r.opn i = (Rd.readAttr P ⟨N, r.toks, r.text, r.opn, r.value, r.attrs, r.taken⟩ r.st N i).tellTag r.st i := by unfold Rd.go; rw [if_neg (by omega), if_neg (by rw [q1]; simp), if_pos q3]; unfold Rd.tags; exact if_pos q2
      rw [hg]
      obtain ⟨f1, f2, f3, f4, f5⟩ := Rd.readAttr_facts P ⟨N, r.toks, r.text, r.opn, r.value, r.attrs, r.taken⟩ r.st N i hat
      simp only at f1 f2 f3 f5
      obtain ⟨d1, d2, d3, d4⟩ := Rd.tellTag_facts (Rd.readAttr P ⟨N, r.toks, r.text, r.opn, r.value, r.attrs, r.taken⟩ r.st N i) r.st i
      exact Rd.Ok.plain (m := 0) (by rw [d1, f1]; exact e) (by omega) (by rw [d1, f1]; exact hs) (by omega) (by rw [d3, f3]; omega) (by rw [d4]; show (0 : Nat) ≤ 32; omega)
    · have ho : (if N.pl = 1 ∨ N.pl = 20 then i else r.opn) = r.opn := if_neg (by omega)
      rw [ho]
      have q1 : Rd.loose r.st.pl = false := by rw [hk]; rfl
      have q2 : Rd.loose N.pl = true := by rw [e]; rfl
      have q3 : Ts.inTag r.st.pl = true := by rw [hk]; rfl
      have hg : Rd.go P r N r.opn i = (Rd.readAttr P ⟨N, r.toks, r.text, r.opn, r.value, r.attrs, r.taken⟩ r.st N i).tellTag r.st i := by unfold Rd.go; rw [if_neg (by omega), if_neg (by rw [q1]; simp), if_pos q3]; unfold Rd.tags; exact if_pos q2
      rw [hg]
      obtain ⟨f1, f2, f3, f4, f5⟩ := Rd.readAttr_facts P ⟨N, r.toks, r.text, r.opn, r.value, r.attrs, r.taken⟩ r.st N i hat
      simp only at f1 f2 f3 f5
      obtain ⟨d1, d2, d3, d4⟩ := Rd.tellTag_facts (Rd.readAttr P ⟨N, r.toks, r.text, r.opn, r.value, r.attrs, r.taken⟩ r.st N i) r.st i
      exact Rd.Ok.plain (m := 19) (by rw [d1, f1]; exact e) (by omega) (by rw [d1, f1]; exact hs) (by omega) (by rw [d3, f3]; omega) (by rw [d4]; show (0 : Nat) ≤ 32; omega)
    · have ho : (if N.pl = 1 ∨ N.pl = 20 then i else r.opn) = r.opn := if_neg (by omega)
      rw [ho]
      have q1 : Rd.loose r.st.pl = false := by rw [hk]; rfl
      have q2 : Rd.loose N.pl = false := by rw [e]; rfl
      have q3 : Ts.inTag r.st.pl = true := by rw [hk]; rfl
      have hg : Rd.go P r N r.opn i = Rd.readAttr P ⟨N, r.toks, r.text, r.opn, r.value, r.attrs, r.taken⟩ r.st N i := by unfold Rd.go; rw [if_neg (by omega), if_neg (by rw [q1]; simp), if_pos q3]; unfold Rd.tags; exact if_neg (by rw [q2]; simp)
      rw [hg]
      obtain ⟨f1, f2, f3, f4, f5⟩ := Rd.readAttr_facts P ⟨N, r.toks, r.text, r.opn, r.value, r.attrs, r.taken⟩ r.st N i hat
      simp only at f1 f2 f3 f5
      have hR : Rd.readAttr P ⟨N, r.toks, r.text, r.opn, r.value, r.attrs, r.taken⟩ r.st N i = Rd.addAttr ⟨N, r.toks, r.text, r.opn, r.value, r.attrs, r.taken⟩ r.st.attr := by unfold Rd.readAttr; rw [if_neg (by omega), if_pos (by omega)]
      have hT := (Rd.addAttr_facts ⟨N, r.toks, r.text, r.opn, r.value, r.attrs, r.taken⟩ r.st.attr hat).2.2.2.2.2
      rw [← hR] at hT
      refine ⟨by rw [f1]; omega, by rw [f1]; omega, by rw [f1]; exact hs, by omega, by rw [f3]; omega, f4, fun q => ?_, fun q _ => ?_, fun q => ?_, fun q => ?_, fun q => ?_, fun q => ?_, fun q => ?_, fun _ _ => ?_⟩
      rotate_left 7
      · exact hT
      rotate_left 6
      · rw [f1] at q; omega
      all_goals (rw [f1] at q; omega)
    · have ho : (if N.pl = 1 ∨ N.pl = 20 then i else r.opn) = r.opn := if_neg (by omega)
      rw [ho]
      have q1 : Rd.loose r.st.pl = false := by rw [hk]; rfl
      have q2 : Rd.loose N.pl = false := by rw [e]; rfl
      have q3 : Ts.inTag r.st.pl = true := by rw [hk]; rfl
      have hg : Rd.go P r N r.opn i = Rd.readAttr P ⟨N, r.toks, r.text, r.opn, r.value, r.attrs, r.taken⟩ r.st N i := by unfold Rd.go; rw [if_neg (by omega), if_neg (by rw [q1]; simp), if_pos q3]; unfold Rd.tags; exact if_neg (by rw [q2]; simp)
      rw [hg]
      obtain ⟨f1, f2, f3, f4, f5⟩ := Rd.readAttr_facts P ⟨N, r.toks, r.text, r.opn, r.value, r.attrs, r.taken⟩ r.st N i hat
      simp only at f1 f2 f3 f5
      exact Rd.Ok.plain (m := 5) (by rw [f1]; exact e) (by omega) (by rw [f1]; exact hs) (by omega) (by rw [f3]; omega) f4
  by_cases e6 : k = 6
  · subst e6
    simp only [Ts.nexts, List.mem_cons, List.not_mem_nil, or_false] at hN
    rcases hN with e | e | e | e | e | e
    · have ho : (if N.pl = 1 ∨ N.pl = 20 then i else r.opn) = r.opn := if_neg (by omega)
      rw [ho]
      have q1 : Rd.loose r.st.pl = false := by rw [hk]; rfl
      have q2 : Rd.loose N.pl = false := by rw [e]; rfl
      have q3 : Ts.inTag r.st.pl = true := by rw [hk]; rfl
      have hg : Rd.go P r N r.opn i = Rd.readAttr P ⟨N, r.toks, r.text, r.opn, r.value, r.attrs, r.taken⟩ r.st N i := by unfold Rd.go; rw [if_neg (by omega), if_neg (by rw [q1]; simp), if_pos q3]; unfold Rd.tags; exact if_neg (by rw [q2]; simp)
      rw [hg]
      obtain ⟨f1, f2, f3, f4, f5⟩ := Rd.readAttr_facts P ⟨N, r.toks, r.text, r.opn, r.value, r.attrs, r.taken⟩ r.st N i hat
      simp only at f1 f2 f3 f5
      have hR : Rd.readAttr P ⟨N, r.toks, r.text, r.opn, r.value, r.attrs, r.taken⟩ r.st N i = ⟨N, r.toks, r.text, r.opn, r.value, r.attrs, r.taken⟩ := by unfold Rd.readAttr; rw [if_pos (by omega)]
      have hT := h.taken (by omega) (by omega)
      refine ⟨by rw [f1]; omega, by rw [f1]; omega, by rw [f1]; exact hs, by omega, by rw [f3]; omega, f4, fun q => ?_, fun q _ => ?_, fun q => ?_, fun q => ?_, fun q => ?_, fun q => ?_, fun q => ?_, fun _ _ => ?_⟩
      rotate_left 7
      · rw [hR]; exact hT
      rotate_left 6
      · rw [f1] at q; omega
      all_goals (rw [f1] at q; omega)
    · have ho : (if N.pl = 1 ∨ N.pl = 20 then i else r.opn) = r.opn := if_neg (by omega)
      rw [ho]
      have q1 : Rd.loose r.st.pl = false := by rw [hk]; rfl
      have q2 : Rd.loose N.pl = false := by rw [e]; rfl
      have q3 : Ts.inTag r.st.pl = true := by rw [hk]; rfl
      have hg : Rd.go P r N r.opn i = Rd.readAttr P ⟨N, r.toks, r.text, r.opn, r.value, r.attrs, r.taken⟩ r.st N i := by unfold Rd.go; rw [if_neg (by omega), if_neg (by rw [q1]; simp), if_pos q3]; unfold Rd.tags; exact if_neg (by rw [q2]; simp)
      rw [hg]
      obtain ⟨f1, f2, f3, f4, f5⟩ := Rd.readAttr_facts P ⟨N, r.toks, r.text, r.opn, r.value, r.attrs, r.taken⟩ r.st N i hat
      simp only at f1 f2 f3 f5
      exact Rd.Ok.plain (m := 12) (by rw [f1]; exact e) (by omega) (by rw [f1]; exact hs) (by omega) (by rw [f3]; omega) f4
    · have ho : (if N.pl = 1 ∨ N.pl = 20 then i else r.opn) = r.opn := if_neg (by omega)
      rw [ho]
      have q1 : Rd.loose r.st.pl = false := by rw [hk]; rfl
      have q2 : Rd.loose N.pl = true := by rw [e]; rfl
      have q3 : Ts.inTag r.st.pl = true := by rw [hk]; rfl
      have hg : Rd.go P r N r.opn i = (Rd.readAttr P ⟨N, r.toks, r.text, r.opn, r.value, r.attrs, r.taken⟩ r.st N i).tellTag r.st i := by unfold Rd.go; rw [if_neg (by omega), if_neg (by rw [q1]; simp), if_pos q3]; unfold Rd.tags; exact if_pos q2
      rw [hg]
      obtain ⟨f1, f2, f3, f4, f5⟩ := Rd.readAttr_facts P ⟨N, r.toks, r.text, r.opn, r.value, r.attrs, r.taken⟩ r.st N i hat
      simp only at f1 f2 f3 f5
      obtain ⟨d1, d2, d3, d4⟩ := Rd.tellTag_facts (Rd.readAttr P ⟨N, r.toks, r.text, r.opn, r.value, r.attrs, r.taken⟩ r.st N i) r.st i
      exact Rd.Ok.plain (m := 0) (by rw [d1, f1]; exact e) (by omega) (by rw [d1, f1]; exact hs) (by omega) (by rw [d3, f3]; omega) (by rw [d4]; show (0 : Nat) ≤ 32; omega)
    · have ho : (if N.pl = 1 ∨ N.pl = 20 then i else r.opn) = r.opn := if_neg (by omega)
      rw [ho]
      have q1 : Rd.loose r.st.pl = false := by rw [hk]; rfl
      have q2 : Rd.loose N.pl = true := by rw [e]; rfl
      have q3 : Ts.inTag r.st.pl = true := by rw [hk]; rfl
      have hg : Rd.go P r N r.opn i = (Rd.readAttr P ⟨N, r.toks, r.text, r.opn, r.value, r.attrs, r.taken⟩ r.st N i).tellTag r.st i := by unfold Rd.go; rw [if_neg (by omega), if_neg (by rw [q1]; simp), if_pos q3]; unfold Rd.tags; exact if_pos q2
      rw [hg]
      obtain ⟨f1, f2, f3, f4, f5⟩ := Rd.readAttr_facts P ⟨N, r.toks, r.text, r.opn, r.value, r.attrs, r.taken⟩ r.st N i hat
      simp only at f1 f2 f3 f5
      obtain ⟨d1, d2, d3, d4⟩ := Rd.tellTag_facts (Rd.readAttr P ⟨N, r.toks, r.text, r.opn, r.value, r.attrs, r.taken⟩ r.st N i) r.st i
      exact Rd.Ok.plain (m := 19) (by rw [d1, f1]; exact e) (by omega) (by rw [d1, f1]; exact hs) (by omega) (by rw [d3, f3]; omega) (by rw [d4]; show (0 : Nat) ≤ 32; omega)
    · have ho : (if N.pl = 1 ∨ N.pl = 20 then i else r.opn) = r.opn := if_neg (by omega)
      rw [ho]
      have q1 : Rd.loose r.st.pl = false := by rw [hk]; rfl
      have q2 : Rd.loose N.pl = false := by rw [e]; rfl
      have q3 : Ts.inTag r.st.pl = true := by rw [hk]; rfl
      have hg : Rd.go P r N r.opn i = Rd.readAttr P ⟨N, r.toks, r.text, r.opn, r.value, r.attrs, r.taken⟩ r.st N i := by unfold Rd.go; rw [if_neg (by omega), if_neg (by rw [q1]; simp), if_pos q3]; unfold Rd.tags; exact if_neg (by rw [q2]; simp)
      rw [hg]
      obtain ⟨f1, f2, f3, f4, f5⟩ := Rd.readAttr_facts P ⟨N, r.toks, r.text, r.opn, r.value, r.attrs, r.taken⟩ r.st N i hat
      simp only at f1 f2 f3 f5
      have hR : Rd.readAttr P ⟨N, r.toks, r.text, r.opn, r.value, r.attrs, r.taken⟩ r.st N i = ⟨N, r.toks, r.text, r.opn, r.value, r.attrs, r.taken⟩ := by unfold Rd.readAttr; rw [if_neg (by omega), if_neg (by omega), if_neg (by omega), if_neg (by omega)]
      have hT := h.taken (by omega) (by omega)
      refine ⟨by rw [f1]; omega, by rw [f1]; omega, by rw [f1]; exact hs, by omega, by rw [f3]; omega, f4, fun q => ?_, fun q _ => ?_, fun q => ?_, fun q => ?_, fun q => ?_, fun q => ?_, fun q => ?_, fun _ _ => ?_⟩
      rotate_left 7
      · rw [hR]; exact hT
      rotate_left 6
      · rw [f1] at q; omega
      all_goals (rw [f1] at q; omega)
    · have ho : (if N.pl = 1 ∨ N.pl = 20 then i else r.opn) = r.opn := if_neg (by omega)
      rw [ho]
      have q1 : Rd.loose r.st.pl = false := by rw [hk]; rfl
      have q2 : Rd.loose N.pl = false := by rw [e]; rfl
      have q3 : Ts.inTag r.st.pl = true := by rw [hk]; rfl
      have hg : Rd.go P r N r.opn i = Rd.readAttr P ⟨N, r.toks, r.text, r.opn, r.value, r.attrs, r.taken⟩ r.st N i := by unfold Rd.go; rw [if_neg (by omega), if_neg (by rw [q1]; simp), if_pos q3]; unfold Rd.tags; exact if_neg (by rw [q2]; simp)
      rw [hg]
      obtain ⟨f1, f2, f3, f4, f5⟩ := Rd.readAttr_facts P ⟨N, r.toks, r.text, r.opn, r.value, r.attrs, r.taken⟩ r.st N i hat
      simp only at f1 f2 f3 f5
      exact Rd.Ok.plain (m := 5) (by rw [f1]; exact e) (by omega) (by rw [f1]; exact hs) (by omega) (by rw [f3]; omega) f4
  by_cases e7 : k = 7
  · subst e7
    simp only [Ts.nexts, List.mem_cons, List.not_mem_nil, or_false] at hN
    rcases hN with e | e | e | e | e | e
    · have ho : (if N.pl = 1 ∨ N.pl = 20 then i else r.opn) = r.opn := if_neg (by omega)
      rw [ho]
      have q1 : Rd.loose r.st.pl = false := by rw [hk]; rfl
      have q2 : Rd.loose N.pl = false := by rw [e]; rfl
      have q3 : Ts.inTag r.st.pl = true := by rw [hk]; rfl
      have hg : Rd.go P r N r.opn i = Rd.readAttr P ⟨N, r.toks, r.text, r.opn, r.value, r.attrs, r.taken⟩ r.st N i := by unfold Rd.go; rw [if_neg (by omega), if_neg (by rw [q1]; simp), if_pos q3]; unfold Rd.tags; exact if_neg (by rw [q2]; simp)
      rw [hg]
      obtain ⟨f1, f2, f3, f4, f5⟩ := Rd.readAttr_facts P ⟨N, r.toks, r.text, r.opn, r.value, r.attrs, r.taken⟩ r.st N i hat
      simp only at f1 f2 f3 f5
      have hR : Rd.readAttr P ⟨N, r.toks, r.text, r.opn, r.value, r.attrs, r.taken⟩ r.st N i = ⟨N, r.toks, r.text, r.opn, r.value, r.attrs, r.taken⟩ := by unfold Rd.readAttr; rw [if_pos (by omega)]
      have hT := h.taken (by omega) (by omega)
      refine ⟨by rw [f1]; omega, by rw [f1]; omega, by rw [f1]; exact hs, by omega, by rw [f3]; omega, f4, fun q => ?_, fun q _ => ?_, fun q => ?_, fun q => ?_, fun q => ?_, fun q => ?_, fun q => ?_, fun _ _ => ?_⟩
      rotate_left 7
      · rw [hR]; exact hT
      rotate_left 6
      · rw [f1] at q; omega
      all_goals (rw [f1] at q; omega)
    · have ho : (if N.pl = 1 ∨ N.pl = 20 then i else r.opn) = r.opn := if_neg (by omega)
      rw [ho]
      have q1 : Rd.loose r.st.pl = false := by rw [hk]; rfl
      have q2 : Rd.loose N.pl = false := by rw [e]; rfl
      have q3 : Ts.inTag r.st.pl = true := by rw [hk]; rfl
      have hg : Rd.go P r N r.opn i = Rd.readAttr P ⟨N, r.toks, r.text, r.opn, r.value, r.attrs, r.taken⟩ r.st N i := by unfold Rd.go; rw [if_neg (by omega), if_neg (by rw [q1]; simp), if_pos q3]; unfold Rd.tags; exact if_neg (by rw [q2]; simp)
      rw [hg]
      obtain ⟨f1, f2, f3, f4, f5⟩ := Rd.readAttr_facts P ⟨N, r.toks, r.text, r.opn, r.value, r.attrs, r.taken⟩ r.st N i hat
      simp only at f1 f2 f3 f5
      have hR : Rd.readAttr P ⟨N, r.toks, r.text, r.opn, r.value, r.attrs, r.taken⟩ r.st N i = ⟨N, r.toks, r.text, r.opn, i + 1, r.attrs, r.taken⟩ := by unfold Rd.readAttr; rw [if_neg (by omega), if_neg (by omega), if_pos (by omega)]; simp only [e]; rfl
      have hT := h.taken (by omega) (by omega)
      refine ⟨by rw [f1]; omega, by rw [f1]; omega, by rw [f1]; exact hs, by omega, by rw [f3]; omega, f4, fun q => ?_, fun q _ => ?_, fun q => ?_, fun q => ?_, fun q => ?_, fun q => ?_, fun q => ?_, fun _ _ => ?_⟩
      rotate_left 7
      · rw [hR]; exact hT
      rotate_left 6
      · rw [hR]; show i + 1 ≤ i + 1; omega
      all_goals (rw [f1] at q; omega)
    · have ho : (if N.pl = 1 ∨ N.pl = 20 then i else r.opn) = r.opn := if_neg (by omega)
      rw [ho]
      have q1 : Rd.loose r.st.pl = false := by rw [hk]; rfl
      have q2 : Rd.loose N.pl = false := by rw [e]; rfl
      have q3 : Ts.inTag r.st.pl = true := by rw [hk]; rfl
      have hg : Rd.go P r N r.opn i = Rd.readAttr P ⟨N, r.toks, r.text, r.opn, r.value, r.attrs, r.taken⟩ r.st N i := by unfold Rd.go; rw [if_neg (by omega), if_neg (by rw [q1]; simp), if_pos q3]; unfold Rd.tags; exact if_neg (by rw [q2]; simp)
      rw [hg]
      obtain ⟨f1, f2, f3, f4, f5⟩ := Rd.readAttr_facts P ⟨N, r.toks, r.text, r.opn, r.value, r.attrs, r.taken⟩ r.st N i hat
      simp only at f1 f2 f3 f5
      have hR : Rd.readAttr P ⟨N, r.toks, r.text, r.opn, r.value, r.attrs, r.taken⟩ r.st N i = ⟨N, r.toks, r.text, r.opn, i + 1, r.attrs, r.taken⟩ := by unfold Rd.readAttr; rw [if_neg (by omega), if_neg (by omega), if_pos (by omega)]; simp only [e]; rfl
      have hT := h.taken (by omega) (by omega)
      refine ⟨by rw [f1]; omega, by rw [f1]; omega, by rw [f1]; exact hs, by omega, by rw [f3]; omega, f4, fun q => ?_, fun q _ => ?_, fun q => ?_, fun q => ?_, fun q => ?_, fun q => ?_, fun q => ?_, fun _ _ => ?_⟩
      rotate_left 7
      · rw [hR]; exact hT
      rotate_left 6
      · rw [hR]; show i + 1 ≤ i + 1; omega
      all_goals (rw [f1] at q; omega)
    · have ho : (if N.pl = 1 ∨ N.pl = 20 then i else r.opn) = r.opn := if_neg (by omega)
      rw [ho]
      have q1 : Rd.loose r.st.pl = false := by rw [hk]; rfl
      have q2 : Rd.loose N.pl = true := by rw [e]; rfl
      have q3 : Ts.inTag r.st.pl = true := by rw [hk]; rfl
      have hg : Rd.go P r N r.opn i = (Rd.readAttr P ⟨N, r.toks, r.text, r.opn, r.value, r.attrs, r.taken⟩ r.st N i).tellTag r.st i := by unfold Rd.go; rw [if_neg (by omega), if_neg (by rw [q1]; simp), if_pos q3]; unfold Rd.tags; exact if_pos q2
      rw [hg]
      obtain ⟨f1, f2, f3, f4, f5⟩ := Rd.readAttr_facts P ⟨N, r.toks, r.text, r.opn, r.value, r.attrs, r.taken⟩ r.st N i hat
      simp only at f1 f2 f3 f5
      obtain ⟨d1, d2, d3, d4⟩ := Rd.tellTag_facts (Rd.readAttr P ⟨N, r.toks, r.text, r.opn, r.value, r.attrs, r.taken⟩ r.st N i) r.st i
      exact Rd.Ok.plain (m := 0) (by rw [d1, f1]; exact e) (by omega) (by rw [d1, f1]; exact hs) (by omega) (by rw [d3, f3]; omega) (by rw [d4]; show (0 : Nat) ≤ 32; omega)
    · have ho : (if N.pl = 1 ∨ N.pl = 20 then i else r.opn) = r.opn := if_neg (by omega)
      rw [ho]
      have q1 : Rd.loose r.st.pl = false := by rw [hk]; rfl
      have q2 : Rd.loose N.pl = true := by rw [e]; rfl
      have q3 : Ts.inTag r.st.pl = true := by rw [hk]; rfl
      have hg : Rd.go P r N r.opn i = (Rd.readAttr P ⟨N, r.toks, r.text, r.opn, r.value, r.attrs, r.taken⟩ r.st N i).tellTag r.st i := by unfold Rd.go; rw [if_neg (by omega), if_neg (by rw [q1]; simp), if_pos q3]; unfold Rd.tags; exact if_pos q2
      rw [hg]
      obtain ⟨f1, f2, f3, f4, f5⟩ := Rd.readAttr_facts P ⟨N, r.toks, r.text, r.opn, r.value, r.attrs, r.taken⟩ r.st N i hat
      simp only at f1 f2 f3 f5
      obtain ⟨d1, d2, d3, d4⟩ := Rd.tellTag_facts (Rd.readAttr P ⟨N, r.toks, r.text, r.opn, r.value, r.attrs, r.taken⟩ r.st N i) r.st i
      exact Rd.Ok.plain (m := 19) (by rw [d1, f1]; exact e) (by omega) (by rw [d1, f1]; exact hs) (by omega) (by rw [d3, f3]; omega) (by rw [d4]; show (0 : Nat) ≤ 32; omega)
    · have ho : (if N.pl = 1 ∨ N.pl = 20 then i else r.opn) = r.opn := if_neg (by omega)
      rw [ho]
      have q1 : Rd.loose r.st.pl = false := by rw [hk]; rfl
      have q2 : Rd.loose N.pl = false := by rw [e]; rfl
      have q3 : Ts.inTag r.st.pl = true := by rw [hk]; rfl
      have hg : Rd.go P r N r.opn i = Rd.readAttr P ⟨N, r.toks, r.text, r.opn, r.value, r.attrs, r.taken⟩ r.st N i := by unfold Rd.go; rw [if_neg (by omega), if_neg (by rw [q1]; simp), if_pos q3]; unfold Rd.tags; exact if_neg (by rw [q2]; simp)
      rw [hg]
      obtain ⟨f1, f2, f3, f4, f5⟩ := Rd.readAttr_facts P ⟨N, r.toks, r.text, r.opn, r.value, r.attrs, r.taken⟩ r.st N i hat
      simp only at f1 f2 f3 f5
      have hR : Rd.readAttr P ⟨N, r.toks, r.text, r.opn, r.value, r.attrs, r.taken⟩ r.st N i = ⟨N, r.toks, r.text, r.opn, i, r.attrs, r.taken⟩ := by unfold Rd.readAttr; rw [if_neg (by omega), if_neg (by omega), if_pos (by omega)]; simp only [e]; rfl
      have hT := h.taken (by omega) (by omega)
      refine ⟨by rw [f1]; omega, by rw [f1]; omega, by rw [f1]; exact hs, by omega, by rw [f3]; omega, f4, fun q => ?_, fun q _ => ?_, fun q => ?_, fun q => ?_, fun q => ?_, fun q => ?_, fun q => ?_, fun _ _ => ?_⟩
      rotate_left 7
      · rw [hR]; exact hT
      rotate_left 6
      · rw [hR]; show i ≤ i + 1; omega
      all_goals (rw [f1] at q; omega)
  by_cases e8 : k = 8
  · subst e8
    simp only [Ts.nexts, List.mem_cons, List.not_mem_nil, or_false] at hN
    rcases hN with e | e
    · have ho : (if N.pl = 1 ∨ N.pl = 20 then i else r.opn) = r.opn := if_neg (by omega)
      rw [ho]
      have q1 : Rd.loose r.st.pl = false := by rw [hk]; rfl
      have q2 : Rd.loose N.pl = false := by rw [e]; rfl
      have q3 : Ts.inTag r.st.pl = true := by rw [hk]; rfl
      have hg : Rd.go P r N r.opn i = Rd.readAttr P ⟨N, r.toks, r.text, r.opn, r.value, r.attrs, r.taken⟩ r.st N i := by unfold Rd.go; rw [if_neg (by omega), if_neg (by rw [q1]; simp), if_pos q3]; unfold Rd.tags; exact if_neg (by rw [q2]; simp)
      rw [hg]
      obtain ⟨f1, f2, f3, f4, f5⟩ := Rd.readAttr_facts P ⟨N, r.toks, r.text, r.opn, r.value, r.attrs, r.taken⟩ r.st N i hat
      simp only at f1 f2 f3 f5
      exact Rd.Ok.plain (m := 11) (by rw [f1]; exact e) (by omega) (by rw [f1]; exact hs) (by omega) (by rw [f3]; omega) f4
    · have ho : (if N.pl = 1 ∨ N.pl = 20 then i else r.opn) = r.opn := if_neg (by omega)
      rw [ho]
      have q1 : Rd.loose r.st.pl = false := by rw [hk]; rfl
      have q2 : Rd.loose N.pl = false := by rw [e]; rfl
      have q3 : Ts.inTag r.st.pl = true := by rw [hk]; rfl
      have hg : Rd.go P r N r.opn i = Rd.readAttr P ⟨N, r.toks, r.text, r.opn, r.value, r.attrs, r.taken⟩ r.st N i := by unfold Rd.go; rw [if_neg (by omega), if_neg (by rw [q1]; simp), if_pos q3]; unfold Rd.tags; exact if_neg (by rw [q2]; simp)
      rw [hg]
      obtain ⟨f1, f2, f3, f4, f5⟩ := Rd.readAttr_facts P ⟨N, r.toks, r.text, r.opn, r.value, r.attrs, r.taken⟩ r.st N i hat
      simp only at f1 f2 f3 f5
      have hR : Rd.readAttr P ⟨N, r.toks, r.text, r.opn, r.value, r.attrs, r.taken⟩ r.st N i = ⟨N, r.toks, r.text, r.opn, r.value, r.attrs, r.taken⟩ := by unfold Rd.readAttr; rw [if_pos (by omega)]
      have hT := h.taken (by omega) (by omega)
      refine ⟨by rw [f1]; omega, by rw [f1]; omega, by rw [f1]; exact hs, by omega, by rw [f3]; omega, f4, fun q => ?_, fun q _ => ?_, fun q => ?_, fun q => ?_, fun q => ?_, fun q => ?_, fun q => ?_, fun _ _ => ?_⟩
      rotate_left 7
      · rw [hR]; exact hT
      rotate_left 6
      · rw [hR]; have := h.value (by omega); show r.value ≤ i + 1; omega
      all_goals (rw [f1] at q; omega)
  by_cases e9 : k = 9
  · subst e9
    simp only [Ts.nexts, List.mem_cons, List.not_mem_nil, or_false] at hN
    rcases hN with e | e
    · have ho : (if N.pl = 1 ∨ N.pl = 20 then i else r.opn) = r.opn := if_neg (by omega)
      rw [ho]
      have q1 : Rd.loose r.st.pl = false := by rw [hk]; rfl
      have q2 : Rd.loose N.pl = false := by rw [e]; rfl
      have q3 : Ts.inTag r.st.pl = true := by rw [hk]; rfl
      have hg : Rd.go P r N r.opn i = Rd.readAttr P ⟨N, r.toks, r.text, r.opn, r.value, r.attrs, r.taken⟩ r.st N i := by unfold Rd.go; rw [if_neg (by omega), if_neg (by rw [q1]; simp), if_pos q3]; unfold Rd.tags; exact if_neg (by rw [q2]; simp)
      rw [hg]
      obtain ⟨f1, f2, f3, f4, f5⟩ := Rd.readAttr_facts P ⟨N, r.toks, r.text, r.opn, r.value, r.attrs, r.taken⟩ r.st N i hat
      simp only at f1 f2 f3 f5
      exact Rd.Ok.plain (m := 11) (by rw [f1]; exact e) (by omega) (by rw [f1]; exact hs) (by omega) (by rw [f3]; omega) f4
    · have ho : (if N.pl = 1 ∨ N.pl = 20 then i else r.opn) = r.opn := if_neg (by omega)
      rw [ho]
      have q1 : Rd.loose r.st.pl = false := by rw [hk]; rfl
      have q2 : Rd.loose N.pl = false := by rw [e]; rfl
      have q3 : Ts.inTag r.st.pl = true := by rw [hk]; rfl
      have hg : Rd.go P r N r.opn i = Rd.readAttr P ⟨N, r.toks, r.text, r.opn, r.value, r.attrs, r.taken⟩ r.st N i := by unfold Rd.go; rw [if_neg (by omega), if_neg (by rw [q1]; simp), if_pos q3]; unfold Rd.tags; exact if_neg (by rw [q2]; simp)
      rw [hg]
      obtain ⟨f1, f2, f3, f4, f5⟩ := Rd.readAttr_facts P ⟨N, r.toks, r.text, r.opn, r.value, r.attrs, r.taken⟩ r.st N i hat
      simp only at f1 f2 f3 f5
      have hR : Rd.readAttr P ⟨N, r.toks, r.text, r.opn, r.value, r.attrs, r.taken⟩ r.st N i = ⟨N, r.toks, r.text, r.opn, r.value, r.attrs, r.taken⟩ := by unfold Rd.readAttr; rw [if_pos (by omega)]
      have hT := h.taken (by omega) (by omega)
      refine ⟨by rw [f1]; omega, by rw [f1]; omega, by rw [f1]; exact hs, by omega, by rw [f3]; omega, f4, fun q => ?_, fun q _ => ?_, fun q => ?_, fun q => ?_, fun q => ?_, fun q => ?_, fun q => ?_, fun _ _ => ?_⟩
      rotate_left 7
      · rw [hR]; exact hT
      rotate_left 6
      · rw [hR]; have := h.value (by omega); show r.value ≤ i + 1; omega
      all_goals (rw [f1] at q; omega)
  by_cases e10 : k = 10
  · subst e10
    simp only [Ts.nexts, List.mem_cons, List.not_mem_nil, or_false] at hN
    rcases hN with e | e | e | e
    · have ho : (if N.pl = 1 ∨ N.pl = 20 then i else r.opn) = r.opn := if_neg (by omega)
      rw [ho]
      have q1 : Rd.loose r.st.pl = false := by rw [hk]; rfl
      have q2 : Rd.loose N.pl = false := by rw [e]; rfl
      have q3 : Ts.inTag r.st.pl = true := by rw [hk]; rfl
      have hg : Rd.go P r N r.opn i = Rd.readAttr P ⟨N, r.toks, r.text, r.opn, r.value, r.attrs, r.taken⟩ r.st N i := by unfold Rd.go; rw [if_neg (by omega), if_neg (by rw [q1]; simp), if_pos q3]; unfold Rd.tags; exact if_neg (by rw [q2]; simp)
      rw [hg]
      obtain ⟨f1, f2, f3, f4, f5⟩ := Rd.readAttr_facts P ⟨N, r.toks, r.text, r.opn, r.value, r.attrs, r.taken⟩ r.st N i hat
      simp only at f1 f2 f3 f5
      exact Rd.Ok.plain (m := 4) (by rw [f1]; exact e) (by omega) (by rw [f1]; exact hs) (by omega) (by rw [f3]; omega) f4
    · have ho : (if N.pl = 1 ∨ N.pl = 20 then i else r.opn) = r.opn := if_neg (by omega)
      rw [ho]
      have q1 : Rd.loose r.st.pl = false := by rw [hk]; rfl
      have q2 : Rd.loose N.pl = true := by rw [e]; rfl
      have q3 : Ts.inTag r.st.pl = true := by rw [hk]; rfl
      have hg : Rd.go P r N r.opn i = (Rd.readAttr P ⟨N, r.toks, r.text, r.opn, r.value, r.attrs, r.taken⟩ r.st N i).tellTag r.st i := by unfold Rd.go; rw [if_neg (by omega), if_neg (by rw [q1]; simp), if_pos q3]; unfold Rd.tags; exact if_pos q2
      rw [hg]
      obtain ⟨f1, f2, f3, f4, f5⟩ := Rd.readAttr_facts P ⟨N, r.toks, r.text, r.opn, r.value, r.attrs, r.taken⟩ r.st N i hat
      simp only at f1 f2 f3 f5
      obtain ⟨d1, d2, d3, d4⟩ := Rd.tellTag_facts (Rd.readAttr P ⟨N, r.toks, r.text, r.opn, r.value, r.attrs, r.taken⟩ r.st N i) r.st i
      exact Rd.Ok.plain (m := 0) (by rw [d1, f1]; exact e) (by omega) (by rw [d1, f1]; exact hs) (by omega) (by rw [d3, f3]; omega) (by rw [d4]; show (0 : Nat) ≤ 32; omega)
    · have ho : (if N.pl = 1 ∨ N.pl = 20 then i else r.opn) = r.opn := if_neg (by omega)
      rw [ho]
      have q1 : Rd.loose r.st.pl = false := by rw [hk]; rfl
      have q2 : Rd.loose N.pl = true := by rw [e]; rfl
      have q3 : Ts.inTag r.st.pl = true := by rw [hk]; rfl
      have hg : Rd.go P r N r.opn i = (Rd.readAttr P ⟨N, r.toks, r.text, r.opn, r.value, r.attrs, r.taken⟩ r.st N i).tellTag r.st i := by unfold Rd.go; rw [if_neg (by omega), if_neg (by rw [q1]; simp), if_pos q3]; unfold Rd.tags; exact if_pos q2
      rw [hg]
      obtain ⟨f1, f2, f3, f4, f5⟩ := Rd.readAttr_facts P ⟨N, r.toks, r.text, r.opn, r.value, r.attrs, r.taken⟩ r.st N i hat
      simp only at f1 f2 f3 f5
      obtain ⟨d1, d2, d3, d4⟩ := Rd.tellTag_facts (Rd.readAttr P ⟨N, r.toks, r.text, r.opn, r.value, r.attrs, r.taken⟩ r.st N i) r.st i
      exact Rd.Ok.plain (m := 19) (by rw [d1, f1]; exact e) (by omega) (by rw [d1, f1]; exact hs) (by omega) (by rw [d3, f3]; omega) (by rw [d4]; show (0 : Nat) ≤ 32; omega)
    · have ho : (if N.pl = 1 ∨ N.pl = 20 then i else r.opn) = r.opn := if_neg (by omega)
      rw [ho]
      have q1 : Rd.loose r.st.pl = false := by rw [hk]; rfl
      have q2 : Rd.loose N.pl = false := by rw [e]; rfl
      have q3 : Ts.inTag r.st.pl = true := by rw [hk]; rfl
      have hg : Rd.go P r N r.opn i = Rd.readAttr P ⟨N, r.toks, r.text, r.opn, r.value, r.attrs, r.taken⟩ r.st N i := by unfold Rd.go; rw [if_neg (by omega), if_neg (by rw [q1]; simp), if_pos q3]; unfold Rd.tags; exact if_neg (by rw [q2]; simp)
      rw [hg]
      obtain ⟨f1, f2, f3, f4, f5⟩ := Rd.readAttr_facts P ⟨N, r.toks, r.text, r.opn, r.value, r.attrs, r.taken⟩ r.st N i hat
      simp only at f1 f2 f3 f5
      have hR : Rd.readAttr P ⟨N, r.toks, r.text, r.opn, r.value, r.attrs, r.taken⟩ r.st N i = ⟨N, r.toks, r.text, r.opn, r.value, r.attrs, r.taken⟩ := by unfold Rd.readAttr; rw [if_pos (by omega)]
      have hT := h.taken (by omega) (by omega)
      refine ⟨by rw [f1]; omega, by rw [f1]; omega, by rw [f1]; exact hs, by omega, by rw [f3]; omega, f4, fun q => ?_, fun q _ => ?_, fun q => ?_, fun q => ?_, fun q => ?_, fun q => ?_, fun q => ?_, fun _ _ => ?_⟩
      rotate_left 7
      · rw [hR]; exact hT
      rotate_left 6
      · rw [hR]; have := h.value (by omega); show r.value ≤ i + 1; omega
      all_goals (rw [f1] at q; omega)
  by_cases e11 : k = 11
  · subst e11
    simp only [Ts.nexts, List.mem_cons, List.not_mem_nil, or_false] at hN
    rcases hN with e | e | e | e | e
    · have ho : (if N.pl = 1 ∨ N.pl = 20 then i else r.opn) = r.opn := if_neg (by omega)
      rw [ho]
      have q1 : Rd.loose r.st.pl = false := by rw [hk]; rfl
      have q2 : Rd.loose N.pl = false := by rw [e]; rfl
      have q3 : Ts.inTag r.st.pl = true := by rw [hk]; rfl
      have hg : Rd.go P r N r.opn i = Rd.readAttr P ⟨N, r.toks, r.text, r.opn, r.value, r.attrs, r.taken⟩ r.st N i := by unfold Rd.go; rw [if_neg (by omega), if_neg (by rw [q1]; simp), if_pos q3]; unfold Rd.tags; exact if_neg (by rw [q2]; simp)
      rw [hg]
      obtain ⟨f1, f2, f3, f4, f5⟩ := Rd.readAttr_facts P ⟨N, r.toks, r.text, r.opn, r.value, r.attrs, r.taken⟩ r.st N i hat
      simp only at f1 f2 f3 f5
      exact Rd.Ok.plain (m := 4) (by rw [f1]; exact e) (by omega) (by rw [f1]; exact hs) (by omega) (by rw [f3]; omega) f4
    · have ho : (if N.pl = 1 ∨ N.pl = 20 then i else r.opn) = r.opn := if_neg (by omega)
      rw [ho]
      have q1 : Rd.loose r.st.pl = false := by rw [hk]; rfl
      have q2 : Rd.loose N.pl = false := by rw [e]; rfl
      have q3 : Ts.inTag r.st.pl = true := by rw [hk]; rfl
      have hg : Rd.go P r N r.opn i = Rd.readAttr P ⟨N, r.toks, r.text, r.opn, r.value, r.attrs, r.taken⟩ r.st N i := by unfold Rd.go; rw [if_neg (by omega), if_neg (by rw [q1]; simp), if_pos q3]; unfold Rd.tags; exact if_neg (by rw [q2]; simp)
      rw [hg]
      obtain ⟨f1, f2, f3, f4, f5⟩ := Rd.readAttr_facts P ⟨N, r.toks, r.text, r.opn, r.value, r.attrs, r.taken⟩ r.st N i hat
      simp only at f1 f2 f3 f5
      exact Rd.Ok.plain (m := 12) (by rw [f1]; exact e) (by omega) (by rw [f1]; exact hs) (by omega) (by rw [f3]; omega) f4
    · have ho : (if N.pl = 1 ∨ N.pl = 20 then i else r.opn) = r.opn := if_neg (by omega)
      rw [ho]
      have q1 : Rd.loose r.st.pl = false := by rw [hk]; rfl
      have q2 : Rd.loose N.pl = true := by rw [e]; rfl
      have q3 : Ts.inTag r.st.pl = true := by rw [hk]; rfl
      have hg : Rd.go P r N r.opn i = (Rd.readAttr P ⟨N, r.toks, r.text, r.opn, r.value, r.attrs, r.taken⟩ r.st N i).tellTag r.st i := by unfold Rd.go; rw [if_neg (by omega), if_neg (by rw [q1]; simp), if_pos q3]; unfold Rd.tags; exact if_pos q2
      rw [hg]
      obtain ⟨f1, f2, f3, f4, f5⟩ := Rd.readAttr_facts P ⟨N, r.toks, r.text, r.opn, r.value, r.attrs, r.taken⟩ r.st N i hat
      simp only at f1 f2 f3 f5
      obtain ⟨d1, d2, d3, d4⟩ := Rd.tellTag_facts (Rd.readAttr P ⟨N, r.toks, r.text, r.opn, r.value, r.attrs, r.taken⟩ r.st N i) r.st i
      exact Rd.Ok.plain (m := 0) (by rw [d1, f1]; exact e) (by omega) (by rw [d1, f1]; exact hs) (by omega) (by rw [d3, f3]; omega) (by rw [d4]; show (0 : Nat) ≤ 32; omega)
    · have ho : (if N.pl = 1 ∨ N.pl = 20 then i else r.opn) = r.opn := if_neg (by omega)
      rw [ho]
      have q1 : Rd.loose r.st.pl = false := by rw [hk]; rfl
      have q2 : Rd.loose N.pl = true := by rw [e]; rfl
      have q3 : Ts.inTag r.st.pl = true := by rw [hk]; rfl
      have hg : Rd.go P r N r.opn i = (Rd.readAttr P ⟨N, r.toks, r.text, r.opn, r.value, r.attrs, r.taken⟩ r.st N i).tellTag r.st i := by unfold Rd.go; rw [if_neg (by omega), if_neg (by rw [q1]; simp), if_pos q3]; unfold Rd.tags; exact if_pos q2
      rw [hg]
      obtain ⟨f1, f2, f3, f4, f5⟩ := Rd.readAttr_facts P ⟨N, r.toks, r.text, r.opn, r.value, r.attrs, r.taken⟩ r.st N i hat
      simp only at f1 f2 f3 f5
      obtain ⟨d1, d2, d3, d4⟩ := Rd.tellTag_facts (Rd.readAttr P ⟨N, r.toks, r.text, r.opn, r.value, r.attrs, r.taken⟩ r.st N i) r.st i
      exact Rd.Ok.plain (m := 19) (by rw [d1, f1]; exact e) (by omega) (by rw [d1, f1]; exact hs) (by omega) (by rw [d3, f3]; omega) (by rw [d4]; show (0 : Nat) ≤ 32; omega)
    · have ho : (if N.pl = 1 ∨ N.pl = 20 then i else r.opn) = r.opn := if_neg (by omega)
      rw [ho]
      have q1 : Rd.loose r.st.pl = false := by rw [hk]; rfl
      have q2 : Rd.loose N.pl = false := by rw [e]; rfl
      have q3 : Ts.inTag r.st.pl = true := by rw [hk]; rfl
      have hg : Rd.go P r N r.opn i = Rd.readAttr P ⟨N, r.toks, r.text, r.opn, r.value, r.attrs, r.taken⟩ r.st N i := by unfold Rd.go; rw [if_neg (by omega), if_neg (by rw [q1]; simp), if_pos q3]; unfold Rd.tags; exact if_neg (by rw [q2]; simp)
      rw [hg]
      obtain ⟨f1, f2, f3, f4, f5⟩ := Rd.readAttr_facts P ⟨N, r.toks, r.text, r.opn, r.value, r.attrs, r.taken⟩ r.st N i hat
      simp only at f1 f2 f3 f5
      exact Rd.Ok.plain (m := 5) (by rw [f1]; exact e) (by omega) (by rw [f1]; exact hs) (by omega) (by rw [f3]; omega) f4
  by_cases e12 : k = 12
  · subst e12
    simp only [Ts.nexts, List.mem_cons, List.not_mem_nil, or_false] at hN
    rcases hN with e | e | e | e | e
    · have ho : (if N.pl = 1 ∨ N.pl = 20 then i else r.opn) = r.opn := if_neg (by omega)
      rw [ho]
      have q1 : Rd.loose r.st.pl = false := by rw [hk]; rfl
      have q2 : Rd.loose N.pl = true := by rw [e]; rfl
      have q3 : Ts.inTag r.st.pl = true := by rw [hk]; rfl
      have hg : Rd.go P r N r.opn i = (Rd.readAttr P ⟨N, r.toks, r.text, r.opn, r.value, r.attrs, r.taken⟩ r.st N i).tellTag r.st i := by unfold Rd.go; rw [if_neg (by omega), if_neg (by rw [q1]; simp), if_pos q3]; unfold Rd.tags; exact if_pos q2
      rw [hg]
      obtain ⟨f1, f2, f3, f4, f5⟩ := Rd.readAttr_facts P ⟨N, r.toks, r.text, r.opn, r.value, r.attrs, r.taken⟩ r.st N i hat
      simp only at f1 f2 f3 f5
      obtain ⟨d1, d2, d3, d4⟩ := Rd.tellTag_facts (Rd.readAttr P ⟨N, r.toks, r.text, r.opn, r.value, r.attrs, r.taken⟩ r.st N i) r.st i
      exact Rd.Ok.plain (m := 0) (by rw [d1, f1]; exact e) (by omega) (by rw [d1, f1]; exact hs) (by omega) (by rw [d3, f3]; omega) (by rw [d4]; show (0 : Nat) ≤ 32; omega)
    · have ho : (if N.pl = 1 ∨ N.pl = 20 then i else r.opn) = r.opn := if_neg (by omega)
      rw [ho]
      have q1 : Rd.loose r.st.pl = false := by rw [hk]; rfl
      have q2 : Rd.loose N.pl = true := by rw [e]; rfl
      have q3 : Ts.inTag r.st.pl = true := by rw [hk]; rfl
      have hg : Rd.go P r N r.opn i = (Rd.readAttr P ⟨N, r.toks, r.text, r.opn, r.value, r.attrs, r.taken⟩ r.st N i).tellTag r.st i := by unfold Rd.go; rw [if_neg (by omega), if_neg (by rw [q1]; simp), if_pos q3]; unfold Rd.tags; exact if_pos q2
      rw [hg]
      obtain ⟨f1, f2, f3, f4, f5⟩ := Rd.readAttr_facts P ⟨N, r.toks, r.text, r.opn, r.value, r.attrs, r.taken⟩ r.st N i hat
      simp only at f1 f2 f3 f5
      obtain ⟨d1, d2, d3, d4⟩ := Rd.tellTag_facts (Rd.readAttr P ⟨N, r.toks, r.text, r.opn, r.value, r.attrs, r.taken⟩ r.st N i) r.st i
      exact Rd.Ok.plain (m := 19) (by rw [d1, f1]; exact e) (by omega) (by rw [d1, f1]; exact hs) (by omega) (by rw [d3, f3]; omega) (by rw [d4]; show (0 : Nat) ≤ 32; omega)
    · have ho : (if N.pl = 1 ∨ N.pl = 20 then i else r.opn) = r.opn := if_neg (by omega)
      rw [ho]
      have q1 : Rd.loose r.st.pl = false := by rw [hk]; rfl
      have q2 : Rd.loose N.pl = false := by rw [e]; rfl
      have q3 : Ts.inTag r.st.pl = true := by rw [hk]; rfl
      have hg : Rd.go P r N r.opn i = Rd.readAttr P ⟨N, r.toks, r.text, r.opn, r.value, r.attrs, r.taken⟩ r.st N i := by unfold Rd.go; rw [if_neg (by omega), if_neg (by rw [q1]; simp), if_pos q3]; unfold Rd.tags; exact if_neg (by rw [q2]; simp)
      rw [hg]
      obtain ⟨f1, f2, f3, f4, f5⟩ := Rd.readAttr_facts P ⟨N, r.toks, r.text, r.opn, r.value, r.attrs, r.taken⟩ r.st N i hat
      simp only at f1 f2 f3 f5
      exact Rd.Ok.plain (m := 4) (by rw [f1]; exact e) (by omega) (by rw [f1]; exact hs) (by omega) (by rw [f3]; omega) f4
    · have ho : (if N.pl = 1 ∨ N.pl = 20 then i else r.opn) = r.opn := if_neg (by omega)
      rw [ho]
      have q1 : Rd.loose r.st.pl = false := by rw [hk]; rfl
      have q2 : Rd.loose N.pl = false := by rw [e]; rfl
      have q3 : Ts.inTag r.st.pl = true := by rw [hk]; rfl
      have hg : Rd.go P r N r.opn i = Rd.readAttr P ⟨N, r.toks, r.text, r.opn, r.value, r.attrs, r.taken⟩ r.st N i := by unfold Rd.go; rw [if_neg (by omega), if_neg (by rw [q1]; simp), if_pos q3]; unfold Rd.tags; exact if_neg (by rw [q2]; simp)
      rw [hg]
      obtain ⟨f1, f2, f3, f4, f5⟩ := Rd.readAttr_facts P ⟨N, r.toks, r.text, r.opn, r.value, r.attrs, r.taken⟩ r.st N i hat
      simp only at f1 f2 f3 f5
      exact Rd.Ok.plain (m := 12) (by rw [f1]; exact e) (by omega) (by rw [f1]; exact hs) (by omega) (by rw [f3]; omega) f4
    · have ho : (if N.pl = 1 ∨ N.pl = 20 then i else r.opn) = r.opn := if_neg (by omega)
      rw [ho]
      have q1 : Rd.loose r.st.pl = false := by rw [hk]; rfl
      have q2 : Rd.loose N.pl = false := by rw [e]; rfl
      have q3 : Ts.inTag r.st.pl = true := by rw [hk]; rfl
      have hg : Rd.go P r N r.opn i = Rd.readAttr P ⟨N, r.toks, r.text, r.opn, r.value, r.attrs, r.taken⟩ r.st N i := by unfold Rd.go; rw [if_neg (by omega), if_neg (by rw [q1]; simp), if_pos q3]; unfold Rd.tags; exact if_neg (by rw [q2]; simp)
      rw [hg]
      obtain ⟨f1, f2, f3, f4, f5⟩ := Rd.readAttr_facts P ⟨N, r.toks, r.text, r.opn, r.value, r.attrs, r.taken⟩ r.st N i hat
      simp only at f1 f2 f3 f5
      exact Rd.Ok.plain (m := 5) (by rw [f1]; exact e) (by omega) (by rw [f1]; exact hs) (by omega) (by rw [f3]; omega) f4
  by_cases e13 : k = 13
  · subst e13
    simp only [Ts.nexts, List.mem_cons, List.not_mem_nil, or_false] at hN
    rcases hN with e | e | e
    · have ho : (if N.pl = 1 ∨ N.pl = 20 then i else r.opn) = r.opn := if_neg (by omega)
      rw [ho]
      have q1 : Rd.loose r.st.pl = false := by rw [hk]; rfl
      have q2 : Rd.loose N.pl = false := by rw [e]; rfl
      have q3 : Ts.inTag r.st.pl = false := by rw [hk]; rfl
      have hg : Rd.go P r N r.opn i = ⟨N, r.toks, r.text, r.opn, r.value, r.attrs, r.taken⟩ := by unfold Rd.go; rw [if_neg (by omega), if_neg (by rw [q1, q2]; simp), if_neg (by rw [q3]; simp), if_neg (by rw [q1, q2]; simp)]
      rw [hg]
      have hb := h.bang (by omega) (by omega)
      exact ⟨by show 0 ≤ N.pl; omega, by show N.pl < 23; omega, hs, by show r.text ≤ i + 1; omega, by show r.toks.length ≤ _; omega, hat, fun q => by simp only at q; show r.text ≤ r.opn ∧ r.opn + 1 ≤ i + 1; omega, fun q1 q2 => by simp only at q1 q2; show r.opn + 2 ≤ i + 1; omega, fun q => by simp only at q; show r.opn + 3 ≤ i + 1; omega, fun q => by simp only at q; show r.opn + 4 ≤ i + 1; omega, fun q => by simp only at q; show r.opn + 5 ≤ i + 1; omega, fun q => by simp only at q; show r.opn + 6 ≤ i + 1; omega, fun q => by simp only at q; omega, fun q1 q2 => by simp only at q1 q2; omega⟩
    · have ho : (if N.pl = 1 ∨ N.pl = 20 then i else r.opn) = r.opn := if_neg (by omega)
      rw [ho]
      have q1 : Rd.loose r.st.pl = false := by rw [hk]; rfl
      have q2 : Rd.loose N.pl = true := by rw [e]; rfl
      have q3 : Ts.inTag r.st.pl = false := by rw [hk]; rfl
      have hg : Rd.go P r N r.opn i = Rd.tellComment P ⟨N, r.toks, r.text, r.opn, r.value, r.attrs, r.taken⟩ r.st i := by unfold Rd.go; rw [if_neg (by omega), if_neg (by rw [q1]; simp), if_neg (by rw [q3]; simp), if_pos ⟨q1, q2⟩]
      rw [hg]
      exact Rd.Ok.plain (m := 0) (by exact e) (by omega) hs (Nat.le_refl _) (by simp only [Rd.tellComment, Rd.tell, List.length_append, List.length_cons, List.length_nil]; omega) (by show (0 : Nat) ≤ 32; omega)
    · have ho : (if N.pl = 1 ∨ N.pl = 20 then i else r.opn) = r.opn := if_neg (by omega)
      rw [ho]
      have q1 : Rd.loose r.st.pl = false := by rw [hk]; rfl
      have q2 : Rd.loose N.pl = false := by rw [e]; rfl
      have q3 : Ts.inTag r.st.pl = false := by rw [hk]; rfl
      have hg : Rd.go P r N r.opn i = ⟨N, r.toks, r.text, r.opn, r.value, r.attrs, r.taken⟩ := by unfold Rd.go; rw [if_neg (by omega), if_neg (by rw [q1, q2]; simp), if_neg (by rw [q3]; simp), if_neg (by rw [q1, q2]; simp)]
      rw [hg]
      have hb := h.bang (by omega) (by omega)
      exact ⟨by show 0 ≤ N.pl; omega, by show N.pl < 23; omega, hs, by show r.text ≤ i + 1; omega, by show r.toks.length ≤ _; omega, hat, fun q => by simp only at q; show r.text ≤ r.opn ∧ r.opn + 1 ≤ i + 1; omega, fun q1 q2 => by simp only at q1 q2; show r.opn + 2 ≤ i + 1; omega, fun q => by simp only at q; show r.opn + 3 ≤ i + 1; omega, fun q => by simp only at q; show r.opn + 4 ≤ i + 1; omega, fun q => by simp only at q; show r.opn + 5 ≤ i + 1; omega, fun q => by simp only at q; show r.opn + 6 ≤ i + 1; omega, fun q => by simp only at q; omega, fun q1 q2 => by simp only at q1 q2; omega⟩
  by_cases e14 : k = 14
  · subst e14
    simp only [Ts.nexts, List.mem_cons, List.not_mem_nil, or_false] at hN
    rcases hN with e | e | e
    · have ho : (if N.pl = 1 ∨ N.pl = 20 then i else r.opn) = r.opn := if_neg (by omega)
      rw [ho]
      have q1 : Rd.loose r.st.pl = false := by rw [hk]; rfl
      have q2 : Rd.loose N.pl = false := by rw [e]; rfl
      have q3 : Ts.inTag r.st.pl = false := by rw [hk]; rfl
      have hg : Rd.go P r N r.opn i = ⟨N, r.toks, r.text, r.opn, r.value, r.attrs, r.taken⟩ := by unfold Rd.go; rw [if_neg (by omega), if_neg (by rw [q1, q2]; simp), if_neg (by rw [q3]; simp), if_neg (by rw [q1, q2]; simp)]
      rw [hg]
      have hb := h.bang (by omega) (by omega)
      have hc14 := h.c14 (by omega)
      exact ⟨by show 0 ≤ N.pl; omega, by show N.pl < 23; omega, hs, by show r.text ≤ i + 1; omega, by show r.toks.length ≤ _; omega, hat, fun q => by simp only at q; show r.text ≤ r.opn ∧ r.opn + 1 ≤ i + 1; omega, fun q1 q2 => by simp only at q1 q2; show r.opn + 2 ≤ i + 1; omega, fun q => by simp only at q; show r.opn + 3 ≤ i + 1; omega, fun q => by simp only at q; show r.opn + 4 ≤ i + 1; omega, fun q => by simp only at q; show r.opn + 5 ≤ i + 1; omega, fun q => by simp only at q; show r.opn + 6 ≤ i + 1; omega, fun q => by simp only at q; omega, fun q1 q2 => by simp only at q1 q2; omega⟩
    · have ho : (if N.pl = 1 ∨ N.pl = 20 then i else r.opn) = r.opn := if_neg (by omega)
      rw [ho]
      have q1 : Rd.loose r.st.pl = false := by rw [hk]; rfl
      have q2 : Rd.loose N.pl = true := by rw [e]; rfl
      have q3 : Ts.inTag r.st.pl = false := by rw [hk]; rfl
      have hg : Rd.go P r N r.opn i = Rd.tellComment P ⟨N, r.toks, r.text, r.opn, r.value, r.attrs, r.taken⟩ r.st i := by unfold Rd.go; rw [if_neg (by omega), if_neg (by rw [q1]; simp), if_neg (by rw [q3]; simp), if_pos ⟨q1, q2⟩]
      rw [hg]
      exact Rd.Ok.plain (m := 0) (by exact e) (by omega) hs (Nat.le_refl _) (by simp only [Rd.tellComment, Rd.tell, List.length_append, List.length_cons, List.length_nil]; omega) (by show (0 : Nat) ≤ 32; omega)
    · have ho : (if N.pl = 1 ∨ N.pl = 20 then i else r.opn) = r.opn := if_neg (by omega)
      rw [ho]
      have q1 : Rd.loose r.st.pl = false := by rw [hk]; rfl
      have q2 : Rd.loose N.pl = false := by rw [e]; rfl
      have q3 : Ts.inTag r.st.pl = false := by rw [hk]; rfl
      have hg : Rd.go P r N r.opn i = ⟨N, r.toks, r.text, r.opn, r.value, r.attrs, r.taken⟩ := by unfold Rd.go; rw [if_neg (by omega), if_neg (by rw [q1, q2]; simp), if_neg (by rw [q3]; simp), if_neg (by rw [q1, q2]; simp)]
      rw [hg]
      have hb := h.bang (by omega) (by omega)
      have hc14 := h.c14 (by omega)
      exact ⟨by show 0 ≤ N.pl; omega, by show N.pl < 23; omega, hs, by show r.text ≤ i + 1; omega, by show r.toks.length ≤ _; omega, hat, fun q => by simp only at q; show r.text ≤ r.opn ∧ r.opn + 1 ≤ i + 1; omega, fun q1 q2 => by simp only at q1 q2; show r.opn + 2 ≤ i + 1; omega, fun q => by simp only at q; show r.opn + 3 ≤ i + 1; omega, fun q => by simp only at q; show r.opn + 4 ≤ i + 1; omega, fun q => by simp only at q; show r.opn + 5 ≤ i + 1; omega, fun q => by simp only at q; show r.opn + 6 ≤ i + 1; omega, fun q => by simp only at q; omega, fun q1 q2 => by simp only at q1 q2; omega⟩
  by_cases e15 : k = 15
  · subst e15
    simp only [Ts.nexts, List.mem_cons, List.not_mem_nil, or_false] at hN
    rcases hN with e | e
    · have ho : (if N.pl = 1 ∨ N.pl = 20 then i else r.opn) = r.opn := if_neg (by omega)
      rw [ho]
      have q1 : Rd.loose r.st.pl = false := by rw [hk]; rfl
      have q2 : Rd.loose N.pl = false := by rw [e]; rfl
      have q3 : Ts.inTag r.st.pl = false := by rw [hk]; rfl
      have hg : Rd.go P r N r.opn i = ⟨N, r.toks, r.text, r.opn, r.value, r.attrs, r.taken⟩ := by unfold Rd.go; rw [if_neg (by omega), if_neg (by rw [q1, q2]; simp), if_neg (by rw [q3]; simp), if_neg (by rw [q1, q2]; simp)]
      rw [hg]
      have hb := h.bang (by omega) (by omega)
      have hc15 := h.c15 (by omega)
      exact ⟨by show 0 ≤ N.pl; omega, by show N.pl < 23; omega, hs, by show r.text ≤ i + 1; omega, by show r.toks.length ≤ _; omega, hat, fun q => by simp only at q; show r.text ≤ r.opn ∧ r.opn + 1 ≤ i + 1; omega, fun q1 q2 => by simp only at q1 q2; show r.opn + 2 ≤ i + 1; omega, fun q => by simp only at q; show r.opn + 3 ≤ i + 1; omega, fun q => by simp only at q; show r.opn + 4 ≤ i + 1; omega, fun q => by simp only at q; show r.opn + 5 ≤ i + 1; omega, fun q => by simp only at q; show r.opn + 6 ≤ i + 1; omega, fun q => by simp only at q; omega, fun q1 q2 => by simp only at q1 q2; omega⟩
    · have ho : (if N.pl = 1 ∨ N.pl = 20 then i else r.opn) = r.opn := if_neg (by omega)
      rw [ho]
      have q1 : Rd.loose r.st.pl = false := by rw [hk]; rfl
      have q2 : Rd.loose N.pl = false := by rw [e]; rfl
      have q3 : Ts.inTag r.st.pl = false := by rw [hk]; rfl
      have hg : Rd.go P r N r.opn i = ⟨N, r.toks, r.text, r.opn, r.value, r.attrs, r.taken⟩ := by unfold Rd.go; rw [if_neg (by omega), if_neg (by rw [q1, q2]; simp), if_neg (by rw [q3]; simp), if_neg (by rw [q1, q2]; simp)]
      rw [hg]
      have hb := h.bang (by omega) (by omega)
      have hc15 := h.c15 (by omega)
      exact ⟨by show 0 ≤ N.pl; omega, by show N.pl < 23; omega, hs, by show r.text ≤ i + 1; omega, by show r.toks.length ≤ _; omega, hat, fun q => by simp only at q; show r.text ≤ r.opn ∧ r.opn + 1 ≤ i + 1; omega, fun q1 q2 => by simp only at q1 q2; show r.opn + 2 ≤ i + 1; omega, fun q => by simp only at q; show r.opn + 3 ≤ i + 1; omega, fun q => by simp only at q; show r.opn + 4 ≤ i + 1; omega, fun q => by simp only at q; show r.opn + 5 ≤ i + 1; omega, fun q => by simp only at q; show r.opn + 6 ≤ i + 1; omega, fun q => by simp only at q; omega, fun q1 q2 => by simp only at q1 q2; omega⟩
  by_cases e16 : k = 16
  · subst e16
    simp only [Ts.nexts, List.mem_cons, List.not_mem_nil, or_false] at hN
    rcases hN with e | e
    · have ho : (if N.pl = 1 ∨ N.pl = 20 then i else r.opn) = r.opn := if_neg (by omega)
      rw [ho]
      have q1 : Rd.loose r.st.pl = false := by rw [hk]; rfl
      have q2 : Rd.loose N.pl = false := by rw [e]; rfl
      have q3 : Ts.inTag r.st.pl = false := by rw [hk]; rfl
      have hg : Rd.go P r N r.opn i = ⟨N, r.toks, r.text, r.opn, r.value, r.attrs, r.taken⟩ := by unfold Rd.go; rw [if_neg (by omega), if_neg (by rw [q1, q2]; simp), if_neg (by rw [q3]; simp), if_neg (by rw [q1, q2]; simp)]
      rw [hg]
      have hb := h.bang (by omega) (by omega)
      have hc16 := h.c16 (by omega)
      exact ⟨by show 0 ≤ N.pl; omega, by show N.pl < 23; omega, hs, by show r.text ≤ i + 1; omega, by show r.toks.length ≤ _; omega, hat, fun q => by simp only at q; show r.text ≤ r.opn ∧ r.opn + 1 ≤ i + 1; omega, fun q1 q2 => by simp only at q1 q2; show r.opn + 2 ≤ i + 1; omega, fun q => by simp only at q; show r.opn + 3 ≤ i + 1; omega, fun q => by simp only at q; show r.opn + 4 ≤ i + 1; omega, fun q => by simp only at q; show r.opn + 5 ≤ i + 1; omega, fun q => by simp only at q; show r.opn + 6 ≤ i + 1; omega, fun q => by simp only at q; omega, fun q1 q2 => by simp only at q1 q2; omega⟩
    · have ho : (if N.pl = 1 ∨ N.pl = 20 then i else r.opn) = r.opn := if_neg (by omega)
      rw [ho]
      have q1 : Rd.loose r.st.pl = false := by rw [hk]; rfl
      have q2 : Rd.loose N.pl = false := by rw [e]; rfl
      have q3 : Ts.inTag r.st.pl = false := by rw [hk]; rfl
      have hg : Rd.go P r N r.opn i = ⟨N, r.toks, r.text, r.opn, r.value, r.attrs, r.taken⟩ := by unfold Rd.go; rw [if_neg (by omega), if_neg (by rw [q1, q2]; simp), if_neg (by rw [q3]; simp), if_neg (by rw [q1, q2]; simp)]
      rw [hg]
      have hb := h.bang (by omega) (by omega)
      have hc16 := h.c16 (by omega)
      exact ⟨by show 0 ≤ N.pl; omega, by show N.pl < 23; omega, hs, by show r.text ≤ i + 1; omega, by show r.toks.length ≤ _; omega, hat, fun q => by simp only at q; show r.text ≤ r.opn ∧ r.opn + 1 ≤ i + 1; omega, fun q1 q2 => by simp only at q1 q2; show r.opn + 2 ≤ i + 1; omega, fun q => by simp only at q; show r.opn + 3 ≤ i + 1; omega, fun q => by simp only at q; show r.opn + 4 ≤ i + 1; omega, fun q => by simp only at q; show r.opn + 5 ≤ i + 1; omega, fun q => by simp only at q; show r.opn + 6 ≤ i + 1; omega, fun q => by simp only at q; omega, fun q1 q2 => by simp only at q1 q2; omega⟩
  by_cases e17 : k = 17
  · subst e17
    simp only [Ts.nexts, List.mem_cons, List.not_mem_nil, or_false] at hN
    rcases hN with e | e | e
    · have ho : (if N.pl = 1 ∨ N.pl = 20 then i else r.opn) = r.opn := if_neg (by omega)
      rw [ho]
      have q1 : Rd.loose r.st.pl = false := by rw [hk]; rfl
      have q2 : Rd.loose N.pl = true := by rw [e]; rfl
      have q3 : Ts.inTag r.st.pl = false := by rw [hk]; rfl
      have hg : Rd.go P r N r.opn i = Rd.tellComment P ⟨N, r.toks, r.text, r.opn, r.value, r.attrs, r.taken⟩ r.st i := by unfold Rd.go; rw [if_neg (by omega), if_neg (by rw [q1]; simp), if_neg (by rw [q3]; simp), if_pos ⟨q1, q2⟩]
      rw [hg]
      exact Rd.Ok.plain (m := 0) (by exact e) (by omega) hs (Nat.le_refl _) (by simp only [Rd.tellComment, Rd.tell, List.length_append, List.length_cons, List.length_nil]; omega) (by show (0 : Nat) ≤ 32; omega)
    · have ho : (if N.pl = 1 ∨ N.pl = 20 then i else r.opn) = r.opn := if_neg (by omega)
      rw [ho]
      have q1 : Rd.loose r.st.pl = false := by rw [hk]; rfl
      have q2 : Rd.loose N.pl = false := by rw [e]; rfl
      have q3 : Ts.inTag r.st.pl = false := by rw [hk]; rfl
      have hg : Rd.go P r N r.opn i = ⟨N, r.toks, r.text, r.opn, r.value, r.attrs, r.taken⟩ := by unfold Rd.go; rw [if_neg (by omega), if_neg (by rw [q1, q2]; simp), if_neg (by rw [q3]; simp), if_neg (by rw [q1, q2]; simp)]
      rw [hg]
      have hb := h.bang (by omega) (by omega)
      have hc17 := h.c17 (by omega)
      exact ⟨by show 0 ≤ N.pl; omega, by show N.pl < 23; omega, hs, by show r.text ≤ i + 1; omega, by show r.toks.length ≤ _; omega, hat, fun q => by simp only at q; show r.text ≤ r.opn ∧ r.opn + 1 ≤ i + 1; omega, fun q1 q2 => by simp only at q1 q2; show r.opn + 2 ≤ i + 1; omega, fun q => by simp only at q; show r.opn + 3 ≤ i + 1; omega, fun q => by simp only at q; show r.opn + 4 ≤ i + 1; omega, fun q => by simp only at q; show r.opn + 5 ≤ i + 1; omega, fun q => by simp only at q; show r.opn + 6 ≤ i + 1; omega, fun q => by simp only at q; omega, fun q1 q2 => by simp only at q1 q2; omega⟩
    · have ho : (if N.pl = 1 ∨ N.pl = 20 then i else r.opn) = r.opn := if_neg (by omega)
      rw [ho]
      have q1 : Rd.loose r.st.pl = false := by rw [hk]; rfl
      have q2 : Rd.loose N.pl = false := by rw [e]; rfl
      have q3 : Ts.inTag r.st.pl = false := by rw [hk]; rfl
      have hg : Rd.go P r N r.opn i = ⟨N, r.toks, r.text, r.opn, r.value, r.attrs, r.taken⟩ := by unfold Rd.go; rw [if_neg (by omega), if_neg (by rw [q1, q2]; simp), if_neg (by rw [q3]; simp), if_neg (by rw [q1, q2]; simp)]
      rw [hg]
      have hb := h.bang (by omega) (by omega)
      have hc17 := h.c17 (by omega)
      exact ⟨by show 0 ≤ N.pl; omega, by show N.pl < 23; omega, hs, by show r.text ≤ i + 1; omega, by show r.toks.length ≤ _; omega, hat, fun q => by simp only at q; show r.text ≤ r.opn ∧ r.opn + 1 ≤ i + 1; omega, fun q1 q2 => by simp only at q1 q2; show r.opn + 2 ≤ i + 1; omega, fun q => by simp only at q; show r.opn + 3 ≤ i + 1; omega, fun q => by simp only at q; show r.opn + 4 ≤ i + 1; omega, fun q => by simp only at q; show r.opn + 5 ≤ i + 1; omega, fun q => by simp only at q; show r.opn + 6 ≤ i + 1; omega, fun q => by simp only at q; omega, fun q1 q2 => by simp only at q1 q2; omega⟩
  by_cases e18 : k = 18
  · subst e18
    simp only [Ts.nexts, List.mem_cons, List.not_mem_nil, or_false] at hN
    rcases hN with e | e
    · have ho : (if N.pl = 1 ∨ N.pl = 20 then i else r.opn) = r.opn := if_neg (by omega)
      rw [ho]
      have q1 : Rd.loose r.st.pl = false := by rw [hk]; rfl
      have q2 : Rd.loose N.pl = true := by rw [e]; rfl
      have q3 : Ts.inTag r.st.pl = false := by rw [hk]; rfl
      have hg : Rd.go P r N r.opn i = Rd.tellComment P ⟨N, r.toks, r.text, r.opn, r.value, r.attrs, r.taken⟩ r.st i := by unfold Rd.go; rw [if_neg (by omega), if_neg (by rw [q1]; simp), if_neg (by rw [q3]; simp), if_pos ⟨q1, q2⟩]
      rw [hg]
      exact Rd.Ok.plain (m := 0) (by exact e) (by omega) hs (Nat.le_refl _) (by simp only [Rd.tellComment, Rd.tell, List.length_append, List.length_cons, List.length_nil]; omega) (by show (0 : Nat) ≤ 32; omega)
    · have ho : (if N.pl = 1 ∨ N.pl = 20 then i else r.opn) = r.opn := if_neg (by omega)
      rw [ho]
      have q1 : Rd.loose r.st.pl = false := by rw [hk]; rfl
      have q2 : Rd.loose N.pl = false := by rw [e]; rfl
      have q3 : Ts.inTag r.st.pl = false := by rw [hk]; rfl
      have hg : Rd.go P r N r.opn i = ⟨N, r.toks, r.text, r.opn, r.value, r.attrs, r.taken⟩ := by unfold Rd.go; rw [if_neg (by omega), if_neg (by rw [q1, q2]; simp), if_neg (by rw [q3]; simp), if_neg (by rw [q1, q2]; simp)]
      rw [hg]
      have hb := h.bang (by omega) (by omega)
      exact ⟨by show 0 ≤ N.pl; omega, by show N.pl < 23; omega, hs, by show r.text ≤ i + 1; omega, by show r.toks.length ≤ _; omega, hat, fun q => by simp only at q; show r.text ≤ r.opn ∧ r.opn + 1 ≤ i + 1; omega, fun q1 q2 => by simp only at q1 q2; show r.opn + 2 ≤ i + 1; omega, fun q => by simp only at q; show r.opn + 3 ≤ i + 1; omega, fun q => by simp only at q; show r.opn + 4 ≤ i + 1; omega, fun q => by simp only at q; show r.opn + 5 ≤ i + 1; omega, fun q => by simp only at q; show r.opn + 6 ≤ i + 1; omega, fun q => by simp only at q; omega, fun q1 q2 => by simp only at q1 q2; omega⟩
  by_cases e19 : k = 19
  · subst e19
    simp only [Ts.nexts, List.mem_cons, List.not_mem_nil, or_false] at hN
    rcases hN with e | e
    · have ho : (if N.pl = 1 ∨ N.pl = 20 then i else r.opn) = i := if_pos (by omega)
      rw [ho]
      have q1 : Rd.loose r.st.pl = true := by rw [hk]; rfl
      have q2 : Rd.loose N.pl = true := by rw [e]; rfl
      have q3 : Ts.inTag r.st.pl = false := by rw [hk]; rfl
      have hg : Rd.go P r N i i = ⟨N, r.toks, r.text, i, r.value, r.attrs, r.taken⟩ := by unfold Rd.go; rw [if_neg (by omega), if_neg (by rw [q1, q2]; simp), if_neg (by rw [q3]; simp), if_neg (by rw [q1, q2]; simp)]
      rw [hg]
      exact ⟨by show 0 ≤ N.pl; omega, by show N.pl < 23; omega, hs, by show r.text ≤ i + 1; omega, by show r.toks.length ≤ _; omega, hat, fun q => by simp only at q; show r.text ≤ i ∧ i + 1 ≤ i + 1; omega, fun q1 q2 => by simp only at q1 q2; show i + 2 ≤ i + 1; omega, fun q => by simp only at q; show i + 3 ≤ i + 1; omega, fun q => by simp only at q; show i + 4 ≤ i + 1; omega, fun q => by simp only at q; show i + 5 ≤ i + 1; omega, fun q => by simp only at q; show i + 6 ≤ i + 1; omega, fun q => by simp only at q; omega, fun q1 q2 => by simp only at q1 q2; omega⟩
    · have ho : (if N.pl = 1 ∨ N.pl = 20 then i else r.opn) = r.opn := if_neg (by omega)
      rw [ho]
      have q1 : Rd.loose r.st.pl = true := by rw [hk]; rfl
      have q2 : Rd.loose N.pl = true := by rw [e]; rfl
      have q3 : Ts.inTag r.st.pl = false := by rw [hk]; rfl
      have hg : Rd.go P r N r.opn i = ⟨N, r.toks, r.text, r.opn, r.value, r.attrs, r.taken⟩ := by unfold Rd.go; rw [if_neg (by omega), if_neg (by rw [q1, q2]; simp), if_neg (by rw [q3]; simp), if_neg (by rw [q1, q2]; simp)]
      rw [hg]
      exact Rd.Ok.plain (m := 19) e (by omega) hs (by show r.text ≤ i + 1; omega) (by show r.toks.length ≤ _; omega) hat
  by_cases e20 : k = 20
  · subst e20
    simp only [Ts.nexts, List.mem_cons, List.not_mem_nil, or_false] at hN
    rcases hN with e | e | e
    · have ho : (if N.pl = 1 ∨ N.pl = 20 then i else r.opn) = r.opn := if_neg (by omega)
      rw [ho]
      have q1 : Rd.loose r.st.pl = true := by rw [hk]; rfl
      have q2 : Rd.loose N.pl = true := by rw [e]; rfl
      have q3 : Ts.inTag r.st.pl = false := by rw [hk]; rfl
      have hg : Rd.go P r N r.opn i = ⟨N, r.toks, r.text, r.opn, r.value, r.attrs, r.taken⟩ := by unfold Rd.go; rw [if_neg (by omega), if_neg (by rw [q1, q2]; simp), if_neg (by rw [q3]; simp), if_neg (by rw [q1, q2]; simp)]
      rw [hg]
      have hq := h.opn (by omega)
      exact ⟨by show 0 ≤ N.pl; omega, by show N.pl < 23; omega, hs, by show r.text ≤ i + 1; omega, by show r.toks.length ≤ _; omega, hat, fun q => by simp only at q; show r.text ≤ r.opn ∧ r.opn + 1 ≤ i + 1; omega, fun q1 q2 => by simp only at q1 q2; show r.opn + 2 ≤ i + 1; omega, fun q => by simp only at q; show r.opn + 3 ≤ i + 1; omega, fun q => by simp only at q; show r.opn + 4 ≤ i + 1; omega, fun q => by simp only at q; show r.opn + 5 ≤ i + 1; omega, fun q => by simp only at q; show r.opn + 6 ≤ i + 1; omega, fun q => by simp only at q; omega, fun q1 q2 => by simp only at q1 q2; omega⟩
    · have ho : (if N.pl = 1 ∨ N.pl = 20 then i else r.opn) = i := if_pos (by omega)
      rw [ho]
      have q1 : Rd.loose r.st.pl = true := by rw [hk]; rfl
      have q2 : Rd.loose N.pl = true := by rw [e]; rfl
      have q3 : Ts.inTag r.st.pl = false := by rw [hk]; rfl
      have hg : Rd.go P r N i i = ⟨N, r.toks, r.text, i, r.value, r.attrs, r.taken⟩ := by unfold Rd.go; rw [if_neg (by omega), if_neg (by rw [q1, q2]; simp), if_neg (by rw [q3]; simp), if_neg (by rw [q1, q2]; simp)]
      rw [hg]
      exact ⟨by show 0 ≤ N.pl; omega, by show N.pl < 23; omega, hs, by show r.text ≤ i + 1; omega, by show r.toks.length ≤ _; omega, hat, fun q => by simp only at q; show r.text ≤ i ∧ i + 1 ≤ i + 1; omega, fun q1 q2 => by simp only at q1 q2; show i + 2 ≤ i + 1; omega, fun q => by simp only at q; show i + 3 ≤ i + 1; omega, fun q => by simp only at q; show i + 4 ≤ i + 1; omega, fun q => by simp only at q; show i + 5 ≤ i + 1; omega, fun q => by simp only at q; show i + 6 ≤ i + 1; omega, fun q => by simp only at q; omega, fun q1 q2 => by simp only at q1 q2; omega⟩
    · have ho : (if N.pl = 1 ∨ N.pl = 20 then i else r.opn) = r.opn := if_neg (by omega)
      rw [ho]
      have q1 : Rd.loose r.st.pl = true := by rw [hk]; rfl
      have q2 : Rd.loose N.pl = true := by rw [e]; rfl
      have q3 : Ts.inTag r.st.pl = false := by rw [hk]; rfl
      have hg : Rd.go P r N r.opn i = ⟨N, r.toks, r.text, r.opn, r.value, r.attrs, r.taken⟩ := by unfold Rd.go; rw [if_neg (by omega), if_neg (by rw [q1, q2]; simp), if_neg (by rw [q3]; simp), if_neg (by rw [q1, q2]; simp)]
      rw [hg]
      exact Rd.Ok.plain (m := 19) e (by omega) hs (by show r.text ≤ i + 1; omega) (by show r.toks.length ≤ _; omega) hat
  by_cases e21 : k = 21
  · subst e21
    simp only [Ts.nexts, List.mem_cons, List.not_mem_nil, or_false] at hN
    rcases hN with e | e | e
    · have ho : (if N.pl = 1 ∨ N.pl = 20 then i else r.opn) = r.opn := if_neg (by omega)
      rw [ho]
      have q1 : Rd.loose r.st.pl = true := by rw [hk]; rfl
      have q2 : Rd.loose N.pl = true := by rw [e]; rfl
      have q3 : Ts.inTag r.st.pl = false := by rw [hk]; rfl
      have hg : Rd.go P r N r.opn i = ⟨N, r.toks, r.text, r.opn, r.value, r.attrs, r.taken⟩ := by unfold Rd.go; rw [if_neg (by omega), if_neg (by rw [q1, q2]; simp), if_neg (by rw [q3]; simp), if_neg (by rw [q1, q2]; simp)]
      rw [hg]
      have hq := h.opn (by omega)
      exact ⟨by show 0 ≤ N.pl; omega, by show N.pl < 23; omega, hs, by show r.text ≤ i + 1; omega, by show r.toks.length ≤ _; omega, hat, fun q => by simp only at q; show r.text ≤ r.opn ∧ r.opn + 1 ≤ i + 1; omega, fun q1 q2 => by simp only at q1 q2; show r.opn + 2 ≤ i + 1; omega, fun q => by simp only at q; show r.opn + 3 ≤ i + 1; omega, fun q => by simp only at q; show r.opn + 4 ≤ i + 1; omega, fun q => by simp only at q; show r.opn + 5 ≤ i + 1; omega, fun q => by simp only at q; show r.opn + 6 ≤ i + 1; omega, fun q => by simp only at q; omega, fun q1 q2 => by simp only at q1 q2; omega⟩
    · have ho : (if N.pl = 1 ∨ N.pl = 20 then i else r.opn) = i := if_pos (by omega)
      rw [ho]
      have q1 : Rd.loose r.st.pl = true := by rw [hk]; rfl
      have q2 : Rd.loose N.pl = true := by rw [e]; rfl
      have q3 : Ts.inTag r.st.pl = false := by rw [hk]; rfl
      have hg : Rd.go P r N i i = ⟨N, r.toks, r.text, i, r.value, r.attrs, r.taken⟩ := by unfold Rd.go; rw [if_neg (by omega), if_neg (by rw [q1, q2]; simp), if_neg (by rw [q3]; simp), if_neg (by rw [q1, q2]; simp)]
      rw [hg]
      exact ⟨by show 0 ≤ N.pl; omega, by show N.pl < 23; omega, hs, by show r.text ≤ i + 1; omega, by show r.toks.length ≤ _; omega, hat, fun q => by simp only at q; show r.text ≤ i ∧ i + 1 ≤ i + 1; omega, fun q1 q2 => by simp only at q1 q2; show i + 2 ≤ i + 1; omega, fun q => by simp only at q; show i + 3 ≤ i + 1; omega, fun q => by simp only at q; show i + 4 ≤ i + 1; omega, fun q => by simp only at q; show i + 5 ≤ i + 1; omega, fun q => by simp only at q; show i + 6 ≤ i + 1; omega, fun q => by simp only at q; omega, fun q1 q2 => by simp only at q1 q2; omega⟩
    · have ho : (if N.pl = 1 ∨ N.pl = 20 then i else r.opn) = r.opn := if_neg (by omega)
      rw [ho]
      have q1 : Rd.loose r.st.pl = true := by rw [hk]; rfl
      have q2 : Rd.loose N.pl = true := by rw [e]; rfl
      have q3 : Ts.inTag r.st.pl = false := by rw [hk]; rfl
      have hg : Rd.go P r N r.opn i = ⟨N, r.toks, r.text, r.opn, r.value, r.attrs, r.taken⟩ := by unfold Rd.go; rw [if_neg (by omega), if_neg (by rw [q1, q2]; simp), if_neg (by rw [q3]; simp), if_neg (by rw [q1, q2]; simp)]
      rw [hg]
      exact Rd.Ok.plain (m := 19) e (by omega) hs (by show r.text ≤ i + 1; omega) (by show r.toks.length ≤ _; omega) hat
  by_cases e22 : k = 22
  · subst e22
    simp only [Ts.nexts, List.mem_cons, List.not_mem_nil, or_false] at hN
    rcases hN with e | e | e | e | e | e
    · have ho : (if N.pl = 1 ∨ N.pl = 20 then i else r.opn) = r.opn := if_neg (by omega)
      rw [ho]
      have q1 : Rd.loose r.st.pl = true := by rw [hk]; rfl
      have q2 : Rd.loose N.pl = true := by rw [e]; rfl
      have q3 : Ts.inTag r.st.pl = false := by rw [hk]; rfl
      have hg : Rd.go P r N r.opn i = ⟨N, r.toks, r.text, r.opn, r.value, r.attrs, r.taken⟩ := by unfold Rd.go; rw [if_neg (by omega), if_neg (by rw [q1, q2]; simp), if_neg (by rw [q3]; simp), if_neg (by rw [q1, q2]; simp)]
      rw [hg]
      have hq := h.opn (by omega)
      exact ⟨by show 0 ≤ N.pl; omega, by show N.pl < 23; omega, hs, by show r.text ≤ i + 1; omega, by show r.toks.length ≤ _; omega, hat, fun q => by simp only at q; show r.text ≤ r.opn ∧ r.opn + 1 ≤ i + 1; omega, fun q1 q2 => by simp only at q1 q2; show r.opn + 2 ≤ i + 1; omega, fun q => by simp only at q; show r.opn + 3 ≤ i + 1; omega, fun q => by simp only at q; show r.opn + 4 ≤ i + 1; omega, fun q => by simp only at q; show r.opn + 5 ≤ i + 1; omega, fun q => by simp only at q; show r.opn + 6 ≤ i + 1; omega, fun q => by simp only at q; omega, fun q1 q2 => by simp only at q1 q2; omega⟩
    · have ho : (if N.pl = 1 ∨ N.pl = 20 then i else r.opn) = i := if_pos (by omega)
      rw [ho]
      have q1 : Rd.loose r.st.pl = true := by rw [hk]; rfl
      have q2 : Rd.loose N.pl = true := by rw [e]; rfl
      have q3 : Ts.inTag r.st.pl = false := by rw [hk]; rfl
      have hg : Rd.go P r N i i = ⟨N, r.toks, r.text, i, r.value, r.attrs, r.taken⟩ := by unfold Rd.go; rw [if_neg (by omega), if_neg (by rw [q1, q2]; simp), if_neg (by rw [q3]; simp), if_neg (by rw [q1, q2]; simp)]
      rw [hg]
      exact ⟨by show 0 ≤ N.pl; omega, by show N.pl < 23; omega, hs, by show r.text ≤ i + 1; omega, by show r.toks.length ≤ _; omega, hat, fun q => by simp only at q; show r.text ≤ i ∧ i + 1 ≤ i + 1; omega, fun q1 q2 => by simp only at q1 q2; show i + 2 ≤ i + 1; omega, fun q => by simp only at q; show i + 3 ≤ i + 1; omega, fun q => by simp only at q; show i + 4 ≤ i + 1; omega, fun q => by simp only at q; show i + 5 ≤ i + 1; omega, fun q => by simp only at q; show i + 6 ≤ i + 1; omega, fun q => by simp only at q; omega, fun q1 q2 => by simp only at q1 q2; omega⟩
    · have ho : (if N.pl = 1 ∨ N.pl = 20 then i else r.opn) = r.opn := if_neg (by omega)
      rw [ho]
      have q1 : Rd.loose r.st.pl = true := by rw [hk]; rfl
      have q2 : Rd.loose N.pl = true := by rw [e]; rfl
      have q3 : Ts.inTag r.st.pl = false := by rw [hk]; rfl
      have hg : Rd.go P r N r.opn i = ⟨N, r.toks, r.text, r.opn, r.value, r.attrs, r.taken⟩ := by unfold Rd.go; rw [if_neg (by omega), if_neg (by rw [q1, q2]; simp), if_neg (by rw [q3]; simp), if_neg (by rw [q1, q2]; simp)]
      rw [hg]
      exact Rd.Ok.plain (m := 19) e (by omega) hs (by show r.text ≤ i + 1; omega) (by show r.toks.length ≤ _; omega) hat
    · have ho : (if N.pl = 1 ∨ N.pl = 20 then i else r.opn) = r.opn := if_neg (by omega)
      rw [ho]
      have q1 : Rd.loose r.st.pl = true := by rw [hk]; rfl
      have q2 : Rd.loose N.pl = false := by rw [e]; rfl
      have q3 : Ts.inTag r.st.pl = false := by rw [hk]; rfl
      have hg : Rd.go P r N r.opn i = Rd.tellText P ⟨N, r.toks, r.text, r.opn, r.value, r.attrs, r.taken⟩ r.opn r.st.held := by unfold Rd.go; rw [if_neg (by omega), if_pos ⟨q1, q2⟩]
      rw [hg]
      obtain ⟨f1, f2, f3, f4, f5⟩ := Rd.tellText_facts P ⟨N, r.toks, r.text, r.opn, r.value, r.attrs, r.taken⟩ r.opn r.st.held
      simp only at f1 f2 f3 f4 f5
      have hq := h.opn (by omega)
      exact Rd.Ok.plain (m := 4) (by rw [f1]; exact e) (by omega) (by rw [f1]; exact hs) (by omega) (by omega) (by omega)
    · have ho : (if N.pl = 1 ∨ N.pl = 20 then i else r.opn) = r.opn := if_neg (by omega)
      rw [ho]
      have q1 : Rd.loose r.st.pl = true := by rw [hk]; rfl
      have q2 : Rd.loose N.pl = false := by rw [e]; rfl
      have q3 : Ts.inTag r.st.pl = false := by rw [hk]; rfl
      have hg : Rd.go P r N r.opn i = Rd.tellText P ⟨N, r.toks, r.text, r.opn, r.value, r.attrs, r.taken⟩ r.opn r.st.held := by unfold Rd.go; rw [if_neg (by omega), if_pos ⟨q1, q2⟩]
      rw [hg]
      obtain ⟨f1, f2, f3, f4, f5⟩ := Rd.tellText_facts P ⟨N, r.toks, r.text, r.opn, r.value, r.attrs, r.taken⟩ r.opn r.st.held
      simp only at f1 f2 f3 f4 f5
      have hq := h.opn (by omega)
      exact Rd.Ok.plain (m := 12) (by rw [f1]; exact e) (by omega) (by rw [f1]; exact hs) (by omega) (by omega) (by omega)
    · have ho : (if N.pl = 1 ∨ N.pl = 20 then i else r.opn) = r.opn := if_neg (by omega)
      rw [ho]
      have q1 : Rd.loose r.st.pl = true := by rw [hk]; rfl
      have q2 : Rd.loose N.pl = true := by rw [e]; rfl
      have q3 : Ts.inTag r.st.pl = false := by rw [hk]; rfl
      have hg : Rd.go P r N r.opn i = (Rd.tellText P ⟨N, r.toks, r.text, r.opn, r.value, r.attrs, r.taken⟩ r.opn r.st.held).tell ⟨2, r.st.held, Ts.e, [], false⟩ (i + 1) := if_pos ⟨hk, e⟩
      rw [hg]
      obtain ⟨f1, f2, f3, f4, f5⟩ := Rd.tellText_facts P ⟨N, r.toks, r.text, r.opn, r.value, r.attrs, r.taken⟩ r.opn r.st.held
      exact Rd.Ok.plain (m := 0) (by show (Rd.tellText P _ _ _).st.pl = _; rw [f1]; exact e) (by omega) (by show (Rd.tellText P _ _ _).st.Small; rw [f1]; exact hs) (Nat.le_refl _) (by simp only [Rd.tell, List.length_append, List.length_cons, List.length_nil] at f3 ⊢; omega) (by show (0 : Nat) ≤ 32; omega)
  omega
theorem Rd.Ok.read {P : ByteArray} {r : Rd} {i : Nat} (h : Rd.Ok r i) (c : UInt8) : Rd.Ok (Rd.read P r i c) (i + 1) := by
  obtain ⟨k, hk⟩ : ∃ k : Nat, r.st.pl = (k : Int) := ⟨r.st.pl.toNat, by have := h.lo; omega⟩
  rw [Rd.read_go]
  exact Rd.Ok.go k hk h (Ts.step_next r.st c k hk (by have := h.hi; omega)) (Ts.step_small h.small c)
end Go.Proofs.YtblpkjlodncpeaaGreatDoor
