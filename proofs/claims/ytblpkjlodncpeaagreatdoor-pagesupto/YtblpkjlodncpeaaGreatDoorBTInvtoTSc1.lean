/-
  PLAIN: what the reader's parts keep to.
-/
import Derived.Test.YtblpkjlodncpeaaGreatDoorBTBoxtoTOk
namespace Go.Proofs.YtblpkjlodncpeaaGreatDoor
structure Rd.Ok (r : Rd) (i : Nat) : Prop where
 lo : 0 ≤ r.st.pl
 hi : r.st.pl < 23
 small : r.st.Small
 text : r.text ≤ i
 toks : r.toks.length ≤ 2 * i
 attrs : r.attrs.length ≤ 32
 opn : (r.st.pl = 1 ∨ r.st.pl = 2 ∨ r.st.pl = 20 ∨ r.st.pl = 21 ∨ r.st.pl = 22) → r.text ≤ r.opn ∧ r.opn + 1 ≤ i
 bang : 13 ≤ r.st.pl → r.st.pl ≤ 18 → r.opn + 2 ≤ i
 c14 : r.st.pl = 14 → r.opn + 3 ≤ i
 c15 : r.st.pl = 15 → r.opn + 4 ≤ i
 c16 : r.st.pl = 16 → r.opn + 5 ≤ i
 c17 : r.st.pl = 17 → r.opn + 6 ≤ i
 value : (r.st.pl = 8 ∨ r.st.pl = 9 ∨ r.st.pl = 10) → r.value ≤ i
 taken : 6 ≤ r.st.pl → r.st.pl ≤ 10 → r.taken = true → r.attrs ≠ []
theorem Rd.Ok.start : Rd.Ok Rd.start 0 := by
 refine ⟨by decide, by decide, ⟨by decide, by decide, by decide⟩, by decide, by decide, by decide, ?_, ?_, ?_, ?_, ?_, ?_, ?_, ?_⟩ <;> decide
def Rd.go (P : ByteArray) (r : Rd) (N : Ts) (o i : Nat) : Rd :=
 if r.st.pl = 22 ∧ N.pl = 0 then (Rd.tellText P ⟨N, r.toks, r.text, o, r.value, r.attrs, r.taken⟩ o r.st.held).tell ⟨2, r.st.held, Ts.e, [], false⟩ (i + 1) else if Rd.loose r.st.pl = true ∧ Rd.loose N.pl = false then Rd.tellText P ⟨N, r.toks, r.text, o, r.value, r.attrs, r.taken⟩ o r.st.held else if Ts.inTag r.st.pl = true then Rd.tags P ⟨N, r.toks, r.text, o, r.value, r.attrs, r.taken⟩ r.st i else if Rd.loose r.st.pl = false ∧ Rd.loose N.pl = true then Rd.tellComment P ⟨N, r.toks, r.text, o, r.value, r.attrs, r.taken⟩ r.st i else ⟨N, r.toks, r.text, o, r.value, r.attrs, r.taken⟩
theorem Rd.read_go (P : ByteArray) (r : Rd) (i : Nat) (c : UInt8) : Rd.read P r i c = Rd.go P r (r.st.step c) (if (r.st.step c).pl = 1 ∨ (r.st.step c).pl = 20 then i else r.opn) i := rfl
theorem Rd.tellText_facts (P : ByteArray) (r : Rd) (f : Nat) (h : ByteArray) : (Rd.tellText P r f h).st = r.st ∧ (Rd.tellText P r f h).text = f ∧ (Rd.tellText P r f h).toks.length ≤ r.toks.length + 1 ∧ (Rd.tellText P r f h).attrs.length ≤ r.attrs.length ∧ (Rd.tellText P r f h).opn = r.opn := by
 unfold Rd.tellText
 split
 ·
  next e => exact ⟨rfl, e, by omega, Nat.le_refl _, rfl⟩
 ·
  exact ⟨rfl, rfl, by simp [Rd.tell], by simp [Rd.tell], rfl⟩
theorem Rd.addAttr_facts (r : Rd) (n : ByteArray) (h : r.attrs.length ≤ 32) : (r.addAttr n).st = r.st ∧ (r.addAttr n).text = r.text ∧ (r.addAttr n).toks = r.toks ∧ (r.addAttr n).attrs.length ≤ 32 ∧ (r.addAttr n).opn = r.opn ∧ ((r.addAttr n).taken = true → (r.addAttr n).attrs ≠ []) := by
 unfold Rd.addAttr
 split
 ·
  next e => exact ⟨rfl, rfl, rfl, by simp; omega, rfl, fun _ => by simp⟩
 ·
  exact ⟨rfl, rfl, rfl, h, rfl, fun q => by cases q⟩
theorem Rd.setLast_len (l : List (ByteArray × ByteArray)) (v : ByteArray) : (Rd.setLast l v).length = l.length := by simp [Rd.setLast]
theorem Rd.readAttr_facts (P : ByteArray) (r : Rd) (was now : Ts) (i : Nat) (h : r.attrs.length ≤ 32) : (Rd.readAttr P r was now i).st = r.st ∧ (Rd.readAttr P r was now i).text = r.text ∧ (Rd.readAttr P r was now i).toks = r.toks ∧ (Rd.readAttr P r was now i).attrs.length ≤ 32 ∧ (Rd.readAttr P r was now i).opn = r.opn := by
 unfold Rd.readAttr
 split
 ·
  exact ⟨rfl, rfl, rfl, h, rfl⟩
 split
 ·
  obtain ⟨a, b, c, d, e, _⟩ := Rd.addAttr_facts r was.attr h
  exact ⟨a, b, c, d, e⟩
 split
 ·
  exact ⟨rfl, rfl, rfl, h, rfl⟩
 split
 ·
  split
  ·
   exact ⟨rfl, rfl, rfl, by show (Rd.setLast _ _).length ≤ _; rw [Rd.setLast_len]; exact h, rfl⟩
  ·
   exact ⟨rfl, rfl, rfl, h, rfl⟩
 ·
  exact ⟨rfl, rfl, rfl, h, rfl⟩
theorem Rd.tellTag_facts (r : Rd) (s : Ts) (i : Nat) : (r.tellTag s i).st = r.st ∧ (r.tellTag s i).text = i + 1 ∧ (r.tellTag s i).toks.length = r.toks.length + 1 ∧ (r.tellTag s i).attrs = [] := by
 unfold Rd.tellTag
 split <;> exact ⟨rfl, rfl, by simp [Rd.tell], rfl⟩
theorem Rd.Ok.plain {r : Rd} {i : Nat} {m : Int} (hm : r.st.pl = m) (h0 : m = 0 ∨ m = 3 ∨ m = 4 ∨ m = 5 ∨ m = 11 ∨ m = 12 ∨ m = 19) (hs : r.st.Small) (ht : r.text ≤ i) (hk : r.toks.length ≤ 2 * i) (ha : r.attrs.length ≤ 32) : Rd.Ok r i :=
 ⟨by omega, by omega, hs, ht, hk, ha, fun q => by omega, fun q1 q2 => by omega, fun q => by omega, fun q => by omega, fun q => by omega, fun q => by omega, fun q => by omega, fun q1 q2 => by omega⟩
theorem Rd.lse (a : Int) : Rd.loose a = true ↔ a < 3 ∨ 19 ≤ a := by simp [Rd.loose]
theorem Rd.lsf (a : Int) : Rd.loose a = false ↔ 3 ≤ a ∧ a < 19 := by
 rw [← Bool.not_eq_true, Rd.lse]
 omega
theorem Rd.tge (a : Int) : Ts.inTag a = true ↔ 3 ≤ a ∧ a ≤ 12 := by simp [Ts.inTag]
section
variable {P : ByteArray} {r : Rd} {i : Nat} {N : Ts}
theorem Rd.lStay (h : Rd.Ok r i) (hs : N.Small) (hn : 0 ≤ N.pl ∧ N.pl < 23 ∧ ¬ (6 ≤ N.pl ∧ N.pl ≤ 10)) (h0 : ¬ (r.st.pl = 22 ∧ N.pl = 0)) (h1 : ¬ (3 ≤ r.st.pl ∧ r.st.pl ≤ 12)) (h2 : (r.st.pl < 3 ∨ 19 ≤ r.st.pl) ↔ (N.pl < 3 ∨ 19 ≤ N.pl)) (o1 : N.pl = 2 ∨ N.pl = 21 ∨ N.pl = 22 → r.text ≤ r.opn ∧ r.opn ≤ i) (o2 : 13 ≤ N.pl → N.pl ≤ 18 → r.opn + 1 ≤ i) (o3 : N.pl = 14 → r.opn + 2 ≤ i) (o4 : N.pl = 15 → r.opn + 3 ≤ i) (o5 : N.pl = 16 → r.opn + 4 ≤ i) (o6 : N.pl = 17 → r.opn + 5 ≤ i) :
  Rd.Ok (Rd.go P r N (if N.pl = 1 ∨ N.pl = 20 then i else r.opn) i) (i + 1) := by
 have htx := h.text
 have htk := h.toks
 obtain ⟨o, ho⟩ : ∃ o, (if N.pl = 1 ∨ N.pl = 20 then i else r.opn) = o := ⟨_, rfl⟩
 have hc : ((N.pl = 1 ∨ N.pl = 20) ∧ o = i) ∨ (¬ (N.pl = 1 ∨ N.pl = 20) ∧ o = r.opn) := by
  rw [← ho]
  split
  ·
   next q => exact .inl ⟨q, rfl⟩
  ·
   next q => exact .inr ⟨q, rfl⟩
 rw [ho]
 have hg : Rd.go P r N o i = ⟨N, r.toks, r.text, o, r.value, r.attrs, r.taken⟩ := by
  unfold Rd.go
  rw [if_neg h0, if_neg (by rw [Rd.lse, Rd.lsf]; omega), if_neg (by rw [Rd.tge]; omega), if_neg (by rw [Rd.lse, Rd.lsf]; omega)]
 rw [hg]
 refine ⟨hn.1, hn.2.1, hs, ?_, ?_, h.attrs, ?_, ?_, ?_, ?_, ?_, ?_, ?_, ?_⟩
 all_goals dsimp only
 all_goals omega
theorem Rd.lText (h : Rd.Ok r i) (hs : N.Small) (hn : N.pl = 3 ∨ N.pl = 4 ∨ N.pl = 12 ∨ N.pl = 13) (h1 : r.st.pl = 1 ∨ r.st.pl = 2 ∨ r.st.pl = 22) : Rd.Ok (Rd.go P r N (if N.pl = 1 ∨ N.pl = 20 then i else r.opn) i) (i + 1) := by
 have hat := h.attrs
 have htk := h.toks
 have hq := h.opn (by omega)
 rw [if_neg (show ¬ (N.pl = 1 ∨ N.pl = 20) by omega)]
 have hg : Rd.go P r N r.opn i = Rd.tellText P ⟨N, r.toks, r.text, r.opn, r.value, r.attrs, r.taken⟩ r.opn r.st.held := by
  unfold Rd.go
  rw [if_neg (by omega), if_pos (by rw [Rd.lse, Rd.lsf]; omega)]
 rw [hg]
 obtain ⟨f1, f2, f3, f4, f5⟩ := Rd.tellText_facts P ⟨N, r.toks, r.text, r.opn, r.value, r.attrs, r.taken⟩ r.opn r.st.held
 dsimp only at f1 f2 f3 f4 f5
 refine ⟨?_, ?_, by rw [f1]; exact hs, ?_, ?_, ?_, ?_, ?_, ?_, ?_, ?_, ?_, ?_, fun q1 q2 => ?_⟩
 all_goals first | omega | (rw [f1]; omega) | (rw [f1] at q1 q2; omega)
theorem Rd.lTag (h : Rd.Ok r i) (hs : N.Small) (hn : 3 ≤ N.pl ∧ N.pl ≤ 12) (h1 : 3 ≤ r.st.pl ∧ r.st.pl ≤ 12) (ht : 6 ≤ N.pl → N.pl ≤ 10 → (r.st.pl = 5 ∧ N.pl ≤ 7) ∨ (r.st.pl = 6 ∧ N.pl ≤ 7) ∨ r.st.pl = 7 ∨ r.st.pl = N.pl) : Rd.Ok (Rd.go P r N (if N.pl = 1 ∨ N.pl = 20 then i else r.opn) i) (i + 1) := by
 have hat := h.attrs
 have htx := h.text
 have htk := h.toks
 rw [if_neg (show ¬ (N.pl = 1 ∨ N.pl = 20) by omega)]
 have hg : Rd.go P r N r.opn i = Rd.readAttr P ⟨N, r.toks, r.text, r.opn, r.value, r.attrs, r.taken⟩ r.st N i := by
  unfold Rd.go
  rw [if_neg (by omega), if_neg (by rw [Rd.lse, Rd.lsf]; omega), if_pos (by rw [Rd.tge]; omega)]
  unfold Rd.tags
  exact if_neg (by rw [Rd.lse]; dsimp only; omega)
 rw [hg]
 obtain ⟨f1, f2, f3, f4, f5⟩ := Rd.readAttr_facts P ⟨N, r.toks, r.text, r.opn, r.value, r.attrs, r.taken⟩ r.st N i hat
 have hv : (N.pl = 8 ∨ N.pl = 9 ∨ N.pl = 10) → (Rd.readAttr P ⟨N, r.toks, r.text, r.opn, r.value, r.attrs, r.taken⟩ r.st N i).value ≤ i + 1 := fun q => by
  have hh := ht (by omega) (by omega)
  unfold Rd.readAttr
  by_cases c : r.st.pl = N.pl
  ·
   rw [if_pos c]
   have := h.value (by omega)
   dsimp only
   omega
  ·
   rw [if_neg c, if_neg (by omega), if_pos (by omega)]
   dsimp only
   split <;> omega
 have hT : 6 ≤ N.pl → N.pl ≤ 10 → (Rd.readAttr P ⟨N, r.toks, r.text, r.opn, r.value, r.attrs, r.taken⟩ r.st N i).taken = true → (Rd.readAttr P ⟨N, r.toks, r.text, r.opn, r.value, r.attrs, r.taken⟩ r.st N i).attrs ≠ [] := fun q1 q2 => by
  have hh := ht q1 q2
  unfold Rd.readAttr
  by_cases c : r.st.pl = N.pl
  ·
   rw [if_pos c]
   exact h.taken (by omega) (by omega)
  ·
   rw [if_neg c]
   by_cases c5 : r.st.pl = 5
   ·
    rw [if_pos c5]
    exact (Rd.addAttr_facts ⟨N, r.toks, r.text, r.opn, r.value, r.attrs, r.taken⟩ r.st.attr hat).2.2.2.2.2
   ·
    rw [if_neg c5]
    by_cases c7 : r.st.pl = 7
    ·
     rw [if_pos c7]
     exact h.taken (by omega) (by omega)
    ·
     rw [if_neg c7, if_neg (by omega)]
     exact h.taken (by omega) (by omega)
 dsimp only at f1 f2 f3 f5
 refine ⟨?_, ?_, by rw [f1]; exact hs, ?_, ?_, f4, ?_, ?_, ?_, ?_, ?_, ?_, fun q => hv (by rw [f1] at q; exact q), fun q1 q2 => hT (by rw [f1] at q1; exact q1) (by rw [f1] at q2; exact q2)⟩
 all_goals first | omega | (rw [f1]; omega) | (rw [f3]; omega)
theorem Rd.lClose (h : Rd.Ok r i) (hs : N.Small) (hn : N.pl = 0 ∨ N.pl = 19) (h1 : 3 ≤ r.st.pl ∧ r.st.pl ≤ 12) : Rd.Ok (Rd.go P r N (if N.pl = 1 ∨ N.pl = 20 then i else r.opn) i) (i + 1) := by
 have hat := h.attrs
 have htk := h.toks
 rw [if_neg (show ¬ (N.pl = 1 ∨ N.pl = 20) by omega)]
 have hg : Rd.go P r N r.opn i = (Rd.readAttr P ⟨N, r.toks, r.text, r.opn, r.value, r.attrs, r.taken⟩ r.st N i).tellTag r.st i := by
  unfold Rd.go
  rw [if_neg (by omega), if_neg (by rw [Rd.lse, Rd.lsf]; omega), if_pos (by rw [Rd.tge]; omega)]
  unfold Rd.tags
  exact if_pos (by rw [Rd.lse]; dsimp only; omega)
 rw [hg]
 obtain ⟨f1, f2, f3, f4, f5⟩ := Rd.readAttr_facts P ⟨N, r.toks, r.text, r.opn, r.value, r.attrs, r.taken⟩ r.st N i hat
 dsimp only at f1 f2 f3 f5
 obtain ⟨d1, d2, d3, d4⟩ := Rd.tellTag_facts (Rd.readAttr P ⟨N, r.toks, r.text, r.opn, r.value, r.attrs, r.taken⟩ r.st N i) r.st i
 exact Rd.Ok.plain (m := N.pl) (by rw [d1, f1]) (by omega) (by rw [d1, f1]; exact hs) (by omega) (by rw [d3, f3]; omega) (by rw [d4]; show (0 : Nat) ≤ 32; omega)
theorem Rd.lComment (h : Rd.Ok r i) (hs : N.Small) (hn : N.pl = 0) (h1 : 13 ≤ r.st.pl ∧ r.st.pl ≤ 18) : Rd.Ok (Rd.go P r N (if N.pl = 1 ∨ N.pl = 20 then i else r.opn) i) (i + 1) := by
 have htk := h.toks
 rw [if_neg (show ¬ (N.pl = 1 ∨ N.pl = 20) by omega)]
 have hg : Rd.go P r N r.opn i = Rd.tellComment P ⟨N, r.toks, r.text, r.opn, r.value, r.attrs, r.taken⟩ r.st i := by
  unfold Rd.go
  rw [if_neg (by omega), if_neg (by rw [Rd.lse, Rd.lsf]; omega), if_neg (by rw [Rd.tge]; omega), if_pos (by rw [Rd.lse, Rd.lsf]; omega)]
 rw [hg]
 exact Rd.Ok.plain (m := 0) hn (by omega) hs (Nat.le_refl _) (by simp only [Rd.tellComment, Rd.tell, List.length_append, List.length_cons, List.length_nil]; omega) (by show (0 : Nat) ≤ 32; omega)
theorem Rd.lHeld (h : Rd.Ok r i) (hs : N.Small) (e : N.pl = 0) (hk : r.st.pl = 22) : Rd.Ok (Rd.go P r N (if N.pl = 1 ∨ N.pl = 20 then i else r.opn) i) (i + 1) := by
 have htk := h.toks
 rw [if_neg (show ¬ (N.pl = 1 ∨ N.pl = 20) by omega)]
 have hg : Rd.go P r N r.opn i = (Rd.tellText P ⟨N, r.toks, r.text, r.opn, r.value, r.attrs, r.taken⟩ r.opn r.st.held).tell ⟨2, r.st.held, Ts.e, [], false⟩ (i + 1) := if_pos ⟨hk, e⟩
 rw [hg]
 obtain ⟨f1, f2, f3, f4, f5⟩ := Rd.tellText_facts P ⟨N, r.toks, r.text, r.opn, r.value, r.attrs, r.taken⟩ r.opn r.st.held
 exact Rd.Ok.plain (m := 0) (by show (Rd.tellText P _ _ _).st.pl = _; rw [f1]; exact e) (by omega) (by show (Rd.tellText P _ _ _).st.Small; rw [f1]; exact hs) (Nat.le_refl _) (by simp only [Rd.tell, List.length_append, List.length_cons, List.length_nil] at f3 ⊢; omega) (by show (0 : Nat) ≤ 32; omega)
end
set_option maxHeartbeats 4000000 in
theorem Rd.Ok.go {P : ByteArray} {r : Rd} {i : Nat} {N : Ts} (k : Nat) (hk : r.st.pl = (k : Int)) (h : Rd.Ok r i) (hN : N.pl ∈ Ts.nexts k) (hs : N.Small) : Rd.Ok (Rd.go P r N (if N.pl = 1 ∨ N.pl = 20 then i else r.opn) i) (i + 1) := by
 have hlt : k < 23 := by have := h.hi; omega
 have ho := h.opn
 have hb := h.bang
 have h14 := h.c14
 have h15 := h.c15
 have h16 := h.c16
 have h17 := h.c17
 have hc : k = 0 ∨ k = 1 ∨ k = 2 ∨ k = 3 ∨ k = 4 ∨ k = 5 ∨ k = 6 ∨ k = 7 ∨ k = 8 ∨ k = 9 ∨ k = 10 ∨ k = 11 ∨ k = 12 ∨ k = 13 ∨ k = 14 ∨ k = 15 ∨ k = 16 ∨ k = 17 ∨ k = 18 ∨ k = 19 ∨ k = 20 ∨ k = 21 ∨ k = 22 := by omega
 rcases hc with rfl | rfl | rfl | rfl | rfl | rfl | rfl | rfl | rfl | rfl | rfl | rfl | rfl | rfl | rfl | rfl | rfl | rfl | rfl | rfl | rfl | rfl | rfl
 all_goals
  simp only [Ts.nexts, List.mem_cons, List.not_mem_nil, or_false] at hN
  repeat' (rcases hN with hN | hN)
 all_goals first
  | exact Rd.lClose h hs (by omega) (by omega)
  | exact Rd.lTag h hs (by omega) (by omega) (by omega)
  | exact Rd.lText h hs (by omega) (by omega)
  | exact Rd.lComment h hs (by omega) (by omega)
  | exact Rd.lHeld h hs (by omega) (by omega)
  | exact Rd.lStay h hs (by omega) (by omega) (by omega) (by omega) (by omega) (by omega) (by omega) (by omega) (by omega) (by omega)
theorem Rd.Ok.read {P : ByteArray} {r : Rd} {i : Nat} (h : Rd.Ok r i) (c : UInt8) : Rd.Ok (Rd.read P r i c) (i + 1) := by
 obtain ⟨k, hk⟩ : ∃ k : Nat, r.st.pl = (k : Int) := ⟨r.st.pl.toNat, by have := h.lo; omega⟩
 rw [Rd.read_go]
 exact Rd.Ok.go k hk h (Ts.step_next r.st c k hk (by have := h.hi; omega)) (Ts.step_small h.small c)
theorem Rd.Ok.tx {r : Rd} {i : Nat} {N : Ts} {o : Nat} (h : Rd.Ok r i) (k : Nat) (hk : r.st.pl = (k : Int)) (hN : N.pl ∈ Ts.nexts k) (ho : (if N.pl = 1 ∨ N.pl = 20 then i else r.opn) = o)
  (hc : (r.st.pl = 22 ∧ N.pl = 0) ∨ (Rd.loose r.st.pl = true ∧ Rd.loose N.pl = false)) : r.text ≤ o ∧ o ≤ i := by
 have hn : ¬ (N.pl = 1 ∨ N.pl = 20) := by
  rintro (e | e) <;> rcases hc with ⟨_, q⟩ | ⟨_, q⟩
  ·
   omega
  ·
   rw [e] at q; exact absurd q (by decide)
  ·
   omega
  ·
   rw [e] at q; exact absurd q (by decide)
 rw [if_neg hn] at ho
 subst ho
 have h3 : r.st.pl = 1 ∨ r.st.pl = 2 ∨ r.st.pl = 22 := by
  rcases hc with ⟨q, _⟩ | ⟨q1, q2⟩
  ·
   exact .inr (.inr q)
  ·
   have hlt := h.hi
   unfold Rd.loose at q1
   simp only [Bool.or_eq_true, decide_eq_true_eq] at q1
   have hcase : k = 0 ∨ k = 1 ∨ k = 2 ∨ k = 19 ∨ k = 20 ∨ k = 21 ∨ k = 22 := by omega
   rcases hcase with e | e | e | e | e | e | e
   all_goals subst e
   all_goals simp only [Ts.nexts, List.mem_cons, List.not_mem_nil, or_false] at hN
   ·
    rcases hN with e | e <;> (rw [e] at q2; exact absurd q2 (by decide))
   ·
    exact .inl hk
   ·
    exact .inr (.inl hk)
   ·
    rcases hN with e | e <;> (rw [e] at q2; exact absurd q2 (by decide))
   ·
    rcases hN with e | e | e <;> (rw [e] at q2; exact absurd q2 (by decide))
   ·
    rcases hN with e | e | e <;> (rw [e] at q2; exact absurd q2 (by decide))
   ·
    exact .inr (.inr hk)
 have := h.opn (by omega)
 omega
theorem Rd.Ok.cm {r : Rd} {i : Nat} {N : Ts} {o : Nat} (h : Rd.Ok r i) (k : Nat) (hk : r.st.pl = (k : Int)) (hN : N.pl ∈ Ts.nexts k) (ho : (if N.pl = 1 ∨ N.pl = 20 then i else r.opn) = o)
  (h1 : Ts.inTag r.st.pl = false) (h2 : Rd.loose r.st.pl = false) (_h3 : Rd.loose N.pl = true) : (r.st.pl ≠ 17 → o + 2 ≤ i) ∧ (r.st.pl = 17 → o + 6 ≤ i) := by
 have hlt := h.hi
 have hlo := h.lo
 have hr : 13 ≤ r.st.pl ∧ r.st.pl ≤ 18 := by
  unfold Rd.loose at h2
  unfold Ts.inTag at h1
  rw [Bool.and_eq_false_iff, decide_eq_false_iff_not, decide_eq_false_iff_not] at h1
  rw [Bool.or_eq_false_iff, decide_eq_false_iff_not, decide_eq_false_iff_not] at h2
  omega
 have hn : ¬ (N.pl = 1 ∨ N.pl = 20) := by
  have hcase : k = 13 ∨ k = 14 ∨ k = 15 ∨ k = 16 ∨ k = 17 ∨ k = 18 := by omega
  rcases hcase with e | e | e | e | e | e
  all_goals subst e
  all_goals simp only [Ts.nexts, List.mem_cons, List.not_mem_nil, or_false] at hN
  all_goals omega
 rw [if_neg hn] at ho
 subst ho
 exact ⟨fun _ => h.bang hr.1 hr.2, fun q => h.c17 q⟩
theorem Rd.run_snoc (P : ByteArray) : ∀ (l : List UInt8) (r : Rd) (i : Nat) (c : UInt8), Rd.run P r i (l ++ [c]) = Rd.read P (Rd.run P r i l) (i + l.length) c := by
 intro l
 induction l with
 | nil => intro r i c; rfl
 | cons a l ih =>
  intro r i c
  show Rd.run P (Rd.read P r i a) (i + 1) (l ++ [c]) = _
  rw [ih]
  show Rd.read P (Rd.run P (Rd.read P r i a) (i + 1) l) (i + 1 + l.length) c = Rd.read P (Rd.run P (Rd.read P r i a) (i + 1) l) (i + (l.length + 1)) c
  rw [Nat.add_assoc, Nat.add_comm 1]
theorem Rd.Ok.run {P : ByteArray} : ∀ (l : List UInt8) {r : Rd} {i : Nat}, Rd.Ok r i → Rd.Ok (Rd.run P r i l) (i + l.length) := by
 intro l
 induction l with
 | nil => intro r i h; exact h
 | cons a l ih =>
  intro r i h
  have := ih (h.read a (P := P))
  rw [List.length_cons, show i + (l.length + 1) = i + 1 + l.length by omega]
  exact this
structure Rf where
 st : Ts
 hold : Int
 buf : List UInt8
 raw : Bool
 out : List Tk
 attrs : List (ByteArray × ByteArray)
 has : Bool
 pn : ByteArray
 pv : ByteArray
def Rf.sl (P : ByteArray) (a b : Nat) : List UInt8 := (P.extract a b).data.toList
def Rf.isRaw (h : ByteArray) : Bool := decide (Ts.kind h = 3 ∨ Ts.kind h = 4)
def Rf.txt (b : List UInt8) (raw : Bool) : ByteArray := if raw = true then ⟨b.toArray⟩ else Rd.dec ⟨b.toArray⟩
def Rf.adds (P : ByteArray) (x : Rf) (a b : Nat) : Rf := { x with raw := Rf.isRaw x.st.held, buf := x.buf ++ Rf.sl P a b }
def Rf.flush (x : Rf) : Rf := if x.buf = [] then x else { x with out := x.out ++ [⟨0, Ts.e, Rf.txt x.buf x.raw, [], false⟩], buf := [] }
def Rf.fresh (x : Rf) : Bool := !(x.attrs.any (fun a => decide (a.1 = x.pn))) && decide (x.attrs.length < 32)
def Rf.commit (x : Rf) : Rf :=
 if x.has = true then (if x.attrs.any (fun a => decide (a.1 = x.pn)) = true then { x with has := false } else if x.attrs.length < 32 then { x with has := false, attrs := x.attrs ++ [(x.pn, Rd.dec x.pv)] } else { x with has := false }) else x
def Rf.tag (was : Ts) (al : List (ByteArray × ByteArray)) : Tk :=
 if was.fin = true ∨ was.held ≠ Ts.e then ⟨2, if was.held ≠ Ts.e then was.held else was.name, Ts.e, [], false⟩ else ⟨1, was.name, Ts.e, al, was.pl == 12⟩
def Rf.emit (x : Rf) (was : Ts) : Rf := { x.commit.flush with out := x.commit.flush.out ++ [Rf.tag was x.commit.flush.attrs], attrs := [] }
def Rf.value (P : ByteArray) (x : Rf) (was : Ts) (i : Nat) : Rf :=
 if x.st.pl = 5 ∧ was.pl ≠ 5 then { x.commit with has := true, pn := x.st.attr, pv := Ts.e }
 else if x.st.pl = 5 then { x with pn := x.st.attr }
 else if x.st.pl = 10 ∨ (x.st.pl = was.pl ∧ (x.st.pl = 8 ∨ x.st.pl = 9)) then { x with pv := x.pv ++ P.extract i (i + 1) } else x
def Rf.inText (a : Int) : Prop := a = 0 ∨ a = 1 ∨ a = 2 ∨ 19 ≤ a
def Rf.inTag (a : Int) : Prop := 3 ≤ a ∧ a ≤ 12
instance (a : Int) : Decidable (Rf.inText a) := by unfold Rf.inText; infer_instance
instance (a : Int) : Decidable (Rf.inTag a) := by unfold Rf.inTag; infer_instance
def Rf.go (P : ByteArray) (x0 : Rf) (N : Ts) (i : Nat) : Rf :=
 let x : Rf := { x0 with st := N }
 if (x0.st.pl = 22 ∧ N.pl = 0) ∨ (Rf.inTag x0.st.pl ∧ ¬ Rf.inTag N.pl) then { x.emit x0.st with hold := -1 }
 else if Rf.inTag N.pl then x.value P x0.st i
 else if 13 ≤ x0.st.pl ∧ x0.st.pl ≤ 18 ∧ N.pl = 0 then { x.flush with out := x.flush.out ++ [⟨3, Ts.e, if x0.st.pl = 17 then P.extract (x0.hold.toNat + 4) (i - 2) else P.extract (x0.hold.toNat + 2) i, [], false⟩], hold := -1 }
 else if ¬ Rf.inText N.pl ∨ ¬ Rf.inText x0.st.pl then x
 else if N.pl = 1 ∨ N.pl = 20 then { (if 0 ≤ x0.hold then x.adds P x0.hold.toNat i else x) with hold := (i : Int) }
 else if N.pl = 0 ∨ N.pl = 19 then { x.adds P (if 0 ≤ x0.hold then x0.hold.toNat else i) (i + 1) with hold := -1 }
 else x
def Rf.byte (P : ByteArray) (x : Rf) (i : Nat) (c : UInt8) : Rf := Rf.go P x (x.st.step c) i
def Rf.start : Rf := ⟨Ts.start, -1, [], false, [], [], false, Ts.e, Ts.e⟩
def Rf.run (P : ByteArray) (x : Rf) (i : Nat) : List UInt8 → Rf
 | [] => x
 | c :: l => Rf.run P (Rf.byte P x i c) (i + 1) l
def Rf.done (P : ByteArray) (x : Rf) : List Tk := (if 0 ≤ x.hold ∧ Rf.inText x.st.pl then x.adds P x.hold.toNat P.size else x).flush.out
def Rf.tokens (s : ByteArray) : List Tk := Rf.done (Rd.page s) (Rf.run (Rd.page s) Rf.start 0 (Rd.lines s.data.toList))
structure Ts.Fine (s : Ts) : Prop where
 low : s.pl < 19 → s.held = Ts.e
 high : 19 ≤ s.pl → Ts.kind s.held = 2 ∨ Ts.kind s.held = 3 ∨ Ts.kind s.held = 4
theorem Ts.kind_cases (n : ByteArray) : Ts.kind n = 0 ∨ Ts.kind n = 1 ∨ Ts.kind n = 2 ∨ Ts.kind n = 3 ∨ Ts.kind n = 4 := by
 unfold Ts.kind
 dsimp only
 repeat' split
 all_goals simp
theorem Ts.fine_to (t : Ts) (a : Int) (h : 19 ≤ a → Ts.kind t.held = 2 ∨ Ts.kind t.held = 3 ∨ Ts.kind t.held = 4) : Ts.Fine (t.to a) := by
 refine ⟨fun q => ?_, fun q => ?_⟩
 ·
  have q : a < 19 := q
  show (if 19 ≤ a then t.held else Ts.e) = Ts.e
  rw [if_neg (by omega)]
 ·
  have q : 19 ≤ a := q
  show Ts.kind (if 19 ≤ a then t.held else Ts.e) = 2 ∨ Ts.kind (if 19 ≤ a then t.held else Ts.e) = 3 ∨ Ts.kind (if 19 ≤ a then t.held else Ts.e) = 4
  rw [if_pos q]
  exact h q
theorem Ts.fine_closed (t : Ts) : Ts.Fine t.closed := by
 unfold Ts.closed
 split
 ·
  exact Ts.fine_to t 0 (fun q => absurd q (by decide))
 ·
  next h =>
  refine Ts.fine_to _ 19 (fun _ => ?_)
  show Ts.kind t.name = 2 ∨ Ts.kind t.name = 3 ∨ Ts.kind t.name = 4
  rcases Ts.kind_cases t.name with e | e | e
  ·
   exact absurd (Or.inr (Or.inl e)) h
  ·
   exact absurd (Or.inr (Or.inr e)) h
  ·
   exact e
theorem Ts.fine_of {t u : Ts} (h : Ts.Fine t) (h1 : u.pl = t.pl) (h2 : u.held = t.held) : Ts.Fine u := ⟨fun q => by rw [h2]; exact h.low (by omega), fun q => by rw [h2]; exact h.high (by omega)⟩
theorem Ts.Fine.step {s : Ts} (h : Ts.Fine s) (c : UInt8) (k : Nat) (hk : s.pl = (k : Int)) (hk23 : k < 23) : Ts.Fine (s.step c) := by
 rw [Ts.step_at s c k hk hk23]
 have ht : Ts.Fine (s.to k) := Ts.fine_to s k (fun q => h.high (by omega))
 have hh : 19 ≤ k → Ts.kind (s.to k).held = 2 ∨ Ts.kind (s.to k).held = 3 ∨ Ts.kind (s.to k).held = 4 := fun q => ht.high (by show 19 ≤ (k : Int); omega)
 have hp : (s.to k).pl = (k : Int) := rfl
 generalize s.to k = t at *
 have hlow : ∀ a : Int, a < 19 → Ts.Fine (t.to a) := fun a ha => Ts.fine_to t a (fun q => by omega)
 have hcl := Ts.fine_closed t
 have hot : ∀ u : Ts, u.pl = 3 → u.held = (t.to 3).held → Ts.Fine u := fun u h1 h2 => Ts.fine_of (hlow 3 (by decide)) h1 h2
 have hoa : ∀ u : Ts, u.pl = 5 → u.held = (t.to 5).held → Ts.Fine u := fun u h1 h2 => Ts.fine_of (hlow 5 (by decide)) h1 h2
 have hsm : ∀ u : Ts, u.pl = t.pl → u.held = t.held → Ts.Fine u := fun u h1 h2 => Ts.fine_of ht h1 h2
 have hhi : ∀ a : Int, 19 ≤ k → Ts.Fine (t.to a) := fun a q => Ts.fine_to t a (fun _ => hh q)
 by_cases hk19 : k < 19
 ·
  have hcase : k = 0 ∨ k = 1 ∨ k = 2 ∨ k = 3 ∨ k = 4 ∨ k = 5 ∨ k = 6 ∨ k = 7 ∨ k = 8 ∨ k = 9 ∨ k = 10 ∨ k = 11 ∨ k = 12 ∨ k = 13 ∨ k = 14 ∨ k = 15 ∨ k = 16 ∨ k = 17 ∨ k = 18 := by omega
  clear hh hhi
  rcases hcase with e | e | e | e | e | e | e | e | e | e | e | e | e | e | e | e | e | e | e
  all_goals subst e
  ·
   show Ts.Fine (t.data c); unfold Ts.data; repeat' split
   all_goals first | exact ht | exact hlow _ (by decide)
  ·
   show Ts.Fine (t.tagOpen c); unfold Ts.tagOpen; repeat' split
   all_goals first | exact ht | exact hlow _ (by decide) | exact hot _ rfl rfl
  ·
   show Ts.Fine (t.endOpen c); unfold Ts.endOpen; repeat' split
   all_goals first | exact ht | exact hlow _ (by decide) | exact hot _ rfl rfl
  ·
   show Ts.Fine (t.tagName c); unfold Ts.tagName; repeat' split
   all_goals first | exact ht | exact hlow _ (by decide) | exact hcl | exact hsm _ rfl rfl
  ·
   show Ts.Fine (t.beforeAttr c); unfold Ts.beforeAttr; repeat' split
   all_goals first | exact ht | exact hlow _ (by decide) | exact hcl | exact hoa _ rfl rfl
  ·
   show Ts.Fine (t.attrName c); unfold Ts.attrName; repeat' split
   all_goals first | exact ht | exact hlow _ (by decide) | exact hcl | exact hsm _ rfl rfl
  ·
   show Ts.Fine (t.afterName c); unfold Ts.afterName; repeat' split
   all_goals first | exact ht | exact hlow _ (by decide) | exact hcl | exact hoa _ rfl rfl
  ·
   show Ts.Fine (t.beforeValue c); unfold Ts.beforeValue; repeat' split
   all_goals first | exact ht | exact hlow _ (by decide) | exact hcl
  ·
   show Ts.Fine (Ts.quoted 34 t c); unfold Ts.quoted; repeat' split
   all_goals first | exact ht | exact hlow _ (by decide)
  ·
   show Ts.Fine (Ts.quoted 39 t c); unfold Ts.quoted; repeat' split
   all_goals first | exact ht | exact hlow _ (by decide)
  ·
   show Ts.Fine (t.bare c); unfold Ts.bare; repeat' split
   all_goals first | exact ht | exact hlow _ (by decide) | exact hcl
  ·
   show Ts.Fine (t.afterValue c); unfold Ts.afterValue; repeat' split
   all_goals first | exact ht | exact hlow _ (by decide) | exact hcl | exact hoa _ rfl rfl
  ·
   show Ts.Fine (t.selfClose c); unfold Ts.selfClose; repeat' split
   all_goals first | exact ht | exact hlow _ (by decide) | exact hcl | exact hoa _ rfl rfl
  ·
   show Ts.Fine (t.bang c); unfold Ts.bang; repeat' split
   all_goals exact hlow _ (by decide)
  ·
   show Ts.Fine (t.bangDash c); unfold Ts.bangDash; repeat' split
   all_goals exact hlow _ (by decide)
  ·
   show Ts.Fine (t.comment c); unfold Ts.comment; repeat' split
   all_goals first | exact ht | exact hlow _ (by decide)
  ·
   show Ts.Fine (t.commentDash c); unfold Ts.commentDash; repeat' split
   all_goals exact hlow _ (by decide)
  ·
   show Ts.Fine (t.commentEnd c); unfold Ts.commentEnd; repeat' split
   all_goals first | exact ht | exact hlow _ (by decide)
  ·
   show Ts.Fine (t.bogus c); unfold Ts.bogus; repeat' split
   all_goals first | exact ht | exact hlow _ (by decide)
 ·
  have hk19 : 19 ≤ k := by omega
  have hto : ∀ a : Int, Ts.Fine (t.to a) := fun a => hhi a hk19
  have hon : Ts.Fine (t.heldOn c) := by unfold Ts.heldOn; split <;> exact hto _
  have hend : ∀ a : Int, a < 19 → Ts.Fine (t.heldEnd a) := fun a ha => by unfold Ts.heldEnd; exact Ts.fine_to _ a (fun q => by omega)
  have hcase : k = 19 ∨ k = 20 ∨ k = 21 ∨ k = 22 := by omega
  rcases hcase with e | e | e | e
  all_goals subst e
  ·
   show Ts.Fine (t.heldS c); unfold Ts.heldS; split
   all_goals first | exact ht | exact hto _
  ·
   show Ts.Fine (t.heldLt c); unfold Ts.heldLt; repeat' split
   all_goals first | exact ht | exact hto _
  ·
   show Ts.Fine (t.heldSlash c); unfold Ts.heldSlash; split
   ·
    exact Ts.fine_of (hto 22) rfl rfl
   ·
    exact hon
  ·
   show Ts.Fine (t.heldName c); unfold Ts.heldName; repeat' split
   all_goals first | exact hsm _ rfl rfl | exact hon | exact hend _ (by decide) | exact hto _
open Go.RowKit
structure Sc.Box (w : World) (g : Nat) (l : List Value) : Prop where
 cell : ∀ i v, l[i]? = some v → w.cell? ⟨g, i, none⟩ = some v
 fz : ∀ i, w.frozen? ⟨g, i, none⟩ = false
theorem Sc.Box.on {w w' : World} {g : Nat} {l : List Value} (h : Sc.Box w g l) (hw : w'.heap[g]? = w.heap[g]?) : Sc.Box w' g l :=
 ⟨fun i v hv => (World.cell?_of_block (a := ⟨g, i, none⟩) hw).trans (h.cell i v hv), fun i => by
  have := h.fz i
  unfold World.frozen? at this ⊢
  rw [hw]
  exact this⟩
theorem Sc.Box.set {w : World} {g : Nat} {l : List Value} (h : Sc.Box w g l) (j : Nat) (u : Value) (hj : j < l.length) : Sc.Box (w.setCell ⟨g, j, none⟩ u) g (l.set j u) := by
 refine ⟨fun i v hv => ?_, fun i => by rw [World.frozen?_setCell]; exact h.fz i⟩
 by_cases e : j = i
 ·
  subst e
  rw [List.getElem?_set_self hj] at hv
  injection hv with hv
  subst hv
  obtain ⟨y, hy⟩ : ∃ y, l[j]? = some y := ⟨l[j], List.getElem?_eq_getElem hj⟩
  have := h.cell j y hy
  simp [go_sem, this]
 ·
  rw [List.getElem?_set_ne e] at hv
  rw [Rm.other w g j u (fun q => e q.symm)]
  exact h.cell i v hv
def Sc.cells (P : ByteArray) (x : Rf) (bv ov av : Value) : List Value :=
 [.string P, .int .i64 x.st.pl, .string x.st.name, .bool x.st.fin, .string x.st.attr, .string x.st.held, .int .i64 x.st.read, .int .i64 x.hold, bv, .bool x.raw, ov, av, .bool x.has, .string x.pn, .string x.pv]
def Sc.Toks (base : Nat) (ts : List Tk) (w : World) (v : Value) (no : Nat → Prop) : Prop :=
 ∃ xs, w.ownsRow base 84 5 v ts.length xs ∧ ∀ i t, ts[i]? = some t → ∃ av, xs[i * 5]? = some (.int .i64 t.kind) ∧ xs[i * 5 + 1]? = some (.string t.name) ∧ xs[i * 5 + 2]? = some (.string t.text) ∧ xs[i * 5 + 3]? = some av ∧ xs[i * 5 + 4]? = some (.bool t.self) ∧ Ak.Lies w (fun k => base ≤ k ∧ k < w.heap.size ∧ v.ownBlock ≠ some k ∧ ¬ no k) t.attrs av
theorem Sc.Toks.nil (base : Nat) (w : World) (no : Nat → Prop) : Sc.Toks base [] w (.slice none 0 0) no := ⟨[], World.ownsRow_nil _ _ _ _, fun i t h => by simp at h⟩
theorem Sc.Toks.lies {base : Nat} {ts : List Tk} {w : World} {v : Value} {no : Nat → Prop} (h : Sc.Toks base ts w v no) : Tk.Lies w (fun k => base ≤ k ∧ k < w.heap.size) ts v := by
 obtain ⟨xs, ho, hx⟩ := h
 refine (Rm.lies0 (X := fun _ => True) ⟨xs, ho, fun i t hi => ?_⟩ (fun _ _ => trivial)).on (fun _ hk => ⟨⟨hk.1, hk.2.1⟩, rfl⟩)
 obtain ⟨av, x0, x1, x2, x3, x4, hl⟩ := hx i t hi
 exact ⟨av, x0, x1, x2, x3, x4, hl.on fun _ hk => ⟨⟨hk.1, hk.2.1, trivial⟩, rfl⟩⟩
theorem Sc.Toks.on {base : Nat} {ts : List Tk} {w w' : World} {v : Value} {no no' : Nat → Prop} (h : Sc.Toks base ts w v no) (hs : w.heap.size ≤ w'.heap.size) (hb : ∀ k, v.ownBlock = some k → w'.heap[k]? = w.heap[k]?) (hw : ∀ k, base ≤ k → k < w.heap.size → v.ownBlock ≠ some k → ¬ no k → ¬ no' k ∧ w'.heap[k]? = w.heap[k]?) : Sc.Toks base ts w' v no' := by
 obtain ⟨xs, ho, hx⟩ := h
 refine ⟨xs, Rm.own_on ho hb, fun i t hi => ?_⟩
 obtain ⟨av, x0, x1, x2, x3, x4, hl⟩ := hx i t hi
 refine ⟨av, x0, x1, x2, x3, x4, hl.on fun k hk => ?_⟩
 obtain ⟨h1, h2⟩ := hw k hk.1 hk.2.1 hk.2.2.1 hk.2.2.2
 exact ⟨⟨hk.1, Nat.lt_of_lt_of_le hk.2.1 hs, hk.2.2.1, h1⟩, h2⟩
def Sc.Free (bv ov av : Value) (g k : Nat) : Prop := k ≠ g ∧ bv.ownBlock ≠ some k ∧ ov.ownBlock ≠ some k ∧ av.ownBlock ≠ some k
structure Sc.At (w : World) (g : Nat) (P : ByteArray) (x : Rf) (bv ov av : Value) : Prop where
 box : Sc.Box w g (Sc.cells P x bv ov av)
 buf : w.ownsRow (g + 1) 5 1 bv x.buf.length (Lib.byteCells x.buf)
 out : Sc.Toks (g + 1) x.out w ov (fun k => bv.ownBlock = some k ∨ av.ownBlock = some k)
 attrs : w.ownsRow (g + 1) 50 2 av x.attrs.length (Ak.cells x.attrs)
 ob : ∀ k, ov.ownBlock = some k → bv.ownBlock ≠ some k
 oa : ∀ k, ov.ownBlock = some k → av.ownBlock ≠ some k
 ba : ∀ k, bv.ownBlock = some k → av.ownBlock ≠ some k
theorem Sc.At.lt {w : World} {g : Nat} {P : ByteArray} {x : Rf} {bv ov av : Value} (h : Sc.At w g P x bv ov av) : g < w.heap.size := World.block_lt_of_cell? _ _ (h.box.cell 0 (.string P) rfl)
theorem Sc.At.ovLt {w : World} {g : Nat} {P : ByteArray} {x : Rf} {bv ov av : Value} (h : Sc.At w g P x bv ov av) {k : Nat} (hk : ov.ownBlock = some k) : g + 1 ≤ k ∧ k < w.heap.size := by
 obtain ⟨xs, ho, _⟩ := h.out
 exact ho.lt k hk
theorem Sc.At.on {w w' : World} {g : Nat} {P : ByteArray} {x : Rf} {bv ov av : Value} (h : Sc.At w g P x bv ov av) (hb : Below w.heap.size w w') : Sc.At w' g P x bv ov av :=
 ⟨h.box.on (hb.block g h.lt), Rm.own_on h.buf (fun k hk => hb.block k (h.buf.lt k hk).2), h.out.on hb.size (fun k hk => hb.block k (h.ovLt hk).2) (fun k _ h2 _ h4 => ⟨h4, hb.block k h2⟩), Rm.own_on h.attrs (fun k hk => hb.block k (h.attrs.lt k hk).2), h.ob, h.oa, h.ba⟩
structure Sc.Kept (w w' : World) (g : Nat) (bv ov av bv' ov' av' : Value) : Prop where
 os : w'.os = w.os
 tape : w'.tape = w.tape
 output : w'.output = w.output
 size : w.heap.size ≤ w'.heap.size
 block : ∀ k, k < w.heap.size → Sc.Free bv ov av g k → w'.heap[k]? = w.heap[k]? ∧ Sc.Free bv' ov' av' g k
theorem Sc.Kept.refl (w : World) (g : Nat) (bv ov av : Value) : Sc.Kept w w g bv ov av bv ov av := ⟨rfl, rfl, rfl, Nat.le_refl _, fun _ _ h => ⟨rfl, h⟩⟩
theorem Sc.Kept.trans {w w1 w2 : World} {g : Nat} {bv ov av bv1 ov1 av1 bv2 ov2 av2 : Value} (h : Sc.Kept w w1 g bv ov av bv1 ov1 av1) (h2 : Sc.Kept w1 w2 g bv1 ov1 av1 bv2 ov2 av2) : Sc.Kept w w2 g bv ov av bv2 ov2 av2 :=
 ⟨h2.os.trans h.os, h2.tape.trans h.tape, h2.output.trans h.output, Nat.le_trans h.size h2.size, fun k hk hf => by
  obtain ⟨a1, a2⟩ := h.block k hk hf
  obtain ⟨b1, b2⟩ := h2.block k (Nat.lt_of_lt_of_le hk h.size) a2
  exact ⟨b1.trans a1, b2⟩⟩
theorem Sc.Kept.of {w w1 : World} (g : Nat) (bv ov av : Value) (hb : Below w.heap.size w w1) : Sc.Kept w w1 g bv ov av bv ov av := ⟨hb.os, hb.tape, hb.output, hb.size, fun k hk hf => ⟨hb.block k hk, hf⟩⟩
theorem Sc.Kept.set (w : World) (g j : Nat) (u bv ov av : Value) : Sc.Kept w (w.setCell ⟨g, j, none⟩ u) g bv ov av bv ov av := ⟨rfl, rfl, rfl, by simp, fun _ _ hf => ⟨Below.heap_setCell _ _ _ _ hf.1, hf⟩⟩
theorem Sc.Kept.cell {w w' : World} {g : Nat} {bv ov av bv' ov' av' : Value} (h : Sc.Kept w w' g bv ov av bv' ov' av') {b o : Nat} {v : Value} (hf : Sc.Free bv ov av g b) (hc : w.cell? ⟨b, o, none⟩ = some v) : w'.cell? ⟨b, o, none⟩ = some v :=
 (World.cell?_of_block (a := ⟨b, o, none⟩) (h.block b (World.block_lt_of_cell? _ _ hc) hf).1).trans hc
theorem Sc.At.set {w : World} {g : Nat} {P : ByteArray} {x x' : Rf} {bv ov av : Value} (h : Sc.At w g P x bv ov av) (j : Nat) (u : Value) (hj : j < 15) (hx : (Sc.cells P x bv ov av).set j u = Sc.cells P x' bv ov av) (hb : x'.buf = x.buf) (ho : x'.out = x.out) (ha : x'.attrs = x.attrs) : Sc.At (w.setCell ⟨g, j, none⟩ u) g P x' bv ov av := by
 have hne : ∀ k, g + 1 ≤ k → (w.setCell ⟨g, j, none⟩ u).heap[k]? = w.heap[k]? := fun k hk => Below.heap_setCell _ _ _ _ (by show k ≠ g; omega)
 refine ⟨by rw [← hx]; exact h.box.set j u hj, ?_, ?_, ?_, h.ob, h.oa, h.ba⟩
 ·
  rw [hb]
  exact Rm.own_on h.buf (fun k hk => hne k (h.buf.lt k hk).1)
 ·
  rw [ho]
  exact h.out.on (by simp) (fun k hk => hne k (h.ovLt hk).1) (fun k h1 _ _ h4 => ⟨h4, hne k h1⟩)
 ·
  rw [ha]
  exact Rm.own_on h.attrs (fun k hk => hne k (h.attrs.lt k hk).1)
end Go.Proofs.YtblpkjlodncpeaaGreatDoor
