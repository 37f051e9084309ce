/-
  PLAIN: a page as tokens the reference's way: the bytes of a text gathered, an attribute told when the next one comes; that it gives the reader's tokens.
-/
import Derived.Test.YtjbkgokiikbaeaaGreatDoorMTPretoTAwake
namespace Go.Proofs.YtjbkgokiikbaeaaGreatDoor
/-- the reference's scan -/
structure Rf where
  st : Ts
  hold : Int
  buf : List UInt8
  raw : Bool
  out : List Tk
  attrs : List (ByteArray × ByteArray)
  has : Bool
  pn : ByteArray
  pv : ByteArray
def Rf.sl (P : ByteArray) (a b : Nat) : List UInt8 := (P.extract a b).data.toList
def Rf.isRaw (h : ByteArray) : Bool := decide (Ts.kind h = 3 ∨ Ts.kind h = 4)
def Rf.txt (b : List UInt8) (raw : Bool) : ByteArray := if raw = true then ⟨b.toArray⟩ else Rd.dec ⟨b.toArray⟩
def Rf.adds (P : ByteArray) (x : Rf) (a b : Nat) : Rf := { x with raw := Rf.isRaw x.st.held, buf := x.buf ++ Rf.sl P a b }
def Rf.flush (x : Rf) : Rf := if x.buf = [] then x else { x with out := x.out ++ [⟨0, Ts.e, Rf.txt x.buf x.raw, [], false⟩], buf := [] }
def Rf.fresh (x : Rf) : Bool := !(x.attrs.any (fun a => decide (a.1 = x.pn))) && decide (x.attrs.length < 32)
def Rf.commit (x : Rf) : Rf :=
  if x.has = true then (if x.attrs.any (fun a => decide (a.1 = x.pn)) = true then { x with has := false } else if x.attrs.length < 32 then { x with has := false, attrs := x.attrs ++ [(x.pn, Rd.dec x.pv)] } else { x with has := false }) else x
def Rf.tag (was : Ts) (al : List (ByteArray × ByteArray)) : Tk :=
  if was.fin = true ∨ was.held ≠ Ts.e then ⟨2, if was.held ≠ Ts.e then was.held else was.name, Ts.e, [], false⟩ else ⟨1, was.name, Ts.e, al, was.pl == 12⟩
def Rf.emit (x : Rf) (was : Ts) : Rf := { x.commit.flush with out := x.commit.flush.out ++ [Rf.tag was x.commit.flush.attrs], attrs := [] }
def Rf.value (P : ByteArray) (x : Rf) (was : Ts) (i : Nat) : Rf :=
  if x.st.pl = 5 ∧ was.pl ≠ 5 then { x.commit with has := true, pn := x.st.attr, pv := Ts.e }
  else if x.st.pl = 5 then { x with pn := x.st.attr }
  else if x.st.pl = 10 ∨ (x.st.pl = was.pl ∧ (x.st.pl = 8 ∨ x.st.pl = 9)) then { x with pv := x.pv ++ P.extract i (i + 1) } else x
def Rf.inText (a : Int) : Prop := a = 0 ∨ a = 1 ∨ a = 2 ∨ 19 ≤ a
def Rf.inTag (a : Int) : Prop := 3 ≤ a ∧ a ≤ 12
instance (a : Int) : Decidable (Rf.inText a) := by unfold Rf.inText; infer_instance
instance (a : Int) : Decidable (Rf.inTag a) := by unfold Rf.inTag; infer_instance
/-- the scan's answer to a byte, the state behind it given -/
def Rf.go (P : ByteArray) (x0 : Rf) (N : Ts) (i : Nat) : Rf :=
  let x : Rf := { x0 with st := N }
  if (x0.st.pl = 22 ∧ N.pl = 0) ∨ (Rf.inTag x0.st.pl ∧ ¬ Rf.inTag N.pl) then { x.emit x0.st with hold := -1 }
  else if Rf.inTag N.pl then x.value P x0.st i
  else if 13 ≤ x0.st.pl ∧ x0.st.pl ≤ 18 ∧ N.pl = 0 then { x.flush with out := x.flush.out ++ [⟨3, Ts.e, if x0.st.pl = 17 then P.extract (x0.hold.toNat + 4) (i - 2) else P.extract (x0.hold.toNat + 2) i, [], false⟩], hold := -1 }
  else if ¬ Rf.inText N.pl ∨ ¬ Rf.inText x0.st.pl then x
  else if N.pl = 1 ∨ N.pl = 20 then { (if 0 ≤ x0.hold then x.adds P x0.hold.toNat i else x) with hold := (i : Int) }
  else if N.pl = 0 ∨ N.pl = 19 then { x.adds P (if 0 ≤ x0.hold then x0.hold.toNat else i) (i + 1) with hold := -1 }
  else x
def Rf.byte (P : ByteArray) (x : Rf) (i : Nat) (c : UInt8) : Rf := Rf.go P x (x.st.step c) i
def Rf.start : Rf := ⟨Ts.start, -1, [], false, [], [], false, Ts.e, Ts.e⟩
def Rf.run (P : ByteArray) (x : Rf) (i : Nat) : List UInt8 → Rf
  | [] => x
  | c :: l => Rf.run P (Rf.byte P x i c) (i + 1) l
def Rf.done (P : ByteArray) (x : Rf) : List Tk := (if 0 ≤ x.hold ∧ Rf.inText x.st.pl then x.adds P x.hold.toNat P.size else x).flush.out
def Rf.tokens (s : ByteArray) : List Tk := Rf.done (Rd.page s) (Rf.run (Rd.page s) Rf.start 0 (Rd.lines s.data.toList))

/-- what is held: nothing, or one of four names -/
structure Ts.Fine (s : Ts) : Prop where
  low : s.pl < 19 → s.held = Ts.e
  high : 19 ≤ s.pl → Ts.kind s.held = 2 ∨ Ts.kind s.held = 3 ∨ Ts.kind s.held = 4
theorem Ts.kind_cases (n : ByteArray) : Ts.kind n = 0 ∨ Ts.kind n = 1 ∨ Ts.kind n = 2 ∨ Ts.kind n = 3 ∨ Ts.kind n = 4 := by
  unfold Ts.kind
  dsimp only
  repeat' split
  all_goals simp
theorem Ts.fine_to (t : Ts) (a : Int) (h : 19 ≤ a → Ts.kind t.held = 2 ∨ Ts.kind t.held = 3 ∨ Ts.kind t.held = 4) : Ts.Fine (t.to a) := by
  refine ⟨fun q => ?_, fun q => ?_⟩
  · have q : a < 19 := q
    show (if 19 ≤ a then t.held else Ts.e) = Ts.e
    rw [if_neg (by omega)]
  · have q : 19 ≤ a := q
    show Ts.kind (if 19 ≤ a then t.held else Ts.e) = 2 ∨ Ts.kind (if 19 ≤ a then t.held else Ts.e) = 3 ∨ Ts.kind (if 19 ≤ a then t.held else Ts.e) = 4
    rw [if_pos q]
    exact h q
theorem Ts.fine_closed (t : Ts) : Ts.Fine t.closed := by
  unfold Ts.closed
  split
  · exact Ts.fine_to t 0 (fun q => absurd q (by decide))
  · next h =>
    refine Ts.fine_to _ 19 (fun _ => ?_)
    show Ts.kind t.name = 2 ∨ Ts.kind t.name = 3 ∨ Ts.kind t.name = 4
    rcases Ts.kind_cases t.name with e | e | e
    · exact absurd (Or.inr (Or.inl e)) h
    · exact absurd (Or.inr (Or.inr e)) h
    · exact e
theorem Ts.fine_of {t u : Ts} (h : Ts.Fine t) (h1 : u.pl = t.pl) (h2 : u.held = t.held) : Ts.Fine u := ⟨fun q => by rw [h2]; exact h.low (by omega), fun q => by rw [h2]; exact h.high (by omega)⟩
theorem Ts.Fine.step {s : Ts} (h : Ts.Fine s) (c : UInt8) (k : Nat) (hk : s.pl = (k : Int)) (hk23 : k < 23) : Ts.Fine (s.step c) := by
  rw [Ts.step_at s c k hk hk23]
  have ht : Ts.Fine (s.to k) := Ts.fine_to s k (fun q => h.high (by omega))
  have hh : 19 ≤ k → Ts.kind (s.to k).held = 2 ∨ Ts.kind (s.to k).held = 3 ∨ Ts.kind (s.to k).held = 4 := fun q => ht.high (by show 19 ≤ (k : Int); omega)
  have hp : (s.to k).pl = (k : Int) := rfl
  generalize s.to k = t at *
  have hlow : ∀ a : Int, a < 19 → Ts.Fine (t.to a) := fun a ha => Ts.fine_to t a (fun q => by omega)
  have hcl := Ts.fine_closed t
  have hot : ∀ u : Ts, u.pl = 3 → u.held = (t.to 3).held → Ts.Fine u := fun u h1 h2 => Ts.fine_of (hlow 3 (by decide)) h1 h2
  have hoa : ∀ u : Ts, u.pl = 5 → u.held = (t.to 5).held → Ts.Fine u := fun u h1 h2 => Ts.fine_of (hlow 5 (by decide)) h1 h2
  have hsm : ∀ u : Ts, u.pl = t.pl → u.held = t.held → Ts.Fine u := fun u h1 h2 => Ts.fine_of ht h1 h2
  have hhi : ∀ a : Int, 19 ≤ k → Ts.Fine (t.to a) := fun a q => Ts.fine_to t a (fun _ => hh q)
  by_cases hk19 : k < 19
  · have hcase : k = 0 ∨ k = 1 ∨ k = 2 ∨ k = 3 ∨ k = 4 ∨ k = 5 ∨ k = 6 ∨ k = 7 ∨ k = 8 ∨ k = 9 ∨ k = 10 ∨ k = 11 ∨ k = 12 ∨ k = 13 ∨ k = 14 ∨ k = 15 ∨ k = 16 ∨ k = 17 ∨ k = 18 := by omega
    clear hh hhi
    rcases hcase with e | e | e | e | e | e | e | e | e | e | e | e | e | e | e | e | e | e | e
    all_goals subst e
    · show Ts.Fine (t.data c); unfold Ts.data; repeat' split
      all_goals first | exact ht | exact hlow _ (by decide)
    · show Ts.Fine (t.tagOpen c); unfold Ts.tagOpen; repeat' split
      all_goals first | exact ht | exact hlow _ (by decide) | exact hot _ rfl rfl
    · show Ts.Fine (t.endOpen c); unfold Ts.endOpen; repeat' split
      all_goals first | exact ht | exact hlow _ (by decide) | exact hot _ rfl rfl
    · show Ts.Fine (t.tagName c); unfold Ts.tagName; repeat' split
      all_goals first | exact ht | exact hlow _ (by decide) | exact hcl | exact hsm _ rfl rfl
    · show Ts.Fine (t.beforeAttr c); unfold Ts.beforeAttr; repeat' split
      all_goals first | exact ht | exact hlow _ (by decide) | exact hcl | exact hoa _ rfl rfl
    · show Ts.Fine (t.attrName c); unfold Ts.attrName; repeat' split
      all_goals first | exact ht | exact hlow _ (by decide) | exact hcl | exact hsm _ rfl rfl
    · show Ts.Fine (t.afterName c); unfold Ts.afterName; repeat' split
      all_goals first | exact ht | exact hlow _ (by decide) | exact hcl | exact hoa _ rfl rfl
    · show Ts.Fine (t.beforeValue c); unfold Ts.beforeValue; repeat' split
      all_goals first | exact ht | exact hlow _ (by decide) | exact hcl
    · show Ts.Fine (Ts.quoted 34 t c); unfold Ts.quoted; repeat' split
      all_goals first | exact ht | exact hlow _ (by decide)
    · show Ts.Fine (Ts.quoted 39 t c); unfold Ts.quoted; repeat' split
      all_goals first | exact ht | exact hlow _ (by decide)
    · show Ts.Fine (t.bare c); unfold Ts.bare; repeat' split
      all_goals first | exact ht | exact hlow _ (by decide) | exact hcl
    · show Ts.Fine (t.afterValue c); unfold Ts.afterValue; repeat' split
      all_goals first | exact ht | exact hlow _ (by decide) | exact hcl | exact hoa _ rfl rfl
    · show Ts.Fine (t.selfClose c); unfold Ts.selfClose; repeat' split
      all_goals first | exact ht | exact hlow _ (by decide) | exact hcl | exact hoa _ rfl rfl
    · show Ts.Fine (t.bang c); unfold Ts.bang; repeat' split
      all_goals exact hlow _ (by decide)
    · show Ts.Fine (t.bangDash c); unfold Ts.bangDash; repeat' split
      all_goals exact hlow _ (by decide)
    · show Ts.Fine (t.comment c); unfold Ts.comment; repeat' split
      all_goals first | exact ht | exact hlow _ (by decide)
    · show Ts.Fine (t.commentDash c); unfold Ts.commentDash; repeat' split
      all_goals exact hlow _ (by decide)
    · show Ts.Fine (t.commentEnd c); unfold Ts.commentEnd; repeat' split
      all_goals first | exact ht | exact hlow _ (by decide)
    · show Ts.Fine (t.bogus c); unfold Ts.bogus; repeat' split
      all_goals first | exact ht | exact hlow _ (by decide)
  · have hk19 : 19 ≤ k := by omega
    have hto : ∀ a : Int, Ts.Fine (t.to a) := fun a => hhi a hk19
    have hon : Ts.Fine (t.heldOn c) := by unfold Ts.heldOn; split <;> exact hto _
    have hend : ∀ a : Int, a < 19 → Ts.Fine (t.heldEnd a) := fun a ha => by unfold Ts.heldEnd; exact Ts.fine_to _ a (fun q => by omega)
    have hcase : k = 19 ∨ k = 20 ∨ k = 21 ∨ k = 22 := by omega
    rcases hcase with e | e | e | e
    all_goals subst e
    · show Ts.Fine (t.heldS c); unfold Ts.heldS; split
      all_goals first | exact ht | exact hto _
    · show Ts.Fine (t.heldLt c); unfold Ts.heldLt; repeat' split
      all_goals first | exact ht | exact hto _
    · show Ts.Fine (t.heldSlash c); unfold Ts.heldSlash; split
      · exact Ts.fine_of (hto 22) rfl rfl
      · exact hon
    · show Ts.Fine (t.heldName c); unfold Ts.heldName; repeat' split
      all_goals first | exact hsm _ rfl rfl | exact hon | exact hend _ (by decide) | exact hto _
end Go.Proofs.YtjbkgokiikbaeaaGreatDoor
/-
  PLAIN: the reference's scan and the program's reader, side by side: they tell the same tokens.
-/
namespace Go.Proofs.YtjbkgokiikbaeaaGreatDoor
theorem Rf.sl_append (P : ByteArray) (a b c : Nat) (h1 : a ≤ b) (h2 : b ≤ c) : Rf.sl P a b ++ Rf.sl P b c = Rf.sl P a c := by
  unfold Rf.sl
  simp only [ByteArray.data_extract, Array.toList_extract, List.extract_eq_take_drop]
  rw [show c - a = (b - a) + (c - b) by omega, List.take_add, List.drop_drop, show a + (b - a) = b by omega]
theorem Rf.sl_nil (P : ByteArray) (a : Nat) : Rf.sl P a a = [] := by
  unfold Rf.sl
  simp
theorem Rf.sl_len (P : ByteArray) (a b : Nat) (h : b ≤ P.size) : (Rf.sl P a b).length = b - a := by
  unfold Rf.sl
  simp only [ByteArray.data_extract, Array.toList_extract, List.extract_eq_take_drop, List.length_take, List.length_drop]
  have : P.data.toList.length = P.size := rfl
  omega
theorem Rf.sl_ne (P : ByteArray) (a b : Nat) (h : b ≤ P.size) (hab : a ≤ b) : Rf.sl P a b = [] ↔ a = b := by
  constructor
  · intro e
    have := Rf.sl_len P a b h
    rw [e] at this
    simp at this
    omega
  · intro e
    rw [e]
    exact Rf.sl_nil P b
theorem Rf.sl_ba (P : ByteArray) (a b : Nat) : (⟨(Rf.sl P a b).toArray⟩ : ByteArray) = P.extract a b := by
  apply ByteArray.ext
  show (P.extract a b).data.toList.toArray = (P.extract a b).data
  exact Array.toArray_toList
theorem Rf.ext_append (P : ByteArray) (a b : Nat) (h : a ≤ b) : P.extract a b ++ P.extract b (b + 1) = P.extract a (b + 1) := by
  rw [← Rf.sl_ba, ← Rf.sl_ba, ← Rf.sl_ba, ← Rf.sl_append P a b (b + 1) h (by omega)]
  apply ByteArray.ext
  simp [ByteArray.data_append]
theorem Rf.ext_nil (P : ByteArray) (a : Nat) : P.extract a a = Ts.e := by
  rw [← Rf.sl_ba, Rf.sl_nil]
  rfl
theorem Rf.dec_e : Rd.dec Ts.e = Ts.e := by decide
/-- the text that is gathered, as tokens -/
def Rf.txts (b : List UInt8) (raw : Bool) : List Tk := if b = [] then [] else [⟨0, Ts.e, Rf.txt b raw, [], false⟩]
theorem Rf.flush_out (x : Rf) : x.flush.out = x.out ++ Rf.txts x.buf x.raw := by
  unfold Rf.flush Rf.txts
  split
  · simp
  · rfl
theorem Rf.flush_buf (x : Rf) : x.flush.buf = [] := by
  unfold Rf.flush
  split
  · next e => exact e
  · rfl
theorem Rf.flush_rest (x : Rf) : x.flush.st = x.st ∧ x.flush.attrs = x.attrs ∧ x.flush.has = x.has := by
  unfold Rf.flush
  split <;> exact ⟨rfl, rfl, rfl⟩
theorem Rf.commit_rest (x : Rf) : x.commit.st = x.st ∧ x.commit.out = x.out ∧ x.commit.buf = x.buf ∧ x.commit.raw = x.raw ∧ x.commit.has = false ∧ x.commit.hold = x.hold := by
  unfold Rf.commit
  split
  · repeat' split
    all_goals exact ⟨rfl, rfl, rfl, rfl, rfl, rfl⟩
  · next h => exact ⟨rfl, rfl, rfl, rfl, by simpa using h, rfl⟩
theorem Rf.commit_attrs (x : Rf) : x.commit.attrs = if x.has = true ∧ x.fresh = true then x.attrs ++ [(x.pn, Rd.dec x.pv)] else x.attrs := by
  unfold Rf.commit Rf.fresh
  by_cases h : x.has = true
  · rw [if_pos h]
    by_cases ha : x.attrs.any (fun a => decide (a.1 = x.pn)) = true
    · rw [if_pos ha, if_neg (by rw [ha]; simp)]
    · rw [if_neg ha]
      by_cases hl : x.attrs.length < 32
      · rw [if_pos hl, if_pos ⟨h, by simp [ha, hl]⟩]
      · rw [if_neg hl, if_neg (by simp [hl])]
  · rw [if_neg h, if_neg (fun q => h q.1)]
/-- where a text ends: the program's way -/
theorem Rd.tellText_toks (P : ByteArray) (r : Rd) (f : Nat) (held : ByteArray) (h1 : r.text ≤ f) (h2 : f ≤ P.size) (raw : Bool) (hr : Rf.sl P r.text f ≠ [] → raw = Rf.isRaw held) : (Rd.tellText P r f held).toks = r.toks ++ Rf.txts (Rf.sl P r.text f) raw := by
  unfold Rd.tellText Rf.txts
  by_cases e : r.text = f
  · rw [if_pos e, if_pos ((Rf.sl_ne P _ _ h2 h1).2 e), List.append_nil]
  · have hne : Rf.sl P r.text f ≠ [] := fun q => e ((Rf.sl_ne P _ _ h2 h1).1 q)
    rw [if_neg e, if_neg hne, hr hne]
    show r.toks ++ [_] = _
    unfold Rf.txt Rf.isRaw Rd.textOf
    rw [Rf.sl_ba]
    by_cases q : Ts.kind held = 3 ∨ Ts.kind held = 4
    · rw [if_pos q, if_pos (decide_eq_true q)]
    · rw [if_neg q, if_neg (by rw [decide_eq_false q]; decide)]
theorem Rd.tellText_more (P : ByteArray) (r : Rd) (f : Nat) (held : ByteArray) : (Rd.tellText P r f held).value = r.value ∧ (Rd.tellText P r f held).taken = r.taken := by
  unfold Rd.tellText
  split <;> exact ⟨rfl, rfl⟩
/-- the attributes of a tag under way -/
structure Rf.Att (P : ByteArray) (i : Nat) (x : Rf) (r : Rd) : Prop where
  a1 : r.st.pl ≠ 5 → r.st.pl ≠ 8 → r.st.pl ≠ 9 → r.st.pl ≠ 10 → r.attrs = x.commit.attrs
  a5 : r.st.pl = 5 → x.has = true ∧ x.pn = r.st.attr ∧ x.pv = Ts.e ∧ r.attrs = x.attrs
  a67 : r.st.pl = 6 ∨ r.st.pl = 7 → x.has = true ∧ x.pv = Ts.e ∧ r.taken = x.fresh
  a8 : r.st.pl = 8 ∨ r.st.pl = 9 ∨ r.st.pl = 10 → x.has = true ∧ x.pv = P.extract r.value i ∧ r.value ≤ i ∧ r.taken = x.fresh ∧ r.attrs = if x.fresh = true then x.attrs ++ [(x.pn, Ts.e)] else x.attrs
structure Rf.Sim (P : ByteArray) (i : Nat) (x : Rf) (r : Rd) : Prop where
  st : x.st = r.st
  ok : Rd.Ok r i
  fine : Ts.Fine r.st
  loose : (r.st.pl < 3 ∨ 19 ≤ r.st.pl) → r.toks = x.out ∧ x.has = false ∧ x.attrs = [] ∧ r.attrs = [] ∧ (x.buf ≠ [] → x.raw = Rf.isRaw r.st.held)
  plain : (r.st.pl = 0 ∨ r.st.pl = 19) → x.hold = -1 ∧ x.buf = Rf.sl P r.text i
  mid : (r.st.pl = 1 ∨ r.st.pl = 2 ∨ r.st.pl = 20 ∨ r.st.pl = 21 ∨ r.st.pl = 22) → x.hold = (r.opn : Int) ∧ x.buf = Rf.sl P r.text r.opn
  other : 3 ≤ r.st.pl → r.st.pl < 19 → r.toks = x.out ++ Rf.txts x.buf x.raw
  com : 13 ≤ r.st.pl → r.st.pl ≤ 18 → x.hold = (r.opn : Int) ∧ x.has = false ∧ x.attrs = [] ∧ r.attrs = []
  tag : 3 ≤ r.st.pl → r.st.pl ≤ 12 → Rf.Att P i x r
theorem Rf.loose_true {a : Int} (h : a < 3 ∨ 19 ≤ a) : Rd.loose a = true := by
  unfold Rd.loose
  rcases h with h | h
  · simp [h]
  · simp [h]
theorem Rf.loose_false {a : Int} (h : 3 ≤ a ∧ a < 19) : Rd.loose a = false := by
  unfold Rd.loose
  rw [decide_eq_false (by omega), decide_eq_false (by omega)]
  rfl
theorem Rf.inTag_true {a : Int} (h : 3 ≤ a ∧ a ≤ 12) : Ts.inTag a = true := by
  unfold Ts.inTag
  rw [decide_eq_true h.1, decide_eq_true h.2]
  rfl
theorem Rf.inTag_false {a : Int} (h : a < 3 ∨ 12 < a) : Ts.inTag a = false := by
  unfold Ts.inTag
  rcases h with h | h
  · rw [decide_eq_false (by omega)]; rfl
  · rw [decide_eq_false (p := a ≤ 12) (by omega)]; simp
/-- the program's answer, by the two places -/
def Rd.moved (r : Rd) (N : Ts) (o : Nat) : Rd := ⟨N, r.toks, r.text, o, r.value, r.attrs, r.taken⟩
theorem Rd.go_same (P : ByteArray) (r : Rd) (N : Ts) (o i : Nat) (h1 : ¬ (r.st.pl = 22 ∧ N.pl = 0)) (h2 : ((r.st.pl < 3 ∨ 19 ≤ r.st.pl) ∧ (N.pl < 3 ∨ 19 ≤ N.pl)) ∨ ((13 ≤ r.st.pl ∧ r.st.pl ≤ 18) ∧ (3 ≤ N.pl ∧ N.pl < 19))) : Rd.go P r N o i = Rd.moved r N o := by
  unfold Rd.go
  rw [if_neg h1]
  rcases h2 with ⟨a, b⟩ | ⟨a, b⟩
  · rw [if_neg (by rw [Rf.loose_true b]; simp), if_neg (by rw [Rf.inTag_false (by omega)]; decide), if_neg (by rw [Rf.loose_true a]; simp)]
    rfl
  · rw [if_neg (by rw [Rf.loose_false (a := r.st.pl) (by omega)]; simp), if_neg (by rw [Rf.inTag_false (by omega)]; decide), if_neg (by rw [Rf.loose_false b]; simp)]
    rfl
theorem Rd.go_end (P : ByteArray) (r : Rd) (N : Ts) (o i : Nat) (h1 : r.st.pl = 22 ∧ N.pl = 0) : Rd.go P r N o i = (Rd.tellText P (Rd.moved r N o) o r.st.held).tell ⟨2, r.st.held, Ts.e, [], false⟩ (i + 1) := by
  unfold Rd.go
  rw [if_pos h1]
  rfl
theorem Rd.go_text (P : ByteArray) (r : Rd) (N : Ts) (o i : Nat) (h1 : r.st.pl < 3 ∨ 19 ≤ r.st.pl) (h2 : 3 ≤ N.pl ∧ N.pl < 19) : Rd.go P r N o i = Rd.tellText P (Rd.moved r N o) o r.st.held := by
  unfold Rd.go
  rw [if_neg (by omega), if_pos ⟨Rf.loose_true h1, Rf.loose_false h2⟩]
  rfl
theorem Rd.go_tags (P : ByteArray) (r : Rd) (N : Ts) (o i : Nat) (h1 : 3 ≤ r.st.pl ∧ r.st.pl ≤ 12) : Rd.go P r N o i = Rd.tags P (Rd.moved r N o) r.st i := by
  unfold Rd.go
  rw [if_neg (by omega), if_neg (by rw [Rf.loose_false (a := r.st.pl) (by omega)]; simp), if_pos (Rf.inTag_true h1)]
  rfl
theorem Rd.go_com (P : ByteArray) (r : Rd) (N : Ts) (o i : Nat) (h1 : 13 ≤ r.st.pl ∧ r.st.pl ≤ 18) (h2 : N.pl < 3 ∨ 19 ≤ N.pl) : Rd.go P r N o i = Rd.tellComment P (Rd.moved r N o) r.st i := by
  unfold Rd.go
  rw [if_neg (by omega), if_neg (by rw [Rf.loose_false (a := r.st.pl) (by omega)]; simp), if_neg (by rw [Rf.inTag_false (by omega)]; decide), if_pos ⟨Rf.loose_false (by omega), Rf.loose_true h2⟩]
  rfl
/-- the reference's answer, by the two places -/
def Rf.moved (x : Rf) (N : Ts) : Rf := { x with st := N }
theorem Rf.go_emit (P : ByteArray) (x : Rf) (N : Ts) (i : Nat) (h : (x.st.pl = 22 ∧ N.pl = 0) ∨ (Rf.inTag x.st.pl ∧ ¬ Rf.inTag N.pl)) : Rf.go P x N i = { (Rf.moved x N).emit x.st with hold := -1 } := by
  unfold Rf.go
  exact if_pos h
theorem Rf.go_value (P : ByteArray) (x : Rf) (N : Ts) (i : Nat) (h1 : ¬ x.st.pl = 22 ∨ ¬ N.pl = 0) (h : Rf.inTag N.pl) : Rf.go P x N i = (Rf.moved x N).value P x.st i := by
  unfold Rf.go
  dsimp only
  rw [if_neg (by
    rintro (q | q)
    · rcases h1 with e | e
      · exact e q.1
      · exact e q.2
    · exact q.2 h), if_pos h]
  rfl
theorem Rf.go_com (P : ByteArray) (x : Rf) (N : Ts) (i : Nat) (h1 : 13 ≤ x.st.pl ∧ x.st.pl ≤ 18) (h2 : N.pl = 0) : Rf.go P x N i = { (Rf.moved x N).flush with out := (Rf.moved x N).flush.out ++ [⟨3, Ts.e, if x.st.pl = 17 then P.extract (x.hold.toNat + 4) (i - 2) else P.extract (x.hold.toNat + 2) i, [], false⟩], hold := -1 } := by
  unfold Rf.go
  dsimp only
  rw [if_neg (by unfold Rf.inTag; omega), if_neg (by unfold Rf.inTag; omega), if_pos ⟨h1.1, h1.2, h2⟩]
  rfl
theorem Rf.go_same (P : ByteArray) (x : Rf) (N : Ts) (i : Nat) (h1 : ¬ Rf.inTag N.pl) (h2 : ¬ Rf.inTag x.st.pl) (h3 : ¬ (x.st.pl = 22 ∧ N.pl = 0)) (h4 : ¬ (13 ≤ x.st.pl ∧ x.st.pl ≤ 18 ∧ N.pl = 0)) (h5 : (¬ Rf.inText N.pl ∨ ¬ Rf.inText x.st.pl) ∨ (¬ (N.pl = 1 ∨ N.pl = 20) ∧ ¬ (N.pl = 0 ∨ N.pl = 19))) : Rf.go P x N i = Rf.moved x N := by
  unfold Rf.go
  dsimp only
  rw [if_neg (by
    rintro (q | q)
    · exact h3 q
    · exact h2 q.1), if_neg h1, if_neg h4]
  rcases h5 with h5 | h5
  · rw [if_pos h5]; rfl
  · by_cases q : ¬ Rf.inText N.pl ∨ ¬ Rf.inText x.st.pl
    · rw [if_pos q]; rfl
    · rw [if_neg q, if_neg h5.1, if_neg h5.2]; rfl
theorem Rf.go_open (P : ByteArray) (x : Rf) (N : Ts) (i : Nat) (h1 : Rf.inText x.st.pl) (h2 : N.pl = 1 ∨ N.pl = 20) : Rf.go P x N i = { (if 0 ≤ x.hold then (Rf.moved x N).adds P x.hold.toNat i else Rf.moved x N) with hold := (i : Int) } := by
  unfold Rf.inText at h1
  unfold Rf.go
  dsimp only
  rw [if_neg (by unfold Rf.inTag; omega), if_neg (by unfold Rf.inTag; omega), if_neg (by omega), if_neg (by unfold Rf.inText; omega), if_pos h2]
  rfl
theorem Rf.go_text (P : ByteArray) (x : Rf) (N : Ts) (i : Nat) (h1 : Rf.inText x.st.pl) (h2 : N.pl = 0 ∨ N.pl = 19) (h3 : ¬ (x.st.pl = 22 ∧ N.pl = 0)) : Rf.go P x N i = { (Rf.moved x N).adds P (if 0 ≤ x.hold then x.hold.toNat else i) (i + 1) with hold := -1 } := by
  unfold Rf.inText at h1
  unfold Rf.go
  dsimp only
  rw [if_neg (by
    rintro (q | q)
    · exact h3 q
    · unfold Rf.inTag at q; omega), if_neg (by unfold Rf.inTag; omega), if_neg (by omega), if_neg (by unfold Rf.inText; omega), if_neg (by omega), if_pos h2]
  rfl
end Go.Proofs.YtjbkgokiikbaeaaGreatDoor
/-
  PLAIN: the reference's scan and the program's reader: byte by byte.
-/
namespace Go.Proofs.YtjbkgokiikbaeaaGreatDoor
theorem Rf.Sim.ofPlain {P : ByteArray} {i : Nat} {x : Rf} {r : Rd} (hk : r.st.pl = 0 ∨ r.st.pl = 19) (st : x.st = r.st) (ok : Rd.Ok r i) (fine : Ts.Fine r.st) (h1 : r.toks = x.out) (h2 : x.has = false) (h3 : x.attrs = []) (h4 : r.attrs = []) (h5 : x.buf ≠ [] → x.raw = Rf.isRaw r.st.held) (h6 : x.hold = -1) (h7 : x.buf = Rf.sl P r.text i) : Rf.Sim P i x r :=
  ⟨st, ok, fine, fun _ => ⟨h1, h2, h3, h4, h5⟩, fun _ => ⟨h6, h7⟩, fun q => by omega, fun q1 q2 => by omega, fun q1 q2 => by omega, fun q1 q2 => by omega⟩
theorem Rf.Sim.ofMid {P : ByteArray} {i : Nat} {x : Rf} {r : Rd} (hk : r.st.pl = 1 ∨ r.st.pl = 2 ∨ r.st.pl = 20 ∨ r.st.pl = 21 ∨ r.st.pl = 22) (st : x.st = r.st) (ok : Rd.Ok r i) (fine : Ts.Fine r.st) (h1 : r.toks = x.out) (h2 : x.has = false) (h3 : x.attrs = []) (h4 : r.attrs = []) (h5 : x.buf ≠ [] → x.raw = Rf.isRaw r.st.held) (h6 : x.hold = (r.opn : Int)) (h7 : x.buf = Rf.sl P r.text r.opn) : Rf.Sim P i x r :=
  ⟨st, ok, fine, fun _ => ⟨h1, h2, h3, h4, h5⟩, fun q => by omega, fun _ => ⟨h6, h7⟩, fun q1 q2 => by omega, fun q1 q2 => by omega, fun q1 q2 => by omega⟩
theorem Rf.Sim.ofCom {P : ByteArray} {i : Nat} {x : Rf} {r : Rd} (hk : 13 ≤ r.st.pl ∧ r.st.pl ≤ 18) (st : x.st = r.st) (ok : Rd.Ok r i) (fine : Ts.Fine r.st) (h1 : r.toks = x.out ++ Rf.txts x.buf x.raw) (h2 : x.has = false) (h3 : x.attrs = []) (h4 : r.attrs = []) (h6 : x.hold = (r.opn : Int)) : Rf.Sim P i x r :=
  ⟨st, ok, fine, fun q => by omega, fun q => by omega, fun q => by omega, fun _ _ => h1, fun _ _ => ⟨h6, h2, h3, h4⟩, fun q1 q2 => by omega⟩
theorem Rf.Sim.ofTag {P : ByteArray} {i : Nat} {x : Rf} {r : Rd} (hk : 3 ≤ r.st.pl ∧ r.st.pl ≤ 12) (st : x.st = r.st) (ok : Rd.Ok r i) (fine : Ts.Fine r.st) (h1 : r.toks = x.out ++ Rf.txts x.buf x.raw) (h2 : Rf.Att P i x r) : Rf.Sim P i x r :=
  ⟨st, ok, fine, fun q => by omega, fun q => by omega, fun q => by omega, fun _ _ => h1, fun q1 q2 => by omega, fun _ _ => h2⟩
theorem Rf.moved_commit (x : Rf) (N : Ts) : (Rf.moved x N).commit.attrs = x.commit.attrs := by
  rw [Rf.commit_attrs, Rf.commit_attrs]
  rfl
theorem Rf.moved_fresh (x : Rf) (N : Ts) : (Rf.moved x N).fresh = x.fresh := rfl
theorem Rf.commit_none (x : Rf) (h : x.has = false) : x.commit = x := by
  unfold Rf.commit
  rw [if_neg (by rw [h]; decide)]
/-- in a comment -/
theorem Rf.Sim.comCom {P : ByteArray} {i : Nat} {x : Rf} {r : Rd} (h : Rf.Sim P i x r) (N : Ts) (hk : 13 ≤ r.st.pl ∧ r.st.pl ≤ 18) (hN : 13 ≤ N.pl ∧ N.pl ≤ 18) (ok : Rd.Ok (Rd.go P r N r.opn i) (i + 1)) (hf : Ts.Fine N) : Rf.Sim P (i + 1) (Rf.go P x N i) (Rd.go P r N r.opn i) := by
  have hs := h.st
  obtain ⟨c1, c2, c3, c4⟩ := h.com hk.1 hk.2
  have ht := h.other (by omega) (by omega)
  rw [Rd.go_same P r N r.opn i (by omega) (Or.inr ⟨hk, by omega⟩)] at ok ⊢
  rw [Rf.go_same P x N i (by unfold Rf.inTag; omega) (by rw [hs]; unfold Rf.inTag; omega) (by omega) (by omega) (Or.inl (Or.inl (by unfold Rf.inText; omega)))]
  exact Rf.Sim.ofCom hN rfl ok hf ht c2 c3 c4 c1
/-- a comment's end -/
theorem Rf.Sim.comEnd {P : ByteArray} {i : Nat} {x : Rf} {r : Rd} (h : Rf.Sim P i x r) (N : Ts) (hk : 13 ≤ r.st.pl ∧ r.st.pl ≤ 18) (hN : N.pl = 0) (ok : Rd.Ok (Rd.go P r N r.opn i) (i + 1)) (hf : Ts.Fine N) : Rf.Sim P (i + 1) (Rf.go P x N i) (Rd.go P r N r.opn i) := by
  have hs := h.st
  obtain ⟨c1, c2, c3, c4⟩ := h.com hk.1 hk.2
  have ht := h.other (by omega) (by omega)
  rw [Rd.go_com P r N r.opn i hk (by omega)] at ok ⊢
  rw [Rf.go_com P x N i (by rw [hs]; exact hk) hN]
  obtain ⟨f1, f2, f3⟩ := Rf.flush_rest (Rf.moved x N)
  refine Rf.Sim.ofPlain (Or.inl hN) f1 ok hf ?_ (f3.trans c2) (f2.trans c3) rfl (fun q => absurd (Rf.flush_buf _) q) rfl ?_
  · show r.toks ++ [_] = (Rf.moved x N).flush.out ++ [_]
    rw [Rf.flush_out, ht, hs, c1, Int.toNat_natCast]
    rfl
  · show (Rf.moved x N).flush.buf = Rf.sl P (i + 1) (i + 1)
    rw [Rf.flush_buf, Rf.sl_nil]
/-- a text goes on, up to a '<' -/
theorem Rf.Sim.openLt {P : ByteArray} {i : Nat} {x : Rf} {r : Rd} (h : Rf.Sim P i x r) (N : Ts) (hk : r.st.pl < 3 ∨ 19 ≤ r.st.pl) (hN : N.pl = 1 ∨ N.pl = 20) (hh : N.held = r.st.held) (ok : Rd.Ok (Rd.go P r N i i) (i + 1)) (hf : Ts.Fine N) : Rf.Sim P (i + 1) (Rf.go P x N i) (Rd.go P r N i i) := by
  have hs := h.st
  have hlo := h.ok.lo
  obtain ⟨c1, c2, c3, c4, c5⟩ := h.loose hk
  have htx := h.ok.text
  rw [Rd.go_same P r N i i (by omega) (Or.inl ⟨hk, by omega⟩)] at ok ⊢
  rw [Rf.go_open P x N i (by rw [hs]; unfold Rf.inText; omega) hN]
  by_cases hm : r.st.pl = 0 ∨ r.st.pl = 19
  · obtain ⟨p1, p2⟩ := h.plain hm
    rw [if_neg (by omega)]
    exact Rf.Sim.ofMid (by show N.pl = 1 ∨ N.pl = 2 ∨ N.pl = 20 ∨ N.pl = 21 ∨ N.pl = 22; omega) rfl ok hf c1 c2 c3 c4 (fun q => by show x.raw = Rf.isRaw N.held; rw [hh]; exact c5 q) rfl p2
  · obtain ⟨p1, p2⟩ := h.mid (by have := h.ok.hi; omega)
    have ho := h.ok.opn (by have := h.ok.hi; omega)
    rw [if_pos (by omega)]
    refine Rf.Sim.ofMid (by show N.pl = 1 ∨ N.pl = 2 ∨ N.pl = 20 ∨ N.pl = 21 ∨ N.pl = 22; omega) rfl ok hf c1 c2 c3 c4 (fun _ => rfl) rfl ?_
    show x.buf ++ Rf.sl P x.hold.toNat i = Rf.sl P r.text i
    rw [p2, p1, Int.toNat_natCast, Rf.sl_append P _ _ _ ho.1 (by omega)]
/-- a text goes on -/
theorem Rf.Sim.textOn {P : ByteArray} {i : Nat} {x : Rf} {r : Rd} (h : Rf.Sim P i x r) (N : Ts) (hk : r.st.pl < 3 ∨ 19 ≤ r.st.pl) (hN : N.pl = 0 ∨ N.pl = 19) (hn : ¬ (r.st.pl = 22 ∧ N.pl = 0)) (ok : Rd.Ok (Rd.go P r N r.opn i) (i + 1)) (hf : Ts.Fine N) : Rf.Sim P (i + 1) (Rf.go P x N i) (Rd.go P r N r.opn i) := by
  have hs := h.st
  have hlo := h.ok.lo
  obtain ⟨c1, c2, c3, c4, c5⟩ := h.loose hk
  have htx := h.ok.text
  rw [Rd.go_same P r N r.opn i hn (Or.inl ⟨hk, by omega⟩)] at ok ⊢
  rw [Rf.go_text P x N i (by rw [hs]; unfold Rf.inText; omega) hN (by rw [hs]; exact hn)]
  refine Rf.Sim.ofPlain hN rfl ok hf c1 c2 c3 c4 (fun _ => rfl) rfl ?_
  show x.buf ++ Rf.sl P (if 0 ≤ x.hold then x.hold.toNat else i) (i + 1) = Rf.sl P r.text (i + 1)
  by_cases hm : r.st.pl = 0 ∨ r.st.pl = 19
  · obtain ⟨p1, p2⟩ := h.plain hm
    rw [if_neg (by omega), p2, Rf.sl_append P _ _ _ htx (by omega)]
  · obtain ⟨p1, p2⟩ := h.mid (by have := h.ok.hi; omega)
    have ho := h.ok.opn (by have := h.ok.hi; omega)
    rw [if_pos (by omega), p2, p1, Int.toNat_natCast, Rf.sl_append P _ _ _ ho.1 (by omega)]
/-- behind a '<' -/
theorem Rf.Sim.midOn {P : ByteArray} {i : Nat} {x : Rf} {r : Rd} (h : Rf.Sim P i x r) (N : Ts) (hk : r.st.pl = 1 ∨ r.st.pl = 20 ∨ r.st.pl = 21 ∨ r.st.pl = 22) (hN : N.pl = 2 ∨ N.pl = 21 ∨ N.pl = 22) (hh : N.held = r.st.held) (ok : Rd.Ok (Rd.go P r N r.opn i) (i + 1)) (hf : Ts.Fine N) : Rf.Sim P (i + 1) (Rf.go P x N i) (Rd.go P r N r.opn i) := by
  have hs := h.st
  obtain ⟨c1, c2, c3, c4, c5⟩ := h.loose (by omega)
  obtain ⟨p1, p2⟩ := h.mid (by omega)
  rw [Rd.go_same P r N r.opn i (by omega) (Or.inl ⟨by omega, by omega⟩)] at ok ⊢
  rw [Rf.go_same P x N i (by unfold Rf.inTag; omega) (by rw [hs]; unfold Rf.inTag; omega) (by omega) (by omega) (Or.inr ⟨by omega, by omega⟩)]
  exact Rf.Sim.ofMid (by show N.pl = 1 ∨ N.pl = 2 ∨ N.pl = 20 ∨ N.pl = 21 ∨ N.pl = 22; omega) rfl ok hf c1 c2 c3 c4 (fun q => by show x.raw = Rf.isRaw N.held; rw [hh]; exact c5 q) p1 p2
/-- a tag begins -/
theorem Rf.Sim.tagBegins {P : ByteArray} {i : Nat} {x : Rf} {r : Rd} (h : Rf.Sim P i x r) (N : Ts) (hP : i ≤ P.size) (hk : r.st.pl = 1 ∨ r.st.pl = 2 ∨ r.st.pl = 22) (hN : N.pl = 3 ∨ N.pl = 4 ∨ N.pl = 12) (ok : Rd.Ok (Rd.go P r N r.opn i) (i + 1)) (hf : Ts.Fine N) : Rf.Sim P (i + 1) (Rf.go P x N i) (Rd.go P r N r.opn i) := by
  have hs := h.st
  obtain ⟨c1, c2, c3, c4, c5⟩ := h.loose (by omega)
  obtain ⟨p1, p2⟩ := h.mid (by omega)
  have ho := h.ok.opn (by omega)
  rw [Rd.go_text P r N r.opn i (by omega) (by omega)] at ok ⊢
  obtain ⟨t1, t2, t3, t4, t5⟩ := Rd.tellText_facts P (Rd.moved r N r.opn) r.opn r.st.held
  have hst : (Rd.tellText P (Rd.moved r N r.opn) r.opn r.st.held).st = N := t1
  have hat : (Rd.tellText P (Rd.moved r N r.opn) r.opn r.st.held).attrs = [] := List.eq_nil_of_length_eq_zero (Nat.le_zero.1 (by rw [show (Rd.moved r N r.opn).attrs = [] from c4] at t4; exact t4))
  have hto := Rd.tellText_toks P (Rd.moved r N r.opn) r.opn r.st.held ho.1 (by omega) x.raw (fun q => c5 (by rw [p2]; exact q))
  rw [Rf.go_value P x N i (Or.inr (by omega)) (by unfold Rf.inTag; omega)]
  have hv : (Rf.moved x N).value P x.st i = Rf.moved x N := by
    unfold Rf.value
    have e : (Rf.moved x N).st.pl = N.pl := rfl
    rw [if_neg (by rw [e]; omega), if_neg (by rw [e]; omega), if_neg (by rw [e]; omega)]
  rw [hv]
  refine Rf.Sim.ofTag (by rw [hst]; omega) hst.symm ok (by rw [hst]; exact hf) ?_ ?_
  · rw [hto]
    show r.toks ++ Rf.txts (Rf.sl P r.text r.opn) x.raw = x.out ++ Rf.txts x.buf x.raw
    rw [c1, p2]
  · refine ⟨fun _ _ _ _ => ?_, fun q => ?_, fun q => ?_, fun q => ?_⟩
    · rw [hat, Rf.moved_commit, Rf.commit_none x c2, c3]
    · rw [hst] at q; omega
    · rw [hst] at q; omega
    · rw [hst] at q; omega
/-- a comment begins -/
theorem Rf.Sim.comBegins {P : ByteArray} {i : Nat} {x : Rf} {r : Rd} (h : Rf.Sim P i x r) (N : Ts) (hP : i ≤ P.size) (hk : r.st.pl = 1) (hN : N.pl = 13) (ok : Rd.Ok (Rd.go P r N r.opn i) (i + 1)) (hf : Ts.Fine N) : Rf.Sim P (i + 1) (Rf.go P x N i) (Rd.go P r N r.opn i) := by
  have hs := h.st
  obtain ⟨c1, c2, c3, c4, c5⟩ := h.loose (by omega)
  obtain ⟨p1, p2⟩ := h.mid (by omega)
  have ho := h.ok.opn (by omega)
  rw [Rd.go_text P r N r.opn i (by omega) (by omega)] at ok ⊢
  obtain ⟨t1, t2, t3, t4, t5⟩ := Rd.tellText_facts P (Rd.moved r N r.opn) r.opn r.st.held
  have hst : (Rd.tellText P (Rd.moved r N r.opn) r.opn r.st.held).st = N := t1
  have hat : (Rd.tellText P (Rd.moved r N r.opn) r.opn r.st.held).attrs = [] := List.eq_nil_of_length_eq_zero (Nat.le_zero.1 (by rw [show (Rd.moved r N r.opn).attrs = [] from c4] at t4; exact t4))
  have hto := Rd.tellText_toks P (Rd.moved r N r.opn) r.opn r.st.held ho.1 (by omega) x.raw (fun q => c5 (by rw [p2]; exact q))
  rw [Rf.go_same P x N i (by unfold Rf.inTag; omega) (by rw [hs]; unfold Rf.inTag; omega) (by omega) (by rw [hs]; omega) (Or.inl (Or.inl (by unfold Rf.inText; omega)))]
  refine Rf.Sim.ofCom (by rw [hst]; omega) hst.symm ok (by rw [hst]; exact hf) ?_ c2 c3 hat ?_
  · rw [hto]
    show r.toks ++ Rf.txts (Rf.sl P r.text r.opn) x.raw = x.out ++ Rf.txts x.buf x.raw
    rw [c1, p2]
  · rw [t5]
    exact p1
/-- what is held ends by its own end tag -/
theorem Rf.Sim.heldEnds {P : ByteArray} {i : Nat} {x : Rf} {r : Rd} (h : Rf.Sim P i x r) (N : Ts) (hP : i ≤ P.size) (hk : r.st.pl = 22) (hN : N.pl = 0) (ok : Rd.Ok (Rd.go P r N r.opn i) (i + 1)) (hf : Ts.Fine N) : Rf.Sim P (i + 1) (Rf.go P x N i) (Rd.go P r N r.opn i) := by
  have hs := h.st
  obtain ⟨c1, c2, c3, c4, c5⟩ := h.loose (by omega)
  obtain ⟨p1, p2⟩ := h.mid (by omega)
  have ho := h.ok.opn (by omega)
  have hheld : r.st.held ≠ Ts.e := by
    intro e
    have := h.fine.high (by omega)
    rw [e] at this
    exact absurd this (by decide)
  rw [Rd.go_end P r N r.opn i ⟨hk, hN⟩] at ok ⊢
  obtain ⟨t1, t2, t3, t4, t5⟩ := Rd.tellText_facts P (Rd.moved r N r.opn) r.opn r.st.held
  have hto := Rd.tellText_toks P (Rd.moved r N r.opn) r.opn r.st.held ho.1 (by omega) x.raw (fun q => c5 (by rw [p2]; exact q))
  rw [Rf.go_emit P x N i (Or.inl ⟨by rw [hs]; exact hk, hN⟩)]
  have hcm : (Rf.moved x N).commit = Rf.moved x N := Rf.commit_none _ c2
  obtain ⟨f1, f2, f3⟩ := Rf.flush_rest (Rf.moved x N)
  unfold Rf.emit
  rw [hcm]
  refine Rf.Sim.ofPlain (r := (Rd.tellText P (Rd.moved r N r.opn) r.opn r.st.held).tell ⟨2, r.st.held, Ts.e, [], false⟩ (i + 1)) (by show (Rd.tellText P (Rd.moved r N r.opn) r.opn r.st.held).st.pl = 0 ∨ _; rw [t1]; exact Or.inl hN) ?_ ok (by show Ts.Fine (Rd.tellText P (Rd.moved r N r.opn) r.opn r.st.held).st; rw [t1]; exact hf) ?_ (f3.trans c2) rfl rfl (fun q => absurd (Rf.flush_buf _) q) rfl ?_
  · show (Rf.moved x N).flush.st = (Rd.tellText P (Rd.moved r N r.opn) r.opn r.st.held).st
    rw [f1, t1]
    rfl
  · show (Rd.tellText P (Rd.moved r N r.opn) r.opn r.st.held).toks ++ [_] = (Rf.moved x N).flush.out ++ [Rf.tag x.st (Rf.moved x N).flush.attrs]
    rw [hto, Rf.flush_out]
    have e : Rf.tag x.st (Rf.moved x N).flush.attrs = ⟨2, r.st.held, Ts.e, [], false⟩ := by
      unfold Rf.tag
      rw [hs, if_pos (Or.inr hheld), if_pos hheld]
    rw [e]
    show r.toks ++ Rf.txts (Rf.sl P r.text r.opn) x.raw ++ _ = x.out ++ Rf.txts x.buf x.raw ++ _
    rw [c1, p2]
  · show (Rf.moved x N).flush.buf = Rf.sl P (i + 1) (i + 1)
    rw [Rf.flush_buf, Rf.sl_nil]
end Go.Proofs.YtjbkgokiikbaeaaGreatDoor
