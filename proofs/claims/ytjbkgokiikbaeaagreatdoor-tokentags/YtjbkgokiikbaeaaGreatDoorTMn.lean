/-
  PLAIN: a tag that is written from its attributes, one behind the other.
-/
import Derived.Test.YtjbkgokiikbaeaaGreatDoorTNm2
namespace Go.Proofs.YtjbkgokiikbaeaaGreatDoor
/-- in the tag of the name N, at the place p -/
def Mn.s (p : Int) (N A : ByteArray) : Ts := ⟨p, N, false, A, Ts.e, 0⟩
/-- a byte of a name -/
def Mn.ok (c : UInt8) : Prop := Ts.blank c = false ∧ c ≠ 47 ∧ c ≠ 62 ∧ c ≠ 61
/-- behind this the reader has the attributes al, whatever comes: a blank or the tag's end -/
structure Mn.At (P N : ByteArray) (al : List (ByteArray × ByteArray)) (j : Nat) (r : Rd) : Prop where
  blank : ∃ v tk, Rd.read P r j 32 = ⟨Mn.s 4 N Ts.e, [], 0, 0, v, al, tk⟩
  shut : ∃ v tk, Rd.read P r j 62 = ⟨Ts.only 0, [⟨1, N, Ts.e, al, false⟩], j + 1, 0, v, [], tk⟩
theorem Mn.one (P : ByteArray) (r : Rd) (i : Nat) (c : UInt8) : Rd.run P r i [c] = Rd.read P r i c := rfl
theorem Mn.att {c : UInt8} (h : Mn.ok c) (N A : ByteArray) : (Mn.s 5 N A).step c = Mn.s 5 N (Ts.grown A c) := by
  show Ts.attrName ((Mn.s 5 N A).to 5) c = _
  unfold Ts.attrName
  rw [if_neg (by rw [h.1]; decide), if_neg h.2.1, if_neg h.2.2.1, if_neg h.2.2.2]
  rfl
theorem Mn.readAtt (P : ByteArray) {c : UInt8} (h : Mn.ok c) (N A : ByteArray) (toks : List Tk) (t o v i : Nat) (al : List (ByteArray × ByteArray)) (tk : Bool) :
    Rd.read P ⟨Mn.s 5 N A, toks, t, o, v, al, tk⟩ i c = ⟨Mn.s 5 N (Ts.grown A c), toks, t, o, v, al, tk⟩ := by
  unfold Rd.read
  simp only [Mn.att h]
  rfl
theorem Mn.runAtt (P : ByteArray) : ∀ (l : List UInt8), (∀ c ∈ l, Mn.ok c) → ∀ (N A : ByteArray) (toks : List Tk) (t o v i : Nat) (al : List (ByteArray × ByteArray)) (tk : Bool),
    Rd.run P ⟨Mn.s 5 N A, toks, t, o, v, al, tk⟩ i l = ⟨Mn.s 5 N (Nm.grow A l), toks, t, o, v, al, tk⟩
  | [], _, _, _, _, _, _, _, _, _, _ => rfl
  | c :: l, h, N, A, toks, t, o, v, i, al, tk => by
    show Rd.run P (Rd.read P _ i c) (i + 1) l = _
    rw [Mn.readAtt P (h c (by simp)), Mn.runAtt P l (fun x hx => h x (by simp [hx]))]
    rfl
theorem Mn.first (P : ByteArray) {c : UInt8} (h : Mn.ok c) (N : ByteArray) (v i : Nat) (al : List (ByteArray × ByteArray)) (tk : Bool) :
    Rd.read P ⟨Mn.s 4 N Ts.e, [], 0, 0, v, al, tk⟩ i c = ⟨Mn.s 5 N (Ts.low c), [], 0, 0, v, al, tk⟩ := by
  have hs : (Mn.s 4 N Ts.e).step c = Mn.s 5 N (Ts.low c) := by
    show Ts.beforeAttr ((Mn.s 4 N Ts.e).to 4) c = _
    unfold Ts.beforeAttr
    rw [if_neg (by rw [h.1]; decide), if_neg h.2.1, if_neg h.2.2.1]
    rfl
  unfold Rd.read
  simp only [hs]
  rfl
/-- may the attribute A be told? -/
def Mn.fresh (al : List (ByteArray × ByteArray)) (A : ByteArray) : Prop := al.length < 32 ∧ al.any (fun a => decide (a.1 = A)) = false
theorem Mn.eq (P : ByteArray) (N A : ByteArray) (v i : Nat) (al : List (ByteArray × ByteArray)) (tk : Bool) :
    Rd.read P ⟨Mn.s 5 N A, [], 0, 0, v, al, tk⟩ i 61 = Rd.addAttr ⟨Mn.s 7 N A, [], 0, 0, v, al, tk⟩ A := by kernel_rfl
theorem Mn.addYes (st : Ts) (A : ByteArray) (v : Nat) (al : List (ByteArray × ByteArray)) (tk : Bool) (h : Mn.fresh al A) : Rd.addAttr ⟨st, [], 0, 0, v, al, tk⟩ A = ⟨st, [], 0, 0, v, al ++ [(A, Ts.e)], true⟩ := by
  unfold Rd.addAttr
  exact if_pos h
theorem Mn.addNo (st : Ts) (A : ByteArray) (v : Nat) (al : List (ByteArray × ByteArray)) (tk : Bool) (h : ¬ Mn.fresh al A) : Rd.addAttr ⟨st, [], 0, 0, v, al, tk⟩ A = ⟨st, [], 0, 0, v, al, false⟩ := by
  unfold Rd.addAttr
  exact if_neg h
/-- what is known of the attributes behind a name and its '=' -/
def Mn.al (al : List (ByteArray × ByteArray)) (A : ByteArray) (tk : Bool) : List (ByteArray × ByteArray) := if tk = true then al ++ [(A, Ts.e)] else al
def Mn.al2 (al : List (ByteArray × ByteArray)) (A V : ByteArray) (tk : Bool) : List (ByteArray × ByteArray) := if tk = true then al ++ [(A, V)] else al
theorem Mn.name (P N : ByteArray) (al : List (ByteArray × ByteArray)) (j : Nat) (r : Rd) (hr : Mn.At P N al j r) (c : UInt8) (l : List UInt8) (hc : Mn.ok c) (hl : ∀ x ∈ l, Mn.ok x) (A : ByteArray) (hA : Nm.grow (Ts.low c) l = A) (tk : Bool) (htk : tk = true ↔ Mn.fresh al A) :
    ∃ v, Rd.run P r j (32 :: c :: (l ++ [61])) = ⟨Mn.s 7 N A, [], 0, 0, v, Mn.al al A tk, tk⟩ := by
  obtain ⟨v, tk0, h⟩ := hr.blank
  refine ⟨v, ?_⟩
  show Rd.run P (Rd.read P (Rd.read P r j 32) (j + 1) c) (j + 1 + 1) (l ++ [61]) = _
  rw [h, Mn.first P hc, Rd.run_append, Mn.runAtt P l hl, hA]
  rw [Mn.one, Mn.eq]
  by_cases hf : Mn.fresh al A
  · rw [Mn.addYes _ _ _ _ _ hf]
    have : tk = true := htk.2 hf
    subst this
    rfl
  · rw [Mn.addNo _ _ _ _ _ hf]
    have : tk = false := by
      cases tk with
      | false => rfl
      | true => exact absurd (htk.1 rfl) hf
    subst this
    rfl
theorem Mn.set (al : List (ByteArray × ByteArray)) (A V : ByteArray) : Rd.setLast (al ++ [(A, Ts.e)]) V = al ++ [(A, V)] := by
  unfold Rd.setLast
  rw [List.length_append]
  show List.modify _ (al.length + 1 - 1) _ = _
  rw [Nat.add_sub_cancel]
  induction al with
  | nil => rfl
  | cons a al ih => exact congrArg (a :: ·) ih
/-- a byte of a bare value -/
def Mn.bareOk (c : UInt8) : Prop := Ts.blank c = false ∧ c ≠ 62
theorem Mn.bareStay (P : ByteArray) {c : UInt8} (h : Mn.bareOk c) (N A : ByteArray) (v i : Nat) (al : List (ByteArray × ByteArray)) (tk : Bool) :
    Rd.read P ⟨Mn.s 10 N A, [], 0, 0, v, al, tk⟩ i c = ⟨Mn.s 10 N A, [], 0, 0, v, al, tk⟩ := by
  have hs : (Mn.s 10 N A).step c = Mn.s 10 N A := by
    show Ts.bare ((Mn.s 10 N A).to 10) c = _
    unfold Ts.bare
    rw [if_neg (by rw [h.1]; decide), if_neg h.2]
    rfl
  unfold Rd.read
  simp only [hs]
  rfl
theorem Mn.runBare (P : ByteArray) : ∀ (l : List UInt8), (∀ c ∈ l, Mn.bareOk c) → ∀ (N A : ByteArray) (v i : Nat) (al : List (ByteArray × ByteArray)) (tk : Bool),
    Rd.run P ⟨Mn.s 10 N A, [], 0, 0, v, al, tk⟩ i l = ⟨Mn.s 10 N A, [], 0, 0, v, al, tk⟩
  | [], _, _, _, _, _, _, _ => rfl
  | c :: l, h, N, A, v, i, al, tk => by
    show Rd.run P (Rd.read P _ i c) (i + 1) l = _
    rw [Mn.bareStay P (h c (by simp)), Mn.runBare P l (fun x hx => h x (by simp [hx]))]
theorem Mn.bareFirst (P : ByteArray) {c : UInt8} (h : Mn.bareOk c) (h1 : c ≠ 34) (h2 : c ≠ 39) (N A : ByteArray) (v i : Nat) (al : List (ByteArray × ByteArray)) (tk : Bool) :
    Rd.read P ⟨Mn.s 7 N A, [], 0, 0, v, al, tk⟩ i c = ⟨Mn.s 10 N A, [], 0, 0, i, al, tk⟩ := by
  have hs : (Mn.s 7 N A).step c = Mn.s 10 N A := by
    show Ts.beforeValue ((Mn.s 7 N A).to 7) c = _
    unfold Ts.beforeValue
    rw [if_neg (by rw [h.1]; decide), if_neg h1, if_neg h2, if_neg h.2]
    rfl
  unfold Rd.read
  simp only [hs]
  rfl
theorem Mn.bareEnd (P : ByteArray) (N A V : ByteArray) (hN : Ts.kind N = 0) (v i : Nat) (al : List (ByteArray × ByteArray)) (tk : Bool) (hV : Rd.dec (P.extract v i) = V) : Mn.At P N (Mn.al2 al A V tk) i ⟨Mn.s 10 N A, [], 0, 0, v, Mn.al al A tk, tk⟩ := by
  have e : (if tk = true then Rd.setLast (Mn.al al A tk) (Rd.dec (P.extract v i)) else Mn.al al A tk) = Mn.al2 al A V tk := by
    cases tk with
    | false => rfl
    | true => rw [if_pos rfl, hV]; exact Mn.set al A V
  refine ⟨⟨v, tk, ?_⟩, ⟨v, tk, ?_⟩⟩
  · show (if tk = true then (⟨Mn.s 4 N Ts.e, [], 0, 0, v, Rd.setLast (Mn.al al A tk) (Rd.dec (P.extract v i)), tk⟩ : Rd) else ⟨Mn.s 4 N Ts.e, [], 0, 0, v, Mn.al al A tk, tk⟩) = _
    rw [← e]
    cases tk <;> rfl
  · have hs : (Mn.s 10 N A).step 62 = Ts.only 0 := by
      show Ts.closed (Mn.s 10 N A) = _
      exact if_pos (Or.inr (Or.inl hN))
    rw [← e]
    unfold Rd.read
    simp only [hs]
    cases tk <;> rfl
/-- an attribute with a bare value -/
theorem Mn.bare {P N : ByteArray} {al : List (ByteArray × ByteArray)} {j : Nat} {r : Rd} (hr : Mn.At P N al j r) (hN : Ts.kind N = 0) (c : UInt8) (l : List UInt8) (hc : Mn.ok c) (hl : ∀ x ∈ l, Mn.ok x) (d : UInt8) (k : List UInt8) (hd : Mn.bareOk d) (hd1 : d ≠ 34) (hd2 : d ≠ 39) (hk : ∀ x ∈ k, Mn.bareOk x)
    (A V : ByteArray) (hA : Nm.grow (Ts.low c) l = A) (tk : Bool) (htk : tk = true ↔ Mn.fresh al A) (hV : Rd.dec (P.extract (j + (l.length + 3)) (j + (l.length + 3) + (k.length + 1))) = V) :
    Mn.At P N (Mn.al2 al A V tk) (j + (l.length + 3) + (k.length + 1)) (Rd.run P r j ((32 :: c :: (l ++ [61])) ++ (d :: k))) := by
  obtain ⟨v, h⟩ := Mn.name P N al j r hr c l hc hl A hA tk htk
  rw [Rd.run_append, h]
  have hn : (32 :: c :: (l ++ [61]) : List UInt8).length = l.length + 3 := by simp
  rw [hn]
  show Mn.At P N _ _ (Rd.run P (Rd.read P _ (j + (l.length + 3)) d) _ k)
  rw [Mn.bareFirst P hd hd1 hd2, Mn.runBare P k hk]
  exact Mn.bareEnd P N A V hN _ _ al tk hV
theorem Mn.quoteStay (P : ByteArray) (q : UInt8) (hq : q = 34 ∨ q = 39) {c : UInt8} (h : c ≠ q) (N A : ByteArray) (v i : Nat) (al : List (ByteArray × ByteArray)) (tk : Bool) :
    Rd.read P ⟨Mn.s (if q = 34 then 8 else 9) N A, [], 0, 0, v, al, tk⟩ i c = ⟨Mn.s (if q = 34 then 8 else 9) N A, [], 0, 0, v, al, tk⟩ := by
  rcases hq with rfl | rfl
  · have hs : (Mn.s 8 N A).step c = Mn.s 8 N A := by
      show Ts.quoted 34 ((Mn.s 8 N A).to 8) c = _
      unfold Ts.quoted
      rw [if_neg h]
      rfl
    show Rd.read P ⟨Mn.s 8 N A, [], 0, 0, v, al, tk⟩ i c = ⟨Mn.s 8 N A, [], 0, 0, v, al, tk⟩
    unfold Rd.read
    simp only [hs]
    rfl
  · have hs : (Mn.s 9 N A).step c = Mn.s 9 N A := by
      show Ts.quoted 39 ((Mn.s 9 N A).to 9) c = _
      unfold Ts.quoted
      rw [if_neg h]
      rfl
    show Rd.read P ⟨Mn.s 9 N A, [], 0, 0, v, al, tk⟩ i c = ⟨Mn.s 9 N A, [], 0, 0, v, al, tk⟩
    unfold Rd.read
    simp only [hs]
    rfl
theorem Mn.runQuote (P : ByteArray) (q : UInt8) (hq : q = 34 ∨ q = 39) : ∀ (l : List UInt8), (∀ c ∈ l, c ≠ q) → ∀ (N A : ByteArray) (v i : Nat) (al : List (ByteArray × ByteArray)) (tk : Bool),
    Rd.run P ⟨Mn.s (if q = 34 then 8 else 9) N A, [], 0, 0, v, al, tk⟩ i l = ⟨Mn.s (if q = 34 then 8 else 9) N A, [], 0, 0, v, al, tk⟩
  | [], _, _, _, _, _, _, _ => rfl
  | c :: l, h, N, A, v, i, al, tk => by
    show Rd.run P (Rd.read P _ i c) (i + 1) l = _
    rw [Mn.quoteStay P q hq (h c (by simp)), Mn.runQuote P q hq l (fun x hx => h x (by simp [hx]))]
theorem Mn.quoteFirst (P : ByteArray) (q : UInt8) (hq : q = 34 ∨ q = 39) (N A : ByteArray) (v i : Nat) (al : List (ByteArray × ByteArray)) (tk : Bool) :
    Rd.read P ⟨Mn.s 7 N A, [], 0, 0, v, al, tk⟩ i q = ⟨Mn.s (if q = 34 then 8 else 9) N A, [], 0, 0, i + 1, al, tk⟩ := by
  rcases hq with rfl | rfl
  · kernel_rfl
  · kernel_rfl
theorem Mn.quoteShut (P : ByteArray) (q : UInt8) (hq : q = 34 ∨ q = 39) (N A V : ByteArray) (v i : Nat) (al : List (ByteArray × ByteArray)) (tk : Bool) (hV : Rd.dec (P.extract v i) = V) :
    Rd.read P ⟨Mn.s (if q = 34 then 8 else 9) N A, [], 0, 0, v, Mn.al al A tk, tk⟩ i q = ⟨Mn.s 11 N Ts.e, [], 0, 0, v, Mn.al2 al A V tk, tk⟩ := by
  have e : (if tk = true then Rd.setLast (Mn.al al A tk) (Rd.dec (P.extract v i)) else Mn.al al A tk) = Mn.al2 al A V tk := by
    cases tk with
    | false => rfl
    | true => rw [if_pos rfl, hV]; exact Mn.set al A V
  rw [← e]
  rcases hq with rfl | rfl <;> cases tk <;> rfl
theorem Mn.at11 (P N : ByteArray) (hN : Ts.kind N = 0) (v i : Nat) (al : List (ByteArray × ByteArray)) (tk : Bool) : Mn.At P N al i ⟨Mn.s 11 N Ts.e, [], 0, 0, v, al, tk⟩ := by
  refine ⟨⟨v, tk, by rfl⟩, ⟨v, tk, ?_⟩⟩
  have hs : (Mn.s 11 N Ts.e).step 62 = Ts.only 0 := by
    show Ts.closed (Mn.s 11 N Ts.e) = _
    exact if_pos (Or.inr (Or.inl hN))
  unfold Rd.read
  simp only [hs]
  rfl
theorem Mn.at3 (P N : ByteArray) (hN : Ts.kind N = 0) (v i : Nat) (al : List (ByteArray × ByteArray)) (tk : Bool) : Mn.At P N al i ⟨Mn.s 3 N Ts.e, [], 0, 0, v, al, tk⟩ := by
  refine ⟨⟨v, tk, by rfl⟩, ⟨v, tk, ?_⟩⟩
  have hs : (Mn.s 3 N Ts.e).step 62 = Ts.only 0 := by
    show Ts.closed (Mn.s 3 N Ts.e) = _
    exact if_pos (Or.inr (Or.inl hN))
  unfold Rd.read
  simp only [hs]
  rfl
/-- an attribute with a quoted value -/
theorem Mn.quote {P N : ByteArray} {al : List (ByteArray × ByteArray)} {j : Nat} {r : Rd} (hr : Mn.At P N al j r) (hN : Ts.kind N = 0) (c : UInt8) (l : List UInt8) (hc : Mn.ok c) (hl : ∀ x ∈ l, Mn.ok x) (q : UInt8) (hq : q = 34 ∨ q = 39) (k : List UInt8) (hk : ∀ x ∈ k, x ≠ q)
    (A V : ByteArray) (hA : Nm.grow (Ts.low c) l = A) (tk : Bool) (htk : tk = true ↔ Mn.fresh al A) (hV : Rd.dec (P.extract (j + (l.length + 3) + 1) (j + (l.length + 3) + 1 + k.length)) = V) :
    Mn.At P N (Mn.al2 al A V tk) (j + (l.length + 3) + 1 + k.length + 1) (Rd.run P r j ((32 :: c :: (l ++ [61])) ++ (q :: (k ++ [q])))) := by
  obtain ⟨v, h⟩ := Mn.name P N al j r hr c l hc hl A hA tk htk
  rw [Rd.run_append, h]
  have hn : (32 :: c :: (l ++ [61]) : List UInt8).length = l.length + 3 := by simp
  rw [hn]
  show Mn.At P N _ _ (Rd.run P (Rd.read P _ (j + (l.length + 3)) q) _ (k ++ [q]))
  rw [Mn.quoteFirst P q hq, Rd.run_append, Mn.runQuote P q hq k hk]
  rw [Mn.one, Mn.quoteShut P q hq N A V _ _ al tk hV]
  exact Mn.at11 P N hN _ _ _ _
end Go.Proofs.YtjbkgokiikbaeaaGreatDoor
