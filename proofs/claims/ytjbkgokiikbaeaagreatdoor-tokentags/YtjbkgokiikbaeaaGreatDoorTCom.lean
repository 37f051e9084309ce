/-
  PLAIN: a comment is told as it is, up to its end.
-/
import Derived.Test.YtjbkgokiikbaeaaGreatDoorTSeg
import Derived.KernelRfl
namespace Go.Proofs.YtjbkgokiikbaeaaGreatDoor
/-- a place at which each byte but one leaves the reader as it is -/
theorem Sg.run_same (P : ByteArray) (out : UInt8) (r : Rd) (h : ∀ i c, c ≠ out → Rd.read P r i c = r) : ∀ (l : List UInt8) (i : Nat), (∀ c ∈ l, c ≠ out) → Rd.run P r i l = r
  | [], _, _ => rfl
  | c :: l, i, hl => by
    show Rd.run P (Rd.read P r i c) (i + 1) l = r
    rw [h i c (hl c (by simp))]
    exact Sg.run_same P out r h l (i + 1) (fun x hx => hl x (by simp [hx]))
def Ts.only (k : Int) : Ts := ⟨k, Ts.e, false, Ts.e, Ts.e, 0⟩
theorem Sg.com (P : ByteArray) (toks : List Tk) (text opn value : Nat) (attrs : List (ByteArray × ByteArray)) (taken : Bool) (i : Nat) (c : UInt8) (h : c ≠ 45) :
    Rd.read P ⟨Ts.only 15, toks, text, opn, value, attrs, taken⟩ i c = ⟨Ts.only 15, toks, text, opn, value, attrs, taken⟩ := by
  have hs : (Ts.only 15).step c = Ts.only 15 := by
    show Ts.comment ((Ts.only 15).to 15) c = _
    unfold Ts.comment
    rw [if_neg h]
    rfl
  unfold Rd.read
  simp only [hs]
  rfl
theorem Sg.bog (P : ByteArray) (toks : List Tk) (text opn value : Nat) (attrs : List (ByteArray × ByteArray)) (taken : Bool) (i : Nat) (c : UInt8) (h : c ≠ 62) :
    Rd.read P ⟨Ts.only 18, toks, text, opn, value, attrs, taken⟩ i c = ⟨Ts.only 18, toks, text, opn, value, attrs, taken⟩ := by
  have hs : (Ts.only 18).step c = Ts.only 18 := by
    show Ts.bogus ((Ts.only 18).to 18) c = _
    unfold Ts.bogus
    rw [if_neg h]
    rfl
  unfold Rd.read
  simp only [hs]
  rfl
theorem Sg.bang (P : ByteArray) (toks : List Tk) (text opn value : Nat) (attrs : List (ByteArray × ByteArray)) (taken : Bool) (i : Nat) :
    Rd.read P ⟨Ts.only 1, toks, text, opn, value, attrs, taken⟩ i 33 = Rd.tellText P ⟨Ts.only 13, toks, text, opn, value, attrs, taken⟩ opn Ts.e := by kernel_rfl
theorem Sg.bang0 (P : ByteArray) (toks : List Tk) (text value : Nat) (attrs : List (ByteArray × ByteArray)) (taken : Bool) (i : Nat) :
    Rd.read P ⟨Ts.only 1, toks, text, text, value, attrs, taken⟩ i 33 = ⟨Ts.only 13, toks, text, text, value, attrs, taken⟩ := by
  rw [Sg.bang]
  exact if_pos rfl
theorem Sg.com1 (P : ByteArray) : Rd.run P Rd.start 0 [97, 60, 33, 45, 45] = ⟨Ts.only 15, [⟨0, Ts.e, Rd.textOf P 0 1 Ts.e, [], false⟩], 1, 1, 0, [], false⟩ := by kernel_rfl
theorem Sg.com2 (P : ByteArray) (toks : List Tk) (i : Nat) : Rd.run P ⟨Ts.only 15, toks, 1, 1, 0, [], false⟩ i [45, 45, 62, 60] = ⟨Ts.only 1, toks ++ [⟨3, Ts.e, P.extract 5 (i + 1 + 1 - 2), [], false⟩], i + 1 + 1 + 1, i + 1 + 1 + 1, 0, [], false⟩ := by kernel_rfl
theorem Sg.com3 (P : ByteArray) (toks : List Tk) (t o i : Nat) : Rd.run P ⟨Ts.only 13, toks, t, o, 0, [], false⟩ i [113] = ⟨Ts.only 18, toks, t, o, 0, [], false⟩ := by kernel_rfl
theorem Sg.com4 (P : ByteArray) (toks : List Tk) (t o i : Nat) : Rd.run P ⟨Ts.only 18, toks, t, o, 0, [], false⟩ i [62, 122] = ⟨Ts.only 0, toks ++ [⟨3, Ts.e, P.extract (o + 2) i, [], false⟩], i + 1, o, 0, [], false⟩ := by kernel_rfl
theorem Sg.end0 (P : ByteArray) (toks : List Tk) (t o : Nat) (h : t ≠ P.size) : Rd.done P ⟨Ts.only 0, toks, t, o, 0, [], false⟩ = toks ++ [⟨0, Ts.e, Rd.dec (P.extract t P.size), [], false⟩] := by
  show (Rd.tellText P ⟨Ts.only 0, toks, t, o, 0, [], false⟩ P.size Ts.e).toks = _
  unfold Rd.tellText
  rw [if_neg h]
  rfl
theorem Cm.tokens (c b : List UInt8) (hc : ∀ x ∈ c, x ≠ 45 ∧ x ≠ 13) (hb : ∀ x ∈ b, x ≠ 62 ∧ x ≠ 13) :
    Rd.tokens ⟨([97, 60, 33, 45, 45] ++ (c ++ ([45, 45, 62, 60, 33, 113] ++ (b ++ [62, 122])))).toArray⟩ = [⟨0, Ts.e, ⟨#[97]⟩, [], false⟩, ⟨3, Ts.e, ⟨c.toArray⟩, [], false⟩, ⟨3, Ts.e, ⟨(113 :: b).toArray⟩, [], false⟩, ⟨0, Ts.e, ⟨#[122]⟩, [], false⟩] := by
  obtain ⟨L, hL⟩ : ∃ L, [97, 60, 33, 45, 45] ++ (c ++ ([45, 45, 62, 60, 33, 113] ++ (b ++ [62, 122]))) = L := ⟨_, rfl⟩
  have h13 : ∀ x ∈ L, x ≠ 13 := by
    intro x hx
    rw [← hL] at hx
    simp only [List.mem_append] at hx
    rcases hx with h | h | h | h | h
    · clear hL hc hb; revert x; decide
    · exact (hc x h).2
    · clear hL hc hb; revert x; decide
    · exact (hb x h).2
    · clear hL hc hb; revert x; decide
  rw [hL]
  show Rd.done ⟨(Rd.lines L).toArray⟩ (Rd.run ⟨(Rd.lines L).toArray⟩ Rd.start 0 (Rd.lines L)) = _
  rw [Sg.lines L h13]
  obtain ⟨P, hP⟩ : ∃ P : ByteArray, ⟨L.toArray⟩ = P := ⟨_, rfl⟩
  have hsz : P.size = 13 + c.length + b.length := by
    rw [← hP, ← hL]
    show (List.toArray _).size = _
    simp
    omega
  have e1 : P.extract 0 1 = ⟨#[97]⟩ := by
    have := Sg.part [] [97] ([60, 33, 45, 45] ++ (c ++ ([45, 45, 62, 60, 33, 113] ++ (b ++ [62, 122])))) 0 1 rfl rfl
    rw [← hP, ← hL]
    simpa using this
  have e2 : P.extract 5 (5 + c.length) = ⟨c.toArray⟩ := by
    have := Sg.part [97, 60, 33, 45, 45] c ([45, 45, 62, 60, 33, 113] ++ (b ++ [62, 122])) 5 (5 + c.length) rfl rfl
    rw [← hP, ← hL]
    simpa using this
  have e3 : P.extract (10 + c.length) (11 + c.length + b.length) = ⟨(113 :: b).toArray⟩ := by
    have := Sg.part ([97, 60, 33, 45, 45] ++ (c ++ [45, 45, 62, 60, 33])) (113 :: b) [62, 122] (10 + c.length) (11 + c.length + b.length) (by simp; omega) (by simp; omega)
    rw [← hP, ← hL]
    simpa using this
  have e4 : P.extract (12 + c.length + b.length) P.size = ⟨#[122]⟩ := by
    have := Sg.part ([97, 60, 33, 45, 45] ++ (c ++ ([45, 45, 62, 60, 33, 113] ++ (b ++ [62])))) [122] [] (12 + c.length + b.length) P.size (by simp; omega) (by rw [hsz]; simp; omega)
    rw [← hP, ← hL]
    rw [← hP, ← hL] at this
    simpa using this
  rw [hP]
  have hrun : Rd.run P Rd.start 0 L = ⟨Ts.only 0, [⟨0, Ts.e, Rd.textOf P 0 1 Ts.e, [], false⟩] ++ [⟨3, Ts.e, P.extract 5 (5 + c.length), [], false⟩] ++ [⟨3, Ts.e, P.extract (10 + c.length) (11 + c.length + b.length), [], false⟩], 12 + c.length + b.length, 8 + c.length, 0, [], false⟩ := by
    rw [← hL, Rd.run_append, Sg.com1, Rd.run_append, Sg.run_same P 45 _ (fun i x hx => Sg.com P _ _ _ _ _ _ i x hx) c _ (fun x hx => (hc x hx).1)]
    rw [show ([45, 45, 62, 60, 33, 113] ++ (b ++ [62, 122]) : List UInt8) = [45, 45, 62, 60] ++ (33 :: ([113] ++ (b ++ [62, 122]))) from rfl, Rd.run_append, Sg.com2]
    show Rd.run P (Rd.read P _ _ 33) _ _ = _
    rw [Sg.bang0, Rd.run_append, Sg.com3, Rd.run_append, Sg.run_same P 62 _ (fun i x hx => Sg.bog P _ _ _ _ _ _ i x hx) b _ (fun x hx => (hb x hx).1), Sg.com4]
    simp only [List.length_cons, List.length_nil]
    have a1 : 0 + (0 + 1 + 1 + 1 + 1 + 1) + c.length + 1 + 1 - 2 = 5 + c.length := by omega
    have a2 : 0 + (0 + 1 + 1 + 1 + 1 + 1) + c.length + 1 + 1 + 1 = 8 + c.length := by omega
    have a3 : 8 + c.length + 2 = 10 + c.length := by omega
    have a4 : 0 + (0 + 1 + 1 + 1 + 1 + 1) + c.length + (0 + 1 + 1 + 1 + 1) + 1 + (0 + 1) + b.length = 11 + c.length + b.length := by omega
    have a5 : 11 + c.length + b.length + 1 = 12 + c.length + b.length := by omega
    rw [a1, a2, a3, a4, a5]
  rw [hrun, Sg.end0 _ _ _ _ (by omega), e2, e3, e4]
  have d1 : Rd.textOf P 0 1 Ts.e = ⟨#[97]⟩ := by
    show Rd.dec (P.extract 0 1) = _
    rw [e1]
    exact Sg.decB [97] (by decide)
  have d2 : Rd.dec ⟨#[122]⟩ = ⟨#[122]⟩ := Sg.decB [122] (by decide)
  rw [d1, d2]
  rfl
end Go.Proofs.YtjbkgokiikbaeaaGreatDoor
