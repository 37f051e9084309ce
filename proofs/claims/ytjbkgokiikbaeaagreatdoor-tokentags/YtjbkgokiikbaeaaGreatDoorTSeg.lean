/-
  PLAIN: the run over a page by segments: a text without signs in Data, in a comment, in what an element holds; lines without the byte 13; a text without '&'.
-/
import Derived.Test.YtjbkgokiikbaeaaGreatDoorTPre
namespace Go.Proofs.YtjbkgokiikbaeaaGreatDoor
theorem Sg.lines : ∀ (l : List UInt8), (∀ c ∈ l, c ≠ 13) → Rd.lines l = l
  | [], _ => rfl
  | c :: l, h => by
    have hc : c ≠ 13 := h c (by simp)
    have ih := Sg.lines l (fun x hx => h x (by simp [hx]))
    rw [Rd.lines, if_neg hc, ih]
    intro l' h1 _
    exact hc h1
theorem Sg.dec : ∀ (l : List UInt8), (∀ c ∈ l, c ≠ 38) → Pl.decL l = l
  | [], _ => rfl
  | c :: l, h => by rw [Pl.decL_other c l (h c (by simp)), Sg.dec l (fun x hx => h x (by simp [hx]))]
theorem Sg.decB (l : List UInt8) (h : ∀ c ∈ l, c ≠ 38) : Rd.dec ⟨l.toArray⟩ = ⟨l.toArray⟩ := by
  show (⟨(Pl.decL l).toArray⟩ : ByteArray) = _
  rw [Sg.dec l h]
theorem Sg.stay (c : UInt8) (h : c ≠ 60) : Ts.start.step c = Ts.start := by
  show Ts.data (Ts.start.to 0) c = _
  unfold Ts.data
  rw [if_neg h]
  rfl
theorem Sg.readData (P : ByteArray) (r : Rd) (i : Nat) (c : UInt8) (h : r.st = Ts.start) (hc : c ≠ 60) : Rd.read P r i c = r := by
  obtain ⟨st, toks, text, opn, value, attrs, taken⟩ := r
  subst h
  unfold Rd.read
  simp only [Sg.stay c hc]
  rfl
theorem Sg.data (P : ByteArray) : ∀ (l : List UInt8) (r : Rd) (i : Nat), r.st = Ts.start → (∀ c ∈ l, c ≠ 60) → Rd.run P r i l = r
  | [], _, _, _, _ => rfl
  | c :: l, r, i, hr, h => by
    show Rd.run P (Rd.read P r i c) (i + 1) l = r
    rw [Sg.readData P r i c hr (h c (by simp))]
    exact Sg.data P l r (i + 1) hr (fun x hx => h x (by simp [hx]))
/-- a part of a page that is made of parts -/
theorem Sg.part (a b c : List UInt8) (i j : Nat) (hi : i = a.length) (hj : j = a.length + b.length) : (⟨(a ++ b ++ c).toArray⟩ : ByteArray).extract i j = ⟨b.toArray⟩ := by
  apply ByteArray.ext
  rw [ByteArray.data_extract]
  subst hi hj
  simp
end Go.Proofs.YtjbkgokiikbaeaaGreatDoor
