/-
  PLAIN: what the walk of the reader's read asks, from what its parts keep to; the run over a page, byte by byte.
-/
import Derived.Test.YtjbkgokiikbaeaaGreatDoorTInv
namespace Go.Proofs.YtjbkgokiikbaeaaGreatDoor
theorem Rd.Ok.tx {r : Rd} {i : Nat} {N : Ts} {o : Nat} (h : Rd.Ok r i) (k : Nat) (hk : r.st.pl = (k : Int)) (hN : N.pl ∈ Ts.nexts k) (ho : (if N.pl = 1 ∨ N.pl = 20 then i else r.opn) = o)
    (hc : (r.st.pl = 22 ∧ N.pl = 0) ∨ (Rd.loose r.st.pl = true ∧ Rd.loose N.pl = false)) : r.text ≤ o ∧ o ≤ i := by
  have hn : ¬ (N.pl = 1 ∨ N.pl = 20) := by
    rintro (e | e) <;> rcases hc with ⟨_, q⟩ | ⟨_, q⟩
    · omega
    · rw [e] at q; exact absurd q (by decide)
    · omega
    · rw [e] at q; exact absurd q (by decide)
  rw [if_neg hn] at ho
  subst ho
  have h3 : r.st.pl = 1 ∨ r.st.pl = 2 ∨ r.st.pl = 22 := by
    rcases hc with ⟨q, _⟩ | ⟨q1, q2⟩
    · exact .inr (.inr q)
    · have hlt := h.hi
      unfold Rd.loose at q1
      simp only [Bool.or_eq_true, decide_eq_true_eq] at q1
      have hcase : k = 0 ∨ k = 1 ∨ k = 2 ∨ k = 19 ∨ k = 20 ∨ k = 21 ∨ k = 22 := by omega
      rcases hcase with e | e | e | e | e | e | e
      all_goals subst e
      all_goals simp only [Ts.nexts, List.mem_cons, List.not_mem_nil, or_false] at hN
      · rcases hN with e | e <;> (rw [e] at q2; exact absurd q2 (by decide))
      · exact .inl hk
      · exact .inr (.inl hk)
      · rcases hN with e | e <;> (rw [e] at q2; exact absurd q2 (by decide))
      · rcases hN with e | e | e <;> (rw [e] at q2; exact absurd q2 (by decide))
      · rcases hN with e | e | e <;> (rw [e] at q2; exact absurd q2 (by decide))
      · exact .inr (.inr hk)
  have := h.opn (by omega)
  omega
theorem Rd.Ok.cm {r : Rd} {i : Nat} {N : Ts} {o : Nat} (h : Rd.Ok r i) (k : Nat) (hk : r.st.pl = (k : Int)) (hN : N.pl ∈ Ts.nexts k) (ho : (if N.pl = 1 ∨ N.pl = 20 then i else r.opn) = o)
    (h1 : Ts.inTag r.st.pl = false) (h2 : Rd.loose r.st.pl = false) (_h3 : Rd.loose N.pl = true) : (r.st.pl ≠ 17 → o + 2 ≤ i) ∧ (r.st.pl = 17 → o + 6 ≤ i) := by
  have hlt := h.hi
  have hlo := h.lo
  have hr : 13 ≤ r.st.pl ∧ r.st.pl ≤ 18 := by
    unfold Rd.loose at h2
    unfold Ts.inTag at h1
    rw [Bool.and_eq_false_iff, decide_eq_false_iff_not, decide_eq_false_iff_not] at h1
    rw [Bool.or_eq_false_iff, decide_eq_false_iff_not, decide_eq_false_iff_not] at h2
    omega
  have hn : ¬ (N.pl = 1 ∨ N.pl = 20) := by
    have hcase : k = 13 ∨ k = 14 ∨ k = 15 ∨ k = 16 ∨ k = 17 ∨ k = 18 := by omega
    rcases hcase with e | e | e | e | e | e
    all_goals subst e
    all_goals simp only [Ts.nexts, List.mem_cons, List.not_mem_nil, or_false] at hN
    all_goals omega
  rw [if_neg hn] at ho
  subst ho
  exact ⟨fun _ => h.bang hr.1 hr.2, fun q => h.c17 q⟩
theorem Rd.run_snoc (P : ByteArray) : ∀ (l : List UInt8) (r : Rd) (i : Nat) (c : UInt8), Rd.run P r i (l ++ [c]) = Rd.read P (Rd.run P r i l) (i + l.length) c := by
  intro l
  induction l with
  | nil => intro r i c; rfl
  | cons a l ih =>
    intro r i c
    show Rd.run P (Rd.read P r i a) (i + 1) (l ++ [c]) = _
    rw [ih]
    show Rd.read P (Rd.run P (Rd.read P r i a) (i + 1) l) (i + 1 + l.length) c = Rd.read P (Rd.run P (Rd.read P r i a) (i + 1) l) (i + (l.length + 1)) c
    rw [Nat.add_assoc, Nat.add_comm 1]
theorem Rd.run_append (P : ByteArray) : ∀ (l l' : List UInt8) (r : Rd) (i : Nat), Rd.run P r i (l ++ l') = Rd.run P (Rd.run P r i l) (i + l.length) l' := by
  intro l
  induction l with
  | nil => intro l' r i; rfl
  | cons a l ih =>
    intro l' r i
    show Rd.run P (Rd.read P r i a) (i + 1) (l ++ l') = _
    rw [ih]
    show Rd.run P (Rd.run P (Rd.read P r i a) (i + 1) l) (i + 1 + l.length) l' = Rd.run P (Rd.run P (Rd.read P r i a) (i + 1) l) (i + (l.length + 1)) l'
    rw [Nat.add_assoc, Nat.add_comm 1]
theorem Rd.Ok.run {P : ByteArray} : ∀ (l : List UInt8) {r : Rd} {i : Nat}, Rd.Ok r i → Rd.Ok (Rd.run P r i l) (i + l.length) := by
  intro l
  induction l with
  | nil => intro r i h; exact h
  | cons a l ih =>
    intro r i h
    have := ih (h.read a (P := P))
    rw [List.length_cons, show i + (l.length + 1) = i + 1 + l.length by omega]
    exact this
end Go.Proofs.YtjbkgokiikbaeaaGreatDoor
