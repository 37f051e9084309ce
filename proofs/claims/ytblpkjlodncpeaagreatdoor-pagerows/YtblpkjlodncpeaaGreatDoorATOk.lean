/-
  PLAIN: where a step leads to; how long its names are; what the reader's parts keep to.
-/
import Derived.Test.YtblpkjlodncpeaaGreatDoorAPlaintoUShape
namespace Go.Proofs.YtblpkjlodncpeaaGreatDoor
/-- the places behind a place -/
def Ts.nexts : Nat → List Int
  | 0 => [0, 1]
  | 1 => [3, 2, 13, 1, 0]
  | 2 => [3, 1, 0]
  | 3 => [4, 12, 0, 19, 3]
  | 4 => [4, 12, 0, 19, 5]
  | 5 => [6, 12, 0, 19, 7, 5]
  | 6 => [6, 12, 0, 19, 7, 5]
  | 7 => [7, 8, 9, 0, 19, 10]
  | 8 => [11, 8]
  | 9 => [11, 9]
  | 10 => [4, 0, 19, 10]
  | 11 => [4, 12, 0, 19, 5]
  | 12 => [0, 19, 4, 12, 5]
  | 13 => [14, 0, 18]
  | 14 => [15, 0, 18]
  | 15 => [16, 15]
  | 16 => [17, 15]
  | 17 => [0, 17, 15]
  | 18 => [0, 18]
  | 19 => [20, 19]
  | 20 => [21, 20, 19]
  | 21 => [22, 20, 19]
  | 22 => [22, 20, 19, 4, 12, 0]
  | _ => []
theorem Ts.closed_pl (s : Ts) : s.closed.pl = 0 ∨ s.closed.pl = 19 := by
  unfold Ts.closed
  split
  · exact .inl rfl
  · exact .inr rfl
theorem Ts.step_at (s : Ts) (c : UInt8) (k : Nat) (hk : s.pl = (k : Int)) (h : k < 23) : s.step c = (s.to k).at c k := by
  unfold Ts.step
  rw [if_neg (by omega), hk, Int.toNat_natCast]
theorem Ts.step_next (s : Ts) (c : UInt8) (k : Nat) (hk : s.pl = (k : Int)) (h : k < 23) : (s.step c).pl ∈ Ts.nexts k := by
  rw [Ts.step_at s c k hk h]
  by_cases e0 : k = 0
  · subst e0
    show ((s.to 0).data c).pl ∈ Ts.nexts 0
    have hcl := Ts.closed_pl (s.to 0)
    have hp : (s.to 0).pl = 0 := rfl
    generalize s.to 0 = t at *
    unfold Ts.data
    repeat' split
    all_goals first | exact of_decide_eq_true rfl | (rw [hp]; exact of_decide_eq_true rfl) | (show t.pl ∈ _; rw [hp]; exact of_decide_eq_true rfl) | (rcases hcl with q | q <;> rw [q] <;> exact of_decide_eq_true rfl)
  by_cases e1 : k = 1
  · subst e1
    show ((s.to 1).tagOpen c).pl ∈ Ts.nexts 1
    have hcl := Ts.closed_pl (s.to 1)
    have hp : (s.to 1).pl = 1 := rfl
    generalize s.to 1 = t at *
    unfold Ts.tagOpen
    repeat' split
    all_goals first | exact of_decide_eq_true rfl | (rw [hp]; exact of_decide_eq_true rfl) | (show t.pl ∈ _; rw [hp]; exact of_decide_eq_true rfl) | (rcases hcl with q | q <;> rw [q] <;> exact of_decide_eq_true rfl)
  by_cases e2 : k = 2
  · subst e2
    show ((s.to 2).endOpen c).pl ∈ Ts.nexts 2
    have hcl := Ts.closed_pl (s.to 2)
    have hp : (s.to 2).pl = 2 := rfl
    generalize s.to 2 = t at *
    unfold Ts.endOpen
    repeat' split
    all_goals first | exact of_decide_eq_true rfl | (rw [hp]; exact of_decide_eq_true rfl) | (show t.pl ∈ _; rw [hp]; exact of_decide_eq_true rfl) | (rcases hcl with q | q <;> rw [q] <;> exact of_decide_eq_true rfl)
  by_cases e3 : k = 3
  · subst e3
    show ((s.to 3).tagName c).pl ∈ Ts.nexts 3
    have hcl := Ts.closed_pl (s.to 3)
    have hp : (s.to 3).pl = 3 := rfl
    generalize s.to 3 = t at *
    unfold Ts.tagName
    repeat' split
    all_goals first | exact of_decide_eq_true rfl | (rw [hp]; exact of_decide_eq_true rfl) | (show t.pl ∈ _; rw [hp]; exact of_decide_eq_true rfl) | (rcases hcl with q | q <;> rw [q] <;> exact of_decide_eq_true rfl)
  by_cases e4 : k = 4
  · subst e4
    show ((s.to 4).beforeAttr c).pl ∈ Ts.nexts 4
    have hcl := Ts.closed_pl (s.to 4)
    have hp : (s.to 4).pl = 4 := rfl
    generalize s.to 4 = t at *
    unfold Ts.beforeAttr
    repeat' split
    all_goals first | exact of_decide_eq_true rfl | (rw [hp]; exact of_decide_eq_true rfl) | (show t.pl ∈ _; rw [hp]; exact of_decide_eq_true rfl) | (rcases hcl with q | q <;> rw [q] <;> exact of_decide_eq_true rfl)
  by_cases e5 : k = 5
  · subst e5
    show ((s.to 5).attrName c).pl ∈ Ts.nexts 5
    have hcl := Ts.closed_pl (s.to 5)
    have hp : (s.to 5).pl = 5 := rfl
    generalize s.to 5 = t at *
    unfold Ts.attrName
    repeat' split
    all_goals first | exact of_decide_eq_true rfl | (rw [hp]; exact of_decide_eq_true rfl) | (show t.pl ∈ _; rw [hp]; exact of_decide_eq_true rfl) | (rcases hcl with q | q <;> rw [q] <;> exact of_decide_eq_true rfl)
  by_cases e6 : k = 6
  · subst e6
    show ((s.to 6).afterName c).pl ∈ Ts.nexts 6
    have hcl := Ts.closed_pl (s.to 6)
    have hp : (s.to 6).pl = 6 := rfl
    generalize s.to 6 = t at *
    unfold Ts.afterName
    repeat' split
    all_goals first | exact of_decide_eq_true rfl | (rw [hp]; exact of_decide_eq_true rfl) | (show t.pl ∈ _; rw [hp]; exact of_decide_eq_true rfl) | (rcases hcl with q | q <;> rw [q] <;> exact of_decide_eq_true rfl)
  by_cases e7 : k = 7
  · subst e7
    show ((s.to 7).beforeValue c).pl ∈ Ts.nexts 7
    have hcl := Ts.closed_pl (s.to 7)
    have hp : (s.to 7).pl = 7 := rfl
    generalize s.to 7 = t at *
    unfold Ts.beforeValue
    repeat' split
    all_goals first | exact of_decide_eq_true rfl | (rw [hp]; exact of_decide_eq_true rfl) | (show t.pl ∈ _; rw [hp]; exact of_decide_eq_true rfl) | (rcases hcl with q | q <;> rw [q] <;> exact of_decide_eq_true rfl)
  by_cases e8 : k = 8
  · subst e8
    show (Ts.quoted 34 (s.to 8) c).pl ∈ Ts.nexts 8
    have hcl := Ts.closed_pl (s.to 8)
    have hp : (s.to 8).pl = 8 := rfl
    generalize s.to 8 = t at *
    unfold Ts.quoted
    repeat' split
    all_goals first | exact of_decide_eq_true rfl | (rw [hp]; exact of_decide_eq_true rfl) | (show t.pl ∈ _; rw [hp]; exact of_decide_eq_true rfl) | (rcases hcl with q | q <;> rw [q] <;> exact of_decide_eq_true rfl)
  by_cases e9 : k = 9
  · subst e9
    show (Ts.quoted 39 (s.to 9) c).pl ∈ Ts.nexts 9
    have hcl := Ts.closed_pl (s.to 9)
    have hp : (s.to 9).pl = 9 := rfl
    generalize s.to 9 = t at *
    unfold Ts.quoted
    repeat' split
    all_goals first | exact of_decide_eq_true rfl | (rw [hp]; exact of_decide_eq_true rfl) | (show t.pl ∈ _; rw [hp]; exact of_decide_eq_true rfl) | (rcases hcl with q | q <;> rw [q] <;> exact of_decide_eq_true rfl)
  by_cases e10 : k = 10
  · subst e10
    show ((s.to 10).bare c).pl ∈ Ts.nexts 10
    have hcl := Ts.closed_pl (s.to 10)
    have hp : (s.to 10).pl = 10 := rfl
    generalize s.to 10 = t at *
    unfold Ts.bare
    repeat' split
    all_goals first | exact of_decide_eq_true rfl | (rw [hp]; exact of_decide_eq_true rfl) | (show t.pl ∈ _; rw [hp]; exact of_decide_eq_true rfl) | (rcases hcl with q | q <;> rw [q] <;> exact of_decide_eq_true rfl)
  by_cases e11 : k = 11
  · subst e11
    show ((s.to 11).afterValue c).pl ∈ Ts.nexts 11
    have hcl := Ts.closed_pl (s.to 11)
    have hp : (s.to 11).pl = 11 := rfl
    generalize s.to 11 = t at *
    unfold Ts.afterValue
    repeat' split
    all_goals first | exact of_decide_eq_true rfl | (rw [hp]; exact of_decide_eq_true rfl) | (show t.pl ∈ _; rw [hp]; exact of_decide_eq_true rfl) | (rcases hcl with q | q <;> rw [q] <;> exact of_decide_eq_true rfl)
  by_cases e12 : k = 12
  · subst e12
    show ((s.to 12).selfClose c).pl ∈ Ts.nexts 12
    have hcl := Ts.closed_pl (s.to 12)
    have hp : (s.to 12).pl = 12 := rfl
    generalize s.to 12 = t at *
    unfold Ts.selfClose
    repeat' split
    all_goals first | exact of_decide_eq_true rfl | (rw [hp]; exact of_decide_eq_true rfl) | (show t.pl ∈ _; rw [hp]; exact of_decide_eq_true rfl) | (rcases hcl with q | q <;> rw [q] <;> exact of_decide_eq_true rfl)
  by_cases e13 : k = 13
  · subst e13
    show ((s.to 13).bang c).pl ∈ Ts.nexts 13
    have hcl := Ts.closed_pl (s.to 13)
    have hp : (s.to 13).pl = 13 := rfl
    generalize s.to 13 = t at *
    unfold Ts.bang
    repeat' split
    all_goals first | exact of_decide_eq_true rfl | (rw [hp]; exact of_decide_eq_true rfl) | (show t.pl ∈ _; rw [hp]; exact of_decide_eq_true rfl) | (rcases hcl with q | q <;> rw [q] <;> exact of_decide_eq_true rfl)
  by_cases e14 : k = 14
  · subst e14
    show ((s.to 14).bangDash c).pl ∈ Ts.nexts 14
    have hcl := Ts.closed_pl (s.to 14)
    have hp : (s.to 14).pl = 14 := rfl
    generalize s.to 14 = t at *
    unfold Ts.bangDash
    repeat' split
    all_goals first | exact of_decide_eq_true rfl | (rw [hp]; exact of_decide_eq_true rfl) | (show t.pl ∈ _; rw [hp]; exact of_decide_eq_true rfl) | (rcases hcl with q | q <;> rw [q] <;> exact of_decide_eq_true rfl)
  by_cases e15 : k = 15
  · subst e15
    show ((s.to 15).comment c).pl ∈ Ts.nexts 15
    have hcl := Ts.closed_pl (s.to 15)
    have hp : (s.to 15).pl = 15 := rfl
    generalize s.to 15 = t at *
    unfold Ts.comment
    repeat' split
    all_goals first | exact of_decide_eq_true rfl | (rw [hp]; exact of_decide_eq_true rfl) | (show t.pl ∈ _; rw [hp]; exact of_decide_eq_true rfl) | (rcases hcl with q | q <;> rw [q] <;> exact of_decide_eq_true rfl)
  by_cases e16 : k = 16
  · subst e16
    show ((s.to 16).commentDash c).pl ∈ Ts.nexts 16
    have hcl := Ts.closed_pl (s.to 16)
    have hp : (s.to 16).pl = 16 := rfl
    generalize s.to 16 = t at *
    unfold Ts.commentDash
    repeat' split
    all_goals first | exact of_decide_eq_true rfl | (rw [hp]; exact of_decide_eq_true rfl) | (show t.pl ∈ _; rw [hp]; exact of_decide_eq_true rfl) | (rcases hcl with q | q <;> rw [q] <;> exact of_decide_eq_true rfl)
  by_cases e17 : k = 17
  · subst e17
    show ((s.to 17).commentEnd c).pl ∈ Ts.nexts 17
    have hcl := Ts.closed_pl (s.to 17)
    have hp : (s.to 17).pl = 17 := rfl
    generalize s.to 17 = t at *
    unfold Ts.commentEnd
    repeat' split
    all_goals first | exact of_decide_eq_true rfl | (rw [hp]; exact of_decide_eq_true rfl) | (show t.pl ∈ _; rw [hp]; exact of_decide_eq_true rfl) | (rcases hcl with q | q <;> rw [q] <;> exact of_decide_eq_true rfl)
  by_cases e18 : k = 18
  · subst e18
    show ((s.to 18).bogus c).pl ∈ Ts.nexts 18
    have hcl := Ts.closed_pl (s.to 18)
    have hp : (s.to 18).pl = 18 := rfl
    generalize s.to 18 = t at *
    unfold Ts.bogus
    repeat' split
    all_goals first | exact of_decide_eq_true rfl | (rw [hp]; exact of_decide_eq_true rfl) | (show t.pl ∈ _; rw [hp]; exact of_decide_eq_true rfl) | (rcases hcl with q | q <;> rw [q] <;> exact of_decide_eq_true rfl)
  by_cases e19 : k = 19
  · subst e19
    show ((s.to 19).heldS c).pl ∈ Ts.nexts 19
    have hcl := Ts.closed_pl (s.to 19)
    have hp : (s.to 19).pl = 19 := rfl
    generalize s.to 19 = t at *
    unfold Ts.heldS
    repeat' split
    all_goals first | exact of_decide_eq_true rfl | (rw [hp]; exact of_decide_eq_true rfl) | (show t.pl ∈ _; rw [hp]; exact of_decide_eq_true rfl) | (rcases hcl with q | q <;> rw [q] <;> exact of_decide_eq_true rfl)
  by_cases e20 : k = 20
  · subst e20
    show ((s.to 20).heldLt c).pl ∈ Ts.nexts 20
    have hcl := Ts.closed_pl (s.to 20)
    have hp : (s.to 20).pl = 20 := rfl
    generalize s.to 20 = t at *
    unfold Ts.heldLt
    repeat' split
    all_goals first | exact of_decide_eq_true rfl | (rw [hp]; exact of_decide_eq_true rfl) | (show t.pl ∈ _; rw [hp]; exact of_decide_eq_true rfl) | (rcases hcl with q | q <;> rw [q] <;> exact of_decide_eq_true rfl)
  by_cases e21 : k = 21
  · subst e21
    show ((s.to 21).heldSlash c).pl ∈ Ts.nexts 21
    have hcl := Ts.closed_pl (s.to 21)
    have hp : (s.to 21).pl = 21 := rfl
    generalize s.to 21 = t at *
    unfold Ts.heldSlash
    unfold Ts.heldOn
    repeat' split
    all_goals first | exact of_decide_eq_true rfl | (rw [hp]; exact of_decide_eq_true rfl) | (show t.pl ∈ _; rw [hp]; exact of_decide_eq_true rfl) | (rcases hcl with q | q <;> rw [q] <;> exact of_decide_eq_true rfl)
  by_cases e22 : k = 22
  · subst e22
    show ((s.to 22).heldName c).pl ∈ Ts.nexts 22
    have hcl := Ts.closed_pl (s.to 22)
    have hp : (s.to 22).pl = 22 := rfl
    generalize s.to 22 = t at *
    unfold Ts.heldName
    unfold Ts.heldOn
    repeat' split
    all_goals first | exact of_decide_eq_true rfl | (rw [hp]; exact of_decide_eq_true rfl) | (show t.pl ∈ _; rw [hp]; exact of_decide_eq_true rfl) | (rcases hcl with q | q <;> rw [q] <;> exact of_decide_eq_true rfl)
  omega
/-- no name is longer than it may be -/
def Ts.Small (s : Ts) : Prop := s.name.size ≤ 32 ∧ s.attr.size ≤ 32 ∧ s.held.size ≤ 32
theorem Ts.to_small {s : Ts} (h : s.Small) (a : Int) : (s.to a).Small := by
  have e : Ts.e.size ≤ 32 := by decide
  unfold Ts.to
  refine ⟨?_, ?_, ?_⟩
  · show (if _ then _ else _ : ByteArray).size ≤ _
    split
    · exact h.1
    · exact e
  · show (if _ then _ else _ : ByteArray).size ≤ _
    split
    · exact h.2.1
    · exact e
  · show (if _ then _ else _ : ByteArray).size ≤ _
    split
    · exact h.2.2
    · exact e
theorem Ts.low_small (c : UInt8) : (Ts.low c).size ≤ 32 := by show (1 : Nat) ≤ 32; decide
theorem Ts.grown_small (n : ByteArray) (c : UInt8) : (Ts.grown n c).size ≤ 32 := by
  unfold Ts.grown
  split
  · rw [ByteArray.size_extract]; omega
  · rw [ByteArray.size_append]; have : (Ts.low c).size = 1 := rfl; omega
theorem Ts.openTag_small {s : Ts} (h : s.Small) (c : UInt8) : (s.openTag c).Small := ⟨Ts.low_small c, (Ts.to_small h 3).2.1, (Ts.to_small h 3).2.2⟩
theorem Ts.openAttr_small {s : Ts} (h : s.Small) (c : UInt8) : (s.openAttr c).Small := ⟨(Ts.to_small h 5).1, Ts.low_small c, (Ts.to_small h 5).2.2⟩
theorem Ts.closed_small {s : Ts} (h : s.Small) : s.closed.Small := by
  unfold Ts.closed
  split
  · exact Ts.to_small h 0
  · exact Ts.to_small (s := ⟨s.pl, s.name, s.fin, s.attr, s.name, s.read⟩) ⟨h.1, h.2.1, h.1⟩ 19
theorem Ts.heldOn_small {s : Ts} (h : s.Small) (c : UInt8) : (s.heldOn c).Small := by
  unfold Ts.heldOn
  split
  · exact Ts.to_small h _
  · exact Ts.to_small h _
theorem Ts.heldEnd_small {s : Ts} (h : s.Small) (a : Int) : (s.heldEnd a).Small := Ts.to_small (s := ⟨s.pl, s.held, true, s.attr, s.held, s.read⟩) ⟨h.2.2, h.2.1, h.2.2⟩ a
theorem Ts.at_small {s : Ts} (h : s.Small) (c : UInt8) (k : Nat) : (s.at c k).Small := by
  unfold Ts.at
  split
  · unfold Ts.data
    repeat' split
    all_goals first | exact h | exact Ts.to_small h _ | exact Ts.closed_small h | exact Ts.openTag_small h c | exact Ts.openAttr_small h c | exact Ts.heldOn_small h c | exact Ts.heldEnd_small h _ | exact ⟨Ts.grown_small _ _, h.2.1, h.2.2⟩ | exact ⟨h.1, Ts.grown_small _ _, h.2.2⟩ | exact ⟨(Ts.openTag_small h c).1, (Ts.openTag_small h c).2.1, (Ts.openTag_small h c).2.2⟩ | exact ⟨(Ts.to_small h 22).1, (Ts.to_small h 22).2.1, (Ts.to_small h 22).2.2⟩ | exact ⟨h.1, h.2.1, h.2.2⟩
  · unfold Ts.tagOpen
    repeat' split
    all_goals first | exact h | exact Ts.to_small h _ | exact Ts.closed_small h | exact Ts.openTag_small h c | exact Ts.openAttr_small h c | exact Ts.heldOn_small h c | exact Ts.heldEnd_small h _ | exact ⟨Ts.grown_small _ _, h.2.1, h.2.2⟩ | exact ⟨h.1, Ts.grown_small _ _, h.2.2⟩ | exact ⟨(Ts.openTag_small h c).1, (Ts.openTag_small h c).2.1, (Ts.openTag_small h c).2.2⟩ | exact ⟨(Ts.to_small h 22).1, (Ts.to_small h 22).2.1, (Ts.to_small h 22).2.2⟩ | exact ⟨h.1, h.2.1, h.2.2⟩
  · unfold Ts.endOpen
    repeat' split
    all_goals first | exact h | exact Ts.to_small h _ | exact Ts.closed_small h | exact Ts.openTag_small h c | exact Ts.openAttr_small h c | exact Ts.heldOn_small h c | exact Ts.heldEnd_small h _ | exact ⟨Ts.grown_small _ _, h.2.1, h.2.2⟩ | exact ⟨h.1, Ts.grown_small _ _, h.2.2⟩ | exact ⟨(Ts.openTag_small h c).1, (Ts.openTag_small h c).2.1, (Ts.openTag_small h c).2.2⟩ | exact ⟨(Ts.to_small h 22).1, (Ts.to_small h 22).2.1, (Ts.to_small h 22).2.2⟩ | exact ⟨h.1, h.2.1, h.2.2⟩
  · unfold Ts.tagName
    repeat' split
    all_goals first | exact h | exact Ts.to_small h _ | exact Ts.closed_small h | exact Ts.openTag_small h c | exact Ts.openAttr_small h c | exact Ts.heldOn_small h c | exact Ts.heldEnd_small h _ | exact ⟨Ts.grown_small _ _, h.2.1, h.2.2⟩ | exact ⟨h.1, Ts.grown_small _ _, h.2.2⟩ | exact ⟨(Ts.openTag_small h c).1, (Ts.openTag_small h c).2.1, (Ts.openTag_small h c).2.2⟩ | exact ⟨(Ts.to_small h 22).1, (Ts.to_small h 22).2.1, (Ts.to_small h 22).2.2⟩ | exact ⟨h.1, h.2.1, h.2.2⟩
  · unfold Ts.beforeAttr
    repeat' split
    all_goals first | exact h | exact Ts.to_small h _ | exact Ts.closed_small h | exact Ts.openTag_small h c | exact Ts.openAttr_small h c | exact Ts.heldOn_small h c | exact Ts.heldEnd_small h _ | exact ⟨Ts.grown_small _ _, h.2.1, h.2.2⟩ | exact ⟨h.1, Ts.grown_small _ _, h.2.2⟩ | exact ⟨(Ts.openTag_small h c).1, (Ts.openTag_small h c).2.1, (Ts.openTag_small h c).2.2⟩ | exact ⟨(Ts.to_small h 22).1, (Ts.to_small h 22).2.1, (Ts.to_small h 22).2.2⟩ | exact ⟨h.1, h.2.1, h.2.2⟩
  · unfold Ts.attrName
    repeat' split
    all_goals first | exact h | exact Ts.to_small h _ | exact Ts.closed_small h | exact Ts.openTag_small h c | exact Ts.openAttr_small h c | exact Ts.heldOn_small h c | exact Ts.heldEnd_small h _ | exact ⟨Ts.grown_small _ _, h.2.1, h.2.2⟩ | exact ⟨h.1, Ts.grown_small _ _, h.2.2⟩ | exact ⟨(Ts.openTag_small h c).1, (Ts.openTag_small h c).2.1, (Ts.openTag_small h c).2.2⟩ | exact ⟨(Ts.to_small h 22).1, (Ts.to_small h 22).2.1, (Ts.to_small h 22).2.2⟩ | exact ⟨h.1, h.2.1, h.2.2⟩
  · unfold Ts.afterName
    repeat' split
    all_goals first | exact h | exact Ts.to_small h _ | exact Ts.closed_small h | exact Ts.openTag_small h c | exact Ts.openAttr_small h c | exact Ts.heldOn_small h c | exact Ts.heldEnd_small h _ | exact ⟨Ts.grown_small _ _, h.2.1, h.2.2⟩ | exact ⟨h.1, Ts.grown_small _ _, h.2.2⟩ | exact ⟨(Ts.openTag_small h c).1, (Ts.openTag_small h c).2.1, (Ts.openTag_small h c).2.2⟩ | exact ⟨(Ts.to_small h 22).1, (Ts.to_small h 22).2.1, (Ts.to_small h 22).2.2⟩ | exact ⟨h.1, h.2.1, h.2.2⟩
  · unfold Ts.beforeValue
    repeat' split
    all_goals first | exact h | exact Ts.to_small h _ | exact Ts.closed_small h | exact Ts.openTag_small h c | exact Ts.openAttr_small h c | exact Ts.heldOn_small h c | exact Ts.heldEnd_small h _ | exact ⟨Ts.grown_small _ _, h.2.1, h.2.2⟩ | exact ⟨h.1, Ts.grown_small _ _, h.2.2⟩ | exact ⟨(Ts.openTag_small h c).1, (Ts.openTag_small h c).2.1, (Ts.openTag_small h c).2.2⟩ | exact ⟨(Ts.to_small h 22).1, (Ts.to_small h 22).2.1, (Ts.to_small h 22).2.2⟩ | exact ⟨h.1, h.2.1, h.2.2⟩
  · unfold Ts.quoted
    repeat' split
    all_goals first | exact h | exact Ts.to_small h _ | exact Ts.closed_small h | exact Ts.openTag_small h c | exact Ts.openAttr_small h c | exact Ts.heldOn_small h c | exact Ts.heldEnd_small h _ | exact ⟨Ts.grown_small _ _, h.2.1, h.2.2⟩ | exact ⟨h.1, Ts.grown_small _ _, h.2.2⟩ | exact ⟨(Ts.openTag_small h c).1, (Ts.openTag_small h c).2.1, (Ts.openTag_small h c).2.2⟩ | exact ⟨(Ts.to_small h 22).1, (Ts.to_small h 22).2.1, (Ts.to_small h 22).2.2⟩ | exact ⟨h.1, h.2.1, h.2.2⟩
  · unfold Ts.quoted
    repeat' split
    all_goals first | exact h | exact Ts.to_small h _ | exact Ts.closed_small h | exact Ts.openTag_small h c | exact Ts.openAttr_small h c | exact Ts.heldOn_small h c | exact Ts.heldEnd_small h _ | exact ⟨Ts.grown_small _ _, h.2.1, h.2.2⟩ | exact ⟨h.1, Ts.grown_small _ _, h.2.2⟩ | exact ⟨(Ts.openTag_small h c).1, (Ts.openTag_small h c).2.1, (Ts.openTag_small h c).2.2⟩ | exact ⟨(Ts.to_small h 22).1, (Ts.to_small h 22).2.1, (Ts.to_small h 22).2.2⟩ | exact ⟨h.1, h.2.1, h.2.2⟩
  · unfold Ts.bare
    repeat' split
    all_goals first | exact h | exact Ts.to_small h _ | exact Ts.closed_small h | exact Ts.openTag_small h c | exact Ts.openAttr_small h c | exact Ts.heldOn_small h c | exact Ts.heldEnd_small h _ | exact ⟨Ts.grown_small _ _, h.2.1, h.2.2⟩ | exact ⟨h.1, Ts.grown_small _ _, h.2.2⟩ | exact ⟨(Ts.openTag_small h c).1, (Ts.openTag_small h c).2.1, (Ts.openTag_small h c).2.2⟩ | exact ⟨(Ts.to_small h 22).1, (Ts.to_small h 22).2.1, (Ts.to_small h 22).2.2⟩ | exact ⟨h.1, h.2.1, h.2.2⟩
  · unfold Ts.afterValue
    repeat' split
    all_goals first | exact h | exact Ts.to_small h _ | exact Ts.closed_small h | exact Ts.openTag_small h c | exact Ts.openAttr_small h c | exact Ts.heldOn_small h c | exact Ts.heldEnd_small h _ | exact ⟨Ts.grown_small _ _, h.2.1, h.2.2⟩ | exact ⟨h.1, Ts.grown_small _ _, h.2.2⟩ | exact ⟨(Ts.openTag_small h c).1, (Ts.openTag_small h c).2.1, (Ts.openTag_small h c).2.2⟩ | exact ⟨(Ts.to_small h 22).1, (Ts.to_small h 22).2.1, (Ts.to_small h 22).2.2⟩ | exact ⟨h.1, h.2.1, h.2.2⟩
  · unfold Ts.selfClose
    repeat' split
    all_goals first | exact h | exact Ts.to_small h _ | exact Ts.closed_small h | exact Ts.openTag_small h c | exact Ts.openAttr_small h c | exact Ts.heldOn_small h c | exact Ts.heldEnd_small h _ | exact ⟨Ts.grown_small _ _, h.2.1, h.2.2⟩ | exact ⟨h.1, Ts.grown_small _ _, h.2.2⟩ | exact ⟨(Ts.openTag_small h c).1, (Ts.openTag_small h c).2.1, (Ts.openTag_small h c).2.2⟩ | exact ⟨(Ts.to_small h 22).1, (Ts.to_small h 22).2.1, (Ts.to_small h 22).2.2⟩ | exact ⟨h.1, h.2.1, h.2.2⟩
  · unfold Ts.bang
    repeat' split
    all_goals first | exact h | exact Ts.to_small h _ | exact Ts.closed_small h | exact Ts.openTag_small h c | exact Ts.openAttr_small h c | exact Ts.heldOn_small h c | exact Ts.heldEnd_small h _ | exact ⟨Ts.grown_small _ _, h.2.1, h.2.2⟩ | exact ⟨h.1, Ts.grown_small _ _, h.2.2⟩ | exact ⟨(Ts.openTag_small h c).1, (Ts.openTag_small h c).2.1, (Ts.openTag_small h c).2.2⟩ | exact ⟨(Ts.to_small h 22).1, (Ts.to_small h 22).2.1, (Ts.to_small h 22).2.2⟩ | exact ⟨h.1, h.2.1, h.2.2⟩
  · unfold Ts.bangDash
    repeat' split
    all_goals first | exact h | exact Ts.to_small h _ | exact Ts.closed_small h | exact Ts.openTag_small h c | exact Ts.openAttr_small h c | exact Ts.heldOn_small h c | exact Ts.heldEnd_small h _ | exact ⟨Ts.grown_small _ _, h.2.1, h.2.2⟩ | exact ⟨h.1, Ts.grown_small _ _, h.2.2⟩ | exact ⟨(Ts.openTag_small h c).1, (Ts.openTag_small h c).2.1, (Ts.openTag_small h c).2.2⟩ | exact ⟨(Ts.to_small h 22).1, (Ts.to_small h 22).2.1, (Ts.to_small h 22).2.2⟩ | exact ⟨h.1, h.2.1, h.2.2⟩
  · unfold Ts.comment
    repeat' split
    all_goals first | exact h | exact Ts.to_small h _ | exact Ts.closed_small h | exact Ts.openTag_small h c | exact Ts.openAttr_small h c | exact Ts.heldOn_small h c | exact Ts.heldEnd_small h _ | exact ⟨Ts.grown_small _ _, h.2.1, h.2.2⟩ | exact ⟨h.1, Ts.grown_small _ _, h.2.2⟩ | exact ⟨(Ts.openTag_small h c).1, (Ts.openTag_small h c).2.1, (Ts.openTag_small h c).2.2⟩ | exact ⟨(Ts.to_small h 22).1, (Ts.to_small h 22).2.1, (Ts.to_small h 22).2.2⟩ | exact ⟨h.1, h.2.1, h.2.2⟩
  · unfold Ts.commentDash
    repeat' split
    all_goals first | exact h | exact Ts.to_small h _ | exact Ts.closed_small h | exact Ts.openTag_small h c | exact Ts.openAttr_small h c | exact Ts.heldOn_small h c | exact Ts.heldEnd_small h _ | exact ⟨Ts.grown_small _ _, h.2.1, h.2.2⟩ | exact ⟨h.1, Ts.grown_small _ _, h.2.2⟩ | exact ⟨(Ts.openTag_small h c).1, (Ts.openTag_small h c).2.1, (Ts.openTag_small h c).2.2⟩ | exact ⟨(Ts.to_small h 22).1, (Ts.to_small h 22).2.1, (Ts.to_small h 22).2.2⟩ | exact ⟨h.1, h.2.1, h.2.2⟩
  · unfold Ts.commentEnd
    repeat' split
    all_goals first | exact h | exact Ts.to_small h _ | exact Ts.closed_small h | exact Ts.openTag_small h c | exact Ts.openAttr_small h c | exact Ts.heldOn_small h c | exact Ts.heldEnd_small h _ | exact ⟨Ts.grown_small _ _, h.2.1, h.2.2⟩ | exact ⟨h.1, Ts.grown_small _ _, h.2.2⟩ | exact ⟨(Ts.openTag_small h c).1, (Ts.openTag_small h c).2.1, (Ts.openTag_small h c).2.2⟩ | exact ⟨(Ts.to_small h 22).1, (Ts.to_small h 22).2.1, (Ts.to_small h 22).2.2⟩ | exact ⟨h.1, h.2.1, h.2.2⟩
  · unfold Ts.bogus
    repeat' split
    all_goals first | exact h | exact Ts.to_small h _ | exact Ts.closed_small h | exact Ts.openTag_small h c | exact Ts.openAttr_small h c | exact Ts.heldOn_small h c | exact Ts.heldEnd_small h _ | exact ⟨Ts.grown_small _ _, h.2.1, h.2.2⟩ | exact ⟨h.1, Ts.grown_small _ _, h.2.2⟩ | exact ⟨(Ts.openTag_small h c).1, (Ts.openTag_small h c).2.1, (Ts.openTag_small h c).2.2⟩ | exact ⟨(Ts.to_small h 22).1, (Ts.to_small h 22).2.1, (Ts.to_small h 22).2.2⟩ | exact ⟨h.1, h.2.1, h.2.2⟩
  · unfold Ts.heldS
    repeat' split
    all_goals first | exact h | exact Ts.to_small h _ | exact Ts.closed_small h | exact Ts.openTag_small h c | exact Ts.openAttr_small h c | exact Ts.heldOn_small h c | exact Ts.heldEnd_small h _ | exact ⟨Ts.grown_small _ _, h.2.1, h.2.2⟩ | exact ⟨h.1, Ts.grown_small _ _, h.2.2⟩ | exact ⟨(Ts.openTag_small h c).1, (Ts.openTag_small h c).2.1, (Ts.openTag_small h c).2.2⟩ | exact ⟨(Ts.to_small h 22).1, (Ts.to_small h 22).2.1, (Ts.to_small h 22).2.2⟩ | exact ⟨h.1, h.2.1, h.2.2⟩
  · unfold Ts.heldLt
    repeat' split
    all_goals first | exact h | exact Ts.to_small h _ | exact Ts.closed_small h | exact Ts.openTag_small h c | exact Ts.openAttr_small h c | exact Ts.heldOn_small h c | exact Ts.heldEnd_small h _ | exact ⟨Ts.grown_small _ _, h.2.1, h.2.2⟩ | exact ⟨h.1, Ts.grown_small _ _, h.2.2⟩ | exact ⟨(Ts.openTag_small h c).1, (Ts.openTag_small h c).2.1, (Ts.openTag_small h c).2.2⟩ | exact ⟨(Ts.to_small h 22).1, (Ts.to_small h 22).2.1, (Ts.to_small h 22).2.2⟩ | exact ⟨h.1, h.2.1, h.2.2⟩
  · unfold Ts.heldSlash
    repeat' split
    all_goals first | exact h | exact Ts.to_small h _ | exact Ts.closed_small h | exact Ts.openTag_small h c | exact Ts.openAttr_small h c | exact Ts.heldOn_small h c | exact Ts.heldEnd_small h _ | exact ⟨Ts.grown_small _ _, h.2.1, h.2.2⟩ | exact ⟨h.1, Ts.grown_small _ _, h.2.2⟩ | exact ⟨(Ts.openTag_small h c).1, (Ts.openTag_small h c).2.1, (Ts.openTag_small h c).2.2⟩ | exact ⟨(Ts.to_small h 22).1, (Ts.to_small h 22).2.1, (Ts.to_small h 22).2.2⟩ | exact ⟨h.1, h.2.1, h.2.2⟩
  · unfold Ts.heldName
    repeat' split
    all_goals first | exact h | exact Ts.to_small h _ | exact Ts.closed_small h | exact Ts.openTag_small h c | exact Ts.openAttr_small h c | exact Ts.heldOn_small h c | exact Ts.heldEnd_small h _ | exact ⟨Ts.grown_small _ _, h.2.1, h.2.2⟩ | exact ⟨h.1, Ts.grown_small _ _, h.2.2⟩ | exact ⟨(Ts.openTag_small h c).1, (Ts.openTag_small h c).2.1, (Ts.openTag_small h c).2.2⟩ | exact ⟨(Ts.to_small h 22).1, (Ts.to_small h 22).2.1, (Ts.to_small h 22).2.2⟩ | exact ⟨h.1, h.2.1, h.2.2⟩
theorem Ts.step_small {s : Ts} (h : s.Small) (c : UInt8) : (s.step c).Small := by
  unfold Ts.step
  split
  · exact h
  · exact Ts.at_small (Ts.to_small h _) c _
end Go.Proofs.YtblpkjlodncpeaaGreatDoor
