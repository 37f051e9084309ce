/-
  THE WALK of the landed argument, at any word.
-/
import Derived.Test.YtjmobhohfcieoaaKArg2
namespace Go.Proofs.Ytjmobhohfcieoaa
open Go.RowKit
/-- the path of an argument: the word's own, or none -/
def Ka.pv (x : Wi) (pv : Value) : Value := if x.kind = 1 ∨ x.kind = 2 then pv else .slice none 0 0
theorem Ka.const_zero (t : List UInt8) : (Ka.const t).1.path = [] ∧ (Ka.const t).1.name = [] ∧ (Ka.const t).1.text = [] := by
  unfold Ka.const Ka.zero
  repeat' split
  all_goals exact ⟨rfl, rfl, rfl⟩
theorem Ka.path {w : World} {R : Nat → Prop} {x : Wi} {pv : Value} (h : St.Lies w R x.path pv) : St.Lies w R (Ka.arg x).1.path (Ka.pv x pv) := by
  have hnil : St.Lies w R [] (.slice none 0 0) := St.Lies.nil _ _
  unfold Ka.arg Ka.pv
  by_cases k0 : x.kind = 0
  · rw [if_pos k0, if_neg (show ¬ (x.kind = 1 ∨ x.kind = 2) by omega)]
    show St.Lies w R (Ka.const x.text).1.path _
    rw [(Ka.const_zero _).1]
    exact hnil
  rw [if_neg k0]
  by_cases k1 : x.kind = 1
  · rw [if_pos k1, if_pos (.inl k1)]; exact h
  rw [if_neg k1]
  by_cases k2 : x.kind = 2
  · rw [if_pos k2, if_pos (.inr k2)]; exact h
  rw [if_neg k2, if_neg (show ¬ (x.kind = 1 ∨ x.kind = 2) by omega)]
  by_cases k3 : x.kind = 3
  · rw [if_pos k3]; exact hnil
  rw [if_neg k3]
  by_cases k4 : x.kind = 4
  · rw [if_pos k4]; exact hnil
  · rw [if_neg k4]; exact hnil
/-- an argument as a value -/
def Ka.five (x : Ar) (pv : Value) : Value := .agg #[.int .i64 x.kind, .string ⟨x.name.toArray⟩, pv, .int .i64 x.num, .string ⟨x.text.toArray⟩]
set_option maxHeartbeats 2000000 in
theorem Ka.argument (x : Wi) (a : Option Addr) (d : Nat) (w : World) :
    Calls Try.prog 36 #[.agg #[.int .i64 x.kind, .string ⟨x.text.toArray⟩, .slice a x.path.length d, .int .i64 x.num]] w fun e w' => e = .returned (.tuple #[Ka.five (Ka.arg x).1 (Ka.pv x (.slice a x.path.length d)), .bool (Ka.arg x).2]) ∧ Below w.heap.size w w' := by
  obtain ⟨k, tl, p, m⟩ := x
  simp only
  have tx1 : ∀ b, tl.isEmpty = b → (⟨tl.toArray⟩ : ByteArray).toList.isEmpty = b ∧ ((⟨tl.toArray⟩ : ByteArray).toList == []) = b := fun b h => ⟨(Pi.isEmpty_list _).trans h, (Pi.beq_nil _).trans h⟩
  have m1 : (m == 0) = decide (m = 0) := by by_cases q : m = 0 <;> simp [q]
  have p1 := Pi.len0 p
  have ho := fun k u => Ka.hasOnly k k ⟨tl.toArray⟩ p m a d u
  have kc := fun u => Ka.constant ⟨tl.toArray⟩ u
  have efn : (⟨tl.toArray⟩ : ByteArray).data.toList = tl := rfl
  rw [efn] at kc
  simp only at ho
  unfold Ka.arg Ka.pv Ka.five
  simp only
  by_cases k0 : k = 0
  · subst k0
    simp only [if_pos, Int.reduceEq, or_self, if_false]
    have hp := Ka.const_zero tl
    have ho := ho 0
    generalize Ka.only ⟨0, tl, p, m⟩ 0 = B at *
    generalize Ka.const tl = C at *
    obtain ⟨⟨xk, xn, xp, xm, xt⟩, ok⟩ := C
    obtain ⟨rfl, _, _⟩ := hp
    cases ok with
    | false => exact (Ka.arg0a _ p m a d w xk xm _ _ kc).mono fun e w' h => h
    | true => exact (Ka.arg0b _ p m a d w xk xm _ _ B kc ho).mono fun e w' h => h
  rw [if_neg k0]
  by_cases k1 : k = 1
  · subst k1
    simp only [if_pos, true_or]
    cases ht : tl.isEmpty with
    | false =>
      obtain ⟨t1, t2⟩ := tx1 _ ht
      exact (Ka.arg1a _ p m a d w t1 t2).mono fun e w' h => h
    | true =>
      obtain ⟨t1, t2⟩ := tx1 _ ht
      exact (Ka.arg1b _ p m a d w _ t1 t2 m1).mono fun e w' h => h
  rw [if_neg k1]
  by_cases k2 : k = 2
  · subst k2
    simp only [if_pos, or_true]
    exact (Ka.arg2 _ p m a d w _ m1).mono fun e w' h => h
  rw [if_neg k2, if_neg (show ¬ (k = 1 ∨ k = 2) by omega)]
  by_cases k3 : k = 3
  · subst k3
    simp only [if_pos]
    cases ht : tl.isEmpty with
    | false =>
      obtain ⟨t1, t2⟩ := tx1 _ ht
      exact (Ka.arg3a _ p m a d w t1 t2).mono fun e w' h => h
    | true =>
      obtain ⟨t1, t2⟩ := tx1 _ ht
      exact (Ka.arg3b _ p m a d w _ t1 t2 p1).mono fun e w' h => h
  rw [if_neg k3]
  by_cases k4 : k = 4
  · subst k4
    simp only [if_pos]
    exact (Ka.arg4 _ p m a d w _ (ho 4)).mono fun e w' h => h
  rw [if_neg k4]
  exact (Ka.argO k _ p m a d w (beq_eq_false_iff_ne.2 k0) (beq_eq_false_iff_ne.2 k1) (beq_eq_false_iff_ne.2 k2) (beq_eq_false_iff_ne.2 k3) (beq_eq_false_iff_ne.2 k4)).mono fun e w' h => h
end Go.Proofs.Ytjmobhohfcieoaa
