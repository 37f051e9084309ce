/-
  THE WALK of the reference's arg, at any word.
-/
import Derived.Test.YtjmobhohfcieoaaIArg
import Derived.Test.YtjmobhohfcieoaaGData
namespace Go.Proofs.Ytjmobhohfcieoaa
open Go.RowKit
def Ar.five (x : Ar) (pv : Value) : List Value := [.int .i64 x.kind, .string ⟨x.name.toArray⟩, pv, .int .i64 x.num, .string ⟨x.text.toArray⟩]
/-- what arg answers -/
structure Pr.AOut (w w' : World) (R : Nat → Prop) (x : Ar × Bool) (e : Ending) (pv : Value) : Prop where
  ret : e = .returned (.tuple #[.agg #[.int .i64 x.1.kind, .string ⟨x.1.name.toArray⟩, pv, .int .i64 x.1.num, .string ⟨x.1.text.toArray⟩], .bool x.2])
  path : St.Lies w R x.1.path pv
  low : Below w.heap.size w w'
theorem Pi.beq_list (s : ByteArray) (l : List UInt8) : (s.toList == l) = decide (s.data.toList = l) := by
  rw [ByteArray.toList_eq]
  by_cases h : s.data.toList = l
  · rw [decide_eq_true h]; simpa using h
  · rw [decide_eq_false h]; simpa using h
set_option maxHeartbeats 2000000 in
theorem Pr.arg (x : Wi) (pv : Value) (R : Nat → Prop) (w : World) (hx : St.Lies w R x.path pv) (hz : ∀ t ∈ x.path, t.length ≤ 4611686018427387904) (hzt : x.text.length ≤ 4611686018427387904) :
    Calls Try.prog 32 #[.agg #[.int .i64 x.kind, .string ⟨x.text.toArray⟩, pv, .int .i64 x.num]] w fun e w' => ∃ pv', Pr.AOut w w' R (Pi.arg x) e pv' := by
  obtain ⟨k, tl, p, m⟩ := x
  simp only at hx hz hzt ⊢
  obtain ⟨a, d, rfl, hd, hml, hxx⟩ := hx
  have hx : St.Lies w R p (.slice a p.length d) := ⟨a, d, rfl, hd, hml, hxx⟩
  have hnil : St.Lies w R [] (.slice none 0 0) := St.Lies.nil _ _
  have pm : ∀ u, Below w.heap.size w u → Calls Try.prog 33 #[.slice a p.length d] u fun e w' => e = .returned (.bool (Pi.path p)) ∧ w' = u := fun u hb => Pr.path p _ _ u (hx.later hb) hz
  have nm : ∀ u, Calls Try.prog 34 #[.string ⟨tl.toArray⟩] u fun e w' => e = .returned (.bool (Pi.name tl)) ∧ w' = u := fun u => Pr.name ⟨tl.toArray⟩ u (by show tl.toArray.size ≤ _; rw [List.size_toArray]; exact hzt)
  have tx1 : ∀ b, tl.isEmpty = b → (⟨tl.toArray⟩ : ByteArray).toList.isEmpty = b ∧ ((⟨tl.toArray⟩ : ByteArray).toList == []) = b := fun b h => ⟨(Pi.isEmpty_list _).trans h, (Pi.beq_nil _).trans h⟩
  have m1 : ∀ b, decide (m = 0) = b → (m == 0) = b ∧ (m != 0) = !b := fun b h => by
    by_cases hm : m = 0
    · rw [decide_eq_true hm] at h; subst h hm; exact ⟨rfl, rfl⟩
    · rw [decide_eq_false hm] at h; subst h; exact ⟨beq_eq_false_iff_ne.2 hm, by rw [bne, beq_eq_false_iff_ne.2 hm]⟩
  have p1 : ∀ b, p.isEmpty = b → ((p.length : Int) == 0) = b ∧ ((p.length : Int) != 0) = !b := fun b h => by
    have e := Pi.len0 p
    rw [h] at e
    exact ⟨e, by rw [bne, e]⟩
  have eq1 := fun l => Pi.beq_list ⟨tl.toArray⟩ l
  have hts : ((⟨tl.toArray⟩ : ByteArray).size : Int) = (tl.length : Int) := by show (tl.toArray.size : Int) = _; rw [List.size_toArray]
  clear hxx hd hml
  unfold Pi.arg
  simp only
  by_cases k1 : k = 1
  · subst k1
    rw [if_pos rfl]
    cases ht : tl.isEmpty with
    | false =>
      obtain ⟨t1, t2⟩ := tx1 _ ht
      exact (Pr.arg1a _ p m a d w t1 t2).mono fun e w' h => ⟨_, h.1, hx, h.2⟩
    | true =>
      obtain ⟨t1, t2⟩ := tx1 _ ht
      cases hm : decide (m = 0) with
      | false =>
        obtain ⟨q1, q2⟩ := m1 _ hm
        exact (Pr.arg1b _ p m a d w t1 t2 q1 q2).mono fun e w' h => ⟨_, h.1, hx, h.2⟩
      | true =>
        obtain ⟨q1, q2⟩ := m1 _ hm
        exact (Pr.arg1c _ p m a d w _ t1 t2 q1 q2 pm).mono fun e w' h => ⟨_, h.1, hx, h.2⟩
  rw [if_neg k1]
  by_cases k2 : k = 2
  · subst k2
    rw [if_pos rfl]
    cases hm : decide (m = 0) with
    | false =>
      obtain ⟨q1, q2⟩ := m1 _ hm
      exact (Pr.arg2a _ p m a d w q1 q2).mono fun e w' h => ⟨_, h.1, hx, h.2⟩
    | true =>
      obtain ⟨q1, q2⟩ := m1 _ hm
      cases hn : Pi.name tl with
      | false =>
        rw [hn] at nm
        exact (Pr.arg2b _ p m a d w q1 q2 nm).mono fun e w' h => ⟨_, h.1, hx, h.2⟩
      | true =>
        rw [hn] at nm
        exact (Pr.arg2c _ p m a d w _ q1 q2 nm pm).mono fun e w' h => ⟨_, h.1, hx, h.2⟩
  rw [if_neg k2]
  by_cases k3 : k = 3
  · subst k3
    rw [if_pos rfl]
    cases ht : tl.isEmpty with
    | false =>
      obtain ⟨t1, t2⟩ := tx1 _ ht
      exact (Pr.arg3a _ p m a d w t1 t2).mono fun e w' h => ⟨_, h.1, hnil, h.2⟩
    | true =>
      obtain ⟨t1, t2⟩ := tx1 _ ht
      cases hp : p.isEmpty with
      | false =>
        obtain ⟨q1, q2⟩ := p1 _ hp
        exact (Pr.arg3b _ p m a d w t1 t2 q1 q2).mono fun e w' h => ⟨_, h.1, hnil, h.2⟩
      | true =>
        obtain ⟨q1, q2⟩ := p1 _ hp
        unfold Pi.small
        cases hs : decide ((-9007199254740991 : Int) ≤ m) with
        | false => exact (Pr.arg3c _ p m a d w t1 t2 q1 q2 hs).mono fun e w' h => ⟨_, h.1, hnil, h.2⟩
        | true => exact (Pr.arg3d _ p m a d w _ t1 t2 q1 q2 hs rfl).mono fun e w' h => ⟨_, h.1, hnil, h.2⟩
  rw [if_neg k3]
  by_cases k4 : k = 4
  · subst k4
    rw [if_pos rfl]
    cases hm : decide (m = 0) with
    | false =>
      obtain ⟨q1, q2⟩ := m1 _ hm
      exact (Pr.arg4a _ p m a d w q1 q2).mono fun e w' h => ⟨_, h.1, hnil, h.2⟩
    | true =>
      obtain ⟨q1, q2⟩ := m1 _ hm
      cases hp : p.isEmpty with
      | false =>
        obtain ⟨r1, r2⟩ := p1 _ hp
        exact (Pr.arg4b _ p m a d w q1 q2 r1 r2).mono fun e w' h => ⟨_, h.1, hnil, h.2⟩
      | true =>
        obtain ⟨r1, r2⟩ := p1 _ hp
        exact (Pr.arg4c _ p m a d w (decide (tl.length ≤ 65536)) q1 q2 r1 r2 (by rw [hts]; simp; omega)).mono fun e w' h => ⟨_, h.1, hnil, h.2⟩
  rw [if_neg k4]
  by_cases k0 : k = 0
  · subst k0
    cases hm : decide (m = 0) with
    | false =>
      obtain ⟨q1, q2⟩ := m1 _ hm
      rw [if_pos (.inr (.inl (of_decide_eq_false hm)))]
      exact (Pr.argOb _ p m a d w q1 q2).mono fun e w' h => ⟨_, h.1, hnil, h.2⟩
    | true =>
      obtain ⟨q1, q2⟩ := m1 _ hm
      have hm0 := of_decide_eq_true hm
      cases hp : p.isEmpty with
      | false =>
        obtain ⟨r1, r2⟩ := p1 _ hp
        rw [if_pos (.inr (.inr (fun e => by rw [e] at hp; cases hp)))]
        exact (Pr.argOc _ p m a d w q1 q2 r1 r2).mono fun e w' h => ⟨_, h.1, hnil, h.2⟩
      | true =>
        obtain ⟨r1, r2⟩ := p1 _ hp
        rw [if_neg (fun q => q.elim (fun q => q rfl) fun q => q.elim (fun q => q hm0) fun q => q (List.isEmpty_iff.1 hp))]
        by_cases e1 : tl = [116, 114, 117, 101]
        · rw [if_pos e1]
          exact (Pr.argOd _ p m a d w q1 q2 r1 r2 ((eq1 _).trans (decide_eq_true e1))).mono fun e w' h => ⟨_, h.1, hnil, h.2⟩
        · rw [if_neg e1]
          by_cases e2 : tl = [102, 97, 108, 115, 101]
          · rw [if_pos e2]
            exact (Pr.argOe _ p m a d w q1 q2 r1 r2 ((eq1 _).trans (decide_eq_false e1)) ((eq1 _).trans (decide_eq_true e2))).mono fun e w' h => ⟨_, h.1, hnil, h.2⟩
          · rw [if_neg e2]
            exact (Pr.argOf _ p m a d w _ q1 q2 r1 r2 ((eq1 _).trans (decide_eq_false e1)) ((eq1 _).trans (decide_eq_false e2)) (eq1 _)).mono fun e w' h => ⟨_, h.1, hnil, h.2⟩
  · rw [if_pos (.inl k0)]
    exact (Pr.argOa k _ p m a d w (beq_eq_false_iff_ne.2 k1) (beq_eq_false_iff_ne.2 k2) (beq_eq_false_iff_ne.2 k3) (beq_eq_false_iff_ne.2 k4) (beq_eq_false_iff_ne.2 k0) (by rw [bne, beq_eq_false_iff_ne.2 k0]; rfl)).mono fun e w' h => ⟨_, h.1, hnil, h.2⟩
end Go.Proofs.Ytjmobhohfcieoaa
