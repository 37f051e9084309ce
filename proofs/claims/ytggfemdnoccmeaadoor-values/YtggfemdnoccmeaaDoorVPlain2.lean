/-
  PLAIN: a tree cut at a depth; how many values the reference counts; the reference's own comparison.
-/
import Derived.Test.YtggfemdnoccmeaaDoorVLeaf
namespace Go.Proofs.YtggfemdnoccmeaaDoor
open Go.RowKit

/-- a tree cut at a depth -/
def Vt.cut : Nat → Vt → Vt
  | _, .nil => .nil
  | 0, .mk k x b s _ _ m ks => .mk k x b s 0 (fun _ => .nil) m ks
  | d + 1, .mk k x b s n it m ks => .mk k x b s n (fun i => Vt.cut d (it i)) m ks
theorem Vt.cut_stand : ∀ (d : Nat) (t : Vt) (deep L : Int), 9 ≤ d + deep → (Vt.cut d t).stand deep L = t.stand deep L := by
  intro d
  induction d with
  | zero =>
    intro t deep L h
    cases t with
    | nil => rfl
    | mk k x b s n it m ks =>
      simp only [Vt.cut, Vt.stand]
      rw [if_pos (.inr (.inl (by omega))), if_pos (.inr (.inl (by omega)))]
  | succ d ih =>
    intro t deep L h
    cases t with
    | nil => rfl
    | mk k x b s n it m ks =>
      simp only [Vt.cut, Vt.stand]
      have : (fun i L => (Vt.cut d (it i)).stand (deep + 1) L) = fun i L => (it i).stand (deep + 1) L := by
        funext i L
        exact ih _ _ _ (by omega)
      rw [this]
theorem Vt.cut_may (t : Vt) : (Vt.cut 40 t).may = t.may := by
  unfold Vt.may
  rw [Vt.cut_stand 40 t 1 1024 (by decide)]
theorem Vt.cut_lies : ∀ (d : Nat) (t : Vt) (deep L : Int) (w : World) (R : Nat → Prop) (v : Value), 9 ≤ d + deep → (t.stand deep L).1 = true → (Vt.cut d t).Lies w R v → t.Lies w R v := by
  intro d
  induction d with
  | zero =>
    intro t deep L w R v h hs hl
    cases t with
    | nil => cases hs
    | mk k x b s n it m ks =>
      simp only [Vt.stand] at hs
      rw [if_pos (.inr (.inl (by omega)))] at hs
      cases hs
  | succ d ih =>
    intro t deep L w R v h hs hl
    cases t with
    | nil => cases hs
    | mk k x b s n it m ks =>
      simp only [Vt.stand] at hs
      split at hs
      · cases hs
      obtain ⟨ai, c, ak, d', rfl, hb, hn, hc, hk, hi⟩ := hl
      refine ⟨ai, c, ak, d', rfl, hb, hn, hc, hk, fun i hin => ?_⟩
      obtain ⟨bi, oi, v0, v1, v2, v3, v4, v5, e, r, c0, c1, c2, c3, c4, c5, hl⟩ := hi i hin
      exact ⟨bi, oi, v0, v1, v2, v3, v4, v5, e, r, c0, c1, c2, c3, c4, c5, ih (it i) _ _ w R _ (by omega) (Vt.run_yes hs hin).2 hl⟩
/-- what lies where a tree was copied, cut at 40: the tree itself, if it may be -/
def Vt.near (t : Vt) : Vt := if t.may then t else Vt.cut 40 t
theorem Vt.near_lies {t : Vt} {w : World} {R : Nat → Prop} {v : Value} (h : (Vt.cut 40 t).Lies w R v) : t.near.Lies w R v := by
  unfold Vt.near
  split
  · next hm => exact Vt.cut_lies 40 t 1 1024 w R v (by decide) hm h
  · exact h
theorem Vt.near_may (t : Vt) : t.near.may = t.may := by
  unfold Vt.near
  split
  · rfl
  · exact Vt.cut_may t
theorem Vt.near_of {t : Vt} (h : t.may = true) : t.near = t := by unfold Vt.near; rw [if_pos h]
theorem Vt.told_no {t : Vt} (h : t.may = false) : t.told = (⟨#[]⟩, 400) := by
  cases t with
  | nil => rfl
  | mk k x b s n it m ks => simp [Vt.told, h]
theorem Vt.truth_no {t : Vt} (h : t.may = false) : t.truth = false := by
  cases t with
  | nil => rfl
  | mk k x b s n it m ks => simp [Vt.truth, h]
theorem Vt.less_no {t u : Vt} (h : t.may = false ∨ u.may = false) : t.less u = (false, 400) := by
  cases t with
  | nil => rfl
  | mk k x b s n it m ks =>
    cases u with
    | nil => rfl
    | mk k' x' b' s' n' it' m' ks' => rw [Vt.less, if_pos h]
theorem Vt.same_no {t u : Vt} (h : t.may = false ∨ u.may = false) : t.same u = false := by
  unfold Vt.same
  rcases h with h | h <;> rw [h] <;> simp
theorem Vt.get_no {t : Vt} {L : Nat} {p : Nat → ByteArray} (h : t.may = false) : t.get L p = (Vt.zero, 400) := by
  unfold Vt.get
  rw [if_pos (.inr h)]
theorem Vt.near_told (t : Vt) : t.near.told = t.told := by
  cases h : t.may with
  | true => rw [Vt.near_of h]
  | false => rw [Vt.told_no h, Vt.told_no ((Vt.near_may t).trans h)]
theorem Vt.near_truth (t : Vt) : t.near.truth = t.truth := by
  cases h : t.may with
  | true => rw [Vt.near_of h]
  | false => rw [Vt.truth_no h, Vt.truth_no ((Vt.near_may t).trans h)]
theorem Vt.near_get (t : Vt) (L : Nat) (p : Nat → ByteArray) : t.near.get L p = t.get L p := by
  cases h : t.may with
  | true => rw [Vt.near_of h]
  | false => rw [Vt.get_no h, Vt.get_no ((Vt.near_may t).trans h)]
theorem Vt.near_less (t u : Vt) : t.near.less u.near = t.less u := by
  cases h : t.may with
  | true =>
    cases g : u.may with
    | true => rw [Vt.near_of h, Vt.near_of g]
    | false => rw [Vt.less_no (.inr g), Vt.less_no (.inr ((Vt.near_may u).trans g))]
  | false => rw [Vt.less_no (.inl h), Vt.less_no (.inl ((Vt.near_may t).trans h))]
theorem Vt.near_same (t u : Vt) : t.near.same u.near = t.same u := by
  cases h : t.may with
  | true =>
    cases g : u.may with
    | true => rw [Vt.near_of h, Vt.near_of g]
    | false => rw [Vt.same_no (.inr g), Vt.same_no (.inr ((Vt.near_may u).trans g))]
  | false => rw [Vt.same_no (.inl h), Vt.same_no (.inl ((Vt.near_may t).trans h))]
/-- there is a value at each place that counts -/
def Vt.sound : Vt → Prop
  | .nil => False
  | .mk _ _ _ _ n it _ _ => ∀ i, i < n → (it i).sound
theorem Vt.Lies.sound {w : World} {R : Nat → Prop} : ∀ {t : Vt} {v : Value}, t.Lies w R v → t.sound := by
  intro t
  induction t with
  | nil => intro v h; exact h.elim
  | mk k x b s n it m ks ih =>
    rintro v ⟨ai, c, ak, d, rfl, hb, hn, hc, hk, hi⟩ i hin
    obtain ⟨bi, oi, v0, v1, v2, v3, v4, v5, e, r, c0, c1, c2, c3, c4, c5, hl⟩ := hi i hin
    exact ih i hl
theorem Vt.eq_refl : ∀ {t : Vt}, t.sound → t.eq t = true := by
  intro t
  induction t with
  | nil => intro h; exact h.elim
  | mk k x b s n it m ks ih =>
    intro h
    have h1 : Vt.allTo (fun _ => true) m = true := Vt.allTo_iff.2 fun _ _ => rfl
    have h2 : Vt.allTo (fun i => (it i).eq (it i)) n = true := Vt.allTo_iff.2 fun i hi => ih i (h i hi)
    simp [Vt.eq, Vt.sameKeys, h1, h2]

/-- the reference's sum of the parts -/
def Vt.sum (f : Nat → Int) : Nat → Int
  | 0 => 1
  | i + 1 => if Vt.sum f i ≤ 1024 then Vt.sum f i + f i else Vt.sum f i
/-- the reference's count -/
def Vt.count : Vt → Int → Int
  | .nil, _ => 1025
  | .mk k x b s n it m ks, deep => if deep < 1 ∨ Vt.formed k x b s n m ks = false then 1025 else min (Vt.sum (fun i => (it i).count (deep - 1)) n) 1025
theorem Vt.sum_range {f : Nat → Int} (h : ∀ i, 1 ≤ f i ∧ f i ≤ 1025) : ∀ i, 1 ≤ Vt.sum f i ∧ Vt.sum f i ≤ 2049
  | 0 => by simp [Vt.sum]
  | i + 1 => by
    have := Vt.sum_range h i
    have := h i
    unfold Vt.sum
    split <;> omega
theorem Vt.count_range : ∀ (t : Vt) (deep : Int), 1 ≤ t.count deep ∧ t.count deep ≤ 1025 := by
  intro t
  induction t with
  | nil => intro deep; simp [Vt.count]
  | mk k x b s n it m ks ih =>
    intro deep
    have := Vt.sum_range (f := fun i => (it i).count (deep - 1)) (fun i => ih i _) n
    unfold Vt.count
    split <;> omega
theorem Vt.count_stand : ∀ (t : Vt) (deep L : Int), 0 ≤ L → L ≤ 1024 → (t.count deep ≤ L → t.stand (9 - deep) L = (true, L - t.count deep)) ∧ (L < t.count deep → (t.stand (9 - deep) L).1 = false) := by
  intro t
  induction t with
  | nil => intro deep L h0 h1; exact ⟨fun h => absurd h (by simp [Vt.count]; omega), fun _ => rfl⟩
  | mk k x b s n it m ks ih =>
    intro deep L h0 h1
    have hr := Vt.sum_range (f := fun i => (it i).count (deep - 1)) (fun i => Vt.count_range (it i) _)
    by_cases hc : deep < 1 ∨ Vt.formed k x b s n m ks = false
    · have e : (Vt.mk k x b s n it m ks).count deep = 1025 := by rw [Vt.count, if_pos hc]
      rw [e]
      refine ⟨fun h => absurd h (by omega), fun _ => ?_⟩
      unfold Vt.stand
      rw [if_pos (by rcases hc with hc | hc; exact .inr (.inl (by omega)); exact .inr (.inr hc))]
    · have e : (Vt.mk k x b s n it m ks).count deep = min (Vt.sum (fun i => (it i).count (deep - 1)) n) 1025 := by rw [Vt.count, if_neg hc]
      rw [e]
      by_cases hl : L - 1 < 0
      · have := hr n
        refine ⟨fun h => absurd h (by omega), fun _ => ?_⟩
        unfold Vt.stand
        rw [if_pos (.inl hl)]
      · have es : (Vt.mk k x b s n it m ks).stand (9 - deep) L = Vt.run (fun i L => (it i).stand (9 - deep + 1) L) n (L - 1) := by
          rw [Vt.stand, if_neg]
          rintro (h | h | h)
          · exact hl h
          · exact hc (.inl (by omega))
          · exact hc (.inr h)
        rw [es]
        have ed : 9 - deep + 1 = 9 - (deep - 1) := by omega
        rw [ed]
        have key : ∀ i, (Vt.sum (fun i => (it i).count (deep - 1)) i ≤ L → Vt.run (fun i L => (it i).stand (9 - (deep - 1)) L) i (L - 1) = (true, L - Vt.sum (fun i => (it i).count (deep - 1)) i)) ∧ (L < Vt.sum (fun i => (it i).count (deep - 1)) i → (Vt.run (fun i L => (it i).stand (9 - (deep - 1)) L) i (L - 1)).1 = false) := by
          intro i
          induction i with
          | zero => exact ⟨fun _ => rfl, fun h => absurd h (by simp only [Vt.sum]; omega)⟩
          | succ i ihi =>
            have r1 := hr i
            have r2 := Vt.count_range (it i) (deep - 1)
            generalize hS : Vt.sum (fun i => (it i).count (deep - 1)) i = S at *
            have hS' : Vt.sum (fun i => (it i).count (deep - 1)) (i + 1) = if S ≤ 1024 then S + (it i).count (deep - 1) else S := by rw [Vt.sum, hS]
            rw [hS']
            by_cases hs : S ≤ L
            · have hrun := ihi.1 hs
              rw [if_pos (by omega), Vt.run, hrun, if_pos rfl]
              have hi := ih i (deep - 1) (L - S) (by omega) (by omega)
              refine ⟨fun h => ?_, fun h => hi.2 (by omega)⟩
              rw [hi.1 (by omega), Int.sub_sub]
            · have hrun := ihi.2 (by omega)
              refine ⟨fun h => absurd h (by split <;> omega), fun _ => ?_⟩
              rw [Vt.run, hrun]
              simp [hrun]
        have hk := key n
        have := hr n
        refine ⟨fun h => ?_, fun h => hk.2 (by omega)⟩
        rw [hk.1 (by omega)]
        congr 1
        omega
theorem Vt.may_count (t : Vt) : t.may = decide (t.count 8 ≤ 1024) := by
  have h := Vt.count_stand t 8 1024 (by decide) (by decide)
  unfold Vt.may
  by_cases hc : t.count 8 ≤ 1024
  · rw [show (1 : Int) = 9 - 8 by rfl, h.1 hc, decide_eq_true hc]
  · rw [show (1 : Int) = 9 - 8 by rfl, h.2 (by omega), decide_eq_false hc]

/-- two reals as the reference compares them -/
def Re.like (a b : Nat) : Bool := Re.num a && (decide (a = b) || (decide (Re.kind a = 2) && decide (Re.kind b = 2)))
/-- two values as the reference compares them -/
def Vt.rsame : Vt → Vt → Bool
  | .nil, _ => false
  | .mk .., .nil => false
  | .mk k x b s n it m ks, .mk k' x' b' s' n' it' m' ks' =>
    if k = k' ∧ x = x' ∧ s.toList = s'.toList ∧ n = n' ∧ m = m' then (if k = 3 then Re.like b b' else Vt.allTo (fun i => (it i).rsame (it' i) && (decide (m ≤ i) || (ks i).toList == (ks' i).toList)) n) else false
theorem Re.kind2 {a : Nat} : Re.kind a = 2 ↔ Re.ef a = 0 ∧ Re.fr a = 0 := by
  unfold Re.kind Re.mag
  repeat' split
  all_goals first | omega | simp_all
theorem Re.like_rank (a b : Nat) (ha : a < 18446744073709551616) (hb : b < 18446744073709551616) : Re.like a b = (Re.num a && decide (Re.rank a = Re.rank b)) := by
  unfold Re.like
  congr 1
  rw [Bool.eq_iff_iff]
  simp only [Bool.or_eq_true, Bool.and_eq_true, decide_eq_true_eq, Re.kind2]
  unfold Re.ef Re.fr Re.rank
  constructor
  · rintro (h | h)
    · rw [h]
    · split <;> split <;> omega
  · intro h
    split at h <;> split at h <;> omega
theorem Vt.rsame_alike {w : World} {R R' : Nat → Prop} : ∀ (t u : Vt) (v v' : Value), t.Lies w R v → u.Lies w R' v' → t.fit → u.fit → t.rsame u = t.alike u := by
  intro t
  induction t with
  | nil => intro u v v' h; exact h.elim
  | mk k x b s n it m ks ih =>
    intro u v v' h h' hf hf'
    cases u with
    | nil => exact h'.elim
    | mk k' x' b' s' n' it' m' ks' =>
      obtain ⟨ai, c, ak, d, rfl, hb, hn, hc, hk, hi⟩ := h
      obtain ⟨ai', c', ak', d', rfl, hb', hn', hc', hk', hi'⟩ := h'
      obtain ⟨f1, f2⟩ := hf
      obtain ⟨g1, g2⟩ := hf'
      unfold Vt.rsame Vt.alike
      by_cases ek : k = k'
      · subst ek
        rw [if_neg (show ¬ k ≠ k by simp)]
        by_cases k3 : k = 3
        · subst k3
          rw [if_pos rfl, if_pos rfl, Re.like_rank b b' hb hb']
          simp [Vt.formed] at f1 g1
          rw [if_pos ⟨rfl, f1.1.1.1.trans g1.1.1.1.symm, f1.1.1.2.trans g1.1.1.2.symm, f1.1.2.trans g1.1.2.symm, f1.2.trans g1.2.symm⟩]
        · rw [if_neg k3, if_neg k3]
          have hm : (k = 6 → m = n ∧ m' = n') ∧ (k ≠ 6 → m = 0 ∧ m' = 0) := by
            constructor
            · intro e
              subst e
              exact ⟨(Vt.formed6 f1).2.1, (Vt.formed6 g1).2.1⟩
            · intro e
              unfold Vt.formed at f1 g1
              constructor
              · repeat' split at f1
                all_goals simp_all
              · repeat' split at g1
                all_goals simp_all
          by_cases hc1 : x = x' ∧ s.toList = s'.toList ∧ n = n' ∧ m = m'
          · obtain ⟨rfl, es, rfl, rfl⟩ := hc1
            rw [if_pos ⟨rfl, rfl, es, rfl, rfl⟩, Bool.eq_iff_iff]
            have e1 : (s.toList == s'.toList) = true := by rw [es]; simp
            simp only [Vt.sameKeys, e1, decide_true, Bool.true_and, Bool.and_true, Bool.and_eq_true, Vt.allTo_iff, Bool.or_eq_true, decide_eq_true_eq]
            constructor
            · intro h
              refine ⟨fun j hj => ?_, fun i hin => ?_⟩
              · have hjn : j < n := by
                  by_cases e6 : k = 6
                  · have := (hm.1 e6).1; omega
                  · have := (hm.2 e6).1; omega
                rcases (h j hjn).2 with h | h
                · omega
                · exact h
              · obtain ⟨bi, oi, v0, v1, v2, v3, v4, v5, e, r, c0, c1, c2, c3, c4, c5, hl⟩ := hi i hin
                obtain ⟨bi', oi', u0, u1, u2, u3, u4, u5, e', r', d0, d1, d2, d3, d4, d5, hl'⟩ := hi' i hin
                rw [← ih i (it' i) _ _ hl hl' (f2 i hin) (g2 i hin)]
                exact (h i hin).1
            · rintro ⟨h1, h2⟩ i hin
              obtain ⟨bi, oi, v0, v1, v2, v3, v4, v5, e, r, c0, c1, c2, c3, c4, c5, hl⟩ := hi i hin
              obtain ⟨bi', oi', u0, u1, u2, u3, u4, u5, e', r', d0, d1, d2, d3, d4, d5, hl'⟩ := hi' i hin
              rw [ih i (it' i) _ _ hl hl' (f2 i hin) (g2 i hin)]
              refine ⟨h2 i hin, ?_⟩
              by_cases hj : i < m
              · exact .inr (h1 i hj)
              · exact .inl (by omega)
          · rw [if_neg (fun h => hc1 h.2)]
            cases hA : (decide (x = x') && (s.toList == s'.toList) && Vt.sameKeys m m' ks ks' && (decide (n = n') && Vt.allTo (fun i => (it i).alike (it' i)) n)) with
            | false => rfl
            | true =>
              simp only [Vt.sameKeys, Bool.and_eq_true, decide_eq_true_eq, beq_iff_eq] at hA
              exact absurd ⟨hA.1.1.1, hA.1.1.2, hA.2.1, hA.1.2.1⟩ hc1
      · rw [if_neg (fun h => ek h.1), if_pos ek]
theorem Vt.rsame_same {w : World} {R R' : Nat → Prop} (t u : Vt) (v v' : Value) (h : t.Lies w R v) (h' : u.Lies w R' v') : (t.may && u.may && t.rsame u) = t.same u := by
  unfold Vt.same
  cases a : t.may with
  | false => simp
  | true =>
    cases b : u.may with
    | false => simp
    | true => rw [Vt.rsame_alike t u v v' h h' (Vt.fit_of t 1 1024 a) (Vt.fit_of u 1 1024 b)]
end Go.Proofs.YtggfemdnoccmeaaDoor
