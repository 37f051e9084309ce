/-
  THE WALKS of stoleref1.Scheme and UrlStart.
-/
import Derived.Test.YtfjhbhddfpkebaaDoorQPct
import Derived.Test.YtfjhbhddfpkebaaDoorRefLow
namespace Go.Proofs.YtfjhbhddfpkebaaDoor
open Go.RowKit
theorem Qs.ne_true {c d : UInt8} (h : ¬ c = d) : ((c.toNat : Int) != (d.toNat : Int)) = true := by
  rw [bne_iff_ne]
  intro q
  exact h (UInt8.toNat_inj.1 (by omega))
theorem Qs.ne_false {c d : UInt8} (h : c = d) : ((c.toNat : Int) != (d.toNat : Int)) = false := by rw [h]; simp
theorem Qs.eq_true {c d : UInt8} (h : c = d) : ((c.toNat : Int) == (d.toNat : Int)) = true := by rw [h]; simp
theorem Qs.eq_false {c d : UInt8} (h : ¬ c = d) : ((c.toNat : Int) == (d.toNat : Int)) = false := by
  rw [beq_eq_false_iff_ne]
  intro q
  exact h (UInt8.toNat_inj.1 (by omega))
/-- what is dropped ahead -/
theorem Qs.drop_step {l : List UInt8} {i : Nat} {c : UInt8} (h : l[i]? = some c) (hc : c.toNat ≤ 32) : (l.drop i).dropWhile (fun c => decide (c.toNat ≤ 32)) = (l.drop (i + 1)).dropWhile (fun c => decide (c.toNat ≤ 32)) := by
  have hl := (List.getElem?_eq_some_iff.1 h).1
  have e := (List.getElem?_eq_some_iff.1 h).2
  rw [List.drop_eq_getElem_cons hl, e, List.dropWhile_cons, if_pos (by simpa using hc)]
theorem Qs.drop_stop {l : List UInt8} {i : Nat} {c : UInt8} (h : l[i]? = some c) (hc : ¬ c.toNat ≤ 32) : (l.drop i).dropWhile (fun c => decide (c.toNat ≤ 32)) = l.drop i := by
  have hl := (List.getElem?_eq_some_iff.1 h).1
  have e := (List.getElem?_eq_some_iff.1 h).2
  rw [List.drop_eq_getElem_cons hl, e, List.dropWhile_cons, if_neg (by simpa using hc)]
/-- the row of what is left, up to a place -/
def Qs.row (l : List UInt8) (k i : Nat) : List UInt8 := ((l.take i).drop k).filter fun c => !Ug.gap c
theorem Qs.row_zero (l : List UInt8) (k : Nat) : Qs.row l k k = [] := by
  unfold Qs.row
  rw [List.drop_of_length_le (by rw [List.length_take]; omega)]
  rfl
theorem Qs.row_step {l : List UInt8} {k i : Nat} {c : UInt8} (hk : k ≤ i) (h : l[i]? = some c) : Qs.row l k (i + 1) = Qs.row l k i ++ (if Ug.gap c = true then [] else [c]) := by
  have hl := (List.getElem?_eq_some_iff.1 h).1
  have e := (List.getElem?_eq_some_iff.1 h).2
  unfold Qs.row
  rw [List.take_succ_eq_append_getElem hl, e, List.drop_append_of_le_length (by rw [List.length_take]; omega), List.filter_append]
  congr 1
  by_cases hg : Ug.gap c = true
  · simp [hg]
  · simp [hg]
theorem Qs.row_all (l : List UInt8) (k : Nat) : Qs.row l k l.length = (l.drop k).filter fun c => !Ug.gap c := by
  unfold Qs.row
  rw [List.take_length]
theorem Qs.row_len (l : List UInt8) (k i : Nat) : (Qs.row l k i).length ≤ l.length := by
  unfold Qs.row
  refine Nat.le_trans (List.length_filter_le _ _) ?_
  rw [List.length_drop, List.length_take]
  omega
/-- does the loop over the signs go on? -/
def Qs.on (t : List UInt8) (k : Nat) : Bool := match t[k]? with | none => false | some c => Pl.letter c || (decide (0 < k) && (Pl.digit c || decide (c = 43) || decide (c = 45) || decide (c = 46)))
theorem Qs.takeWhile_at {p : UInt8 → Bool} : ∀ (t : List UInt8) (k : Nat), k ≤ t.length → (∀ j c, j < k → t[j]? = some c → p c = true) → (∀ c, t[k]? = some c → p c = false) → t.takeWhile p = t.take k
  | [], k, hk, _, _ => by simp
  | c :: t, 0, _, _, h => by
    rw [List.takeWhile_cons, if_neg]
    · rfl
    · rw [h c rfl]
      exact Bool.false_ne_true
  | c :: t, k + 1, hk, h1, h2 => by
    rw [List.takeWhile_cons, if_pos (h1 0 c (Nat.succ_pos _) rfl), List.take_succ_cons, Qs.takeWhile_at t k (by simpa using hk) (fun j d hj hd => h1 (j + 1) d (by omega) hd) (fun d hd => h2 d hd)]
/-- where the loop over the signs ends, the scheme is told -/
theorem Qs.of_at {t : List UInt8} {k : Nat} (hk : k ≤ t.length) (h1 : ∀ j, j < k → Qs.on t j = true) (h2 : Qs.on t k = false) : Ug.of t = if k = 0 ∨ k = t.length ∨ t[k]? ≠ some 58 then none else some (Pl.lowL (t.take k)) := by
  have hs : ∀ j c, j < k → t[j]? = some c → Ug.sign c = true := fun j c hj hc => by
    have := h1 j hj
    unfold Qs.on at this
    rw [hc] at this
    unfold Ug.sign
    simp only [Bool.or_eq_true, Bool.and_eq_true] at this ⊢
    rcases this with q | q
    · exact .inl q
    · exact .inr q.2
  by_cases h0 : k = 0
  · subst h0
    rw [if_pos (.inl rfl)]
    unfold Ug.of
    rw [if_neg]
    rintro ⟨q, _⟩
    cases t with
    | nil => exact absurd q (by decide)
    | cons c t =>
      have h2 : Qs.on (c :: t) 0 = false := h2
      unfold Qs.on at h2
      simp only [List.getElem?_cons_zero, Bool.or_eq_false_iff] at h2
      rw [show (c :: t).getD 0 0 = c from rfl, h2.1] at q
      cases q
  · have htw : t.takeWhile Ug.sign = t.take k := Qs.takeWhile_at t k hk hs (fun c hc => by
      unfold Qs.on at h2
      rw [hc] at h2
      have hk0 : decide (0 < k) = true := decide_eq_true (by omega)
      unfold Ug.sign
      simpa [hk0] using h2)
    have hl : Pl.letter (t.getD 0 0) = true := by
      have := h1 0 (by omega)
      unfold Qs.on at this
      cases t with
      | nil => simp at this
      | cons c t => simpa using this
    have hlen : (t.take k).length = k := by rw [List.length_take]; omega
    unfold Ug.of
    rw [htw, hlen]
    by_cases hq : t[k]? = some 58
    · rw [if_pos ⟨hl, hq⟩, if_neg]
      rintro (q | q | q)
      · exact h0 q
      · have := (List.getElem?_eq_some_iff.1 hq).1
        omega
      · exact q hq
    · rw [if_neg (fun q => hq q.2), if_pos (.inr (.inr hq))]
end Go.Proofs.YtfjhbhddfpkebaaDoor
