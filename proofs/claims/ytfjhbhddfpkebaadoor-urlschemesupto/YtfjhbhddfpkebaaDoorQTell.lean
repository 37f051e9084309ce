/-
  PLAIN: the scheme, told byte by byte.
-/
import Derived.Test.YtfjhbhddfpkebaaDoorQSch
namespace Go.Proofs.YtfjhbhddfpkebaaDoor
/-- i bytes are read, N is the name so far -/
def Uq.At (l : List UInt8) (i : Nat) (N : List UInt8) : Prop :=
  (N = [] ∧ Ug.strip l = Ug.strip (l.drop i)) ∨ (N ≠ [] ∧ Pl.letter (N.getD 0 0) = true ∧ (∀ c ∈ N, Ug.sign c = true) ∧ Ug.strip l = N ++ (l.drop i).filter fun c => !Ug.gap c)
theorem Uq.zero (l : List UInt8) : Uq.At l 0 [] := .inl ⟨rfl, rfl⟩
theorem Uq.drop {l : List UInt8} {i : Nat} {c : UInt8} (h : l[i]? = some c) : l.drop i = c :: l.drop (i + 1) := by
  have hl := (List.getElem?_eq_some_iff.1 h).1
  have e := (List.getElem?_eq_some_iff.1 h).2
  rw [List.drop_eq_getElem_cons hl, e]
theorem Uq.gap_small (c : UInt8) (h : Ug.gap c = true) : c.toNat ≤ 32 := by
  have := Ug.all (p := fun c => !Ug.gap c || decide (c.toNat ≤ 32)) (by decide +kernel) c
  rw [h] at this
  simpa using this
theorem Uq.strip_small {l : List UInt8} {i : Nat} {c : UInt8} (h : l[i]? = some c) (hc : c.toNat ≤ 32) : Ug.strip (l.drop i) = Ug.strip (l.drop (i + 1)) := by
  unfold Ug.strip
  rw [Qs.drop_step h hc]
theorem Uq.strip_big {l : List UInt8} {i : Nat} {c : UInt8} (h : l[i]? = some c) (hc : ¬ c.toNat ≤ 32) : Ug.strip (l.drop i) = c :: (l.drop (i + 1)).filter fun c => !Ug.gap c := by
  unfold Ug.strip
  rw [Qs.drop_stop h hc, Uq.drop h, List.filter_cons, if_pos]
  cases hg : Ug.gap c
  · rfl
  · exact absurd (Uq.gap_small c hg) hc
theorem Uq.skip {l : List UInt8} {i : Nat} {N : List UInt8} {c : UInt8} (h : Uq.At l i N) (hc : l[i]? = some c) (hs : (N = [] ∧ c.toNat ≤ 32) ∨ Ug.gap c = true) : Uq.At l (i + 1) N := by
  have h32 : N = [] → c.toNat ≤ 32 := fun _ => hs.elim (fun q => q.2) (Uq.gap_small c)
  rcases h with ⟨h0, h1⟩ | ⟨h0, h1, h2, h3⟩
  · exact .inl ⟨h0, h1.trans (Uq.strip_small hc (h32 h0))⟩
  · refine .inr ⟨h0, h1, h2, ?_⟩
    have hg : Ug.gap c = true := hs.elim (fun q => absurd q.1 h0) id
    rw [h3, Uq.drop hc, List.filter_cons, if_neg]
    rw [hg]
    decide
theorem Uq.push {l : List UInt8} {i : Nat} {N : List UInt8} {c : UInt8} (h : Uq.At l i N) (hc : l[i]? = some c) (h32 : N = [] → ¬ c.toNat ≤ 32) (hg : Ug.gap c = false) (hs : Pl.letter c = true ∨ (N ≠ [] ∧ Ug.sign c = true)) : Uq.At l (i + 1) (N ++ [c]) := by
  have hsg : Ug.sign c = true := hs.elim (fun q => by unfold Ug.sign; rw [q]; rfl) (fun q => q.2)
  rcases h with ⟨rfl, h1⟩ | ⟨h0, h1, h2, h3⟩
  · have hl : Pl.letter c = true := hs.elim id (fun q => absurd rfl q.1)
    refine .inr ⟨by simp, hl, fun d hd => ?_, ?_⟩
    · rw [List.nil_append, List.mem_singleton] at hd
      rw [hd]; exact hsg
    · rw [h1, Uq.strip_big hc (h32 rfl)]
      rfl
  · refine .inr ⟨by simp, ?_, fun d hd => ?_, ?_⟩
    · cases N with
      | nil => exact absurd rfl h0
      | cons a N => exact h1
    · rcases List.mem_append.1 hd with q | q
      · exact h2 d q
      · rw [List.mem_singleton.1 q]; exact hsg
    · rw [h3, Uq.drop hc, List.filter_cons, if_pos (by rw [hg]; rfl), List.append_assoc]
      rfl
theorem Uq.tw {N : List UInt8} (h : ∀ c ∈ N, Ug.sign c = true) (c : UInt8) (t : List UInt8) (hc : Ug.sign c = false) : (N ++ c :: t).takeWhile Ug.sign = N := by
  rw [List.takeWhile_append_of_pos h, List.takeWhile_cons, if_neg (by rw [hc]; exact Bool.false_ne_true), List.append_nil]
theorem Uq.colon {l : List UInt8} {i : Nat} {N : List UInt8} (h : Uq.At l i N) (hc : l[i]? = some 58) (h0 : N ≠ []) : Ug.scheme l = some (Pl.lowL N) := by
  rcases h with ⟨q, _⟩ | ⟨_, h1, h2, h3⟩
  · exact absurd q h0
  · have e : Ug.strip l = N ++ 58 :: (l.drop (i + 1)).filter fun c => !Ug.gap c := by
      rw [h3, Uq.drop hc, List.filter_cons, if_pos (by decide)]
    unfold Ug.scheme Ug.of
    rw [e, Uq.tw h2 58 _ (by decide), if_pos]
    refine ⟨?_, by simp⟩
    cases N with
    | nil => exact absurd rfl h0
    | cons a N => exact h1
theorem Uq.no {l : List UInt8} {i : Nat} {N : List UInt8} {c : UInt8} (h : Uq.At l i N) (hc : l[i]? = some c) (h32 : N = [] → ¬ c.toNat ≤ 32) (hg : Ug.gap c = false) (hl : Pl.letter c = false) (hs : N ≠ [] → Ug.sign c = false ∧ c ≠ 58) : Ug.scheme l = none := by
  rcases h with ⟨rfl, h1⟩ | ⟨h0, h1, h2, h3⟩
  · unfold Ug.scheme Ug.of
    rw [h1, Uq.strip_big hc (h32 rfl), if_neg]
    rintro ⟨q, _⟩
    exact Bool.false_ne_true (hl.symm.trans q)
  · have e : Ug.strip l = N ++ c :: (l.drop (i + 1)).filter fun c => !Ug.gap c := by
      rw [h3, Uq.drop hc, List.filter_cons, if_pos (by rw [hg]; rfl)]
    unfold Ug.scheme Ug.of
    rw [e, Uq.tw h2 c _ (hs h0).1, if_neg]
    rintro ⟨_, q⟩
    exact (hs h0).2 (by simpa using q)
theorem Uq.over {l : List UInt8} {i : Nat} {N : List UInt8} (h : Uq.At l i N) (hi : l.length ≤ i) : Ug.scheme l = none := by
  have hd : l.drop i = [] := List.drop_of_length_le hi
  rcases h with ⟨rfl, h1⟩ | ⟨h0, h1, h2, h3⟩
  · unfold Ug.scheme
    rw [h1, hd]
    decide
  · unfold Ug.scheme Ug.of
    rw [h3, hd, List.filter_nil, List.append_nil, if_neg]
    rintro ⟨_, q⟩
    have ht : N.takeWhile Ug.sign = N := by
      have := List.takeWhile_append_of_pos (l₂ := []) h2
      simpa using this
    rw [ht, List.getElem?_eq_none (Nat.le_refl _)] at q
    cases q
theorem Uq.len {l : List UInt8} {i : Nat} {N : List UInt8} (h : Uq.At l i N) : N.length ≤ l.length := by
  rcases h with ⟨rfl, _⟩ | ⟨_, _, _, h3⟩
  · exact Nat.zero_le _
  · have h1 : (Ug.strip l).length ≤ l.length := by
      unfold Ug.strip
      exact Nat.le_trans (List.length_filter_le _ _) (List.dropWhile_sublist _).length_le
    rw [h3, List.length_append] at h1
    omega
end Go.Proofs.YtfjhbhddfpkebaaDoor
