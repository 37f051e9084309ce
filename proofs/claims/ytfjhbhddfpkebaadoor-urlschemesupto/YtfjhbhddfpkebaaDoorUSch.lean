/-
  PLAIN: a scheme as stolelaw9.UrlSchemes writes it.
-/
import Derived.Test.YtfjhbhddfpkebaaDoorQLaws
namespace Go.Proofs.YtfjhbhddfpkebaaDoor
/-- what is written behind i bytes of the name: blanks ahead, then the name's bytes in some case, breaks among them -/
structure Us.At (name : List UInt8) (i : Nat) (S : List UInt8) : Prop where
  parts : ∃ pre body up, S = pre ++ body ∧ (∀ d ∈ pre, d.toNat ≤ 32) ∧ (body.filter fun c => !Ug.gap c) = up ∧ Pl.lowL up = name.take i ∧ (i = 0 → body = []) ∧ (0 < i → ∃ h t, body = h :: t ∧ 33 ≤ h.toNat)
  low : ∀ d ∈ S, d ≠ 0 ∧ d.toNat < 128
theorem Us.sign_low (c : UInt8) : Ug.sign (Pl.lowB c) = Ug.sign c ∧ Pl.letter (Pl.lowB c) = Pl.letter c := by
  have h := Ug.all (p := fun c => decide (Ug.sign (Pl.lowB c) = Ug.sign c ∧ Pl.letter (Pl.lowB c) = Pl.letter c)) (by decide +kernel) c
  exact of_decide_eq_true h
theorem Us.start {name S : List UInt8} (h : ∀ d ∈ S, d.toNat ≤ 32 ∧ d ≠ 0) : Us.At name 0 S :=
  ⟨⟨S, [], [], by simp, fun d hd => (h d hd).1, rfl, by simp [Pl.lowL], fun _ => rfl, fun q => absurd q (Nat.lt_irrefl _)⟩, fun d hd => ⟨(h d hd).2, by have := (h d hd).1; omega⟩⟩
/-- one byte of the name more -/
theorem Us.byte {name S : List UInt8} {i : Nat} {c d : UInt8} (h : Us.At name i S) (hc : name[i]? = some c) (hd : Pl.lowB d = c) (h33 : 33 ≤ d.toNat) (h128 : d.toNat < 128) (hg : Ug.gap d = false) : Us.At name (i + 1) (S ++ [d]) := by
  obtain ⟨⟨pre, body, up, e1, e2, e3, e4, e5, e6⟩, hl⟩ := h
  refine ⟨⟨pre, body ++ [d], up ++ [d], by rw [e1, List.append_assoc], e2, ?_, ?_, fun q => by omega, fun _ => ?_⟩, fun x hx => ?_⟩
  · rw [List.filter_append, e3]
    simp [hg]
  · have hl := (List.getElem?_eq_some_iff.1 hc).1
    have e := (List.getElem?_eq_some_iff.1 hc).2
    rw [Pl.low_append, e4, List.take_succ_eq_append_getElem hl, e, ← hd]
    rfl
  · by_cases h0 : i = 0
    · exact ⟨d, [], by rw [e5 h0]; rfl, h33⟩
    · obtain ⟨a, t, q, q2⟩ := e6 (by omega)
      exact ⟨a, t ++ [d], by rw [q]; rfl, q2⟩
  · rw [List.mem_append] at hx
    rcases hx with hx | hx
    · exact hl x hx
    · rw [List.mem_singleton.1 hx]
      refine ⟨fun q => ?_, h128⟩
      rw [q] at h33
      exact absurd h33 (by decide)
/-- a break behind it -/
theorem Us.gap {name S : List UInt8} {i : Nat} {d : UInt8} (h : Us.At name i S) (hi : 0 < i) (hg : d = 9 ∨ d = 10 ∨ d = 13) : Us.At name i (S ++ [d]) := by
  obtain ⟨⟨pre, body, up, e1, e2, e3, e4, e5, e6⟩, hl⟩ := h
  have hgg : Ug.gap d = true := by rcases hg with q | q | q <;> rw [q] <;> rfl
  refine ⟨⟨pre, body ++ [d], up, by rw [e1, List.append_assoc], e2, ?_, e4, fun q => by omega, fun _ => ?_⟩, fun x hx => ?_⟩
  · rw [List.filter_append, e3]
    simp [hgg]
  · obtain ⟨a, t, q, q2⟩ := e6 hi
    exact ⟨a, t ++ [d], by rw [q]; rfl, q2⟩
  · rw [List.mem_append] at hx
    rcases hx with hx | hx
    · exact hl x hx
    · rw [List.mem_singleton.1 hx]
      rcases hg with q | q | q <;> rw [q] <;> decide
theorem Us.strip {name S r : List UInt8} (h : Us.At name name.length S) (hn : name ≠ []) : ∃ up, Ug.strip (S ++ r) = up ++ (r.filter fun c => !Ug.gap c) ∧ Pl.lowL up = name := by
  obtain ⟨⟨pre, body, up, e1, e2, e3, e4, e5, e6⟩, _⟩ := h
  obtain ⟨a, t, q, q2⟩ := e6 (List.length_pos_iff.2 hn)
  rw [List.take_length] at e4
  refine ⟨up, ?_, e4⟩
  unfold Ug.strip
  have hd : ((pre ++ body) ++ r).dropWhile (fun c => decide (c.toNat ≤ 32)) = body ++ r := by
    rw [List.append_assoc]
    have : ∀ l : List UInt8, (∀ d ∈ l, d.toNat ≤ 32) → (l ++ (body ++ r)).dropWhile (fun c => decide (c.toNat ≤ 32)) = body ++ r := by
      intro l
      induction l with
      | nil =>
        intro _
        rw [q, List.nil_append, List.cons_append, List.dropWhile_cons, if_neg (by simp; omega)]
      | cons x l ih =>
        intro hl
        rw [List.cons_append, List.dropWhile_cons, if_pos (by simpa using hl x List.mem_cons_self)]
        exact ih fun d hd => hl d (List.mem_cons_of_mem _ hd)
    exact this pre e2
  rw [e1, hd, List.filter_append, e3]
theorem Us.signs {name up : List UInt8} (h : Pl.lowL up = name) (hs : ∀ d ∈ name, Ug.sign d = true) (hl : Pl.letter (name.getD 0 0) = true) (hn : name ≠ []) : ∃ c b, up = c :: b ∧ Pl.letter c = true ∧ ∀ d ∈ c :: b, Ug.sign d = true := by
  cases up with
  | nil => exact absurd h.symm hn
  | cons c b =>
    refine ⟨c, b, rfl, ?_, fun d hd => ?_⟩
    · rw [← h] at hl
      rw [← (Us.sign_low c).2]
      exact hl
    · rw [← (Us.sign_low d).1]
      refine hs _ ?_
      rw [← h]
      exact List.mem_map_of_mem hd
theorem Us.told {name S r : List UInt8} (h : Us.At name name.length S) (hn : name ≠ []) (hs : ∀ d ∈ name, Ug.sign d = true) (hl : Pl.letter (name.getD 0 0) = true) : Ug.scheme (S ++ 58 :: r) = some name := by
  obtain ⟨up, e, hu⟩ := Us.strip (r := 58 :: r) h hn
  obtain ⟨c, b, rfl, hc, hb⟩ := Us.signs hu hs hl hn
  unfold Ug.scheme
  rw [e]
  show Ug.of ((c :: b) ++ 58 :: (r.filter fun c => !Ug.gap c)) = _
  rw [Ug.of_mk hc hb, hu]
theorem Us.slash {name S r : List UInt8} (h : Us.At name name.length S) (hn : name ≠ []) (hs : ∀ d ∈ name, Ug.sign d = true) (hl : Pl.letter (name.getD 0 0) = true) : Ug.scheme (S ++ 47 :: r) = none := by
  obtain ⟨up, e, hu⟩ := Us.strip (r := 47 :: r) h hn
  obtain ⟨c, b, rfl, hc, hb⟩ := Us.signs hu hs hl hn
  unfold Ug.scheme
  rw [e]
  show Ug.of ((c :: b) ++ 47 :: (r.filter fun c => !Ug.gap c)) = _
  have ht : ((c :: b) ++ 47 :: (r.filter fun c => !Ug.gap c)).takeWhile Ug.sign = c :: b := by
    rw [List.takeWhile_append_of_pos hb, List.takeWhile_cons, if_neg (by decide), List.append_nil]
  unfold Ug.of
  rw [ht, if_neg]
  rintro ⟨_, q⟩
  rw [List.getElem?_append_right (Nat.le_refl _), Nat.sub_self] at q
  injection q with q
  exact absurd q (by decide)
/-- Start refuses it, or it does not -/
theorem Us.refused {name S r : List UInt8} (h : Us.At name name.length S) (hn : name ≠ []) (hs : ∀ d ∈ name, Ug.sign d = true) (hl : Pl.letter (name.getD 0 0) = true) : (Ug.start (S ++ 58 :: r) = Ug.no) ↔ Ug.known name = false := by
  have hm : Pl.normL (S ++ 58 :: r) = S ++ 58 :: Pl.normL r := by
    have e : S ++ 58 :: r = (S ++ [58]) ++ r := by simp
    rw [e, Pl.norm_append, List.append_assoc]
    · rfl
    · have := Pl.may_ascii (S ++ [58]) [] (fun d hd => by
        rw [List.mem_append] at hd
        rcases hd with hd | hd
        · exact h.low d hd
        · rw [List.mem_singleton.1 hd]
          decide)
      rw [List.append_nil] at this
      rw [this]
      rfl
  have ht := Us.told (r := Pl.normL r) h hn hs hl
  unfold Ug.start
  rw [hm, ht]
  cases hk : Ug.known name
  · exact ⟨fun _ => rfl, fun _ => if_neg (by rw [hk]; exact Bool.false_ne_true)⟩
  · refine ⟨fun q => ?_, fun q => by cases q⟩
    have q : (if Ug.known name = true then Ug.pct Ug.more (S ++ 58 :: Pl.normL r) else Ug.no) = Ug.no := q
    rw [if_pos hk] at q
    have h58 : (58 : UInt8) ∈ Ug.pct Ug.more (S ++ 58 :: Pl.normL r) := by
      rw [Ug.pct_append, Ug.pct_cons]
      refine List.mem_append.2 (.inr (List.mem_append.2 (.inl ?_)))
      decide
    rw [q] at h58
    exact absurd h58 (by decide)
end Go.Proofs.YtfjhbhddfpkebaaDoor
