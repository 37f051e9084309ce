/-
  PLAIN: two actions side by side between two texts; the walk of stolelaw13.plain.
-/
import Derived.Test.YtfcmcmokmhklhaaDoorLStep
import Derived.Test.YtfcmcmokmhklhaaDoorGDec
namespace Go.Proofs.YtfcmcmokmhklhaaDoor
open Go.RowKit
theorem Lx.find_at (r : List UInt8) : ∀ (b : List UInt8) (i : Nat), (∀ c ∈ b, c ≠ 34 ∧ c ≠ 125) → Lx.find false false i (b ++ 125 :: 125 :: r) = some (i + b.length) := by
  intro b
  induction b with
  | nil => intro i _; rfl
  | cons a b ih =>
    intro i h
    have ha := h a (List.mem_cons_self ..)
    rw [List.cons_append]
    unfold Lx.find
    simp only [Bool.false_eq_true, if_false, false_and, ha.1, ha.2, and_false]
    rw [ih (i + 1) (fun c hc => h c (List.mem_cons_of_mem _ hc)), List.length_cons]
    congr 1
    omega
theorem Lx.left_cons {c : UInt8} {l : List UInt8} (h : Lx.blank c = false) : Lx.left (c :: l) = c :: l := by
  unfold Lx.left
  rw [List.dropWhile_cons, if_neg (by rw [h]; decide)]
theorem Lx.right_end {c : UInt8} {l : List UInt8} (h : Lx.blank c = false) : Lx.right (l ++ [c]) = l ++ [c] := by rw [Lx.right_snoc, if_neg (by rw [h]; decide)]
/-- an action's text of plain signs -/
structure Lo.Act (l : List UInt8) : Prop where
  form : ∃ c m d, l = c :: (m ++ [d]) ∧ Lx.blank c = false ∧ Lx.blank d = false ∧ d ≠ 45 ∧ c ≠ 45 ∧ c ≠ 47
  plain : ∀ c ∈ l, c ≠ 34 ∧ c ≠ 125
theorem Lo.Act.trims {l : List UInt8} (h : Lo.Act l) : Lx.trims l = false := by
  obtain ⟨c, m, d, rfl, _, _, hd, _⟩ := h.form
  unfold Lx.trims
  have : (c :: (m ++ [d]))[(c :: (m ++ [d])).length - 1]? = some d := by simp
  rw [this, decide_eq_false (p := some d = some 45) (fun q => hd (Option.some.inj q))]
  simp
theorem Lo.Act.ends {l : List UInt8} (h : Lo.Act l) : Lx.right (Lx.left l) = l := by
  obtain ⟨c, m, d, rfl, hc, hd, _⟩ := h.form
  rw [Lx.left_cons hc, ← List.cons_append, Lx.right_end hd]
theorem Lo.Act.head {l : List UInt8} (h : Lo.Act l) (r : List UInt8) : Lx.mark (l ++ r) 0 = false ∧ Lx.skip 0 (l ++ r) = 0 ∧ Lx.two (l ++ r) 0 47 42 = false := by
  obtain ⟨c, m, d, rfl, hc, _, _, h45, h47⟩ := h.form
  refine ⟨?_, ?_, ?_⟩
  · unfold Lx.mark
    rw [List.cons_append, List.getElem?_cons_zero, decide_eq_false (fun q => h45 (Option.some.inj q))]
    rfl
  · rw [List.cons_append]
    unfold Lx.skip
    rw [if_neg (by rw [hc]; decide)]
  · unfold Lx.two
    rw [List.cons_append, List.getElem?_cons_zero, decide_eq_false (fun q => h47 (Option.some.inj q))]
    rfl
/-- an action from behind its braces -/
theorem Lo.act1 {l : List UInt8} (h : Lo.Act l) (r : List UInt8) : Lx.act (l ++ 125 :: 125 :: r) 0 = some ⟨l.length + 2, l, false, false⟩ := by
  unfold Lx.act
  rw [if_neg (by rw [(h.head _).2.2]; decide)]
  have hf : Lx.find false false 0 ((l ++ 125 :: 125 :: r).drop 0) = some l.length := by rw [List.drop_zero, Lx.find_at _ _ _ h.plain, Nat.zero_add]
  rw [Lx.plain_some (T := l) (U := l) hf (by rw [List.drop_zero, Nat.sub_zero, List.take_left]) h.trims (if_neg (by decide)), h.ends]
/-- .. with blanks around its text -/
theorem Lo.act2 {l : List UInt8} (h : Lo.Act l) (r : List UInt8) : Lx.act (32 :: 32 :: (l ++ 10 :: 125 :: 125 :: r)) 2 = some ⟨l.length + 5, l, false, false⟩ := by
  have e := Lx.act_shift (32 :: 32 :: (l ++ 10 :: 125 :: 125 :: r)) 2 0
  rw [e, show (32 :: 32 :: (l ++ 10 :: 125 :: 125 :: r)).drop 2 = (l ++ [10]) ++ 125 :: 125 :: r by simp]
  have ht : Lx.act ((l ++ [10]) ++ 125 :: 125 :: r) 0 = some ⟨l.length + 3, l, false, false⟩ := by
    unfold Lx.act
    rw [if_neg (by rw [List.append_assoc, (h.head _).2.2]; decide)]
    have hpl : ∀ c ∈ l ++ [10], c ≠ 34 ∧ c ≠ 125 := fun c hc => by
      rcases List.mem_append.1 hc with hc | hc
      · exact h.plain c hc
      · rw [List.mem_singleton.1 hc]; decide
    have hf : Lx.find false false 0 (((l ++ [10]) ++ 125 :: 125 :: r).drop 0) = some (l.length + 1) := by rw [List.drop_zero, Lx.find_at _ _ _ hpl, Nat.zero_add, List.length_append]; rfl
    have htr : Lx.trims (l ++ [10]) = false := by
      unfold Lx.trims
      have : (l ++ [10])[(l ++ [10]).length - 1]? = some 10 := by simp
      rw [this]
      simp
    have he : Lx.right (Lx.left (l ++ [10])) = l := by
      obtain ⟨c, m, d, rfl, hc, hd, _⟩ := h.form
      rw [List.cons_append, Lx.left_cons hc, ← List.cons_append, Lx.right_snoc, if_pos (by decide), ← List.cons_append, Lx.right_end hd]
    rw [Lx.plain_some (T := l ++ [10]) (U := l ++ [10]) hf (by rw [List.drop_zero, Nat.sub_zero, show l.length + 1 = (l ++ [10]).length by simp, List.take_left]) htr (if_neg (by decide)), he]
  rw [ht]
  unfold La.shift
  simp only [Option.map_some]
  congr 2
  omega
/-- A TEXT, TWO ACTIONS, A TEXT -/
theorem Lo.split {s A B C : ByteArray} (hA : ∀ c ∈ A.data.toList, c ≠ 123 ∧ c ≠ 13) (hB : ∀ c ∈ B.data.toList, c ≠ 123 ∧ c ≠ 13) (hC : Lo.Act C.data.toList) (hC13 : ∀ c ∈ C.data.toList, c ≠ 13) (hCl : C.size ≤ 256) (hs : s.size ≤ 65536)
    (hS : s.data.toList = A.data.toList ++ (123 :: 123 :: (C.data.toList ++ 125 :: 125 :: 123 :: 123 :: 32 :: 32 :: (C.data.toList ++ 10 :: 125 :: 125 :: B.data.toList)))) :
    Lx.split s = (Lx.one A.data.toList 0 ++ [⟨true, C.data.toList, A.size⟩, ⟨true, C.data.toList, A.size + C.size + 4⟩] ++ Lx.one B.data.toList (A.size + 2 * C.size + 11), 0) := by
  have h13 : ∀ c ∈ s.data.toList, c ≠ 13 := fun c hc e => by
    subst e
    rw [hS] at hc
    simp only [List.mem_append, List.mem_cons] at hc
    rcases hc with hc | hc | hc | hc | hc | hc | hc | hc | hc | hc | hc | hc | hc | hc | hc
    · exact (hA _ hc).2 rfl
    · revert hc; decide
    · revert hc; decide
    · exact hC13 _ hc rfl
    · revert hc; decide
    · revert hc; decide
    · revert hc; decide
    · revert hc; decide
    · revert hc; decide
    · revert hc; decide
    · exact hC13 _ hc rfl
    · revert hc; decide
    · revert hc; decide
    · revert hc; decide
    · exact (hB _ hc).2 rfl
  have hn : ∃ n, s.data.toList.length + 1 = n + 1 + 1 + 1 := ⟨s.data.toList.length - 2, by
    have : 2 ≤ s.data.toList.length := by rw [hS]; simp; omega
    omega⟩
  unfold Lx.split
  rw [if_neg (by omega), Lx.lines_id h13]
  unfold Lx.all
  obtain ⟨n, hn⟩ := hn
  rw [hn]
  have zA := Wk.len_data A
  have zC := Wk.len_data C
  clear hn h13 hs hC13
  generalize s.data.toList = S at *
  generalize A.data.toList = a at *
  generalize B.data.toList = b at *
  generalize C.data.toList = c at *
  have hd := hC.head
  have g1 := Lx.go_at (n := n + 1 + 1) (tr := false) (out := []) (S := S) (p := 0) (t := a) (T := a) (by rw [List.drop_zero]; exact hS) (fun x hx => (hA x hx).1) (hd _).1 (by rw [if_neg (by decide), List.drop_zero]; exact (hd _).2.1) (Lo.act1 hC _) (by simp)
  have e1 : S.drop (0 + a.length + 2 + (c.length + 2)) = [] ++ 123 :: 123 :: 32 :: 32 :: (c ++ 10 :: 125 :: 125 :: b) := by
    rw [hS, show 0 + a.length + 2 + (c.length + 2) = a.length + (2 + (c.length + 2)) by omega, ← List.drop_drop, List.drop_left, ← List.drop_drop, ← List.drop_drop, show (123 :: 123 :: (c ++ 125 :: 125 :: 123 :: 123 :: 32 :: 32 :: (c ++ 10 :: 125 :: 125 :: b))).drop 2 = c ++ 125 :: 125 :: 123 :: 123 :: 32 :: 32 :: (c ++ 10 :: 125 :: 125 :: b) from rfl, List.drop_left]
    rfl
  have g2 := Lx.go_at (n := n + 1) (tr := false) (out := [] ++ Lx.one a 0 ++ [⟨true, c, 0 + a.length⟩]) (S := S) (t := []) (T := []) (k := 2) (m := false) e1 (by simp) rfl (by
    show Lx.skip 0 (32 :: 32 :: (c ++ 10 :: 125 :: 125 :: b)) = 2
    unfold Lx.skip
    rw [if_pos (by decide)]
    unfold Lx.skip
    rw [if_pos (by decide)]
    have := (hd (10 :: 125 :: 125 :: b)).2.1
    have h2 := Lx.skip_shift 2 (c ++ 10 :: 125 :: 125 :: b) 0
    rw [this] at h2
    exact h2) (Lo.act2 hC _) (by simp)
  have e2 : S.drop (0 + a.length + 2 + (c.length + 2) + ([] : List UInt8).length + 2 + (c.length + 5)) = b := by
    rw [show 0 + a.length + 2 + (c.length + 2) + ([] : List UInt8).length + 2 + (c.length + 5) = (0 + a.length + 2 + (c.length + 2)) + (4 + (c.length + 3)) by simp; omega, ← List.drop_drop, e1, ← List.drop_drop, ← List.drop_drop, List.nil_append, show (123 :: 123 :: 32 :: 32 :: (c ++ 10 :: 125 :: 125 :: b)).drop 4 = c ++ 10 :: 125 :: 125 :: b from rfl, List.drop_left]
    rfl
  have hlS : S.length = a.length + 2 * c.length + 11 + b.length := by rw [hS]; simp; omega
  have g3 := Lx.go_last (n := n + 1) (tr := false) (out := [] ++ Lx.one a 0 ++ [⟨true, c, 0 + a.length⟩] ++ Lx.one [] (0 + a.length + 2 + (c.length + 2)) ++ [⟨true, c, 0 + a.length + 2 + (c.length + 2) + ([] : List UInt8).length⟩]) (S := S) (T := b) (by omega) e2 (by rw [hlS, List.length_nil]; omega) (fun x hx => (hB x hx).1) (by simp)
  have g : Lx.go (n + 1 + 1 + 1) S 0 false [] = some (Lx.one a 0 ++ [⟨true, c, A.size⟩, ⟨true, c, A.size + C.size + 4⟩] ++ Lx.one b (A.size + 2 * C.size + 11)) := by
    refine g1.trans (g2.trans (g3.trans ?_))
    rw [← zA, ← zC]
    simp only [List.nil_append, List.append_assoc, List.length_nil]
    rw [show Lx.one [] (0 + a.length + 2 + (c.length + 2)) = [] from rfl, show 0 + a.length = a.length by omega, show a.length + 2 + (c.length + 2) + 0 = a.length + c.length + 4 by omega, show a.length + c.length + 4 + 2 + (c.length + 5) = a.length + 2 * c.length + 11 by omega]
    rfl
  rw [g]
  refine Lx.limits_ok ?_ ?_
  · unfold Lx.long
    rw [List.any_append, List.any_append]
    have h1 : ((Lx.one a 0).any fun p => p.act && decide (256 < p.text.length)) = false := Lx.one_long a 0
    have h2 : ((Lx.one b (A.size + 2 * C.size + 11)).any fun p => p.act && decide (256 < p.text.length)) = false := Lx.one_long b _
    rw [h1, h2, Bool.false_or, Bool.or_false, List.any_cons, List.any_cons, List.any_nil, decide_eq_false (by rw [zC]; omega)]
    rfl
  · have h1 := (Lx.one_len a 0).1
    have h2 := (Lx.one_len b (A.size + 2 * C.size + 11)).1
    rw [List.length_append, List.length_append]
    simp only [List.length_cons, List.length_nil]
    omega
end Go.Proofs.YtfcmcmokmhklhaaDoor
