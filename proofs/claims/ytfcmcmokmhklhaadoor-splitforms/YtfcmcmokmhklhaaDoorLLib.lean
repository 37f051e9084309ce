/-
  PLAIN: what the library's Index, Cut and the trims give, in the words of the document's Split.
-/
import Derived.Test.YtfcmcmokmhklhaaDoorLRef2
import Derived.Lib.CutLaws
import Derived.Lib.SlTrimSet
import Derived.Shelf.Strings.SlTrimAscii
import Derived.Lib.Replace
import Derived.Lib.CountLaws
namespace Go.Proofs.YtfcmcmokmhklhaaDoor
theorem Ll.pre2 (a b c : UInt8) (l : List UInt8) : ([a, b] : List UInt8).isPrefixOf (c :: l) = (decide (c = a) && decide (l.head? = some b)) := by
  cases l with
  | nil => simp [List.isPrefixOf]
  | cons d l =>
    simp only [List.isPrefixOf, Bool.and_true, List.head?_cons, Option.some.injEq]
    by_cases h1 : c = a
    · by_cases h2 : d = b
      · subst h1 h2; simp
      · simp [h2, beq_eq_false_iff_ne.2 (fun e : b = d => h2 e.symm)]
    · simp [h1, beq_eq_false_iff_ne.2 (fun e : a = c => h1 e.symm)]
theorem Ll.index2 (a b c : UInt8) (l : List UInt8) : Lib.index (c :: l) [a, b] = if c = a ∧ l.head? = some b then 0 else if Lib.index l [a, b] = -1 then -1 else Lib.index l [a, b] + 1 := by
  conv => lhs; unfold Lib.index
  rw [Ll.pre2]
  by_cases h1 : c = a
  · by_cases h2 : l.head? = some b
    · simp [h1, h2]
    · simp [h1, h2]
  · simp [h1]
theorem Ll.index0 (a b : UInt8) : Lib.index [] [a, b] = -1 := rfl
theorem Ll.index_ge (l : List UInt8) (a b : UInt8) : -1 ≤ Lib.index l [a, b] := Lib.index_ge l [a, b]
theorem Ll.text : ∀ (l : List UInt8) (i : Nat), Lx.text i l = if Lib.index l [123, 123] = -1 then i + l.length else i + (Lib.index l [123, 123]).toNat := by
  intro l
  induction l with
  | nil => intro i; rfl
  | cons c l ih =>
    intro i
    have hg := Ll.index_ge l 123 123
    unfold Lx.text
    rw [Ll.index2, ih]
    generalize Lib.index l [123, 123] = q at *
    simp only [List.length_cons]
    by_cases h : c = 123 ∧ l.head? = some 123
    · rw [if_pos h, if_pos h, if_neg (by decide)]
      rfl
    · rw [if_neg h, if_neg h]
      by_cases h2 : q = -1
      · rw [if_pos h2, if_pos h2, if_pos rfl]
        omega
      · rw [if_neg h2, if_neg h2, if_neg (by omega)]
        omega
theorem Ll.star : ∀ (l : List UInt8) (i : Nat), Lx.star i l = if Lib.index l [42, 47] = -1 then none else some (i + (Lib.index l [42, 47]).toNat) := by
  intro l
  induction l with
  | nil => intro i; rfl
  | cons c l ih =>
    intro i
    have hg := Ll.index_ge l 42 47
    unfold Lx.star
    rw [Ll.index2, ih]
    generalize Lib.index l [42, 47] = q at *
    by_cases h : c = 42 ∧ l.head? = some 47
    · rw [if_pos h, if_pos h, if_neg (by decide)]
      rfl
    · rw [if_neg h, if_neg h]
      by_cases h2 : q = -1
      · rw [if_pos h2, if_pos h2, if_pos rfl]
      · rw [if_neg h2, if_neg h2, if_neg (by omega)]
        congr 1
        omega
theorem Ll.cut_len (l : List UInt8) (a b : UInt8) : (Lib.cut l [a, b]).1 = l.take (if Lib.index l [a, b] = -1 then l.length else (Lib.index l [a, b]).toNat) := by
  have hg := Ll.index_ge l a b
  unfold Lib.cut
  by_cases h : Lib.index l [a, b] = -1
  · rw [if_neg (by omega), if_pos h, List.take_length]
  · rw [if_pos (by omega), if_neg h]
theorem Ll.cut_text (l : List UInt8) (i : Nat) : (Lib.cut l [123, 123]).1 = l.take (Lx.text i l - i) := by
  rw [Ll.cut_len, Ll.text]
  congr 1
  split <;> omega
/-- where the next comment's end stands, or the end -/
def Lx.starAt (i : Nat) (l : List UInt8) : Nat := (Lx.star i l).getD (i + l.length)
theorem Ll.cut_star (l : List UInt8) (i : Nat) : (Lib.cut l [42, 47]).1 = l.take (Lx.starAt i l - i) := by
  rw [Ll.cut_len]
  unfold Lx.starAt
  rw [Ll.star]
  congr 1
  split
  · rw [Option.getD_none]; omega
  · rw [Option.getD_some]; omega
theorem Ll.blank (c : UInt8) : ([9, 10, 32] : List UInt8).contains c = Lx.blank c := by
  unfold Lx.blank
  simp only [List.contains_cons, List.contains_nil, Bool.or_false, Bool.or_assoc]
theorem Ll.left (l : List UInt8) : Lib.trimLeftS l [9, 10, 32] = Lx.left l := by
  unfold Lib.trimLeftS Lx.left
  congr 1
  funext c
  exact Ll.blank c
theorem Ll.right (l : List UInt8) : Lib.trimRightS l [9, 10, 32] = Lx.right l := by
  unfold Lib.trimRightS Lx.right
  congr 2
  funext c
  exact Ll.blank c
theorem Ll.skip : ∀ (l : List UInt8) (i : Nat), Lx.skip i l = i + (l.length - (Lx.left l).length) := by
  intro l
  induction l with
  | nil => intro i; rfl
  | cons c l ih =>
    intro i
    have hl := Lx.left_len l
    unfold Lx.skip
    unfold Lx.left at hl ⊢
    rw [List.dropWhile_cons]
    by_cases h : Lx.blank c = true
    · rw [if_pos h, if_pos h, ih]
      unfold Lx.left
      simp only [List.length_cons]
      omega
    · rw [if_neg h, if_neg h]
      omega
theorem Ll.right_cons (c : UInt8) (l : List UInt8) : Lx.right (c :: l) = if Lx.right l = [] then (if Lx.blank c = true then [] else [c]) else c :: Lx.right l := by
  unfold Lx.right
  rw [List.reverse_cons, List.dropWhile_append]
  by_cases h : (l.reverse.dropWhile Lx.blank).isEmpty = true
  · have h2 := List.isEmpty_iff.1 h
    rw [if_pos h, h2, List.reverse_nil, if_pos rfl, List.dropWhile_cons]
    split <;> rfl
  · have h2 : ¬ (l.reverse.dropWhile Lx.blank).reverse = [] := fun e => h (List.isEmpty_iff.2 (List.reverse_eq_nil_iff.1 e))
    rw [if_neg h, if_neg h2, List.reverse_append]
    rfl
theorem Ll.right_nil {l : List UInt8} (h : Lx.right l = []) : ∀ c ∈ l, Lx.blank c = true := by
  induction l with
  | nil => intro c hc; cases hc
  | cons a l ih =>
    rw [Ll.right_cons] at h
    by_cases h1 : Lx.right l = []
    · rw [if_pos h1] at h
      by_cases h2 : Lx.blank a = true
      · intro c hc
        rcases List.mem_cons.1 hc with rfl | hc
        · exact h2
        · exact ih h1 c hc
      · rw [if_neg h2] at h; cases h
    · rw [if_neg h1] at h; cases h
theorem Ll.left_nil {l : List UInt8} (h : ∀ c ∈ l, Lx.blank c = true) : Lx.left l = [] := by
  induction l with
  | nil => rfl
  | cons a l ih =>
    unfold Lx.left
    rw [List.dropWhile_cons, if_pos (h a (List.mem_cons_self ..))]
    exact ih fun c hc => h c (List.mem_cons_of_mem _ hc)
theorem Ll.trim : ∀ (l : List UInt8), Lx.left (Lx.right l) = Lx.right (Lx.left l) := by
  intro l
  induction l with
  | nil => rfl
  | cons c l ih =>
    have e : Lx.left (c :: l) = if Lx.blank c = true then Lx.left l else c :: l := by unfold Lx.left; rw [List.dropWhile_cons]
    by_cases hc : Lx.blank c = true
    · rw [e, if_pos hc, ← ih, Ll.right_cons]
      by_cases h1 : Lx.right l = []
      · rw [if_pos h1, if_pos hc, h1]
      · rw [if_neg h1]
        unfold Lx.left
        rw [List.dropWhile_cons, if_pos hc]
    · rw [e, if_neg hc, Ll.right_cons]
      by_cases h1 : Lx.right l = []
      · rw [if_pos h1, if_neg hc]
        unfold Lx.left
        rw [List.dropWhile_cons, if_neg hc]
      · rw [if_neg h1]
        unfold Lx.left
        rw [List.dropWhile_cons, if_neg hc]
theorem Ll.both (l : List UInt8) : Lib.trimS l [9, 10, 32] = Lx.right (Lx.left l) := by
  unfold Lib.trimS
  rw [Ll.right, Ll.left, Ll.trim]
end Go.Proofs.YtfcmcmokmhklhaaDoor
