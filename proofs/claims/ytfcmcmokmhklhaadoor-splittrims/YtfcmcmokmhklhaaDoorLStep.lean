/-
  PLAIN: Split, action by action: what hangs on the bytes from a place on alone.
-/
import Derived.Test.YtfcmcmokmhklhaaDoorLLaw1
namespace Go.Proofs.YtfcmcmokmhklhaaDoor
open Go.RowKit
theorem Lx.skip_shift (d : Nat) : ∀ (l : List UInt8) (i : Nat), Lx.skip (d + i) l = d + Lx.skip i l := by
  intro l
  induction l with
  | nil => intro i; rfl
  | cons a l ih =>
    intro i
    unfold Lx.skip
    split
    · rw [Nat.add_assoc, ih]
    · rfl
theorem Lx.star_shift (d : Nat) : ∀ (l : List UInt8) (i : Nat), Lx.star (d + i) l = (Lx.star i l).map (d + ·) := by
  intro l
  induction l with
  | nil => intro i; rfl
  | cons a l ih =>
    intro i
    unfold Lx.star
    split
    · rfl
    · rw [Nat.add_assoc, ih]
theorem Lx.find_shift (d : Nat) : ∀ (l : List UInt8) (t sk : Bool) (i : Nat), Lx.find t sk (d + i) l = (Lx.find t sk i l).map (d + ·) := by
  intro l
  induction l with
  | nil => intro t sk i; rfl
  | cons a l ih =>
    intro t sk i
    unfold Lx.find
    rw [Nat.add_assoc, ih, ih, ih]
    repeat' split
    all_goals rfl
def La.shift (d : Nat) (a : La) : La := { a with fin := d + a.fin }
theorem Lx.plain_shift (S : List UInt8) (d k : Nat) : Lx.plain S (d + k) = (Lx.plain (S.drop d) k).map (La.shift d) := by
  unfold Lx.plain
  rw [List.drop_drop, Lx.find_shift]
  cases h : Lx.find false false k (S.drop (d + k)) with
  | none => rfl
  | some i =>
    simp only [Option.map_some]
    rw [show d + i - (d + k) = i - k by omega]
    rfl
theorem Lx.comment_shift (S : List UInt8) (d k : Nat) : Lx.comment S (d + k) = (Lx.comment (S.drop d) k).map (La.shift d) := by
  unfold Lx.comment
  rw [List.drop_drop, Lx.star_shift]
  cases h : Lx.star k (S.drop (d + k)) with
  | none => rfl
  | some f =>
    simp only [Option.map_some]
    rw [show d + f + 2 = d + (f + 2) by omega, Lx.skip_shift, List.drop_drop, List.getElem?_drop]
    generalize Lx.skip (f + 2) (S.drop (d + (f + 2))) = i
    rw [show decide (d + (f + 2) < d + i) = decide (f + 2 < i) by rw [decide_eq_decide]; omega]
    generalize (decide (f + 2 < i) && decide (S[d + i]? = some 45)) = b
    rw [show (if b = true then d + i + 1 else d + i) = d + (if b = true then i + 1 else i) by split <;> omega]
    generalize (if b = true then i + 1 else i) = j
    rw [Lx.two_drop]
    split <;> rfl
theorem Lx.act_shift (S : List UInt8) (d k : Nat) : Lx.act S (d + k) = (Lx.act (S.drop d) k).map (La.shift d) := by
  unfold Lx.act
  rw [Lx.two_drop]
  split
  · rw [Nat.add_assoc, Lx.comment_shift]
  · exact Lx.plain_shift S d k
theorem Lx.mark_shift (S : List UInt8) (d k : Nat) : Lx.mark (S.drop d) k = Lx.mark S (d + k) := by
  unfold Lx.mark
  rw [List.getElem?_drop, List.length_drop, List.getD_eq_getElem?_getD, List.getElem?_drop, List.getD_eq_getElem?_getD, show d + (k + 1) = d + k + 1 by omega]
  rw [show decide (k + 1 < S.length - d) = decide (d + k + 1 < S.length) by rw [decide_eq_decide]; omega]
theorem Lx.text_at (r : List UInt8) : ∀ (t : List UInt8) (i : Nat), (∀ c ∈ t, c ≠ 123) → Lx.text i (t ++ 123 :: 123 :: r) = i + t.length := by
  intro t
  induction t with
  | nil => intro i _; rfl
  | cons a t ih =>
    intro i h
    rw [List.cons_append]
    unfold Lx.text
    rw [if_neg (fun q => h a (List.mem_cons_self ..) q.1), ih (i + 1) (fun c hc => h c (List.mem_cons_of_mem _ hc)), List.length_cons]
    omega
/-- AN ACTION, F behind its two braces -/
theorem Lx.go_at {S F t : List UInt8} {p n k : Nat} {tr m : Bool} {out : List Pc} {a : La} {T : List UInt8} (hp : S.drop p = t ++ 123 :: 123 :: F) (ht : ∀ c ∈ t, c ≠ 123) (hm : Lx.mark F 0 = m) (hk : Lx.skip (if m = true then 1 else 0) (F.drop (if m = true then 1 else 0)) = k) (ha : Lx.act F k = some a)
    (hT : (if m = true then Lx.right (if tr = true then Lx.left t else t) else (if tr = true then Lx.left t else t)) = T) :
    Lx.go (n + 1) S p tr out = Lx.go n S (p + t.length + 2 + a.fin) a.trims (out ++ Lx.one T p ++ if a.com = true then [] else [⟨true, a.text, p + t.length⟩]) := by
  have hl : (S.drop p).length = t.length + 2 + F.length := by rw [hp]; simp; omega
  rw [List.length_drop] at hl
  have hi : Lx.text p (S.drop p) = p + t.length := by rw [hp]; exact Lx.text_at _ _ _ ht
  have hF : S.drop (p + t.length + 2) = F := by
    rw [show p + t.length + 2 = p + (t.length + 2) by omega, ← List.drop_drop, hp, ← List.drop_drop, List.drop_left]
    rfl
  have hm2 : Lx.mark S (p + t.length + 2) = m := by
    have := Lx.mark_shift S (p + t.length + 2) 0
    rw [Nat.add_zero, hF] at this
    rw [← this, hm]
  have hk2 : Lx.skip (if m = true then p + t.length + 3 else p + t.length + 2) (S.drop (if m = true then p + t.length + 3 else p + t.length + 2)) = p + t.length + 2 + k := by
    have e : (if m = true then p + t.length + 3 else p + t.length + 2) = p + t.length + 2 + (if m = true then 1 else 0) := by split <;> omega
    rw [e, Lx.skip_shift, ← List.drop_drop, hF, hk]
  have ha2 : Lx.act S (p + t.length + 2 + k) = some (La.shift (p + t.length + 2) a) := by rw [Lx.act_shift, hF, ha]; rfl
  have ht2 : (S.drop p).take (p + t.length - p) = t := by rw [hp, Nat.add_sub_cancel_left, List.take_left]
  rw [Lx.go_some (T := T) hi (by omega) (by omega) hm2 hk2 ha2 (by rw [ht2]; exact hT)]
  rfl
/-- AN ACTION WITHOUT AN END -/
theorem Lx.go_open {S F t : List UInt8} {p n k : Nat} {tr m : Bool} {out : List Pc} (hp : S.drop p = t ++ 123 :: 123 :: F) (ht : ∀ c ∈ t, c ≠ 123) (hm : Lx.mark F 0 = m) (hk : Lx.skip (if m = true then 1 else 0) (F.drop (if m = true then 1 else 0)) = k) (ha : Lx.act F k = none) :
    Lx.go (n + 1) S p tr out = none := by
  have hl : (S.drop p).length = t.length + 2 + F.length := by rw [hp]; simp; omega
  rw [List.length_drop] at hl
  have hi : Lx.text p (S.drop p) = p + t.length := by rw [hp]; exact Lx.text_at _ _ _ ht
  have hF : S.drop (p + t.length + 2) = F := by
    rw [show p + t.length + 2 = p + (t.length + 2) by omega, ← List.drop_drop, hp, ← List.drop_drop, List.drop_left]
    rfl
  have hm2 : Lx.mark S (p + t.length + 2) = m := by
    have := Lx.mark_shift S (p + t.length + 2) 0
    rw [Nat.add_zero, hF] at this
    rw [← this, hm]
  have hk2 : Lx.skip (if m = true then p + t.length + 3 else p + t.length + 2) (S.drop (if m = true then p + t.length + 3 else p + t.length + 2)) = p + t.length + 2 + k := by
    have e : (if m = true then p + t.length + 3 else p + t.length + 2) = p + t.length + 2 + (if m = true then 1 else 0) := by split <;> omega
    rw [e, Lx.skip_shift, ← List.drop_drop, hF, hk]
  have ha2 : Lx.act S (p + t.length + 2 + k) = none := by rw [Lx.act_shift, hF, ha]; rfl
  exact Lx.go_none (by omega) hi (by omega) (by omega) hm2 hk2 ha2
/-- THE LAST TEXT -/
theorem Lx.go_last {S t : List UInt8} {p n : Nat} {tr : Bool} {out : List Pc} {T : List UInt8} (hn : 0 < n) (hp : S.drop p = t) (hpl : p ≤ S.length) (ht : ∀ c ∈ t, c ≠ 123) (hT : (if tr = true then Lx.left t else t) = T) : Lx.go n S p tr out = some (out ++ Lx.one T p) := by
  have hl : S.length = p + t.length := by rw [← hp, List.length_drop]; omega
  have hi : Lx.text p (S.drop p) = p + t.length := by rw [hp]; exact Lx.text_none _ _ ht
  refine Lx.go_fin hn hi (by omega) ?_
  rw [hp, Nat.add_sub_cancel_left, List.take_length]
  exact hT
theorem Lx.left_blanks {b : List UInt8} (h : ∀ c ∈ b, Lx.blank c = true) (l : List UInt8) : Lx.left (b ++ l) = Lx.left l := by
  induction b with
  | nil => rfl
  | cons a b ih =>
    unfold Lx.left at *
    rw [List.cons_append, List.dropWhile_cons, if_pos (h a (List.mem_cons_self ..))]
    exact ih (fun c hc => h c (List.mem_cons_of_mem _ hc))
theorem Lx.right_blanks {b : List UInt8} (h : ∀ c ∈ b, Lx.blank c = true) (l : List UInt8) : Lx.right (l ++ b) = Lx.right l := by
  have := Lx.left_blanks (b := b.reverse) (fun c hc => h c (List.mem_reverse.1 hc)) l.reverse
  unfold Lx.right
  rw [List.reverse_append]
  unfold Lx.left at this
  rw [this]
theorem Lx.blank_ne {c : UInt8} (h : Lx.blank c = true) : c ≠ 123 ∧ c ≠ 13 := by
  constructor <;> (rintro rfl; revert h; decide)
theorem Lx.lines_id {l : List UInt8} (h : ∀ c ∈ l, c ≠ 13) : Rd.lines l = l := by
  have := Lx.lines_pre l [] h
  rw [List.append_nil] at this
  rw [this]
  simp [Rd.lines]
end Go.Proofs.YtfcmcmokmhklhaaDoor
