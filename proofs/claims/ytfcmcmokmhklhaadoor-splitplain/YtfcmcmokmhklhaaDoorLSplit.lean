/-
  PLAIN: a round of Split.
-/
import Derived.Test.YtfcmcmokmhklhaaDoorLRef2
import Derived.Test.YtfcmcmokmhklhaaDoorLMem
namespace Go.Proofs.YtfcmcmokmhklhaaDoor
theorem Lx.lines_len : ∀ (s : List UInt8), (Rd.lines s).length ≤ s.length := by
  intro s
  fun_induction Rd.lines s with
  | case1 => exact Nat.le_refl _
  | case2 l ih => simp only [List.length_cons]; omega
  | case3 c l _ ih => simp only [List.length_cons]; omega
theorem Lx.text_step {s : ByteArray} {i : Nat} (h : i < s.size) : Lx.text i (s.data.toList.drop i) = if Lx.two s.data.toList i 123 123 = true then i else Lx.text (i + 1) (s.data.toList.drop (i + 1)) := by
  rw [Rl.drop s i h]
  conv => lhs; unfold Lx.text
  rw [Lx.head_drop]
  unfold Lx.two
  rw [Lx.get h]
  simp
theorem Lx.text_end {s : ByteArray} {i : Nat} (h : s.size ≤ i) : Lx.text i (s.data.toList.drop i) = i := by
  rw [Lx.drop_none h]
  rfl
theorem Lx.go_end {S : List UInt8} {p : Nat} (n : Nat) (tr : Bool) (out : List Pc) (h : S.length ≤ p) : Lx.go n S p tr out = some out := by
  cases n with
  | zero => rfl
  | succ n =>
    unfold Lx.go
    rw [if_pos h]
theorem Lx.go_fin {S : List UInt8} {p n i : Nat} {tr : Bool} {out : List Pc} {T : List UInt8} (hn : 0 < n) (hi : Lx.text p (S.drop p) = i) (hl : S.length ≤ i) (hT : (if tr = true then Lx.left ((S.drop p).take (i - p)) else (S.drop p).take (i - p)) = T) : Lx.go n S p tr out = some (out ++ Lx.one T p) := by
  obtain ⟨n, rfl⟩ : ∃ m, n = m + 1 := ⟨n - 1, by omega⟩
  by_cases h : S.length ≤ p
  · rw [Lx.go_end _ _ _ h]
    have e : T = [] := by
      rw [← hT, List.drop_of_length_le h, List.take_nil]
      cases tr <;> rfl
    rw [e]
    simp [Lx.one]
  · unfold Lx.go
    simp only [if_neg h, hi, if_pos hl, hT]
theorem Lx.go_none {S : List UInt8} {p n i k : Nat} {tr m : Bool} {out : List Pc} (hn : 0 < n) (hi : Lx.text p (S.drop p) = i) (hp : p < S.length) (hl : i < S.length) (hm : Lx.mark S (i + 2) = m) (hk : Lx.skip (if m = true then i + 3 else i + 2) (S.drop (if m = true then i + 3 else i + 2)) = k) (ha : Lx.act S k = none) : Lx.go n S p tr out = none := by
  obtain ⟨n, rfl⟩ : ∃ m, n = m + 1 := ⟨n - 1, by omega⟩
  unfold Lx.go
  simp only [if_neg (Nat.not_le.2 hp), hi, if_neg (Nat.not_le.2 hl), hm, hk, ha]
theorem Lx.go_some {S : List UInt8} {p n i k : Nat} {tr m : Bool} {out : List Pc} {a : La} {T : List UInt8} (hi : Lx.text p (S.drop p) = i) (hp : p < S.length) (hl : i < S.length) (hm : Lx.mark S (i + 2) = m) (hk : Lx.skip (if m = true then i + 3 else i + 2) (S.drop (if m = true then i + 3 else i + 2)) = k) (ha : Lx.act S k = some a)
    (hT : (if m = true then Lx.right (if tr = true then Lx.left ((S.drop p).take (i - p)) else (S.drop p).take (i - p)) else (if tr = true then Lx.left ((S.drop p).take (i - p)) else (S.drop p).take (i - p))) = T) : Lx.go (n + 1) S p tr out = Lx.go n S a.fin a.trims (out ++ Lx.one T p ++ if a.com = true then [] else [⟨true, a.text, i⟩]) := by
  conv => lhs; unfold Lx.go
  simp only [if_neg (Nat.not_le.2 hp), hi, if_neg (Nat.not_le.2 hl), hm, hk, ha, hT]
theorem Lx.mark_eq {s : ByteArray} {k : Nat} : Lx.mark s.data.toList k = if h : k + 1 < s.size then decide (s[k] = 45) && Lx.blank s[k + 1] else false := by
  unfold Lx.mark
  split
  · rename_i h
    rw [Lx.get (by omega), Wk.len_data, decide_eq_true h, List.getD_eq_getElem?_getD, Lx.get h]
    simp
  · rename_i h
    rw [Wk.len_data, decide_eq_false h]
    simp
theorem Lx.one_len (t : List UInt8) (k : Nat) : (Lx.one t k).length ≤ 1 ∧ (Lx.one t k).length ≤ t.length := by
  unfold Lx.one
  split
  · simp
  · rename_i h
    have := List.length_pos_iff.2 h
    simp
    omega
theorem Lx.right_len (l : List UInt8) : (Lx.right l).length ≤ l.length := by
  unfold Lx.right
  rw [List.length_reverse]
  have h := (List.dropWhile_sublist (l := l.reverse) Lx.blank).length_le
  rw [List.length_reverse] at h
  exact h
theorem Lx.two_cons (a : UInt8) (l : List UInt8) (k : Nat) (x y : UInt8) : Lx.two (a :: l) (k + 1) x y = Lx.two l k x y := rfl
theorem Lx.text_two : ∀ (l : List UInt8) (i : Nat), Lx.text i l < i + l.length → Lx.two l (Lx.text i l - i) 123 123 = true := by
  intro l
  induction l with
  | nil => intro i h; exact absurd h (Nat.lt_irrefl _)
  | cons a l ih =>
    intro i h
    unfold Lx.text at h ⊢
    split
    · rename_i q
      rw [Nat.sub_self]
      unfold Lx.two
      rw [List.getElem?_cons_zero, Nat.zero_add, List.getElem?_cons_succ, ← List.head?_eq_getElem?, q.1, q.2]
      rfl
    · rename_i q
      rw [if_neg q] at h
      simp only [List.length_cons] at h
      have h2 := Lx.text_ge l (i + 1)
      rw [show Lx.text (i + 1) l - i = (Lx.text (i + 1) l - (i + 1)) + 1 by omega, Lx.two_cons]
      exact ih (i + 1) (by omega)
theorem Lx.two_drop (S : List UInt8) (p k : Nat) (x y : UInt8) : Lx.two (S.drop p) k x y = Lx.two S (p + k) x y := by
  unfold Lx.two
  rw [List.getElem?_drop, List.getElem?_drop, Nat.add_assoc]
/-- where an action begins its two braces stand -/
theorem Lx.text_open {S : List UInt8} {p i : Nat} (h : Lx.text p (S.drop p) = i) (hp : p ≤ S.length) (hi : i < S.length) : Lx.two S i 123 123 = true := by
  have h1 := Lx.text_ge (S.drop p) p
  have h2 := Lx.text_two (S.drop p) p (by rw [List.length_drop, h]; omega)
  rw [h] at h1 h2
  rw [Lx.two_drop, show p + (i - p) = i by omega] at h2
  exact h2
/-- an action in a variable, cell by cell -/
def La.cells : Option La → Array Value
  | none => #[.int .i64 0, .string ⟨#[]⟩, .bool false, .bool false, .bool false]
  | some a => #[.int .i64 (a.fin : Int), .string ⟨a.text.toArray⟩, .bool a.trims, .bool a.com, .bool true]
theorem La.val_cells (o : Option La) : La.val o = .agg (La.cells o) := by cases o <;> rfl
/-- where a round of Split stands behind its action: T the text ahead of it -/
def Lx.Mid (S : List UInt8) (G : Option (List Pc)) (p i n : Nat) (out : List Pc) (T : List UInt8) : Option La → Prop
  | none => S.length ≤ i ∧ G = some (out ++ Lx.one T p)
  | some a => i + 4 ≤ a.fin ∧ a.fin ≤ S.length ∧ G = Lx.go n S a.fin a.trims (out ++ Lx.one T p ++ if a.com = true then [] else [⟨true, a.text, i⟩])
end Go.Proofs.YtfcmcmokmhklhaaDoor
