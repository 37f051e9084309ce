/-
  PLAIN: a round of Split.
-/
import Derived.Test.YtjppobeomocgbaaGreatDoorTLRef2toLMem
import Derived.Test.YtjppobeomocgbaaGreatDoorTGKittoLRef1
namespace Go.Proofs.YtjppobeomocgbaaGreatDoor
theorem Lx.lines_len : ∀ (s : List UInt8), (Rd.lines s).length ≤ s.length := by
  intro s
  fun_induction Rd.lines s with
  | case1 => exact Nat.le_refl _
  | case2 l ih => simp only [List.length_cons]; omega
  | case3 c l _ ih => simp only [List.length_cons]; omega
theorem Lx.text_step {s : ByteArray} {i : Nat} (h : i < s.size) : Lx.text i (s.data.toList.drop i) = if Lx.two s.data.toList i 123 123 = true then i else Lx.text (i + 1) (s.data.toList.drop (i + 1)) := by
  rw [Rl.drop s i h]
  conv => lhs; unfold Lx.text
  rw [Lx.head_drop]
  unfold Lx.two
  rw [Lx.get h]
  simp
theorem Lx.text_end {s : ByteArray} {i : Nat} (h : s.size ≤ i) : Lx.text i (s.data.toList.drop i) = i := by
  rw [Lx.drop_none h]
  rfl
theorem Lx.go_end {S : List UInt8} {p : Nat} (n : Nat) (tr : Bool) (out : List Pc) (h : S.length ≤ p) : Lx.go n S p tr out = some out := by
  cases n with
  | zero => rfl
  | succ n =>
    unfold Lx.go
    rw [if_pos h]
theorem Lx.go_fin {S : List UInt8} {p n i : Nat} {tr : Bool} {out : List Pc} {T : List UInt8} (hn : 0 < n) (hi : Lx.text p (S.drop p) = i) (hl : S.length ≤ i) (hT : (if tr = true then Lx.left ((S.drop p).take (i - p)) else (S.drop p).take (i - p)) = T) : Lx.go n S p tr out = some (out ++ Lx.one T p) := by
  obtain ⟨n, rfl⟩ : ∃ m, n = m + 1 := ⟨n - 1, by omega⟩
  by_cases h : S.length ≤ p
  · rw [Lx.go_end _ _ _ h]
    have e : T = [] := by
      rw [← hT, List.drop_of_length_le h, List.take_nil]
      cases tr <;> rfl
    rw [e]
    simp [Lx.one]
  · unfold Lx.go
    simp only [if_neg h, hi, if_pos hl, hT]
theorem Lx.go_none {S : List UInt8} {p n i k : Nat} {tr m : Bool} {out : List Pc} (hn : 0 < n) (hi : Lx.text p (S.drop p) = i) (hp : p < S.length) (hl : i < S.length) (hm : Lx.mark S (i + 2) = m) (hk : Lx.skip (if m = true then i + 3 else i + 2) (S.drop (if m = true then i + 3 else i + 2)) = k) (ha : Lx.act S k = none) : Lx.go n S p tr out = none := by
  obtain ⟨n, rfl⟩ : ∃ m, n = m + 1 := ⟨n - 1, by omega⟩
  unfold Lx.go
  simp only [if_neg (Nat.not_le.2 hp), hi, if_neg (Nat.not_le.2 hl), hm, hk, ha]
theorem Lx.go_some {S : List UInt8} {p n i k : Nat} {tr m : Bool} {out : List Pc} {a : La} {T : List UInt8} (hi : Lx.text p (S.drop p) = i) (hp : p < S.length) (hl : i < S.length) (hm : Lx.mark S (i + 2) = m) (hk : Lx.skip (if m = true then i + 3 else i + 2) (S.drop (if m = true then i + 3 else i + 2)) = k) (ha : Lx.act S k = some a)
    (hT : (if m = true then Lx.right (if tr = true then Lx.left ((S.drop p).take (i - p)) else (S.drop p).take (i - p)) else (if tr = true then Lx.left ((S.drop p).take (i - p)) else (S.drop p).take (i - p))) = T) : Lx.go (n + 1) S p tr out = Lx.go n S a.fin a.trims (out ++ Lx.one T p ++ if a.com = true then [] else [⟨true, a.text, i⟩]) := by
  conv => lhs; unfold Lx.go
  simp only [if_neg (Nat.not_le.2 hp), hi, if_neg (Nat.not_le.2 hl), hm, hk, ha, hT]
theorem Lx.mark_eq {s : ByteArray} {k : Nat} : Lx.mark s.data.toList k = if h : k + 1 < s.size then decide (s[k] = 45) && Lx.blank s[k + 1] else false := by
  unfold Lx.mark
  split
  · rename_i h
    rw [Lx.get (by omega), Wk.len_data, decide_eq_true h, List.getD_eq_getElem?_getD, Lx.get h]
    simp
  · rename_i h
    rw [Wk.len_data, decide_eq_false h]
    simp
theorem Lx.one_len (t : List UInt8) (k : Nat) : (Lx.one t k).length ≤ 1 ∧ (Lx.one t k).length ≤ t.length := by
  unfold Lx.one
  split
  · simp
  · rename_i h
    have := List.length_pos_iff.2 h
    simp
    omega
theorem Lx.right_len (l : List UInt8) : (Lx.right l).length ≤ l.length := by
  unfold Lx.right
  rw [List.length_reverse]
  have h := (List.dropWhile_sublist (l := l.reverse) Lx.blank).length_le
  rw [List.length_reverse] at h
  exact h
theorem Lx.two_cons (a : UInt8) (l : List UInt8) (k : Nat) (x y : UInt8) : Lx.two (a :: l) (k + 1) x y = Lx.two l k x y := rfl
theorem Lx.text_two : ∀ (l : List UInt8) (i : Nat), Lx.text i l < i + l.length → Lx.two l (Lx.text i l - i) 123 123 = true := by
  intro l
  induction l with
  | nil => intro i h; exact absurd h (Nat.lt_irrefl _)
  | cons a l ih =>
    intro i h
    unfold Lx.text at h ⊢
    split
    · rename_i q
      rw [Nat.sub_self]
      unfold Lx.two
      rw [List.getElem?_cons_zero, Nat.zero_add, List.getElem?_cons_succ, ← List.head?_eq_getElem?, q.1, q.2]
      rfl
    · rename_i q
      rw [if_neg q] at h
      simp only [List.length_cons] at h
      have h2 := Lx.text_ge l (i + 1)
      rw [show Lx.text (i + 1) l - i = (Lx.text (i + 1) l - (i + 1)) + 1 by omega, Lx.two_cons]
      exact ih (i + 1) (by omega)
theorem Lx.two_drop (S : List UInt8) (p k : Nat) (x y : UInt8) : Lx.two (S.drop p) k x y = Lx.two S (p + k) x y := by
  unfold Lx.two
  rw [List.getElem?_drop, List.getElem?_drop, Nat.add_assoc]
/-- where an action begins its two braces stand -/
theorem Lx.text_open {S : List UInt8} {p i : Nat} (h : Lx.text p (S.drop p) = i) (hp : p ≤ S.length) (hi : i < S.length) : Lx.two S i 123 123 = true := by
  have h1 := Lx.text_ge (S.drop p) p
  have h2 := Lx.text_two (S.drop p) p (by rw [List.length_drop, h]; omega)
  rw [h] at h1 h2
  rw [Lx.two_drop, show p + (i - p) = i by omega] at h2
  exact h2
/-- an action in a variable, cell by cell -/
def La.cells : Option La → Array Value
  | none => #[.int .i64 0, .string ⟨#[]⟩, .bool false, .bool false, .bool false]
  | some a => #[.int .i64 (a.fin : Int), .string ⟨a.text.toArray⟩, .bool a.trims, .bool a.com, .bool true]
/-- where a round of Split stands behind its action: T the text ahead of it -/
def Lx.Mid (S : List UInt8) (G : Option (List Pc)) (p i n : Nat) (out : List Pc) (T : List UInt8) : Option La → Prop
  | none => S.length ≤ i ∧ G = some (out ++ Lx.one T p)
  | some a => i + 4 ≤ a.fin ∧ a.fin ≤ S.length ∧ G = Lx.go n S a.fin a.trims (out ++ Lx.one T p ++ if a.com = true then [] else [⟨true, a.text, i⟩])
end Go.Proofs.YtjppobeomocgbaaGreatDoor
/-
  PLAIN: sources without actions; a comment alone.
-/
namespace Go.Proofs.YtjppobeomocgbaaGreatDoor
open Go.RowKit
/-- the first m bytes without those of a kind -/
def Lf.keep (f : UInt8 → Bool) (m : Nat) (l : List UInt8) : List UInt8 := (l.take m).filter f
theorem Lf.append (a b : ByteArray) : (a ++ b).data.toList = a.data.toList ++ b.data.toList := by rw [ByteArray.data_append, Array.toList_append]
theorem Lx.text_none : ∀ (l : List UInt8) (i : Nat), (∀ c ∈ l, c ≠ 123) → Lx.text i l = i + l.length := by
  intro l
  induction l with
  | nil => intro i _; rfl
  | cons a l ih =>
    intro i h
    unfold Lx.text
    rw [if_neg (fun q => h a (List.mem_cons_self ..) q.1), ih (i + 1) (fun c hc => h c (List.mem_cons_of_mem _ hc)), List.length_cons]
    omega
theorem Lx.lines_pre : ∀ (a l : List UInt8), (∀ c ∈ a, c ≠ 13) → Rd.lines (a ++ l) = a ++ Rd.lines l := by
  intro a
  induction a with
  | nil => intro l _; rfl
  | cons c a ih =>
    intro l h
    rw [List.cons_append, Rl.lother _ _ (h c (List.mem_cons_self ..)), ih l (fun x hx => h x (List.mem_cons_of_mem _ hx))]
    rfl
theorem Lx.star_at (r : List UInt8) : ∀ (l : List UInt8) (i : Nat), (∀ c ∈ l, c ≠ 42) → Lx.star i (l ++ 42 :: 47 :: r) = some (i + l.length) := by
  intro l
  induction l with
  | nil => intro i _; rfl
  | cons a l ih =>
    intro i h
    rw [List.cons_append]
    unfold Lx.star
    rw [if_neg (fun q => h a (List.mem_cons_self ..) q.1), ih (i + 1) (fun c hc => h c (List.mem_cons_of_mem _ hc)), List.length_cons]
    congr 1
    omega
end Go.Proofs.YtjppobeomocgbaaGreatDoor
/-
  PLAIN: Split, action by action: what hangs on the bytes from a place on alone.
-/
namespace Go.Proofs.YtjppobeomocgbaaGreatDoor
open Go.RowKit
theorem Lx.skip_shift (d : Nat) : ∀ (l : List UInt8) (i : Nat), Lx.skip (d + i) l = d + Lx.skip i l := by
  intro l
  induction l with
  | nil => intro i; rfl
  | cons a l ih =>
    intro i
    unfold Lx.skip
    split
    · rw [Nat.add_assoc, ih]
    · rfl
theorem Lx.star_shift (d : Nat) : ∀ (l : List UInt8) (i : Nat), Lx.star (d + i) l = (Lx.star i l).map (d + ·) := by
  intro l
  induction l with
  | nil => intro i; rfl
  | cons a l ih =>
    intro i
    unfold Lx.star
    split
    · rfl
    · rw [Nat.add_assoc, ih]
theorem Lx.find_shift (d : Nat) : ∀ (l : List UInt8) (t sk : Bool) (i : Nat), Lx.find t sk (d + i) l = (Lx.find t sk i l).map (d + ·) := by
  intro l
  induction l with
  | nil => intro t sk i; rfl
  | cons a l ih =>
    intro t sk i
    unfold Lx.find
    rw [Nat.add_assoc, ih, ih, ih]
    repeat' split
    all_goals rfl
def La.shift (d : Nat) (a : La) : La := { a with fin := d + a.fin }
theorem Lx.plain_shift (S : List UInt8) (d k : Nat) : Lx.plain S (d + k) = (Lx.plain (S.drop d) k).map (La.shift d) := by
  unfold Lx.plain
  rw [List.drop_drop, Lx.find_shift]
  cases h : Lx.find false false k (S.drop (d + k)) with
  | none => rfl
  | some i =>
    simp only [Option.map_some]
    rw [show d + i - (d + k) = i - k by omega]
    rfl
theorem Lx.comment_shift (S : List UInt8) (d k : Nat) : Lx.comment S (d + k) = (Lx.comment (S.drop d) k).map (La.shift d) := by
  unfold Lx.comment
  rw [List.drop_drop, Lx.star_shift]
  cases h : Lx.star k (S.drop (d + k)) with
  | none => rfl
  | some f =>
    simp only [Option.map_some]
    rw [show d + f + 2 = d + (f + 2) by omega, Lx.skip_shift, List.drop_drop, List.getElem?_drop]
    generalize Lx.skip (f + 2) (S.drop (d + (f + 2))) = i
    rw [show decide (d + (f + 2) < d + i) = decide (f + 2 < i) by rw [decide_eq_decide]; omega]
    generalize (decide (f + 2 < i) && decide (S[d + i]? = some 45)) = b
    rw [show (if b = true then d + i + 1 else d + i) = d + (if b = true then i + 1 else i) by split <;> omega]
    generalize (if b = true then i + 1 else i) = j
    rw [Lx.two_drop]
    split <;> rfl
theorem Lx.act_shift (S : List UInt8) (d k : Nat) : Lx.act S (d + k) = (Lx.act (S.drop d) k).map (La.shift d) := by
  unfold Lx.act
  rw [Lx.two_drop]
  split
  · rw [Nat.add_assoc, Lx.comment_shift]
  · exact Lx.plain_shift S d k
theorem Lx.mark_shift (S : List UInt8) (d k : Nat) : Lx.mark (S.drop d) k = Lx.mark S (d + k) := by
  unfold Lx.mark
  rw [List.getElem?_drop, List.length_drop, List.getD_eq_getElem?_getD, List.getElem?_drop, List.getD_eq_getElem?_getD, show d + (k + 1) = d + k + 1 by omega]
  rw [show decide (k + 1 < S.length - d) = decide (d + k + 1 < S.length) by rw [decide_eq_decide]; omega]
theorem Lx.text_at (r : List UInt8) : ∀ (t : List UInt8) (i : Nat), (∀ c ∈ t, c ≠ 123) → Lx.text i (t ++ 123 :: 123 :: r) = i + t.length := by
  intro t
  induction t with
  | nil => intro i _; rfl
  | cons a t ih =>
    intro i h
    rw [List.cons_append]
    unfold Lx.text
    rw [if_neg (fun q => h a (List.mem_cons_self ..) q.1), ih (i + 1) (fun c hc => h c (List.mem_cons_of_mem _ hc)), List.length_cons]
    omega
/-- AN ACTION, F behind its two braces -/
theorem Lx.go_at {S F t : List UInt8} {p n k : Nat} {tr m : Bool} {out : List Pc} {a : La} {T : List UInt8} (hp : S.drop p = t ++ 123 :: 123 :: F) (ht : ∀ c ∈ t, c ≠ 123) (hm : Lx.mark F 0 = m) (hk : Lx.skip (if m = true then 1 else 0) (F.drop (if m = true then 1 else 0)) = k) (ha : Lx.act F k = some a)
    (hT : (if m = true then Lx.right (if tr = true then Lx.left t else t) else (if tr = true then Lx.left t else t)) = T) :
    Lx.go (n + 1) S p tr out = Lx.go n S (p + t.length + 2 + a.fin) a.trims (out ++ Lx.one T p ++ if a.com = true then [] else [⟨true, a.text, p + t.length⟩]) := by
  have hl : (S.drop p).length = t.length + 2 + F.length := by rw [hp]; simp; omega
  rw [List.length_drop] at hl
  have hi : Lx.text p (S.drop p) = p + t.length := by rw [hp]; exact Lx.text_at _ _ _ ht
  have hF : S.drop (p + t.length + 2) = F := by
    rw [show p + t.length + 2 = p + (t.length + 2) by omega, ← List.drop_drop, hp, ← List.drop_drop, List.drop_left]
    rfl
  have hm2 : Lx.mark S (p + t.length + 2) = m := by
    have := Lx.mark_shift S (p + t.length + 2) 0
    rw [Nat.add_zero, hF] at this
    rw [← this, hm]
  have hk2 : Lx.skip (if m = true then p + t.length + 3 else p + t.length + 2) (S.drop (if m = true then p + t.length + 3 else p + t.length + 2)) = p + t.length + 2 + k := by
    have e : (if m = true then p + t.length + 3 else p + t.length + 2) = p + t.length + 2 + (if m = true then 1 else 0) := by split <;> omega
    rw [e, Lx.skip_shift, ← List.drop_drop, hF, hk]
  have ha2 : Lx.act S (p + t.length + 2 + k) = some (La.shift (p + t.length + 2) a) := by rw [Lx.act_shift, hF, ha]; rfl
  have ht2 : (S.drop p).take (p + t.length - p) = t := by rw [hp, Nat.add_sub_cancel_left, List.take_left]
  rw [Lx.go_some (T := T) hi (by omega) (by omega) hm2 hk2 ha2 (by rw [ht2]; exact hT)]
  rfl
/-- THE LAST TEXT -/
theorem Lx.go_last {S t : List UInt8} {p n : Nat} {tr : Bool} {out : List Pc} {T : List UInt8} (hn : 0 < n) (hp : S.drop p = t) (hpl : p ≤ S.length) (ht : ∀ c ∈ t, c ≠ 123) (hT : (if tr = true then Lx.left t else t) = T) : Lx.go n S p tr out = some (out ++ Lx.one T p) := by
  have hl : S.length = p + t.length := by rw [← hp, List.length_drop]; omega
  have hi : Lx.text p (S.drop p) = p + t.length := by rw [hp]; exact Lx.text_none _ _ ht
  refine Lx.go_fin hn hi (by omega) ?_
  rw [hp, Nat.add_sub_cancel_left, List.take_length]
  exact hT
theorem Lx.lines_id {l : List UInt8} (h : ∀ c ∈ l, c ≠ 13) : Rd.lines l = l := by
  have := Lx.lines_pre l [] h
  rw [List.append_nil] at this
  rw [this]
  simp [Rd.lines]
end Go.Proofs.YtjppobeomocgbaaGreatDoor
/-
  PLAIN: a source that is written of texts and actions, one by one: its pieces.
-/
namespace Go.Proofs.YtjppobeomocgbaaGreatDoor
/-- texts' signs on an action's way: are all braces in texts? -/
def Mq.run : Bool → Bool → List UInt8 → Option (Bool × Bool)
  | t, sk, [] => some (t, sk)
  | t, sk, c :: l => if sk = true then Mq.run t false l else if t = true ∧ c = 92 then Mq.run t true l else if c = 34 then Mq.run (!t) false l else if t = false ∧ c = 125 then none else Mq.run t false l
theorem Mq.find (r : List UInt8) : ∀ (l : List UInt8) (t sk : Bool) (i : Nat), Mq.run t sk l = some (false, false) → Lx.find t sk i (l ++ 125 :: 125 :: r) = some (i + l.length) := by
  intro l
  induction l with
  | nil =>
    intro t sk i h
    injection h with h
    injection h with h1 h2
    subst h1 h2
    rfl
  | cons c l ih =>
    intro t sk i h
    rw [List.cons_append]
    unfold Mq.run at h
    unfold Lx.find
    have e : i + (c :: l).length = i + 1 + l.length := by rw [List.length_cons]; omega
    rw [e]
    split at h
    · rename_i q; rw [if_pos q]; exact ih _ _ _ h
    · rename_i q
      rw [if_neg q]
      split at h
      · rename_i q2; rw [if_pos q2]; exact ih _ _ _ h
      · rename_i q2
        rw [if_neg q2]
        split at h
        · rename_i q3; rw [if_pos q3]; exact ih _ _ _ h
        · rename_i q3
          rw [if_neg q3]
          split at h
          · cases h
          · rename_i q4
            rw [if_neg (fun q5 => q4 ⟨q5.1, q5.2.1⟩)]
            exact ih _ _ _ h
/-- an action's text that stands bare between its braces -/
structure Mq.Act (l : List UInt8) : Prop where
  head : ∃ c m, l = c :: m ∧ Lx.blank c = false ∧ c ≠ 45 ∧ c ≠ 47
  run : Mq.run false false l = some (false, false)
  trims : Lx.trims l = false
  ends : Lx.right (Lx.left l) = l
  no13 : ∀ c ∈ l, c ≠ 13
  len : l.length ≤ 256
/-- it is decided by looking -/
def Mq.good (l : List UInt8) : Bool :=
  (match l with | [] => false | c :: _ => !Lx.blank c && decide (c ≠ 45) && decide (c ≠ 47)) && decide (Mq.run false false l = some (false, false)) && !Lx.trims l && decide (Lx.right (Lx.left l) = l) && l.all (fun c => decide (c ≠ 13)) && decide (l.length ≤ 256)
theorem Mq.act_of {l : List UInt8} (h : Mq.good l = true) : Mq.Act l := by
  unfold Mq.good at h
  simp only [Bool.and_eq_true, decide_eq_true_eq, Bool.not_eq_true', List.all_eq_true] at h
  obtain ⟨⟨⟨⟨⟨h1, h2⟩, h3⟩, h4⟩, h5⟩, h6⟩ := h
  refine ⟨?_, h2, h3, h4, h5, h6⟩
  cases l with
  | nil => cases h1
  | cons c m =>
    simp only [Bool.and_eq_true, Bool.not_eq_true', decide_eq_true_eq] at h1
    exact ⟨c, m, rfl, h1.1.1, h1.1.2, h1.2⟩
theorem Mq.Act.two {l : List UInt8} (h : Mq.Act l) (r : List UInt8) : Lx.mark (l ++ r) 0 = false ∧ Lx.skip 0 (l ++ r) = 0 ∧ Lx.two (l ++ r) 0 47 42 = false := by
  obtain ⟨c, m, rfl, hc, h45, h47⟩ := h.head
  refine ⟨?_, ?_, ?_⟩
  · unfold Lx.mark
    rw [List.cons_append, List.getElem?_cons_zero, decide_eq_false (fun q => h45 (Option.some.inj q))]
    rfl
  · rw [List.cons_append]
    unfold Lx.skip
    rw [if_neg (by rw [hc]; decide)]
  · unfold Lx.two
    rw [List.cons_append, List.getElem?_cons_zero, decide_eq_false (fun q => h47 (Option.some.inj q))]
    rfl
theorem Mq.act {l : List UInt8} (h : Mq.Act l) (r : List UInt8) : Lx.act (l ++ 125 :: 125 :: r) 0 = some ⟨l.length + 2, l, false, false⟩ := by
  unfold Lx.act
  rw [if_neg (by rw [(h.two _).2.2]; decide)]
  have hf : Lx.find false false 0 ((l ++ 125 :: 125 :: r).drop 0) = some l.length := by rw [List.drop_zero, Mq.find _ _ _ _ _ h.run, Nat.zero_add]
  rw [Lx.plain_some (T := l) (U := l) hf (by rw [List.drop_zero, Nat.sub_zero, List.take_left]) h.trims (if_neg (by decide)), h.ends]
/-- a comment -/
theorem Mq.comment {c : List UInt8} (hc : ∀ x ∈ c, x ≠ 42) (r : List UInt8) : Lx.act ([47, 42] ++ c ++ [42, 47] ++ 125 :: 125 :: r) 0 = some ⟨([47, 42] ++ c ++ [42, 47]).length + 2, [], false, true⟩ := by
  generalize hS : [47, 42] ++ c ++ [42, 47] ++ 125 :: 125 :: r = S
  have hdrop : ∀ k, S.drop (2 + k) = (c ++ 42 :: 47 :: 125 :: 125 :: r).drop k := fun k => by
    rw [← hS, ← List.drop_drop]
    congr 1
    simp
  have d3 : Lx.two S 0 47 42 = true := by rw [← hS]; rfl
  have h4 := hdrop 0
  rw [List.drop_zero, Nat.add_zero] at h4
  have h5 : Lx.star 2 (S.drop 2) = some (2 + c.length) := by rw [h4]; exact Lx.star_at _ _ _ hc
  have h6 : S.drop (2 + c.length + 2) = 125 :: 125 :: r := by rw [Nat.add_assoc, hdrop, List.drop_append, List.drop_of_length_le (by omega), Nat.add_sub_cancel_left]; rfl
  have h7 : Lx.skip (2 + c.length + 2) (S.drop (2 + c.length + 2)) = 2 + c.length + 2 := by rw [h6]; rfl
  have h8 : Lx.two S (2 + c.length + 2) 125 125 = true := by
    have := Lx.two_drop S (2 + c.length + 2) 0 125 125
    rw [Nat.add_zero] at this
    rw [← this, h6]
    rfl
  unfold Lx.act
  rw [if_pos d3, Lx.comment_good (J := 2 + c.length + 2) h5 h7 (by rw [decide_eq_false (by omega), Bool.false_and]) rfl h8]
  congr 2
  simp
  omega
/-- a text and an action behind it -/
structure Un where
  text : List UInt8
  inner : List UInt8
  com : Bool
def Un.src (u : Un) : List UInt8 := u.text ++ 123 :: 123 :: (u.inner ++ [125, 125])
structure Un.Good (u : Un) : Prop where
  text : ∀ c ∈ u.text, c ≠ 123 ∧ c ≠ 13
  no13 : ∀ c ∈ u.inner, c ≠ 13
  mark : ∀ r, Lx.mark (u.inner ++ 125 :: 125 :: r) 0 = false
  skip : ∀ r, Lx.skip 0 (u.inner ++ 125 :: 125 :: r) = 0
  act : ∀ r, Lx.act (u.inner ++ 125 :: 125 :: r) 0 = some ⟨u.inner.length + 2, if u.com = true then [] else u.inner, false, u.com⟩
  len : u.inner.length ≤ 256
theorem Un.act {t l : List UInt8} (ht : ∀ c ∈ t, c ≠ 123 ∧ c ≠ 13) (h : Mq.Act l) : Un.Good ⟨t, l, false⟩ :=
  ⟨ht, h.no13, fun _ => (h.two _).1, fun _ => (h.two _).2.1, fun r => Mq.act h r, h.len⟩
theorem Un.comment {t c : List UInt8} (ht : ∀ x ∈ t, x ≠ 123 ∧ x ≠ 13) (hc : ∀ x ∈ c, x ≠ 42 ∧ x ≠ 13) (hl : c.length ≤ 252) : Un.Good ⟨t, [47, 42] ++ c ++ [42, 47], true⟩ :=
  ⟨ht, fun x hx => by
    simp only [List.mem_append, List.mem_cons, List.not_mem_nil, or_false] at hx
    rcases hx with ((rfl | rfl) | hx) | (rfl | rfl)
    · decide
    · decide
    · exact (hc x hx).2
    · decide
    · decide, fun _ => rfl, fun _ => rfl, fun r => Mq.comment (fun x hx => (hc x hx).1) r, by simp; omega⟩
def Pc.key (p : Pc) : Bool × List UInt8 := (p.act, p.text)
def Un.one (t : List UInt8) : List (Bool × List UInt8) := if t = [] then [] else [(false, t)]
def Un.pcs (u : Un) : List (Bool × List UInt8) := Un.one u.text ++ if u.com = true then [] else [(true, u.inner)]
theorem Un.one_key (t : List UInt8) (k : Nat) : (Lx.one t k).map Pc.key = Un.one t := by
  unfold Lx.one Un.one
  split <;> rfl
theorem Un.go (tl : List UInt8) (htl : ∀ c ∈ tl, c ≠ 123) : ∀ (us : List Un) (S : List UInt8) (p n : Nat) (out : List Pc), (∀ u ∈ us, u.Good) → S.drop p = us.flatMap Un.src ++ tl → p ≤ S.length → us.length < n → ∃ ps, Lx.go n S p false out = some (out ++ ps) ∧ ps.map Pc.key = us.flatMap Un.pcs ++ Un.one tl := by
  intro us
  induction us with
  | nil =>
    intro S p n out _ hS hp hn
    refine ⟨Lx.one tl p, Lx.go_last (by omega) (by rw [hS]; rfl) hp htl (if_neg (by decide)), ?_⟩
    rw [Un.one_key]
    rfl
  | cons u us ih =>
    intro S p n out hg hS hp hn
    have hu := hg u (List.mem_cons_self ..)
    obtain ⟨n, rfl⟩ : ∃ m, n = m + 1 := ⟨n - 1, by have := hn; omega⟩
    rw [List.flatMap_cons] at hS
    have hS2 : S.drop p = u.text ++ 123 :: 123 :: (u.inner ++ 125 :: 125 :: (us.flatMap Un.src ++ tl)) := by
      rw [hS]
      unfold Un.src
      simp
    have hst := Lx.go_at (n := n) (tr := false) (m := false) (out := out) hS2 (fun c hc => (hu.text c hc).1) (hu.mark _) (hu.skip _) (hu.act _) rfl
    have hlen : p + u.text.length + 2 + (u.inner.length + 2) ≤ S.length ∧ S.drop (p + u.text.length + 2 + (u.inner.length + 2)) = us.flatMap Un.src ++ tl := by
      have hl := congrArg List.length hS2
      simp only [List.length_drop, List.length_append, List.length_cons] at hl
      refine ⟨by omega, ?_⟩
      rw [show p + u.text.length + 2 + (u.inner.length + 2) = p + (u.text.length + (2 + (u.inner.length + 2))) by omega, ← List.drop_drop, hS2, ← List.drop_drop, List.drop_left, ← List.drop_drop]
      show (u.inner ++ 125 :: 125 :: (us.flatMap Un.src ++ tl)).drop (u.inner.length + 2) = _
      rw [← List.drop_drop, List.drop_left]
      rfl
    obtain ⟨ps, h1, h2⟩ := ih S _ n (out ++ Lx.one u.text p ++ if u.com = true then [] else [⟨true, if u.com = true then [] else u.inner, p + u.text.length⟩]) (fun x hx => hg x (List.mem_cons_of_mem _ hx)) hlen.2 hlen.1 (by simp at hn; omega)
    refine ⟨Lx.one u.text p ++ (if u.com = true then [] else [⟨true, if u.com = true then [] else u.inner, p + u.text.length⟩]) ++ ps, ?_, ?_⟩
    · rw [hst]
      simp only [Bool.false_eq_true, if_false]
      rw [h1]
      simp only [List.append_assoc]
    · rw [List.map_append, List.map_append, h2, Un.one_key, List.flatMap_cons]
      unfold Un.pcs
      cases u.com <;> simp [Pc.key]
/-- the pieces of a source -/
theorem Un.split {s : ByteArray} {us : List Un} {tl : List UInt8} (hs : s.data.toList = us.flatMap Un.src ++ tl) (hg : ∀ u ∈ us, u.Good) (htl : ∀ c ∈ tl, c ≠ 123 ∧ c ≠ 13) (hz : s.size ≤ 65536) :
    ((us.flatMap Un.pcs ++ Un.one tl).length ≤ 1024 → ∃ ps, Lx.split s = (ps, 0) ∧ ps.map Pc.key = us.flatMap Un.pcs ++ Un.one tl) ∧ (1024 < (us.flatMap Un.pcs ++ Un.one tl).length → Lx.split s = ([], 1302)) := by
  have h13 : ∀ c ∈ s.data.toList, c ≠ 13 := by
    rw [hs]
    intro c hc
    rcases List.mem_append.1 hc with hc | hc
    · obtain ⟨u, hu, hc⟩ := List.mem_flatMap.1 hc
      unfold Un.src at hc
      simp only [List.mem_append, List.mem_cons, List.not_mem_nil, or_false] at hc
      rcases hc with hc | rfl | rfl | hc | rfl | rfl
      · exact ((hg u hu).text c hc).2
      · decide
      · decide
      · exact (hg u hu).no13 c hc
      · decide
      · decide
    · exact (htl c hc).2
  have hn : us.length < s.data.toList.length + 1 := by
    have h4 : ∀ us : List Un, us.length ≤ (us.flatMap Un.src).length := by
      intro us
      induction us with
      | nil => exact Nat.le_refl _
      | cons u us ih =>
        rw [List.flatMap_cons, List.length_append, List.length_cons]
        unfold Un.src at ih ⊢
        simp only [List.length_append, List.length_cons]
        omega
    have := h4 us
    rw [hs, List.length_append]
    omega
  obtain ⟨ps, h1, h2⟩ := Un.go tl (fun c hc => (htl c hc).1) us s.data.toList 0 (s.data.toList.length + 1) [] hg (by rw [List.drop_zero]; exact hs) (Nat.zero_le _) hn
  rw [List.nil_append] at h1
  have hlen : ps.length = (us.flatMap Un.pcs ++ Un.one tl).length := by rw [← h2, List.length_map]
  have hlong : Lx.long ps = false := by
    cases hq : Lx.long ps with
    | false => rfl
    | true =>
      obtain ⟨q, hq1, hq2⟩ := List.any_eq_true.1 hq
      simp only [Bool.and_eq_true, decide_eq_true_eq] at hq2
      have hk : Pc.key q ∈ us.flatMap Un.pcs ++ Un.one tl := by rw [← h2]; exact List.mem_map_of_mem hq1
      rcases List.mem_append.1 hk with hk | hk
      · obtain ⟨u, hu, hk⟩ := List.mem_flatMap.1 hk
        unfold Un.pcs at hk
        rcases List.mem_append.1 hk with hk | hk
        · unfold Un.one at hk
          split at hk
          · cases hk
          · have := List.mem_singleton.1 hk
            have := congrArg Prod.fst this
            rw [show (Pc.key q).1 = q.act from rfl, hq2.1] at this
            cases this
        · split at hk
          · cases hk
          · have := List.mem_singleton.1 hk
            have := congrArg Prod.snd this
            have hl := (hg u hu).len
            rw [show (Pc.key q).2 = q.text from rfl] at this
            rw [this] at hq2
            dsimp only at hq2
            omega
      · unfold Un.one at hk
        split at hk
        · cases hk
        · have := List.mem_singleton.1 hk
          have := congrArg Prod.fst this
          rw [show (Pc.key q).1 = q.act from rfl, hq2.1] at this
          cases this
  have hall : Lx.split s = Lx.limits ps := by
    unfold Lx.split
    rw [if_neg (by omega), Lx.lines_id h13]
    unfold Lx.all
    rw [h1]
  rw [hall, ← hlen]
  unfold Lx.limits
  rw [hlong, if_neg (by decide)]
  refine ⟨fun h => ⟨ps, by rw [if_neg (by omega)], h2⟩, fun h => by rw [if_pos h]⟩
end Go.Proofs.YtjppobeomocgbaaGreatDoor
/-
  THE WALKS of stoleref1.Low, Letter and Digit.
-/
namespace Go.Proofs.YtjppobeomocgbaaGreatDoor
open Go.RowKit
def Pl.lowB (c : UInt8) : UInt8 := if 65 ≤ c.toNat ∧ c.toNat ≤ 90 then c + 32 else c
theorem Pl.lowB_toNat (c : UInt8) : (Pl.lowB c).toNat = if 65 ≤ c.toNat ∧ c.toNat ≤ 90 then c.toNat + 32 else c.toNat := by
  unfold Pl.lowB
  split
  · rw [UInt8.toNat_add]; simp; omega
  · rfl
theorem Sz.low (c : UInt8) (w : World) :
    Calls Tryz.prog 141 #[.int .u8 c.toNat] w fun e w' => e = .returned (.int .u8 (Pl.lowB c).toNat) ∧ w' = w := by
  have hc := c.toNat_lt
  have hl := Pl.lowB_toNat c
  generalize (Pl.lowB c).toNat = m at *
  generalize c.toNat = k at *
  by_cases h1 : 65 ≤ k
  · by_cases h2 : k ≤ 90
    · rw [if_pos ⟨h1, h2⟩] at hl
      subst hl
      go_enter Tryz.func141, Tryz.ntmps141
      go_wp2
      go_ret
      exact ⟨by simp, rfl⟩
    · rw [if_neg (by omega)] at hl
      subst hl
      go_enter Tryz.func141, Tryz.ntmps141
      go_wp2
      go_ret
      exact ⟨rfl, rfl⟩
  · rw [if_neg (by omega)] at hl
    subst hl
    go_enter Tryz.func141, Tryz.ntmps141
    go_wp2
    go_ret
    exact ⟨rfl, rfl⟩

def Pl.letter (c : UInt8) : Bool := decide (97 ≤ (Pl.lowB c).toNat) && decide ((Pl.lowB c).toNat ≤ 122)
def Pl.digit (c : UInt8) : Bool := decide (48 ≤ c.toNat) && decide (c.toNat ≤ 57)
theorem Rt.letter (c : UInt8) (w : World) :
    Calls Tryz.prog 119 #[.int .u8 c.toNat] w fun e w' => e = .returned (.bool (Pl.letter c)) ∧ w' = w := by
  have cl := Sz.low c w
  have HL : Hid (Pl.letter c = (decide (97 ≤ (Pl.lowB c).toNat) && decide ((Pl.lowB c).toNat ≤ 122))) := rfl
  generalize (Pl.lowB c).toNat = m at *
  generalize Pl.letter c = b at *
  by_cases h1 : 97 ≤ m
  · by_cases h2 : m ≤ 122
    · have d1 : decide ((97 : Int) ≤ (m : Int)) = true := decide_eq_true (by omega)
      have d2 : decide ((m : Int) ≤ 122) = true := decide_eq_true (by omega)
      have hb : b = true := by rw [HL.out]; simp [h1, h2]
      subst hb
      clear HL
      go_enter Tryz.func119, Tryz.ntmps119
      go_wp2_with (go_at_call 141; refine cl.mono ?_; rintro e w1 ⟨rfl, rfl⟩)
      go_ret
      exact ⟨rfl, rfl⟩
    · have d1 : decide ((97 : Int) ≤ (m : Int)) = true := decide_eq_true (by omega)
      have d2 : decide ((m : Int) ≤ 122) = false := decide_eq_false (by omega)
      have hb : b = false := by rw [HL.out]; simp [h1, h2]
      subst hb
      clear HL
      go_enter Tryz.func119, Tryz.ntmps119
      go_wp2_with (go_at_call 141; refine cl.mono ?_; rintro e w1 ⟨rfl, rfl⟩)
      go_ret
      exact ⟨rfl, rfl⟩
  · have d1 : decide ((97 : Int) ≤ (m : Int)) = false := decide_eq_false (by omega)
    have hb : b = false := by rw [HL.out]; simp [h1]
    subst hb
    clear HL
    go_enter Tryz.func119, Tryz.ntmps119
    go_wp2_with (go_at_call 141; refine cl.mono ?_; rintro e w1 ⟨rfl, rfl⟩)
    go_ret
    exact ⟨rfl, rfl⟩
theorem Rt.digit (c : UInt8) (w : World) :
    Calls Tryz.prog 90 #[.int .u8 c.toNat] w fun e w' => e = .returned (.bool (Pl.digit c)) ∧ w' = w := by
  have HL : Hid (Pl.digit c = (decide (48 ≤ c.toNat) && decide (c.toNat ≤ 57))) := rfl
  generalize c.toNat = m at *
  generalize Pl.digit c = b at *
  by_cases h1 : 48 ≤ m
  · by_cases h2 : m ≤ 57
    · have hb : b = true := by rw [HL.out]; simp [h1, h2]
      subst hb
      clear HL
      go_enter Tryz.func90, Tryz.ntmps90
      go_wp2
      go_ret
      exact ⟨by simp; omega, rfl⟩
    · have hb : b = false := by rw [HL.out]; simp [h1, h2]
      subst hb
      clear HL
      go_enter Tryz.func90, Tryz.ntmps90
      go_wp2
      go_ret
      exact ⟨by simp; omega, rfl⟩
  · have hb : b = false := by rw [HL.out]; simp [h1]
    subst hb
    clear HL
    go_enter Tryz.func90, Tryz.ntmps90
    go_wp2
    go_ret
    exact ⟨by first | rfl | simp, rfl⟩
end Go.Proofs.YtjppobeomocgbaaGreatDoor
