/-
  PLAIN LISTS OF BYTES, no program: the document's own way to read a reference (what stands between & and ;) gives what 'Pl.refL' gives; a number written in digits is read back.
-/
import Derived.Test.YtjbkgokiikbaeaaGreatDoorMPlaintoRPlain
import Derived.Shelf.Strings.Builder2
import Derived.Shelf.Strings.BuilderK
import Derived.Shelf.Strings.Prefix
import Derived.Test.YtjbkgokiikbaeaaGreatDoorProg
import Derived.WalkKit
import Derived.BigCall
import Derived.Laws.IdiomStrings
namespace Go.Proofs.YtjbkgokiikbaeaaGreatDoor.Pl

/-- a byte that may stand in a reference -/
def tokc (c : UInt8) : Bool := (decide (97 ≤ (lowB c).toNat) && decide ((lowB c).toNat ≤ 122)) || (decide (48 ≤ c.toNat) && decide (c.toNat ≤ 57)) || decide (c = 35)
def tokEnd : Nat → List UInt8 → Nat → Nat
  | 0, _, k => k
  | _ + 1, [], k => k
  | m + 1, c :: r, k => if tokc c then tokEnd m r (k + 1) else k
def numAll (base : Nat) : List UInt8 → Nat → Option Nat
  | [], x => some x
  | c :: r, x => if dig c < base then numAll base r (x * base + dig c) else none
def numR (s : List UInt8) : Option Nat :=
  if s.head? = some 120 ∨ s.head? = some 88 then (if s.tail = [] ∨ 6 < s.tail.length then none else numAll 16 s.tail 0)
  else if s = [] ∨ 7 < s.length then none else numAll 10 s 0
def names0 : List (List UInt8 × List UInt8) :=
  [([97, 109, 112], [38]), ([108, 116], [60]), ([103, 116], [62]), ([113, 117, 111, 116], [34]), ([97, 112, 111, 115], [39]), ([110, 98, 115, 112], [194, 160]), ([99, 111, 112, 121], [194, 169])]
def nameR : List (List UInt8 × List UInt8) → List UInt8 → Option (List UInt8)
  | [], _ => none
  | n :: ns, b => if b = n.1 then some n.2 else nameR ns b
def refR (b : List UInt8) : Option (List UInt8) := if b.head? = some 35 then (numR b.tail).map runeL else nameR names0 b
def refT (r : List UInt8) : List UInt8 × Nat :=
  if r[tokEnd 10 r 0]? = some 59 then (match refR (r.take (tokEnd 10 r 0)) with | some t => (t, tokEnd 10 r 0 + 1) | none => ([], 0)) else ([], 0)

/-! ### the end of what may be a reference -/
theorem tokEnd_body (t : List UInt8) : ∀ (b : List UInt8) (m k : Nat), (∀ c ∈ b, tokc c = true) → b.length ≤ m → tokEnd m (b ++ 59 :: t) k = k + b.length := by
  intro b
  induction b with
  | nil =>
    intro m k _ _
    cases m with
    | zero => rfl
    | succ m => simp [tokEnd, (by decide : tokc 59 = false)]
  | cons c b ih =>
    intro m k h hm
    cases m with
    | zero => simp at hm
    | succ m =>
      rw [List.cons_append, tokEnd, if_pos (h c (by simp)), ih m (k + 1) (fun d hd => h d (by simp [hd])) (by simpa using hm), List.length_cons]
      omega
theorem tokEnd_all : ∀ (m : Nat) (d : List UInt8) (k : Nat), k ≤ tokEnd m d k ∧ tokEnd m d k ≤ k + m ∧ ∀ c ∈ d.take (tokEnd m d k - k), tokc c = true := by
  intro m
  induction m with
  | zero => intro d k; simp [tokEnd]
  | succ m ih =>
    intro d k
    cases d with
    | nil => simp [tokEnd]
    | cons c r =>
      rw [tokEnd]
      split
      · rename_i hc
        obtain ⟨h1, h2, h3⟩ := ih r (k + 1)
        refine ⟨by omega, by omega, ?_⟩
        have e : tokEnd m r (k + 1) - k = (tokEnd m r (k + 1) - (k + 1)) + 1 := by omega
        rw [e, List.take_succ_cons]
        intro d hd
        rcases List.mem_cons.1 hd with rfl | hd
        · exact hc
        · exact h3 d hd
      · simp

/-! ### digits -/
theorem dig_tokc (c : UInt8) (h : dig c < 16) : tokc c = true := by
  have hl := lowB_toNat c
  unfold tokc
  unfold dig at h
  rw [hl]
  simp only [Bool.or_eq_true, Bool.and_eq_true, decide_eq_true_eq]
  split at h
  · exact .inl (.inr ⟨by omega, by omega⟩)
  · split at h
    · refine .inl (.inl ?_)
      split <;> omega
    · split at h
      · refine .inl (.inl ?_)
        split <;> omega
      · omega
theorem scan_num (base : Nat) (t : List UInt8) (hb : base ≤ 16) : ∀ (b : List UInt8) (m x i v : Nat), numAll base b x = some v → b.length ≤ m → scan base m (b ++ 59 :: t) x i = (v, i + b.length) := by
  intro b
  induction b with
  | nil =>
    intro m x i v h _
    simp only [numAll, Option.some.injEq] at h
    subst h
    cases m with
    | zero => rfl
    | succ m => rw [List.nil_append, scan, if_neg (by have : dig 59 = 16 := by decide
                                                      omega)]; rfl
  | cons c b ih =>
    intro m x i v h hm
    rw [numAll] at h
    split at h
    · rename_i hc
      cases m with
      | zero => simp at hm
      | succ m =>
        rw [List.cons_append, scan, if_pos hc, ih m _ (i + 1) v h (by simpa using hm), List.length_cons]
        congr 1; omega
    · cases h
theorem scan_bad (base : Nat) (t : List UInt8) : ∀ (b : List UInt8) (m x i : Nat), (numAll base b x = none ∨ m < b.length) → (scan base m (b ++ 59 :: t) x i).2 < i + b.length := by
  intro b
  induction b with
  | nil =>
    intro m x i h
    rcases h with h | h
    · cases h
    · simp at h
  | cons c b ih =>
    intro m x i h
    cases m with
    | zero => simp [scan]
    | succ m =>
      rw [List.cons_append, scan]
      split
      · rename_i hc
        have := ih m (x * base + dig c) (i + 1) (by
          rcases h with h | h
          · left; rwa [numAll, if_pos hc] at h
          · right; simpa using h)
        rw [List.length_cons]; omega
      · simp
/-- digits as far as they were read -/
theorem scan_digs (base : Nat) : ∀ (m : Nat) (d : List UInt8) (x i : Nat), ∀ c ∈ d.take ((scan base m d x i).2 - i), dig c < base := by
  intro m
  induction m with
  | zero => intro d x i; simp [scan]
  | succ m ih =>
    intro d x i
    cases d with
    | nil => simp [scan]
    | cons c r =>
      rw [scan]
      split
      · rename_i hc
        have h1 := scan_at base m r (x * base + dig c) (i + 1)
        have e : (scan base m r (x * base + dig c) (i + 1)).2 - i = ((scan base m r (x * base + dig c) (i + 1)).2 - (i + 1)) + 1 := by omega
        rw [e, List.take_succ_cons]
        intro d hd
        rcases List.mem_cons.1 hd with rfl | hd
        · exact hc
        · exact ih r _ _ d hd
      · simp

/-! ### a reference by number, whole -/
theorem numL_body (pre b t : List UInt8) (base most : Nat) (hb : base ≤ 16) (h59 : (59 : UInt8) ∉ b) :
    numL (pre ++ (b ++ 59 :: t)) pre.length base most = (match (if b = [] ∨ most < b.length then none else numAll base b 0) with | some v => (runeL v, pre.length + b.length + 1) | none => ([], 0)) := by
  unfold numL
  rw [List.drop_left]
  simp only
  by_cases hbad : numAll base b 0 = none ∨ most < b.length ∨ b = []
  · have e : (if b = [] ∨ most < b.length then none else numAll base b 0) = none := by
      split
      · rfl
      · rename_i h; rcases hbad with h1 | h1 | h1
        · exact h1
        · exact absurd (.inr h1) h
        · exact absurd (.inl h1) h
    rw [e]
    rw [if_pos]
    by_cases hn : b = []
    · subst hn
      left
      have h1 := scan_num base t hb [] most 0 pre.length 0 rfl (Nat.zero_le _)
      rw [h1]; rfl
    · right
      have hlt := scan_bad base t b most 0 pre.length (by
        rcases hbad with h1 | h1 | h1
        · exact .inl h1
        · exact .inr h1
        · exact absurd h1 hn)
      have hge := (scan_at base most (b ++ 59 :: t) 0 pre.length).1
      generalize (scan base most (b ++ 59 :: t) 0 pre.length).2 = j at hlt hge
      rw [List.getElem?_append_right hge, List.getElem?_append_left (by omega)]
      intro h
      exact h59 (List.mem_of_getElem? h)
  · have h1 : numAll base b 0 ≠ none := fun h => hbad (.inl h)
    have h2 : ¬ most < b.length := fun h => hbad (.inr (.inl h))
    have h3 : b ≠ [] := fun h => hbad (.inr (.inr h))
    obtain ⟨v, hv⟩ := Option.ne_none_iff_exists'.1 h1
    rw [scan_num base t hb b most 0 pre.length v hv (by omega)]
    have hpos := List.length_pos_iff.2 h3
    rw [if_neg, if_neg, hv]
    · rintro (h | h)
      · exact h3 h
      · exact h2 h
    · rintro (h | h)
      · simp only at h; omega
      · apply h
        simp only
        rw [List.getElem?_append_right (by omega), List.getElem?_append_right (by omega)]
        simp
theorem pre_cons (a c : UInt8) (p l : List UInt8) : pre (a :: p) (c :: l) = ((a == c) && pre p l) := rfl
theorem pre_nil (l : List UInt8) : pre [] l = true := by cases l <;> rfl
theorem pre_name (t : List UInt8) : ∀ (n b : List UInt8), (59 : UInt8) ∉ n → (59 : UInt8) ∉ b → pre (n ++ [59]) (b ++ 59 :: t) = decide (b = n) := by
  intro n
  induction n with
  | nil =>
    intro b _ hb
    cases b with
    | nil => simp [pre_cons, pre_nil]
    | cons c b =>
      have : c ≠ 59 := fun h => hb (by simp [h])
      have h2 : ((59 : UInt8) == c) = false := beq_eq_false_iff_ne.2 (fun h => this h.symm)
      simp [pre_cons, h2]
  | cons a n ih =>
    intro b hn hb
    cases b with
    | nil =>
      have : a ≠ 59 := fun h => hn (by simp [h])
      have h2 : (a == (59 : UInt8)) = false := beq_eq_false_iff_ne.2 this
      simp [pre_cons, h2]
    | cons c b =>
      rw [List.cons_append, List.cons_append, pre_cons, ih b (fun h => hn (by simp [h])) (fun h => hb (by simp [h]))]
      by_cases hc : a = c
      · subst hc; simp
      · have h2 : (a == c) = false := beq_eq_false_iff_ne.2 hc
        have h3 : ¬ (c :: b = a :: n) := fun h => hc (List.cons.inj h).1.symm
        simp [h2, h3]
theorem nameL_body (t b : List UInt8) (hb : (59 : UInt8) ∉ b) : ∀ (ns : List (List UInt8 × List UInt8)), (∀ n ∈ ns, (59 : UInt8) ∉ n.1) →
    nameL (ns.map fun n => (n.1 ++ [59], n.2)) (b ++ 59 :: t) = (match nameR ns b with | some s => (s, b.length + 1) | none => ([], 0)) := by
  intro ns
  induction ns with
  | nil => intro _; rfl
  | cons n ns ih =>
    intro h
    rw [List.map_cons, nameL, nameR]
    simp only
    rw [pre_name t n.1 b (h n (by simp)) hb]
    by_cases e : b = n.1
    · simp [e]
    · simp only [e, decide_false, if_false]
      exact ih (fun m hm => h m (by simp [hm]))
theorem refL_body (b t : List UInt8) (h59 : (59 : UInt8) ∉ b) : refL (b ++ 59 :: t) = (match refR b with | some s => (s, b.length + 1) | none => ([], 0)) := by
  have hname : nameL names (b ++ 59 :: t) = (match nameR names0 b with | some s => (s, b.length + 1) | none => ([], 0)) :=
    nameL_body t b h59 names0 (by decide)
  cases b with
  | nil => rw [refR, if_neg (by simp), ← hname]; rfl
  | cons a b =>
    by_cases ha : a = 35
    · subst ha
      have hb59 : (59 : UInt8) ∉ b := fun h => h59 (by simp [h])
      have hR : refR (35 :: b) = (numR b).map runeL := by simp [refR]
      rw [hR]
      cases b with
      | nil =>
        have h0 : numL ([35] ++ ([] ++ 59 :: t)) [35].length 10 7 = _ := numL_body [35] [] t 10 7 (by decide) (by simp)
        have e : refL ([35] ++ 59 :: t) = numL ([35] ++ ([] ++ 59 :: t)) 1 10 7 := by simp [refL, pre_cons, pre_nil]
        rw [e]
        simpa [numR] using h0
      | cons x b =>
        by_cases hx : x = 120 ∨ x = 88
        · have e : refL (35 :: x :: b ++ 59 :: t) = numL ([35, x] ++ (b ++ 59 :: t)) 2 16 6 := by
            rcases hx with rfl | rfl <;> simp [refL, pre_cons, pre_nil]
          have hb : (59 : UInt8) ∉ b := fun h => hb59 (by simp [h])
          have h0 : numL ([35, x] ++ (b ++ 59 :: t)) 2 16 6 = _ := numL_body [35, x] b t 16 6 (by decide) hb
          rw [e, h0]
          have hN : numR (x :: b) = (if b = [] ∨ 6 < b.length then none else numAll 16 b 0) := by
            rcases hx with rfl | rfl <;> (unfold numR; rw [if_pos (by simp)]; rfl)
          rw [hN]
          cases (if b = [] ∨ 6 < b.length then none else numAll 16 b 0) with
          | none => rfl
          | some v => simp [Nat.add_comm, Nat.add_left_comm]
        · have hx1 : ((120 : UInt8) == x) = false := beq_eq_false_iff_ne.2 fun h => hx (.inl h.symm)
          have hx2 : ((88 : UInt8) == x) = false := beq_eq_false_iff_ne.2 fun h => hx (.inr h.symm)
          have e : refL (35 :: x :: b ++ 59 :: t) = numL ([35] ++ (x :: b ++ 59 :: t)) 1 10 7 := by
            simp [refL, pre_cons, pre_nil, hx1, hx2]
          have h0 : numL ([35] ++ (x :: b ++ 59 :: t)) 1 10 7 = _ := numL_body [35] (x :: b) t 10 7 (by decide) hb59
          rw [e, h0]
          have hN : numR (x :: b) = (if x :: b = [] ∨ 7 < (x :: b).length then none else numAll 10 (x :: b) 0) := by
            rw [numR, if_neg]
            simpa using hx
          rw [hN]
          cases (if x :: b = [] ∨ 7 < (x :: b).length then none else numAll 10 (x :: b) 0) with
          | none => rfl
          | some v => simp [Nat.add_comm, Nat.add_left_comm]
    · have ha' : ((35 : UInt8) == a) = false := beq_eq_false_iff_ne.2 fun h => ha h.symm
      have e : refL (a :: b ++ 59 :: t) = nameL names (a :: b ++ 59 :: t) := by
        simp [refL, pre_cons, ha']
      have e2 : refR (a :: b) = nameR names0 (a :: b) := by simp [refR, ha]
      rw [e, e2]; exact hname

/-- whatever is a reference has only such bytes ahead of its ; -/
theorem numL_shape (p d : List UInt8) (base most : Nat) (hb : base ≤ 16) (hp : ∀ c ∈ p, tokc c = true) (hl : p.length + most ≤ 10) (h : (numL (p ++ d) p.length base most).2 ≠ 0) :
    ∃ b t, p ++ d = b ++ 59 :: t ∧ (∀ c ∈ b, tokc c = true) ∧ b.length ≤ 10 := by
  unfold numL at h
  rw [List.drop_left] at h
  simp only at h
  have hat := scan_at base most d 0 p.length
  have hdg := scan_digs base most d 0 p.length
  generalize scan base most d 0 p.length = q at *
  split at h
  · exact absurd rfl h
  · rename_i h1
    have h2 : (p ++ d)[q.2]? = some 59 := Classical.not_not.1 fun x => h1 (.inr x)
    obtain ⟨h3, h4⟩ := List.getElem?_eq_some_iff.1 h2
    refine ⟨(p ++ d).take q.2, (p ++ d).drop (q.2 + 1), ?_, ?_, ?_⟩
    · rw [← h4, ← List.drop_eq_getElem_cons h3, List.take_append_drop]
    · rw [List.take_append, List.take_of_length_le hat.1]
      intro c hc
      rcases List.mem_append.1 hc with hc | hc
      · exact hp c hc
      · exact dig_tokc c (Nat.lt_of_lt_of_le (hdg c hc) hb)
    · rw [List.length_take]; omega
theorem refL_shape (r : List UInt8) (h : (refL r).2 ≠ 0) : ∃ b t, r = b ++ 59 :: t ∧ (∀ c ∈ b, tokc c = true) ∧ b.length ≤ 10 := by
  unfold refL at h
  split at h
  · rename_i h1
    rw [Bool.or_eq_true] at h1
    rcases h1 with h1 | h1 <;> obtain ⟨d, rfl⟩ := (pre_iff _ _).1 h1
    · exact numL_shape [35, 120] d 16 6 (by decide) (by decide) (by decide) h
    · exact numL_shape [35, 88] d 16 6 (by decide) (by decide) (by decide) h
  · split at h
    · rename_i h1
      obtain ⟨d, rfl⟩ := (pre_iff _ _).1 h1
      exact numL_shape [35] d 10 7 (by decide) (by decide) (by decide) h
    · have key : ∀ ns : List (List UInt8 × List UInt8), (∀ n ∈ ns, (∀ c ∈ n.1, tokc c = true) ∧ n.1.length ≤ 10) → (nameL (ns.map fun n => (n.1 ++ [59], n.2)) r).2 ≠ 0 → ∃ b t, r = b ++ 59 :: t ∧ (∀ c ∈ b, tokc c = true) ∧ b.length ≤ 10 := by
        intro ns
        induction ns with
        | nil => intro _ h; exact absurd rfl h
        | cons n ns ih =>
          intro hn h
          rw [List.map_cons, nameL] at h
          split at h
          · rename_i hp
            obtain ⟨t, rfl⟩ := (pre_iff _ _).1 hp
            obtain ⟨q1, q2⟩ := hn n (by simp)
            exact ⟨n.1, t, by simp, q1, q2⟩
          · exact ih (fun m hm => hn m (by simp [hm])) h
      exact key names0 (by decide) h
theorem nameL_none : ∀ (ns : List (List UInt8 × List UInt8)) (l : List UInt8), (∀ n ∈ ns, n.1 ≠ []) → (nameL ns l).2 = 0 → nameL ns l = ([], 0) := by
  intro ns
  induction ns with
  | nil => intro l _ _; rfl
  | cons n ns ih =>
    intro l h h0
    rw [nameL] at h0 ⊢
    split at h0
    · exact absurd (List.eq_nil_of_length_eq_zero h0) (h n (by simp))
    · rename_i hp
      rw [if_neg hp]
      exact ih l (fun m hm => h m (by simp [hm])) h0
theorem numL_none (l : List UInt8) (start base most : Nat) (h : (numL l start base most).2 = 0) : numL l start base most = ([], 0) := by
  unfold numL at h ⊢
  simp only at h ⊢
  split at h
  · rename_i h1; rw [if_pos h1]
  · cases h
theorem refL_none (r : List UInt8) (h : (refL r).2 = 0) : refL r = ([], 0) := by
  unfold refL at h ⊢
  split at h
  · rename_i h1; rw [if_pos h1]; exact numL_none _ _ _ _ h
  · rename_i h1; rw [if_neg h1]
    split at h
    · rename_i h2; rw [if_pos h2]; exact numL_none _ _ _ _ h
    · rename_i h2; rw [if_neg h2]; exact nameL_none _ _ (by decide) h
/-- THE TWO WAYS AGREE. -/
theorem refT_eq (r : List UInt8) : refT r = refL r := by
  unfold refT
  split
  · rename_i h
    obtain ⟨h3, h4⟩ := List.getElem?_eq_some_iff.1 h
    have hall := tokEnd_all 10 r 0
    rw [Nat.sub_zero] at hall
    generalize tokEnd 10 r 0 = k at *
    have hr : r = r.take k ++ 59 :: r.drop (k + 1) := by
      rw [← h4, ← List.drop_eq_getElem_cons h3, List.take_append_drop]
    have h59 : (59 : UInt8) ∉ r.take k := fun hm => absurd (hall.2.2 59 hm) (by decide)
    have hb := refL_body (r.take k) (r.drop (k + 1)) h59
    rw [← hr] at hb
    rw [hb, List.length_take, Nat.min_eq_left (by omega)]
  · rename_i h
    by_cases h0 : (refL r).2 = 0
    · exact (refL_none r h0).symm
    · obtain ⟨b, t, rfl, hb, hl⟩ := refL_shape r h0
      exfalso
      apply h
      rw [tokEnd_body t b 10 0 hb hl, Nat.zero_add]
      simp

/-! ### numbers in digits -/
def val (base : Nat) (b : List UInt8) : Nat := b.foldl (fun x c => x * base + dig c) 0
theorem numAll_val (base : Nat) : ∀ (b : List UInt8) (x : Nat), (∀ c ∈ b, dig c < base) → numAll base b x = some (b.foldl (fun x c => x * base + dig c) x) := by
  intro b
  induction b with
  | nil => intro x _; rfl
  | cons c b ih =>
    intro x h
    rw [numAll, if_pos (h c (by simp)), ih _ (fun d hd => h d (by simp [hd]))]; rfl
theorem foldl_val (base : Nat) : ∀ (b : List UInt8) (x : Nat), b.foldl (fun x c => x * base + dig c) x = x * base ^ b.length + val base b := by
  intro b
  induction b with
  | nil => intro x; simp [val]
  | cons c b ih =>
    intro x
    have h1 := ih (x * base + dig c)
    have h2 := ih (dig c)
    simp only [val, List.foldl_cons, List.length_cons, Nat.zero_mul, Nat.zero_add] at *
    rw [h1, h2, Nat.pow_succ', Nat.add_mul, Nat.mul_assoc, Nat.add_assoc]
theorem val_cons (base : Nat) (c : UInt8) (b : List UInt8) : val base (c :: b) = dig c * base ^ b.length + val base b := by
  have := foldl_val base b (0 * base + dig c)
  simp only [Nat.zero_mul, Nat.zero_add] at this
  simp only [val, List.foldl_cons, Nat.zero_mul, Nat.zero_add]
  exact this
theorem ref_dec (b t : List UInt8) (h : ∀ c ∈ b, dig c < 10) (h0 : b ≠ []) (hl : b.length ≤ 7) : decL (38 :: 35 :: b ++ 59 :: t) = runeL (val 10 b) ++ decL t := by
  have h59 : (59 : UInt8) ∉ (35 :: b) := by
    intro hm
    rcases List.mem_cons.1 hm with e | hm
    · exact absurd e (by decide)
    · exact absurd (h 59 hm) (by decide)
  have hb := refL_body (35 :: b) t h59
  have hx : ¬ (b.head? = some 120 ∨ b.head? = some 88) := by
    cases b with
    | nil => exact absurd rfl h0
    | cons x b =>
      have := h x (by simp)
      rintro (e | e)
      · simp at e; subst e; exact absurd this (by decide)
      · simp at e; subst e; exact absurd this (by decide)
  have hR : refR (35 :: b) = some (runeL (val 10 b)) := by
    rw [refR, if_pos (by simp), List.tail_cons, numR, if_neg hx, if_neg (by rintro (e | e); exact h0 e; omega), numAll_val 10 b 0 h]; rfl
  rw [hR] at hb
  have := dec_body (35 :: b ++ [59]) (runeL (val 10 b)) t ((35 :: b).length + 1) (by simpa using hb) (by simp) (by simp)
  simpa using this
theorem ref_hex (x : UInt8) (b t : List UInt8) (hx : x = 120 ∨ x = 88) (h : ∀ c ∈ b, dig c < 16) (h0 : b ≠ []) (hl : b.length ≤ 6) : decL (38 :: 35 :: x :: b ++ 59 :: t) = runeL (val 16 b) ++ decL t := by
  have h59 : (59 : UInt8) ∉ (35 :: x :: b) := by
    intro hm
    rcases List.mem_cons.1 hm with e | hm
    · exact absurd e (by decide)
    · rcases List.mem_cons.1 hm with e | hm
      · rcases hx with rfl | rfl <;> exact absurd e (by decide)
      · exact absurd (h 59 hm) (by decide)
  have hb := refL_body (35 :: x :: b) t h59
  have hR : refR (35 :: x :: b) = some (runeL (val 16 b)) := by
    rw [refR, if_pos (by simp), List.tail_cons, numR, if_pos (by simpa using hx), List.tail_cons, if_neg (by rintro (e | e); exact h0 e; omega), numAll_val 16 b 0 h]; rfl
  rw [hR] at hb
  have := dec_body (35 :: x :: b ++ [59]) (runeL (val 16 b)) t ((35 :: x :: b).length + 1) (by simpa using hb) (by simp) (by simp)
  simpa using this
end Go.Proofs.YtjbkgokiikbaeaaGreatDoor.Pl
/-
  A PAGE AS TOKENS, plain: a state, the step from one to the next, what a page is made of.
-/
namespace Go.Proofs.YtjbkgokiikbaeaaGreatDoor

/-- a state: At, Name, End, Attr, Held, Read -/
structure Ts where
  pl : Int
  name : ByteArray
  fin : Bool
  attr : ByteArray
  held : ByteArray
  read : Int
deriving DecidableEq

def Ts.e : ByteArray := ⟨#[]⟩
def Ts.val (s : Ts) : Value := .agg #[.int .i64 s.pl, .string s.name, .bool s.fin, .string s.attr, .string s.held, .int .i64 s.read]
def Ts.start : Ts := ⟨0, Ts.e, false, Ts.e, Ts.e, 0⟩
def Ts.inTag (a : Int) : Bool := decide (3 ≤ a) && decide (a ≤ 12)
def Ts.hasAttr (a : Int) : Bool := decide (5 ≤ a) && decide (a ≤ 10)
def Ts.blank (c : UInt8) : Bool := c == 9 || c == 10 || c == 12 || c == 13 || c == 32
def Ts.letter (c : UInt8) : Bool := (decide (65 ≤ c.toNat) && decide (c.toNat ≤ 90)) || (decide (97 ≤ c.toNat) && decide (c.toNat ≤ 122))
def Ts.low (c : UInt8) : ByteArray := ⟨#[Pl.lowB c]⟩
def Ts.grown (n : ByteArray) (c : UInt8) : ByteArray := if 32 ≤ n.size then n.extract 0 32 else n ++ Ts.low c
/-- the state at another place -/
def Ts.to (s : Ts) (a : Int) : Ts :=
  ⟨a, if Ts.inTag a = true then s.name else Ts.e, if Ts.inTag a = true then s.fin else false, if Ts.hasAttr a = true then s.attr else Ts.e, if 19 ≤ a then s.held else Ts.e, if a = 22 then s.read else 0⟩
def Ts.openTag (s : Ts) (c : UInt8) : Ts := { s.to 3 with name := Ts.low c }
def Ts.openAttr (s : Ts) (c : UInt8) : Ts := { s.to 5 with attr := Ts.low c }
/-- which of the elements a name is -/
def Ts.kind (n : ByteArray) : Int :=
  let l := n.data.toList
  if l = [98, 114] ∨ l = [105, 109, 103] ∨ l = [105, 110, 112, 117, 116] ∨ l = [104, 114] ∨ l = [109, 101, 116, 97] ∨ l = [108, 105, 110, 107] then 1
  else if l = [116, 105, 116, 108, 101] ∨ l = [116, 101, 120, 116, 97, 114, 101, 97] then 2
  else if l = [115, 99, 114, 105, 112, 116] then 3
  else if l = [115, 116, 121, 108, 101] then 4 else 0
def Ts.closed (s : Ts) : Ts := if s.fin = true ∨ Ts.kind s.name = 0 ∨ Ts.kind s.name = 1 then s.to 0 else ({ s with held := s.name } : Ts).to 19
def Ts.data (s : Ts) (c : UInt8) : Ts := if c = 60 then s.to 1 else s
def Ts.tagOpen (s : Ts) (c : UInt8) : Ts := if Ts.letter c = true then s.openTag c else if c = 47 then s.to 2 else if c = 33 then s.to 13 else if c = 60 then s else s.to 0
def Ts.endOpen (s : Ts) (c : UInt8) : Ts := if Ts.letter c = true then { s.openTag c with fin := true } else if c = 60 then s.to 1 else s.to 0
def Ts.tagName (s : Ts) (c : UInt8) : Ts := if Ts.blank c = true then s.to 4 else if c = 47 then s.to 12 else if c = 62 then s.closed else { s with name := Ts.grown s.name c }
def Ts.beforeAttr (s : Ts) (c : UInt8) : Ts := if Ts.blank c = true then s else if c = 47 then s.to 12 else if c = 62 then s.closed else s.openAttr c
def Ts.attrName (s : Ts) (c : UInt8) : Ts := if Ts.blank c = true then s.to 6 else if c = 47 then s.to 12 else if c = 62 then s.closed else if c = 61 then s.to 7 else { s with attr := Ts.grown s.attr c }
def Ts.afterName (s : Ts) (c : UInt8) : Ts := if Ts.blank c = true then s else if c = 47 then s.to 12 else if c = 62 then s.closed else if c = 61 then s.to 7 else s.openAttr c
def Ts.beforeValue (s : Ts) (c : UInt8) : Ts := if Ts.blank c = true then s else if c = 34 then s.to 8 else if c = 39 then s.to 9 else if c = 62 then s.closed else s.to 10
def Ts.quoted (q : UInt8) (s : Ts) (c : UInt8) : Ts := if c = q then s.to 11 else s
def Ts.bare (s : Ts) (c : UInt8) : Ts := if Ts.blank c = true then s.to 4 else if c = 62 then s.closed else s
def Ts.afterValue (s : Ts) (c : UInt8) : Ts := if Ts.blank c = true then s.to 4 else if c = 47 then s.to 12 else if c = 62 then s.closed else s.openAttr c
def Ts.selfClose (s : Ts) (c : UInt8) : Ts := if c = 62 then s.closed else if Ts.blank c = true then s.to 4 else if c = 47 then s else s.openAttr c
def Ts.bang (s : Ts) (c : UInt8) : Ts := if c = 45 then s.to 14 else if c = 62 then s.to 0 else s.to 18
def Ts.bangDash (s : Ts) (c : UInt8) : Ts := if c = 45 then s.to 15 else if c = 62 then s.to 0 else s.to 18
def Ts.comment (s : Ts) (c : UInt8) : Ts := if c = 45 then s.to 16 else s
def Ts.commentDash (s : Ts) (c : UInt8) : Ts := if c = 45 then s.to 17 else s.to 15
def Ts.commentEnd (s : Ts) (c : UInt8) : Ts := if c = 62 then s.to 0 else if c = 45 then s else s.to 15
def Ts.bogus (s : Ts) (c : UInt8) : Ts := if c = 62 then s.to 0 else s
def Ts.heldS (s : Ts) (c : UInt8) : Ts := if c = 60 then s.to 20 else s
def Ts.heldLt (s : Ts) (c : UInt8) : Ts := if c = 47 then s.to 21 else if c = 60 then s else s.to 19
/-- is c the byte of Held that is to be read next? -/
def Ts.heldAt (s : Ts) (c : UInt8) : Bool := decide (0 ≤ s.read) && decide (s.read < s.held.size) && (Pl.lowB (s.held.data.toList.getD s.read.toNat 0) == Pl.lowB c)
def Ts.heldOn (s : Ts) (c : UInt8) : Ts := if c = 60 then s.to 20 else s.to 19
def Ts.heldSlash (s : Ts) (c : UInt8) : Ts := if Ts.heldAt s c = true then { s.to 22 with read := 1 } else s.heldOn c
def Ts.heldEnd (s : Ts) (a : Int) : Ts := ({ s with name := s.held, fin := true } : Ts).to a
def Ts.heldName (s : Ts) (c : UInt8) : Ts :=
  if Ts.heldAt s c = true then { s with read := s.read + 1 } else if s.read < s.held.size then s.heldOn c else if Ts.blank c = true then s.heldEnd 4 else if c = 47 then s.heldEnd 12 else if c = 62 then s.to 0 else s.heldOn c
/-- the function of a place -/
def Ts.at (s : Ts) (c : UInt8) : Nat → Ts
  | 0 => s.data c
  | 1 => s.tagOpen c
  | 2 => s.endOpen c
  | 3 => s.tagName c
  | 4 => s.beforeAttr c
  | 5 => s.attrName c
  | 6 => s.afterName c
  | 7 => s.beforeValue c
  | 8 => s.quoted 34 c
  | 9 => s.quoted 39 c
  | 10 => s.bare c
  | 11 => s.afterValue c
  | 12 => s.selfClose c
  | 13 => s.bang c
  | 14 => s.bangDash c
  | 15 => s.comment c
  | 16 => s.commentDash c
  | 17 => s.commentEnd c
  | 18 => s.bogus c
  | 19 => s.heldS c
  | 20 => s.heldLt c
  | 21 => s.heldSlash c
  | _ => s.heldName c
def Ts.step (s : Ts) (c : UInt8) : Ts := if s.pl < 0 ∨ 23 ≤ s.pl then s else (s.to s.pl).at c s.pl.toNat

/-- a token: Kind, Name, Text, Attrs, Self -/
structure Tk where
  kind : Int
  name : ByteArray
  text : ByteArray
  attrs : List (ByteArray × ByteArray)
  self : Bool
deriving DecidableEq

/-- the reader's parts -/
structure Rd where
  st : Ts
  toks : List Tk
  text : Nat
  opn : Nat
  value : Nat
  attrs : List (ByteArray × ByteArray)
  taken : Bool
deriving DecidableEq

def Rd.loose (a : Int) : Bool := decide (a < 3) || decide (19 ≤ a)
def Rd.dec (b : ByteArray) : ByteArray := ⟨(Pl.decL b.data.toList).toArray⟩
def Rd.tell (r : Rd) (t : Tk) (next : Nat) : Rd := { r with toks := r.toks ++ [t], text := next, attrs := [] }
def Rd.textOf (P : ByteArray) (a b : Nat) (held : ByteArray) : ByteArray := if Ts.kind held = 3 ∨ Ts.kind held = 4 then P.extract a b else Rd.dec (P.extract a b)
def Rd.tellText (P : ByteArray) (r : Rd) (fin : Nat) (held : ByteArray) : Rd := if r.text = fin then r else r.tell ⟨0, Ts.e, Rd.textOf P r.text fin held, [], false⟩ fin
def Rd.tellTag (r : Rd) (was : Ts) (i : Nat) : Rd := if was.fin = true then r.tell ⟨2, was.name, Ts.e, [], false⟩ (i + 1) else r.tell ⟨1, was.name, Ts.e, r.attrs, was.pl == 12⟩ (i + 1)
def Rd.tellComment (P : ByteArray) (r : Rd) (was : Ts) (i : Nat) : Rd := r.tell ⟨3, Ts.e, if was.pl = 17 then P.extract (r.opn + 4) (i - 2) else P.extract (r.opn + 2) i, [], false⟩ (i + 1)
def Rd.addAttr (r : Rd) (n : ByteArray) : Rd :=
  if r.attrs.length < 32 ∧ r.attrs.any (fun a => decide (a.1 = n)) = false then { r with attrs := r.attrs ++ [(n, Ts.e)], taken := true } else { r with taken := false }
/-- the last attribute's value -/
def Rd.setLast (l : List (ByteArray × ByteArray)) (v : ByteArray) : List (ByteArray × ByteArray) := l.modify (l.length - 1) (fun a => (a.1, v))
def Rd.readAttr (P : ByteArray) (r : Rd) (was now : Ts) (i : Nat) : Rd :=
  if was.pl = now.pl then r
  else if was.pl = 5 then r.addAttr was.attr
  else if was.pl = 7 then { r with value := if now.pl = 10 then i else i + 1 }
  else if was.pl = 8 ∨ was.pl = 9 ∨ was.pl = 10 then (if r.taken = true then { r with attrs := Rd.setLast r.attrs (Rd.dec (P.extract r.value i)) } else r)
  else r
def Rd.tags (P : ByteArray) (r : Rd) (was : Ts) (i : Nat) : Rd :=
  let r2 := Rd.readAttr P r was r.st i
  if Rd.loose r.st.pl = true then r2.tellTag was i else r2
def Rd.read (P : ByteArray) (r0 : Rd) (i : Nat) (c : UInt8) : Rd :=
  let was := r0.st
  let now := was.step c
  let r : Rd := { r0 with st := now, opn := if now.pl = 1 ∨ now.pl = 20 then i else r0.opn }
  if was.pl = 22 ∧ now.pl = 0 then (Rd.tellText P r r.opn was.held).tell ⟨2, was.held, Ts.e, [], false⟩ (i + 1)
  else if Rd.loose was.pl = true ∧ Rd.loose now.pl = false then Rd.tellText P r r.opn was.held
  else if Ts.inTag was.pl = true then Rd.tags P r was i
  else if Rd.loose was.pl = false ∧ Rd.loose now.pl = true then Rd.tellComment P r was i
  else r
/-- over the bytes from a place on -/
def Rd.run (P : ByteArray) (r : Rd) (i : Nat) : List UInt8 → Rd
  | [] => r
  | c :: l => Rd.run P (Rd.read P r i c) (i + 1) l
def Rd.start : Rd := ⟨Ts.start, [], 0, 0, 0, [], false⟩
def Rd.done (P : ByteArray) (r : Rd) : List Tk := if Rd.loose r.st.pl = true then (Rd.tellText P r P.size r.st.held).toks else r.toks
/-- a byte 10 for each end of a line -/
def Rd.lines : List UInt8 → List UInt8
  | [] => []
  | 13 :: 10 :: l => 10 :: Rd.lines l
  | c :: l => (if c = 13 then 10 else c) :: Rd.lines l
def Rd.page (s : ByteArray) : ByteArray := ⟨(Rd.lines s.data.toList).toArray⟩
def Rd.tokens (s : ByteArray) : List Tk := Rd.done (Rd.page s) (Rd.run (Rd.page s) Rd.start 0 (Rd.lines s.data.toList))
end Go.Proofs.YtjbkgokiikbaeaaGreatDoor
/-
  The library's contracts that the walks lean on, laid at this program's own numbers: strings.Builder's Grow, WriteString and String, and strings.HasPrefix; each is one application of a theorem of the library.
-/
namespace Go.Proofs.YtjbkgokiikbaeaaGreatDoor
open Go.Shelf
def Sh.lays169_ren : Go.Shelf.Ren := ⟨fun | 169 => 105 | n => n, fun | 70 => 93 | 9 => 9 | 0 => 0 | 72 => 95 | 37 => 43 | 127 => 113 | 3 => 3 | 5 => 5 | n => n, fun | n => n⟩
theorem Sh.lays169 : Go.Proofs.Lays.n169 Tryz.prog Sh.lays169_ren := {
  mixed := by kernel_rfl
  f169 := Tryz.func105.trans (congrArg some (by kernel_rfl))
  t0 := Tryz.underlying0
  a0 := Tryz.isAgg0
  z0 := Tryz.sizeOf0
  v0 := Tryz.zeroValue0
  t3 := Tryz.underlying3
  a3 := Tryz.isAgg3
  z3 := Tryz.sizeOf3
  v3 := Tryz.zeroValue3
  t9 := Tryz.underlying9
  a9 := Tryz.isAgg9
  z9 := Tryz.sizeOf9
  v9 := Tryz.zeroValue9
  t37 := Tryz.underlying43
  a37 := Tryz.isAgg43
  z37 := Tryz.sizeOf43
  v37 := Tryz.zeroValue43
  t70 := Tryz.underlying93
  a70 := Tryz.isAgg93
  z70 := Tryz.sizeOf93
  v70 := Tryz.zeroValue93
  t72 := Tryz.underlying95
  a72 := Tryz.isAgg95
  z72 := Tryz.sizeOf95
  v72 := Tryz.zeroValue95
  t127 := Tryz.underlying113
  a127 := Tryz.isAgg113
  z127 := Tryz.sizeOf113
  v127 := Tryz.zeroValue113 }
theorem Sh.Builder_Extra_169 : Builder.Extra Tryz.prog Sh.lays169_ren := {
  sizeBuilder := by kernel_rfl
  liesBuilder := by kernel_rfl
  t5 := Tryz.underlying5
  a5 := Tryz.isAgg5
  z5 := Tryz.sizeOf5
  v5 := Tryz.zeroValue5
  infoByte := by kernel_rfl
  cellsByte := by kernel_rfl
  sizeByte := by kernel_rfl
  neB5 := by decide }
def Sh.lays165_ren : Go.Shelf.Ren := ⟨fun | 165 => 101 | 240 => 115 | 241 => 116 | 276 => 128 | 277 => 129 | n => n, fun | 70 => 93 | 3 => 3 | 0 => 0 | 4 => 4 | 9 => 9 | 20 => 20 | 72 => 95 | 37 => 43 | 164 => 121 | 5 => 5 | n => n, fun | n => n⟩
theorem Sh.lays165 : Go.Proofs.Lays.n165 Tryz.prog Sh.lays165_ren := {
  mixed := by kernel_rfl
  f165 := Tryz.func101.trans (congrArg some (by kernel_rfl))
  f240 := Tryz.func115.trans (congrArg some (by kernel_rfl))
  f241 := Tryz.func116.trans (congrArg some (by kernel_rfl))
  f276 := Tryz.func128.trans (congrArg some (by kernel_rfl))
  f277 := Tryz.func129.trans (congrArg some (by kernel_rfl))
  t0 := Tryz.underlying0
  a0 := Tryz.isAgg0
  z0 := Tryz.sizeOf0
  v0 := Tryz.zeroValue0
  t3 := Tryz.underlying3
  a3 := Tryz.isAgg3
  z3 := Tryz.sizeOf3
  v3 := Tryz.zeroValue3
  t4 := Tryz.underlying4
  a4 := Tryz.isAgg4
  z4 := Tryz.sizeOf4
  v4 := Tryz.zeroValue4
  t9 := Tryz.underlying9
  a9 := Tryz.isAgg9
  z9 := Tryz.sizeOf9
  v9 := Tryz.zeroValue9
  t20 := Tryz.underlying20
  a20 := Tryz.isAgg20
  z20 := Tryz.sizeOf20
  v20 := Tryz.zeroValue20
  t37 := Tryz.underlying43
  a37 := Tryz.isAgg43
  z37 := Tryz.sizeOf43
  v37 := Tryz.zeroValue43
  t70 := Tryz.underlying93
  a70 := Tryz.isAgg93
  z70 := Tryz.sizeOf93
  v70 := Tryz.zeroValue93
  t72 := Tryz.underlying95
  a72 := Tryz.isAgg95
  z72 := Tryz.sizeOf95
  v72 := Tryz.zeroValue95
  t164 := Tryz.underlying121
  a164 := Tryz.isAgg121
  z164 := Tryz.sizeOf121
  v164 := Tryz.zeroValue121 }
theorem Sh.Builder_Extra_165 : Builder.Extra Tryz.prog Sh.lays165_ren := {
  sizeBuilder := by kernel_rfl
  liesBuilder := by kernel_rfl
  t5 := Tryz.underlying5
  a5 := Tryz.isAgg5
  z5 := Tryz.sizeOf5
  v5 := Tryz.zeroValue5
  infoByte := by kernel_rfl
  cellsByte := by kernel_rfl
  sizeByte := by kernel_rfl
  neB5 := by decide }
open Go.RowKit in
theorem Sh.Builder_Grow_fresh (B b n : Nat) (w : World) (hB : B ≤ b) (hbk : w.heap[b]? = some (.cells #[.pointer none, .slice none 0 0] 95 (0, 0))) (hBw : B ≤ w.heap.size) (hn : n ≤ 281474976710656) :
    Calls Tryz.prog 101 #[.pointer (some ⟨b, 0, none⟩), .int .i64 n] w fun e w' => e = .returned (.tuple #[]) ∧ (Lib.BuilderAt 95 5 B b (.pointer (some ⟨b, 0, none⟩)) [] w' ∧ Below B w w') := Any.Builder_Grow_fresh Sh.lays165 Sh.Builder_Extra_165 B b n w hB hbk hBw hn
open Go.RowKit in
theorem Sh.Builder_String_any_k (B b : Nat) (l : List UInt8) (w : World) (h : Lib.IsBuilderF 95 5 B b (Lib.byteCells l) w) (hBw : B ≤ w.heap.size) :
    Calls Tryz.prog 105 #[.pointer (some ⟨b, 0, none⟩)] w fun e w' => e = .returned (.string ⟨l.toArray⟩) ∧ (Lib.IsBuilderF 95 5 B b (Lib.byteCells l) w' ∧ Below B w w' ∧ Lib.OthersKept 5 (some b) w w') := Any.Builder_String_any_k Sh.lays169 Sh.Builder_Extra_169 B b l w h hBw
def Sh.lays166_ren : Go.Shelf.Ren := ⟨fun | 166 => 104 | 240 => 115 | 276 => 128 | n => n, fun | 70 => 93 | 3 => 3 | 0 => 0 | 4 => 4 | 9 => 9 | 20 => 20 | 72 => 95 | 37 => 43 | 164 => 121 | 5 => 5 | 75 => 100 | 80 => 104 | n => n, fun | n => n⟩
theorem Sh.lays166 : Go.Proofs.Lays.n166 Tryz.prog Sh.lays166_ren := {
  mixed := by kernel_rfl
  f166 := Tryz.func104.trans (congrArg some (by kernel_rfl))
  f240 := Tryz.func115.trans (congrArg some (by kernel_rfl))
  f276 := Tryz.func128.trans (congrArg some (by kernel_rfl))
  t0 := Tryz.underlying0
  a0 := Tryz.isAgg0
  z0 := Tryz.sizeOf0
  v0 := Tryz.zeroValue0
  t3 := Tryz.underlying3
  a3 := Tryz.isAgg3
  z3 := Tryz.sizeOf3
  v3 := Tryz.zeroValue3
  t4 := Tryz.underlying4
  a4 := Tryz.isAgg4
  z4 := Tryz.sizeOf4
  v4 := Tryz.zeroValue4
  t9 := Tryz.underlying9
  a9 := Tryz.isAgg9
  z9 := Tryz.sizeOf9
  v9 := Tryz.zeroValue9
  t20 := Tryz.underlying20
  a20 := Tryz.isAgg20
  z20 := Tryz.sizeOf20
  v20 := Tryz.zeroValue20
  t37 := Tryz.underlying43
  a37 := Tryz.isAgg43
  z37 := Tryz.sizeOf43
  v37 := Tryz.zeroValue43
  t70 := Tryz.underlying93
  a70 := Tryz.isAgg93
  z70 := Tryz.sizeOf93
  v70 := Tryz.zeroValue93
  t72 := Tryz.underlying95
  a72 := Tryz.isAgg95
  z72 := Tryz.sizeOf95
  v72 := Tryz.zeroValue95
  t75 := Tryz.underlying100
  a75 := Tryz.isAgg100
  z75 := Tryz.sizeOf100
  v75 := Tryz.zeroValue100
  t164 := Tryz.underlying121
  a164 := Tryz.isAgg121
  z164 := Tryz.sizeOf121
  v164 := Tryz.zeroValue121 }
theorem Sh.Builder_Extra_166 : Builder.Extra Tryz.prog Sh.lays166_ren := {
  sizeBuilder := by kernel_rfl
  liesBuilder := by kernel_rfl
  t5 := Tryz.underlying5
  a5 := Tryz.isAgg5
  z5 := Tryz.sizeOf5
  v5 := Tryz.zeroValue5
  infoByte := by kernel_rfl
  cellsByte := by kernel_rfl
  sizeByte := by kernel_rfl
  neB5 := by decide }
open Go.RowKit in
theorem Sh.Builder_WriteString_k (B b : Nat) (bs : List Value) (s : ByteArray) (w : World) (h : Lib.IsBuilderF 95 5 B b bs w) (hlen : bs.length + s.size ≤ 140737488355328) (hBw : B ≤ w.heap.size) :
    Calls Tryz.prog 104 #[.pointer (some ⟨b, 0, none⟩), .string s] w fun e w' => e = .returned (.tuple #[.int .i64 s.size, .nilIface]) ∧ (Lib.BuilderAtF 95 5 B b (.pointer (some ⟨b, 0, none⟩)) (bs ++ Lib.strCells s) w' ∧ Below B w w' ∧ Lib.OthersKept 5 (some b) w w') := Any.Builder_WriteString_k Sh.lays166 Sh.Builder_Extra_166 B b bs s w h hlen hBw
def Sh.lays167_ren : Go.Shelf.Ren := ⟨fun | 167 => 103 | 240 => 115 | 276 => 128 | n => n, fun | 70 => 93 | 3 => 3 | 0 => 0 | 4 => 4 | 9 => 9 | 20 => 20 | 72 => 95 | 37 => 43 | 164 => 121 | 5 => 5 | 75 => 100 | 80 => 104 | n => n, fun | n => n⟩
theorem Sh.lays167 : Go.Proofs.Lays.n167 Tryz.prog Sh.lays167_ren := {
  mixed := by kernel_rfl
  f167 := Tryz.func103.trans (congrArg some (by kernel_rfl))
  f240 := Tryz.func115.trans (congrArg some (by kernel_rfl))
  f276 := Tryz.func128.trans (congrArg some (by kernel_rfl))
  t0 := Tryz.underlying0
  a0 := Tryz.isAgg0
  z0 := Tryz.sizeOf0
  v0 := Tryz.zeroValue0
  t4 := Tryz.underlying4
  a4 := Tryz.isAgg4
  z4 := Tryz.sizeOf4
  v4 := Tryz.zeroValue4
  t5 := Tryz.underlying5
  a5 := Tryz.isAgg5
  z5 := Tryz.sizeOf5
  v5 := Tryz.zeroValue5
  t9 := Tryz.underlying9
  a9 := Tryz.isAgg9
  z9 := Tryz.sizeOf9
  v9 := Tryz.zeroValue9
  t20 := Tryz.underlying20
  a20 := Tryz.isAgg20
  z20 := Tryz.sizeOf20
  v20 := Tryz.zeroValue20
  t37 := Tryz.underlying43
  a37 := Tryz.isAgg43
  z37 := Tryz.sizeOf43
  v37 := Tryz.zeroValue43
  t70 := Tryz.underlying93
  a70 := Tryz.isAgg93
  z70 := Tryz.sizeOf93
  v70 := Tryz.zeroValue93
  t72 := Tryz.underlying95
  a72 := Tryz.isAgg95
  z72 := Tryz.sizeOf95
  v72 := Tryz.zeroValue95
  t75 := Tryz.underlying100
  a75 := Tryz.isAgg100
  z75 := Tryz.sizeOf100
  v75 := Tryz.zeroValue100
  t164 := Tryz.underlying121
  a164 := Tryz.isAgg121
  z164 := Tryz.sizeOf121
  v164 := Tryz.zeroValue121 }
theorem Sh.Builder_Extra_167 : Builder.Extra Tryz.prog Sh.lays167_ren := {
  sizeBuilder := by kernel_rfl
  liesBuilder := by kernel_rfl
  t5 := Tryz.underlying5
  a5 := Tryz.isAgg5
  z5 := Tryz.sizeOf5
  v5 := Tryz.zeroValue5
  infoByte := by kernel_rfl
  cellsByte := by kernel_rfl
  sizeByte := by kernel_rfl
  neB5 := by decide }
open Go.RowKit in
theorem Sh.Builder_WriteByte_k (B b : Nat) (bs : List Value) (c : Int) (w : World) (h : Lib.IsBuilderF 95 5 B b bs w) (hlen : bs.length + 1 ≤ 140737488355328) (hBw : B ≤ w.heap.size) :
    Calls Tryz.prog 103 #[.pointer (some ⟨b, 0, none⟩), .int .u8 c] w fun e w' => e = .returned .nilIface ∧ (Lib.BuilderAtF 95 5 B b (.pointer (some ⟨b, 0, none⟩)) (bs ++ [.int .u8 c]) w' ∧ Below B w w' ∧ Lib.OthersKept 5 (some b) w w') := Any.Builder_WriteByte_k Sh.lays167 Sh.Builder_Extra_167 B b bs c w h hlen hBw
def Sh.lays99_ren : Go.Shelf.Ren := ⟨fun | 99 => 117 | 206 => 130 | n => n, fun | 9 => 9 | 3 => 3 | 4 => 4 | n => n, fun | n => n⟩
theorem Sh.lays99 : Go.Proofs.Lays.n99 Tryz.prog Sh.lays99_ren := {
  mixed := by kernel_rfl
  f99 := Tryz.func117.trans (congrArg some (by kernel_rfl))
  f206 := Tryz.func130.trans (congrArg some (by kernel_rfl))
  t3 := Tryz.underlying3
  a3 := Tryz.isAgg3
  z3 := Tryz.sizeOf3
  v3 := Tryz.zeroValue3
  t4 := Tryz.underlying4
  a4 := Tryz.isAgg4
  z4 := Tryz.sizeOf4
  v4 := Tryz.zeroValue4
  t9 := Tryz.underlying9
  a9 := Tryz.isAgg9
  z9 := Tryz.sizeOf9
  v9 := Tryz.zeroValue9 }
open Go.RowKit in
theorem Sh.strings_HasPrefix (s p : ByteArray) (w : World) :
    Calls Tryz.prog 117 #[.string s, .string p] w fun e w' => e = .returned (.bool (Lib.hasPrefix s.data.toList p.data.toList)) ∧ w' = w := Any.strings_HasPrefix Sh.lays99 s p w
end Go.Proofs.YtjbkgokiikbaeaaGreatDoor
/-
  SMALL THINGS for walks over strings; the walk of stolelaw0.Num at 0.
-/
namespace Go.Proofs.YtjbkgokiikbaeaaGreatDoor
open Go.RowKit
theorem Wk.num (w : World) : Calls Tryz.prog 14 #[.int .i64 0] w fun e w' => e = .returned (.int .i64 0) ∧ w' = w := by
  go_enter Tryz.func14, Tryz.ntmps14
  go_wp2
  go_ret
  exact ⟨rfl, rfl⟩
theorem Wk.rest_data (s : ByteArray) (k : Nat) : (s.extract k s.size).data.toList = s.data.toList.drop k := by
  rw [Lib.extract_data, List.take_of_length_le]
  rw [List.length_drop, Array.length_toList]
  exact Nat.le_refl _
theorem Wk.len_data (s : ByteArray) : s.data.toList.length = s.size := by rw [Array.length_toList]; rfl
theorem Wk.drop_ne (s : ByteArray) (k : Nat) (h : k < s.size) : s.data.toList.drop k ≠ [] := by
  intro e
  have := congrArg List.length e
  rw [List.length_drop, Wk.len_data] at this
  simp at this
  omega
theorem Wk.ret_bool {a b : Bool} (h : a = b) : Ending.returned (.bool a) = .returned (.bool b) := by rw [h]
theorem Wk.below_step {w wr w1 : World} (h : Below w.heap.size w wr) (h1 : Below wr.heap.size wr w1) : Below w.heap.size w w1 := h.trans (h1.mono h.size)

theorem Wk.info5 : (Tryz.prog.info? 5).map (fun i => (i.zero, i.size, i.bytes)) = some (some (.int .u8 0), 1, 1) := by kernel_rfl
theorem Wk.low (c : UInt8) (w : World) :
    Calls Tryz.prog 134 #[.int .u8 c.toNat] w fun e w' => e = .returned (.int .u8 (Pl.lowB c).toNat) ∧ w' = w := by
  have hc := c.toNat_lt
  have hl := Pl.lowB_toNat c
  generalize (Pl.lowB c).toNat = m at *
  generalize c.toNat = k at *
  by_cases h1 : 65 ≤ k
  · by_cases h2 : k ≤ 90
    · rw [if_pos ⟨h1, h2⟩] at hl
      subst hl
      go_enter Tryz.func134, Tryz.ntmps134
      go_wp2
      go_ret
      exact ⟨by simp, rfl⟩
    · rw [if_neg (by omega)] at hl
      subst hl
      go_enter Tryz.func134, Tryz.ntmps134
      go_wp2
      go_ret
      exact ⟨rfl, rfl⟩
  · rw [if_neg (by omega)] at hl
    subst hl
    go_enter Tryz.func134, Tryz.ntmps134
    go_wp2
    go_ret
    exact ⟨rfl, rfl⟩
end Go.Proofs.YtjbkgokiikbaeaaGreatDoor
/-
  SMALL THINGS: a Builder in a world that has grown; a text from one place to another.
-/
namespace Go.Proofs.YtjbkgokiikbaeaaGreatDoor
open Go.RowKit

theorem Wk.atF_below {T e : TypeId} {B b : Nat} {p : Value} {bs : List Value} {W W' : World} (h : Lib.BuilderAtF T e B b p bs W) (hb : Below W.heap.size W W') : Lib.BuilderAtF T e B b p bs W' := by
  have hlt := h.lt
  obtain ⟨hB, v, hv, hown, hne⟩ := h
  exact ⟨hB, v, (hb.block b hlt).trans hv, hown.kept (row := none) ⟨hb.os, hb.tape, hb.output, hb.size, fun k hk _ => hb.block k hk⟩ (Classical.em _), hne⟩
theorem Wk.isF_below {T e : TypeId} {B b : Nat} {bs : List Value} {W W' : World} (h : Lib.IsBuilderF T e B b bs W) (hb : Below W.heap.size W W') : Lib.IsBuilderF T e B b bs W' :=
  h.elim (fun x => .inl (Wk.atF_below x hb)) (fun x => .inr (Wk.atF_below x hb))
theorem Wk.part_data (s : ByteArray) (k m : Nat) : (s.extract k (k + m)).data.toList = (s.data.toList.drop k).take m := by
  rw [Lib.extract_data, Nat.add_sub_cancel_left]
theorem Wk.part_size (s : ByteArray) (k m : Nat) (h : k + m ≤ s.size) : (s.extract k (k + m)).size = m := by
  rw [← Wk.len_data, Wk.part_data, List.length_take, List.length_drop, Wk.len_data]; omega

/-- a text from one place to another -/
theorem Wk.run_cut (w : World) (s : ByteArray) (l h : Int) (h0 : 0 ≤ l) (h1 : l ≤ h) (h2 : h ≤ s.size) :
    (Instr.slice 9 (.string s) (some (.int .i64 l)) (some (.int .i64 h)) none).run Tryz.prog w = .ok (.string (s.extract l.toNat h.toNat)) w := by
  have eh : (h.toNat : Int) = h := Int.toNat_of_nonneg (by omega)
  simp [Instr.slice, run_underlying Tryz.underlying9, Instr.sliceBounds, run_sliceBound, h0, h1, h2, eh, (by omega : 0 ≤ h)]
theorem Wk.ret_str {a b : List UInt8} (h : a = b) : Ending.returned (.string ⟨a.toArray⟩) = .returned (.string ⟨b.toArray⟩) := by rw [h]

end Go.Proofs.YtjbkgokiikbaeaaGreatDoor
