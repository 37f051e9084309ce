/-
  PLAIN LISTS OF BYTES, no program: the document's own way to read a reference (what stands between & and ;) gives what 'Pl.refL' gives; a number written in digits is read back.
-/
import Derived.Test.YtbhmepedegbgjaaRPlain
namespace Go.Proofs.Ytbhmepedegbgjaa.Pl

/-- a byte that may stand in a reference -/
def tokc (c : UInt8) : Bool := (decide (97 ≤ (lowB c).toNat) && decide ((lowB c).toNat ≤ 122)) || (decide (48 ≤ c.toNat) && decide (c.toNat ≤ 57)) || decide (c = 35)
def tokEnd : Nat → List UInt8 → Nat → Nat
  | 0, _, k => k
  | _ + 1, [], k => k
  | m + 1, c :: r, k => if tokc c then tokEnd m r (k + 1) else k
def numAll (base : Nat) : List UInt8 → Nat → Option Nat
  | [], x => some x
  | c :: r, x => if dig c < base then numAll base r (x * base + dig c) else none
def numR (s : List UInt8) : Option Nat :=
  if s.head? = some 120 ∨ s.head? = some 88 then (if s.tail = [] ∨ 6 < s.tail.length then none else numAll 16 s.tail 0)
  else if s = [] ∨ 7 < s.length then none else numAll 10 s 0
def names0 : List (List UInt8 × List UInt8) :=
  [([97, 109, 112], [38]), ([108, 116], [60]), ([103, 116], [62]), ([113, 117, 111, 116], [34]), ([97, 112, 111, 115], [39]), ([110, 98, 115, 112], [194, 160]), ([99, 111, 112, 121], [194, 169])]
def nameR : List (List UInt8 × List UInt8) → List UInt8 → Option (List UInt8)
  | [], _ => none
  | n :: ns, b => if b = n.1 then some n.2 else nameR ns b
def refR (b : List UInt8) : Option (List UInt8) := if b.head? = some 35 then (numR b.tail).map runeL else nameR names0 b
def refT (r : List UInt8) : List UInt8 × Nat :=
  if r[tokEnd 10 r 0]? = some 59 then (match refR (r.take (tokEnd 10 r 0)) with | some t => (t, tokEnd 10 r 0 + 1) | none => ([], 0)) else ([], 0)

/-! ### the end of what may be a reference -/
theorem tokEnd_body (t : List UInt8) : ∀ (b : List UInt8) (m k : Nat), (∀ c ∈ b, tokc c = true) → b.length ≤ m → tokEnd m (b ++ 59 :: t) k = k + b.length := by
  intro b
  induction b with
  | nil =>
    intro m k _ _
    cases m with
    | zero => rfl
    | succ m => simp [tokEnd, (by decide : tokc 59 = false)]
  | cons c b ih =>
    intro m k h hm
    cases m with
    | zero => simp at hm
    | succ m =>
      rw [List.cons_append, tokEnd, if_pos (h c (by simp)), ih m (k + 1) (fun d hd => h d (by simp [hd])) (by simpa using hm), List.length_cons]
      omega
theorem tokEnd_all : ∀ (m : Nat) (d : List UInt8) (k : Nat), k ≤ tokEnd m d k ∧ tokEnd m d k ≤ k + m ∧ ∀ c ∈ d.take (tokEnd m d k - k), tokc c = true := by
  intro m
  induction m with
  | zero => intro d k; simp [tokEnd]
  | succ m ih =>
    intro d k
    cases d with
    | nil => simp [tokEnd]
    | cons c r =>
      rw [tokEnd]
      split
      · rename_i hc
        obtain ⟨h1, h2, h3⟩ := ih r (k + 1)
        refine ⟨by omega, by omega, ?_⟩
        have e : tokEnd m r (k + 1) - k = (tokEnd m r (k + 1) - (k + 1)) + 1 := by omega
        rw [e, List.take_succ_cons]
        intro d hd
        rcases List.mem_cons.1 hd with rfl | hd
        · exact hc
        · exact h3 d hd
      · simp

/-! ### digits -/
theorem dig_tokc (c : UInt8) (h : dig c < 16) : tokc c = true := by
  have hl := lowB_toNat c
  unfold tokc
  unfold dig at h
  rw [hl]
  simp only [Bool.or_eq_true, Bool.and_eq_true, decide_eq_true_eq]
  split at h
  · exact .inl (.inr ⟨by omega, by omega⟩)
  · split at h
    · refine .inl (.inl ?_)
      split <;> omega
    · split at h
      · refine .inl (.inl ?_)
        split <;> omega
      · omega
theorem scan_num (base : Nat) (t : List UInt8) (hb : base ≤ 16) : ∀ (b : List UInt8) (m x i v : Nat), numAll base b x = some v → b.length ≤ m → scan base m (b ++ 59 :: t) x i = (v, i + b.length) := by
  intro b
  induction b with
  | nil =>
    intro m x i v h _
    simp only [numAll, Option.some.injEq] at h
    subst h
    cases m with
    | zero => rfl
    | succ m => rw [List.nil_append, scan, if_neg (by have : dig 59 = 16 := by decide
                                                      omega)]; rfl
  | cons c b ih =>
    intro m x i v h hm
    rw [numAll] at h
    split at h
    · rename_i hc
      cases m with
      | zero => simp at hm
      | succ m =>
        rw [List.cons_append, scan, if_pos hc, ih m _ (i + 1) v h (by simpa using hm), List.length_cons]
        congr 1; omega
    · cases h
theorem scan_bad (base : Nat) (t : List UInt8) : ∀ (b : List UInt8) (m x i : Nat), (numAll base b x = none ∨ m < b.length) → (scan base m (b ++ 59 :: t) x i).2 < i + b.length := by
  intro b
  induction b with
  | nil =>
    intro m x i h
    rcases h with h | h
    · cases h
    · simp at h
  | cons c b ih =>
    intro m x i h
    cases m with
    | zero => simp [scan]
    | succ m =>
      rw [List.cons_append, scan]
      split
      · rename_i hc
        have := ih m (x * base + dig c) (i + 1) (by
          rcases h with h | h
          · left; rwa [numAll, if_pos hc] at h
          · right; simpa using h)
        rw [List.length_cons]; omega
      · simp
/-- digits as far as they were read -/
theorem scan_digs (base : Nat) : ∀ (m : Nat) (d : List UInt8) (x i : Nat), ∀ c ∈ d.take ((scan base m d x i).2 - i), dig c < base := by
  intro m
  induction m with
  | zero => intro d x i; simp [scan]
  | succ m ih =>
    intro d x i
    cases d with
    | nil => simp [scan]
    | cons c r =>
      rw [scan]
      split
      · rename_i hc
        have h1 := scan_at base m r (x * base + dig c) (i + 1)
        have e : (scan base m r (x * base + dig c) (i + 1)).2 - i = ((scan base m r (x * base + dig c) (i + 1)).2 - (i + 1)) + 1 := by omega
        rw [e, List.take_succ_cons]
        intro d hd
        rcases List.mem_cons.1 hd with rfl | hd
        · exact hc
        · exact ih r _ _ d hd
      · simp

/-! ### a reference by number, whole -/
theorem numL_body (pre b t : List UInt8) (base most : Nat) (hb : base ≤ 16) (h59 : (59 : UInt8) ∉ b) :
    numL (pre ++ (b ++ 59 :: t)) pre.length base most = (match (if b = [] ∨ most < b.length then none else numAll base b 0) with | some v => (runeL v, pre.length + b.length + 1) | none => ([], 0)) := by
  unfold numL
  rw [List.drop_left]
  simp only
  by_cases hbad : numAll base b 0 = none ∨ most < b.length ∨ b = []
  · have e : (if b = [] ∨ most < b.length then none else numAll base b 0) = none := by
      split
      · rfl
      · rename_i h; rcases hbad with h1 | h1 | h1
        · exact h1
        · exact absurd (.inr h1) h
        · exact absurd (.inl h1) h
    rw [e]
    rw [if_pos]
    by_cases hn : b = []
    · subst hn
      left
      have h1 := scan_num base t hb [] most 0 pre.length 0 rfl (Nat.zero_le _)
      rw [h1]; rfl
    · right
      have hlt := scan_bad base t b most 0 pre.length (by
        rcases hbad with h1 | h1 | h1
        · exact .inl h1
        · exact .inr h1
        · exact absurd h1 hn)
      have hge := (scan_at base most (b ++ 59 :: t) 0 pre.length).1
      generalize (scan base most (b ++ 59 :: t) 0 pre.length).2 = j at hlt hge
      rw [List.getElem?_append_right hge, List.getElem?_append_left (by omega)]
      intro h
      exact h59 (List.mem_of_getElem? h)
  · have h1 : numAll base b 0 ≠ none := fun h => hbad (.inl h)
    have h2 : ¬ most < b.length := fun h => hbad (.inr (.inl h))
    have h3 : b ≠ [] := fun h => hbad (.inr (.inr h))
    obtain ⟨v, hv⟩ := Option.ne_none_iff_exists'.1 h1
    rw [scan_num base t hb b most 0 pre.length v hv (by omega)]
    have hpos := List.length_pos_iff.2 h3
    rw [if_neg, if_neg, hv]
    · rintro (h | h)
      · exact h3 h
      · exact h2 h
    · rintro (h | h)
      · simp only at h; omega
      · apply h
        simp only
        rw [List.getElem?_append_right (by omega), List.getElem?_append_right (by omega)]
        simp
theorem pre_cons (a c : UInt8) (p l : List UInt8) : pre (a :: p) (c :: l) = ((a == c) && pre p l) := rfl
theorem pre_nil (l : List UInt8) : pre [] l = true := by cases l <;> rfl
theorem pre_name (t : List UInt8) : ∀ (n b : List UInt8), (59 : UInt8) ∉ n → (59 : UInt8) ∉ b → pre (n ++ [59]) (b ++ 59 :: t) = decide (b = n) := by
  intro n
  induction n with
  | nil =>
    intro b _ hb
    cases b with
    | nil => simp [pre_cons, pre_nil]
    | cons c b =>
      have : c ≠ 59 := fun h => hb (by simp [h])
      have h2 : ((59 : UInt8) == c) = false := beq_eq_false_iff_ne.2 (fun h => this h.symm)
      simp [pre_cons, h2]
  | cons a n ih =>
    intro b hn hb
    cases b with
    | nil =>
      have : a ≠ 59 := fun h => hn (by simp [h])
      have h2 : (a == (59 : UInt8)) = false := beq_eq_false_iff_ne.2 this
      simp [pre_cons, h2]
    | cons c b =>
      rw [List.cons_append, List.cons_append, pre_cons, ih b (fun h => hn (by simp [h])) (fun h => hb (by simp [h]))]
      by_cases hc : a = c
      · subst hc; simp
      · have h2 : (a == c) = false := beq_eq_false_iff_ne.2 hc
        have h3 : ¬ (c :: b = a :: n) := fun h => hc (List.cons.inj h).1.symm
        simp [h2, h3]
theorem nameL_body (t b : List UInt8) (hb : (59 : UInt8) ∉ b) : ∀ (ns : List (List UInt8 × List UInt8)), (∀ n ∈ ns, (59 : UInt8) ∉ n.1) →
    nameL (ns.map fun n => (n.1 ++ [59], n.2)) (b ++ 59 :: t) = (match nameR ns b with | some s => (s, b.length + 1) | none => ([], 0)) := by
  intro ns
  induction ns with
  | nil => intro _; rfl
  | cons n ns ih =>
    intro h
    rw [List.map_cons, nameL, nameR]
    simp only
    rw [pre_name t n.1 b (h n (by simp)) hb]
    by_cases e : b = n.1
    · simp [e]
    · simp only [e, decide_false, if_false]
      exact ih (fun m hm => h m (by simp [hm]))
theorem refL_body (b t : List UInt8) (h59 : (59 : UInt8) ∉ b) : refL (b ++ 59 :: t) = (match refR b with | some s => (s, b.length + 1) | none => ([], 0)) := by
  have hname : nameL names (b ++ 59 :: t) = (match nameR names0 b with | some s => (s, b.length + 1) | none => ([], 0)) :=
    nameL_body t b h59 names0 (by decide)
  cases b with
  | nil => rw [refR, if_neg (by simp), ← hname]; rfl
  | cons a b =>
    by_cases ha : a = 35
    · subst ha
      have hb59 : (59 : UInt8) ∉ b := fun h => h59 (by simp [h])
      have hR : refR (35 :: b) = (numR b).map runeL := by simp [refR]
      rw [hR]
      cases b with
      | nil =>
        have h0 : numL ([35] ++ ([] ++ 59 :: t)) [35].length 10 7 = _ := numL_body [35] [] t 10 7 (by decide) (by simp)
        have e : refL ([35] ++ 59 :: t) = numL ([35] ++ ([] ++ 59 :: t)) 1 10 7 := by simp [refL, pre_cons, pre_nil]
        rw [e]
        simpa [numR] using h0
      | cons x b =>
        by_cases hx : x = 120 ∨ x = 88
        · have e : refL (35 :: x :: b ++ 59 :: t) = numL ([35, x] ++ (b ++ 59 :: t)) 2 16 6 := by
            rcases hx with rfl | rfl <;> simp [refL, pre_cons, pre_nil]
          have hb : (59 : UInt8) ∉ b := fun h => hb59 (by simp [h])
          have h0 : numL ([35, x] ++ (b ++ 59 :: t)) 2 16 6 = _ := numL_body [35, x] b t 16 6 (by decide) hb
          rw [e, h0]
          have hN : numR (x :: b) = (if b = [] ∨ 6 < b.length then none else numAll 16 b 0) := by
            rcases hx with rfl | rfl <;> (unfold numR; rw [if_pos (by simp)]; rfl)
          rw [hN]
          cases (if b = [] ∨ 6 < b.length then none else numAll 16 b 0) with
          | none => rfl
          | some v => simp [Nat.add_comm, Nat.add_left_comm]
        · have hx1 : ((120 : UInt8) == x) = false := beq_eq_false_iff_ne.2 fun h => hx (.inl h.symm)
          have hx2 : ((88 : UInt8) == x) = false := beq_eq_false_iff_ne.2 fun h => hx (.inr h.symm)
          have e : refL (35 :: x :: b ++ 59 :: t) = numL ([35] ++ (x :: b ++ 59 :: t)) 1 10 7 := by
            simp [refL, pre_cons, pre_nil, hx1, hx2]
          have h0 : numL ([35] ++ (x :: b ++ 59 :: t)) 1 10 7 = _ := numL_body [35] (x :: b) t 10 7 (by decide) hb59
          rw [e, h0]
          have hN : numR (x :: b) = (if x :: b = [] ∨ 7 < (x :: b).length then none else numAll 10 (x :: b) 0) := by
            rw [numR, if_neg]
            simpa using hx
          rw [hN]
          cases (if x :: b = [] ∨ 7 < (x :: b).length then none else numAll 10 (x :: b) 0) with
          | none => rfl
          | some v => simp [Nat.add_comm, Nat.add_left_comm]
    · have ha' : ((35 : UInt8) == a) = false := beq_eq_false_iff_ne.2 fun h => ha h.symm
      have e : refL (a :: b ++ 59 :: t) = nameL names (a :: b ++ 59 :: t) := by
        simp [refL, pre_cons, ha']
      have e2 : refR (a :: b) = nameR names0 (a :: b) := by simp [refR, ha]
      rw [e, e2]; exact hname

/-- whatever is a reference has only such bytes ahead of its ; -/
theorem numL_shape (p d : List UInt8) (base most : Nat) (hb : base ≤ 16) (hp : ∀ c ∈ p, tokc c = true) (hl : p.length + most ≤ 10) (h : (numL (p ++ d) p.length base most).2 ≠ 0) :
    ∃ b t, p ++ d = b ++ 59 :: t ∧ (∀ c ∈ b, tokc c = true) ∧ b.length ≤ 10 := by
  unfold numL at h
  rw [List.drop_left] at h
  simp only at h
  have hat := scan_at base most d 0 p.length
  have hdg := scan_digs base most d 0 p.length
  generalize scan base most d 0 p.length = q at *
  split at h
  · exact absurd rfl h
  · rename_i h1
    have h2 : (p ++ d)[q.2]? = some 59 := Classical.not_not.1 fun x => h1 (.inr x)
    obtain ⟨h3, h4⟩ := List.getElem?_eq_some_iff.1 h2
    refine ⟨(p ++ d).take q.2, (p ++ d).drop (q.2 + 1), ?_, ?_, ?_⟩
    · rw [← h4, ← List.drop_eq_getElem_cons h3, List.take_append_drop]
    · rw [List.take_append, List.take_of_length_le hat.1]
      intro c hc
      rcases List.mem_append.1 hc with hc | hc
      · exact hp c hc
      · exact dig_tokc c (Nat.lt_of_lt_of_le (hdg c hc) hb)
    · rw [List.length_take]; omega
theorem refL_shape (r : List UInt8) (h : (refL r).2 ≠ 0) : ∃ b t, r = b ++ 59 :: t ∧ (∀ c ∈ b, tokc c = true) ∧ b.length ≤ 10 := by
  unfold refL at h
  split at h
  · rename_i h1
    rw [Bool.or_eq_true] at h1
    rcases h1 with h1 | h1 <;> obtain ⟨d, rfl⟩ := (pre_iff _ _).1 h1
    · exact numL_shape [35, 120] d 16 6 (by decide) (by decide) (by decide) h
    · exact numL_shape [35, 88] d 16 6 (by decide) (by decide) (by decide) h
  · split at h
    · rename_i h1
      obtain ⟨d, rfl⟩ := (pre_iff _ _).1 h1
      exact numL_shape [35] d 10 7 (by decide) (by decide) (by decide) h
    · have key : ∀ ns : List (List UInt8 × List UInt8), (∀ n ∈ ns, (∀ c ∈ n.1, tokc c = true) ∧ n.1.length ≤ 10) → (nameL (ns.map fun n => (n.1 ++ [59], n.2)) r).2 ≠ 0 → ∃ b t, r = b ++ 59 :: t ∧ (∀ c ∈ b, tokc c = true) ∧ b.length ≤ 10 := by
        intro ns
        induction ns with
        | nil => intro _ h; exact absurd rfl h
        | cons n ns ih =>
          intro hn h
          rw [List.map_cons, nameL] at h
          split at h
          · rename_i hp
            obtain ⟨t, rfl⟩ := (pre_iff _ _).1 hp
            obtain ⟨q1, q2⟩ := hn n (by simp)
            exact ⟨n.1, t, by simp, q1, q2⟩
          · exact ih (fun m hm => hn m (by simp [hm])) h
      exact key names0 (by decide) h
theorem nameL_none : ∀ (ns : List (List UInt8 × List UInt8)) (l : List UInt8), (∀ n ∈ ns, n.1 ≠ []) → (nameL ns l).2 = 0 → nameL ns l = ([], 0) := by
  intro ns
  induction ns with
  | nil => intro l _ _; rfl
  | cons n ns ih =>
    intro l h h0
    rw [nameL] at h0 ⊢
    split at h0
    · exact absurd (List.eq_nil_of_length_eq_zero h0) (h n (by simp))
    · rename_i hp
      rw [if_neg hp]
      exact ih l (fun m hm => h m (by simp [hm])) h0
theorem numL_none (l : List UInt8) (start base most : Nat) (h : (numL l start base most).2 = 0) : numL l start base most = ([], 0) := by
  unfold numL at h ⊢
  simp only at h ⊢
  split at h
  · rename_i h1; rw [if_pos h1]
  · cases h
theorem refL_none (r : List UInt8) (h : (refL r).2 = 0) : refL r = ([], 0) := by
  unfold refL at h ⊢
  split at h
  · rename_i h1; rw [if_pos h1]; exact numL_none _ _ _ _ h
  · rename_i h1; rw [if_neg h1]
    split at h
    · rename_i h2; rw [if_pos h2]; exact numL_none _ _ _ _ h
    · rename_i h2; rw [if_neg h2]; exact nameL_none _ _ (by decide) h
/-- THE TWO WAYS AGREE. -/
theorem refT_eq (r : List UInt8) : refT r = refL r := by
  unfold refT
  split
  · rename_i h
    obtain ⟨h3, h4⟩ := List.getElem?_eq_some_iff.1 h
    have hall := tokEnd_all 10 r 0
    rw [Nat.sub_zero] at hall
    generalize tokEnd 10 r 0 = k at *
    have hr : r = r.take k ++ 59 :: r.drop (k + 1) := by
      rw [← h4, ← List.drop_eq_getElem_cons h3, List.take_append_drop]
    have h59 : (59 : UInt8) ∉ r.take k := fun hm => absurd (hall.2.2 59 hm) (by decide)
    have hb := refL_body (r.take k) (r.drop (k + 1)) h59
    rw [← hr] at hb
    rw [hb, List.length_take, Nat.min_eq_left (by omega)]
  · rename_i h
    by_cases h0 : (refL r).2 = 0
    · exact (refL_none r h0).symm
    · obtain ⟨b, t, rfl, hb, hl⟩ := refL_shape r h0
      exfalso
      apply h
      rw [tokEnd_body t b 10 0 hb hl, Nat.zero_add]
      simp

/-! ### numbers in digits -/
def val (base : Nat) (b : List UInt8) : Nat := b.foldl (fun x c => x * base + dig c) 0
theorem numAll_val (base : Nat) : ∀ (b : List UInt8) (x : Nat), (∀ c ∈ b, dig c < base) → numAll base b x = some (b.foldl (fun x c => x * base + dig c) x) := by
  intro b
  induction b with
  | nil => intro x _; rfl
  | cons c b ih =>
    intro x h
    rw [numAll, if_pos (h c (by simp)), ih _ (fun d hd => h d (by simp [hd]))]; rfl
theorem foldl_val (base : Nat) : ∀ (b : List UInt8) (x : Nat), b.foldl (fun x c => x * base + dig c) x = x * base ^ b.length + val base b := by
  intro b
  induction b with
  | nil => intro x; simp [val]
  | cons c b ih =>
    intro x
    have h1 := ih (x * base + dig c)
    have h2 := ih (dig c)
    simp only [val, List.foldl_cons, List.length_cons, Nat.zero_mul, Nat.zero_add] at *
    rw [h1, h2, Nat.pow_succ', Nat.add_mul, Nat.mul_assoc, Nat.add_assoc]
theorem val_cons (base : Nat) (c : UInt8) (b : List UInt8) : val base (c :: b) = dig c * base ^ b.length + val base b := by
  have := foldl_val base b (0 * base + dig c)
  simp only [Nat.zero_mul, Nat.zero_add] at this
  simp only [val, List.foldl_cons, Nat.zero_mul, Nat.zero_add]
  exact this
theorem ref_dec (b t : List UInt8) (h : ∀ c ∈ b, dig c < 10) (h0 : b ≠ []) (hl : b.length ≤ 7) : decL (38 :: 35 :: b ++ 59 :: t) = runeL (val 10 b) ++ decL t := by
  have h59 : (59 : UInt8) ∉ (35 :: b) := by
    intro hm
    rcases List.mem_cons.1 hm with e | hm
    · exact absurd e (by decide)
    · exact absurd (h 59 hm) (by decide)
  have hb := refL_body (35 :: b) t h59
  have hx : ¬ (b.head? = some 120 ∨ b.head? = some 88) := by
    cases b with
    | nil => exact absurd rfl h0
    | cons x b =>
      have := h x (by simp)
      rintro (e | e)
      · simp at e; subst e; exact absurd this (by decide)
      · simp at e; subst e; exact absurd this (by decide)
  have hR : refR (35 :: b) = some (runeL (val 10 b)) := by
    rw [refR, if_pos (by simp), List.tail_cons, numR, if_neg hx, if_neg (by rintro (e | e); exact h0 e; omega), numAll_val 10 b 0 h]; rfl
  rw [hR] at hb
  have := dec_body (35 :: b ++ [59]) (runeL (val 10 b)) t ((35 :: b).length + 1) (by simpa using hb) (by simp) (by simp)
  simpa using this
theorem ref_hex (x : UInt8) (b t : List UInt8) (hx : x = 120 ∨ x = 88) (h : ∀ c ∈ b, dig c < 16) (h0 : b ≠ []) (hl : b.length ≤ 6) : decL (38 :: 35 :: x :: b ++ 59 :: t) = runeL (val 16 b) ++ decL t := by
  have h59 : (59 : UInt8) ∉ (35 :: x :: b) := by
    intro hm
    rcases List.mem_cons.1 hm with e | hm
    · exact absurd e (by decide)
    · rcases List.mem_cons.1 hm with e | hm
      · rcases hx with rfl | rfl <;> exact absurd e (by decide)
      · exact absurd (h 59 hm) (by decide)
  have hb := refL_body (35 :: x :: b) t h59
  have hR : refR (35 :: x :: b) = some (runeL (val 16 b)) := by
    rw [refR, if_pos (by simp), List.tail_cons, numR, if_pos (by simpa using hx), List.tail_cons, if_neg (by rintro (e | e); exact h0 e; omega), numAll_val 16 b 0 h]; rfl
  rw [hR] at hb
  have := dec_body (35 :: x :: b ++ [59]) (runeL (val 16 b)) t ((35 :: x :: b).length + 1) (by simpa using hb) (by simp) (by simp)
  simpa using this
end Go.Proofs.Ytbhmepedegbgjaa.Pl
