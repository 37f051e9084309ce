/-
  PLAIN LISTS OF BYTES, no program: the document's own way to read a reference (what stands between & and ;) gives what 'Pl.refL' gives; a number written in digits is read back.
-/
import Derived.Test.YtblpkjlodncpeaaGreatDoorBPlaintoKPlain
import Derived.Test.YtblpkjlodncpeaaGreatDoorProg
import Derived.WalkKit
import Derived.BigCall
import Derived.Laws.Runes
import Derived.Test.YtblpkjlodncpeaaGreatDoorBTKittoLower
import Derived.OwnWalk
import Derived.CellFam
namespace Go.Proofs.YtblpkjlodncpeaaGreatDoor.Pl
def tokc (c : UInt8) : Bool := (decide (97 ≤ (lowB c).toNat) && decide ((lowB c).toNat ≤ 122)) || (decide (48 ≤ c.toNat) && decide (c.toNat ≤ 57)) || decide (c = 35)
def tokEnd : Nat → List UInt8 → Nat → Nat
 | 0, _, k => k
 | _ + 1, [], k => k
 | m + 1, c :: r, k => if tokc c then tokEnd m r (k + 1) else k
def numAll (base : Nat) : List UInt8 → Nat → Option Nat
 | [], x => some x
 | c :: r, x => if dig c < base then numAll base r (x * base + dig c) else none
def numR (s : List UInt8) : Option Nat :=
 if s.head? = some 120 ∨ s.head? = some 88 then (if s.tail = [] ∨ 6 < s.tail.length then none else numAll 16 s.tail 0)
 else if s = [] ∨ 7 < s.length then none else numAll 10 s 0
def names0 : List (List UInt8 × List UInt8) :=
 [([97, 109, 112], [38]), ([108, 116], [60]), ([103, 116], [62]), ([113, 117, 111, 116], [34]), ([97, 112, 111, 115], [39]), ([110, 98, 115, 112], [194, 160]), ([99, 111, 112, 121], [194, 169])]
def nameR : List (List UInt8 × List UInt8) → List UInt8 → Option (List UInt8)
 | [], _ => none
 | n :: ns, b => if b = n.1 then some n.2 else nameR ns b
def refR (b : List UInt8) : Option (List UInt8) := if b.head? = some 35 then (numR b.tail).map runeL else nameR names0 b
def refT (r : List UInt8) : List UInt8 × Nat :=
 if r[tokEnd 10 r 0]? = some 59 then (match refR (r.take (tokEnd 10 r 0)) with | some t => (t, tokEnd 10 r 0 + 1) | none => ([], 0)) else ([], 0)
theorem tokEnd_body (t : List UInt8) : ∀ (b : List UInt8) (m k : Nat), (∀ c ∈ b, tokc c = true) → b.length ≤ m → tokEnd m (b ++ 59 :: t) k = k + b.length := by
 intro b
 induction b with
 | nil =>
  intro m k _ _
  cases m with
  | zero => rfl
  | succ m => simp [tokEnd, (by decide : tokc 59 = false)]
 | cons c b ih =>
  intro m k h hm
  cases m with
  | zero => simp at hm
  | succ m =>
   rw [List.cons_append, tokEnd, if_pos (h c (by simp)), ih m (k + 1) (fun d hd => h d (by simp [hd])) (by simpa using hm), List.length_cons]
   omega
theorem tokEnd_all : ∀ (m : Nat) (d : List UInt8) (k : Nat), k ≤ tokEnd m d k ∧ tokEnd m d k ≤ k + m ∧ ∀ c ∈ d.take (tokEnd m d k - k), tokc c = true := by
 intro m
 induction m with
 | zero => intro d k; simp [tokEnd]
 | succ m ih =>
  intro d k
  cases d with
  | nil => simp [tokEnd]
  | cons c r =>
   rw [tokEnd]
   split
   ·
    rename_i hc
    obtain ⟨h1, h2, h3⟩ := ih r (k + 1)
    refine ⟨by omega, by omega, ?_⟩
    have e : tokEnd m r (k + 1) - k = (tokEnd m r (k + 1) - (k + 1)) + 1 := by omega
    rw [e, List.take_succ_cons]
    intro d hd
    rcases List.mem_cons.1 hd with rfl | hd
    ·
     exact hc
    ·
     exact h3 d hd
   ·
    simp
theorem dig_tokc (c : UInt8) (h : dig c < 16) : tokc c = true := by
 have hl := lowB_toNat c
 unfold tokc
 unfold dig at h
 rw [hl]
 simp only [Bool.or_eq_true, Bool.and_eq_true, decide_eq_true_eq]
 split at h
 ·
  exact .inl (.inr ⟨by omega, by omega⟩)
 ·
  split at h
  ·
   refine .inl (.inl ?_)
   split <;> omega
  ·
   split at h
   ·
    refine .inl (.inl ?_)
    split <;> omega
   ·
    omega
theorem scan_num (base : Nat) (t : List UInt8) (hb : base ≤ 16) : ∀ (b : List UInt8) (m x i v : Nat), numAll base b x = some v → b.length ≤ m → scan base m (b ++ 59 :: t) x i = (v, i + b.length) := by
 intro b
 induction b with
 | nil =>
  intro m x i v h _
  simp only [numAll, Option.some.injEq] at h
  subst h
  cases m with
  | zero => rfl
  | succ m => rw [List.nil_append, scan, if_neg (by have : dig 59 = 16 := (by decide); omega)]; rfl
 | cons c b ih =>
  intro m x i v h hm
  rw [numAll] at h
  split at h
  ·
   rename_i hc
   cases m with
   | zero => simp at hm
   | succ m =>
    rw [List.cons_append, scan, if_pos hc, ih m _ (i + 1) v h (by simpa using hm), List.length_cons]
    congr 1; omega
  ·
   cases h
theorem scan_bad (base : Nat) (t : List UInt8) : ∀ (b : List UInt8) (m x i : Nat), (numAll base b x = none ∨ m < b.length) → (scan base m (b ++ 59 :: t) x i).2 < i + b.length := by
 intro b
 induction b with
 | nil =>
  intro m x i h
  rcases h with h | h
  ·
   cases h
  ·
   simp at h
 | cons c b ih =>
  intro m x i h
  cases m with
  | zero => simp [scan]
  | succ m =>
   rw [List.cons_append, scan]
   split
   ·
    rename_i hc
    have := ih m (x * base + dig c) (i + 1) (by
     rcases h with h | h
     ·
      left; rwa [numAll, if_pos hc] at h
     ·
      right; simpa using h)
    rw [List.length_cons]; omega
   ·
    simp
theorem scan_digs (base : Nat) : ∀ (m : Nat) (d : List UInt8) (x i : Nat), ∀ c ∈ d.take ((scan base m d x i).2 - i), dig c < base := by
 intro m
 induction m with
 | zero => intro d x i; simp [scan]
 | succ m ih =>
  intro d x i
  cases d with
  | nil => simp [scan]
  | cons c r =>
   rw [scan]
   split
   ·
    rename_i hc
    have h1 := scan_at base m r (x * base + dig c) (i + 1)
    have e : (scan base m r (x * base + dig c) (i + 1)).2 - i = ((scan base m r (x * base + dig c) (i + 1)).2 - (i + 1)) + 1 := by omega
    rw [e, List.take_succ_cons]
    intro d hd
    rcases List.mem_cons.1 hd with rfl | hd
    ·
     exact hc
    ·
     exact ih r _ _ d hd
   ·
    simp
theorem numL_body (pre b t : List UInt8) (base most : Nat) (hb : base ≤ 16) (h59 : (59 : UInt8) ∉ b) :
  numL (pre ++ (b ++ 59 :: t)) pre.length base most = (match (if b = [] ∨ most < b.length then none else numAll base b 0) with | some v => (runeL v, pre.length + b.length + 1) | none => ([], 0)) := by
 unfold numL
 rw [List.drop_left]
 simp only
 by_cases hbad : numAll base b 0 = none ∨ most < b.length ∨ b = []
 ·
  have e : (if b = [] ∨ most < b.length then none else numAll base b 0) = none := by
   split
   ·
    rfl
   ·
    rename_i h; rcases hbad with h1 | h1 | h1
    ·
     exact h1
    ·
     exact absurd (.inr h1) h
    ·
     exact absurd (.inl h1) h
  rw [e]
  rw [if_pos]
  by_cases hn : b = []
  ·
   subst hn
   left
   have h1 := scan_num base t hb [] most 0 pre.length 0 rfl (Nat.zero_le _)
   rw [h1]; rfl
  ·
   right
   have hlt := scan_bad base t b most 0 pre.length (by
    rcases hbad with h1 | h1 | h1
    ·
     exact .inl h1
    ·
     exact .inr h1
    ·
     exact absurd h1 hn)
   have hge := (scan_at base most (b ++ 59 :: t) 0 pre.length).1
   generalize (scan base most (b ++ 59 :: t) 0 pre.length).2 = j at hlt hge
   rw [List.getElem?_append_right hge, List.getElem?_append_left (by omega)]
   intro h
   exact h59 (List.mem_of_getElem? h)
 ·
  have h1 : numAll base b 0 ≠ none := fun h => hbad (.inl h)
  have h2 : ¬ most < b.length := fun h => hbad (.inr (.inl h))
  have h3 : b ≠ [] := fun h => hbad (.inr (.inr h))
  obtain ⟨v, hv⟩ := Option.ne_none_iff_exists'.1 h1
  rw [scan_num base t hb b most 0 pre.length v hv (by omega)]
  have hpos := List.length_pos_iff.2 h3
  rw [if_neg, if_neg, hv]
  ·
   rintro (h | h)
   ·
    exact h3 h
   ·
    exact h2 h
  ·
   rintro (h | h)
   ·
    simp only at h; omega
   ·
    apply h
    simp only
    rw [List.getElem?_append_right (by omega), List.getElem?_append_right (by omega)]
    simp
theorem pre_cons (a c : UInt8) (p l : List UInt8) : pre (a :: p) (c :: l) = ((a == c) && pre p l) := rfl
theorem pre_nil (l : List UInt8) : pre [] l = true := by cases l <;> rfl
theorem pre_name (t : List UInt8) : ∀ (n b : List UInt8), (59 : UInt8) ∉ n → (59 : UInt8) ∉ b → pre (n ++ [59]) (b ++ 59 :: t) = decide (b = n) := by
 intro n
 induction n with
 | nil =>
  intro b _ hb
  cases b with
  | nil => simp [pre_cons, pre_nil]
  | cons c b =>
   have : c ≠ 59 := fun h => hb (by simp [h])
   have h2 : ((59 : UInt8) == c) = false := beq_eq_false_iff_ne.2 (fun h => this h.symm)
   simp [pre_cons, h2]
 | cons a n ih =>
  intro b hn hb
  cases b with
  | nil =>
   have : a ≠ 59 := fun h => hn (by simp [h])
   have h2 : (a == (59 : UInt8)) = false := beq_eq_false_iff_ne.2 this
   simp [pre_cons, h2]
  | cons c b =>
   rw [List.cons_append, List.cons_append, pre_cons, ih b (fun h => hn (by simp [h])) (fun h => hb (by simp [h]))]
   by_cases hc : a = c
   ·
    subst hc; simp
   ·
    have h2 : (a == c) = false := beq_eq_false_iff_ne.2 hc
    have h3 : ¬ (c :: b = a :: n) := fun h => hc (List.cons.inj h).1.symm
    simp [h2, h3]
theorem nameL_body (t b : List UInt8) (hb : (59 : UInt8) ∉ b) : ∀ (ns : List (List UInt8 × List UInt8)), (∀ n ∈ ns, (59 : UInt8) ∉ n.1) →
  nameL (ns.map fun n => (n.1 ++ [59], n.2)) (b ++ 59 :: t) = (match nameR ns b with | some s => (s, b.length + 1) | none => ([], 0)) := by
 intro ns
 induction ns with
 | nil => intro _; rfl
 | cons n ns ih =>
  intro h
  rw [List.map_cons, nameL, nameR]
  simp only
  rw [pre_name t n.1 b (h n (by simp)) hb]
  by_cases e : b = n.1
  ·
   simp [e]
  ·
   simp only [e, decide_false, if_false]
   exact ih (fun m hm => h m (by simp [hm]))
theorem refL_body (b t : List UInt8) (h59 : (59 : UInt8) ∉ b) : refL (b ++ 59 :: t) = (match refR b with | some s => (s, b.length + 1) | none => ([], 0)) := by
 have hname : nameL names (b ++ 59 :: t) = (match nameR names0 b with | some s => (s, b.length + 1) | none => ([], 0)) :=
  nameL_body t b h59 names0 (by decide)
 cases b with
 | nil => rw [refR, if_neg (by simp), ← hname]; rfl
 | cons a b =>
  by_cases ha : a = 35
  ·
   subst ha
   have hb59 : (59 : UInt8) ∉ b := fun h => h59 (by simp [h])
   have hR : refR (35 :: b) = (numR b).map runeL := by simp [refR]
   rw [hR]
   cases b with
   | nil =>
    have h0 : numL ([35] ++ ([] ++ 59 :: t)) [35].length 10 7 = _ := numL_body [35] [] t 10 7 (by decide) (by simp)
    have e : refL ([35] ++ 59 :: t) = numL ([35] ++ ([] ++ 59 :: t)) 1 10 7 := by simp [refL, pre_cons, pre_nil]
    rw [e]
    simpa [numR] using h0
   | cons x b =>
    by_cases hx : x = 120 ∨ x = 88
    ·
     have e : refL (35 :: x :: b ++ 59 :: t) = numL ([35, x] ++ (b ++ 59 :: t)) 2 16 6 := by
      rcases hx with rfl | rfl <;> simp [refL, pre_cons, pre_nil]
     have hb : (59 : UInt8) ∉ b := fun h => hb59 (by simp [h])
     have h0 : numL ([35, x] ++ (b ++ 59 :: t)) 2 16 6 = _ := numL_body [35, x] b t 16 6 (by decide) hb
     rw [e, h0]
     have hN : numR (x :: b) = (if b = [] ∨ 6 < b.length then none else numAll 16 b 0) := by
      rcases hx with rfl | rfl <;> (unfold numR; rw [if_pos (by simp)]; rfl)
     rw [hN]
     cases (if b = [] ∨ 6 < b.length then none else numAll 16 b 0) with
     | none => rfl
     | some v => simp [Nat.add_comm, Nat.add_left_comm]
    ·
     have hx1 : ((120 : UInt8) == x) = false := beq_eq_false_iff_ne.2 fun h => hx (.inl h.symm)
     have hx2 : ((88 : UInt8) == x) = false := beq_eq_false_iff_ne.2 fun h => hx (.inr h.symm)
     have e : refL (35 :: x :: b ++ 59 :: t) = numL ([35] ++ (x :: b ++ 59 :: t)) 1 10 7 := by
      simp [refL, pre_cons, pre_nil, hx1, hx2]
     have h0 : numL ([35] ++ (x :: b ++ 59 :: t)) 1 10 7 = _ := numL_body [35] (x :: b) t 10 7 (by decide) hb59
     rw [e, h0]
     have hN : numR (x :: b) = (if x :: b = [] ∨ 7 < (x :: b).length then none else numAll 10 (x :: b) 0) := by
      rw [numR, if_neg]
      simpa using hx
     rw [hN]
     cases (if x :: b = [] ∨ 7 < (x :: b).length then none else numAll 10 (x :: b) 0) with
     | none => rfl
     | some v => simp [Nat.add_comm, Nat.add_left_comm]
  ·
   have ha' : ((35 : UInt8) == a) = false := beq_eq_false_iff_ne.2 fun h => ha h.symm
   have e : refL (a :: b ++ 59 :: t) = nameL names (a :: b ++ 59 :: t) := by
    simp [refL, pre_cons, ha']
   have e2 : refR (a :: b) = nameR names0 (a :: b) := by simp [refR, ha]
   rw [e, e2]; exact hname
theorem numL_shape (p d : List UInt8) (base most : Nat) (hb : base ≤ 16) (hp : ∀ c ∈ p, tokc c = true) (hl : p.length + most ≤ 10) (h : (numL (p ++ d) p.length base most).2 ≠ 0) :
  ∃ b t, p ++ d = b ++ 59 :: t ∧ (∀ c ∈ b, tokc c = true) ∧ b.length ≤ 10 := by
 unfold numL at h
 rw [List.drop_left] at h
 simp only at h
 have hat := scan_at base most d 0 p.length
 have hdg := scan_digs base most d 0 p.length
 generalize scan base most d 0 p.length = q at *
 split at h
 ·
  exact absurd rfl h
 ·
  rename_i h1
  have h2 : (p ++ d)[q.2]? = some 59 := Classical.not_not.1 fun x => h1 (.inr x)
  obtain ⟨h3, h4⟩ := List.getElem?_eq_some_iff.1 h2
  refine ⟨(p ++ d).take q.2, (p ++ d).drop (q.2 + 1), ?_, ?_, ?_⟩
  ·
   rw [← h4, ← List.drop_eq_getElem_cons h3, List.take_append_drop]
  ·
   rw [List.take_append, List.take_of_length_le hat.1]
   intro c hc
   rcases List.mem_append.1 hc with hc | hc
   ·
    exact hp c hc
   ·
    exact dig_tokc c (Nat.lt_of_lt_of_le (hdg c hc) hb)
  ·
   rw [List.length_take]; omega
theorem refL_shape (r : List UInt8) (h : (refL r).2 ≠ 0) : ∃ b t, r = b ++ 59 :: t ∧ (∀ c ∈ b, tokc c = true) ∧ b.length ≤ 10 := by
 unfold refL at h
 split at h
 ·
  rename_i h1
  rw [Bool.or_eq_true] at h1
  rcases h1 with h1 | h1 <;> obtain ⟨d, rfl⟩ := (pre_iff _ _).1 h1
  ·
   exact numL_shape [35, 120] d 16 6 (by decide) (by decide) (by decide) h
  ·
   exact numL_shape [35, 88] d 16 6 (by decide) (by decide) (by decide) h
 ·
  split at h
  ·
   rename_i h1
   obtain ⟨d, rfl⟩ := (pre_iff _ _).1 h1
   exact numL_shape [35] d 10 7 (by decide) (by decide) (by decide) h
  ·
   have key : ∀ ns : List (List UInt8 × List UInt8), (∀ n ∈ ns, (∀ c ∈ n.1, tokc c = true) ∧ n.1.length ≤ 10) → (nameL (ns.map fun n => (n.1 ++ [59], n.2)) r).2 ≠ 0 → ∃ b t, r = b ++ 59 :: t ∧ (∀ c ∈ b, tokc c = true) ∧ b.length ≤ 10 := by
    intro ns
    induction ns with
    | nil => intro _ h; exact absurd rfl h
    | cons n ns ih =>
     intro hn h
     rw [List.map_cons, nameL] at h
     split at h
     ·
      rename_i hp
      obtain ⟨t, rfl⟩ := (pre_iff _ _).1 hp
      obtain ⟨q1, q2⟩ := hn n (by simp)
      exact ⟨n.1, t, by simp, q1, q2⟩
     ·
      exact ih (fun m hm => hn m (by simp [hm])) h
   exact key names0 (by decide) h
theorem nameL_none : ∀ (ns : List (List UInt8 × List UInt8)) (l : List UInt8), (∀ n ∈ ns, n.1 ≠ []) → (nameL ns l).2 = 0 → nameL ns l = ([], 0) := by
 intro ns
 induction ns with
 | nil => intro l _ _; rfl
 | cons n ns ih =>
  intro l h h0
  rw [nameL] at h0 ⊢
  split at h0
  ·
   exact absurd (List.eq_nil_of_length_eq_zero h0) (h n (by simp))
  ·
   rename_i hp
   rw [if_neg hp]
   exact ih l (fun m hm => h m (by simp [hm])) h0
theorem numL_none (l : List UInt8) (start base most : Nat) (h : (numL l start base most).2 = 0) : numL l start base most = ([], 0) := by
 unfold numL at h ⊢
 simp only at h ⊢
 split at h
 ·
  rename_i h1; rw [if_pos h1]
 ·
  cases h
theorem refL_none (r : List UInt8) (h : (refL r).2 = 0) : refL r = ([], 0) := by
 unfold refL at h ⊢
 split at h
 ·
  rename_i h1; rw [if_pos h1]; exact numL_none _ _ _ _ h
 ·
  rename_i h1; rw [if_neg h1]
  split at h
  ·
   rename_i h2; rw [if_pos h2]; exact numL_none _ _ _ _ h
  ·
   rename_i h2; rw [if_neg h2]; exact nameL_none _ _ (by decide) h
theorem refT_eq (r : List UInt8) : refT r = refL r := by
 unfold refT
 split
 ·
  rename_i h
  obtain ⟨h3, h4⟩ := List.getElem?_eq_some_iff.1 h
  have hall := tokEnd_all 10 r 0
  rw [Nat.sub_zero] at hall
  generalize tokEnd 10 r 0 = k at *
  have hr : r = r.take k ++ 59 :: r.drop (k + 1) := by
   rw [← h4, ← List.drop_eq_getElem_cons h3, List.take_append_drop]
  have h59 : (59 : UInt8) ∉ r.take k := fun hm => absurd (hall.2.2 59 hm) (by decide)
  have hb := refL_body (r.take k) (r.drop (k + 1)) h59
  rw [← hr] at hb
  rw [hb, List.length_take, Nat.min_eq_left (by omega)]
 ·
  rename_i h
  by_cases h0 : (refL r).2 = 0
  ·
   exact (refL_none r h0).symm
  ·
   obtain ⟨b, t, rfl, hb, hl⟩ := refL_shape r h0
   exfalso
   apply h
   rw [tokEnd_body t b 10 0 hb hl, Nat.zero_add]
   simp
end Go.Proofs.YtblpkjlodncpeaaGreatDoor.Pl
namespace Go.Proofs.YtblpkjlodncpeaaGreatDoor
open Go.RowKit
theorem Pl.dig_eq (c : UInt8) (k : Nat) (hk : c.toNat = k) : Pl.dig c = if 48 ≤ k ∧ k ≤ 57 then k - 48 else if 97 ≤ k ∧ k ≤ 102 then k - 87 else if 65 ≤ k ∧ k ≤ 70 then k - 55 else 16 := by
 subst hk; rfl
set_option maxHeartbeats 1000000 in
theorem Rd.digit (c : UInt8) (w : World) :
  Calls Tryz.prog 161 #[.int .u8 c.toNat] w fun e w' => e = .returned (.int .i64 (Pl.dig c : Nat)) ∧ w' = w := by
 have hc := c.toNat_lt
 obtain ⟨k, hk⟩ : ∃ k, c.toNat = k := ⟨_, rfl⟩
 have hl := Pl.dig_eq c k hk
 rw [hk] at hc ⊢
 generalize Pl.dig c = m at *
 clear hk
 by_cases h0 : 48 ≤ k
 ·
  by_cases h1 : k ≤ 57
  ·
   rw [if_pos ⟨h0, h1⟩] at hl
   subst hl
   go_enter Tryz.func161, Tryz.ntmps161
   go_wp2
   go_ret
   exact ⟨by simp; omega, rfl⟩
  ·
   rw [if_neg (by omega)] at hl
   by_cases h2 : 97 ≤ k
   ·
    by_cases h3 : k ≤ 102
    ·
     rw [if_pos ⟨h2, h3⟩] at hl
     subst hl
     go_enter Tryz.func161, Tryz.ntmps161
     go_wp2
     go_ret
     exact ⟨by simp; omega, rfl⟩
    ·
     rw [if_neg (by omega), if_neg (by omega)] at hl
     subst hl
     go_enter Tryz.func161, Tryz.ntmps161
     go_wp2
     go_ret
     exact ⟨rfl, rfl⟩
   ·
    rw [if_neg (by omega)] at hl
    by_cases h4 : 65 ≤ k
    ·
     by_cases h5 : k ≤ 70
     ·
      rw [if_pos ⟨h4, h5⟩] at hl
      subst hl
      go_enter Tryz.func161, Tryz.ntmps161
      go_wp2
      go_ret
      exact ⟨by simp; omega, rfl⟩
     ·
      rw [if_neg (by omega)] at hl
      subst hl
      go_enter Tryz.func161, Tryz.ntmps161
      go_wp2
      go_ret
      exact ⟨rfl, rfl⟩
    ·
     rw [if_neg (by omega)] at hl
     subst hl
     go_enter Tryz.func161, Tryz.ntmps161
     go_wp2
     go_ret
     exact ⟨rfl, rfl⟩
 ·
  rw [if_neg (by omega), if_neg (by omega), if_neg (by omega)] at hl
  subst hl
  go_enter Tryz.func161, Tryz.ntmps161
  go_wp2
  go_ret
  exact ⟨rfl, rfl⟩
theorem Rd.encode (x : Nat) (h0 : x ≠ 0) : Utf8.encode (x : Int) = ⟨(Pl.runeL x).toArray⟩ := by
 by_cases hv : Utf8.valid (x : Int) = true
 ·
  have hb : ¬ (x = 0 ∨ (55296 ≤ x ∧ x ≤ 57343) ∨ 1114111 < x) := by
   simp only [Utf8.valid, Bool.or_eq_true, Bool.and_eq_true, decide_eq_true_eq] at hv
   omega
  unfold Utf8.encode Pl.runeL
  rw [if_neg hb]
  simp only [hv, if_true, Int.toNat_natCast]
  repeat' split
  all_goals rfl
 ·
  have hb : x = 0 ∨ (55296 ≤ x ∧ x ≤ 57343) ∨ 1114111 < x := by
   simp only [Utf8.valid, Bool.or_eq_true, Bool.and_eq_true, decide_eq_true_eq] at hv
   omega
  unfold Utf8.encode Pl.runeL
  rw [if_pos hb]
  have hv' : Utf8.valid (x : Int) = false := by simpa using hv
  simp only [hv', Bool.false_eq_true, if_false]
  rfl
set_option maxHeartbeats 1000000 in
theorem Rd.signOf (x : Nat) (hx : x < 2147483648) (w : World) :
  Calls Tryz.prog 162 #[.int .i64 (x : Int)] w fun e w' => e = .returned (.string ⟨(Pl.runeL x).toArray⟩) ∧ w' = w := by
 by_cases h0 : x = 0
 ·
  subst h0
  go_enter Tryz.func162, Tryz.ntmps162
  go_wp2
  go_ret
  exact ⟨rfl, rfl⟩
 ·
  have hz : ((x : Int) == 0) = false := beq_eq_false_iff_ne.2 (by omega)
  have he := Rd.encode x h0
  generalize (⟨(Pl.runeL x).toArray⟩ : ByteArray) = r at *
  go_enter Tryz.func162, Tryz.ntmps162
  go_wp2
  go_ret
  exact ⟨rfl, rfl⟩
theorem Rd.drop_cons (s : ByteArray) (k : Nat) (h : k < s.size) : s.data.toList.drop k = s[k] :: s.data.toList.drop (k + 1) := by
 have h' : k < s.data.toList.length := by rw [Array.length_toList]; exact h
 rw [List.drop_eq_getElem_cons h']
 rfl
theorem Rd.get_at (s : ByteArray) (k : Nat) (h : k < s.size) : s.data.toList[k]? = some s[k] := by
 have h' : k < s.data.toList.length := by rw [Array.length_toList]; exact h
 rw [List.getElem?_eq_getElem h']
 rfl
theorem Rd.get_end (s : ByteArray) (k : Nat) (h : s.size ≤ k) : s.data.toList[k]? = none := by
 rw [List.getElem?_eq_none]
 rw [Array.length_toList]; exact h
theorem Rd.scan_end (base m : Nat) (s : ByteArray) (k x : Nat) (h : s.size ≤ k) : Pl.scan base m (s.data.toList.drop k) x k = (x, k) := by
 rw [List.drop_of_length_le (by rw [Array.length_toList]; exact h)]
 cases m <;> rfl
theorem Rd.scan_zero (base m : Nat) (l : List UInt8) (k x : Nat) (h : m = 0) : Pl.scan base m l x k = (x, k) := by
 subst h; rfl
theorem Rd.scan_stop (base m : Nat) (s : ByteArray) (k x d : Nat) (h : k < s.size) (hd : Pl.dig s[k] = d) (hb : base ≤ d) : Pl.scan base m (s.data.toList.drop k) x k = (x, k) := by
 rw [Rd.drop_cons s k h]
 cases m with
 | zero => rfl
 | succ m => rw [Pl.scan, if_neg (by omega)]
theorem Rd.scan_go (base m m' : Nat) (s : ByteArray) (k x d : Nat) (h : k < s.size) (hd : Pl.dig s[k] = d) (hb : d < base) (hm : m = m' + 1) : Pl.scan base m (s.data.toList.drop k) x k = Pl.scan base m' (s.data.toList.drop (k + 1)) (x * base + d) (k + 1) := by
 subst hm
 rw [Rd.drop_cons s k h, Pl.scan, if_pos (by omega), hd]
theorem Rd.num_none (l : List UInt8) (start base most x k : Nat) (h : Pl.scan base most (l.drop start) 0 start = (x, k)) (hn : k = start ∨ l[k]? ≠ some 59) : Pl.numL l start base most = ([], 0) := by
 unfold Pl.numL
 rw [h]
 exact if_pos hn
theorem Rd.num_some (l : List UInt8) (start base most x k : Nat) (h : Pl.scan base most (l.drop start) 0 start = (x, k)) (h0 : k ≠ start) (hn : l[k]? = some 59) : Pl.numL l start base most = (Pl.runeL x, k + 1) := by
 unfold Pl.numL
 rw [h]
 exact if_neg (by rintro (e | e); exact h0 e; exact e hn)
theorem Rd.ret_pair {p q : List UInt8 × Nat} (h : p = q) : Ending.returned (.tuple #[.string ⟨p.1.toArray⟩, .int .i64 (p.2 : Nat)]) = .returned (.tuple #[.string ⟨q.1.toArray⟩, .int .i64 (q.2 : Nat)]) := by rw [h]
theorem Rd.pow (b x j d : Nat) (h : x < b ^ j) (hd : d < b) : x * b + d < b ^ (j + 1) := by
 have : (x + 1) * b ≤ b ^ j * b := Nat.mul_le_mul_right b h
 rw [Nat.pow_succ]
 rw [Nat.add_mul] at this
 omega
theorem Rd.pow_le (b x j m : Nat) (h : x < b ^ j) (hb : 0 < b) (hm : j ≤ m) : x < b ^ m := Nat.lt_of_lt_of_le h (Nat.pow_le_pow_right hb hm)
theorem Rd.ne59 (c : UInt8) (n : Nat) (hc : c.toNat = n) (h : n ≠ 59) : some c ≠ some 59 := by
 intro e
 simp only [Option.some.injEq] at e
 subst e
 exact h hc.symm
theorem Rd.is59 (c : UInt8) (n : Nat) (hc : c.toNat = n) (h : n = 59) : some c = some 59 := by
 have : c = 59 := UInt8.toNat_inj.1 (by rw [hc, h]; rfl)
 rw [this]
set_option maxRecDepth 100000 in
set_option maxHeartbeats 4000000 in
theorem Rd.hexed (s : ByteArray) (w : World) (h0 : 2 ≤ s.size) :
  Calls Tryz.prog 138 #[.string s, .int .i64 2, .int .i64 16, .int .i64 6] w fun e w' => e = .returned (.tuple #[.string ⟨(Pl.numL s.data.toList 2 16 6).1.toArray⟩, .int .i64 ((Pl.numL s.data.toList 2 16 6).2 : Nat)]) ∧ w' = w := by
 go_enter Tryz.func138, Tryz.ntmps138
 go_wp2
 go_loop [10, 11] (fun v i => ∃ x k : Nat, 2 ≤ k ∧ k ≤ s.size ∧ k ≤ 8 ∧ v = .int .i64 x ∧ i = .int .i64 k ∧ x < 16 ^ (k - 2) ∧ Hid (Pl.scan 16 (8 - k) (s.data.toList.drop k) x k = Pl.scan 16 6 (s.data.toList.drop 2) 0 2)) (fun _ i => 8 - (intOf i).toNat)
 case atStart => exact ⟨0, 2, by omega, h0, by omega, rfl, rfl, by decide, rfl⟩
 case round =>
  obtain ⟨x, k, hk0, hk1, hk2, rfl, rfl, hx0, HE⟩ := hrel
  have hx : x < 16777216 := Rd.pow_le 16 x (k - 2) 6 hx0 (by decide) (by omega)
  have HX : Hid (x < 16 ^ (k - 2)) := hx0
  clear hx0
  by_cases hlt : k < s.size
  ·
   obtain ⟨d, hd⟩ : ∃ d, Pl.dig s[k] = d := ⟨_, rfl⟩
   obtain ⟨n, hn⟩ : ∃ n, s[k].toNat = n := ⟨_, rfl⟩
   have hd16 : d ≤ 16 := by rw [← hd]; exact Pl.dig_le _
   have cd := Rd.digit s[k] w
   rw [hd, hn] at cd
   have HD : Hid (Pl.dig s[k] = d) := hd
   clear hd
   by_cases hm : k < 8
   ·
    by_cases hb : d < 16
    ·
     have hb1 : decide ((16 : Int) ≤ (d : Int)) = false := decide_eq_false (by omega)
     have HP := Rd.pow 16 x (k - 2) d HX.out hb
     have HG := Rd.scan_go 16 (8 - k) (8 - (k + 1)) s k x d hlt HD.out hb (by omega)
     have HN : Hid (Pl.scan 16 (8 - (k + 1)) (s.data.toList.drop (k + 1)) (x * 16 + d) (k + 1) = Pl.scan 16 6 (s.data.toList.drop 2) 0 2 ∧ x * 16 + d < 16 ^ (k + 1 - 2)) := by
      refine ⟨by rw [← HG]; exact HE.out, ?_⟩
      rwa [show k + 1 - 2 = k - 2 + 1 by omega]
     clear HP HG HX HE HD
     go_wp2_with (go_at_call 161; refine cd.mono ?_; rintro e w1 ⟨rfl, rfl⟩)
     go_round
     case rel => exact ⟨x * 16 + d, k + 1, by omega, by omega, by omega, by go_num, by go_num, HN.out.2, HN.out.1⟩
     case measure => simp [intOf]; omega
    ·
     have hb1 : decide ((16 : Int) ≤ (d : Int)) = true := decide_eq_true (by omega)
     have HS : Hid (Pl.scan 16 (8 - k) (s.data.toList.drop k) x k = (x, k)) := Rd.scan_stop _ _ s k x d hlt HD.out (by omega)
     clear HX HD
     by_cases e0 : k = 2
     ·
      have b0 : ((k : Int) == 2) = true := beq_iff_eq.2 (by omega)
      have E0 : Hid (k = 2) := e0
      clear e0
      go_wp2_with (go_at_call 161; refine cd.mono ?_; rintro e w1 ⟨rfl, rfl⟩)
      go_ret2
      exact ⟨Rd.ret_pair (Rd.num_none _ _ _ _ _ _ (HE.out.symm.trans HS.out) (by exact .inl E0.out)).symm, rfl⟩
     ·
      have b0 : ((k : Int) == 2) = false := beq_eq_false_iff_ne.2 (by omega)
      have b1 : ((k : Int) == (s.size : Int)) = false := beq_eq_false_iff_ne.2 (by omega)
      have hg := Rd.get_at s k hlt
      have HG : Hid (s.data.toList[k]? = some s[k]) := hg
      clear hg
      by_cases e1 : n = 59
      ·
       have b2 : ((n : Int) == 59) = true := beq_iff_eq.2 (by omega)
       have E1 : Hid (n = 59) := e1
       clear e1
       go_wp2_with (first | (go_at_call 161; refine cd.mono ?_; rintro e w1 ⟨rfl, rfl⟩) | (go_at_call 162; refine (Rd.signOf x (by omega) _).mono ?_; rintro e w1 ⟨rfl, rfl⟩))
       go_ret2
       refine ⟨Eq.trans ?_ (Rd.ret_pair (Rd.num_some _ _ _ _ _ _ (HE.out.symm.trans HS.out) e0 (by rw [HG.out]; exact Rd.is59 _ n hn E1.out)).symm), rfl⟩
       simp
      ·
       have b2 : ((n : Int) == 59) = false := beq_eq_false_iff_ne.2 (by omega)
       go_wp2_with (go_at_call 161; refine cd.mono ?_; rintro e w1 ⟨rfl, rfl⟩)
       go_ret2
       exact ⟨Rd.ret_pair (Rd.num_none _ _ _ _ _ _ (HE.out.symm.trans HS.out) (by right; rw [HG.out]; exact Rd.ne59 _ n hn e1)).symm, rfl⟩
   ·
    have HS : Hid (Pl.scan 16 (8 - k) (s.data.toList.drop k) x k = (x, k)) := Rd.scan_zero _ _ _ k x (by omega)
    clear HX HD
    by_cases e0 : k = 2
    ·
     have b0 : ((k : Int) == 2) = true := beq_iff_eq.2 (by omega)
     have E0 : Hid (k = 2) := e0
     clear e0
     go_wp2
     go_ret2
     exact ⟨Rd.ret_pair (Rd.num_none _ _ _ _ _ _ (HE.out.symm.trans HS.out) (by exact .inl E0.out)).symm, rfl⟩
    ·
     have b0 : ((k : Int) == 2) = false := beq_eq_false_iff_ne.2 (by omega)
     have b1 : ((k : Int) == (s.size : Int)) = false := beq_eq_false_iff_ne.2 (by omega)
     have hg := Rd.get_at s k hlt
     have HG : Hid (s.data.toList[k]? = some s[k]) := hg
     clear hg
     by_cases e1 : n = 59
     ·
      have b2 : ((n : Int) == 59) = true := beq_iff_eq.2 (by omega)
      have E1 : Hid (n = 59) := e1
      clear e1
      go_wp2_with (first | (go_at_call 161; refine cd.mono ?_; rintro e w1 ⟨rfl, rfl⟩) | (go_at_call 162; refine (Rd.signOf x (by omega) _).mono ?_; rintro e w1 ⟨rfl, rfl⟩))
      go_ret2
      refine ⟨Eq.trans ?_ (Rd.ret_pair (Rd.num_some _ _ _ _ _ _ (HE.out.symm.trans HS.out) e0 (by rw [HG.out]; exact Rd.is59 _ n hn E1.out)).symm), rfl⟩
      simp
     ·
      have b2 : ((n : Int) == 59) = false := beq_eq_false_iff_ne.2 (by omega)
      go_wp2
      go_ret2
      exact ⟨Rd.ret_pair (Rd.num_none _ _ _ _ _ _ (HE.out.symm.trans HS.out) (by right; rw [HG.out]; exact Rd.ne59 _ n hn e1)).symm, rfl⟩
  ·
   have HS : Hid (Pl.scan 16 (8 - k) (s.data.toList.drop k) x k = (x, k)) := Rd.scan_end _ _ s k x (by omega)
   clear HX
   by_cases e0 : k = 2
   ·
    have b0 : ((k : Int) == 2) = true := beq_iff_eq.2 (by omega)
    have E0 : Hid (k = 2) := e0
    clear e0
    go_wp2
    go_ret2
    exact ⟨Rd.ret_pair (Rd.num_none _ _ _ _ _ _ (HE.out.symm.trans HS.out) (by exact .inl E0.out)).symm, rfl⟩
   ·
    have b0 : ((k : Int) == 2) = false := beq_eq_false_iff_ne.2 (by omega)
    have b1 : ((k : Int) == (s.size : Int)) = true := beq_iff_eq.2 (by omega)
    go_wp2
    go_ret2
    exact ⟨Rd.ret_pair (Rd.num_none _ _ _ _ _ _ (HE.out.symm.trans HS.out) (by right; rw [Rd.get_end s k (by omega)]; exact fun h => by cases h)).symm, rfl⟩
set_option maxRecDepth 100000 in
set_option maxHeartbeats 4000000 in
theorem Rd.tens (s : ByteArray) (w : World) (h0 : 1 ≤ s.size) :
  Calls Tryz.prog 138 #[.string s, .int .i64 1, .int .i64 10, .int .i64 7] w fun e w' => e = .returned (.tuple #[.string ⟨(Pl.numL s.data.toList 1 10 7).1.toArray⟩, .int .i64 ((Pl.numL s.data.toList 1 10 7).2 : Nat)]) ∧ w' = w := by
 go_enter Tryz.func138, Tryz.ntmps138
 go_wp2
 go_loop [10, 11] (fun v i => ∃ x k : Nat, 1 ≤ k ∧ k ≤ s.size ∧ k ≤ 8 ∧ v = .int .i64 x ∧ i = .int .i64 k ∧ x < 10 ^ (k - 1) ∧ Hid (Pl.scan 10 (8 - k) (s.data.toList.drop k) x k = Pl.scan 10 7 (s.data.toList.drop 1) 0 1)) (fun _ i => 8 - (intOf i).toNat)
 case atStart => exact ⟨0, 1, by omega, h0, by omega, rfl, rfl, by decide, rfl⟩
 case round =>
  obtain ⟨x, k, hk0, hk1, hk2, rfl, rfl, hx0, HE⟩ := hrel
  have hx : x < 10000000 := Rd.pow_le 10 x (k - 1) 7 hx0 (by decide) (by omega)
  have HX : Hid (x < 10 ^ (k - 1)) := hx0
  clear hx0
  by_cases hlt : k < s.size
  ·
   obtain ⟨d, hd⟩ : ∃ d, Pl.dig s[k] = d := ⟨_, rfl⟩
   obtain ⟨n, hn⟩ : ∃ n, s[k].toNat = n := ⟨_, rfl⟩
   have hd16 : d ≤ 16 := by rw [← hd]; exact Pl.dig_le _
   have cd := Rd.digit s[k] w
   rw [hd, hn] at cd
   have HD : Hid (Pl.dig s[k] = d) := hd
   clear hd
   by_cases hm : k < 8
   ·
    by_cases hb : d < 10
    ·
     have hb1 : decide ((10 : Int) ≤ (d : Int)) = false := decide_eq_false (by omega)
     have HP := Rd.pow 10 x (k - 1) d HX.out hb
     have HG := Rd.scan_go 10 (8 - k) (8 - (k + 1)) s k x d hlt HD.out hb (by omega)
     have HN : Hid (Pl.scan 10 (8 - (k + 1)) (s.data.toList.drop (k + 1)) (x * 10 + d) (k + 1) = Pl.scan 10 7 (s.data.toList.drop 1) 0 1 ∧ x * 10 + d < 10 ^ (k + 1 - 1)) := by
      refine ⟨by rw [← HG]; exact HE.out, ?_⟩
      rwa [show k + 1 - 1 = k - 1 + 1 by omega]
     clear HP HG HX HE HD
     go_wp2_with (go_at_call 161; refine cd.mono ?_; rintro e w1 ⟨rfl, rfl⟩)
     go_round
     case rel => exact ⟨x * 10 + d, k + 1, by omega, by omega, by omega, by go_num, by go_num, HN.out.2, HN.out.1⟩
     case measure => simp [intOf]; omega
    ·
     have hb1 : decide ((10 : Int) ≤ (d : Int)) = true := decide_eq_true (by omega)
     have HS : Hid (Pl.scan 10 (8 - k) (s.data.toList.drop k) x k = (x, k)) := Rd.scan_stop _ _ s k x d hlt HD.out (by omega)
     clear HX HD
     by_cases e0 : k = 1
     ·
      have b0 : ((k : Int) == 1) = true := beq_iff_eq.2 (by omega)
      have E0 : Hid (k = 1) := e0
      clear e0
      go_wp2_with (go_at_call 161; refine cd.mono ?_; rintro e w1 ⟨rfl, rfl⟩)
      go_ret2
      exact ⟨Rd.ret_pair (Rd.num_none _ _ _ _ _ _ (HE.out.symm.trans HS.out) (by exact .inl E0.out)).symm, rfl⟩
     ·
      have b0 : ((k : Int) == 1) = false := beq_eq_false_iff_ne.2 (by omega)
      have b1 : ((k : Int) == (s.size : Int)) = false := beq_eq_false_iff_ne.2 (by omega)
      have hg := Rd.get_at s k hlt
      have HG : Hid (s.data.toList[k]? = some s[k]) := hg
      clear hg
      by_cases e1 : n = 59
      ·
       have b2 : ((n : Int) == 59) = true := beq_iff_eq.2 (by omega)
       have E1 : Hid (n = 59) := e1
       clear e1
       go_wp2_with (first | (go_at_call 161; refine cd.mono ?_; rintro e w1 ⟨rfl, rfl⟩) | (go_at_call 162; refine (Rd.signOf x (by omega) _).mono ?_; rintro e w1 ⟨rfl, rfl⟩))
       go_ret2
       refine ⟨Eq.trans ?_ (Rd.ret_pair (Rd.num_some _ _ _ _ _ _ (HE.out.symm.trans HS.out) e0 (by rw [HG.out]; exact Rd.is59 _ n hn E1.out)).symm), rfl⟩
       simp
      ·
       have b2 : ((n : Int) == 59) = false := beq_eq_false_iff_ne.2 (by omega)
       go_wp2_with (go_at_call 161; refine cd.mono ?_; rintro e w1 ⟨rfl, rfl⟩)
       go_ret2
       exact ⟨Rd.ret_pair (Rd.num_none _ _ _ _ _ _ (HE.out.symm.trans HS.out) (by right; rw [HG.out]; exact Rd.ne59 _ n hn e1)).symm, rfl⟩
   ·
    have HS : Hid (Pl.scan 10 (8 - k) (s.data.toList.drop k) x k = (x, k)) := Rd.scan_zero _ _ _ k x (by omega)
    clear HX HD
    by_cases e0 : k = 1
    ·
     have b0 : ((k : Int) == 1) = true := beq_iff_eq.2 (by omega)
     have E0 : Hid (k = 1) := e0
     clear e0
     go_wp2
     go_ret2
     exact ⟨Rd.ret_pair (Rd.num_none _ _ _ _ _ _ (HE.out.symm.trans HS.out) (by exact .inl E0.out)).symm, rfl⟩
    ·
     have b0 : ((k : Int) == 1) = false := beq_eq_false_iff_ne.2 (by omega)
     have b1 : ((k : Int) == (s.size : Int)) = false := beq_eq_false_iff_ne.2 (by omega)
     have hg := Rd.get_at s k hlt
     have HG : Hid (s.data.toList[k]? = some s[k]) := hg
     clear hg
     by_cases e1 : n = 59
     ·
      have b2 : ((n : Int) == 59) = true := beq_iff_eq.2 (by omega)
      have E1 : Hid (n = 59) := e1
      clear e1
      go_wp2_with (first | (go_at_call 161; refine cd.mono ?_; rintro e w1 ⟨rfl, rfl⟩) | (go_at_call 162; refine (Rd.signOf x (by omega) _).mono ?_; rintro e w1 ⟨rfl, rfl⟩))
      go_ret2
      refine ⟨Eq.trans ?_ (Rd.ret_pair (Rd.num_some _ _ _ _ _ _ (HE.out.symm.trans HS.out) e0 (by rw [HG.out]; exact Rd.is59 _ n hn E1.out)).symm), rfl⟩
      simp
     ·
      have b2 : ((n : Int) == 59) = false := beq_eq_false_iff_ne.2 (by omega)
      go_wp2
      go_ret2
      exact ⟨Rd.ret_pair (Rd.num_none _ _ _ _ _ _ (HE.out.symm.trans HS.out) (by right; rw [HG.out]; exact Rd.ne59 _ n hn e1)).symm, rfl⟩
  ·
   have HS : Hid (Pl.scan 10 (8 - k) (s.data.toList.drop k) x k = (x, k)) := Rd.scan_end _ _ s k x (by omega)
   clear HX
   by_cases e0 : k = 1
   ·
    have b0 : ((k : Int) == 1) = true := beq_iff_eq.2 (by omega)
    have E0 : Hid (k = 1) := e0
    clear e0
    go_wp2
    go_ret2
    exact ⟨Rd.ret_pair (Rd.num_none _ _ _ _ _ _ (HE.out.symm.trans HS.out) (by exact .inl E0.out)).symm, rfl⟩
   ·
    have b0 : ((k : Int) == 1) = false := beq_eq_false_iff_ne.2 (by omega)
    have b1 : ((k : Int) == (s.size : Int)) = true := beq_iff_eq.2 (by omega)
    go_wp2
    go_ret2
    exact ⟨Rd.ret_pair (Rd.num_none _ _ _ _ _ _ (HE.out.symm.trans HS.out) (by right; rw [Rd.get_end s k (by omega)]; exact fun h => by cases h)).symm, rfl⟩
theorem Sz.low (c : UInt8) (w : World) :
  Calls Tryz.prog 145 #[.int .u8 c.toNat] w fun e w' => e = .returned (.int .u8 (Pl.lowB c).toNat) ∧ w' = w := by
 have hc := c.toNat_lt
 have hl := Pl.lowB_toNat c
 generalize (Pl.lowB c).toNat = m at *
 generalize c.toNat = k at *
 by_cases h1 : 65 ≤ k
 ·
  by_cases h2 : k ≤ 90
  ·
   rw [if_pos ⟨h1, h2⟩] at hl
   subst hl
   go_enter Tryz.func145, Tryz.ntmps145
   go_wp2
   go_ret
   exact ⟨by simp, rfl⟩
  ·
   rw [if_neg (by omega)] at hl
   subst hl
   go_enter Tryz.func145, Tryz.ntmps145
   go_wp2
   go_ret
   exact ⟨rfl, rfl⟩
 ·
  rw [if_neg (by omega)] at hl
  subst hl
  go_enter Tryz.func145, Tryz.ntmps145
  go_wp2
  go_ret
  exact ⟨rfl, rfl⟩
theorem Rn.conv {wr : World} {B : Nat} {v : Value} {acc : List UInt8} (h : wr.ownsRow B 5 1 v acc.length (Lib.byteCells acc)) :
  (convert 43 9 v).run Tryz.prog wr = .ok (.string ⟨acc.toArray⟩) wr := by
 rcases h.2 with ⟨rfl, h0⟩ | ⟨g, cap, cur, rfl, _⟩
 ·
  have e : acc = [] := List.eq_nil_of_length_eq_zero h0
  subst e
  rw [run_convert_bytes_string wr 43 9 5 none 0 0 Tryz.underlying43 Tryz.underlying5 Tryz.underlying9]
  simp [Conv.bytesToString]
  rfl
 ·
  refine run_convert_bytes_back (P := Tryz.prog) wr 43 9 5 ⟨g, 0, none⟩ cap acc Tryz.underlying43 Tryz.underlying5 Tryz.underlying9 (fun j hj => ?_)
  have e : (⟨g, 0, none⟩ : Addr).add j = ⟨g, j, none⟩ := by rw [Addr.add_lit, Nat.zero_add]
  rw [e, h.cellAt j (by omega)]
  simp [Lib.byteCells, hj]
theorem Rn.below {w wr w' : World} {v : Value} {n : Nat} {xs : List Value} (hb : Below w.heap.size w wr) (hown : wr.ownsRow w.heap.size 5 1 v n xs) (hg : wr.grownBy w' v.ownBlock) : Below w.heap.size w w' :=
 hb.grown hg hb.size (fun k hk => (hown.lt k hk).1)
theorem Rn.good_rel {w wr w1 : World} {o v' : Value} {acc l : List UInt8} {part : ByteArray} {n : Nat} (hsz : part.size = n) (hb : Below w.heap.size w wr) (hown : wr.ownsRow w.heap.size 5 1 o acc.length (Lib.byteCells acc)) (hp : part.data.toList = l)
  (hown' : w1.ownsRow w.heap.size 5 1 v' (acc.length + n) (Lib.byteCells acc ++ Lib.strCells part)) (hg : wr.grownBy w1 o.ownBlock) :
  w1.ownsRow w.heap.size 5 1 v' (acc ++ l).length (Lib.byteCells (acc ++ l)) ∧ Below w.heap.size w w1 := by
 refine ⟨?_, Rn.below hb hown hg⟩
 rw [Lib.byteCells_append, List.length_append, ← hp, Wk.len_data, hsz]
 exact hown'
theorem Re.beq_true (c : UInt8) (n : Nat) (h : c.toNat = n) : ((c.toNat : Int) == (n : Int)) = true := by rw [h]; exact beq_iff_eq.2 rfl
theorem Re.beq_false (c d : UInt8) (n : Nat) (hd : d.toNat = n) (h : c ≠ d) : ((c.toNat : Int) == (n : Int)) = false :=
 beq_eq_false_iff_ne.2 fun e => h (UInt8.toNat_inj.1 (by rw [hd]; omega))
theorem Rn.one1 (W : World) (x : Int) : ∀ (j : Nat) (u : Value), [Value.int .u8 x][j]? = some u → (W.alloc (.cells #[.int .u8 x] 5)).cell? ((⟨W.heap.size, 0, none⟩ : Addr).add j) = some u := by
 intro j u h
 rw [Addr.add_lit, Nat.zero_add]
 have := World.cell?_alloc_mark W #[.int .u8 x] 5 (0, 0) j
 rw [this]
 simpa using h
theorem Rn.one2 (x : Int) : ∀ u ∈ [Value.int .u8 x], u.oneCell' = true := by
 intro u hu
 simp at hu
 subst hu; rfl
theorem Rn.one_rel {w wr w1 : World} {o v' : Value} {acc : List UInt8} {X : Obj} {c : UInt8} (hb : Below w.heap.size w wr) (hown : wr.ownsRow w.heap.size 5 1 o acc.length (Lib.byteCells acc))
  (hown' : w1.ownsRow w.heap.size 5 1 v' (acc.length + 1) (Lib.byteCells acc ++ [.int .u8 c.toNat])) (hg : (wr.alloc X).grownBy w1 o.ownBlock) :
  w1.ownsRow w.heap.size 5 1 v' (acc ++ [c]).length (Lib.byteCells (acc ++ [c])) ∧ Below w.heap.size w w1 := by
 refine ⟨?_, (hb.alloc hb.size X).grown hg (by have := hb.size; simp; omega) (fun k hk => (hown.lt k hk).1)⟩
 rw [Lib.byteCells_append, List.length_append]
 exact hown'
end Go.Proofs.YtblpkjlodncpeaaGreatDoor
