/-
  THE WALKS of utf.signLength, stolelaw0.Num: each call returns what the plain function of the bytes gives, and turns nothing that was there.
-/
import Derived.Test.YtboalkfagfgnpabDoorPlain
import Derived.Test.YtboalkfagfgnpabDoorMRPlaintoShelf
import Derived.WalkKit
import Derived.BigCall
import Derived.Laws.IdiomStrings
namespace Go.Proofs.YtboalkfagfgnpabDoor
open Go.RowKit

theorem Wk.get_nb (s : ByteArray) (i : Nat) : (s.get! i).toNat = Pl.nb s.data.toList i := by
  have : s.get! i = s.data.toList.getD i 0 := by
    show s.data[i]! = _
    rw [getElem!_def, List.getD_eq_getElem?_getD, Array.getElem?_toList]
    cases s.data[i]? <;> rfl
  rw [this]; rfl
theorem Wk.sgn_decodeGo (s : ByteArray) (r k : Nat) (h : Lib.decodeGo s = (r, k)) : (if r = 0 ∨ (r = 65533 ∧ k = 1) then 0 else k) = Pl.sgn s.data.toList := by
  have hsz : s.data.toList.length = s.size := by rw [Array.length_toList]; rfl
  unfold Lib.decodeGo at h
  split at h
  · rename_i h0
    have hn : s.data.toList = [] := List.eq_nil_of_length_eq_zero (by omega)
    simp only [Prod.mk.injEq] at h
    obtain ⟨rfl, rfl⟩ := h
    rw [hn]; rfl
  · rw [Lib.decode_at, Wk.get_nb, Wk.get_nb, Wk.get_nb, Wk.get_nb] at h
    have := Pl.sgnN_decode _ _ _ _ _ (Pl.nb_lt _ _) (Pl.nb_lt _ _) (Pl.nb_lt _ _) (Pl.nb_lt _ _) r k h
    rw [this]
    unfold Pl.sgn
    rw [hsz]; rfl
theorem Wk.decode_small (s : ByteArray) (r k : Nat) (h : Lib.decodeGo s = (r, k)) : k ≤ 4 := by
  unfold Lib.decodeGo at h
  split at h
  · simp only [Prod.mk.injEq] at h; omega
  · rw [Lib.decode_at] at h
    unfold Lib.decodeN at h
    repeat' split at h
    all_goals (simp only [Prod.mk.injEq] at h; omega)

set_option maxHeartbeats 1000000 in
theorem Wk.sign (s : ByteArray) (w : World) (hT : Lib.Utf8Tabs 0 1 w) :
    Calls Tryd.prog 20 #[.string s] w fun e w' => e = .returned (.int .i64 (Pl.sgn s.data.toList : Nat)) ∧ Below w.heap.size w w' := by
  obtain ⟨r, k, hrk⟩ : ∃ r k, Lib.decodeGo s = (r, k) := ⟨_, _, rfl⟩
  have hS := Wk.sgn_decodeGo s r k hrk
  have c := Sh.utf8_DecodeRuneInString s w hT
  rw [hrk] at c
  generalize Pl.sgn s.data.toList = m at *
  clear hrk
  by_cases h0 : r = 0
  · subst h0
    have hm : m = 0 := by simpa using hS.symm
    subst hm
    clear hS
    go_enter Tryd.func20, Tryd.ntmps20
    go_wp2_with (go_at_call 34; refine c.mono ?_; rintro e w' ⟨rfl, hb⟩)
    go_ret
    exact ⟨rfl, hb⟩
  · have hr0 : ((r : Int) == 0) = false := by simpa using h0
    by_cases h1 : r = 65533
    · have hr1 : ((r : Int) == 65533) = true := by simp [h1]
      by_cases h2 : k = 1
      · have hk1 : ((k : Int) == 1) = true := by simp [h2]
        have hm : m = 0 := by simpa [h1, h2] using hS.symm
        subst hm
        clear hS h1 h2
        go_enter Tryd.func20, Tryd.ntmps20
        go_wp2_with (go_at_call 34; refine c.mono ?_; rintro e w' ⟨rfl, hb⟩)
        go_ret
        exact ⟨rfl, hb⟩
      · have hk1 : ((k : Int) == 1) = false := beq_eq_false_iff_ne.2 (by omega)
        have hm : m = k := by simpa [h1, h2] using hS.symm
        subst hm
        clear hS h1 h2
        go_enter Tryd.func20, Tryd.ntmps20
        go_wp2_with (go_at_call 34; refine c.mono ?_; rintro e w' ⟨rfl, hb⟩)
        go_ret
        exact ⟨rfl, hb⟩
    · have hr1 : ((r : Int) == 65533) = false := by simpa using (by omega : ¬ (r : Int) = 65533)
      have hm : m = k := by simpa [h0, h1] using hS.symm
      subst hm
      clear hS h1
      go_enter Tryd.func20, Tryd.ntmps20
      go_wp2_with (go_at_call 34; refine c.mono ?_; rintro e w' ⟨rfl, hb⟩)
      go_ret
      exact ⟨rfl, hb⟩

theorem Wk.num (w : World) : Calls Tryd.prog 6 #[.int .i64 0] w fun e w' => e = .returned (.int .i64 0) ∧ w' = w := by
  go_enter Tryd.func6, Tryd.ntmps6
  go_wp2
  go_ret
  exact ⟨rfl, rfl⟩
theorem Wk.rest_data (s : ByteArray) (k : Nat) : (s.extract k s.size).data.toList = s.data.toList.drop k := by
  rw [Lib.extract_data, List.take_of_length_le]
  rw [List.length_drop, Array.length_toList]
  exact Nat.le_refl _
theorem Wk.len_data (s : ByteArray) : s.data.toList.length = s.size := by rw [Array.length_toList]; rfl
theorem Wk.sign_at (s : ByteArray) (k : Nat) (w : World) (hT : Lib.Utf8Tabs 0 1 w) :
    Calls Tryd.prog 20 #[.string (s.extract k s.size)] w fun e w' => e = .returned (.int .i64 (Pl.sgn (s.data.toList.drop k) : Nat)) ∧ Below w.heap.size w w' := by
  have := Wk.sign (s.extract k s.size) w hT
  rwa [Wk.rest_data] at this
theorem Wk.drop_ne (s : ByteArray) (k : Nat) (h : k < s.size) : s.data.toList.drop k ≠ [] := by
  intro e
  have := congrArg List.length e
  rw [List.length_drop, Wk.len_data] at this
  simp at this
  omega
theorem Wk.ret_bool {a b : Bool} (h : a = b) : Ending.returned (.bool a) = .returned (.bool b) := by rw [h]
theorem Wk.below_step {w wr w1 : World} (h : Below w.heap.size w wr) (h1 : Below wr.heap.size wr w1) : Below w.heap.size w w1 := h.trans (h1.mono h.size)

theorem Wk.info5 : (Tryd.prog.info? 5).map (fun i => (i.zero, i.size, i.bytes)) = some (some (.int .u8 0), 1, 1) := by kernel_rfl
end Go.Proofs.YtboalkfagfgnpabDoor
/-
  THE WALKS of stoleref1.Size and stoleref1.Low: each returns what the plain function of the bytes gives, and turns nothing.
-/
namespace Go.Proofs.YtboalkfagfgnpabDoor
open Go.RowKit

/-- the length of the sign at a place; of a byte 0: 1 -/
def Pl.siz (l : List UInt8) : Nat := if Pl.nb l 0 = 0 then 1 else Pl.sgn l
theorem Sz.nb_at (s : ByteArray) (i q : Nat) (h : i + q < s.size) : Pl.nb (s.data.toList.drop i) q = (s[i + q]).toNat := by
  have h' : i + q < s.data.toList.length := by rw [Wk.len_data]; exact h
  simp only [Pl.nb, List.getD_eq_getElem?_getD, List.getElem?_drop, List.getElem?_eq_getElem h', Option.getD_some]
  rfl
theorem Sz.ret {a b : Int} (h : a = b) : Ending.returned (.int .i64 a) = .returned (.int .i64 b) := by rw [h]

theorem Sz.cont_end {P : Nat → Prop} {n : Nat} (h : ∀ q, 1 ≤ q → q < n → P q) (hn : P n) : ∀ q, 1 ≤ q → q < n + 1 → P q := fun q h1 h2 => by
  by_cases e : q = n
  · subst e; exact hn
  · exact h q h1 (by omega)

/-- what the two tests behind Size ask, together -/
theorem Sz.both (l : List UInt8) : (Pl.siz l = 0 ∨ Pl.nb l 0 = 0) ↔ Pl.sgn l = 0 := by
  unfold Pl.siz
  constructor
  · rintro (h | h)
    · split at h
      · omega
      · exact h
    · unfold Pl.sgn Pl.sgnN; rw [if_pos h]
  · intro h
    by_cases h0 : Pl.nb l 0 = 0
    · exact .inr h0
    · left; rw [if_neg h0]; exact h
theorem Sz.same (l : List UInt8) (h : Pl.sgn l ≠ 0) : Pl.siz l = Pl.sgn l := by
  unfold Pl.siz
  by_cases h0 : Pl.nb l 0 = 0
  · exact absurd ((Sz.both l).1 (.inr h0)) h
  · rw [if_neg h0]

end Go.Proofs.YtboalkfagfgnpabDoor
/-
  PLAIN LISTS OF BYTES, no program: the document's own way to read a reference (what stands between & and ;) gives what 'Pl.refL' gives; a number written in digits is read back.
-/
namespace Go.Proofs.YtboalkfagfgnpabDoor.Pl

/-- a byte that may stand in a reference -/
def tokc (c : UInt8) : Bool := (decide (97 ≤ (lowB c).toNat) && decide ((lowB c).toNat ≤ 122)) || (decide (48 ≤ c.toNat) && decide (c.toNat ≤ 57)) || decide (c = 35)
def tokEnd : Nat → List UInt8 → Nat → Nat
  | 0, _, k => k
  | _ + 1, [], k => k
  | m + 1, c :: r, k => if tokc c then tokEnd m r (k + 1) else k
def numAll (base : Nat) : List UInt8 → Nat → Option Nat
  | [], x => some x
  | c :: r, x => if dig c < base then numAll base r (x * base + dig c) else none
def numR (s : List UInt8) : Option Nat :=
  if s.head? = some 120 ∨ s.head? = some 88 then (if s.tail = [] ∨ 6 < s.tail.length then none else numAll 16 s.tail 0)
  else if s = [] ∨ 7 < s.length then none else numAll 10 s 0
def names0 : List (List UInt8 × List UInt8) :=
  [([97, 109, 112], [38]), ([108, 116], [60]), ([103, 116], [62]), ([113, 117, 111, 116], [34]), ([97, 112, 111, 115], [39]), ([110, 98, 115, 112], [194, 160]), ([99, 111, 112, 121], [194, 169])]
def nameR : List (List UInt8 × List UInt8) → List UInt8 → Option (List UInt8)
  | [], _ => none
  | n :: ns, b => if b = n.1 then some n.2 else nameR ns b
def refR (b : List UInt8) : Option (List UInt8) := if b.head? = some 35 then (numR b.tail).map runeL else nameR names0 b
def refT (r : List UInt8) : List UInt8 × Nat :=
  if r[tokEnd 10 r 0]? = some 59 then (match refR (r.take (tokEnd 10 r 0)) with | some t => (t, tokEnd 10 r 0 + 1) | none => ([], 0)) else ([], 0)

/-! ### the end of what may be a reference -/
theorem tokEnd_body (t : List UInt8) : ∀ (b : List UInt8) (m k : Nat), (∀ c ∈ b, tokc c = true) → b.length ≤ m → tokEnd m (b ++ 59 :: t) k = k + b.length := by
  intro b
  induction b with
  | nil =>
    intro m k _ _
    cases m with
    | zero => rfl
    | succ m => simp [tokEnd, (by decide : tokc 59 = false)]
  | cons c b ih =>
    intro m k h hm
    cases m with
    | zero => simp at hm
    | succ m =>
      rw [List.cons_append, tokEnd, if_pos (h c (by simp)), ih m (k + 1) (fun d hd => h d (by simp [hd])) (by simpa using hm), List.length_cons]
      omega
theorem tokEnd_all : ∀ (m : Nat) (d : List UInt8) (k : Nat), k ≤ tokEnd m d k ∧ tokEnd m d k ≤ k + m ∧ ∀ c ∈ d.take (tokEnd m d k - k), tokc c = true := by
  intro m
  induction m with
  | zero => intro d k; simp [tokEnd]
  | succ m ih =>
    intro d k
    cases d with
    | nil => simp [tokEnd]
    | cons c r =>
      rw [tokEnd]
      split
      · rename_i hc
        obtain ⟨h1, h2, h3⟩ := ih r (k + 1)
        refine ⟨by omega, by omega, ?_⟩
        have e : tokEnd m r (k + 1) - k = (tokEnd m r (k + 1) - (k + 1)) + 1 := by omega
        rw [e, List.take_succ_cons]
        intro d hd
        rcases List.mem_cons.1 hd with rfl | hd
        · exact hc
        · exact h3 d hd
      · simp

/-! ### digits -/
theorem dig_tokc (c : UInt8) (h : dig c < 16) : tokc c = true := by
  have hl := lowB_toNat c
  unfold tokc
  unfold dig at h
  rw [hl]
  simp only [Bool.or_eq_true, Bool.and_eq_true, decide_eq_true_eq]
  split at h
  · exact .inl (.inr ⟨by omega, by omega⟩)
  · split at h
    · refine .inl (.inl ?_)
      split <;> omega
    · split at h
      · refine .inl (.inl ?_)
        split <;> omega
      · omega
theorem scan_num (base : Nat) (t : List UInt8) (hb : base ≤ 16) : ∀ (b : List UInt8) (m x i v : Nat), numAll base b x = some v → b.length ≤ m → scan base m (b ++ 59 :: t) x i = (v, i + b.length) := by
  intro b
  induction b with
  | nil =>
    intro m x i v h _
    simp only [numAll, Option.some.injEq] at h
    subst h
    cases m with
    | zero => rfl
    | succ m => rw [List.nil_append, scan, if_neg (by have : dig 59 = 16 := by decide
                                                      omega)]; rfl
  | cons c b ih =>
    intro m x i v h hm
    rw [numAll] at h
    split at h
    · rename_i hc
      cases m with
      | zero => simp at hm
      | succ m =>
        rw [List.cons_append, scan, if_pos hc, ih m _ (i + 1) v h (by simpa using hm), List.length_cons]
        congr 1; omega
    · cases h
theorem scan_bad (base : Nat) (t : List UInt8) : ∀ (b : List UInt8) (m x i : Nat), (numAll base b x = none ∨ m < b.length) → (scan base m (b ++ 59 :: t) x i).2 < i + b.length := by
  intro b
  induction b with
  | nil =>
    intro m x i h
    rcases h with h | h
    · cases h
    · simp at h
  | cons c b ih =>
    intro m x i h
    cases m with
    | zero => simp [scan]
    | succ m =>
      rw [List.cons_append, scan]
      split
      · rename_i hc
        have := ih m (x * base + dig c) (i + 1) (by
          rcases h with h | h
          · left; rwa [numAll, if_pos hc] at h
          · right; simpa using h)
        rw [List.length_cons]; omega
      · simp
/-- digits as far as they were read -/
theorem scan_digs (base : Nat) : ∀ (m : Nat) (d : List UInt8) (x i : Nat), ∀ c ∈ d.take ((scan base m d x i).2 - i), dig c < base := by
  intro m
  induction m with
  | zero => intro d x i; simp [scan]
  | succ m ih =>
    intro d x i
    cases d with
    | nil => simp [scan]
    | cons c r =>
      rw [scan]
      split
      · rename_i hc
        have h1 := scan_at base m r (x * base + dig c) (i + 1)
        have e : (scan base m r (x * base + dig c) (i + 1)).2 - i = ((scan base m r (x * base + dig c) (i + 1)).2 - (i + 1)) + 1 := by omega
        rw [e, List.take_succ_cons]
        intro d hd
        rcases List.mem_cons.1 hd with rfl | hd
        · exact hc
        · exact ih r _ _ d hd
      · simp

/-! ### a reference by number, whole -/
theorem numL_body (pre b t : List UInt8) (base most : Nat) (hb : base ≤ 16) (h59 : (59 : UInt8) ∉ b) :
    numL (pre ++ (b ++ 59 :: t)) pre.length base most = (match (if b = [] ∨ most < b.length then none else numAll base b 0) with | some v => (runeL v, pre.length + b.length + 1) | none => ([], 0)) := by
  unfold numL
  rw [List.drop_left]
  simp only
  by_cases hbad : numAll base b 0 = none ∨ most < b.length ∨ b = []
  · have e : (if b = [] ∨ most < b.length then none else numAll base b 0) = none := by
      split
      · rfl
      · rename_i h; rcases hbad with h1 | h1 | h1
        · exact h1
        · exact absurd (.inr h1) h
        · exact absurd (.inl h1) h
    rw [e]
    rw [if_pos]
    by_cases hn : b = []
    · subst hn
      left
      have h1 := scan_num base t hb [] most 0 pre.length 0 rfl (Nat.zero_le _)
      rw [h1]; rfl
    · right
      have hlt := scan_bad base t b most 0 pre.length (by
        rcases hbad with h1 | h1 | h1
        · exact .inl h1
        · exact .inr h1
        · exact absurd h1 hn)
      have hge := (scan_at base most (b ++ 59 :: t) 0 pre.length).1
      generalize (scan base most (b ++ 59 :: t) 0 pre.length).2 = j at hlt hge
      rw [List.getElem?_append_right hge, List.getElem?_append_left (by omega)]
      intro h
      exact h59 (List.mem_of_getElem? h)
  · have h1 : numAll base b 0 ≠ none := fun h => hbad (.inl h)
    have h2 : ¬ most < b.length := fun h => hbad (.inr (.inl h))
    have h3 : b ≠ [] := fun h => hbad (.inr (.inr h))
    obtain ⟨v, hv⟩ := Option.ne_none_iff_exists'.1 h1
    rw [scan_num base t hb b most 0 pre.length v hv (by omega)]
    have hpos := List.length_pos_iff.2 h3
    rw [if_neg, if_neg, hv]
    · rintro (h | h)
      · exact h3 h
      · exact h2 h
    · rintro (h | h)
      · simp only at h; omega
      · apply h
        simp only
        rw [List.getElem?_append_right (by omega), List.getElem?_append_right (by omega)]
        simp
theorem pre_cons (a c : UInt8) (p l : List UInt8) : pre (a :: p) (c :: l) = ((a == c) && pre p l) := rfl
theorem pre_nil (l : List UInt8) : pre [] l = true := by cases l <;> rfl
theorem pre_name (t : List UInt8) : ∀ (n b : List UInt8), (59 : UInt8) ∉ n → (59 : UInt8) ∉ b → pre (n ++ [59]) (b ++ 59 :: t) = decide (b = n) := by
  intro n
  induction n with
  | nil =>
    intro b _ hb
    cases b with
    | nil => simp [pre_cons, pre_nil]
    | cons c b =>
      have : c ≠ 59 := fun h => hb (by simp [h])
      have h2 : ((59 : UInt8) == c) = false := beq_eq_false_iff_ne.2 (fun h => this h.symm)
      simp [pre_cons, h2]
  | cons a n ih =>
    intro b hn hb
    cases b with
    | nil =>
      have : a ≠ 59 := fun h => hn (by simp [h])
      have h2 : (a == (59 : UInt8)) = false := beq_eq_false_iff_ne.2 this
      simp [pre_cons, h2]
    | cons c b =>
      rw [List.cons_append, List.cons_append, pre_cons, ih b (fun h => hn (by simp [h])) (fun h => hb (by simp [h]))]
      by_cases hc : a = c
      · subst hc; simp
      · have h2 : (a == c) = false := beq_eq_false_iff_ne.2 hc
        have h3 : ¬ (c :: b = a :: n) := fun h => hc (List.cons.inj h).1.symm
        simp [h2, h3]
theorem nameL_body (t b : List UInt8) (hb : (59 : UInt8) ∉ b) : ∀ (ns : List (List UInt8 × List UInt8)), (∀ n ∈ ns, (59 : UInt8) ∉ n.1) →
    nameL (ns.map fun n => (n.1 ++ [59], n.2)) (b ++ 59 :: t) = (match nameR ns b with | some s => (s, b.length + 1) | none => ([], 0)) := by
  intro ns
  induction ns with
  | nil => intro _; rfl
  | cons n ns ih =>
    intro h
    rw [List.map_cons, nameL, nameR]
    simp only
    rw [pre_name t n.1 b (h n (by simp)) hb]
    by_cases e : b = n.1
    · simp [e]
    · simp only [e, decide_false, if_false]
      exact ih (fun m hm => h m (by simp [hm]))
theorem refL_body (b t : List UInt8) (h59 : (59 : UInt8) ∉ b) : refL (b ++ 59 :: t) = (match refR b with | some s => (s, b.length + 1) | none => ([], 0)) := by
  have hname : nameL names (b ++ 59 :: t) = (match nameR names0 b with | some s => (s, b.length + 1) | none => ([], 0)) :=
    nameL_body t b h59 names0 (by decide)
  cases b with
  | nil => rw [refR, if_neg (by simp), ← hname]; rfl
  | cons a b =>
    by_cases ha : a = 35
    · subst ha
      have hb59 : (59 : UInt8) ∉ b := fun h => h59 (by simp [h])
      have hR : refR (35 :: b) = (numR b).map runeL := by simp [refR]
      rw [hR]
      cases b with
      | nil =>
        have h0 : numL ([35] ++ ([] ++ 59 :: t)) [35].length 10 7 = _ := numL_body [35] [] t 10 7 (by decide) (by simp)
        have e : refL ([35] ++ 59 :: t) = numL ([35] ++ ([] ++ 59 :: t)) 1 10 7 := by simp [refL, pre_cons, pre_nil]
        rw [e]
        simpa [numR] using h0
      | cons x b =>
        by_cases hx : x = 120 ∨ x = 88
        · have e : refL (35 :: x :: b ++ 59 :: t) = numL ([35, x] ++ (b ++ 59 :: t)) 2 16 6 := by
            rcases hx with rfl | rfl <;> simp [refL, pre_cons, pre_nil]
          have hb : (59 : UInt8) ∉ b := fun h => hb59 (by simp [h])
          have h0 : numL ([35, x] ++ (b ++ 59 :: t)) 2 16 6 = _ := numL_body [35, x] b t 16 6 (by decide) hb
          rw [e, h0]
          have hN : numR (x :: b) = (if b = [] ∨ 6 < b.length then none else numAll 16 b 0) := by
            rcases hx with rfl | rfl <;> (unfold numR; rw [if_pos (by simp)]; rfl)
          rw [hN]
          cases (if b = [] ∨ 6 < b.length then none else numAll 16 b 0) with
          | none => rfl
          | some v => simp [Nat.add_comm, Nat.add_left_comm]
        · have hx1 : ((120 : UInt8) == x) = false := beq_eq_false_iff_ne.2 fun h => hx (.inl h.symm)
          have hx2 : ((88 : UInt8) == x) = false := beq_eq_false_iff_ne.2 fun h => hx (.inr h.symm)
          have e : refL (35 :: x :: b ++ 59 :: t) = numL ([35] ++ (x :: b ++ 59 :: t)) 1 10 7 := by
            simp [refL, pre_cons, pre_nil, hx1, hx2]
          have h0 : numL ([35] ++ (x :: b ++ 59 :: t)) 1 10 7 = _ := numL_body [35] (x :: b) t 10 7 (by decide) hb59
          rw [e, h0]
          have hN : numR (x :: b) = (if x :: b = [] ∨ 7 < (x :: b).length then none else numAll 10 (x :: b) 0) := by
            rw [numR, if_neg]
            simpa using hx
          rw [hN]
          cases (if x :: b = [] ∨ 7 < (x :: b).length then none else numAll 10 (x :: b) 0) with
          | none => rfl
          | some v => simp [Nat.add_comm, Nat.add_left_comm]
    · have ha' : ((35 : UInt8) == a) = false := beq_eq_false_iff_ne.2 fun h => ha h.symm
      have e : refL (a :: b ++ 59 :: t) = nameL names (a :: b ++ 59 :: t) := by
        simp [refL, pre_cons, ha']
      have e2 : refR (a :: b) = nameR names0 (a :: b) := by simp [refR, ha]
      rw [e, e2]; exact hname

/-- whatever is a reference has only such bytes ahead of its ; -/
theorem numL_shape (p d : List UInt8) (base most : Nat) (hb : base ≤ 16) (hp : ∀ c ∈ p, tokc c = true) (hl : p.length + most ≤ 10) (h : (numL (p ++ d) p.length base most).2 ≠ 0) :
    ∃ b t, p ++ d = b ++ 59 :: t ∧ (∀ c ∈ b, tokc c = true) ∧ b.length ≤ 10 := by
  unfold numL at h
  rw [List.drop_left] at h
  simp only at h
  have hat := scan_at base most d 0 p.length
  have hdg := scan_digs base most d 0 p.length
  generalize scan base most d 0 p.length = q at *
  split at h
  · exact absurd rfl h
  · rename_i h1
    have h2 : (p ++ d)[q.2]? = some 59 := Classical.not_not.1 fun x => h1 (.inr x)
    obtain ⟨h3, h4⟩ := List.getElem?_eq_some_iff.1 h2
    refine ⟨(p ++ d).take q.2, (p ++ d).drop (q.2 + 1), ?_, ?_, ?_⟩
    · rw [← h4, ← List.drop_eq_getElem_cons h3, List.take_append_drop]
    · rw [List.take_append, List.take_of_length_le hat.1]
      intro c hc
      rcases List.mem_append.1 hc with hc | hc
      · exact hp c hc
      · exact dig_tokc c (Nat.lt_of_lt_of_le (hdg c hc) hb)
    · rw [List.length_take]; omega
theorem refL_shape (r : List UInt8) (h : (refL r).2 ≠ 0) : ∃ b t, r = b ++ 59 :: t ∧ (∀ c ∈ b, tokc c = true) ∧ b.length ≤ 10 := by
  unfold refL at h
  split at h
  · rename_i h1
    rw [Bool.or_eq_true] at h1
    rcases h1 with h1 | h1 <;> obtain ⟨d, rfl⟩ := (pre_iff _ _).1 h1
    · exact numL_shape [35, 120] d 16 6 (by decide) (by decide) (by decide) h
    · exact numL_shape [35, 88] d 16 6 (by decide) (by decide) (by decide) h
  · split at h
    · rename_i h1
      obtain ⟨d, rfl⟩ := (pre_iff _ _).1 h1
      exact numL_shape [35] d 10 7 (by decide) (by decide) (by decide) h
    · have key : ∀ ns : List (List UInt8 × List UInt8), (∀ n ∈ ns, (∀ c ∈ n.1, tokc c = true) ∧ n.1.length ≤ 10) → (nameL (ns.map fun n => (n.1 ++ [59], n.2)) r).2 ≠ 0 → ∃ b t, r = b ++ 59 :: t ∧ (∀ c ∈ b, tokc c = true) ∧ b.length ≤ 10 := by
        intro ns
        induction ns with
        | nil => intro _ h; exact absurd rfl h
        | cons n ns ih =>
          intro hn h
          rw [List.map_cons, nameL] at h
          split at h
          · rename_i hp
            obtain ⟨t, rfl⟩ := (pre_iff _ _).1 hp
            obtain ⟨q1, q2⟩ := hn n (by simp)
            exact ⟨n.1, t, by simp, q1, q2⟩
          · exact ih (fun m hm => hn m (by simp [hm])) h
      exact key names0 (by decide) h
theorem nameL_none : ∀ (ns : List (List UInt8 × List UInt8)) (l : List UInt8), (∀ n ∈ ns, n.1 ≠ []) → (nameL ns l).2 = 0 → nameL ns l = ([], 0) := by
  intro ns
  induction ns with
  | nil => intro l _ _; rfl
  | cons n ns ih =>
    intro l h h0
    rw [nameL] at h0 ⊢
    split at h0
    · exact absurd (List.eq_nil_of_length_eq_zero h0) (h n (by simp))
    · rename_i hp
      rw [if_neg hp]
      exact ih l (fun m hm => h m (by simp [hm])) h0
theorem numL_none (l : List UInt8) (start base most : Nat) (h : (numL l start base most).2 = 0) : numL l start base most = ([], 0) := by
  unfold numL at h ⊢
  simp only at h ⊢
  split at h
  · rename_i h1; rw [if_pos h1]
  · cases h
theorem refL_none (r : List UInt8) (h : (refL r).2 = 0) : refL r = ([], 0) := by
  unfold refL at h ⊢
  split at h
  · rename_i h1; rw [if_pos h1]; exact numL_none _ _ _ _ h
  · rename_i h1; rw [if_neg h1]
    split at h
    · rename_i h2; rw [if_pos h2]; exact numL_none _ _ _ _ h
    · rename_i h2; rw [if_neg h2]; exact nameL_none _ _ (by decide) h
/-- THE TWO WAYS AGREE. -/
theorem refT_eq (r : List UInt8) : refT r = refL r := by
  unfold refT
  split
  · rename_i h
    obtain ⟨h3, h4⟩ := List.getElem?_eq_some_iff.1 h
    have hall := tokEnd_all 10 r 0
    rw [Nat.sub_zero] at hall
    generalize tokEnd 10 r 0 = k at *
    have hr : r = r.take k ++ 59 :: r.drop (k + 1) := by
      rw [← h4, ← List.drop_eq_getElem_cons h3, List.take_append_drop]
    have h59 : (59 : UInt8) ∉ r.take k := fun hm => absurd (hall.2.2 59 hm) (by decide)
    have hb := refL_body (r.take k) (r.drop (k + 1)) h59
    rw [← hr] at hb
    rw [hb, List.length_take, Nat.min_eq_left (by omega)]
  · rename_i h
    by_cases h0 : (refL r).2 = 0
    · exact (refL_none r h0).symm
    · obtain ⟨b, t, rfl, hb, hl⟩ := refL_shape r h0
      exfalso
      apply h
      rw [tokEnd_body t b 10 0 hb hl, Nat.zero_add]
      simp

/-! ### numbers in digits -/
def val (base : Nat) (b : List UInt8) : Nat := b.foldl (fun x c => x * base + dig c) 0
theorem numAll_val (base : Nat) : ∀ (b : List UInt8) (x : Nat), (∀ c ∈ b, dig c < base) → numAll base b x = some (b.foldl (fun x c => x * base + dig c) x) := by
  intro b
  induction b with
  | nil => intro x _; rfl
  | cons c b ih =>
    intro x h
    rw [numAll, if_pos (h c (by simp)), ih _ (fun d hd => h d (by simp [hd]))]; rfl
theorem foldl_val (base : Nat) : ∀ (b : List UInt8) (x : Nat), b.foldl (fun x c => x * base + dig c) x = x * base ^ b.length + val base b := by
  intro b
  induction b with
  | nil => intro x; simp [val]
  | cons c b ih =>
    intro x
    have h1 := ih (x * base + dig c)
    have h2 := ih (dig c)
    simp only [val, List.foldl_cons, List.length_cons, Nat.zero_mul, Nat.zero_add] at *
    rw [h1, h2, Nat.pow_succ', Nat.add_mul, Nat.mul_assoc, Nat.add_assoc]
theorem val_cons (base : Nat) (c : UInt8) (b : List UInt8) : val base (c :: b) = dig c * base ^ b.length + val base b := by
  have := foldl_val base b (0 * base + dig c)
  simp only [Nat.zero_mul, Nat.zero_add] at this
  simp only [val, List.foldl_cons, Nat.zero_mul, Nat.zero_add]
  exact this
theorem ref_dec (b t : List UInt8) (h : ∀ c ∈ b, dig c < 10) (h0 : b ≠ []) (hl : b.length ≤ 7) : decL (38 :: 35 :: b ++ 59 :: t) = runeL (val 10 b) ++ decL t := by
  have h59 : (59 : UInt8) ∉ (35 :: b) := by
    intro hm
    rcases List.mem_cons.1 hm with e | hm
    · exact absurd e (by decide)
    · exact absurd (h 59 hm) (by decide)
  have hb := refL_body (35 :: b) t h59
  have hx : ¬ (b.head? = some 120 ∨ b.head? = some 88) := by
    cases b with
    | nil => exact absurd rfl h0
    | cons x b =>
      have := h x (by simp)
      rintro (e | e)
      · simp at e; subst e; exact absurd this (by decide)
      · simp at e; subst e; exact absurd this (by decide)
  have hR : refR (35 :: b) = some (runeL (val 10 b)) := by
    rw [refR, if_pos (by simp), List.tail_cons, numR, if_neg hx, if_neg (by rintro (e | e); exact h0 e; omega), numAll_val 10 b 0 h]; rfl
  rw [hR] at hb
  have := dec_body (35 :: b ++ [59]) (runeL (val 10 b)) t ((35 :: b).length + 1) (by simpa using hb) (by simp) (by simp)
  simpa using this
theorem ref_hex (x : UInt8) (b t : List UInt8) (hx : x = 120 ∨ x = 88) (h : ∀ c ∈ b, dig c < 16) (h0 : b ≠ []) (hl : b.length ≤ 6) : decL (38 :: 35 :: x :: b ++ 59 :: t) = runeL (val 16 b) ++ decL t := by
  have h59 : (59 : UInt8) ∉ (35 :: x :: b) := by
    intro hm
    rcases List.mem_cons.1 hm with e | hm
    · exact absurd e (by decide)
    · rcases List.mem_cons.1 hm with e | hm
      · rcases hx with rfl | rfl <;> exact absurd e (by decide)
      · exact absurd (h 59 hm) (by decide)
  have hb := refL_body (35 :: x :: b) t h59
  have hR : refR (35 :: x :: b) = some (runeL (val 16 b)) := by
    rw [refR, if_pos (by simp), List.tail_cons, numR, if_pos (by simpa using hx), List.tail_cons, if_neg (by rintro (e | e); exact h0 e; omega), numAll_val 16 b 0 h]; rfl
  rw [hR] at hb
  have := dec_body (35 :: x :: b ++ [59]) (runeL (val 16 b)) t ((35 :: x :: b).length + 1) (by simpa using hb) (by simp) (by simp)
  simpa using this
end Go.Proofs.YtboalkfagfgnpabDoor.Pl
/-
  THE WALKS of stoleref1.Letter and stoleref1.Digit.
-/
namespace Go.Proofs.YtboalkfagfgnpabDoor
open Go.RowKit

def Pl.letter (c : UInt8) : Bool := decide (97 ≤ (Pl.lowB c).toNat) && decide ((Pl.lowB c).toNat ≤ 122)
def Pl.digit (c : UInt8) : Bool := decide (48 ≤ c.toNat) && decide (c.toNat ≤ 57)
theorem Rt.ret_bool {a b : Bool} (h : a = b) : Ending.returned (.bool a) = .returned (.bool b) := by rw [h]

end Go.Proofs.YtboalkfagfgnpabDoor
