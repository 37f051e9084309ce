/-
  PLAIN: values written as JSON texts, and read again.
-/
import Derived.Test.YtiajclmhimkpnaaDoorBVGettoJBack
import Derived.Test.YtiajclmhimkpnaaDoorBRePlaintoVEq
namespace Go.Proofs.YtiajclmhimkpnaaDoor
/-- parts, one behind the other -/
def Js.cat (f : Nat → List UInt8) : Nat → List UInt8
  | 0 => []
  | n + 1 => Js.cat f n ++ f n
def Js.quoted (s : List UInt8) : List UInt8 := 34 :: (Js.esc s ++ [34])
def Js.real (b : Nat) : List UInt8 := if Re.kind b < 2 then [110, 117, 108, 108] else if Re.kind b = 4 then Js.quoted (Re.text b) else Re.text b
def Js.comma (i : Nat) : List UInt8 := if i = 0 then [] else [44]
def Js.put : Vt → List UInt8
  | .nil => []
  | .mk k x b s n it _ ks =>
    if k = 0 then [110, 117, 108, 108]
    else if k = 1 then (if x = 1 then [116, 114, 117, 101] else [102, 97, 108, 115, 101])
    else if k = 2 then Lib.itoa x
    else if k = 3 then Js.real b
    else if k = 4 then Js.quoted s.data.toList
    else if k = 5 then 91 :: (Js.cat (fun i => Js.comma i ++ Js.put (it i)) n ++ [93])
    else 123 :: (Js.cat (fun i => Js.comma i ++ (Js.quoted (ks i).data.toList ++ 58 :: Js.put (it i))) n ++ [125])
def Js.realBack (b : Nat) : Vt :=
  if Re.kind b < 2 then Js.leaf 0 0 0 ⟨#[]⟩
  else if Re.kind b = 4 then Js.leaf 4 0 0 ⟨(Re.text b).toArray⟩
  else if b = 9223372036854775808 then Js.leaf 3 0 b ⟨#[]⟩
  else Js.leaf 2 (Re.whole b) 0 ⟨#[]⟩
/-- what is read of a value that was put -/
def Js.back : Vt → Vt
  | .nil => .nil
  | .mk k x b s n it m ks =>
    if k = 3 then Js.realBack b
    else if k = 4 then Js.leaf 4 0 0 ⟨(Pl.normL s.data.toList).toArray⟩
    else if k < 3 then Js.leaf k x 0 ⟨#[]⟩
    else .mk k 0 0 ⟨#[]⟩ n (fun i => if i < n then Js.back (it i) else .nil) m (fun j => if j < m then ks j else ⟨#[]⟩)
/-- a value that may be, at most d deep -/
def Js.Ok : Nat → Vt → Prop
  | 0, _ => False
  | _ + 1, .nil => False
  | d + 1, .mk k x b s n it m ks => Vt.formed k x b s n m ks = true ∧ b < 18446744073709551616 ∧ ∀ i, i < n → Js.Ok d (it i)
/-- all its keys are texts -/
def Js.Keys : Nat → Vt → Prop
  | 0, _ => True
  | _ + 1, .nil => True
  | d + 1, .mk _ _ _ _ n it m ks => (∀ j, j < m → Pl.mayL (ks j).data.toList = true) ∧ ∀ i, i < n → Js.Keys d (it i)
/-- what may stand behind a value -/
def Js.ends : List UInt8 → Bool
  | [] => true
  | c :: _ => decide (c = 44) || decide (c = 93) || decide (c = 125) || Js.blank c
theorem Js.dec_unfold (u : Nat) : Lib.decDigits u = if u < 10 then [UInt8.ofNat (48 + u)] else Lib.decDigits (u / 10) ++ [UInt8.ofNat (48 + u % 10)] := by
  rw [Lib.decDigits]
  split <;> rfl
theorem Js.digit_of : ∀ n, n < 10 → Pl.digit (UInt8.ofNat (48 + n)) = true ∧ Pl.dig (UInt8.ofNat (48 + n)) = n := by decide
theorem Js.dec_all (u : Nat) : ∀ c ∈ Lib.decDigits u, Pl.digit c = true := by
  induction u using Nat.strongRecOn with
  | ind u ih =>
    rw [Js.dec_unfold]
    intro c hc
    split at hc
    · rename_i h
      rw [List.mem_singleton.1 hc]
      exact (Js.digit_of u h).1
    · rcases List.mem_append.1 hc with q | q
      · exact ih (u / 10) (by omega) c q
      · rw [List.mem_singleton.1 q]
        exact (Js.digit_of (u % 10) (by omega)).1
theorem Js.dec_val (u : Nat) : Pl.val 10 (Lib.decDigits u) = u := by
  induction u using Nat.strongRecOn with
  | ind u ih =>
    rw [Js.dec_unfold]
    split
    · rename_i h
      show 0 * 10 + Pl.dig _ = u
      rw [(Js.digit_of u h).2]
      omega
    · have h1 := ih (u / 10) (by omega)
      unfold Pl.val at h1 ⊢
      rw [List.foldl_append, h1]
      show u / 10 * 10 + Pl.dig _ = u
      rw [(Js.digit_of (u % 10) (by omega)).2]
      omega
theorem Js.dec_ne (u : Nat) : Lib.decDigits u ≠ [] := by
  rw [Js.dec_unfold]
  split <;> simp
theorem Js.dec_head (u : Nat) (h : 0 < u) : (Lib.decDigits u).head? ≠ some 48 := by
  induction u using Nat.strongRecOn with
  | ind u ih =>
    rw [Js.dec_unfold]
    split
    · rename_i h1
      have : ∀ n, n < 10 → 0 < n → ([UInt8.ofNat (48 + n)] : List UInt8).head? ≠ some 48 := by decide
      exact this u h1 h
    · have h2 := ih (u / 10) (by omega) (by omega)
      have h3 := Js.dec_ne (u / 10)
      cases hd : Lib.decDigits (u / 10) with
      | nil => exact absurd hd h3
      | cons c r => rw [hd] at h2; exact h2
theorem Js.dec_long (u : Nat) (h : 1 < (Lib.decDigits u).length) : 10 ≤ u := by
  rw [Js.dec_unfold] at h
  split at h
  · simp at h
  · omega
theorem Js.ends_digit {r : List UInt8} (h : Js.ends r = true) : r.takeWhile Pl.digit = [] ∧ r.dropWhile Pl.digit = r ∧ r.head? ≠ some 46 ∧ r.head? ≠ some 101 ∧ r.head? ≠ some 69 := by
  cases r with
  | nil => exact ⟨rfl, rfl, by simp, by simp, by simp⟩
  | cons c r =>
    have : ∀ n : Fin 256, (!(Js.ends [UInt8.ofNat n.val]) || decide (Pl.digit (UInt8.ofNat n.val) = false ∧ UInt8.ofNat n.val ≠ 46 ∧ UInt8.ofNat n.val ≠ 101 ∧ UInt8.ofNat n.val ≠ 69)) = true := by decide +kernel
    have h1 := this ⟨c.toNat, c.toNat_lt⟩
    simp only [UInt8.ofNat_toNat] at h1
    have h : Js.ends [c] = true := h
    rw [h, Bool.not_true, Bool.false_or] at h1
    obtain ⟨q1, q2, q3, q4⟩ := of_decide_eq_true h1
    refine ⟨by rw [List.takeWhile_cons, if_neg (by rw [q1]; exact Bool.false_ne_true)], by rw [List.dropWhile_cons, if_neg (by rw [q1]; exact Bool.false_ne_true)], ?_, ?_, ?_⟩
    all_goals simpa
theorem Js.split_digs {a r : List UInt8} (ha : ∀ c ∈ a, Pl.digit c = true) (hr : Js.ends r = true) : (a ++ r).takeWhile Pl.digit = a ∧ (a ++ r).dropWhile Pl.digit = r := by
  have h := Js.ends_digit hr
  refine ⟨by rw [List.takeWhile_append_of_pos ha, h.1, List.append_nil], ?_⟩
  have e : (a ++ r).takeWhile Pl.digit ++ (a ++ r).dropWhile Pl.digit = a ++ r := List.takeWhile_append_dropWhile
  rw [List.takeWhile_append_of_pos ha, h.1, List.append_nil] at e
  exact List.append_cancel_left e
theorem Js.numOf_dec (neg : Bool) (u : Nat) (hu : u ≤ 9007199254740991) {r : List UInt8} (hr : Js.ends r = true) : Js.numOf neg (Lib.decDigits u) r = if neg = true ∧ u = 0 then some (Js.leaf 3 0 9223372036854775808 ⟨#[]⟩, r) else some (Js.leaf 2 (if neg then -(u : Int) else (u : Int)) 0 ⟨#[]⟩, r) := by
  have he := Js.ends_digit hr
  unfold Js.numOf
  rw [Js.dec_val, if_neg]
  rintro (q | q | q | q | q | q)
  · exact Js.dec_ne u q
  · exact Js.dec_head u (by have := Js.dec_long u q.1; omega) q.2
  · omega
  · exact he.2.2.1 q
  · exact he.2.2.2.1 q
  · exact he.2.2.2.2 q
theorem Js.digit_not45 (c : UInt8) (h : Pl.digit c = true) : c ≠ 45 := by
  rintro rfl
  exact absurd h (by decide)
theorem Js.dec_first (u : Nat) (r : List UInt8) : (Lib.decDigits u ++ r).head? ≠ some 45 := by
  have h3 := Js.dec_ne u
  have h4 := Js.dec_all u
  cases hd : Lib.decDigits u with
  | nil => exact absurd hd h3
  | cons c t =>
    rw [hd] at h4
    intro q
    exact Js.digit_not45 c (h4 c List.mem_cons_self) (by simpa using q)
theorem Js.number_itoa (x : Int) (h1 : -9007199254740991 ≤ x) (h2 : x ≤ 9007199254740991) {r : List UInt8} (hr : Js.ends r = true) : Js.number (Lib.itoa x ++ r) = some (Js.leaf 2 x 0 ⟨#[]⟩, r) := by
  unfold Js.number Lib.itoa
  by_cases h0 : x < 0
  · rw [if_pos h0, if_pos (by rfl)]
    show Js.numOf true ((Lib.decDigits x.natAbs ++ r).takeWhile Pl.digit) ((Lib.decDigits x.natAbs ++ r).dropWhile Pl.digit) = _
    obtain ⟨e1, e2⟩ := Js.split_digs (Js.dec_all x.natAbs) hr
    rw [e1, e2, Js.numOf_dec true _ (by omega) hr, if_neg (fun q => by omega), if_pos rfl]
    congr 3
    omega
  · rw [if_neg h0, if_neg (Js.dec_first _ _)]
    obtain ⟨e1, e2⟩ := Js.split_digs (Js.dec_all x.toNat) hr
    rw [e1, e2, Js.numOf_dec false _ (by omega) hr, if_neg (fun q => by cases q.1)]
    simp only [Bool.false_eq_true, if_false]
    congr 3
    omega
theorem Js.number_zero {r : List UInt8} (hr : Js.ends r = true) : Js.number (45 :: 48 :: r) = some (Js.leaf 3 0 9223372036854775808 ⟨#[]⟩, r) := by
  unfold Js.number
  rw [if_pos (by rfl)]
  have e0 : (45 :: 48 :: r).drop 1 = Lib.decDigits 0 ++ r := by rw [Js.dec_unfold]; rfl
  rw [e0]
  obtain ⟨e1, e2⟩ := Js.split_digs (Js.dec_all 0) hr
  rw [e1, e2, Js.numOf_dec true 0 (by omega) hr, if_pos ⟨rfl, rfl⟩]
/-- the first byte of a number -/
theorem Js.itoa_head (x : Int) : ∃ c t, Lib.itoa x = c :: t ∧ (Pl.digit c = true ∨ c = 45) := by
  unfold Lib.itoa
  split
  · exact ⟨_, _, rfl, .inr rfl⟩
  · have h3 := Js.dec_ne x.toNat
    have h4 := Js.dec_all x.toNat
    cases hd : Lib.decDigits x.toNat with
    | nil => exact absurd hd h3
    | cons c t =>
      rw [hd] at h4
      exact ⟨c, t, rfl, .inl (h4 c List.mem_cons_self)⟩
/-- no byte that may stand behind a value begins one -/
def Js.begins (c : UInt8) : Bool := Pl.digit c || decide (c = 45) || decide (c = 110) || decide (c = 116) || decide (c = 102) || decide (c = 34) || decide (c = 91) || decide (c = 123)
theorem Js.begins_facts (c : UInt8) (h : Js.begins c = true) : Js.blank c = false ∧ c ≠ 93 ∧ c ≠ 125 ∧ c ≠ 44 ∧ c ≠ 58 := by
  have : ∀ n : Fin 256, (!Js.begins (UInt8.ofNat n.val) || decide (Js.blank (UInt8.ofNat n.val) = false ∧ UInt8.ofNat n.val ≠ 93 ∧ UInt8.ofNat n.val ≠ 125 ∧ UInt8.ofNat n.val ≠ 44 ∧ UInt8.ofNat n.val ≠ 58)) = true := by decide +kernel
  have h1 := this ⟨c.toNat, c.toNat_lt⟩
  simp only [UInt8.ofNat_toNat] at h1
  rw [h, Bool.not_true, Bool.false_or] at h1
  exact of_decide_eq_true h1
theorem Js.ws_stay {c : UInt8} {l : List UInt8} (h : Js.blank c = false) : Js.ws (c :: l) = c :: l := by
  unfold Js.ws
  rw [List.dropWhile_cons, if_neg (by rw [h]; exact Bool.false_ne_true)]
theorem Js.is_yes {c : UInt8} {l : List UInt8} (h : Js.blank c = false) : Js.is c (c :: l) = some l := by
  unfold Js.is
  rw [Js.ws_stay h]
  show (if c = c then some l else none) = _
  rw [if_pos rfl]
theorem Js.is_no {c d : UInt8} {l : List UInt8} (h : Js.blank d = false) (hd : d ≠ c) : Js.is c (d :: l) = none := by
  unfold Js.is
  rw [Js.ws_stay h]
  show (if d = c then some l else none) = _
  rw [if_neg hd]
/-- a value that begins with a digit or a '-' is a number -/
theorem Js.at_number {val : List UInt8 → Option (Vt × List UInt8)} {c : UInt8} {l : List UInt8} (h : Pl.digit c = true ∨ c = 45) : Js.at val (c :: l) = Js.number (c :: l) := by
  have hc : c ≠ 110 ∧ c ≠ 116 ∧ c ≠ 102 ∧ c ≠ 34 ∧ c ≠ 91 ∧ c ≠ 123 := by
    rcases h with h | rfl
    · refine ⟨?_, ?_, ?_, ?_, ?_, ?_⟩ <;> (rintro rfl; exact absurd h (by decide))
    · decide
  obtain ⟨c1, c2, c3, c4, c5, c6⟩ := hc
  have hp : ∀ (a : UInt8) (p : List UInt8), c ≠ a → ¬ Pl.pre (a :: p) (c :: l) = true := fun a p hne q => by
    rw [Pl.pre_cons, Bool.and_eq_true] at q
    exact hne (eq_of_beq q.1).symm
  unfold Js.at
  rw [if_neg (by simp), if_neg (hp _ _ c1), if_neg (hp _ _ c2), if_neg (hp _ _ c3), if_neg (by simpa using c4), if_neg (by simpa using c5), if_neg (by simpa using c6)]
end Go.Proofs.YtiajclmhimkpnaaDoor
/-
  PLAIN: what is put is read again.
-/
namespace Go.Proofs.YtiajclmhimkpnaaDoor
/-- parts i to i + k, a ',' between -/
def Js.join (g : Nat → List UInt8) (i : Nat) : Nat → List UInt8
  | 0 => g i
  | k + 1 => g i ++ 44 :: Js.join g (i + 1) k
theorem Js.join_more (g : Nat → List UInt8) : ∀ (k i : Nat), Js.join g i (k + 1) = Js.join g i k ++ 44 :: g (i + k + 1)
  | 0, i => rfl
  | k + 1, i => by
    rw [Js.join, Js.join_more g k (i + 1), Js.join, List.append_assoc, List.cons_append, show i + 1 + k + 1 = i + (k + 1) + 1 by omega]
theorem Js.cat_join (g : Nat → List UInt8) : ∀ k, Js.cat (fun i => Js.comma i ++ g i) (k + 1) = Js.join g 0 k
  | 0 => rfl
  | k + 1 => by
    rw [Js.cat, Js.cat_join g k, Js.join_more g k 0]
    rw [show Js.comma (k + 1) = [44] from rfl, show 0 + k + 1 = k + 1 by omega]
    rfl
/-- trees and keys i to i + k -/
def Js.trees (it : Nat → Vt) (i : Nat) : Nat → List Vt
  | 0 => [Js.back (it i)]
  | k + 1 => Js.back (it i) :: Js.trees it (i + 1) k
def Js.names (ks : Nat → ByteArray) (i : Nat) : Nat → List ByteArray
  | 0 => [ks i]
  | k + 1 => ks i :: Js.names ks (i + 1) k
theorem Js.trees_len (it : Nat → Vt) : ∀ (k i : Nat), (Js.trees it i k).length = k + 1
  | 0, _ => rfl
  | k + 1, i => by rw [Js.trees, List.length_cons, Js.trees_len it k (i + 1)]
theorem Js.names_len (ks : Nat → ByteArray) : ∀ (k i : Nat), (Js.names ks i k).length = k + 1
  | 0, _ => rfl
  | k + 1, i => by rw [Js.names, List.length_cons, Js.names_len ks k (i + 1)]
theorem Js.trees_get (it : Nat → Vt) : ∀ (k i j : Nat), j < k + 1 → (Js.trees it i k).getD j .nil = Js.back (it (i + j))
  | 0, i, j, h => by
    have : j = 0 := by omega
    subst this
    rfl
  | k + 1, i, 0, _ => rfl
  | k + 1, i, j + 1, h => by
    rw [Js.trees, List.getD_cons_succ, Js.trees_get it k (i + 1) j (by omega), show i + 1 + j = i + (j + 1) by omega]
theorem Js.names_get (ks : Nat → ByteArray) : ∀ (k i j : Nat), j < k + 1 → (Js.names ks i k).getD j ⟨#[]⟩ = ks (i + j)
  | 0, i, j, h => by
    have : j = 0 := by omega
    subst this
    rfl
  | k + 1, i, 0, _ => rfl
  | k + 1, i, j + 1, h => by
    rw [Js.names, List.getD_cons_succ, Js.names_get ks k (i + 1) j (by omega), show i + 1 + j = i + (j + 1) by omega]
theorem Js.getD_beyond {α : Type} (l : List α) (j : Nat) (d : α) (h : l.length ≤ j) : l.getD j d = d := by
  rw [List.getD_eq_getElem?_getD, List.getElem?_eq_none h]
  rfl
theorem Js.quoted_key (s t : List UInt8) : Js.key true (Js.quoted s ++ 58 :: t) = some ([⟨(Pl.normL s).toArray⟩], t) := by
  have h1 : Js.is 34 (Js.quoted s ++ 58 :: t) = some (Js.esc s ++ 34 :: 58 :: t) := by
    have : Js.quoted s ++ 58 :: t = 34 :: (Js.esc s ++ 34 :: 58 :: t) := by simp [Js.quoted]
    rw [this]
    exact Js.is_yes rfl
  have h2 := Js.text_put s (58 :: t)
  have h3 : Js.is 58 (58 :: t) = some t := Js.is_yes rfl
  unfold Js.key
  rw [if_pos rfl, h1]
  show (match Js.text (Js.esc s ++ 34 :: 58 :: t) with | none => none | some (k, r1) => _) = _
  rw [h2]
  show (match Js.is 58 (58 :: t) with | none => none | some r2 => _) = _
  rw [h3]
theorem Js.itemsF_end {val : List UInt8 → Option (Vt × List UInt8)} {rec : Bool} {e : UInt8} {f : Nat} {l r1 r2 r3 : List UInt8} {ks : List ByteArray} {t : Vt} (h1 : Js.key rec l = some (ks, r1)) (h2 : val r1 = some (t, r2)) (h3 : Js.is e r2 = some r3) : Js.itemsF val rec e (f + 1) l = some ((ks, [t]), r3) := by
  rw [Js.itemsF]
  simp only [h1, h2, h3]
theorem Js.itemsF_next {val : List UInt8 → Option (Vt × List UInt8)} {rec : Bool} {e : UInt8} {f : Nat} {l r1 r2 r3 : List UInt8} {ks : List ByteArray} {t : Vt} (h1 : Js.key rec l = some (ks, r1)) (h2 : val r1 = some (t, r2)) (h3 : Js.is e r2 = none) (h4 : Js.is 44 r2 = some r3) : Js.itemsF val rec e (f + 1) l = (Js.itemsF val rec e f r3).map fun p => ((ks ++ p.1.1, t :: p.1.2), p.2) := by
  rw [Js.itemsF]
  simp only [h1, h2, h3, h4]
theorem Js.itemsF_stop {val : List UInt8 → Option (Vt × List UInt8)} {rec : Bool} {e : UInt8} {f : Nat} {l r1 r2 : List UInt8} {ks : List ByteArray} {t : Vt} (h1 : Js.key rec l = some (ks, r1)) (h2 : val r1 = some (t, r2)) (h3 : Js.is e r2 = none) (h4 : Js.is 44 r2 = none) : Js.itemsF val rec e (f + 1) l = none := by
  rw [Js.itemsF]
  simp only [h1, h2, h3, h4]
theorem Js.itemsF_val {val : List UInt8 → Option (Vt × List UInt8)} {rec : Bool} {e : UInt8} {f : Nat} {l r1 : List UInt8} {ks : List ByteArray} (h1 : Js.key rec l = some (ks, r1)) (h2 : val r1 = none) : Js.itemsF val rec e (f + 1) l = none := by
  rw [Js.itemsF]
  simp only [h1, h2]
theorem Js.itemsF_key {val : List UInt8 → Option (Vt × List UInt8)} {rec : Bool} {e : UInt8} {f : Nat} {l : List UInt8} (h1 : Js.key rec l = none) : Js.itemsF val rec e (f + 1) l = none := by
  rw [Js.itemsF]
  simp only [h1]
/-- the parts of a list are read -/
theorem Js.items_list {val : List UInt8 → Option (Vt × List UInt8)} {it : Nat → Vt} {n : Nat} (hv : ∀ i r, i < n → Js.ends r = true → val (Js.put (it i) ++ r) = some (Js.back (it i), r)) (r : List UInt8) : ∀ (k i f : Nat), i + k < n → k < f → Js.itemsF val false 93 f (Js.join (fun i => Js.put (it i)) i k ++ 93 :: r) = some (([], Js.trees it i k), r)
  | k, i, 0, _, hf => by omega
  | 0, i, f + 1, h, _ => Js.itemsF_end rfl (hv i (93 :: r) (by omega) rfl) (Js.is_yes rfl)
  | k + 1, i, f + 1, h, hf => by
    rw [Js.join, List.append_assoc, List.cons_append, Js.itemsF_next rfl (hv i _ (by omega) rfl) (Js.is_no rfl (by decide)) (Js.is_yes rfl), Js.items_list hv r k (i + 1) f (by omega) (by omega)]
    rfl
theorem Js.arr (b : ByteArray) : (⟨b.data.toList.toArray⟩ : ByteArray) = b := by
  cases b
  simp
theorem Js.items_rec {val : List UInt8 → Option (Vt × List UInt8)} {it : Nat → Vt} {ks : Nat → ByteArray} {n : Nat} (hv : ∀ i r, i < n → Js.ends r = true → val (Js.put (it i) ++ r) = some (Js.back (it i), r)) (hk : ∀ i, i < n → Pl.mayL (ks i).data.toList = true) (r : List UInt8) : ∀ (k i f : Nat), i + k < n → k < f → Js.itemsF val true 125 f (Js.join (fun i => Js.quoted (ks i).data.toList ++ 58 :: Js.put (it i)) i k ++ 125 :: r) = some ((Js.names ks i k, Js.trees it i k), r)
  | k, i, 0, _, hf => by omega
  | 0, i, f + 1, h, _ => by
    have e : (⟨(Pl.normL (ks i).data.toList).toArray⟩ : ByteArray) = ks i := by rw [Pl.norm_of_may _ (hk i (by omega))]
    have hq := Js.quoted_key (ks i).data.toList (Js.put (it i) ++ 125 :: r)
    rw [e] at hq
    rw [Js.join, List.append_assoc, List.cons_append]
    exact Js.itemsF_end hq (hv i (125 :: r) (by omega) rfl) (Js.is_yes rfl)
  | k + 1, i, f + 1, h, hf => by
    have e : (⟨(Pl.normL (ks i).data.toList).toArray⟩ : ByteArray) = ks i := by rw [Pl.norm_of_may _ (hk i (by omega))]
    have hq := Js.quoted_key (ks i).data.toList (Js.put (it i) ++ 44 :: (Js.join (fun i => Js.quoted (ks i).data.toList ++ 58 :: Js.put (it i)) (i + 1) k ++ 125 :: r))
    rw [e] at hq
    rw [Js.join, List.append_assoc, List.append_assoc, List.cons_append, List.cons_append, Js.itemsF_next hq (hv i _ (by omega) rfl) (Js.is_no rfl (by decide)) (Js.is_yes rfl), Js.items_rec hv hk r k (i + 1) f (by omega) (by omega)]
    rfl
/-- with what a text of a value begins -/
theorem Js.real_head (b : Nat) : ∃ c t, Js.real b = c :: t ∧ Js.begins c = true := by
  unfold Js.real
  split
  · exact ⟨_, _, rfl, rfl⟩
  · rename_i h1
    split
    · exact ⟨_, _, rfl, rfl⟩
    · rename_i h2
      have hk : Re.kind b = 2 ∨ Re.kind b = 3 := by
        have : Re.kind b ≤ 4 := by
          unfold Re.kind
          repeat' split
          all_goals omega
        omega
      unfold Re.text
      rcases hk with hk | hk
      · rw [hk]
        show ∃ c t, Re.sign b ++ [48] = c :: t ∧ _
        unfold Re.sign
        split
        · exact ⟨_, _, rfl, rfl⟩
        · exact ⟨_, _, rfl, rfl⟩
      · rw [hk]
        show ∃ c t, Lib.itoa (Re.whole b) = c :: t ∧ _
        obtain ⟨c, t, e, h⟩ := Js.itoa_head (Re.whole b)
        refine ⟨c, t, e, ?_⟩
        unfold Js.begins
        rcases h with h | rfl
        · rw [h]; rfl
        · rfl
theorem Js.put_head {d : Nat} {t : Vt} (h : Js.Ok d t) : ∃ c l, Js.put t = c :: l ∧ Js.begins c = true := by
  cases t with
  | nil => cases d <;> exact h.elim
  | mk k x b s n it m ks =>
    rw [Js.put]
    split
    · exact ⟨_, _, rfl, rfl⟩
    · split
      · split
        · exact ⟨_, _, rfl, rfl⟩
        · exact ⟨_, _, rfl, rfl⟩
      · split
        · obtain ⟨c, t, e, h⟩ := Js.itoa_head x
          refine ⟨c, t, e, ?_⟩
          unfold Js.begins
          rcases h with h | rfl
          · rw [h]; rfl
          · rfl
        · split
          · exact Js.real_head b
          · split
            · exact ⟨_, _, rfl, rfl⟩
            · split
              · exact ⟨_, _, rfl, rfl⟩
              · exact ⟨_, _, rfl, rfl⟩
theorem Js.join_head {g : Nat → List UInt8} {i k : Nat} {c : UInt8} {l : List UInt8} (h : g i = c :: l) : ∃ l', Js.join g i k = c :: l' := by
  cases k with
  | zero => exact ⟨l, h⟩
  | succ k =>
    rw [Js.join, h]
    exact ⟨_, rfl⟩
end Go.Proofs.YtiajclmhimkpnaaDoor
