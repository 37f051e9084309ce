/-
  PLAIN: what Escape writes is read again as it was normed.
-/
import Derived.Test.YtboalkfagfgnpaaGreatDoorCRToktoQPlain
import Derived.Test.YtboalkfagfgnpaaGreatDoorCRePlaintoReNum
import Derived.Test.YtboalkfagfgnpaaGreatDoorCJPctoQRow
import Derived.Lib.AppendStr
namespace Go.Proofs.YtboalkfagfgnpaaGreatDoor
theorem Js.text_quote (r : List UInt8) : Js.text (34 :: r) = some ([], r) := rfl
theorem Js.text_esc {r b r1 : List UInt8} (h : Js.escaped r = some (b, r1)) : Js.text (92 :: r) = (Js.text r1).map fun p => (b ++ p.1, p.2) := by
  have hl := (Js.escaped_len h).1
  unfold Js.text
  rw [List.length_cons, Js.textF, if_neg (by decide), if_pos rfl, h]
  show (Js.textF r.length r1).map _ = _
  rw [Js.textF_fuel r.length r1.length r1 (by omega) (Nat.le_refl _)]
theorem Js.text_sign {c : UInt8} {r : List UInt8} (h1 : c ≠ 34) (h2 : c ≠ 92) (h3 : ¬ c.toNat < 32) (h4 : Pl.sgn (c :: r) ≠ 0) : Js.text (c :: r) = (Js.text ((c :: r).drop (Pl.sgn (c :: r)))).map fun p => ((c :: r).take (Pl.sgn (c :: r)) ++ p.1, p.2) := by
  unfold Js.text
  rw [List.length_cons, Js.textF, if_neg h1, if_neg h2, if_neg (fun o => o.elim h3 h4)]
  rw [Js.textF_fuel r.length ((c :: r).drop (Pl.sgn (c :: r))).length _ (by rw [List.length_drop, List.length_cons]; omega) (Nat.le_refl _)]
theorem Js.text_bad {c : UInt8} {r : List UInt8} (h1 : c ≠ 34) (h2 : c ≠ 92) (h3 : c.toNat < 32 ∨ Pl.sgn (c :: r) = 0) : Js.text (c :: r) = none := by
  unfold Js.text
  rw [List.length_cons, Js.textF, if_neg h1, if_neg h2, if_pos h3]
theorem Js.text_noesc {r : List UInt8} (h : Js.escaped r = none) : Js.text (92 :: r) = none := by
  unfold Js.text
  rw [List.length_cons, Js.textF, if_neg (by decide), if_pos rfl, h]
theorem Js.byte_high {c : UInt8} (h : 128 ≤ c.toNat) : Js.byte c = [c] := if_pos (.inr h)
theorem Js.line_not {c : UInt8} (h : c ≠ 226) (r : List UInt8) : Js.line c r = false := by
  unfold Js.line
  rw [decide_eq_false h]
  rfl
theorem Js.stays_low (c : UInt8) (h : Js.stays c = true) : c ≠ 34 ∧ c ≠ 92 ∧ ¬ c.toNat < 32 ∧ c ≠ 0 ∧ c.toNat < 128 := by
  have : ∀ n : Fin 256, (!Js.stays (UInt8.ofNat n.val) || decide (UInt8.ofNat n.val ≠ 34 ∧ UInt8.ofNat n.val ≠ 92 ∧ ¬ (UInt8.ofNat n.val).toNat < 32 ∧ UInt8.ofNat n.val ≠ 0 ∧ (UInt8.ofNat n.val).toNat < 128)) = true := by decide +kernel
  have h1 := this ⟨c.toNat, c.toNat_lt⟩
  simp only [UInt8.ofNat_toNat] at h1
  rw [h, Bool.not_true, Bool.false_or] at h1
  exact of_decide_eq_true h1
end Go.Proofs.YtboalkfagfgnpaaGreatDoor
/-
  PLAIN: values written as JSON texts, and read again.
-/
namespace Go.Proofs.YtboalkfagfgnpaaGreatDoor
/-- parts, one behind the other -/
def Js.cat (f : Nat → List UInt8) : Nat → List UInt8
  | 0 => []
  | n + 1 => Js.cat f n ++ f n
def Js.quoted (s : List UInt8) : List UInt8 := 34 :: (Js.esc s ++ [34])
def Js.real (b : Nat) : List UInt8 := if Re.kind b < 2 then [110, 117, 108, 108] else if Re.kind b = 4 then Js.quoted (Re.text b) else Re.text b
def Js.comma (i : Nat) : List UInt8 := if i = 0 then [] else [44]
def Js.put : Vt → List UInt8
  | .nil => []
  | .mk k x b s n it _ ks =>
    if k = 0 then [110, 117, 108, 108]
    else if k = 1 then (if x = 1 then [116, 114, 117, 101] else [102, 97, 108, 115, 101])
    else if k = 2 then Lib.itoa x
    else if k = 3 then Js.real b
    else if k = 4 then Js.quoted s.data.toList
    else if k = 5 then 91 :: (Js.cat (fun i => Js.comma i ++ Js.put (it i)) n ++ [93])
    else 123 :: (Js.cat (fun i => Js.comma i ++ (Js.quoted (ks i).data.toList ++ 58 :: Js.put (it i))) n ++ [125])
def Js.realBack (b : Nat) : Vt :=
  if Re.kind b < 2 then Js.leaf 0 0 0 ⟨#[]⟩
  else if Re.kind b = 4 then Js.leaf 4 0 0 ⟨(Re.text b).toArray⟩
  else if b = 9223372036854775808 then Js.leaf 3 0 b ⟨#[]⟩
  else Js.leaf 2 (Re.whole b) 0 ⟨#[]⟩
/-- what is read of a value that was put -/
def Js.back : Vt → Vt
  | .nil => .nil
  | .mk k x b s n it m ks =>
    if k = 3 then Js.realBack b
    else if k = 4 then Js.leaf 4 0 0 ⟨(Pl.normL s.data.toList).toArray⟩
    else if k < 3 then Js.leaf k x 0 ⟨#[]⟩
    else .mk k 0 0 ⟨#[]⟩ n (fun i => if i < n then Js.back (it i) else .nil) m (fun j => if j < m then ks j else ⟨#[]⟩)
/-- a value that may be, at most d deep -/
def Js.Ok : Nat → Vt → Prop
  | 0, _ => False
  | _ + 1, .nil => False
  | d + 1, .mk k x b s n it m ks => Vt.formed k x b s n m ks = true ∧ b < 18446744073709551616 ∧ ∀ i, i < n → Js.Ok d (it i)
/-- all its keys are texts -/
def Js.Keys : Nat → Vt → Prop
  | 0, _ => True
  | _ + 1, .nil => True
  | d + 1, .mk _ _ _ _ n it m ks => (∀ j, j < m → Pl.mayL (ks j).data.toList = true) ∧ ∀ i, i < n → Js.Keys d (it i)
/-- what may stand behind a value -/
def Js.ends : List UInt8 → Bool
  | [] => true
  | c :: _ => decide (c = 44) || decide (c = 93) || decide (c = 125) || Js.blank c
theorem Js.dec_unfold (u : Nat) : Lib.decDigits u = if u < 10 then [UInt8.ofNat (48 + u)] else Lib.decDigits (u / 10) ++ [UInt8.ofNat (48 + u % 10)] := by
  rw [Lib.decDigits]
  split <;> rfl
theorem Js.digit_of : ∀ n, n < 10 → Pl.digit (UInt8.ofNat (48 + n)) = true ∧ Pl.dig (UInt8.ofNat (48 + n)) = n := by decide
theorem Js.dec_all (u : Nat) : ∀ c ∈ Lib.decDigits u, Pl.digit c = true := by
  induction u using Nat.strongRecOn with
  | ind u ih =>
    rw [Js.dec_unfold]
    intro c hc
    split at hc
    · rename_i h
      rw [List.mem_singleton.1 hc]
      exact (Js.digit_of u h).1
    · rcases List.mem_append.1 hc with q | q
      · exact ih (u / 10) (by omega) c q
      · rw [List.mem_singleton.1 q]
        exact (Js.digit_of (u % 10) (by omega)).1
theorem Js.dec_val (u : Nat) : Pl.val 10 (Lib.decDigits u) = u := by
  induction u using Nat.strongRecOn with
  | ind u ih =>
    rw [Js.dec_unfold]
    split
    · rename_i h
      show 0 * 10 + Pl.dig _ = u
      rw [(Js.digit_of u h).2]
      omega
    · have h1 := ih (u / 10) (by omega)
      unfold Pl.val at h1 ⊢
      rw [List.foldl_append, h1]
      show u / 10 * 10 + Pl.dig _ = u
      rw [(Js.digit_of (u % 10) (by omega)).2]
      omega
theorem Js.dec_ne (u : Nat) : Lib.decDigits u ≠ [] := by
  rw [Js.dec_unfold]
  split <;> simp
theorem Js.dec_head (u : Nat) (h : 0 < u) : (Lib.decDigits u).head? ≠ some 48 := by
  induction u using Nat.strongRecOn with
  | ind u ih =>
    rw [Js.dec_unfold]
    split
    · rename_i h1
      have : ∀ n, n < 10 → 0 < n → ([UInt8.ofNat (48 + n)] : List UInt8).head? ≠ some 48 := by decide
      exact this u h1 h
    · have h2 := ih (u / 10) (by omega) (by omega)
      have h3 := Js.dec_ne (u / 10)
      cases hd : Lib.decDigits (u / 10) with
      | nil => exact absurd hd h3
      | cons c r => rw [hd] at h2; exact h2
theorem Js.dec_long (u : Nat) (h : 1 < (Lib.decDigits u).length) : 10 ≤ u := by
  rw [Js.dec_unfold] at h
  split at h
  · simp at h
  · omega
theorem Js.ends_digit {r : List UInt8} (h : Js.ends r = true) : r.takeWhile Pl.digit = [] ∧ r.dropWhile Pl.digit = r ∧ r.head? ≠ some 46 ∧ r.head? ≠ some 101 ∧ r.head? ≠ some 69 := by
  cases r with
  | nil => exact ⟨rfl, rfl, by simp, by simp, by simp⟩
  | cons c r =>
    have : ∀ n : Fin 256, (!(Js.ends [UInt8.ofNat n.val]) || decide (Pl.digit (UInt8.ofNat n.val) = false ∧ UInt8.ofNat n.val ≠ 46 ∧ UInt8.ofNat n.val ≠ 101 ∧ UInt8.ofNat n.val ≠ 69)) = true := by decide +kernel
    have h1 := this ⟨c.toNat, c.toNat_lt⟩
    simp only [UInt8.ofNat_toNat] at h1
    have h : Js.ends [c] = true := h
    rw [h, Bool.not_true, Bool.false_or] at h1
    obtain ⟨q1, q2, q3, q4⟩ := of_decide_eq_true h1
    refine ⟨by rw [List.takeWhile_cons, if_neg (by rw [q1]; exact Bool.false_ne_true)], by rw [List.dropWhile_cons, if_neg (by rw [q1]; exact Bool.false_ne_true)], ?_, ?_, ?_⟩
    all_goals simpa
theorem Js.split_digs {a r : List UInt8} (ha : ∀ c ∈ a, Pl.digit c = true) (hr : Js.ends r = true) : (a ++ r).takeWhile Pl.digit = a ∧ (a ++ r).dropWhile Pl.digit = r := by
  have h := Js.ends_digit hr
  refine ⟨by rw [List.takeWhile_append_of_pos ha, h.1, List.append_nil], ?_⟩
  have e : (a ++ r).takeWhile Pl.digit ++ (a ++ r).dropWhile Pl.digit = a ++ r := List.takeWhile_append_dropWhile
  rw [List.takeWhile_append_of_pos ha, h.1, List.append_nil] at e
  exact List.append_cancel_left e
theorem Js.numOf_dec (neg : Bool) (u : Nat) (hu : u ≤ 9007199254740991) {r : List UInt8} (hr : Js.ends r = true) : Js.numOf neg (Lib.decDigits u) r = if neg = true ∧ u = 0 then some (Js.leaf 3 0 9223372036854775808 ⟨#[]⟩, r) else some (Js.leaf 2 (if neg then -(u : Int) else (u : Int)) 0 ⟨#[]⟩, r) := by
  have he := Js.ends_digit hr
  unfold Js.numOf
  rw [Js.dec_val, if_neg]
  rintro (q | q | q | q | q | q)
  · exact Js.dec_ne u q
  · exact Js.dec_head u (by have := Js.dec_long u q.1; omega) q.2
  · omega
  · exact he.2.2.1 q
  · exact he.2.2.2.1 q
  · exact he.2.2.2.2 q
theorem Js.digit_not45 (c : UInt8) (h : Pl.digit c = true) : c ≠ 45 := by
  rintro rfl
  exact absurd h (by decide)
theorem Js.dec_first (u : Nat) (r : List UInt8) : (Lib.decDigits u ++ r).head? ≠ some 45 := by
  have h3 := Js.dec_ne u
  have h4 := Js.dec_all u
  cases hd : Lib.decDigits u with
  | nil => exact absurd hd h3
  | cons c t =>
    rw [hd] at h4
    intro q
    exact Js.digit_not45 c (h4 c List.mem_cons_self) (by simpa using q)
theorem Js.number_itoa (x : Int) (h1 : -9007199254740991 ≤ x) (h2 : x ≤ 9007199254740991) {r : List UInt8} (hr : Js.ends r = true) : Js.number (Lib.itoa x ++ r) = some (Js.leaf 2 x 0 ⟨#[]⟩, r) := by
  unfold Js.number Lib.itoa
  by_cases h0 : x < 0
  · rw [if_pos h0, if_pos (by rfl)]
    show Js.numOf true ((Lib.decDigits x.natAbs ++ r).takeWhile Pl.digit) ((Lib.decDigits x.natAbs ++ r).dropWhile Pl.digit) = _
    obtain ⟨e1, e2⟩ := Js.split_digs (Js.dec_all x.natAbs) hr
    rw [e1, e2, Js.numOf_dec true _ (by omega) hr, if_neg (fun q => by omega), if_pos rfl]
    congr 3
    omega
  · rw [if_neg h0, if_neg (Js.dec_first _ _)]
    obtain ⟨e1, e2⟩ := Js.split_digs (Js.dec_all x.toNat) hr
    rw [e1, e2, Js.numOf_dec false _ (by omega) hr, if_neg (fun q => by cases q.1)]
    simp only [Bool.false_eq_true, if_false]
    congr 3
    omega
/-- the first byte of a number -/
theorem Js.itoa_head (x : Int) : ∃ c t, Lib.itoa x = c :: t ∧ (Pl.digit c = true ∨ c = 45) := by
  unfold Lib.itoa
  split
  · exact ⟨_, _, rfl, .inr rfl⟩
  · have h3 := Js.dec_ne x.toNat
    have h4 := Js.dec_all x.toNat
    cases hd : Lib.decDigits x.toNat with
    | nil => exact absurd hd h3
    | cons c t =>
      rw [hd] at h4
      exact ⟨c, t, rfl, .inl (h4 c List.mem_cons_self)⟩
/-- no byte that may stand behind a value begins one -/
def Js.begins (c : UInt8) : Bool := Pl.digit c || decide (c = 45) || decide (c = 110) || decide (c = 116) || decide (c = 102) || decide (c = 34) || decide (c = 91) || decide (c = 123)
theorem Js.begins_facts (c : UInt8) (h : Js.begins c = true) : Js.blank c = false ∧ c ≠ 93 ∧ c ≠ 125 ∧ c ≠ 44 ∧ c ≠ 58 := by
  have : ∀ n : Fin 256, (!Js.begins (UInt8.ofNat n.val) || decide (Js.blank (UInt8.ofNat n.val) = false ∧ UInt8.ofNat n.val ≠ 93 ∧ UInt8.ofNat n.val ≠ 125 ∧ UInt8.ofNat n.val ≠ 44 ∧ UInt8.ofNat n.val ≠ 58)) = true := by decide +kernel
  have h1 := this ⟨c.toNat, c.toNat_lt⟩
  simp only [UInt8.ofNat_toNat] at h1
  rw [h, Bool.not_true, Bool.false_or] at h1
  exact of_decide_eq_true h1
theorem Js.ws_stay {c : UInt8} {l : List UInt8} (h : Js.blank c = false) : Js.ws (c :: l) = c :: l := by
  unfold Js.ws
  rw [List.dropWhile_cons, if_neg (by rw [h]; exact Bool.false_ne_true)]
/-- a value that begins with a digit or a '-' is a number -/
theorem Js.at_number {val : List UInt8 → Option (Vt × List UInt8)} {c : UInt8} {l : List UInt8} (h : Pl.digit c = true ∨ c = 45) : Js.at val (c :: l) = Js.number (c :: l) := by
  have hc : c ≠ 110 ∧ c ≠ 116 ∧ c ≠ 102 ∧ c ≠ 34 ∧ c ≠ 91 ∧ c ≠ 123 := by
    rcases h with h | rfl
    · refine ⟨?_, ?_, ?_, ?_, ?_, ?_⟩ <;> (rintro rfl; exact absurd h (by decide))
    · decide
  obtain ⟨c1, c2, c3, c4, c5, c6⟩ := hc
  have hp : ∀ (a : UInt8) (p : List UInt8), c ≠ a → ¬ Pl.pre (a :: p) (c :: l) = true := fun a p hne q => by
    rw [Pl.pre_cons, Bool.and_eq_true] at q
    exact hne (eq_of_beq q.1).symm
  unfold Js.at
  rw [if_neg (by simp), if_neg (hp _ _ c1), if_neg (hp _ _ c2), if_neg (hp _ _ c3), if_neg (by simpa using c4), if_neg (by simpa using c5), if_neg (by simpa using c6)]
end Go.Proofs.YtboalkfagfgnpaaGreatDoor
/-
  PLAIN: what is put is read again.
-/
namespace Go.Proofs.YtboalkfagfgnpaaGreatDoor
/-- parts i to i + k, a ',' between -/
def Js.join (g : Nat → List UInt8) (i : Nat) : Nat → List UInt8
  | 0 => g i
  | k + 1 => g i ++ 44 :: Js.join g (i + 1) k
/-- trees and keys i to i + k -/
def Js.trees (it : Nat → Vt) (i : Nat) : Nat → List Vt
  | 0 => [Js.back (it i)]
  | k + 1 => Js.back (it i) :: Js.trees it (i + 1) k
def Js.names (ks : Nat → ByteArray) (i : Nat) : Nat → List ByteArray
  | 0 => [ks i]
  | k + 1 => ks i :: Js.names ks (i + 1) k
theorem Js.arr (b : ByteArray) : (⟨b.data.toList.toArray⟩ : ByteArray) = b := by
  cases b
  simp
end Go.Proofs.YtboalkfagfgnpaaGreatDoor
/-
  PLAIN: what is put is read again.
-/
namespace Go.Proofs.YtboalkfagfgnpaaGreatDoor
theorem Js.kind_le (b : Nat) : Re.kind b ≤ 4 := by
  unfold Re.kind
  repeat' split
  all_goals omega
theorem Js.formed_leaf {k x : Int} {b : Nat} {s : ByteArray} {n m : Nat} {ks : Nat → ByteArray} (h : Vt.formed k x b s n m ks = true) : (k = 0 ∧ x = 0) ∨ (k = 1 ∧ (x = 0 ∨ x = 1)) ∨ (k = 2 ∧ -9007199254740991 ≤ x ∧ x ≤ 9007199254740991) ∨ k = 3 ∨ k = 4 ∨ (k = 5 ∧ m = 0) ∨ (k = 6 ∧ m = n) := by
  unfold Vt.formed at h
  split at h
  · simp only [Bool.and_eq_true, decide_eq_true_eq] at h
    exact .inl ⟨by assumption, h.1.1.1.1⟩
  · split at h
    · simp only [Bool.and_eq_true, Bool.or_eq_true, decide_eq_true_eq] at h
      exact .inr (.inl ⟨by assumption, h.1.1.1.1⟩)
    · split at h
      · simp only [Bool.and_eq_true, decide_eq_true_eq] at h
        exact .inr (.inr (.inl ⟨by assumption, h.1.1.1.1.1, h.1.1.1.1.2⟩))
      · split at h
        · exact .inr (.inr (.inr (.inl (by assumption))))
        · split at h
          · exact .inr (.inr (.inr (.inr (.inl (by assumption)))))
          · split at h
            · simp only [Bool.and_eq_true, decide_eq_true_eq] at h
              exact .inr (.inr (.inr (.inr (.inr (.inl ⟨by assumption, h.2⟩)))))
            · split at h
              · simp only [Bool.and_eq_true, decide_eq_true_eq] at h
                exact .inr (.inr (.inr (.inr (.inr (.inr ⟨by assumption, h.1.1.1.1.2⟩)))))
              · cases h
end Go.Proofs.YtboalkfagfgnpaaGreatDoor
/-
  PLAIN: what is read again may be; Get of what is put.
-/
namespace Go.Proofs.YtboalkfagfgnpaaGreatDoor
def Js.Bits : Vt → Prop
  | .nil => True
  | .mk _ _ b _ n it _ _ => b < 18446744073709551616 ∧ ∀ i, i < n → Js.Bits (it i)
theorem Js.run_true {f : Nat → Int → Bool × Int} : ∀ {n : Nat} {L : Int}, (Vt.run f n L).1 = true → ∀ i, i < n → ∃ L', (f i L').1 = true
  | 0, _, _, i, hi => by omega
  | n + 1, L, h, i, hi => by
    rw [Vt.run] at h
    split at h
    · rename_i h0
      by_cases e : i = n
      · subst e
        exact ⟨_, h⟩
      · exact Js.run_true h0 i (by omega)
    · rename_i h0
      exact absurd h h0
theorem Js.stand_parts {k x : Int} {b : Nat} {s : ByteArray} {n : Nat} {it : Nat → Vt} {m : Nat} {ks : Nat → ByteArray} {deep L : Int} (h : ((Vt.mk k x b s n it m ks).stand deep L).1 = true) : ¬ (L - 1 < 0 ∨ 8 < deep) ∧ Vt.formed k x b s n m ks = true ∧ (Vt.run (fun i L => (it i).stand (deep + 1) L) n (L - 1)).1 = true ∧ (Vt.mk k x b s n it m ks).stand deep L = Vt.run (fun i L => (it i).stand (deep + 1) L) n (L - 1) := by
  rw [Vt.stand] at h ⊢
  split at h
  · cases h
  · rename_i hn
    refine ⟨fun q => hn (q.elim .inl fun q => .inr (.inl q)), ?_, h, if_neg hn⟩
    cases hf : Vt.formed k x b s n m ks
    · exact absurd (.inr (.inr hf)) hn
    · rfl
theorem Js.ok_of_stand : ∀ (d : Nat) (t : Vt) (L : Int), (t.stand (9 - (d : Int)) L).1 = true → Js.Bits t → Js.Ok d t
  | d, .nil, L, h, _ => by cases h
  | 0, .mk k x b s n it m ks, L, h, _ => by
    have := (Js.stand_parts h).1
    exact absurd (.inr (by omega)) this
  | d + 1, .mk k x b s n it m ks, L, h, hb => by
    obtain ⟨_, hf, hr, _⟩ := Js.stand_parts h
    refine ⟨hf, hb.1, fun i hi => ?_⟩
    obtain ⟨L', hL⟩ := Js.run_true hr i hi
    refine Js.ok_of_stand d (it i) L' ?_ (hb.2 i hi)
    rw [show (9 : Int) - (d : Int) = 9 - ((d + 1 : Nat) : Int) + 1 by omega]
    exact hL
theorem Js.ok_of_may {t : Vt} (h : t.may = true) (hb : Js.Bits t) : Js.Ok 8 t := Js.ok_of_stand 8 t 1024 h hb
theorem Js.stand_leaf {k x : Int} {b : Nat} {s : ByteArray} {deep L : Int} (h : ¬ (L - 1 < 0 ∨ 8 < deep)) (hf : Vt.formed k x b s 0 0 (fun _ => ⟨#[]⟩) = true) : (Js.leaf k x b s).stand deep L = (true, L - 1) := by
  unfold Js.leaf
  rw [Vt.stand, if_neg]
  · rfl
  · rintro (q | q | q)
    · exact h (.inl q)
    · exact h (.inr q)
    · rw [hf] at q
      cases q
theorem Js.formed2 {x : Int} (h1 : -9007199254740991 ≤ x) (h2 : x ≤ 9007199254740991) : Vt.formed 2 x 0 ⟨#[]⟩ 0 0 (fun _ => ⟨#[]⟩) = true := by
  have e : (⟨#[]⟩ : ByteArray).toList = [] := ByteArray.toList_eq _
  simp [Vt.formed, h1, h2, e]
theorem Js.formed013 {k x : Int} {b : Nat} (h : (k = 0 ∧ x = 0 ∧ b = 0) ∨ (k = 1 ∧ (x = 0 ∨ x = 1) ∧ b = 0) ∨ (k = 3 ∧ x = 0)) : Vt.formed k x b ⟨#[]⟩ 0 0 (fun _ => ⟨#[]⟩) = true := by
  have e : (⟨#[]⟩ : ByteArray).toList = [] := ByteArray.toList_eq _
  rcases h with ⟨rfl, rfl, rfl⟩ | ⟨rfl, rfl | rfl, rfl⟩ | ⟨rfl, rfl⟩ <;> simp [Vt.formed, e]
end Go.Proofs.YtboalkfagfgnpaaGreatDoor
/-
  PLAIN: no byte of what is put ends a script.
-/
namespace Go.Proofs.YtboalkfagfgnpaaGreatDoor
def Js.good (c : UInt8) : Bool := decide (32 ≤ c.toNat) && !decide (c = 60) && !decide (c = 62) && !decide (c = 38) && !decide (c = 39)
def Js.dirty : List UInt8 → Bool
  | [] => false
  | c :: r => Js.line c r || Js.dirty r
theorem Js.all {p : UInt8 → Bool} (h : (List.range 256).all (fun n => p (UInt8.ofNat n)) = true) (c : UInt8) : p c = true := by
  have := List.all_eq_true.1 h c.toNat (List.mem_range.2 c.toNat_lt)
  simpa using this
theorem Js.byte_good (c : UInt8) : ∀ d ∈ Js.byte c, Js.good d = true := by
  have h := Js.all (p := fun c => (Js.byte c).all Js.good) (by decide +kernel) c
  exact List.all_eq_true.1 h
theorem Js.escK_good : ∀ (k : Nat) (l : List UInt8), ∀ d ∈ Js.escK k l, Js.good d = true
  | _, [], d, hd => by simp [Js.escK] at hd
  | k + 1, c :: r, d, hd => Js.escK_good k r d hd
  | 0, c :: r, d, hd => by
    rw [Js.escK] at hd
    split at hd
    · rename_i hl
      obtain ⟨_, t, ht⟩ := Js.line_parts hl
      rcases List.mem_append.1 hd with q | q
      · rcases ht with rfl | rfl
        · have : ∀ d ∈ ([92, 117, 50, 48, 50, 48 + (168 - 160)] : List UInt8), Js.good d = true := by decide
          exact this d q
        · have : ∀ d ∈ ([92, 117, 50, 48, 50, 48 + (169 - 160)] : List UInt8), Js.good d = true := by decide
          exact this d q
      · exact Js.escK_good 2 r d q
    · rcases List.mem_append.1 hd with q | q
      · exact Js.byte_good c d q
      · exact Js.escK_good 0 r d q
theorem Js.quoted_good (l : List UInt8) : ∀ d ∈ Js.quoted l, Js.good d = true := by
  intro d hd
  unfold Js.quoted at hd
  rcases List.mem_cons.1 hd with rfl | q
  · decide
  · rcases List.mem_append.1 q with q | q
    · exact Js.escK_good 0 _ d q
    · rw [List.mem_singleton.1 q]
      decide
theorem Js.digit_good (c : UInt8) (h : Pl.digit c = true) : Js.good c = true := by
  have h1 := Js.all (p := fun c => !Pl.digit c || Js.good c) (by decide +kernel) c
  rw [h] at h1
  exact h1
theorem Js.itoa_good (x : Int) : ∀ d ∈ Lib.itoa x, Js.good d = true := by
  intro c hc
  unfold Lib.itoa at hc
  split at hc
  · rcases List.mem_cons.1 hc with rfl | q
    · decide
    · exact Js.digit_good c (Js.dec_all _ c q)
  · exact Js.digit_good c (Js.dec_all _ c hc)
theorem Js.real_good (b : Nat) : ∀ d ∈ Js.real b, Js.good d = true := by
  unfold Js.real
  split
  · decide
  · rename_i h1
    split
    · exact Js.quoted_good _
    · rename_i h2
      have hk : Re.kind b = 2 ∨ Re.kind b = 3 := by have := Js.kind_le b; omega
      unfold Re.text
      rcases hk with hk | hk
      · rw [hk]
        show ∀ d ∈ Re.sign b ++ [48], _
        unfold Re.sign
        split <;> decide
      · rw [hk]
        exact Js.itoa_good _
theorem Js.cat_mem {f : Nat → List UInt8} {d : UInt8} : ∀ {n : Nat}, d ∈ Js.cat f n → ∃ i, i < n ∧ d ∈ f i
  | 0, h => by cases h
  | n + 1, h => by
    rcases List.mem_append.1 h with q | q
    · obtain ⟨i, hi, hd⟩ := Js.cat_mem q
      exact ⟨i, by omega, hd⟩
    · exact ⟨n, by omega, q⟩
theorem Js.comma_good (i : Nat) : ∀ d ∈ Js.comma i, Js.good d = true := by
  unfold Js.comma
  split <;> decide
theorem Js.put_good : ∀ (t : Vt), ∀ d ∈ Js.put t, Js.good d = true := by
  intro t
  induction t with
  | nil => intro d hd; cases hd
  | mk k x b s n it m ks ih =>
    rw [Js.put]
    split
    · decide
    · split
      · split <;> decide
      · split
        · exact Js.itoa_good x
        · split
          · exact Js.real_good b
          · split
            · exact Js.quoted_good _
            · split
              · intro d hd
                rcases List.mem_cons.1 hd with rfl | q
                · decide
                · rcases List.mem_append.1 q with q | q
                  · obtain ⟨i, _, q⟩ := Js.cat_mem q
                    rcases List.mem_append.1 q with q | q
                    · exact Js.comma_good i d q
                    · exact ih i d q
                  · rw [List.mem_singleton.1 q]
                    decide
              · intro d hd
                rcases List.mem_cons.1 hd with rfl | q
                · decide
                · rcases List.mem_append.1 q with q | q
                  · obtain ⟨i, _, q⟩ := Js.cat_mem q
                    rcases List.mem_append.1 q with q | q
                    · exact Js.comma_good i d q
                    · rcases List.mem_append.1 q with q | q
                      · exact Js.quoted_good _ d q
                      · rcases List.mem_cons.1 q with rfl | q
                        · decide
                        · exact ih i d q
                  · rw [List.mem_singleton.1 q]
                    decide
/-- begins with no byte from 128 on -/
def Js.low : List UInt8 → Bool
  | [] => true
  | c :: _ => decide (c.toNat < 128)
end Go.Proofs.YtboalkfagfgnpaaGreatDoor
/-
  THE WALK of stoleref1.Escape.
-/
namespace Go.Proofs.YtboalkfagfgnpaaGreatDoor
open Go.RowKit
/-- 'append(row, text...)' -/
theorem Jx.pushS {w : World} {ops : Array Oper} {rest : List Oper} {o : Oper} {a : Act} {Z : Exit → Act → World → Prop} (hgd : o.guard = none) (s x : Operand)
    (ho : o.op = .call { callee := .builtin .append, args := #[s, x], argTypes := #[44, 9] })
    {base : Nat} {acc : List UInt8} (v : Value) (hs : a.eval s = v) (hown : w.ownsRow base 5 1 v acc.length (Lib.byteCells acc)) (t : ByteArray) (hx : a.eval x = .string t)
    (hn : acc.length + t.size ≤ 140737488355328) (hbase : base ≤ w.heap.size)
    (h : ∀ v' w', w'.ownsRow base 5 1 v' (acc ++ t.data.toList).length (Lib.byteCells (acc ++ t.data.toList)) → w.grownBy w' v.ownBlock → wpList Tryz.prog ops Z rest (a.put o.dst v') w') : wpList Tryz.prog ops Z (o :: rest) a w := by
  refine wpList_plain hgd fun K hK => ?_
  obtain ⟨iV, hiV, hzV, hsV, hbV⟩ := info_parts Rb.info
  obtain ⟨v', w', hr, h2, h3, h4⟩ := Lib.run_append_own_string (P := Tryz.prog) w base 44 9 o.type 5 iV Tryz.underlying44 Tryz.underlying9 hiV hzV hsV hbV v acc.length (Lib.byteCells acc) hown t (by unfold maxLen; omega) hn hbase
  unfold Oper.wp execOp
  simp only [ho, resolve, invoke, builtin, Sem.run_bind, Sem.run_pure, Result.andThen_ok, List.map_toArray, List.map_cons, List.map_nil, hs, hx, hr]
  refine hK _ _ (h v' w' ?_ h3)
  have e : Lib.byteCells (acc ++ t.data.toList) = Lib.byteCells acc ++ Lib.strCells t := by
    rw [Lib.byteCells_append]
    congr 1
  rw [e, List.length_append, Array.length_toList]
  exact h2
theorem Jx.at {T : ByteArray} {i : Nat} (h : i < T.size) : T.data.toList[i]? = some T[i] := by
  rw [List.getElem?_eq_getElem (by rw [Array.length_toList]; exact h)]
  simp [ByteArray.getElem_eq_getElem_data]
theorem Jx.drop {T : ByteArray} {i : Nat} (h : i < T.size) : T.data.toList.drop i = T[i] :: T.data.toList.drop (i + 1) := by
  have hl : i < T.data.toList.length := by rw [Array.length_toList]; exact h
  have e := (List.getElem?_eq_some_iff.1 (Jx.at h)).2
  rw [List.drop_eq_getElem_cons hl, e]
theorem Jx.line {T : ByteArray} {i : Nat} (h : i < T.size) : Js.line T[i] (T.data.toList.drop (i + 1)) = true ↔ T[i] = 226 ∧ ∃ (h1 : i + 1 < T.size) (h2 : i + 2 < T.size), T[i + 1] = 128 ∧ (T[i + 2] = 168 ∨ T[i + 2] = 169) := by
  unfold Js.line
  simp only [Bool.and_eq_true, Bool.or_eq_true, decide_eq_true_eq, List.getElem?_drop, Nat.add_zero]
  constructor
  · rintro ⟨⟨q1, q2⟩, q3⟩
    have hl2 : i + 2 < T.size := by
      rcases q3 with q | q
      all_goals
        have := (List.getElem?_eq_some_iff.1 q).1
        rw [Array.length_toList] at this
        exact this
    have hl1 : i + 1 < T.size := by omega
    rw [Jx.at hl1] at q2
    rw [show i + 1 + 1 = i + 2 from rfl, Jx.at hl2] at q3
    exact ⟨q1, hl1, hl2, by simpa using q2, by simpa using q3⟩
  · rintro ⟨q1, h1, h2, q2, q3⟩
    rw [Jx.at h1, show i + 1 + 1 = i + 2 from rfl, Jx.at h2]
    exact ⟨⟨q1, by rw [q2]⟩, by rcases q3 with q | q <;> rw [q] <;> simp⟩
def Jx.up (n : Nat) : UInt8 := if n < 10 then UInt8.ofNat (48 + n) else UInt8.ofNat (55 + n)
theorem Jx.dig (k : Nat) (hk : k < 16) (h : k < (⟨#[48, 49, 50, 51, 52, 53, 54, 55, 56, 57, 65, 66, 67, 68, 69, 70]⟩ : ByteArray).size) : (⟨#[48, 49, 50, 51, 52, 53, 54, 55, 56, 57, 65, 66, 67, 68, 69, 70]⟩ : ByteArray)[k]'h = Jx.up k := by
  have : ∀ k : Fin 16, (⟨#[48, 49, 50, 51, 52, 53, 54, 55, 56, 57, 65, 66, 67, 68, 69, 70]⟩ : ByteArray)[k.val]'(by have := k.isLt; show k.val < 16; exact this) = Jx.up k.val := by decide
  exact this ⟨k, hk⟩
theorem Jx.small : ∀ n, n < 16 → Pl.lowB (Jx.up n) = Js.hex n := by decide
theorem Jx.or32 : ∀ n, n < 16 → bits .or .u8 ((Jx.up n).toNat : Int) 32 = ((Js.hex n).toNat : Int) := by decide +kernel
theorem Jx.and15 (c : UInt8) : bits .and .u8 (c.toNat : Int) 15 = (c.toNat : Int) % 16 :=
  of_decide_eq_true (Js.all (p := fun c => decide (bits .and .u8 (c.toNat : Int) 15 = (c.toNat : Int) % 16)) (by decide +kernel) c)
theorem Jx.eq_dec (c d : UInt8) : ((c.toNat : Int) == (d.toNat : Int)) = decide (c = d) := by
  by_cases h : c = d
  · rw [h]; simp
  · rw [decide_eq_false h, beq_eq_false_iff_ne]
    exact fun q => h (UInt8.toNat_inj.1 (by omega))
end Go.Proofs.YtboalkfagfgnpaaGreatDoor
