/-
  OF NO PROGRAM: a real's bits: its sign, its field, its fraction; what it is, the whole number that it is, its text. And what the words of Ieee say of those.
-/
import Derived.Laws.FloatBits
import Derived.Lib.TrailingZeros
import Derived.Lib.ItoaNum
import Derived.Test.YtiajclmhimkpnaaDoorChecked
import Derived.Laws.FloatArith
import Derived.Laws.Externs
import Derived.Laws.Bits64b
import Derived.Laws.BitsAllLaws
import Derived.WalkKit
import Derived.OwnWalk
import Derived.Lib.Hide
import Derived.Shelf.Strconv.Itoa3
import Derived.Test.YtiajclmhimkpnaaDoorProg
import Derived.Lib.AppendIntMem
import Derived.BigCall
import Derived.BigGuard
import Derived.Test.YtiajclmhimkpnaaDoorBVForm6toVMay
namespace Go.Proofs.YtiajclmhimkpnaaDoor

/-- the field of the exponent -/
def Re.ef (b : Nat) : Nat := b / 4503599627370496 % 2048
/-- the fraction -/
def Re.fr (b : Nat) : Nat := b % 4503599627370496
def Re.neg (b : Nat) : Bool := decide (9223372036854775808 ≤ b)
/-- the number that is to be multiplied by a power of 2 -/
def Re.mag (b : Nat) : Nat := if Re.ef b = 0 then Re.fr b else 4503599627370496 + Re.fr b
/-- that power -/
def Re.at (b : Nat) : Int := if Re.ef b = 0 then -1074 else (Re.ef b : Int) - 1075
/-- the same, below 0, of a real that is not above the whole numbers -/
def Re.down (b : Nat) : Nat := if Re.ef b = 0 then 1074 else 1075 - Re.ef b
def Re.dat (b : Nat) : Ieee.Datum :=
  if Re.ef b = 2047 then (if Re.fr b = 0 then .infinity (Re.neg b) else .nan (Re.neg b) (Re.fr b))
  else .number (Re.neg b) (Re.mag b) (Re.at b)
/-- a whole number that a value may hold -/
def Re.is (b : Nat) : Bool := decide (Re.ef b ≤ 1075 ∧ Re.mag b % 2 ^ Re.down b = 0)
def Re.abs (b : Nat) : Nat := Re.mag b / 2 ^ Re.down b
def Re.sgn (s : Bool) (n : Nat) : Int := if s then -(n : Int) else n
def Re.whole (b : Nat) : Int := if Re.is b then Re.sgn (Re.neg b) (Re.abs b) else 0
def Re.kind (b : Nat) : Nat :=
  if Re.ef b = 2047 then (if Re.fr b = 0 then 1 else 0)
  else if Re.mag b = 0 then 2 else if Re.is b then 3 else 4
def Re.zeros (b : Nat) : Nat := Lib.ctz 64 (Re.mag b)
def Re.odd (b : Nat) : Nat := Re.mag b / 2 ^ Re.zeros b
def Re.pow (b : Nat) : Int := Re.at b + Re.zeros b
def Re.sign (b : Nat) : List UInt8 := if Re.neg b then [45] else []
/-- its text, kind by kind -/
def Re.text (b : Nat) : List UInt8 :=
  match Re.kind b with
  | 0 => [78, 97, 78]
  | 1 => Re.sign b ++ [73, 110, 102, 105, 110, 105, 116, 121]
  | 2 => Re.sign b ++ [48]
  | 3 => Lib.itoa (Re.whole b)
  | _ => Re.sign b ++ Lib.decDigits (Re.odd b) ++ [112] ++ Lib.itoa (Re.pow b)

theorem Re.ef_lt (b : Nat) : Re.ef b < 2048 := Nat.mod_lt _ (by omega)
theorem Re.fr_lt (b : Nat) : Re.fr b < 4503599627370496 := Nat.mod_lt _ (by omega)
theorem Re.mag_lt (b : Nat) : Re.mag b < 9007199254740992 := by
  have := Re.fr_lt b
  unfold Re.mag; split <;> omega

theorem Re.read (b : Nat) (hb : b < 18446744073709551616) : Ieee.double.read b = Re.dat b := by
  have e1 : Ieee.double.signWeight = 9223372036854775808 := by decide
  have e2 : Ieee.double.binade = 4503599627370496 := by decide
  have e3 : Ieee.double.infRung = 2047 * 4503599627370496 := by decide
  have e4 : Ieee.double.leastPlace = -1074 := by decide
  have hn : (b / 9223372036854775808 % 2 == 1) = Re.neg b := by
    unfold Re.neg
    by_cases h : 9223372036854775808 ≤ b
    · rw [decide_eq_true h]; simp; omega
    · rw [decide_eq_false h]; simp; omega
  have hf : b % 9223372036854775808 = Re.ef b * 4503599627370496 + Re.fr b := by unfold Re.ef Re.fr; omega
  have hlt := Re.fr_lt b
  have hel := Re.ef_lt b
  unfold Ieee.Format.read
  simp only [e1, e2, e3, e4, hn, hf]
  unfold Re.dat Re.mag Re.at
  by_cases h0 : Re.ef b = 0
  · rw [if_pos (by omega), if_neg (by omega), if_pos h0, if_pos h0, h0]; simp
  · rw [if_neg (by omega)]
    by_cases h1 : Re.ef b = 2047
    · rw [if_neg (by omega), if_pos h1]
      by_cases h2 : Re.fr b = 0
      · rw [if_pos (by omega), if_pos h2]
      · rw [if_neg (by omega), if_neg h2, h1, Nat.add_sub_cancel_left]
    · rw [if_pos (by omega), if_neg h1, if_neg h0, if_neg h0]
      have q1 : (Re.ef b * 4503599627370496 + Re.fr b) % 4503599627370496 = Re.fr b := by omega
      have q2 : (Re.ef b * 4503599627370496 + Re.fr b) / 4503599627370496 = Re.ef b := by omega
      have q3 : (-1074 : Int) + ((Re.ef b - 1 : Nat) : Int) = (Re.ef b : Int) - 1075 := by omega
      rw [q1, q2, q3]

theorem Re.order (a b : Nat) (ha : a < 18446744073709551616) (hb : b < 18446744073709551616) : Ieee.double.order a b = (Re.dat a).order (Re.dat b) := by
  unfold Ieee.Format.order
  rw [Re.read a ha, Re.read b hb]

theorem Re.signed (s : Bool) (m k : Nat) : Ieee.signed s m k = Re.sgn s (m * 2 ^ k) := by
  unfold Ieee.signed Re.sgn
  rw [Nat.shiftLeft_eq]

theorem Re.cmp_eq (a b : Int) : (some (compare a b) == some Ordering.eq) = decide (a = b) := by
  simp only [compare, compareOfLessAndEq]
  by_cases h : a < b
  · rw [if_pos h, decide_eq_false (by omega)]; rfl
  · rw [if_neg h]
    by_cases h2 : a = b
    · rw [if_pos h2, decide_eq_true h2]; rfl
    · rw [if_neg h2, decide_eq_false h2]; rfl
theorem Re.cmp_lt (a b : Int) : (some (compare a b) == some Ordering.lt) = decide (a < b) := by
  simp only [compare, compareOfLessAndEq]
  by_cases h : a < b
  · rw [if_pos h, decide_eq_true h]; rfl
  · rw [if_neg h, decide_eq_false h]
    by_cases h2 : a = b
    · rw [if_pos h2]; rfl
    · rw [if_neg h2]; rfl
theorem Re.cmp_gt (a b : Int) : (some (compare a b) == some Ordering.gt) = decide (b < a) := by
  simp only [compare, compareOfLessAndEq]
  by_cases h : a < b
  · rw [if_pos h, decide_eq_false (by omega)]; rfl
  · rw [if_neg h]
    by_cases h2 : a = b
    · rw [if_pos h2, decide_eq_false (by omega)]; rfl
    · rw [if_neg h2, decide_eq_true (by omega)]; rfl

/-- is it a number? -/
theorem Re.self (b : Nat) (hb : b < 18446744073709551616) : (Ieee.double.order b b != some .eq) = decide (Re.kind b = 0) := by
  rw [Re.order b b hb hb]
  unfold Re.dat Re.kind
  by_cases h1 : Re.ef b = 2047
  · rw [if_pos h1, if_pos h1]
    by_cases h2 : Re.fr b = 0
    · rw [if_pos h2, if_pos h2]; cases Re.neg b <;> decide
    · rw [if_neg h2, if_neg h2]; rfl
  · rw [if_neg h1, if_neg h1]
    have h : decide ((if Re.mag b = 0 then 2 else if Re.is b = true then 3 else 4) = 0) = false := by
      apply decide_eq_false
      split
      · omega
      · split <;> omega
    rw [h]
    simp [Ieee.Datum.order]

theorem Re.zero (b : Nat) (hb : b < 18446744073709551616) : (Ieee.double.order b 0 == some .eq) = decide (Re.kind b = 2) := by
  rw [Re.order b 0 hb (by omega)]
  have e0 : Re.dat 0 = .number false 0 (-1074) := by decide
  rw [e0]
  unfold Re.dat Re.kind
  by_cases h1 : Re.ef b = 2047
  · rw [if_pos h1, if_pos h1]
    by_cases h2 : Re.fr b = 0
    · rw [if_pos h2, if_pos h2]; cases Re.neg b <;> decide
    · rw [if_neg h2, if_neg h2]; rfl
  · rw [if_neg h1, if_neg h1]
    simp only [Ieee.Datum.order, Re.signed]
    by_cases h2 : Re.mag b = 0
    · rw [if_pos h2, h2]
      cases Re.neg b <;> simp [Re.sgn]
    · rw [if_neg h2]
      have h : decide ((if Re.is b = true then 3 else 4) = 2) = false := by apply decide_eq_false; split <;> omega
      rw [h]
      have hp : 0 < Re.mag b * 2 ^ (Re.at b - min (Re.at b) (-1074)).toNat := Nat.mul_pos (by omega) (Nat.two_pow_pos _)
      rw [Re.cmp_eq, Nat.zero_mul]
      generalize Re.mag b * 2 ^ (Re.at b - min (Re.at b) (-1074)).toNat = M at hp
      apply decide_eq_false
      unfold Re.sgn
      split <;> simp <;> omega

/-- is it an infinity? (without its sign) -/
theorem Re.low (b : Nat) : Re.ef (b % 9223372036854775808) = Re.ef b ∧ Re.fr (b % 9223372036854775808) = Re.fr b ∧ Re.neg (b % 9223372036854775808) = false := by
  refine ⟨by unfold Re.ef; omega, by unfold Re.fr; omega, ?_⟩
  unfold Re.neg
  apply decide_eq_false
  have := Nat.mod_lt b (show 9223372036854775808 > 0 by omega)
  omega
theorem Re.at_le (b : Nat) (h : Re.ef b ≠ 2047) : Re.at b ≤ 971 := by
  have := Re.ef_lt b
  unfold Re.at; split <;> omega
theorem Re.inf (b : Nat) (_hb : b < 18446744073709551616) : (Ieee.double.order (b % 9223372036854775808) 9218868437227405311 == some .gt) = decide (Re.kind b = 1) := by
  obtain ⟨h1, h2, h3⟩ := Re.low b
  rw [Re.order _ _ (by omega) (by omega)]
  have e0 : Re.dat 9218868437227405311 = .number false 9007199254740991 971 := by decide
  rw [e0]
  have hm := Re.mag_lt b
  unfold Re.dat Re.kind
  rw [h1, h2, h3]
  have e4 : Re.mag (b % 9223372036854775808) = Re.mag b := by unfold Re.mag; rw [h1, h2]
  have e5 : Re.at (b % 9223372036854775808) = Re.at b := by unfold Re.at; rw [h1]
  rw [e4, e5]
  by_cases h1 : Re.ef b = 2047
  · rw [if_pos h1, if_pos h1]
    by_cases h2 : Re.fr b = 0
    · rw [if_pos h2, if_pos h2]; decide
    · rw [if_neg h2, if_neg h2]; rfl
  · rw [if_neg h1, if_neg h1]
    have h : decide ((if Re.mag b = 0 then 2 else if Re.is b = true then 3 else 4) = 1) = false := by
      apply decide_eq_false
      split
      · omega
      · split <;> omega
    rw [h]
    have hat := Re.at_le b h1
    simp only [Ieee.Datum.order, Re.signed]
    rw [Re.cmp_gt]
    apply decide_eq_false
    have e6 : (Re.at b - min (Re.at b) 971).toNat = 0 := by omega
    rw [e6]
    have hp : 0 < 2 ^ (971 - min (Re.at b) 971).toNat := Nat.two_pow_pos _
    have hq : 9007199254740991 * 1 ≤ 9007199254740991 * 2 ^ (971 - min (Re.at b) 971).toNat := Nat.mul_le_mul_left _ hp
    generalize 9007199254740991 * 2 ^ (971 - min (Re.at b) 971).toNat = M at hq
    simp [Re.sgn]
    omega

theorem Re.down_at (b : Nat) (h : Re.ef b ≤ 1075) : Re.at b = -(Re.down b : Int) := by
  unfold Re.at Re.down; split <;> omega
theorem Re.abs_lt (b : Nat) : Re.abs b < 9007199254740992 := Nat.lt_of_le_of_lt (Nat.div_le_self _ _) (Re.mag_lt b)

/-- is it within the whole numbers' bounds? -/
theorem Re.above (b : Nat) (hb : b < 18446744073709551616) (h : Re.ef b ≤ 1075) : (Ieee.double.order b 14069245235905429503 == some .gt || Ieee.double.order b 14069245235905429503 == some .eq) = true := by
  rw [Re.order _ _ hb (by omega)]
  have e0 : Re.dat 14069245235905429503 = .number true 9007199254740991 0 := by decide
  rw [e0]
  have hm := Re.mag_lt b
  unfold Re.dat
  rw [if_neg (by omega)]
  simp only [Ieee.Datum.order, Re.signed]
  rw [Re.cmp_gt, Re.cmp_eq]
  have ha := Re.down_at b h
  have e6 : (Re.at b - min (Re.at b) 0).toNat = 0 := by omega
  rw [e6]
  have hp : 0 < 2 ^ (0 - min (Re.at b) 0).toNat := Nat.two_pow_pos _
  have hq : 9007199254740991 * 1 ≤ 9007199254740991 * 2 ^ (0 - min (Re.at b) 0).toNat := Nat.mul_le_mul_left _ hp
  generalize 9007199254740991 * 2 ^ (0 - min (Re.at b) 0).toNat = M at hq
  rw [← Bool.decide_or]
  apply decide_eq_true
  cases Re.neg b <;> simp [Re.sgn] <;> omega
theorem Re.below (b : Nat) (hb : b < 18446744073709551616) (h : Re.ef b ≤ 1075) : (Ieee.double.order b 4845873199050653695 == some .lt || Ieee.double.order b 4845873199050653695 == some .eq) = true := by
  rw [Re.order _ _ hb (by omega)]
  have e0 : Re.dat 4845873199050653695 = .number false 9007199254740991 0 := by decide
  rw [e0]
  have hm := Re.mag_lt b
  unfold Re.dat
  rw [if_neg (by omega)]
  simp only [Ieee.Datum.order, Re.signed]
  rw [Re.cmp_lt, Re.cmp_eq]
  have ha := Re.down_at b h
  have e6 : (Re.at b - min (Re.at b) 0).toNat = 0 := by omega
  rw [e6]
  have hp : 0 < 2 ^ (0 - min (Re.at b) 0).toNat := Nat.two_pow_pos _
  have hq : 9007199254740991 * 1 ≤ 9007199254740991 * 2 ^ (0 - min (Re.at b) 0).toNat := Nat.mul_le_mul_left _ hp
  generalize 9007199254740991 * 2 ^ (0 - min (Re.at b) 0).toNat = M at hq
  rw [← Bool.decide_or]
  apply decide_eq_true
  cases Re.neg b <;> simp [Re.sgn] <;> omega
/-- beyond them it is not within both -/
theorem Re.out (b : Nat) (hb : b < 18446744073709551616) (h : ¬ Re.ef b ≤ 1075) :
    (Ieee.double.order b 14069245235905429503 == some .gt || Ieee.double.order b 14069245235905429503 == some .eq) = false ∨
    (Ieee.double.order b 4845873199050653695 == some .lt || Ieee.double.order b 4845873199050653695 == some .eq) = false := by
  rw [Re.order _ _ hb (by omega), Re.order _ _ hb (by omega)]
  have e0 : Re.dat 4845873199050653695 = .number false 9007199254740991 0 := by decide
  have e1 : Re.dat 14069245235905429503 = .number true 9007199254740991 0 := by decide
  rw [e0, e1]
  unfold Re.dat
  by_cases h1 : Re.ef b = 2047
  · rw [if_pos h1]
    by_cases h2 : Re.fr b = 0
    · rw [if_pos h2]; cases Re.neg b
      · right; decide
      · left; decide
    · rw [if_neg h2]; left; rfl
  · rw [if_neg h1]
    simp only [Ieee.Datum.order, Re.signed]
    rw [Re.cmp_gt, Re.cmp_eq, Re.cmp_lt, Re.cmp_eq]
    have ha : Re.at b = (Re.ef b : Int) - 1075 := by unfold Re.at; rw [if_neg (by omega)]
    have e6 : (0 - min (Re.at b) 0).toNat = 0 := by omega
    have e7 : (Re.at b - min (Re.at b) 0).toNat = (Re.ef b - 1076) + 1 := by omega
    rw [e6, e7, ← Bool.decide_or, ← Bool.decide_or, Nat.pow_succ]
    have hm : 4503599627370496 ≤ Re.mag b := by unfold Re.mag; rw [if_neg (by omega)]; omega
    have hp : 0 < 2 ^ (Re.ef b - 1076) := Nat.two_pow_pos _
    have hq : Re.mag b * (1 * 2) ≤ Re.mag b * (2 ^ (Re.ef b - 1076) * 2) := Nat.mul_le_mul_left _ (Nat.mul_le_mul_right _ hp)
    generalize Re.mag b * (2 ^ (Re.ef b - 1076) * 2) = M at hq
    cases Re.neg b
    · right; apply decide_eq_false; simp [Re.sgn]; omega
    · left; apply decide_eq_false; simp [Re.sgn]; omega

/-- cut towards zero -/
theorem Re.toInt (b : Nat) (hb : b < 18446744073709551616) (h : Re.ef b ≤ 1075) : (Ieee.double.read b).toInt .zero = some (Re.sgn (Re.neg b) (Re.abs b)) := by
  rw [Re.read b hb]
  unfold Re.dat
  rw [if_neg (by omega)]
  simp only [Ieee.Datum.toInt, Ieee.Datum.integral, Re.signed]
  have ha := Re.down_at b h
  have e1 : (Re.at b).toNat = 0 := by omega
  have e2 : (-Re.at b).toNat = Re.down b := by omega
  rw [e1, e2]
  unfold Ieee.Toward.cut Re.abs
  simp only [Bool.toNat_false, Nat.add_zero, Nat.pow_zero, Nat.mul_one, Nat.shiftLeft_eq, Nat.one_mul]
  congr 2
  by_cases hd : Re.down b ≤ (Re.mag b).log2 + 2
  · rw [Nat.min_eq_left hd]
  · rw [Nat.min_eq_right (by omega)]
    have h1 : Re.mag b < 2 ^ ((Re.mag b).log2 + 1) := Nat.lt_log2_self
    have h2 : Re.mag b < 2 ^ ((Re.mag b).log2 + 2) := Nat.lt_trans h1 (Nat.pow_lt_pow_right (by omega) (by omega))
    have h3 : Re.mag b < 2 ^ Re.down b := Nat.lt_trans h2 (Nat.pow_lt_pow_right (by omega) (by omega))
    rw [Nat.div_eq_of_lt h2, Nat.div_eq_of_lt h3]

/-- a whole number's word -/
theorem Re.nearest (s : Bool) (n : Nat) (h0 : 0 < n) (h1 : n < 9007199254740992) :
    Re.dat (Ieee.double.nearest s n 0) = .number s (n * 2 ^ (52 - n.log2)) ((n.log2 : Int) - 52) := by
  have e1 : Ieee.double.signWeight = 9223372036854775808 := by decide
  have e2 : Ieee.double.binade = 4503599627370496 := by decide
  have e3 : Ieee.double.infRung = 2047 * 4503599627370496 := by decide
  have e4 : Ieee.double.leastPlace = -1074 := by decide
  have e5 : Ieee.double.fractionBits = 52 := rfl
  have hl : n.log2 ≤ 52 := by
    have h2 := Nat.log2_self_le (n := n) (by omega)
    apply Nat.le_of_not_lt
    intro h
    have h3 : 2 ^ 53 ≤ 2 ^ n.log2 := Nat.pow_le_pow_right (by omega) h
    omega
  have hX : 4503599627370496 ≤ n * 2 ^ (52 - n.log2) ∧ n * 2 ^ (52 - n.log2) < 9007199254740992 := by
    have h2 := Nat.log2_self_le (n := n) (by omega)
    have h3 := Nat.lt_log2_self (n := n)
    have h4 : 2 ^ n.log2 * 2 ^ (52 - n.log2) = 4503599627370496 := by rw [← Nat.pow_add, show n.log2 + (52 - n.log2) = 52 by omega]
    have h5 : 2 ^ (n.log2 + 1) * 2 ^ (52 - n.log2) = 9007199254740992 := by rw [← Nat.pow_add, show n.log2 + 1 + (52 - n.log2) = 53 by omega]
    refine ⟨?_, ?_⟩
    · rw [← h4]; exact Nat.mul_le_mul_right _ h2
    · rw [← h5]; exact Nat.mul_lt_mul_of_pos_right h3 (Nat.two_pow_pos _)
  have hw : Ieee.double.nearest s n 0 = Ieee.double.word s ((n.log2 + 1022) * 4503599627370496 + n * 2 ^ (52 - n.log2)) := by
    unfold Ieee.Format.nearest
    rw [if_neg (by omega)]
    simp only [e2, e3, e4, e5]
    have m1 : max (0 + (n.log2 : Int) - (52 : Nat)) (-1074) = (n.log2 : Int) - 52 := by omega
    rw [m1]
    have m2 : (0 - ((n.log2 : Int) - 52)).toNat = 52 - n.log2 := by omega
    have m3 : ((n.log2 : Int) - 52 - 0).toNat = 0 := by omega
    have m4 : ((n.log2 : Int) - 52 - -1074).toNat = n.log2 + 1022 := by omega
    rw [m2, m3, m4]
    have m5 : Ieee.Toward.even.cut s (n <<< (52 - n.log2)) 0 = n * 2 ^ (52 - n.log2) := by
      unfold Ieee.Toward.cut
      simp [Nat.shiftLeft_eq, Nat.mod_one]
    rw [m5, Nat.min_eq_left (by omega)]
  rw [hw]
  unfold Ieee.Format.word
  rw [e1]
  generalize n * 2 ^ (52 - n.log2) = X at hX
  have r1 : ∀ W, W = (if s = true then 9223372036854775808 + ((n.log2 + 1022) * 4503599627370496 + X) else (n.log2 + 1022) * 4503599627370496 + X) → Re.dat W = .number s X ((n.log2 : Int) - 52) := by
    intro W hW
    have hs : Re.neg W = s := by
      unfold Re.neg
      cases s
      · apply decide_eq_false; simp at hW; omega
      · apply decide_eq_true; simp at hW; omega
    have he : Re.ef W = n.log2 + 1023 := by unfold Re.ef; cases s <;> simp at hW <;> omega
    have hf : Re.fr W = X - 4503599627370496 := by unfold Re.fr; cases s <;> simp at hW <;> omega
    unfold Re.dat Re.mag Re.at
    rw [if_neg (by omega), if_neg (by omega), if_neg (by omega), hs, he, hf]
    have t1 : 4503599627370496 + (X - 4503599627370496) = X := by omega
    have t2 : ((n.log2 + 1023 : Nat) : Int) - 1075 = (n.log2 : Int) - 52 := by omega
    rw [t1, t2]
  exact r1 _ rfl

theorem Re.nearest_lt (s : Bool) (n : Nat) : Ieee.double.nearest s n 0 < 18446744073709551616 := by
  have h := Ieee.Format.nearest_lt Ieee.double s n 0
  have e : 2 ^ Ieee.double.width = 18446744073709551616 := by decide
  rwa [e] at h

theorem Re.sgn_neg (s : Bool) (n : Nat) (h : 0 < n) : decide (Re.sgn s n < 0) = s ∧ (Re.sgn s n).natAbs = n := by
  cases s
  · exact ⟨decide_eq_false (by simp [Re.sgn]), by simp [Re.sgn]⟩
  · exact ⟨decide_eq_true (by simp [Re.sgn]; omega), by simp [Re.sgn]⟩

/-- the whole number, as a real, is the real that it was cut from only where nothing was cut -/
theorem Re.back (b : Nat) (hb : b < 18446744073709551616) (h : Re.ef b ≤ 1075) :
    (Ieee.double.order (Ieee.double.nearest (decide (Re.sgn (Re.neg b) (Re.abs b) < 0)) (Re.sgn (Re.neg b) (Re.abs b)).natAbs 0) b != some .eq) = !(Re.is b) := by
  rw [Re.order _ _ (Re.nearest_lt _ _) hb]
  have hm := Re.mag_lt b
  by_cases hq : Re.abs b = 0
  · have e0 : Re.sgn (Re.neg b) (Re.abs b) = 0 := by rw [hq]; cases Re.neg b <;> rfl
    have e1 : Re.dat (Ieee.double.nearest (decide ((0 : Int) < 0)) (Int.natAbs 0) 0) = .number false 0 (-1074) := by decide
    rw [e0, e1]
    have hi : Re.is b = decide (Re.mag b = 0) := by
      unfold Re.is
      have h3 : Re.mag b < 2 ^ Re.down b := by
        have h4 : Re.mag b / 2 ^ Re.down b = 0 := hq
        rcases Nat.div_eq_zero_iff.1 h4 with h5 | h5
        · have := Nat.two_pow_pos (Re.down b); omega
        · exact h5
      rw [Nat.mod_eq_of_lt h3]
      simp [h]
    rw [hi]
    unfold Re.dat
    rw [if_neg (by omega)]
    simp only [Ieee.Datum.order, Re.signed, Nat.zero_mul]
    rw [bne, Re.cmp_eq]
    congr 1
    have hp : 0 < 2 ^ (Re.at b - min (-1074) (Re.at b)).toNat := Nat.two_pow_pos _
    by_cases hz : Re.mag b = 0
    · rw [hz, Nat.zero_mul]; cases Re.neg b <;> decide
    · rw [decide_eq_false hz]
      have hp2 : 0 < Re.mag b * 2 ^ (Re.at b - min (-1074) (Re.at b)).toNat := Nat.mul_pos (by omega) hp
      generalize Re.mag b * 2 ^ (Re.at b - min (-1074) (Re.at b)).toNat = M at hp2
      apply decide_eq_false
      cases Re.neg b <;> simp [Re.sgn] <;> omega
  · obtain ⟨s1, s2⟩ := Re.sgn_neg (Re.neg b) (Re.abs b) (by omega)
    have hal := Re.abs_lt b
    rw [s1, s2, Re.nearest _ _ (by omega) hal]
    have he0 : Re.ef b ≠ 0 := by
      intro h0
      apply hq
      have hd : 53 < Re.down b := by unfold Re.down; rw [if_pos h0]; omega
      exact Nat.div_eq_of_lt (Nat.lt_trans hm (show 2 ^ 53 < 2 ^ Re.down b from Nat.pow_lt_pow_right (by omega) hd))
    have hM : 4503599627370496 ≤ Re.mag b := by unfold Re.mag; rw [if_neg he0]; omega
    have hk : Re.down b ≤ 52 := by
      apply Nat.le_of_not_lt
      intro hlt
      apply hq
      exact Nat.div_eq_of_lt (Nat.lt_of_lt_of_le hm (show 2 ^ 53 ≤ 2 ^ Re.down b from Nat.pow_le_pow_right (by omega) hlt))
    have hlog : (Re.abs b).log2 = 52 - Re.down b := by
      rw [Nat.log2_eq_iff hq]
      have hp := Nat.two_pow_pos (Re.down b)
      refine ⟨?_, ?_⟩
      · unfold Re.abs
        rw [Nat.le_div_iff_mul_le hp, ← Nat.pow_add, show 52 - Re.down b + Re.down b = 52 by omega]
        exact hM
      · unfold Re.abs
        rw [Nat.div_lt_iff_lt_mul hp, ← Nat.pow_add, show 52 - Re.down b + 1 + Re.down b = 53 by omega]
        exact hm
    have ha := Re.down_at b h
    rw [hlog, show 52 - (52 - Re.down b) = Re.down b by omega, show ((52 - Re.down b : Nat) : Int) - 52 = Re.at b by omega]
    unfold Re.dat
    rw [if_neg (by omega)]
    simp only [Ieee.Datum.order, Re.signed, Int.min_self, Int.sub_self, Int.toNat_zero, Nat.pow_zero, Nat.mul_one]
    rw [bne, Re.cmp_eq]
    congr 1
    unfold Re.is
    have hdm := Nat.div_add_mod (Re.mag b) (2 ^ Re.down b)
    have hab : Re.abs b * 2 ^ Re.down b = 2 ^ Re.down b * (Re.mag b / 2 ^ Re.down b) := by unfold Re.abs; exact Nat.mul_comm _ _
    rw [hab]
    generalize 2 ^ Re.down b * (Re.mag b / 2 ^ Re.down b) = A at hdm
    generalize Re.mag b % 2 ^ Re.down b = R at hdm
    simp only [h, true_and]
    apply decide_eq_decide.2
    cases Re.neg b <;> simp [Re.sgn] <;> omega
end Go.Proofs.YtiajclmhimkpnaaDoor
/-
  THE WALKS of the program's real.Whole and real.Kind, of math.IsNaN, IsInf, Abs, Signbit, at whatever bits.
-/
namespace Go.Proofs.YtiajclmhimkpnaaDoor
open Go.RowKit

theorem Re.kind_big (b : Nat) (h0 : Re.kind b ≠ 0) (h1 : Re.kind b ≠ 1) (h2 : Re.kind b ≠ 2) : Re.kind b = if Re.is b then 3 else 4 := by
  unfold Re.kind at *
  by_cases h : Re.ef b = 2047
  · rw [if_pos h] at h0 h1
    by_cases h3 : Re.fr b = 0
    · rw [if_pos h3] at h1; omega
    · rw [if_neg h3] at h0; omega
  · rw [if_neg h] at h2 ⊢
    by_cases h3 : Re.mag b = 0
    · rw [if_pos h3] at h2; omega
    · rw [if_neg h3]

end Go.Proofs.YtiajclmhimkpnaaDoor
/-
  The library's contracts that the walks lean on, laid at this program's own numbers: strconv.Itoa, and what internal/strconv.FormatUint calls.
-/
namespace Go.Proofs.YtiajclmhimkpnaaDoor
open Go.Shelf
end Go.Proofs.YtiajclmhimkpnaaDoor
/-
  THE WALKS of strconv.Itoa and strconv.FormatUint (base 10), and of math/bits.TrailingZeros64, where the library's tables lie as its initialisers lay them.
-/
namespace Go.Proofs.YtiajclmhimkpnaaDoor
open Go.RowKit Go.Sort Go.Lib

def Re.tzTab : List Int := Lib.deBruijn64tab.map fun z : Nat => (z : Int)
/-- the tables of the library, as they are laid -/
structure Re.Tabs (w : World) : Prop where
  pow : Lib.TabIs Tryd.prog w "internal/strconv.uint64pow10" .u64 Lib.pow10Tab
  tz : Lib.TabIs Tryd.prog w "math/bits.deBruijn64tab" .u8 Re.tzTab
theorem Re.Tabs.on {w w' : World} (h : Re.Tabs w) (hb : Below w.heap.size w w') : Re.Tabs w' :=
  ⟨Lib.tabBelow_of_tabIs h.pow w' hb, Lib.tabBelow_of_tabIs h.tz w' hb⟩

theorem Rf.tz_key (x a : Nat) (hx : x < 18446744073709551616) (hx0 : x ≠ 0) (hlow : x &&& (18446744073709551616 - x) = a) :
    IntKind.u64.wrap (bits BinOp.and IntKind.u64 (x : Int) (IntKind.u64.wrap (-(x : Int))) * 285870213051353865) / 288230376151711744 = ((a * 285870213051353865 % 18446744073709551616 / 288230376151711744 : Nat) : Int) := by
  have e1 : IntKind.u64.wrap (-(x : Int)) = ((18446744073709551616 - x : Nat) : Int) := by rw [IntKind.wrap_u64]; omega
  rw [e1, bits_and_u64_nat x _ hx (by omega), hlow, IntKind.wrap_u64]
  omega

end Go.Proofs.YtiajclmhimkpnaaDoor
/-
  THE WALKS of the program's oddAndPower and real.Text.
-/
namespace Go.Proofs.YtiajclmhimkpnaaDoor
open Go.RowKit

theorem Rt.and52 (b : Nat) (hb : b < 18446744073709551616) : Go.bits .and .u64 (b : Int) 4503599627370495 = ((Re.fr b : Nat) : Int) := by
  have h := bits_and_u64_nat b 4503599627370495 hb (by omega)
  rw [show (4503599627370495 : Nat) = 2 ^ 52 - 1 by decide, Nat.and_two_pow_sub_one_eq_mod] at h
  exact h
theorem Rt.and11 (b : Nat) (hb : b < 18446744073709551616) : Go.bits .and .u64 ((b : Int) / 4503599627370496) 2047 = ((Re.ef b : Nat) : Int) := by
  have h := bits_and_u64_nat (b / 4503599627370496) 2047 (by omega) (by omega)
  rw [show (2047 : Nat) = 2 ^ 11 - 1 by decide, Nat.and_two_pow_sub_one_eq_mod] at h
  exact h
theorem Rt.or52 (m : Nat) (hm : m < 4503599627370496) : Go.bits .or .u64 (m : Int) 4503599627370496 = ((4503599627370496 + m : Nat) : Int) := by
  have h := bits_or_u64_nat m 4503599627370496 (by omega) (by omega)
  have e := Nat.two_pow_add_eq_or_of_lt (i := 52) (b := m) (by omega) 1
  rw [Nat.or_comm, show (4503599627370496 : Nat) = 2 ^ 52 * 1 by decide, ← e] at h
  exact h

theorem Rt.step {w wr w1 : World} (h : Below w.heap.size w wr) (h1 : Below wr.heap.size wr w1) : Below w.heap.size w w1 := h.trans (h1.mono h.size)
theorem Rt.cat (a b : List UInt8) : (⟨a.toArray⟩ : ByteArray) ++ ⟨b.toArray⟩ = ⟨(a ++ b).toArray⟩ := by
  apply ByteArray.ext
  simp
theorem Rt.size (a : List UInt8) : (⟨a.toArray⟩ : ByteArray).size = a.length := by simp [ByteArray.size]
theorem Rt.sign_le (b : Nat) : (Re.sign b).length ≤ 1 := by unfold Re.sign; split <;> simp
theorem Rt.dec_le (u : Nat) (h : u < 18446744073709551616) : (Lib.decDigits u).length ≤ 20 := by
  rw [Lib.decDigits_length]
  by_cases h0 : u = 0
  · subst h0; rw [Lib.nDigits_small (by omega)]; omega
  · have := Lib.numDigits_eq u (by omega) h; split at this <;> omega
theorem Rt.itoa_le (n : Int) (h0 : -9007199254740992 ≤ n) (h1 : n ≤ 9007199254740992) : (Lib.itoa n).length ≤ 21 := by
  unfold Lib.itoa
  split
  · have := Rt.dec_le n.natAbs (by omega); simp; omega
  · have := Rt.dec_le n.toNat (by omega); omega
theorem Rt.whole_le (b : Nat) : -9007199254740992 ≤ Re.whole b ∧ Re.whole b ≤ 9007199254740992 := by
  have := Re.abs_lt b
  unfold Re.whole
  split
  · cases Re.neg b <;> simp [Re.sgn] <;> omega
  · omega
theorem Rt.pow_le (b : Nat) (hm0 : Re.mag b ≠ 0) : -9007199254740992 ≤ Re.pow b ∧ Re.pow b ≤ 9007199254740992 := by
  have h := Re.mag_lt b
  have hz := (Lib.lowest_bit 64 (Re.mag b) hm0 (by omega)).2
  have hel := Re.ef_lt b
  unfold Re.pow Re.at Re.zeros
  split <;> omega
theorem Rt.odd_lt (b : Nat) : Re.odd b < 18446744073709551616 := by
  have h := Re.mag_lt b
  have := Nat.div_le_self (Re.mag b) (2 ^ Re.zeros b)
  unfold Re.odd; omega
theorem Rt.kind_le (b : Nat) : Re.kind b ≤ 4 := by
  unfold Re.kind
  split
  · split <;> omega
  · split
    · omega
    · split <;> omega
theorem Rt.kind4 (b : Nat) (h : Re.kind b = 4) : Re.mag b ≠ 0 ∧ Re.ef b ≠ 2047 := by
  unfold Re.kind at h
  by_cases h1 : Re.ef b = 2047
  · rw [if_pos h1] at h; split at h <;> omega
  · rw [if_neg h1] at h
    refine ⟨fun h2 => ?_, h1⟩
    rw [if_pos h2] at h; omega

end Go.Proofs.YtiajclmhimkpnaaDoor
/-
  THE WALKS of the program's value.True, Text, isNumber, rank.
-/
namespace Go.Proofs.YtiajclmhimkpnaaDoor
open Go.RowKit

theorem Vt.Lies.alloc {w : World} {t : Vt} {v : Value} (h : t.Lies w (· < w.heap.size) v) (o : Obj) : t.Lies (w.alloc o) (· < (w.alloc o).heap.size) v :=
  h.on fun g hg => ⟨by simp; omega, Below.heap_alloc _ _ _ hg⟩
theorem Vt.Lies.on' {w w' : World} {t : Vt} {v : Value} (h : t.Lies w (· < w.heap.size) v) (hb : Below w.heap.size w w') : t.Lies w' (· < w'.heap.size) v :=
  h.on fun g hg => ⟨Nat.lt_of_lt_of_le hg hb.size, hb.block g hg⟩
theorem Vm.behind {w w1 : World} {o : Obj} (h : Below (w.alloc o).heap.size (w.alloc o) w1) : Below w.heap.size w w1 :=
  ((Below.refl _ _).alloc (Nat.le_refl _) o).trans (h.mono (by simp))
theorem Vm.behind2 {w w1 : World} {o o' : Obj} (h : Below ((w.alloc o).alloc o').heap.size ((w.alloc o).alloc o') w1) : Below w.heap.size w w1 := Vm.behind (Vm.behind h)
theorem Vm.then {w w1 w2 : World} (h : Below w.heap.size w w1) (g : Below w1.heap.size w1 w2) : Below w.heap.size w w2 := h.trans (g.mono h.size)
structure Vm.Box (w : World) (g : Nat) (v0 v1 v2 v3 v4 v5 : Value) : Prop where
  all : w.heap[g]? = some (.cells #[v0, v1, v2, v3, v4, v5] 29)
theorem Vm.Box.cells {w : World} {g : Nat} {v0 v1 v2 v3 v4 v5 : Value} (h : Vm.Box w g v0 v1 v2 v3 v4 v5) : w.cell? ⟨g, 0, none⟩ = some v0 ∧ w.cell? ⟨g, 1, none⟩ = some v1 ∧ w.cell? ⟨g, 2, none⟩ = some v2 ∧ w.cell? ⟨g, 3, none⟩ = some v3 ∧ w.cell? ⟨g, 4, none⟩ = some v4 ∧ w.cell? ⟨g, 5, none⟩ = some v5 :=
  ⟨Vm.boxCell h.all 0 rfl, Vm.boxCell h.all 1 rfl, Vm.boxCell h.all 2 rfl, Vm.boxCell h.all 3 rfl, Vm.boxCell h.all 4 rfl, Vm.boxCell h.all 5 rfl⟩
theorem Vm.Box.on {w w' : World} {g : Nat} {v0 v1 v2 v3 v4 v5 : Value} (h : Vm.Box w g v0 v1 v2 v3 v4 v5) (hg : g < w.heap.size) (hb : Below w.heap.size w w') : Vm.Box w' g v0 v1 v2 v3 v4 v5 := ⟨(hb.block g hg).trans h.all⟩
theorem Vm.box {w w1 : World} {v0 v1 v2 v3 v4 v5 : Value} (h : Below (w.alloc (.cells #[v0, v1, v2, v3, v4, v5] 29)).heap.size (w.alloc (.cells #[v0, v1, v2, v3, v4, v5] 29)) w1) : Vm.Box w1 w.heap.size v0 v1 v2 v3 v4 v5 := ⟨Vm.boxed h⟩

theorem Vt.formed_of {k x : Int} {b : Nat} {s : ByteArray} {n : Nat} {it : Nat → Vt} {m : Nat} {ks : Nat → ByteArray} (h : (Vt.mk k x b s n it m ks).may = true) : Vt.formed k x b s n m ks = true := by
  unfold Vt.may Vt.stand at h
  split at h
  · cases h
  · next hc =>
    cases e : Vt.formed k x b s n m ks with
    | true => rfl
    | false => exact absurd (.inr (.inr e)) hc

def Vt.truth : Vt → Bool
  | .nil => false
  | .mk k x b s n it m ks => (Vt.mk k x b s n it m ks).may && (if k = 1 ∨ k = 2 then !(x == 0) else if k = 3 then !((Re.kind b : Int) == 2) && !((Re.kind b : Int) == 0) else if k = 4 then !(s.toList == []) else decide (0 < n))

/-- the text of a value, and its error's number -/
def Vt.told : Vt → ByteArray × Int
  | .nil => (⟨#[]⟩, 400)
  | .mk k x b s n it m ks => if (Vt.mk k x b s n it m ks).may then (if k = 0 then (⟨#[]⟩, 0) else if k = 1 then (if x = 1 then ⟨#[116, 114, 117, 101]⟩ else ⟨#[102, 97, 108, 115, 101]⟩, 0) else if k = 2 then (⟨(Lib.itoa x).toArray⟩, 0) else if k = 3 then (⟨(Re.text b).toArray⟩, 0) else if k = 4 then (s, 0) else (⟨#[]⟩, 402)) else (⟨#[]⟩, 400)

end Go.Proofs.YtiajclmhimkpnaaDoor
/-
  THE WALKS of slices.Equal of texts and of the law's own SameTexts.
-/
namespace Go.Proofs.YtiajclmhimkpnaaDoor
open Go.RowKit

def Vt.allTo (f : Nat → Bool) : Nat → Bool
  | 0 => true
  | n + 1 => Vt.allTo f n && f n
theorem Vt.allTo_of {f : Nat → Bool} {m j : Nat} (h : Vt.allTo f m = true) (hj : j < m) : f j = true := by
  induction m with
  | zero => omega
  | succ m ih =>
    simp only [Vt.allTo, Bool.and_eq_true] at h
    by_cases e : j = m
    · rw [e]; exact h.2
    · exact ih h.1 (by omega)
theorem Vt.allTo_no {f : Nat → Bool} {m j : Nat} (h : f j = false) (hj : j < m) : Vt.allTo f m = false := by
  cases e : Vt.allTo f m with
  | false => rfl
  | true => rw [Vt.allTo_of e hj] at h; cases h
theorem Vt.allTo_iff {f : Nat → Bool} {m : Nat} : Vt.allTo f m = true ↔ ∀ j, j < m → f j = true := by
  refine ⟨fun h j => Vt.allTo_of h, fun h => ?_⟩
  induction m with
  | zero => rfl
  | succ m ih =>
    simp only [Vt.allTo, Bool.and_eq_true]
    exact ⟨ih fun j hj => h j (by omega), h m (by omega)⟩
/-- the same texts, one by one -/
def Vt.sameKeys (m m' : Nat) (ks ks' : Nat → ByteArray) : Bool := decide (m = m') && Vt.allTo (fun j => (ks j).toList == (ks' j).toList) m

theorem Vm.drewN {B : Nat} {a w : World} (h : Below B a w) (n : Nat) : Below B a (w.drewN n) := ⟨h.os, h.tape, h.output, h.size, h.block⟩

end Go.Proofs.YtiajclmhimkpnaaDoor
