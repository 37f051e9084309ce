/-
  THE WALK of stoleref0.Decimal at a number that is not negative: it returns its digits, and turns nothing that was there.
-/
import Derived.Test.YtboalkfagfgnpaaGreatDoorCVFormtoReText
import Derived.OwnWalk
import Derived.Lib.Hide
import Derived.CellFam
namespace Go.Proofs.YtboalkfagfgnpaaGreatDoor
open Go.RowKit

theorem Dm.info5 : (Tryz.prog.info? 5).map (fun i => (i.zero, i.size, i.bytes)) = some (some (.int .u8 0), 1, 1) := by kernel_rfl
/-- 'string(out)' of bytes that the call owns -/
theorem Dm.conv {wr : World} {B : Nat} {v : Value} {acc : List UInt8} (h : wr.ownsRow B 5 1 v acc.length (Lib.byteCells acc)) :
    (convert 44 9 v).run Tryz.prog wr = .ok (.string ⟨acc.toArray⟩) wr := by
  rcases h.2 with ⟨rfl, h0⟩ | ⟨g, cap, cur, rfl, _⟩
  · have e : acc = [] := List.eq_nil_of_length_eq_zero h0
    subst e
    rw [run_convert_bytes_string wr 44 9 5 none 0 0 Tryz.underlying44 Tryz.underlying5 Tryz.underlying9]
    simp [Conv.bytesToString]
    rfl
  · refine run_convert_bytes_back (P := Tryz.prog) wr 44 9 5 ⟨g, 0, none⟩ cap acc Tryz.underlying44 Tryz.underlying5 Tryz.underlying9 (fun j hj => ?_)
    have e : (⟨g, 0, none⟩ : Addr).add j = ⟨g, j, none⟩ := by rw [Addr.add_lit, Nat.zero_add]
    rw [e, h.cellAt j (by omega)]
    simp [Lib.byteCells, hj]

/-- a number that is written so far: z stands ahead of the digits -/
structure Dm.Half (k z : Nat) (l : List UInt8) : Prop where
  first : l = [] → z = k
  later : l ≠ [] → Lib.decDigits k = (if z = 0 then [] else Lib.decDigits z) ++ l
theorem Dm.Half.step {k z : Nat} {l : List UInt8} (h : Dm.Half k z l) (hz : 0 < z ∨ l = []) (c : UInt8) (hc : c.toNat = 48 + z % 10) : Dm.Half k (z / 10) (c :: l) := by
  have e : (if z / 10 = 0 then [] else Lib.decDigits (z / 10)) ++ [c] = Lib.decDigits z := by
    have hc' : c = UInt8.ofNat (48 + z % 10) := by
      apply UInt8.toNat_inj.1
      rw [hc, UInt8.toNat_ofNat']
      omega
    by_cases h1 : z < 10
    · rw [if_pos (by omega), Lib.decDigits_one h1, hc', Nat.mod_eq_of_lt h1]; rfl
    · conv => rhs; rw [Lib.decDigits, dif_neg h1]
      rw [if_neg (by omega), hc']
  refine ⟨(fun h => by cases h), fun _ => ?_⟩
  rw [show c :: l = [c] ++ l by rfl, ← List.append_assoc, e]
  by_cases hl : l = []
  · rw [h.first hl, hl, List.append_nil]
  · rw [h.later hl, if_neg]
    rcases hz with hz | hz
    · omega
    · exact absurd hz hl
theorem Dm.Half.len {k z : Nat} {l : List UInt8} (h : Dm.Half k z l) (hk : k < 18446744073709551616) : l.length ≤ 20 := by
  by_cases hl : l = []
  · rw [hl]; simp
  · have h1 := Rt.dec_le k hk
    rw [h.later hl, List.length_append] at h1
    omega
theorem Dm.Half.fin {k : Nat} {l : List UInt8} (h : Dm.Half k 0 l) (hl : l ≠ []) : Lib.decDigits k = l := by
  rw [h.later hl, if_pos rfl, List.nil_append]

def Dm.len : Value → Nat
  | .slice _ n _ => n
  | _ => 0
theorem Dm.len_own {w : World} {B : Nat} {v : Value} {n : Nat} {xs : List Value} (h : w.ownsRow B 5 1 v n xs) : Dm.len v = n := by
  rcases h.2 with ⟨rfl, h0⟩ | ⟨g, cap, cur, rfl, _⟩
  · exact h0.symm
  · rfl
theorem Dm.one (W : World) (B : Nat) (x : Int) (hB : B ≤ W.heap.size) : (W.alloc (.cells #[.int .u8 x] 5)).ownsRow B 5 1 (.slice (some ⟨W.heap.size, 0, none⟩) 1 1) 1 [.int .u8 x] :=
  World.ownsRow_lit (e := 5) (size := 1) W #[.int .u8 x] 1 hB (by unfold maxLen; omega) rfl
theorem Dm.ones (l : List UInt8) : ∀ u ∈ Lib.byteCells l, u.oneCell' = true := by
  intro u hu
  simp only [Lib.byteCells, List.mem_map] at hu
  obtain ⟨c, _, rfl⟩ := hu
  rfl
theorem Dm.rel {w wr w1 : World} {v' : Value} {acc : List UInt8} {X : Obj} {c : UInt8} (hb : Below w.heap.size w wr)
    (hown' : w1.ownsRow w.heap.size 5 1 v' (1 + acc.length) ([.int .u8 c.toNat] ++ Lib.byteCells acc)) (hg : (wr.alloc X).grownBy w1 (some wr.heap.size)) :
    w1.ownsRow w.heap.size 5 1 v' (c :: acc).length (Lib.byteCells (c :: acc)) ∧ Below w.heap.size w w1 := by
  refine ⟨?_, (hb.alloc hb.size X).grown hg (by have := hb.size; simp; omega) (fun k hk => by cases hk; exact hb.size)⟩
  rw [List.length_cons, Nat.add_comm]
  exact hown'

set_option maxRecDepth 100000 in
set_option maxHeartbeats 2000000 in
theorem Dm.decimal (k : Nat) (hk : k < 9223372036854775808) (w : World) :
    Calls Tryz.prog 58 #[.int .i64 (k : Int)] w fun e w' => e = .returned (.string ⟨(Lib.decDigits k).toArray⟩) ∧ Below w.heap.size w w' := by
  obtain ⟨i0, hi, hz0, hz1, hz2⟩ := info_parts Dm.info5
  have k0 : decide ((k : Int) < 0) = false := decide_eq_false (by omega)
  go_enter Tryz.func58, Tryz.ntmps58
  go_wp2
  go_loopw [3, 4] (fun y o wr => ∃ (z : Nat) (acc : List UInt8), y = .int .u64 z ∧ z ≤ k ∧ wr.ownsRow w.heap.size 5 1 o acc.length (Lib.byteCells acc) ∧ Below w.heap.size w wr ∧ Hid (Dm.Half k z acc) ∧ (acc = [] → o = .slice none 0 0)) (fun y o _ => 2 * (intOf y).toNat + (if Dm.len o = 0 then 1 else 0))
  case atStart => exact ⟨k, [], by go_num, Nat.le_refl _, World.ownsRow_nil _ _ _ _, Below.refl _ _, ⟨fun _ => rfl, fun h => absurd rfl h⟩, fun _ => rfl⟩
  case round =>
    obtain ⟨z, acc, rfl, hzk, hown, hb, HH, hnil⟩ := hrel
    have hsr := hb.size
    obtain ⟨c, hc⟩ : ∃ c : UInt8, c.toNat = 48 + z % 10 := ⟨UInt8.ofNat (48 + z % 10), by rw [UInt8.toNat_ofNat']; omega⟩
    have HC := Lib.hid hc
    have hcI : 48 + (z : Int) % 10 = (c.toNat : Int) := by omega
    clear hc
    rcases hown.2 with ⟨rfl, h0⟩ | ⟨g, cap, cur, rfl, _⟩
    · have hacc : acc = [] := List.eq_nil_of_length_eq_zero h0
      subst hacc
      have HS : Hid (Dm.Half k (z / 10) [c]) := HH.out.step (.inr rfl) c HC.out
      have R := Dm.one wr w.heap.size c.toNat hsr
      have hb' := hb.alloc hb.size (.cells #[.int .u8 c.toNat] 5)
      clear h0 hnil HC HH hown hb
      by_cases hz : 0 < z
      · go_wp2_with fail
        refine ⟨⟨z / 10, [c], by go_num, by omega, R, hb', HS, fun h => by cases h⟩, ?_⟩
        simp [intOf, Dm.len]
        omega
      · go_wp2_with fail
        refine ⟨⟨z / 10, [c], by go_num, by omega, R, hb', HS, fun h => by cases h⟩, ?_⟩
        simp [intOf, Dm.len]
        omega
    · have hne : acc ≠ [] := fun h => by have := hnil h; cases this
      have hpos : 0 < acc.length := List.length_pos_iff.2 hne
      have hlen := HH.out.len (by omega)
      clear hnil
      by_cases hz : 0 < z
      · have HS : Hid (Dm.Half k (z / 10) (c :: acc)) := HH.out.step (.inl hz) c HC.out
        have hl := Dm.len_own hown
        clear HC HH
        go_wp2_with (at_builtin; refine wpList_append_own _ rfl _ _ 44 rfl w.heap.size 5 i0 (.int .u8 0) 1 1 Tryz.underlying44 hi hz0 hz1 hz2 rfl (by decide) _ _ _ rfl (Dm.one wr w.heap.size c.toNat hsr) ⟨g, 0, none⟩ acc.length cap (Lib.byteCells acc) rfl (by rw [Lib.byteCells_length]; omega) ((hown.alloc _).cells rfl) (Dm.ones acc) (by unfold maxLen; omega) (by omega) (by simp; omega) ?_)
        intro v' w1 hown' hgrow _
        have R := Dm.rel (c := c) hb hown' hgrow
        have hl' := Dm.len_own R.1
        clear hown' hgrow hown hb
        go_wp2_with fail
        refine ⟨⟨z / 10, c :: acc, by go_num, by omega, R.1, R.2, HS, fun h => by cases h⟩, ?_⟩
        rw [hl', hl]
        simp [intOf]
        omega
      · have hz0' : z = 0 := by omega
        subst hz0'
        have HF : Hid (Lib.decDigits k = acc) := HH.out.fin hne
        have hl0 : ((acc.length : Int) == 0) = false := beq_eq_false_iff_ne.2 (by omega)
        have hconv := Dm.conv hown
        clear HH HC hown hcI
        go_wp2
        go_ret
        refine ⟨?_, hb⟩
        rw [HF.out]
        rfl
end Go.Proofs.YtboalkfagfgnpaaGreatDoor
/-
  THE WALKS of the reference's Split, Real, Whole, Number and RealText, at whatever bits.
-/
namespace Go.Proofs.YtboalkfagfgnpaaGreatDoor
open Go.RowKit

/-- the odd number, the power: what they are -/
theorem Rs.split (b : Nat) (hm0 : Re.mag b ≠ 0) : ∃ n, Re.mag b = 2 ^ Re.zeros b * (2 * n + 1) ∧ Re.zeros b ≤ 52 ∧ Re.odd b = 2 * n + 1 := by
  have h := Re.mag_lt b
  obtain ⟨n, hn, _⟩ := Lib.ctzFrom_spec 64 (Re.mag b) (by omega) (by omega)
  have e : Re.zeros b = Lib.ctzFrom 64 (Re.mag b) := by unfold Re.zeros Lib.ctz; rw [if_neg hm0]
  rw [← e] at hn
  refine ⟨n, hn, ?_, ?_⟩
  · apply Nat.le_of_not_lt
    intro h1
    have h2 : 2 ^ 53 ≤ 2 ^ Re.zeros b := Nat.pow_le_pow_right (by omega) h1
    have h3 : 2 ^ Re.zeros b * 1 ≤ 2 ^ Re.zeros b * (2 * n + 1) := Nat.mul_le_mul_left _ (by omega)
    omega
  · have hp := Nat.two_pow_pos (Re.zeros b)
    unfold Re.odd
    rw [hn]
    exact Nat.mul_div_cancel_left _ hp

theorem Rs.odd_dvd (d z n : Nat) (h : 2 ^ z * (2 * n + 1) % 2 ^ d = 0) : d ≤ z := by
  apply Nat.le_of_not_lt
  intro h1
  obtain ⟨r, rfl⟩ : ∃ r, d = z + (r + 1) := ⟨d - z - 1, by omega⟩
  rw [Nat.pow_add, Nat.mul_mod_mul_left] at h
  have h2 : (2 * n + 1) % 2 ^ (r + 1) = 0 := by
    rcases Nat.mul_eq_zero.1 h with h3 | h3
    · have := Nat.two_pow_pos z; omega
    · exact h3
  have h3 := Nat.div_add_mod (2 * n + 1) (2 ^ (r + 1))
  rw [h2, Nat.pow_succ, Nat.mul_comm (2 ^ r) 2, Nat.mul_assoc] at h3
  omega

/-- whole: the power is not below 0, and the number is not too great -/
theorem Rs.whole (b : Nat) (hm0 : Re.mag b ≠ 0) (hi : Re.is b = true) :
    ∃ p : Nat, Re.pow b = p ∧ p ≤ 52 ∧ Re.odd b ≤ 9007199254740991 / 2 ^ p ∧ Re.odd b * 2 ^ p = Re.abs b := by
  have hlt := Re.mag_lt b
  obtain ⟨n, hn, hz, ho⟩ := Rs.split b hm0
  obtain ⟨h1, h2⟩ := of_decide_eq_true hi
  have ha := Re.down_at b h1
  have hd : Re.down b ≤ Re.zeros b := Rs.odd_dvd _ _ n (by rw [← hn]; exact h2)
  have hpow : Re.pow b = ((Re.zeros b - Re.down b : Nat) : Int) := by unfold Re.pow; rw [ha]; omega
  have habs : Re.odd b * 2 ^ (Re.zeros b - Re.down b) = Re.abs b := by
    unfold Re.abs
    rw [hn, ho]
    have e : 2 ^ Re.zeros b = 2 ^ Re.down b * 2 ^ (Re.zeros b - Re.down b) := by rw [← Nat.pow_add, show Re.down b + (Re.zeros b - Re.down b) = Re.zeros b by omega]
    rw [e, Nat.mul_assoc, Nat.mul_div_cancel_left _ (Nat.two_pow_pos _), Nat.mul_comm]
  refine ⟨Re.zeros b - Re.down b, hpow, by omega, ?_, habs⟩
  rw [Nat.le_div_iff_mul_le (Nat.two_pow_pos _), habs]
  have := Re.abs_lt b
  omega
/-- .. not whole: one of the three fails -/
theorem Rs.other (b : Nat) (hm0 : Re.mag b ≠ 0) (hi : Re.is b = false) :
    Re.pow b < 0 ∨ 52 < Re.pow b ∨ ∃ p : Nat, Re.pow b = p ∧ p ≤ 52 ∧ 9007199254740991 / 2 ^ p < Re.odd b := by
  by_cases h0 : Re.pow b < 0
  · exact .inl h0
  · by_cases h1 : 52 < Re.pow b
    · exact .inr (.inl h1)
    · refine .inr (.inr ⟨(Re.pow b).toNat, by omega, by omega, ?_⟩)
      apply Nat.lt_of_not_le
      intro h2
      rw [Nat.le_div_iff_mul_le (Nat.two_pow_pos _)] at h2
      have hlt := Re.mag_lt b
      obtain ⟨n, hn, hz, ho⟩ := Rs.split b hm0
      have hfr := Re.fr_lt b
      have hne : Re.ef b ≠ 0 := by
        intro h3
        have : Re.at b = -1074 := by unfold Re.at; rw [if_pos h3]
        have : Re.pow b = Re.at b + Re.zeros b := rfl
        omega
      have hM : 4503599627370496 ≤ Re.mag b := by unfold Re.mag; rw [if_neg hne]; omega
      have hat : Re.at b = (Re.ef b : Int) - 1075 := by unfold Re.at; rw [if_neg hne]
      have hpw : Re.pow b = Re.at b + Re.zeros b := rfl
      have hle : Re.ef b ≤ 1075 := by
        apply Nat.le_of_not_lt
        intro h3
        obtain ⟨r, hr⟩ : ∃ r, (Re.pow b).toNat = Re.zeros b + (r + 1) := ⟨Re.ef b - 1076, by omega⟩
        rw [hr, Nat.pow_add, ho, ← Nat.mul_assoc, Nat.mul_comm (2 * n + 1), ← hn, Nat.pow_succ] at h2
        have h4 : Re.mag b * (1 * 2) ≤ Re.mag b * (2 ^ r * 2) := Nat.mul_le_mul_left _ (Nat.mul_le_mul_right _ (Nat.two_pow_pos r))
        omega
      have hdn : Re.down b = 1075 - Re.ef b := by unfold Re.down; rw [if_neg hne]
      have hd : Re.mag b % 2 ^ Re.down b = 0 := by
        rw [hn]
        obtain ⟨r, hr⟩ : ∃ r, Re.zeros b = Re.down b + r := ⟨Re.zeros b - Re.down b, by omega⟩
        rw [hr, Nat.pow_add, Nat.mul_assoc, Nat.mul_mod_right]
      have : Re.is b = true := decide_eq_true ⟨hle, hd⟩
      rw [hi] at this
      cases this

theorem Rs.and1 (m : Nat) (hm : m < 18446744073709551616) : Go.bits .and .u64 (m : Int) 1 = ((m % 2 : Nat) : Int) := by
  have h := bits_and_u64_nat m 1 hm (by omega)
  rw [show (1 : Nat) = 2 ^ 1 - 1 by decide, Nat.and_two_pow_sub_one_eq_mod] at h
  exact h
theorem Rs.neg (b : Nat) (hb : b < 18446744073709551616) : ((b : Int) / 9223372036854775808 == 1) = Re.neg b := by
  unfold Re.neg
  by_cases h : 9223372036854775808 ≤ b
  · rw [decide_eq_true h]; apply beq_iff_eq.2; omega
  · rw [decide_eq_false h]; exact beq_eq_false_iff_ne.2 (by omega)

set_option maxRecDepth 100000 in
set_option maxHeartbeats 1000000 in
theorem Rs.walk (b : Nat) (hb : b < 18446744073709551616) (hm0 : Re.mag b ≠ 0) (w : World) :
    Calls Tryz.prog 56 #[.int .u64 (b : Int)] w fun e w' => e = .returned (.tuple #[.bool (Re.neg b), .int .u64 (Re.odd b), .int .i64 (Re.pow b)]) ∧ w' = w := by
  have h1 := Rt.and52 b hb
  have h2 := Rt.and11 b hb
  have hf := Re.fr_lt b
  have hel := Re.ef_lt b
  have hml := Re.mag_lt b
  have hng := Rs.neg b hb
  obtain ⟨n, hn, hz, ho⟩ := Rs.split b hm0
  have hat : Re.at b = if Re.ef b = 0 then -1074 else (Re.ef b : Int) - 1075 := rfl
  have ep : Re.pow b = Re.at b + Re.zeros b := rfl
  by_cases h0 : Re.ef b = 0
  · have em : Re.fr b = Re.mag b := by unfold Re.mag; rw [if_pos h0]
    rw [if_pos h0] at hat
    rw [h0] at h2
    rw [em] at h1
    rw [ho, ep, hat]
    clear em hat ep ho h0 hel hf
    generalize Re.zeros b = z at hn hz ⊢
    generalize Re.mag b = m at hn hm0 hml h1
    generalize Re.neg b = s at hng ⊢
    have HN := Lib.hid hn
    clear hn
    go_enter Tryz.func56, Tryz.ntmps56
    go_wp2_with fail
    go_loop [5, 6] (fun y v => ∃ j y' : Nat, y = .int .u64 (y' : Int) ∧ v = .int .i64 (-1074 + (j : Int)) ∧ j ≤ z ∧ y' < 9007199254740992 ∧ Hid (y' = 2 ^ (z - j) * (2 * n + 1))) (fun y _ => (intOf y).toNat)
    case atStart => exact ⟨0, m, rfl, by go_num, by omega, hml, by rw [Nat.sub_zero]; exact HN.out⟩
    case round =>
      obtain ⟨j, y, rfl, rfl, hj, hy, HY⟩ := hrel
      have hy1 : ¬ y = 0 := by
        rw [HY.out]
        exact Nat.ne_of_gt (Nat.mul_pos (Nat.two_pow_pos _) (by omega))
      have hy2 : ((y : Int) == 0) = false := beq_eq_false_iff_ne.2 (by omega)
      have hy3 : ((y : Int) != 0) = true := bne_iff_ne.2 (by omega)
      have ha := Rs.and1 y (by omega)
      by_cases hjz : j = z
      · subst hjz
        have ey : y = 2 * n + 1 := by rw [HY.out, Nat.sub_self, Nat.pow_zero, Nat.one_mul]
        rw [show y % 2 = 1 by omega] at ha
        have EY := Lib.hid ey
        clear ey HY HN
        go_wp2_with fail
        go_ret3
        rw [EY.out]
        exact ⟨rfl, rfl⟩
      · have ey : y = 2 * (2 ^ (z - (j + 1)) * (2 * n + 1)) := by
          rw [HY.out, show z - j = (z - (j + 1)) + 1 by omega, Nat.pow_succ, Nat.mul_comm (2 ^ (z - (j + 1))) 2, Nat.mul_assoc]
        rw [show y % 2 = 0 by omega] at ha
        have EY : Hid (y / 2 = 2 ^ (z - (j + 1)) * (2 * n + 1)) := by
          show y / 2 = _
          omega
        clear ey HY
        go_wp2_with fail
        go_round
        case rel => exact ⟨j + 1, y / 2, by go_num, by go_num, by omega, by omega, EY⟩
        case measure => simp [intOf]; omega
  · have em : 4503599627370496 + Re.fr b = Re.mag b := by unfold Re.mag; rw [if_neg h0]
    have h3 := Rt.or52 (Re.fr b) hf
    rw [em] at h3
    rw [if_neg h0] at hat
    rw [ho, ep, hat]
    clear em hat ep ho
    generalize Re.zeros b = z at hn hz ⊢
    generalize Re.mag b = m at hn hm0 hml h3
    generalize Re.neg b = s at hng ⊢
    generalize Re.fr b = f at h1 h3 hf
    generalize Re.ef b = k at h2 h0 hel ⊢
    have HN := Lib.hid hn
    clear hn
    have hk0 : ((k : Int) == 0) = false := beq_eq_false_iff_ne.2 (by omega)
    go_enter Tryz.func56, Tryz.ntmps56
    go_wp2_with fail
    go_loop [5, 6] (fun y v => ∃ j y' : Nat, y = .int .u64 (y' : Int) ∧ v = .int .i64 ((k : Int) - 1075 + (j : Int)) ∧ j ≤ z ∧ y' < 9007199254740992 ∧ Hid (y' = 2 ^ (z - j) * (2 * n + 1))) (fun y _ => (intOf y).toNat)
    case atStart => exact ⟨0, m, rfl, by go_num, by omega, hml, by rw [Nat.sub_zero]; exact HN.out⟩
    case round =>
      obtain ⟨j, y, rfl, rfl, hj, hy, HY⟩ := hrel
      have hy1 : ¬ y = 0 := by
        rw [HY.out]
        exact Nat.ne_of_gt (Nat.mul_pos (Nat.two_pow_pos _) (by omega))
      have hy2 : ((y : Int) == 0) = false := beq_eq_false_iff_ne.2 (by omega)
      have hy3 : ((y : Int) != 0) = true := bne_iff_ne.2 (by omega)
      have ha := Rs.and1 y (by omega)
      by_cases hjz : j = z
      · subst hjz
        have ey : y = 2 * n + 1 := by rw [HY.out, Nat.sub_self, Nat.pow_zero, Nat.one_mul]
        rw [show y % 2 = 1 by omega] at ha
        have EY := Lib.hid ey
        clear ey HY HN
        go_wp2_with fail
        go_ret3
        rw [EY.out]
        exact ⟨rfl, rfl⟩
      · have ey : y = 2 * (2 ^ (z - (j + 1)) * (2 * n + 1)) := by
          rw [HY.out, show z - j = (z - (j + 1)) + 1 by omega, Nat.pow_succ, Nat.mul_comm (2 ^ (z - (j + 1))) 2, Nat.mul_assoc]
        rw [show y % 2 = 0 by omega] at ha
        have EY : Hid (y / 2 = 2 ^ (z - (j + 1)) * (2 * n + 1)) := by
          show y / 2 = _
          omega
        clear ey HY
        go_wp2_with fail
        go_round
        case rel => exact ⟨j + 1, y / 2, by go_num, by go_num, by omega, by omega, EY⟩
        case measure => simp [intOf]; omega

theorem Rs.kind_of (b : Nat) (h : Re.ef b ≠ 2047) (h0 : Re.mag b ≠ 0) : Re.kind b = if Re.is b then 3 else 4 := by
  unfold Re.kind; rw [if_neg h, if_neg h0]

set_option maxRecDepth 100000 in
set_option maxHeartbeats 1000000 in
theorem Rs.real (b : Nat) (hb : b < 18446744073709551616) (w : World) :
    Calls Tryz.prog 31 #[.int .u64 (b : Int)] w fun e w' => e = .returned (.int .i64 (Re.kind b)) ∧ w' = w := by
  have h1 := Rt.and52 b hb
  have h2 := Rt.and11 b hb
  have hf := Re.fr_lt b
  have hel := Re.ef_lt b
  by_cases c0 : Re.ef b = 2047
  · by_cases c1 : Re.fr b = 0
    · have e0 : Re.kind b = 1 := by unfold Re.kind; rw [if_pos c0, if_pos c1]
      rw [e0]
      rw [c0] at h2
      rw [c1] at h1
      go_enter Tryz.func31, Tryz.ntmps31
      go_wp2_with fail
      go_ret
      exact ⟨rfl, rfl⟩
    · have e0 : Re.kind b = 0 := by unfold Re.kind; rw [if_pos c0, if_neg c1]
      rw [e0]
      rw [c0] at h2
      generalize Re.fr b = m at h1 c1 hf
      have c2 : ((m : Int) != 0) = true := bne_iff_ne.2 (by omega)
      go_enter Tryz.func31, Tryz.ntmps31
      go_wp2_with fail
      go_ret
      exact ⟨rfl, rfl⟩
  · by_cases c2 : Re.ef b = 0 ∧ Re.fr b = 0
    · obtain ⟨c2, c3⟩ := c2
      have e0 : Re.kind b = 2 := by unfold Re.kind Re.mag; rw [if_neg c0, if_pos c2, if_pos c3]
      rw [e0]
      rw [c2] at h2
      rw [c3] at h1
      go_enter Tryz.func31, Tryz.ntmps31
      go_wp2_with fail
      go_ret
      exact ⟨rfl, rfl⟩
    · have hm : Re.mag b ≠ 0 := by unfold Re.mag; split <;> omega
      have ho := Rs.kind_of b c0 hm
      have hs := Rs.walk b hb hm w
      have hol : Re.odd b < 9007199254740992 := Nat.lt_of_le_of_lt (Nat.div_le_self _ _) (Re.mag_lt b)
      have hi : ((Re.ef b : Int) == 2047) = false := beq_eq_false_iff_ne.2 (by omega)
      have hzz : (Re.ef b = 0 ∧ ((Re.fr b : Int) == 0) = false) ∨ ((Re.ef b : Int) == 0) = false := by
        by_cases q : Re.ef b = 0
        · have q2 : ¬ Re.fr b = 0 := fun h => c2 ⟨q, h⟩
          exact .inl ⟨q, beq_eq_false_iff_ne.2 (by omega)⟩
        · exact .inr (beq_eq_false_iff_ne.2 (by omega))
      cases his : Re.is b
      · rw [his, if_neg (by decide)] at ho
        have hor := Rs.other b hm his
        rw [ho]
        generalize Re.odd b = o at hs hor hol
        generalize Re.pow b = pw at hs hor
        generalize Re.neg b = s at hs
        generalize Re.fr b = f at h1 hf hzz c2
        generalize Re.ef b = e at h2 hel hi hzz c0 c2
        clear ho hm his c2
        rcases hor with hor | hor | ⟨p, rfl, hp, hlt⟩
        · have q1 : decide (0 ≤ pw) = false := decide_eq_false (by omega)
          rcases hzz with ⟨hz1, hz2⟩ | hz1
          · subst hz1
            go_enter Tryz.func31, Tryz.ntmps31
            go_wp2_with fail
            refine hs.mono ?_
            rintro e w1 ⟨rfl, rfl⟩
            go_wp2_with fail
            go_ret
            exact ⟨rfl, rfl⟩
          · go_enter Tryz.func31, Tryz.ntmps31
            go_wp2_with fail
            refine hs.mono ?_
            rintro e w1 ⟨rfl, rfl⟩
            go_wp2_with fail
            go_ret
            exact ⟨rfl, rfl⟩
        · have q1 : decide (0 ≤ pw) = true := decide_eq_true (by omega)
          have q2 : decide (pw ≤ 52) = false := decide_eq_false (by omega)
          rcases hzz with ⟨hz1, hz2⟩ | hz1
          · subst hz1
            go_enter Tryz.func31, Tryz.ntmps31
            go_wp2_with fail
            refine hs.mono ?_
            rintro e w1 ⟨rfl, rfl⟩
            go_wp2_with fail
            go_ret
            exact ⟨rfl, rfl⟩
          · go_enter Tryz.func31, Tryz.ntmps31
            go_wp2_with fail
            refine hs.mono ?_
            rintro e w1 ⟨rfl, rfl⟩
            go_wp2_with fail
            go_ret
            exact ⟨rfl, rfl⟩
        · have e1 : ((9007199254740991 / 2 ^ p : Nat) : Int) = (9007199254740991 : Int) / 2 ^ p := by simp
          have q3 : decide ((o : Int) ≤ (9007199254740991 : Int) / 2 ^ p) = false := decide_eq_false (by rw [← e1]; omega)
          clear e1 hlt
          rcases hzz with ⟨hz1, hz2⟩ | hz1
          · subst hz1
            go_enter Tryz.func31, Tryz.ntmps31
            go_wp2_with fail
            refine hs.mono ?_
            rintro e w1 ⟨rfl, rfl⟩
            go_wp2_with fail
            go_ret
            exact ⟨rfl, rfl⟩
          · go_enter Tryz.func31, Tryz.ntmps31
            go_wp2_with fail
            refine hs.mono ?_
            rintro e w1 ⟨rfl, rfl⟩
            go_wp2_with fail
            go_ret
            exact ⟨rfl, rfl⟩
      · rw [his, if_pos rfl] at ho
        obtain ⟨p, hpw, hp, hlt, _⟩ := Rs.whole b hm his
        rw [ho]
        rw [hpw] at hs
        generalize Re.odd b = o at hs hlt hol
        generalize Re.neg b = s at hs
        generalize Re.fr b = f at h1 hf hzz c2
        generalize Re.ef b = e at h2 hel hi hzz c0 c2
        clear ho hm his c2 hpw
        have e1 : ((9007199254740991 / 2 ^ p : Nat) : Int) = (9007199254740991 : Int) / 2 ^ p := by simp
        have q3 : decide ((o : Int) ≤ (9007199254740991 : Int) / 2 ^ p) = true := decide_eq_true (by rw [← e1]; omega)
        clear e1 hlt
        rcases hzz with ⟨hz1, hz2⟩ | hz1
        · subst hz1
          go_enter Tryz.func31, Tryz.ntmps31
          go_wp2_with fail
          refine hs.mono ?_
          rintro e w1 ⟨rfl, rfl⟩
          go_wp2_with fail
          go_ret
          exact ⟨rfl, rfl⟩
        · go_enter Tryz.func31, Tryz.ntmps31
          go_wp2_with fail
          refine hs.mono ?_
          rintro e w1 ⟨rfl, rfl⟩
          go_wp2_with fail
          go_ret
          exact ⟨rfl, rfl⟩
end Go.Proofs.YtboalkfagfgnpaaGreatDoor
