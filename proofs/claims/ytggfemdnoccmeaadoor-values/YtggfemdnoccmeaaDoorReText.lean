/-
  THE WALKS of the program's oddAndPower and real.Text.
-/
import Derived.Test.YtggfemdnoccmeaaDoorReFmt
namespace Go.Proofs.YtggfemdnoccmeaaDoor
open Go.RowKit

theorem Rt.and52 (b : Nat) (hb : b < 18446744073709551616) : Go.bits .and .u64 (b : Int) 4503599627370495 = ((Re.fr b : Nat) : Int) := by
  have h := bits_and_u64_nat b 4503599627370495 hb (by omega)
  rw [show (4503599627370495 : Nat) = 2 ^ 52 - 1 by decide, Nat.and_two_pow_sub_one_eq_mod] at h
  exact h
theorem Rt.and11 (b : Nat) (hb : b < 18446744073709551616) : Go.bits .and .u64 ((b : Int) / 4503599627370496) 2047 = ((Re.ef b : Nat) : Int) := by
  have h := bits_and_u64_nat (b / 4503599627370496) 2047 (by omega) (by omega)
  rw [show (2047 : Nat) = 2 ^ 11 - 1 by decide, Nat.and_two_pow_sub_one_eq_mod] at h
  exact h
theorem Rt.or52 (m : Nat) (hm : m < 4503599627370496) : Go.bits .or .u64 (m : Int) 4503599627370496 = ((4503599627370496 + m : Nat) : Int) := by
  have h := bits_or_u64_nat m 4503599627370496 (by omega) (by omega)
  have e := Nat.two_pow_add_eq_or_of_lt (i := 52) (b := m) (by omega) 1
  rw [Nat.or_comm, show (4503599627370496 : Nat) = 2 ^ 52 * 1 by decide, ← e] at h
  exact h

set_option maxRecDepth 100000 in
theorem Rt.odd (b : Nat) (hb : b < 18446744073709551616) (hm0 : Re.mag b ≠ 0) (he : Re.ef b ≠ 2047) (w : World) (h : Re.Tabs w) :
    Calls Tryd.prog 46 #[.int .u64 (b : Int)] w fun e w' => e = .returned (.tuple #[.int .u64 (Re.odd b), .int .i64 (Re.pow b)]) ∧ w' = w := by
  have h1 := Rt.and52 b hb
  have h2 := Rt.and11 b hb
  have hf := Re.fr_lt b
  have hel := Re.ef_lt b
  have hml := Re.mag_lt b
  have hz := Rf.tz (Re.mag b) (by omega) hm0 w h
  have hz64 := (Lib.lowest_bit 64 (Re.mag b) hm0 (by omega)).2
  have eo : Re.odd b = Re.mag b / 2 ^ Lib.ctz 64 (Re.mag b) := rfl
  have ep : Re.pow b = Re.at b + Lib.ctz 64 (Re.mag b) := rfl
  rw [eo, ep]
  clear eo ep
  by_cases h0 : Re.ef b = 0
  · have em : Re.fr b = Re.mag b := by unfold Re.mag; rw [if_pos h0]
    have ea : Re.at b = -1074 := by unfold Re.at; rw [if_pos h0]
    rw [h0] at h2
    rw [em] at h1
    rw [ea]
    clear em ea hf h0 hel he h
    generalize Lib.ctz 64 (Re.mag b) = z at hz hz64 ⊢
    generalize Re.mag b = m at hz hm0 hml h1 ⊢
    go_enter Tryd.func46, Tryd.ntmps46
    go_wp2_with fail
    refine hz.mono ?_
    rintro e w' ⟨rfl, rfl⟩
    go_wp2_with fail
    go_ret2
    exact ⟨rfl, rfl⟩
  · have em : 4503599627370496 + Re.fr b = Re.mag b := by unfold Re.mag; rw [if_neg h0]
    have ea : Re.at b = -1074 + ((Re.ef b : Int) - 1) := by unfold Re.at; rw [if_neg h0]; omega
    have h3 := Rt.or52 (Re.fr b) hf
    rw [em] at h3
    rw [ea]
    generalize Lib.ctz 64 (Re.mag b) = z at hz hz64 ⊢
    clear ea em h
    generalize Re.mag b = m at hz hm0 hml h3 ⊢
    generalize Re.fr b = f at h1 h3 hf
    generalize Re.ef b = k at h2 h0 he hel ⊢
    have hk : decide (0 < (k : Int)) = true := decide_eq_true (by omega)
    go_enter Tryd.func46, Tryd.ntmps46
    go_wp2_with fail
    refine hz.mono ?_
    rintro e w' ⟨rfl, rfl⟩
    go_wp2_with fail
    go_ret2
    exact ⟨rfl, rfl⟩

theorem Rt.step {w wr w1 : World} (h : Below w.heap.size w wr) (h1 : Below wr.heap.size wr w1) : Below w.heap.size w w1 := h.trans (h1.mono h.size)
theorem Rt.cat (a b : List UInt8) : (⟨a.toArray⟩ : ByteArray) ++ ⟨b.toArray⟩ = ⟨(a ++ b).toArray⟩ := by
  apply ByteArray.ext
  simp
theorem Rt.size (a : List UInt8) : (⟨a.toArray⟩ : ByteArray).size = a.length := by simp [ByteArray.size]
theorem Rt.sign_le (b : Nat) : (Re.sign b).length ≤ 1 := by unfold Re.sign; split <;> simp
theorem Rt.dec_le (u : Nat) (h : u < 18446744073709551616) : (Lib.decDigits u).length ≤ 20 := by
  rw [Lib.decDigits_length]
  by_cases h0 : u = 0
  · subst h0; rw [Lib.nDigits_small (by omega)]; omega
  · have := Lib.numDigits_eq u (by omega) h; split at this <;> omega
theorem Rt.itoa_le (n : Int) (h0 : -9007199254740992 ≤ n) (h1 : n ≤ 9007199254740992) : (Lib.itoa n).length ≤ 21 := by
  unfold Lib.itoa
  split
  · have := Rt.dec_le n.natAbs (by omega); simp; omega
  · have := Rt.dec_le n.toNat (by omega); omega
theorem Rt.whole_le (b : Nat) : -9007199254740992 ≤ Re.whole b ∧ Re.whole b ≤ 9007199254740992 := by
  have := Re.abs_lt b
  unfold Re.whole
  split
  · cases Re.neg b <;> simp [Re.sgn] <;> omega
  · omega
theorem Rt.pow_le (b : Nat) (hm0 : Re.mag b ≠ 0) : -9007199254740992 ≤ Re.pow b ∧ Re.pow b ≤ 9007199254740992 := by
  have h := Re.mag_lt b
  have hz := (Lib.lowest_bit 64 (Re.mag b) hm0 (by omega)).2
  have hel := Re.ef_lt b
  unfold Re.pow Re.at Re.zeros
  split <;> omega
theorem Rt.odd_lt (b : Nat) : Re.odd b < 18446744073709551616 := by
  have h := Re.mag_lt b
  have := Nat.div_le_self (Re.mag b) (2 ^ Re.zeros b)
  unfold Re.odd; omega
theorem Rt.kind_le (b : Nat) : Re.kind b ≤ 4 := by
  unfold Re.kind
  split
  · split <;> omega
  · split
    · omega
    · split <;> omega
theorem Rt.kind4 (b : Nat) (h : Re.kind b = 4) : Re.mag b ≠ 0 ∧ Re.ef b ≠ 2047 := by
  unfold Re.kind at h
  by_cases h1 : Re.ef b = 2047
  · rw [if_pos h1] at h; split at h <;> omega
  · rw [if_neg h1] at h
    refine ⟨fun h2 => ?_, h1⟩
    rw [if_pos h2] at h; omega

set_option maxRecDepth 100000 in
theorem Rt.text (b : Nat) (hb : b < 18446744073709551616) (w : World) (h : Re.Tabs w) :
    Calls Tryd.prog 25 #[.int .u64 (b : Int)] w fun e w' => e = .returned (.string ⟨(Re.text b).toArray⟩) ∧ Below w.heap.size w w' := by
  have hk := Rk.kind b hb w
  have hs := Rk.sign b hb
  have hle := Rt.sign_le b
  have ht : Re.text b = match Re.kind b with
    | 0 => [78, 97, 78]
    | 1 => Re.sign b ++ [73, 110, 102, 105, 110, 105, 116, 121]
    | 2 => Re.sign b ++ [48]
    | 3 => Lib.itoa (Re.whole b)
    | _ => Re.sign b ++ Lib.decDigits (Re.odd b) ++ [112] ++ Lib.itoa (Re.pow b) := rfl
  rw [ht]
  clear ht
  obtain ⟨S, hS⟩ : ∃ S : ByteArray, S = ⟨(Re.sign b).toArray⟩ := ⟨_, rfl⟩
  have hSz : S.size ≤ 1 := by rw [hS, Rt.size]; exact hle
  rw [← hS] at hs
  have HS := Lib.hid hS
  clear hS hle
  match hkb : Re.kind b with
  | 0 =>
    rw [hkb] at hk
    go_enter Tryd.func25, Tryd.ntmps25
    go_wp2_with fail
    refine hk.mono ?_
    rintro e w1 ⟨rfl, rfl⟩
    go_wp2_with fail
    go_ret
    exact ⟨rfl, Below.refl _ _⟩
  | 1 =>
    rw [hkb] at hk
    go_enter Tryd.func25, Tryd.ntmps25
    go_wp2_with fail
    refine hk.mono ?_
    rintro e w1 ⟨rfl, rfl⟩
    go_wp2_with fail
    refine (hs _).mono ?_
    rintro e w1 ⟨rfl, rfl⟩
    go_wp2_with fail
    go_ret
    refine ⟨?_, Below.refl _ _⟩
    have e := Rt.cat (Re.sign b) [73, 110, 102, 105, 110, 105, 116, 121]
    rw [← HS.out] at e
    rw [← e]
    rfl
  | 2 =>
    rw [hkb] at hk
    go_enter Tryd.func25, Tryd.ntmps25
    go_wp2_with fail
    refine hk.mono ?_
    rintro e w1 ⟨rfl, rfl⟩
    go_wp2_with fail
    refine (hs _).mono ?_
    rintro e w1 ⟨rfl, rfl⟩
    go_wp2_with fail
    go_ret
    refine ⟨?_, Below.refl _ _⟩
    have e := Rt.cat (Re.sign b) [48]
    rw [← HS.out] at e
    rw [← e]
    rfl
  | 3 =>
    rw [hkb] at hk
    have hw := Rk.whole b hb w
    have hi := Rf.itoa (Re.whole b) (by have := (Rt.whole_le b).1; omega) (by have := (Rt.whole_le b).2; omega) w h
    go_enter Tryd.func25, Tryd.ntmps25
    go_wp2_with fail
    refine hk.mono ?_
    rintro e w1 ⟨rfl, rfl⟩
    go_wp2_with fail
    refine hw.mono ?_
    rintro e w1 ⟨rfl, rfl⟩
    go_wp2_with fail
    refine hi.mono ?_
    rintro e w1 ⟨rfl, b1⟩
    go_wp2_with fail
    go_ret
    exact ⟨rfl, b1⟩
  | 4 =>
    rw [hkb] at hk
    obtain ⟨hm0, he⟩ := Rt.kind4 b hkb
    have ho := Rt.odd b hb hm0 he w h
    have hf := Rf.formatUint (Re.odd b) (Rt.odd_lt b) w h
    have hpl := Rt.pow_le b hm0
    have hi := fun w h => Rf.itoa (Re.pow b) (by omega) (by omega) w h
    have hdl := Rt.dec_le _ (Rt.odd_lt b)
    have hil := Rt.itoa_le _ hpl.1 hpl.2
    obtain ⟨D, hD⟩ : ∃ S : ByteArray, S = ⟨(Lib.decDigits (Re.odd b)).toArray⟩ := ⟨_, rfl⟩
    have hDz : D.size ≤ 20 := by rw [hD, Rt.size]; exact hdl
    rw [← hD] at hf
    obtain ⟨I, hI⟩ : ∃ S : ByteArray, S = ⟨(Lib.itoa (Re.pow b)).toArray⟩ := ⟨_, rfl⟩
    have hIz : I.size ≤ 21 := by rw [hI, Rt.size]; exact hil
    rw [← hI] at hi
    have HD := Lib.hid hD
    have HI := Lib.hid hI
    clear hD hI hdl hil hpl hkb he hm0
    go_enter Tryd.func25, Tryd.ntmps25
    go_wp2_with fail
    refine hk.mono ?_
    rintro e w1 ⟨rfl, rfl⟩
    go_wp2_with fail
    refine ho.mono ?_
    rintro e w1 ⟨rfl, rfl⟩
    go_wp2_with fail
    refine (hs _).mono ?_
    rintro e w1 ⟨rfl, rfl⟩
    go_wp2_with fail
    refine hf.mono ?_
    rintro e w2 ⟨rfl, b1⟩
    have h2 := h.on b1
    obtain ⟨A, eA⟩ : ∃ v : ByteArray, S ++ D = v := ⟨_, rfl⟩
    have zA : A.size ≤ 21 := by rw [← eA, ByteArray.size_append]; omega
    obtain ⟨B, eB⟩ : ∃ v : ByteArray, A ++ ⟨#[112]⟩ = v := ⟨_, rfl⟩
    have zB : B.size ≤ 22 := by rw [← eB, ByteArray.size_append]; have : (⟨#[112]⟩ : ByteArray).size = 1 := rfl; omega
    go_wp2_with fail
    refine (hi _ h2).mono ?_
    rintro e w3 ⟨rfl, b3⟩
    go_wp2_with fail
    go_ret
    refine ⟨?_, Rt.step b1 b3⟩
    have e1 := Rt.cat (Re.sign b) (Lib.decDigits (Re.odd b))
    have e2 := Rt.cat (Re.sign b ++ Lib.decDigits (Re.odd b)) [112]
    have e3 := Rt.cat (Re.sign b ++ Lib.decDigits (Re.odd b) ++ [112]) (Lib.itoa (Re.pow b))
    rw [← e2, ← e1, ← HS.out, ← HD.out, ← HI.out, eA] at e3
    rw [← e3, ← eB]
    rfl
  | n + 5 =>
    have := Rt.kind_le b
    omega
end Go.Proofs.YtggfemdnoccmeaaDoor
