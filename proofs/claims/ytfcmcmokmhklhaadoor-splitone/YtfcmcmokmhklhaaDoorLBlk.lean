/-
  THE WALK of stolelaw13.blanks.
-/
import Derived.Test.YtfcmcmokmhklhaaDoorLLaw1
namespace Go.Proofs.YtfcmcmokmhklhaaDoor
open Go.RowKit
theorem Lb.and (n : Nat) (hn : n ≤ 62) (x : Int) : Go.bits .and .i64 x ((2 ^ n - 1 : Nat) : Int) = x % ((2 ^ n : Nat) : Int) := by
  have h2 : 2 ^ n ≤ 2 ^ 62 := Nat.pow_le_pow_right (by decide) hn
  have h1 : 0 < 2 ^ n := Nat.two_pow_pos n
  have hm : (BitVec.ofInt 64 ((2 ^ n - 1 : Nat) : Int)).toNat = 2 ^ n - 1 := by
    rw [BitVec.ofInt_natCast, BitVec.toNat_ofNat, Nat.mod_eq_of_lt]
    omega
  have key : (BitVec.ofInt 64 x &&& BitVec.ofInt 64 ((2 ^ n - 1 : Nat) : Int)).toNat = (x % ((2 ^ 64 : Nat) : Int)).toNat % 2 ^ n := by
    rw [BitVec.toNat_and, BitVec.toNat_ofInt, hm, Nat.and_two_pow_sub_one_eq_mod]
  show IntKind.i64.wrap ((BitVec.ofInt 64 x &&& BitVec.ofInt 64 ((2 ^ n - 1 : Nat) : Int)).toNat : Nat) = _
  have hlt : (x % ((2 ^ 64 : Nat) : Int)).toNat % 2 ^ n < 2 ^ n := Nat.mod_lt _ h1
  have hdvd : ((2 ^ n : Nat) : Int) ∣ ((2 ^ 64 : Nat) : Int) := Int.natCast_dvd_natCast.2 (Nat.pow_dvd_pow 2 (by omega))
  rw [key, IntKind.wrap_i64]
  have e : (((x % ((2 ^ 64 : Nat) : Int)).toNat % 2 ^ n : Nat) : Int) = x % ((2 ^ n : Nat) : Int) := by
    rw [Int.natCast_emod, Int.toNat_of_nonneg (Int.emod_nonneg _ (by decide)), Int.emod_emod_of_dvd _ hdvd]
  rw [e]
  have h3 := Int.emod_lt_of_pos x (b := ((2 ^ n : Nat) : Int)) (by omega)
  have h4 := Int.emod_nonneg x (b := ((2 ^ n : Nat) : Int)) (by omega)
  omega
theorem Lb.and3 (x : Int) : Go.bits .and .i64 x 3 = x % 4 := Lb.and 2 (by decide) x
theorem Lb.and7 (x : Int) : Go.bits .and .i64 x 7 = x % 8 := Lb.and 3 (by decide) x
set_option maxRecDepth 100000 in
set_option maxHeartbeats 2000000 in
theorem Lb.blanks (x : Int) (w : World) : Calls Tryd.prog 13 #[.int .i64 x] w fun e w' => ∃ B : ByteArray, e = .returned (.string B) ∧ B.size ≤ 14 ∧ (∀ c ∈ B.data.toList, Lx.blank c = true) ∧ Below w.heap.size w w' := by
  have a3 := fun y => Lb.and3 y
  have a7 := Lb.and7 x
  obtain ⟨m, hm, hm7⟩ : ∃ m : Nat, x % 8 = (m : Int) ∧ m ≤ 7 := ⟨(x % 8).toNat, by omega, by omega⟩
  rw [hm] at a7
  clear hm
  go_enter Tryd.func13, Tryd.ntmps13
  go_wp2_with fail
  go_loopw [3, 4] (fun sv iv wr => ∃ (B : ByteArray) (i : Nat), sv = .string B ∧ iv = .int .i64 (i : Int) ∧ i ≤ m ∧ B.size ≤ 2 * i ∧ Hid (∀ c ∈ B.data.toList, Lx.blank c = true) ∧ Hid (Below w.heap.size w wr)) (fun _ iv _ => m - (intOf iv).toNat)
  case atStart => exact ⟨⟨#[]⟩, 0, rfl, rfl, Nat.zero_le _, Nat.le_refl _, fun c hc => by simp at hc, Below.refl _ _⟩
  case round =>
    obtain ⟨B, i, rfl, rfl, hi, zB, HC, HB⟩ := hrel
    by_cases hlt : i < m
    · have d1 : decide ((i : Int) < (m : Int)) = true := decide_eq_true (by omega)
      have hq : x / 2 ^ (3 + 2 * i) % 4 = 0 ∨ x / 2 ^ (3 + 2 * i) % 4 = 1 ∨ x / 2 ^ (3 + 2 * i) % 4 = 2 ∨ x / 2 ^ (3 + 2 * i) % 4 = 3 := by omega
      rcases hq with hq | hq | hq | hq
      · have z2 : (B ++ ⟨#[32]⟩).size = B.size + 1 := by rw [ByteArray.size_append]; rfl
        have HC2 : Hid (∀ c ∈ (B ++ ⟨#[32]⟩).data.toList, Lx.blank c = true) := fun c hc => by
          rw [Lf.append] at hc
          rcases List.mem_append.1 hc with hc | hc
          · exact HC.out c hc
          · have : c ∈ ([32] : List UInt8) := hc
            simp at this
            rw [this]
            rfl
        go_wp2_with fail
        go_roundw
        case rel => exact ⟨B ++ ⟨#[32]⟩, i + 1, rfl, by go_num, by omega, by omega, HC2, HB.out.alloc HB.out.size _⟩
        case measure => simp [intOf]; omega
      · have z2 : (B ++ ⟨#[10]⟩).size = B.size + 1 := by rw [ByteArray.size_append]; rfl
        have HC2 : Hid (∀ c ∈ (B ++ ⟨#[10]⟩).data.toList, Lx.blank c = true) := fun c hc => by
          rw [Lf.append] at hc
          rcases List.mem_append.1 hc with hc | hc
          · exact HC.out c hc
          · have : c ∈ ([10] : List UInt8) := hc
            simp at this
            rw [this]
            rfl
        go_wp2_with fail
        go_roundw
        case rel => exact ⟨B ++ ⟨#[10]⟩, i + 1, rfl, by go_num, by omega, by omega, HC2, HB.out.alloc HB.out.size _⟩
        case measure => simp [intOf]; omega
      · have z2 : (B ++ ⟨#[9]⟩).size = B.size + 1 := by rw [ByteArray.size_append]; rfl
        have HC2 : Hid (∀ c ∈ (B ++ ⟨#[9]⟩).data.toList, Lx.blank c = true) := fun c hc => by
          rw [Lf.append] at hc
          rcases List.mem_append.1 hc with hc | hc
          · exact HC.out c hc
          · have : c ∈ ([9] : List UInt8) := hc
            simp at this
            rw [this]
            rfl
        go_wp2_with fail
        go_roundw
        case rel => exact ⟨B ++ ⟨#[9]⟩, i + 1, rfl, by go_num, by omega, by omega, HC2, HB.out.alloc HB.out.size _⟩
        case measure => simp [intOf]; omega
      · have z2 : (B ++ ⟨#[32, 32]⟩).size = B.size + 2 := by rw [ByteArray.size_append]; rfl
        have HC2 : Hid (∀ c ∈ (B ++ ⟨#[32, 32]⟩).data.toList, Lx.blank c = true) := fun c hc => by
          rw [Lf.append] at hc
          rcases List.mem_append.1 hc with hc | hc
          · exact HC.out c hc
          · have : c ∈ ([32, 32] : List UInt8) := hc
            simp at this
            rw [this]
            rfl
        go_wp2_with fail
        go_roundw
        case rel => exact ⟨B ++ ⟨#[32, 32]⟩, i + 1, rfl, by go_num, by omega, by omega, HC2, HB.out.alloc HB.out.size _⟩
        case measure => simp [intOf]; omega
    · have d1 : decide ((i : Int) < (m : Int)) = false := decide_eq_false (by omega)
      go_wp2_with fail
      go_ret
      exact ⟨B, rfl, by omega, HC.out, HB.out⟩
end Go.Proofs.YtfcmcmokmhklhaaDoor
