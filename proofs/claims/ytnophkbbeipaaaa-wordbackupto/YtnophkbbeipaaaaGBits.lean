/-
  Low bits of an int; texts put together; a byte of a text cut out.
-/
import Derived.Test.YtnophkbbeipaaaaGKit
namespace Go.Proofs.Ytnophkbbeipaaaa
open Go.RowKit
theorem Lb.and (n : Nat) (hn : n ≤ 62) (x : Int) : Go.bits .and .i64 x ((2 ^ n - 1 : Nat) : Int) = x % ((2 ^ n : Nat) : Int) := by
  have h2 : 2 ^ n ≤ 2 ^ 62 := Nat.pow_le_pow_right (by decide) hn
  have h1 : 0 < 2 ^ n := Nat.two_pow_pos n
  have hm : (BitVec.ofInt 64 ((2 ^ n - 1 : Nat) : Int)).toNat = 2 ^ n - 1 := by
    rw [BitVec.ofInt_natCast, BitVec.toNat_ofNat, Nat.mod_eq_of_lt]
    omega
  have key : (BitVec.ofInt 64 x &&& BitVec.ofInt 64 ((2 ^ n - 1 : Nat) : Int)).toNat = (x % ((2 ^ 64 : Nat) : Int)).toNat % 2 ^ n := by
    rw [BitVec.toNat_and, BitVec.toNat_ofInt, hm, Nat.and_two_pow_sub_one_eq_mod]
  show IntKind.i64.wrap ((BitVec.ofInt 64 x &&& BitVec.ofInt 64 ((2 ^ n - 1 : Nat) : Int)).toNat : Nat) = _
  have hlt : (x % ((2 ^ 64 : Nat) : Int)).toNat % 2 ^ n < 2 ^ n := Nat.mod_lt _ h1
  have hdvd : ((2 ^ n : Nat) : Int) ∣ ((2 ^ 64 : Nat) : Int) := Int.natCast_dvd_natCast.2 (Nat.pow_dvd_pow 2 (by omega))
  rw [key, IntKind.wrap_i64]
  have e : (((x % ((2 ^ 64 : Nat) : Int)).toNat % 2 ^ n : Nat) : Int) = x % ((2 ^ n : Nat) : Int) := by
    rw [Int.natCast_emod, Int.toNat_of_nonneg (Int.emod_nonneg _ (by decide)), Int.emod_emod_of_dvd _ hdvd]
  rw [e]
  have h3 := Int.emod_lt_of_pos x (b := ((2 ^ n : Nat) : Int)) (by omega)
  have h4 := Int.emod_nonneg x (b := ((2 ^ n : Nat) : Int)) (by omega)
  omega
theorem Lb.and3 (x : Int) : Go.bits .and .i64 x 3 = x % 4 := Lb.and 2 (by decide) x
theorem Lb.and7 (x : Int) : Go.bits .and .i64 x 7 = x % 8 := Lb.and 3 (by decide) x
theorem Lf.cut1 (s : ByteArray) (i : Nat) (h : i < s.size) : ∃ p : ByteArray, (∀ u : World, (Instr.slice 9 (.string s) (some (.int .i64 (i : Int))) (some (.int .i64 ((i : Int) + 1))) none).run Try.prog u = .ok (.string p) u) ∧ p.data.toList = [s[i]] ∧ p.size = 1 := by
  have hd : (s.extract i (i + 1)).data.toList = [s[i]] := by
    rw [Wk.part_data, Rl.drop s i h]
    rfl
  refine ⟨s.extract i (i + 1), fun u => ?_, hd, by rw [← Wk.len_data, hd]; rfl⟩
  have h := Wk.run_cut u s (i : Int) ((i : Int) + 1) (by omega) (by omega) (by omega)
  rw [show ((i : Int) + 1).toNat = i + 1 by omega, Int.toNat_natCast] at h
  exact h
theorem Lf.append (a b : ByteArray) : (a ++ b).data.toList = a.data.toList ++ b.data.toList := by rw [ByteArray.data_append, Array.toList_append]
end Go.Proofs.Ytnophkbbeipaaaa
