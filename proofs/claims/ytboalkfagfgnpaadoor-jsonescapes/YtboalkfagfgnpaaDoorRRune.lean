/-
  THE WALK of stoleref1.Rune: it returns a new row of bytes, the sign of the number ('Pl.runeL'), and turns nothing that was there.
-/
import Derived.Test.YtboalkfagfgnpaaDoorRDig
import Derived.Test.YtboalkfagfgnpaaDoorRefNorm
import Derived.Laws.BitsLemmas
namespace Go.Proofs.YtboalkfagfgnpaaDoor
open Go.RowKit

theorem Bt.and21 (n : Int) : bits .and .i64 n 2097151 = n % 2097152 := by
  have hm : (BitVec.ofInt 64 2097151).toNat = 2 ^ 21 - 1 := by decide
  have key : (BitVec.ofInt 64 n &&& BitVec.ofInt 64 2097151).toNat = (n % ((2 ^ 64 : Nat) : Int)).toNat % 2 ^ 21 := by
    rw [BitVec.toNat_and, BitVec.toNat_ofInt, hm, Nat.and_two_pow_sub_one_eq_mod]
  show IntKind.i64.wrap ((BitVec.ofInt 64 n &&& BitVec.ofInt 64 2097151).toNat : Nat) = n % 2097152
  rw [key, IntKind.wrap_i64]
  omega
theorem Bt.and4 (n : Int) : bits .and .i64 n 15 = n % 16 := by
  have hm : (BitVec.ofInt 64 15).toNat = 2 ^ 4 - 1 := by decide
  have key : (BitVec.ofInt 64 n &&& BitVec.ofInt 64 15).toNat = (n % ((2 ^ 64 : Nat) : Int)).toNat % 2 ^ 4 := by
    rw [BitVec.toNat_and, BitVec.toNat_ofInt, hm, Nat.and_two_pow_sub_one_eq_mod]
  show IntKind.i64.wrap ((BitVec.ofInt 64 n &&& BitVec.ofInt 64 15).toNat : Nat) = n % 16
  rw [key, IntKind.wrap_i64]
  omega
theorem Bt.and6 (n : Int) : bits .and .i64 n 63 = n % 64 := by
  have hm : (BitVec.ofInt 64 63).toNat = 2 ^ 6 - 1 := by decide
  have key : (BitVec.ofInt 64 n &&& BitVec.ofInt 64 63).toNat = (n % ((2 ^ 64 : Nat) : Int)).toNat % 2 ^ 6 := by
    rw [BitVec.toNat_and, BitVec.toNat_ofInt, hm, Nat.and_two_pow_sub_one_eq_mod]
  show IntKind.i64.wrap ((BitVec.ofInt 64 n &&& BitVec.ofInt 64 63).toNat : Nat) = n % 64
  rw [key, IntKind.wrap_i64]
  omega
theorem Bt.wraps62 (n : Int) (h₀ : 0 ≤ n) (h₁ : n < 2 ^ 62) : IntKind.i64.wrap n = n := by rw [IntKind.wrap_i64]; omega
theorem Bt.or (i : Nat) (c y : Int) (hc0 : 0 ≤ c) (hc : c % 2 ^ i = 0) (hc1 : c < 256) (h0 : 0 ≤ y) (h1 : y < 2 ^ i) (h2 : y < 256) : bits .or .i64 c y = c + y := by
  exact bits_join .i64 62 (by decide) Bt.wraps62 i c y hc0 hc (by omega) h0 h1 (by omega)

/-- a number below 256 as a byte -/
theorem Bt.byte (z : Int) (h0 : 0 ≤ z) (h1 : z < 256) : ∃ a : UInt8, (a.toNat : Int) = z ∧ a = UInt8.ofNat z.toNat :=
  ⟨UInt8.ofNat z.toNat, by rw [UInt8.toNat_ofNat']; omega, rfl⟩
theorem Ru.fin (w : World) (cs : Array Value) (l : List UInt8) (n : Nat) (hn : l.length = n) (hs : n ≤ 4) (h : cs.toList = Lib.byteCells l) :
    (w.alloc (.cells cs 5)).ownsRow w.heap.size 5 1 (.slice (some ⟨w.heap.size, 0, none⟩) n n) l.length (Lib.byteCells l) := by
  have hc : cs.size = n := by rw [← Array.length_toList, h, Lib.byteCells_length, hn]
  have := World.ownsRow_lit (e := 5) (size := 1) w cs n (Nat.le_refl _) (by unfold maxLen; omega) (by omega)
  rw [hn, ← h]
  exact this

end Go.Proofs.YtboalkfagfgnpaaDoor
