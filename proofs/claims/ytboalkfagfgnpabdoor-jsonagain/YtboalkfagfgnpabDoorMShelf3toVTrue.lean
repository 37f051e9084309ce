/-
  The library's contracts that the walks lean on, laid at this program's own numbers: strconv.Itoa, and what internal/strconv.FormatUint calls.
-/
import Derived.Shelf.Strconv.Itoa3
import Derived.Test.YtboalkfagfgnpabDoorProg
import Derived.Test.YtboalkfagfgnpabDoorMVForm6toReNum
import Derived.Laws.Bits64b
import Derived.Lib.AppendIntMem
import Derived.BigCall
import Derived.BigGuard
namespace Go.Proofs.YtboalkfagfgnpabDoor
open Go.Shelf
def Sh.laysM171_ren : Go.Shelf.Ren := ⟨fun | 171 => 27 | 243 => 45 | 246 => 60 | 283 => 77 | 284 => 78 | 285 => 79 | 286 => 80 | 129 => 89 | 317 => 88 | 318 => 90 | 319 => 91 | 320 => 92 | 337 => 96 | 338 => 83 | n => n, fun | 3 => 3 | 9 => 9 | 2 => 2 | 4 => 4 | 171 => 101 | 0 => 0 | 53 => 23 | 37 => 41 | 5 => 5 | 173 => 103 | 212 => 109 | 51 => 106 | 20 => 20 | 213 => 110 | 46 => 96 | 232 => 118 | 233 => 114 | n => n, fun | 17 => 3 | 18 => 6 | 19 => 4 | n => n⟩
theorem Sh.laysM171 : Go.Proofs.LaysM.n171 Tryd.prog Sh.laysM171_ren := {
  mixed := by kernel_rfl
  f129 := Tryd.func89.trans (congrArg some (by kernel_rfl))
  f171 := Tryd.func27.trans (congrArg some (by kernel_rfl))
  f243 := Tryd.func45.trans (congrArg some (by kernel_rfl))
  f246 := Tryd.func60.trans (congrArg some (by kernel_rfl))
  f283 := Tryd.func77.trans (congrArg some (by kernel_rfl))
  f284 := Tryd.func78.trans (congrArg some (by kernel_rfl))
  f285 := Tryd.func79.trans (congrArg some (by kernel_rfl))
  f286 := Tryd.func80.trans (congrArg some (by kernel_rfl))
  f317 := Tryd.func88.trans (congrArg some (by kernel_rfl))
  f318 := Tryd.func90.trans (congrArg some (by kernel_rfl))
  f319 := Tryd.func91.trans (congrArg some (by kernel_rfl))
  f320 := Tryd.func92.trans (congrArg some (by kernel_rfl))
  f337 := Tryd.func96.trans (congrArg some (by kernel_rfl))
  f338 := Tryd.func83.trans (congrArg some (by kernel_rfl))
  t0 := Tryd.underlying0
  a0 := Tryd.isAgg0
  z0 := Tryd.sizeOf0
  v0 := Tryd.zeroValue0
  t2 := Tryd.underlying2
  a2 := Tryd.isAgg2
  z2 := Tryd.sizeOf2
  v2 := Tryd.zeroValue2
  t3 := Tryd.underlying3
  a3 := Tryd.isAgg3
  z3 := Tryd.sizeOf3
  v3 := Tryd.zeroValue3
  t4 := Tryd.underlying4
  a4 := Tryd.isAgg4
  z4 := Tryd.sizeOf4
  v4 := Tryd.zeroValue4
  t5 := Tryd.underlying5
  a5 := Tryd.isAgg5
  z5 := Tryd.sizeOf5
  v5 := Tryd.zeroValue5
  t9 := Tryd.underlying9
  a9 := Tryd.isAgg9
  z9 := Tryd.sizeOf9
  v9 := Tryd.zeroValue9
  t20 := Tryd.underlying20
  a20 := Tryd.isAgg20
  z20 := Tryd.sizeOf20
  v20 := Tryd.zeroValue20
  t37 := Tryd.underlying41
  a37 := Tryd.isAgg41
  z37 := Tryd.sizeOf41
  v37 := Tryd.zeroValue41
  t46 := Tryd.underlying96
  a46 := Tryd.isAgg96
  z46 := Tryd.sizeOf96
  v46 := Tryd.zeroValue96
  t51 := Tryd.underlying106
  a51 := Tryd.isAgg106
  z51 := Tryd.sizeOf106
  v51 := Tryd.zeroValue106
  t53 := Tryd.underlying23
  a53 := Tryd.isAgg23
  z53 := Tryd.sizeOf23
  v53 := Tryd.zeroValue23
  t171 := Tryd.underlying101
  a171 := Tryd.isAgg101
  z171 := Tryd.sizeOf101
  v171 := Tryd.zeroValue101
  t173 := Tryd.underlying103
  a173 := Tryd.isAgg103
  z173 := Tryd.sizeOf103
  v173 := Tryd.zeroValue103
  t212 := Tryd.underlying109
  a212 := Tryd.isAgg109
  z212 := Tryd.sizeOf109
  v212 := Tryd.zeroValue109
  t213 := Tryd.underlying110
  a213 := Tryd.isAgg110
  z213 := Tryd.sizeOf110
  t232 := Tryd.underlying118
  a232 := Tryd.isAgg118
  z232 := Tryd.sizeOf118
  v232 := Tryd.zeroValue118
  t233 := Tryd.underlying114
  a233 := Tryd.isAgg114
  z233 := Tryd.sizeOf114
  v233 := Tryd.zeroValue114
  g17 := by kernel_rfl
  g18 := by kernel_rfl
  g19 := by kernel_rfl
  i0 := by kernel_rfl
  i2 := by kernel_rfl
  i3 := by kernel_rfl
  i4 := by kernel_rfl
  i5 := by kernel_rfl
  i9 := by kernel_rfl
  i20 := by kernel_rfl
  i37 := by kernel_rfl
  i46 := by kernel_rfl
  i51 := by kernel_rfl
  i53 := by kernel_rfl
  i171 := by kernel_rfl
  i173 := by kernel_rfl
  i212 := by kernel_rfl
  i232 := by kernel_rfl
  i233 := by kernel_rfl
  m17 := by kernel_rfl
  m18 := by kernel_rfl
  m19 := by kernel_rfl }
def Sh.lays283_ren : Go.Shelf.Ren := ⟨fun | 283 => 77 | n => n, fun | 3 => 3 | 9 => 9 | 4 => 4 | n => n, fun | n => n⟩
theorem Sh.lays283 : Go.Proofs.Lays.n283 Tryd.prog Sh.lays283_ren := {
  mixed := by kernel_rfl
  f283 := Tryd.func77.trans (congrArg some (by kernel_rfl))
  t3 := Tryd.underlying3
  a3 := Tryd.isAgg3
  z3 := Tryd.sizeOf3
  v3 := Tryd.zeroValue3
  t4 := Tryd.underlying4
  a4 := Tryd.isAgg4
  z4 := Tryd.sizeOf4
  v4 := Tryd.zeroValue4
  t9 := Tryd.underlying9
  a9 := Tryd.isAgg9
  z9 := Tryd.sizeOf9
  v9 := Tryd.zeroValue9 }
def Sh.laysM284_ren : Go.Shelf.Ren := ⟨fun | 284 => 78 | 129 => 89 | 317 => 88 | 318 => 90 | n => n, fun | 53 => 23 | 3 => 3 | 212 => 109 | 0 => 0 | 4 => 4 | 46 => 96 | 5 => 5 | 9 => 9 | n => n, fun | 17 => 3 | n => n⟩
theorem Sh.laysM284 : Go.Proofs.LaysM.n284 Tryd.prog Sh.laysM284_ren := {
  mixed := by kernel_rfl
  f129 := Tryd.func89.trans (congrArg some (by kernel_rfl))
  f284 := Tryd.func78.trans (congrArg some (by kernel_rfl))
  f317 := Tryd.func88.trans (congrArg some (by kernel_rfl))
  f318 := Tryd.func90.trans (congrArg some (by kernel_rfl))
  t0 := Tryd.underlying0
  a0 := Tryd.isAgg0
  z0 := Tryd.sizeOf0
  v0 := Tryd.zeroValue0
  t3 := Tryd.underlying3
  a3 := Tryd.isAgg3
  z3 := Tryd.sizeOf3
  v3 := Tryd.zeroValue3
  t4 := Tryd.underlying4
  a4 := Tryd.isAgg4
  z4 := Tryd.sizeOf4
  v4 := Tryd.zeroValue4
  t5 := Tryd.underlying5
  a5 := Tryd.isAgg5
  z5 := Tryd.sizeOf5
  v5 := Tryd.zeroValue5
  t9 := Tryd.underlying9
  a9 := Tryd.isAgg9
  z9 := Tryd.sizeOf9
  v9 := Tryd.zeroValue9
  t46 := Tryd.underlying96
  a46 := Tryd.isAgg96
  z46 := Tryd.sizeOf96
  v46 := Tryd.zeroValue96
  t53 := Tryd.underlying23
  a53 := Tryd.isAgg23
  z53 := Tryd.sizeOf23
  v53 := Tryd.zeroValue23
  t212 := Tryd.underlying109
  a212 := Tryd.isAgg109
  z212 := Tryd.sizeOf109
  v212 := Tryd.zeroValue109
  g17 := by kernel_rfl
  i0 := by kernel_rfl
  i3 := by kernel_rfl
  i4 := by kernel_rfl
  i5 := by kernel_rfl
  i9 := by kernel_rfl
  i46 := by kernel_rfl
  i53 := by kernel_rfl
  i212 := by kernel_rfl
  m17 := by kernel_rfl }
def Sh.lays285_ren : Go.Shelf.Ren := ⟨fun | 285 => 79 | n => n, fun | 37 => 41 | 53 => 23 | 3 => 3 | 4 => 4 | 51 => 106 | 9 => 9 | 5 => 5 | 0 => 0 | n => n, fun | n => n⟩
theorem Sh.lays285 : Go.Proofs.Lays.n285 Tryd.prog Sh.lays285_ren := {
  mixed := by kernel_rfl
  f285 := Tryd.func79.trans (congrArg some (by kernel_rfl))
  t0 := Tryd.underlying0
  a0 := Tryd.isAgg0
  z0 := Tryd.sizeOf0
  v0 := Tryd.zeroValue0
  t3 := Tryd.underlying3
  a3 := Tryd.isAgg3
  z3 := Tryd.sizeOf3
  v3 := Tryd.zeroValue3
  t4 := Tryd.underlying4
  a4 := Tryd.isAgg4
  z4 := Tryd.sizeOf4
  v4 := Tryd.zeroValue4
  t5 := Tryd.underlying5
  a5 := Tryd.isAgg5
  z5 := Tryd.sizeOf5
  v5 := Tryd.zeroValue5
  t9 := Tryd.underlying9
  a9 := Tryd.isAgg9
  z9 := Tryd.sizeOf9
  v9 := Tryd.zeroValue9
  t37 := Tryd.underlying41
  a37 := Tryd.isAgg41
  z37 := Tryd.sizeOf41
  v37 := Tryd.zeroValue41
  t51 := Tryd.underlying106
  a51 := Tryd.isAgg106
  z51 := Tryd.sizeOf106
  v51 := Tryd.zeroValue106
  t53 := Tryd.underlying23
  a53 := Tryd.isAgg23
  z53 := Tryd.sizeOf23
  v53 := Tryd.zeroValue23 }
end Go.Proofs.YtboalkfagfgnpabDoor
/-
  THE WALKS of strconv.Itoa and strconv.FormatUint (base 10), and of math/bits.TrailingZeros64, where the library's tables lie as its initialisers lay them.
-/
namespace Go.Proofs.YtboalkfagfgnpabDoor
open Go.RowKit Go.Sort Go.Lib

def Re.tzTab : List Int := Lib.deBruijn64tab.map fun z : Nat => (z : Int)
/-- the tables of the library, as they are laid -/
structure Re.Tabs (w : World) : Prop where
  pow : Lib.TabIs Tryd.prog w "internal/strconv.uint64pow10" .u64 Lib.pow10Tab
  tz : Lib.TabIs Tryd.prog w "math/bits.deBruijn64tab" .u8 Re.tzTab
theorem Re.Tabs.on {w w' : World} (h : Re.Tabs w) (hb : Below w.heap.size w w') : Re.Tabs w' :=
  ⟨Lib.tabBelow_of_tabIs h.pow w' hb, Lib.tabBelow_of_tabIs h.tz w' hb⟩

set_option maxHeartbeats 6400000 in
set_option maxRecDepth 100000 in
theorem Rf.inner (u : Nat) (hu64 : u < 18446744073709551616) (w : World) (htab : Lib.TabIs Tryd.prog w "internal/strconv.uint64pow10" .u64 Lib.pow10Tab) :
    Calls Tryd.prog 84 #[.int .u64 (u : Int), .int .i64 10] w fun e w' => e = .returned (.string ⟨(Lib.decDigits u).toArray⟩) ∧ Below w.heap.size w w' := by
  by_cases hi : u < 100
  · go_enter Tryd.func84, Tryd.ntmps84
    go_wp2_with fail
    refine (Any.internal_strconv_small Sh.lays283 u hi _).mono ?_
    rintro e w' ⟨rfl, rfl⟩
    go_wp2
    go_ret
    exact ⟨rfl, Below.refl _ _⟩
  · have hu1 : 1 ≤ u := by omega
    have hnd20 : Lib.nDigits u ≤ 20 := by have := Lib.numDigits_eq u hu1 hu64; split at this <;> omega
    have hal : (Tryd.prog).arrayLen 101 = 24 := by simp [Program.arrayLen, Tryd.underlying101]
    have hsl1 : ∀ W, (Instr.sliceAt 101 (.pointer (some ⟨w.heap.size, 0, none⟩)) none (some (.int .i64 (Lib.nDigits u : Int))) none).run Tryd.prog W = .ok (.slice (some ⟨w.heap.size, 0, none⟩) (Lib.nDigits u) 24) W := fun W => by
      rw [run_sliceAt_array_h W 101 ⟨w.heap.size, 0, none⟩ (by simp [Program.arrayLen, Program.elem, Tryd.underlying101]) .i64 (Lib.nDigits u : Int) (by omega) (by rw [hal]; omega)]
      go_simp
    have hH0 := Lib.holds_zero0 w 101 (Lib.nDigits u) (by omega)
    have hfmt := Any.internal_strconv_formatBase10 Sh.lays285 w.heap.size 0 24 u (Array.replicate (Lib.nDigits u) 0) (w.alloc (.cells Lib.zeros24 101)) hH0 (by rw [Array.size_replicate]; exact Lib.lt_pow_nDigits u) hu64 (by rw [Array.size_replicate]; omega)
    rw [Array.size_replicate] at hfmt
    have HH0 := Lib.hid hH0
    have iu : (100 : Int) ≤ (u : Int) := by omega
    clear hH0 hal
    go_enter Tryd.func84, Tryd.ntmps84
    go_wp2_with (go_at_call 78; refine (Any.internal_strconv_numDigits Sh.laysM284 u hu1 hu64 _ (Lib.tabIs_alloc htab _)).mono ?_; rintro e w' ⟨rfl, rfl⟩)
    refine hfmt.mono ?_
    rintro e w' ⟨rfl, k, v', dk, rfl, hF⟩
    have hcv : (convert 41 9 (.slice (some ⟨w.heap.size, 0, none⟩) (Lib.nDigits u) 24)).run Tryd.prog ((putRow (fun (b : UInt8) => Value.int .u8 (b.toNat : Int)) (w.alloc (.cells Lib.zeros24 101)) w.heap.size 0 dk).drewN k) = .ok (.string ⟨(Lib.decDigits u).toArray⟩) ((putRow (fun (b : UInt8) => Value.int .u8 (b.toNat : Int)) (w.alloc (.cells Lib.zeros24 101)) w.heap.size 0 dk).drewN k) := by
      have h := run_convert_bytes_back (P := Tryd.prog) ((putRow (fun (b : UInt8) => Value.int .u8 (b.toNat : Int)) (w.alloc (.cells Lib.zeros24 101)) w.heap.size 0 dk).drewN k) 41 9 5 ⟨w.heap.size, 0, none⟩ 24 (Lib.decDigits u) Tryd.underlying41 Tryd.underlying5 Tryd.underlying9 (fun j hj => by
        rw [Lib.row_is_numeral hF j hj, Lib.add_plain, World.cell?_drewN]
        exact cell?_putRow (fun (b : UInt8) => Value.int .u8 (b.toNat : Int)) _ w.heap.size 0 _ dk HH0.out (by rw [hF.size, Array.size_replicate]) j (by rw [hF.size]; rw [Lib.decDigits_length] at hj; exact hj))
      rw [Lib.decDigits_length] at h
      exact h
    obtain ⟨os, eo⟩ := Lib.fin_at w (.cells Lib.zeros24 101) dk k 0
    have hnx : Below w.heap.size w ((putRow (fun (b : UInt8) => Value.int .u8 (b.toNat : Int)) (w.alloc (.cells Lib.zeros24 101)) w.heap.size 0 dk).drewN k) := by rw [eo]; exact Lib.below_grow w.heap.size w (Nat.le_refl _) k os
    generalize (putRow (fun (b : UInt8) => Value.int .u8 (b.toNat : Int)) (w.alloc (.cells Lib.zeros24 101)) w.heap.size 0 dk).drewN k = W2 at hcv hnx ⊢
    clear eo HH0 hfmt
    go_wp2
    go_ret
    exact ⟨rfl, hnx⟩

theorem Rf.formatUint (u : Nat) (hu64 : u < 18446744073709551616) (w : World) (h : Re.Tabs w) :
    Calls Tryd.prog 67 #[.int .u64 (u : Int), .int .i64 10] w fun e w' => e = .returned (.string ⟨(Lib.decDigits u).toArray⟩) ∧ Below w.heap.size w w' := by
  go_enter Tryd.func67, Tryd.ntmps67
  go_wp2_with fail
  refine (Rf.inner u hu64 _ h.pow).mono ?_
  rintro e w' ⟨rfl, b⟩
  go_wp2
  go_ret
  exact ⟨rfl, b⟩

theorem Rf.itoa (n : Int) (h0 : -9223372036854775808 ≤ n) (h1 : n ≤ 9223372036854775807) (w : World) (h : Re.Tabs w) :
    Calls Tryd.prog 27 #[.int .i64 n] w fun e w' => e = .returned (.string ⟨(Lib.itoa n).toArray⟩) ∧ Below w.heap.size w w' := by
  refine (Any.strconv_Itoa Sh.laysM171 n h0 h1 w h.pow).mono ?_
  rintro e w' ⟨rfl, k, os, rfl⟩
  exact ⟨rfl, Lib.below_grow w.heap.size w (Nat.le_refl _) k os⟩

theorem Rf.tz_at (w : World) (h : Re.Tabs w) (j : Nat) (hj : j < 64) : w.cell? ⟨4, j, none⟩ = some (.int .u8 (Lib.deBruijn64tab.getD j 0 : Nat)) := by
  have := Lib.TabIs.cell h.tz (g := 4) (by kernel_rfl) j (show j < 64 from hj)
  rw [this]
  congr 2
  have ha : ∀ j, j < 64 → Re.tzTab.getD j 0 = ((Lib.deBruijn64tab.getD j 0 : Nat) : Int) := by decide +kernel
  exact ha j hj

theorem Rf.tz_key (x a : Nat) (hx : x < 18446744073709551616) (hx0 : x ≠ 0) (hlow : x &&& (18446744073709551616 - x) = a) :
    IntKind.u64.wrap (bits BinOp.and IntKind.u64 (x : Int) (IntKind.u64.wrap (-(x : Int))) * 285870213051353865) / 288230376151711744 = ((a * 285870213051353865 % 18446744073709551616 / 288230376151711744 : Nat) : Int) := by
  have e1 : IntKind.u64.wrap (-(x : Int)) = ((18446744073709551616 - x : Nat) : Int) := by rw [IntKind.wrap_u64]; omega
  rw [e1, bits_and_u64_nat x _ hx (by omega), hlow, IntKind.wrap_u64]
  omega

set_option maxHeartbeats 1000000 in
theorem Rf.tz_core (x k idx : Nat) (w : World) (hx0 : ((x : Int) == 0) = false)
    (key : IntKind.u64.wrap (bits BinOp.and IntKind.u64 (x : Int) (IntKind.u64.wrap (-(x : Int))) * 285870213051353865) / 288230376151711744 = (idx : Int))
    (hi : idx < 64) (hk : k < 64) (hcell : w.cell? ⟨4, idx, none⟩ = some (.int .u8 k)) :
    Calls Tryd.prog 83 #[.int .u64 (x : Int)] w fun e w' => e = .returned (.int .i64 k) ∧ w' = w := by
  go_enter Tryd.func83, Tryd.ntmps83
  go_wp2_with (simp only [key])
  go_ret
  exact ⟨rfl, rfl⟩

theorem Rf.tz (x : Nat) (hx : x < 18446744073709551616) (hx0 : x ≠ 0) (w : World) (h : Re.Tabs w) :
    Calls Tryd.prog 83 #[.int .u64 (x : Int)] w fun e w' => e = .returned (.int .i64 (Lib.ctz 64 x)) ∧ w' = w := by
  obtain ⟨hlow, hk⟩ := Lib.lowest_bit 64 x hx0 hx
  obtain ⟨hi, htab⟩ := Lib.deBruijn64_at _ hk
  have hcell := Rf.tz_at w h _ hi
  rw [htab] at hcell
  exact Rf.tz_core x _ _ w (by simp; omega) (Rf.tz_key x _ hx hx0 hlow) hi hk hcell
end Go.Proofs.YtboalkfagfgnpabDoor
/-
  THE WALKS of the program's oddAndPower and real.Text.
-/
namespace Go.Proofs.YtboalkfagfgnpabDoor
open Go.RowKit

theorem Rt.and52 (b : Nat) (hb : b < 18446744073709551616) : Go.bits .and .u64 (b : Int) 4503599627370495 = ((Re.fr b : Nat) : Int) := by
  have h := bits_and_u64_nat b 4503599627370495 hb (by omega)
  rw [show (4503599627370495 : Nat) = 2 ^ 52 - 1 by decide, Nat.and_two_pow_sub_one_eq_mod] at h
  exact h
theorem Rt.and11 (b : Nat) (hb : b < 18446744073709551616) : Go.bits .and .u64 ((b : Int) / 4503599627370496) 2047 = ((Re.ef b : Nat) : Int) := by
  have h := bits_and_u64_nat (b / 4503599627370496) 2047 (by omega) (by omega)
  rw [show (2047 : Nat) = 2 ^ 11 - 1 by decide, Nat.and_two_pow_sub_one_eq_mod] at h
  exact h
theorem Rt.or52 (m : Nat) (hm : m < 4503599627370496) : Go.bits .or .u64 (m : Int) 4503599627370496 = ((4503599627370496 + m : Nat) : Int) := by
  have h := bits_or_u64_nat m 4503599627370496 (by omega) (by omega)
  have e := Nat.two_pow_add_eq_or_of_lt (i := 52) (b := m) (by omega) 1
  rw [Nat.or_comm, show (4503599627370496 : Nat) = 2 ^ 52 * 1 by decide, ← e] at h
  exact h

set_option maxRecDepth 100000 in
theorem Rt.odd (b : Nat) (hb : b < 18446744073709551616) (hm0 : Re.mag b ≠ 0) (he : Re.ef b ≠ 2047) (w : World) (h : Re.Tabs w) :
    Calls Tryd.prog 66 #[.int .u64 (b : Int)] w fun e w' => e = .returned (.tuple #[.int .u64 (Re.odd b), .int .i64 (Re.pow b)]) ∧ w' = w := by
  have h1 := Rt.and52 b hb
  have h2 := Rt.and11 b hb
  have hf := Re.fr_lt b
  have hel := Re.ef_lt b
  have hml := Re.mag_lt b
  have hz := Rf.tz (Re.mag b) (by omega) hm0 w h
  have hz64 := (Lib.lowest_bit 64 (Re.mag b) hm0 (by omega)).2
  have eo : Re.odd b = Re.mag b / 2 ^ Lib.ctz 64 (Re.mag b) := rfl
  have ep : Re.pow b = Re.at b + Lib.ctz 64 (Re.mag b) := rfl
  rw [eo, ep]
  clear eo ep
  by_cases h0 : Re.ef b = 0
  · have em : Re.fr b = Re.mag b := by unfold Re.mag; rw [if_pos h0]
    have ea : Re.at b = -1074 := by unfold Re.at; rw [if_pos h0]
    rw [h0] at h2
    rw [em] at h1
    rw [ea]
    clear em ea hf h0 hel he h
    generalize Lib.ctz 64 (Re.mag b) = z at hz hz64 ⊢
    generalize Re.mag b = m at hz hm0 hml h1 ⊢
    go_enter Tryd.func66, Tryd.ntmps66
    go_wp2_with fail
    refine hz.mono ?_
    rintro e w' ⟨rfl, rfl⟩
    go_wp2_with fail
    go_ret2
    exact ⟨rfl, rfl⟩
  · have em : 4503599627370496 + Re.fr b = Re.mag b := by unfold Re.mag; rw [if_neg h0]
    have ea : Re.at b = -1074 + ((Re.ef b : Int) - 1) := by unfold Re.at; rw [if_neg h0]; omega
    have h3 := Rt.or52 (Re.fr b) hf
    rw [em] at h3
    rw [ea]
    generalize Lib.ctz 64 (Re.mag b) = z at hz hz64 ⊢
    clear ea em h
    generalize Re.mag b = m at hz hm0 hml h3 ⊢
    generalize Re.fr b = f at h1 h3 hf
    generalize Re.ef b = k at h2 h0 he hel ⊢
    have hk : decide (0 < (k : Int)) = true := decide_eq_true (by omega)
    go_enter Tryd.func66, Tryd.ntmps66
    go_wp2_with fail
    refine hz.mono ?_
    rintro e w' ⟨rfl, rfl⟩
    go_wp2_with fail
    go_ret2
    exact ⟨rfl, rfl⟩

theorem Rt.step {w wr w1 : World} (h : Below w.heap.size w wr) (h1 : Below wr.heap.size wr w1) : Below w.heap.size w w1 := h.trans (h1.mono h.size)
theorem Rt.cat (a b : List UInt8) : (⟨a.toArray⟩ : ByteArray) ++ ⟨b.toArray⟩ = ⟨(a ++ b).toArray⟩ := by
  apply ByteArray.ext
  simp
theorem Rt.size (a : List UInt8) : (⟨a.toArray⟩ : ByteArray).size = a.length := by simp [ByteArray.size]
theorem Rt.sign_le (b : Nat) : (Re.sign b).length ≤ 1 := by unfold Re.sign; split <;> simp
theorem Rt.dec_le (u : Nat) (h : u < 18446744073709551616) : (Lib.decDigits u).length ≤ 20 := by
  rw [Lib.decDigits_length]
  by_cases h0 : u = 0
  · subst h0; rw [Lib.nDigits_small (by omega)]; omega
  · have := Lib.numDigits_eq u (by omega) h; split at this <;> omega
theorem Rt.itoa_le (n : Int) (h0 : -9007199254740992 ≤ n) (h1 : n ≤ 9007199254740992) : (Lib.itoa n).length ≤ 21 := by
  unfold Lib.itoa
  split
  · have := Rt.dec_le n.natAbs (by omega); simp; omega
  · have := Rt.dec_le n.toNat (by omega); omega
theorem Rt.whole_le (b : Nat) : -9007199254740992 ≤ Re.whole b ∧ Re.whole b ≤ 9007199254740992 := by
  have := Re.abs_lt b
  unfold Re.whole
  split
  · cases Re.neg b <;> simp [Re.sgn] <;> omega
  · omega
theorem Rt.pow_le (b : Nat) (hm0 : Re.mag b ≠ 0) : -9007199254740992 ≤ Re.pow b ∧ Re.pow b ≤ 9007199254740992 := by
  have h := Re.mag_lt b
  have hz := (Lib.lowest_bit 64 (Re.mag b) hm0 (by omega)).2
  have hel := Re.ef_lt b
  unfold Re.pow Re.at Re.zeros
  split <;> omega
theorem Rt.odd_lt (b : Nat) : Re.odd b < 18446744073709551616 := by
  have h := Re.mag_lt b
  have := Nat.div_le_self (Re.mag b) (2 ^ Re.zeros b)
  unfold Re.odd; omega
theorem Rt.kind_le (b : Nat) : Re.kind b ≤ 4 := by
  unfold Re.kind
  split
  · split <;> omega
  · split
    · omega
    · split <;> omega
theorem Rt.kind4 (b : Nat) (h : Re.kind b = 4) : Re.mag b ≠ 0 ∧ Re.ef b ≠ 2047 := by
  unfold Re.kind at h
  by_cases h1 : Re.ef b = 2047
  · rw [if_pos h1] at h; split at h <;> omega
  · rw [if_neg h1] at h
    refine ⟨fun h2 => ?_, h1⟩
    rw [if_pos h2] at h; omega

set_option maxRecDepth 100000 in
theorem Rt.text (b : Nat) (hb : b < 18446744073709551616) (w : World) (h : Re.Tabs w) :
    Calls Tryd.prog 47 #[.int .u64 (b : Int)] w fun e w' => e = .returned (.string ⟨(Re.text b).toArray⟩) ∧ Below w.heap.size w w' := by
  have hk := Rk.kind b hb w
  have hs := Rk.sign b hb
  have hle := Rt.sign_le b
  have ht : Re.text b = match Re.kind b with
    | 0 => [78, 97, 78]
    | 1 => Re.sign b ++ [73, 110, 102, 105, 110, 105, 116, 121]
    | 2 => Re.sign b ++ [48]
    | 3 => Lib.itoa (Re.whole b)
    | _ => Re.sign b ++ Lib.decDigits (Re.odd b) ++ [112] ++ Lib.itoa (Re.pow b) := rfl
  rw [ht]
  clear ht
  obtain ⟨S, hS⟩ : ∃ S : ByteArray, S = ⟨(Re.sign b).toArray⟩ := ⟨_, rfl⟩
  have hSz : S.size ≤ 1 := by rw [hS, Rt.size]; exact hle
  rw [← hS] at hs
  have HS := Lib.hid hS
  clear hS hle
  match hkb : Re.kind b with
  | 0 =>
    rw [hkb] at hk
    go_enter Tryd.func47, Tryd.ntmps47
    go_wp2_with fail
    refine hk.mono ?_
    rintro e w1 ⟨rfl, rfl⟩
    go_wp2_with fail
    go_ret
    exact ⟨rfl, Below.refl _ _⟩
  | 1 =>
    rw [hkb] at hk
    go_enter Tryd.func47, Tryd.ntmps47
    go_wp2_with fail
    refine hk.mono ?_
    rintro e w1 ⟨rfl, rfl⟩
    go_wp2_with fail
    refine (hs _).mono ?_
    rintro e w1 ⟨rfl, rfl⟩
    go_wp2_with fail
    go_ret
    refine ⟨?_, Below.refl _ _⟩
    have e := Rt.cat (Re.sign b) [73, 110, 102, 105, 110, 105, 116, 121]
    rw [← HS.out] at e
    rw [← e]
    rfl
  | 2 =>
    rw [hkb] at hk
    go_enter Tryd.func47, Tryd.ntmps47
    go_wp2_with fail
    refine hk.mono ?_
    rintro e w1 ⟨rfl, rfl⟩
    go_wp2_with fail
    refine (hs _).mono ?_
    rintro e w1 ⟨rfl, rfl⟩
    go_wp2_with fail
    go_ret
    refine ⟨?_, Below.refl _ _⟩
    have e := Rt.cat (Re.sign b) [48]
    rw [← HS.out] at e
    rw [← e]
    rfl
  | 3 =>
    rw [hkb] at hk
    have hw := Rk.whole b hb w
    have hi := Rf.itoa (Re.whole b) (by have := (Rt.whole_le b).1; omega) (by have := (Rt.whole_le b).2; omega) w h
    go_enter Tryd.func47, Tryd.ntmps47
    go_wp2_with fail
    refine hk.mono ?_
    rintro e w1 ⟨rfl, rfl⟩
    go_wp2_with fail
    refine hw.mono ?_
    rintro e w1 ⟨rfl, rfl⟩
    go_wp2_with fail
    refine hi.mono ?_
    rintro e w1 ⟨rfl, b1⟩
    go_wp2_with fail
    go_ret
    exact ⟨rfl, b1⟩
  | 4 =>
    rw [hkb] at hk
    obtain ⟨hm0, he⟩ := Rt.kind4 b hkb
    have ho := Rt.odd b hb hm0 he w h
    have hf := Rf.formatUint (Re.odd b) (Rt.odd_lt b) w h
    have hpl := Rt.pow_le b hm0
    have hi := fun w h => Rf.itoa (Re.pow b) (by omega) (by omega) w h
    have hdl := Rt.dec_le _ (Rt.odd_lt b)
    have hil := Rt.itoa_le _ hpl.1 hpl.2
    obtain ⟨D, hD⟩ : ∃ S : ByteArray, S = ⟨(Lib.decDigits (Re.odd b)).toArray⟩ := ⟨_, rfl⟩
    have hDz : D.size ≤ 20 := by rw [hD, Rt.size]; exact hdl
    rw [← hD] at hf
    obtain ⟨I, hI⟩ : ∃ S : ByteArray, S = ⟨(Lib.itoa (Re.pow b)).toArray⟩ := ⟨_, rfl⟩
    have hIz : I.size ≤ 21 := by rw [hI, Rt.size]; exact hil
    rw [← hI] at hi
    have HD := Lib.hid hD
    have HI := Lib.hid hI
    clear hD hI hdl hil hpl hkb he hm0
    go_enter Tryd.func47, Tryd.ntmps47
    go_wp2_with fail
    refine hk.mono ?_
    rintro e w1 ⟨rfl, rfl⟩
    go_wp2_with fail
    refine ho.mono ?_
    rintro e w1 ⟨rfl, rfl⟩
    go_wp2_with fail
    refine (hs _).mono ?_
    rintro e w1 ⟨rfl, rfl⟩
    go_wp2_with fail
    refine hf.mono ?_
    rintro e w2 ⟨rfl, b1⟩
    have h2 := h.on b1
    obtain ⟨A, eA⟩ : ∃ v : ByteArray, S ++ D = v := ⟨_, rfl⟩
    have zA : A.size ≤ 21 := by rw [← eA, ByteArray.size_append]; omega
    obtain ⟨B, eB⟩ : ∃ v : ByteArray, A ++ ⟨#[112]⟩ = v := ⟨_, rfl⟩
    have zB : B.size ≤ 22 := by rw [← eB, ByteArray.size_append]; have : (⟨#[112]⟩ : ByteArray).size = 1 := rfl; omega
    go_wp2_with fail
    refine (hi _ h2).mono ?_
    rintro e w3 ⟨rfl, b3⟩
    go_wp2_with fail
    go_ret
    refine ⟨?_, Rt.step b1 b3⟩
    have e1 := Rt.cat (Re.sign b) (Lib.decDigits (Re.odd b))
    have e2 := Rt.cat (Re.sign b ++ Lib.decDigits (Re.odd b)) [112]
    have e3 := Rt.cat (Re.sign b ++ Lib.decDigits (Re.odd b) ++ [112]) (Lib.itoa (Re.pow b))
    rw [← e2, ← e1, ← HS.out, ← HD.out, ← HI.out, eA] at e3
    rw [← e3, ← eB]
    rfl
  | n + 5 =>
    have := Rt.kind_le b
    omega
end Go.Proofs.YtboalkfagfgnpabDoor
/-
  THE WALKS of the program's value.True, Text, isNumber, rank.
-/
namespace Go.Proofs.YtboalkfagfgnpabDoor
open Go.RowKit

theorem Vt.Lies.alloc {w : World} {t : Vt} {v : Value} (h : t.Lies w (· < w.heap.size) v) (o : Obj) : t.Lies (w.alloc o) (· < (w.alloc o).heap.size) v :=
  h.on fun g hg => ⟨by simp; omega, Below.heap_alloc _ _ _ hg⟩
theorem Vt.Lies.on' {w w' : World} {t : Vt} {v : Value} (h : t.Lies w (· < w.heap.size) v) (hb : Below w.heap.size w w') : t.Lies w' (· < w'.heap.size) v :=
  h.on fun g hg => ⟨Nat.lt_of_lt_of_le hg hb.size, hb.block g hg⟩
theorem Vm.behind {w w1 : World} {o : Obj} (h : Below (w.alloc o).heap.size (w.alloc o) w1) : Below w.heap.size w w1 :=
  ((Below.refl _ _).alloc (Nat.le_refl _) o).trans (h.mono (by simp))
theorem Vm.behind2 {w w1 : World} {o o' : Obj} (h : Below ((w.alloc o).alloc o').heap.size ((w.alloc o).alloc o') w1) : Below w.heap.size w w1 := Vm.behind (Vm.behind h)
theorem Vm.then {w w1 w2 : World} (h : Below w.heap.size w w1) (g : Below w1.heap.size w1 w2) : Below w.heap.size w w2 := h.trans (g.mono h.size)
structure Vm.Box (w : World) (g : Nat) (v0 v1 v2 v3 v4 v5 : Value) : Prop where
  all : w.heap[g]? = some (.cells #[v0, v1, v2, v3, v4, v5] 27)
theorem Vm.Box.cells {w : World} {g : Nat} {v0 v1 v2 v3 v4 v5 : Value} (h : Vm.Box w g v0 v1 v2 v3 v4 v5) : w.cell? ⟨g, 0, none⟩ = some v0 ∧ w.cell? ⟨g, 1, none⟩ = some v1 ∧ w.cell? ⟨g, 2, none⟩ = some v2 ∧ w.cell? ⟨g, 3, none⟩ = some v3 ∧ w.cell? ⟨g, 4, none⟩ = some v4 ∧ w.cell? ⟨g, 5, none⟩ = some v5 :=
  ⟨Vm.boxCell h.all 0 rfl, Vm.boxCell h.all 1 rfl, Vm.boxCell h.all 2 rfl, Vm.boxCell h.all 3 rfl, Vm.boxCell h.all 4 rfl, Vm.boxCell h.all 5 rfl⟩
theorem Vm.Box.on {w w' : World} {g : Nat} {v0 v1 v2 v3 v4 v5 : Value} (h : Vm.Box w g v0 v1 v2 v3 v4 v5) (hg : g < w.heap.size) (hb : Below w.heap.size w w') : Vm.Box w' g v0 v1 v2 v3 v4 v5 := ⟨(hb.block g hg).trans h.all⟩
theorem Vm.box {w w1 : World} {v0 v1 v2 v3 v4 v5 : Value} (h : Below (w.alloc (.cells #[v0, v1, v2, v3, v4, v5] 27)).heap.size (w.alloc (.cells #[v0, v1, v2, v3, v4, v5] 27)) w1) : Vm.Box w1 w.heap.size v0 v1 v2 v3 v4 v5 := ⟨Vm.boxed h⟩

theorem Vt.formed_of {k x : Int} {b : Nat} {s : ByteArray} {n : Nat} {it : Nat → Vt} {m : Nat} {ks : Nat → ByteArray} (h : (Vt.mk k x b s n it m ks).may = true) : Vt.formed k x b s n m ks = true := by
  unfold Vt.may Vt.stand at h
  split at h
  · cases h
  · next hc =>
    cases e : Vt.formed k x b s n m ks with
    | true => rfl
    | false => exact absurd (.inr (.inr e)) hc

def Vt.truth : Vt → Bool
  | .nil => false
  | .mk k x b s n it m ks => (Vt.mk k x b s n it m ks).may && (if k = 1 ∨ k = 2 then !(x == 0) else if k = 3 then !((Re.kind b : Int) == 2) && !((Re.kind b : Int) == 0) else if k = 4 then !(s.toList == []) else decide (0 < n))

/-- the text of a value, and its error's number -/
def Vt.told : Vt → ByteArray × Int
  | .nil => (⟨#[]⟩, 400)
  | .mk k x b s n it m ks => if (Vt.mk k x b s n it m ks).may then (if k = 0 then (⟨#[]⟩, 0) else if k = 1 then (if x = 1 then ⟨#[116, 114, 117, 101]⟩ else ⟨#[102, 97, 108, 115, 101]⟩, 0) else if k = 2 then (⟨(Lib.itoa x).toArray⟩, 0) else if k = 3 then (⟨(Re.text b).toArray⟩, 0) else if k = 4 then (s, 0) else (⟨#[]⟩, 402)) else (⟨#[]⟩, 400)

theorem Vm.bool (a : Bool) (w : World) : Calls Tryd.prog 26 #[.bool a] w fun e w' => e = .returned (.string (if a then ⟨#[116, 114, 117, 101]⟩ else ⟨#[102, 97, 108, 115, 101]⟩)) ∧ w' = w := by
  cases a
  all_goals go_enter Tryd.func26, Tryd.ntmps26
  all_goals go_wp2
  all_goals go_ret
  all_goals exact ⟨rfl, rfl⟩

end Go.Proofs.YtboalkfagfgnpabDoor
