/-
  The library's contracts that the walks lean on, laid at this program's own numbers: strconv.Itoa, and what internal/strconv.FormatUint calls.
-/
import Derived.Shelf.Strconv.Itoa3
import Derived.Test.YtboalkfagfgnpaaGreatDoorProg
import Derived.Test.YtboalkfagfgnpaaGreatDoorCRePlaintoReNum
import Derived.Laws.Bits64b
import Derived.Lib.AppendIntMem
import Derived.BigCall
import Derived.BigGuard
import Derived.Test.YtboalkfagfgnpaaGreatDoorCShelftoSign
import Derived.Test.YtboalkfagfgnpaaGreatDoorCards
import Derived.Test.YtboalkfagfgnpaaGreatDoorTie
import Derived.WalkKit
import Derived.ProofKit
import Derived.OpenShut
import Derived.ShutString
import Derived.SizedLaws
import Derived.Deep.DeepHandedRow
import Derived.Lib.LaidU8
import Derived.PinnedBridge
import Derived.Lib.TrailingZeros
import Derived.Test.YtboalkfagfgnpaaGreatDoorChecked
import Derived.OwnWalk
import Derived.Lib.Hide
import Derived.Below
import Derived.BigQuiet
import Derived.Laws.Cover1
namespace Go.Proofs.YtboalkfagfgnpaaGreatDoor
open Go.Shelf
def Sh.laysM171_ren : Go.Shelf.Ren := ⟨fun | 171 => 37 | 243 => 62 | 246 => 82 | 283 => 108 | 284 => 109 | 285 => 110 | 286 => 111 | 129 => 123 | 317 => 122 | 318 => 124 | 319 => 125 | 320 => 126 | 337 => 131 | 338 => 114 | n => n, fun | 3 => 3 | 9 => 9 | 2 => 2 | 4 => 4 | 171 => 119 | 0 => 0 | 53 => 22 | 37 => 44 | 5 => 5 | 173 => 121 | 212 => 132 | 51 => 133 | 20 => 20 | 213 => 134 | 46 => 87 | 232 => 141 | 233 => 138 | n => n, fun | 17 => 3 | 18 => 6 | 19 => 4 | n => n⟩
theorem Sh.laysM171 : Go.Proofs.LaysM.n171 Tryz.prog Sh.laysM171_ren := {
  mixed := by kernel_rfl
  f129 := Tryz.func123.trans (congrArg some (by kernel_rfl))
  f171 := Tryz.func37.trans (congrArg some (by kernel_rfl))
  f243 := Tryz.func62.trans (congrArg some (by kernel_rfl))
  f246 := Tryz.func82.trans (congrArg some (by kernel_rfl))
  f283 := Tryz.func108.trans (congrArg some (by kernel_rfl))
  f284 := Tryz.func109.trans (congrArg some (by kernel_rfl))
  f285 := Tryz.func110.trans (congrArg some (by kernel_rfl))
  f286 := Tryz.func111.trans (congrArg some (by kernel_rfl))
  f317 := Tryz.func122.trans (congrArg some (by kernel_rfl))
  f318 := Tryz.func124.trans (congrArg some (by kernel_rfl))
  f319 := Tryz.func125.trans (congrArg some (by kernel_rfl))
  f320 := Tryz.func126.trans (congrArg some (by kernel_rfl))
  f337 := Tryz.func131.trans (congrArg some (by kernel_rfl))
  f338 := Tryz.func114.trans (congrArg some (by kernel_rfl))
  t0 := Tryz.underlying0
  a0 := Tryz.isAgg0
  z0 := Tryz.sizeOf0
  v0 := Tryz.zeroValue0
  t2 := Tryz.underlying2
  a2 := Tryz.isAgg2
  z2 := Tryz.sizeOf2
  v2 := Tryz.zeroValue2
  t3 := Tryz.underlying3
  a3 := Tryz.isAgg3
  z3 := Tryz.sizeOf3
  v3 := Tryz.zeroValue3
  t4 := Tryz.underlying4
  a4 := Tryz.isAgg4
  z4 := Tryz.sizeOf4
  v4 := Tryz.zeroValue4
  t5 := Tryz.underlying5
  a5 := Tryz.isAgg5
  z5 := Tryz.sizeOf5
  v5 := Tryz.zeroValue5
  t9 := Tryz.underlying9
  a9 := Tryz.isAgg9
  z9 := Tryz.sizeOf9
  v9 := Tryz.zeroValue9
  t20 := Tryz.underlying20
  a20 := Tryz.isAgg20
  z20 := Tryz.sizeOf20
  v20 := Tryz.zeroValue20
  t37 := Tryz.underlying44
  a37 := Tryz.isAgg44
  z37 := Tryz.sizeOf44
  v37 := Tryz.zeroValue44
  t46 := Tryz.underlying87
  a46 := Tryz.isAgg87
  z46 := Tryz.sizeOf87
  v46 := Tryz.zeroValue87
  t51 := Tryz.underlying133
  a51 := Tryz.isAgg133
  z51 := Tryz.sizeOf133
  v51 := Tryz.zeroValue133
  t53 := Tryz.underlying22
  a53 := Tryz.isAgg22
  z53 := Tryz.sizeOf22
  v53 := Tryz.zeroValue22
  t171 := Tryz.underlying119
  a171 := Tryz.isAgg119
  z171 := Tryz.sizeOf119
  v171 := Tryz.zeroValue119
  t173 := Tryz.underlying121
  a173 := Tryz.isAgg121
  z173 := Tryz.sizeOf121
  v173 := Tryz.zeroValue121
  t212 := Tryz.underlying132
  a212 := Tryz.isAgg132
  z212 := Tryz.sizeOf132
  v212 := Tryz.zeroValue132
  t213 := Tryz.underlying134
  a213 := Tryz.isAgg134
  z213 := Tryz.sizeOf134
  t232 := Tryz.underlying141
  a232 := Tryz.isAgg141
  z232 := Tryz.sizeOf141
  v232 := Tryz.zeroValue141
  t233 := Tryz.underlying138
  a233 := Tryz.isAgg138
  z233 := Tryz.sizeOf138
  v233 := Tryz.zeroValue138
  g17 := by kernel_rfl
  g18 := by kernel_rfl
  g19 := by kernel_rfl
  i0 := by kernel_rfl
  i2 := by kernel_rfl
  i3 := by kernel_rfl
  i4 := by kernel_rfl
  i5 := by kernel_rfl
  i9 := by kernel_rfl
  i20 := by kernel_rfl
  i37 := by kernel_rfl
  i46 := by kernel_rfl
  i51 := by kernel_rfl
  i53 := by kernel_rfl
  i171 := by kernel_rfl
  i173 := by kernel_rfl
  i212 := by kernel_rfl
  i232 := by kernel_rfl
  i233 := by kernel_rfl
  m17 := by kernel_rfl
  m18 := by kernel_rfl
  m19 := by kernel_rfl }
def Sh.lays283_ren : Go.Shelf.Ren := ⟨fun | 283 => 108 | n => n, fun | 3 => 3 | 9 => 9 | 4 => 4 | n => n, fun | n => n⟩
theorem Sh.lays283 : Go.Proofs.Lays.n283 Tryz.prog Sh.lays283_ren := {
  mixed := by kernel_rfl
  f283 := Tryz.func108.trans (congrArg some (by kernel_rfl))
  t3 := Tryz.underlying3
  a3 := Tryz.isAgg3
  z3 := Tryz.sizeOf3
  v3 := Tryz.zeroValue3
  t4 := Tryz.underlying4
  a4 := Tryz.isAgg4
  z4 := Tryz.sizeOf4
  v4 := Tryz.zeroValue4
  t9 := Tryz.underlying9
  a9 := Tryz.isAgg9
  z9 := Tryz.sizeOf9
  v9 := Tryz.zeroValue9 }
def Sh.laysM284_ren : Go.Shelf.Ren := ⟨fun | 284 => 109 | 129 => 123 | 317 => 122 | 318 => 124 | n => n, fun | 53 => 22 | 3 => 3 | 212 => 132 | 0 => 0 | 4 => 4 | 46 => 87 | 5 => 5 | 9 => 9 | n => n, fun | 17 => 3 | n => n⟩
theorem Sh.laysM284 : Go.Proofs.LaysM.n284 Tryz.prog Sh.laysM284_ren := {
  mixed := by kernel_rfl
  f129 := Tryz.func123.trans (congrArg some (by kernel_rfl))
  f284 := Tryz.func109.trans (congrArg some (by kernel_rfl))
  f317 := Tryz.func122.trans (congrArg some (by kernel_rfl))
  f318 := Tryz.func124.trans (congrArg some (by kernel_rfl))
  t0 := Tryz.underlying0
  a0 := Tryz.isAgg0
  z0 := Tryz.sizeOf0
  v0 := Tryz.zeroValue0
  t3 := Tryz.underlying3
  a3 := Tryz.isAgg3
  z3 := Tryz.sizeOf3
  v3 := Tryz.zeroValue3
  t4 := Tryz.underlying4
  a4 := Tryz.isAgg4
  z4 := Tryz.sizeOf4
  v4 := Tryz.zeroValue4
  t5 := Tryz.underlying5
  a5 := Tryz.isAgg5
  z5 := Tryz.sizeOf5
  v5 := Tryz.zeroValue5
  t9 := Tryz.underlying9
  a9 := Tryz.isAgg9
  z9 := Tryz.sizeOf9
  v9 := Tryz.zeroValue9
  t46 := Tryz.underlying87
  a46 := Tryz.isAgg87
  z46 := Tryz.sizeOf87
  v46 := Tryz.zeroValue87
  t53 := Tryz.underlying22
  a53 := Tryz.isAgg22
  z53 := Tryz.sizeOf22
  v53 := Tryz.zeroValue22
  t212 := Tryz.underlying132
  a212 := Tryz.isAgg132
  z212 := Tryz.sizeOf132
  v212 := Tryz.zeroValue132
  g17 := by kernel_rfl
  i0 := by kernel_rfl
  i3 := by kernel_rfl
  i4 := by kernel_rfl
  i5 := by kernel_rfl
  i9 := by kernel_rfl
  i46 := by kernel_rfl
  i53 := by kernel_rfl
  i212 := by kernel_rfl
  m17 := by kernel_rfl }
def Sh.lays285_ren : Go.Shelf.Ren := ⟨fun | 285 => 110 | n => n, fun | 37 => 44 | 53 => 22 | 3 => 3 | 4 => 4 | 51 => 133 | 9 => 9 | 5 => 5 | 0 => 0 | n => n, fun | n => n⟩
theorem Sh.lays285 : Go.Proofs.Lays.n285 Tryz.prog Sh.lays285_ren := {
  mixed := by kernel_rfl
  f285 := Tryz.func110.trans (congrArg some (by kernel_rfl))
  t0 := Tryz.underlying0
  a0 := Tryz.isAgg0
  z0 := Tryz.sizeOf0
  v0 := Tryz.zeroValue0
  t3 := Tryz.underlying3
  a3 := Tryz.isAgg3
  z3 := Tryz.sizeOf3
  v3 := Tryz.zeroValue3
  t4 := Tryz.underlying4
  a4 := Tryz.isAgg4
  z4 := Tryz.sizeOf4
  v4 := Tryz.zeroValue4
  t5 := Tryz.underlying5
  a5 := Tryz.isAgg5
  z5 := Tryz.sizeOf5
  v5 := Tryz.zeroValue5
  t9 := Tryz.underlying9
  a9 := Tryz.isAgg9
  z9 := Tryz.sizeOf9
  v9 := Tryz.zeroValue9
  t37 := Tryz.underlying44
  a37 := Tryz.isAgg44
  z37 := Tryz.sizeOf44
  v37 := Tryz.zeroValue44
  t51 := Tryz.underlying133
  a51 := Tryz.isAgg133
  z51 := Tryz.sizeOf133
  v51 := Tryz.zeroValue133
  t53 := Tryz.underlying22
  a53 := Tryz.isAgg22
  z53 := Tryz.sizeOf22
  v53 := Tryz.zeroValue22 }
end Go.Proofs.YtboalkfagfgnpaaGreatDoor
/-
  THE WALKS of strconv.Itoa and strconv.FormatUint (base 10), and of math/bits.TrailingZeros64, where the library's tables lie as its initialisers lay them.
-/
namespace Go.Proofs.YtboalkfagfgnpaaGreatDoor
open Go.RowKit Go.Sort Go.Lib

def Re.tzTab : List Int := Lib.deBruijn64tab.map fun z : Nat => (z : Int)
/-- the tables of the library, as they are laid -/
structure Re.Tabs (w : World) : Prop where
  pow : Lib.TabIs Tryz.prog w "internal/strconv.uint64pow10" .u64 Lib.pow10Tab
  tz : Lib.TabIs Tryz.prog w "math/bits.deBruijn64tab" .u8 Re.tzTab
theorem Re.Tabs.on {w w' : World} (h : Re.Tabs w) (hb : Below w.heap.size w w') : Re.Tabs w' :=
  ⟨Lib.tabBelow_of_tabIs h.pow w' hb, Lib.tabBelow_of_tabIs h.tz w' hb⟩

set_option maxHeartbeats 6400000 in
set_option maxRecDepth 100000 in
theorem Rf.inner (u : Nat) (hu64 : u < 18446744073709551616) (w : World) (htab : Lib.TabIs Tryz.prog w "internal/strconv.uint64pow10" .u64 Lib.pow10Tab) :
    Calls Tryz.prog 115 #[.int .u64 (u : Int), .int .i64 10] w fun e w' => e = .returned (.string ⟨(Lib.decDigits u).toArray⟩) ∧ Below w.heap.size w w' := by
  by_cases hi : u < 100
  · go_enter Tryz.func115, Tryz.ntmps115
    go_wp2_with fail
    refine (Any.internal_strconv_small Sh.lays283 u hi _).mono ?_
    rintro e w' ⟨rfl, rfl⟩
    go_wp2
    go_ret
    exact ⟨rfl, Below.refl _ _⟩
  · have hu1 : 1 ≤ u := by omega
    have hnd20 : Lib.nDigits u ≤ 20 := by have := Lib.numDigits_eq u hu1 hu64; split at this <;> omega
    have hal : (Tryz.prog).arrayLen 119 = 24 := by simp [Program.arrayLen, Tryz.underlying119]
    have hsl1 : ∀ W, (Instr.sliceAt 119 (.pointer (some ⟨w.heap.size, 0, none⟩)) none (some (.int .i64 (Lib.nDigits u : Int))) none).run Tryz.prog W = .ok (.slice (some ⟨w.heap.size, 0, none⟩) (Lib.nDigits u) 24) W := fun W => by
      rw [run_sliceAt_array_h W 119 ⟨w.heap.size, 0, none⟩ (by simp [Program.arrayLen, Program.elem, Tryz.underlying119]) .i64 (Lib.nDigits u : Int) (by omega) (by rw [hal]; omega)]
      go_simp
    have hH0 := Lib.holds_zero0 w 119 (Lib.nDigits u) (by omega)
    have hfmt := Any.internal_strconv_formatBase10 Sh.lays285 w.heap.size 0 24 u (Array.replicate (Lib.nDigits u) 0) (w.alloc (.cells Lib.zeros24 119)) hH0 (by rw [Array.size_replicate]; exact Lib.lt_pow_nDigits u) hu64 (by rw [Array.size_replicate]; omega)
    rw [Array.size_replicate] at hfmt
    have HH0 := Lib.hid hH0
    have iu : (100 : Int) ≤ (u : Int) := by omega
    clear hH0 hal
    go_enter Tryz.func115, Tryz.ntmps115
    go_wp2_with (go_at_call 109; refine (Any.internal_strconv_numDigits Sh.laysM284 u hu1 hu64 _ (Lib.tabIs_alloc htab _)).mono ?_; rintro e w' ⟨rfl, rfl⟩)
    refine hfmt.mono ?_
    rintro e w' ⟨rfl, k, v', dk, rfl, hF⟩
    have hcv : (convert 44 9 (.slice (some ⟨w.heap.size, 0, none⟩) (Lib.nDigits u) 24)).run Tryz.prog ((putRow (fun (b : UInt8) => Value.int .u8 (b.toNat : Int)) (w.alloc (.cells Lib.zeros24 119)) w.heap.size 0 dk).drewN k) = .ok (.string ⟨(Lib.decDigits u).toArray⟩) ((putRow (fun (b : UInt8) => Value.int .u8 (b.toNat : Int)) (w.alloc (.cells Lib.zeros24 119)) w.heap.size 0 dk).drewN k) := by
      have h := run_convert_bytes_back (P := Tryz.prog) ((putRow (fun (b : UInt8) => Value.int .u8 (b.toNat : Int)) (w.alloc (.cells Lib.zeros24 119)) w.heap.size 0 dk).drewN k) 44 9 5 ⟨w.heap.size, 0, none⟩ 24 (Lib.decDigits u) Tryz.underlying44 Tryz.underlying5 Tryz.underlying9 (fun j hj => by
        rw [Lib.row_is_numeral hF j hj, Lib.add_plain, World.cell?_drewN]
        exact cell?_putRow (fun (b : UInt8) => Value.int .u8 (b.toNat : Int)) _ w.heap.size 0 _ dk HH0.out (by rw [hF.size, Array.size_replicate]) j (by rw [hF.size]; rw [Lib.decDigits_length] at hj; exact hj))
      rw [Lib.decDigits_length] at h
      exact h
    obtain ⟨os, eo⟩ := Lib.fin_at w (.cells Lib.zeros24 119) dk k 0
    have hnx : Below w.heap.size w ((putRow (fun (b : UInt8) => Value.int .u8 (b.toNat : Int)) (w.alloc (.cells Lib.zeros24 119)) w.heap.size 0 dk).drewN k) := by rw [eo]; exact Lib.below_grow w.heap.size w (Nat.le_refl _) k os
    generalize (putRow (fun (b : UInt8) => Value.int .u8 (b.toNat : Int)) (w.alloc (.cells Lib.zeros24 119)) w.heap.size 0 dk).drewN k = W2 at hcv hnx ⊢
    clear eo HH0 hfmt
    go_wp2
    go_ret
    exact ⟨rfl, hnx⟩

theorem Rf.formatUint (u : Nat) (hu64 : u < 18446744073709551616) (w : World) (h : Re.Tabs w) :
    Calls Tryz.prog 89 #[.int .u64 (u : Int), .int .i64 10] w fun e w' => e = .returned (.string ⟨(Lib.decDigits u).toArray⟩) ∧ Below w.heap.size w w' := by
  go_enter Tryz.func89, Tryz.ntmps89
  go_wp2_with fail
  refine (Rf.inner u hu64 _ h.pow).mono ?_
  rintro e w' ⟨rfl, b⟩
  go_wp2
  go_ret
  exact ⟨rfl, b⟩

theorem Rf.itoa (n : Int) (h0 : -9223372036854775808 ≤ n) (h1 : n ≤ 9223372036854775807) (w : World) (h : Re.Tabs w) :
    Calls Tryz.prog 37 #[.int .i64 n] w fun e w' => e = .returned (.string ⟨(Lib.itoa n).toArray⟩) ∧ Below w.heap.size w w' := by
  refine (Any.strconv_Itoa Sh.laysM171 n h0 h1 w h.pow).mono ?_
  rintro e w' ⟨rfl, k, os, rfl⟩
  exact ⟨rfl, Lib.below_grow w.heap.size w (Nat.le_refl _) k os⟩

theorem Rf.tz_at (w : World) (h : Re.Tabs w) (j : Nat) (hj : j < 64) : w.cell? ⟨4, j, none⟩ = some (.int .u8 (Lib.deBruijn64tab.getD j 0 : Nat)) := by
  have := Lib.TabIs.cell h.tz (g := 4) (by kernel_rfl) j (show j < 64 from hj)
  rw [this]
  congr 2
  have ha : ∀ j, j < 64 → Re.tzTab.getD j 0 = ((Lib.deBruijn64tab.getD j 0 : Nat) : Int) := by decide +kernel
  exact ha j hj

theorem Rf.tz_key (x a : Nat) (hx : x < 18446744073709551616) (hx0 : x ≠ 0) (hlow : x &&& (18446744073709551616 - x) = a) :
    IntKind.u64.wrap (bits BinOp.and IntKind.u64 (x : Int) (IntKind.u64.wrap (-(x : Int))) * 285870213051353865) / 288230376151711744 = ((a * 285870213051353865 % 18446744073709551616 / 288230376151711744 : Nat) : Int) := by
  have e1 : IntKind.u64.wrap (-(x : Int)) = ((18446744073709551616 - x : Nat) : Int) := by rw [IntKind.wrap_u64]; omega
  rw [e1, bits_and_u64_nat x _ hx (by omega), hlow, IntKind.wrap_u64]
  omega

set_option maxHeartbeats 1000000 in
theorem Rf.tz_core (x k idx : Nat) (w : World) (hx0 : ((x : Int) == 0) = false)
    (key : IntKind.u64.wrap (bits BinOp.and IntKind.u64 (x : Int) (IntKind.u64.wrap (-(x : Int))) * 285870213051353865) / 288230376151711744 = (idx : Int))
    (hi : idx < 64) (hk : k < 64) (hcell : w.cell? ⟨4, idx, none⟩ = some (.int .u8 k)) :
    Calls Tryz.prog 114 #[.int .u64 (x : Int)] w fun e w' => e = .returned (.int .i64 k) ∧ w' = w := by
  go_enter Tryz.func114, Tryz.ntmps114
  go_wp2_with (simp only [key])
  go_ret
  exact ⟨rfl, rfl⟩

theorem Rf.tz (x : Nat) (hx : x < 18446744073709551616) (hx0 : x ≠ 0) (w : World) (h : Re.Tabs w) :
    Calls Tryz.prog 114 #[.int .u64 (x : Int)] w fun e w' => e = .returned (.int .i64 (Lib.ctz 64 x)) ∧ w' = w := by
  obtain ⟨hlow, hk⟩ := Lib.lowest_bit 64 x hx0 hx
  obtain ⟨hi, htab⟩ := Lib.deBruijn64_at _ hk
  have hcell := Rf.tz_at w h _ hi
  rw [htab] at hcell
  exact Rf.tz_core x _ _ w (by simp; omega) (Rf.tz_key x _ hx hx0 hlow) hi hk hcell
end Go.Proofs.YtboalkfagfgnpaaGreatDoor
/-
  The tables that json.Put and json.Get read.
-/
namespace Go.Proofs.YtboalkfagfgnpaaGreatDoor
open Go.RowKit
/-- the tables that the program reads -/
structure Jt (w : World) : Prop where
  utf : Lib.Utf8Tabs 1 2 w
  re : Re.Tabs w
theorem Jt.on {w w' : World} (h : Jt w) (hb : Below w.heap.size w w') : Jt w' := ⟨Utf8Tabs_below h.utf hb, h.re.on hb⟩
end Go.Proofs.YtboalkfagfgnpaaGreatDoor
/-
  WHAT ALL CARDS OF THIS SEAT SHARE: the tables of unicode/utf8, math/bits and internal/strconv out of the rows' lists, and a world for the witness in which they lie.
-/
namespace Go.Proofs.YtboalkfagfgnpaaGreatDoor
open Go.ChangeShapes Go.WideShapes Go.ChangeAt Go.RowKit

theorem Fr.own : ownKnob Tryz.prog.godebug = none := by kernel_rfl
/-- a variable that reads as a table holds its numbers -/
theorem Fr.tab {P : Program} {W : World} {name : String} {k : IntKind} {zs : List Int} {g : Nat} {t e : TypeId} {n : Nat}
    (hg : P.globalNamed name = some g) (hty : (P.globals[g]?).map (·.type) = some t) (ht : P.underlying t = some (.array n e)) (he : P.underlying e = some (.int k)) (hce : P.cellsOf e = 1) (hct : P.cellsOf t = n)
    (h : Lib.VarReads P W name (Lib.tabData k zs)) : Lib.TabIs P W name k zs := by
  obtain ⟨g', t', cs, fuel, p, hg', ht', hvar, hd⟩ := h
  obtain rfl := Option.some.inj (hg.symm.trans hg')
  obtain rfl := Option.some.inj (hty.symm.trans ht')
  unfold Lib.TabIs
  rw [hvar, ← Lib.cells_of_tab ht he hce hct hd]
theorem Fr.e64 : (Rows.laid_math_bits_deBruijn64tab : DataW Unit) = Lib.tabData .u8 Re.tzTab := by kernel_rfl
theorem Fr.e10 : (Rows.laid_internal_strconv_uint64pow10 : DataW Unit) = Lib.tabData .u64 Lib.pow10Tab := by kernel_rfl
set_option maxRecDepth 100000 in
theorem Fr.acc : (Rows.laid_unicode_utf8_acceptRanges : DataW Unit) = Lib.acceptData := by kernel_rfl
theorem Fr.extra : U8Extra Tryz.prog Sh.lays260_ren := ⟨by kernel_rfl, by kernel_rfl, by kernel_rfl, by kernel_rfl, by kernel_rfl, by kernel_rfl, by kernel_rfl⟩

/-- WHAT THE ROWS' LIST GIVES: the tables lie as Go lays them. -/
theorem Fr.tabs {W : World} (h : laidMet Tryz.prog Rows.jsonsRow.laid W) : Jt W := by
  have h2 := Lib.laidMet.reads h (.tail _ (.head _))
  have h3 := Lib.laidMet.reads h (.tail _ (.tail _ (.head _)))
  have h4 := Lib.laidMet.reads h (.tail _ (.tail _ (.tail _ (.head _))))
  have h5 := Lib.laidMet.reads h (.tail _ (.tail _ (.tail _ (.tail _ (.head _)))))
  have e5 : Rows.laid_unicode_utf8_first = Lib.firstData := Pinned.utf8First_eq
  rw [Fr.e64] at h2
  rw [Fr.e10] at h3
  rw [Fr.acc] at h4
  rw [e5] at h5
  exact ⟨utf8Tabs_of_reads (ρ := Sh.lays260_ren) Sh.lays260 Fr.extra h5 h4,
    Fr.tab (g := 3) (t := 132) (by kernel_rfl) (by kernel_rfl) Tryz.underlying132 Tryz.underlying22 (by kernel_rfl) (by kernel_rfl) h3,
    Fr.tab (g := 4) (t := 138) (by kernel_rfl) (by kernel_rfl) Tryz.underlying138 Tryz.underlying5 (by kernel_rfl) (by kernel_rfl) h2⟩

/-- a block's cells, laid anew -/
def Fr.put (k : IntKind) (cs : List Nat) : Obj → Obj
  | .cells _ t frozen => .cells (cs.map fun z : Nat => Value.int k z).toArray t frozen
  | o => o
def Fr.ranges : List Nat := [128, 191, 160, 191, 128, 159, 144, 191, 128, 143, 0, 0, 0, 0, 0, 0, 0, 0, 0, 0, 0, 0, 0, 0, 0, 0, 0, 0, 0, 0, 0, 0]
/-- FOR THE WITNESS's WORLD: the tables holding what their initialisers lay. -/
def Fr.lay (w : World) : World := { w with heap := ((((w.heap.modify 4 (Fr.put .u8 Lib.deBruijn64tab)).modify 6 (Fr.put .u8 Lib.deBruijn32tab)).modify 3 (Fr.put .u64 ((List.range 20).map fun i => 10 ^ i))).modify 1 (Fr.put .u8 Pinned.utf8FirstZ)).modify 2 (Fr.put .u8 Fr.ranges) }
/-- what an argument's kind says of it -/
theorem Fr.u64 {n : Int} (h : (Lit.int .u64 n).wf = true) : ∃ m : Nat, n = (m : Int) ∧ m < 18446744073709551616 := by
  simp [Lit.wf, IntKind.min, IntKind.max, IntKind.signed, IntKind.bits] at h
  exact ⟨n.toNat, by omega, by omega⟩
theorem Fr.i64 {n : Int} (h : (Lit.int .i64 n).wf = true) : -9223372036854775808 ≤ n ∧ n ≤ 9223372036854775807 := by
  simp [Lit.wf, IntKind.min, IntKind.max, IntKind.signed, IntKind.bits] at h
  omega
end Go.Proofs.YtboalkfagfgnpaaGreatDoor
/-
  TREES OF VALUES: api.Value as a tree, what the program's isFormed, areKeys, mayStand come to of it, and where a tree lies in memory.
-/
namespace Go.Proofs.YtboalkfagfgnpaaGreatDoor
open Go.RowKit

inductive Vt where
  | nil
  | mk (kind num : Int) (bits : Nat) (text : ByteArray) (n : Nat) (items : Nat → Vt) (m : Nat) (keys : Nat → ByteArray)

/-- the key ahead of key j -/
def Vt.prev (ks : Nat → ByteArray) : Nat → ByteArray
  | 0 => ⟨#[]⟩
  | j + 1 => ks j
/-- may key j follow? -/
def Vt.key (ks : Nat → ByteArray) (j : Nat) : Bool := !(Op.bytesLess (ks j).toList (Vt.prev ks j).toList || (ks j).toList == (Vt.prev ks j).toList) && decide ((ks j).size ≤ 32)
def Vt.keysOk (ks : Nat → ByteArray) : Nat → Bool
  | 0 => true
  | j + 1 => Vt.keysOk ks j && Vt.key ks j
theorem Vt.keysOk_of {ks : Nat → ByteArray} {m j : Nat} (h : Vt.keysOk ks m = true) (hj : j < m) : Vt.key ks j = true := by
  induction m with
  | zero => omega
  | succ m ih =>
    simp only [Vt.keysOk, Bool.and_eq_true] at h
    by_cases e : j = m
    · rw [e]; exact h.2
    · exact ih h.1 (by omega)
theorem Vt.keysOk_no {ks : Nat → ByteArray} {m j : Nat} (h : Vt.key ks j = false) (hj : j < m) : Vt.keysOk ks m = false := by
  cases e : Vt.keysOk ks m with
  | false => rfl
  | true => rw [Vt.keysOk_of e hj] at h; cases h

/-- may a value be, but for its items? -/
def Vt.formed (k x : Int) (b : Nat) (s : ByteArray) (n m : Nat) (ks : Nat → ByteArray) : Bool :=
  if k = 0 then decide (x = 0) && decide (b = 0) && s.toList.isEmpty && decide (n = 0) && decide (m = 0)
  else if k = 1 then (decide (x = 0) || decide (x = 1)) && decide (b = 0) && s.toList.isEmpty && decide (n = 0) && decide (m = 0)
  else if k = 2 then decide (-9007199254740991 ≤ x) && decide (x ≤ 9007199254740991) && decide (b = 0) && s.toList.isEmpty && decide (n = 0) && decide (m = 0)
  else if k = 3 then decide (x = 0) && s.toList.isEmpty && decide (n = 0) && decide (m = 0)
  else if k = 4 then decide (s.size ≤ 65536) && decide (x = 0) && decide (b = 0) && decide (n = 0) && decide (m = 0)
  else if k = 5 then decide (n ≤ 64) && decide (x = 0) && decide (b = 0) && s.toList.isEmpty && decide (m = 0)
  else if k = 6 then decide (n ≤ 64) && decide (m = n) && Vt.keysOk ks m && decide (x = 0) && decide (b = 0) && s.toList.isEmpty
  else false

/-- one behind the other, as long as each says yes -/
def Vt.run (f : Nat → Int → Bool × Int) : Nat → Int → Bool × Int
  | 0, L => (true, L)
  | n + 1, L => if (Vt.run f n L).1 then f n (Vt.run f n L).2 else Vt.run f n L
theorem Vt.run_no {f : Nat → Int → Bool × Int} {L : Int} {i : Nat} (h : (Vt.run f i L).1 = false) : ∀ n, i ≤ n → Vt.run f n L = Vt.run f i L := by
  intro n hn
  induction n with
  | zero => rw [Nat.le_zero.1 hn]
  | succ n ih =>
    by_cases e : i = n + 1
    · rw [e]
    · have := ih (by omega)
      simp only [Vt.run]
      rw [this, h]
      simp

/-- may a tree stand at this depth, with so many values left? and how many are left then -/
def Vt.stand : Vt → Int → Int → Bool × Int
  | .nil, _, left => (false, left)
  | .mk k x b s n it m ks, deep, left =>
    if left - 1 < 0 ∨ 8 < deep ∨ Vt.formed k x b s n m ks = false then (false, left - 1)
    else Vt.run (fun i L => (it i).stand (deep + 1) L) n (left - 1)
def Vt.may (t : Vt) : Bool := (t.stand 1 1024).1

/-- m texts, one cell each, at the place that a slice names -/
structure Vt.Keys (w : World) (R : Nat → Prop) (m : Nat) (ks : Nat → ByteArray) (ak : Option Addr) (d : Nat) : Prop where
  le : m ≤ d
  max : d ≤ maxLen
  cell : ∀ j, j < m → ∃ b o, ak = some ⟨b, o, none⟩ ∧ R b ∧ w.cell? ⟨b, o + j, none⟩ = some (.string (ks j))
theorem Vt.Keys.on {w w' : World} {R R' : Nat → Prop} {m : Nat} {ks : Nat → ByteArray} {ak : Option Addr} {d : Nat} (h : Vt.Keys w R m ks ak d) (hw : ∀ k, R k → R' k ∧ w'.heap[k]? = w.heap[k]?) : Vt.Keys w' R' m ks ak d :=
  ⟨h.le, h.max, fun j hj => by
    obtain ⟨b, o, e, r, c⟩ := h.cell j hj
    refine ⟨b, o, e, (hw b r).1, ?_⟩
    unfold World.cell? at c ⊢
    rw [(hw b r).2]
    exact c⟩

/-- the tree lies in memory, in blocks of R alone, and v is its root -/
def Vt.Lies (w : World) (R : Nat → Prop) : Vt → Value → Prop
  | .nil, _ => False
  | .mk k x b s n it m ks, v => ∃ ai c ak d, v = .agg #[.int .i64 k, .int .i64 x, .int .u64 (b : Int), .string s, .slice ai n c, .slice ak m d] ∧ b < 18446744073709551616 ∧ n ≤ c ∧ c ≤ maxLen ∧ Vt.Keys w R m ks ak d ∧
    ∀ i, i < n → ∃ bi oi v0 v1 v2 v3 v4 v5, ai = some ⟨bi, oi, none⟩ ∧ R bi ∧ w.cell? ⟨bi, oi + i * 6, none⟩ = some v0 ∧ w.cell? ⟨bi, oi + i * 6 + 1, none⟩ = some v1 ∧ w.cell? ⟨bi, oi + i * 6 + 2, none⟩ = some v2 ∧ w.cell? ⟨bi, oi + i * 6 + 3, none⟩ = some v3 ∧ w.cell? ⟨bi, oi + i * 6 + 4, none⟩ = some v4 ∧ w.cell? ⟨bi, oi + i * 6 + 5, none⟩ = some v5 ∧ (it i).Lies w R (.agg #[v0, v1, v2, v3, v4, v5])
theorem Vt.cell_on {w w' : World} {b o : Nat} {v : Value} (hw : w'.heap[b]? = w.heap[b]?) (h : w.cell? ⟨b, o, none⟩ = some v) : w'.cell? ⟨b, o, none⟩ = some v := by
  unfold World.cell? at h ⊢
  rw [hw]
  exact h
theorem Vt.cell_lt {w : World} {b o : Nat} {v : Value} (h : w.cell? ⟨b, o, none⟩ = some v) : b < w.heap.size := by
  cases Nat.lt_or_ge b w.heap.size with
  | inl h' => exact h'
  | inr h' =>
    unfold World.cell? at h
    rw [Array.getElem?_eq_none h'] at h
    cases h
theorem Vt.Lies.on {w w' : World} {R R' : Nat → Prop} (hw : ∀ k, R k → R' k ∧ w'.heap[k]? = w.heap[k]?) : ∀ {t : Vt} {v : Value}, t.Lies w R v → t.Lies w' R' v := by
  intro t
  induction t with
  | nil => intro v h; exact h.elim
  | mk k x b s n it m ks ih =>
    rintro v ⟨ai, c, ak, d, rfl, hb, hn, hc, hk, hi⟩
    refine ⟨ai, c, ak, d, rfl, hb, hn, hc, hk.on hw, fun i hin => ?_⟩
    obtain ⟨bi, oi, v0, v1, v2, v3, v4, v5, e, r, c0, c1, c2, c3, c4, c5, hl⟩ := hi i hin
    have hh := (hw bi r).2
    exact ⟨bi, oi, v0, v1, v2, v3, v4, v5, e, (hw bi r).1, Vt.cell_on hh c0, Vt.cell_on hh c1, Vt.cell_on hh c2, Vt.cell_on hh c3, Vt.cell_on hh c4, Vt.cell_on hh c5, ih i hl⟩
instance : Inhabited Vt := ⟨.nil⟩
theorem Vt.Lies.cells {w : World} {R : Nat → Prop} {t : Vt} {v0 v1 v2 v3 v4 v5 : Value} (h : t.Lies w R (.agg #[v0, v1, v2, v3, v4, v5])) :
    ∃ (k x : Int) (b : Nat) (s : ByteArray) (ai : Option Addr) (n c : Nat) (ak : Option Addr) (m d : Nat), v0 = .int .i64 k ∧ v1 = .int .i64 x ∧ v2 = .int .u64 (b : Int) ∧ v3 = .string s ∧ v4 = .slice ai n c ∧ v5 = .slice ak m d := by
  cases t with
  | nil => exact h.elim
  | mk k x b s n it m ks =>
    obtain ⟨ai, c, ak, d, e, _⟩ := h
    injection e with e
    injection e with e
    injection e with e0 e
    injection e with e1 e
    injection e with e2 e
    injection e with e3 e
    injection e with e4 e
    injection e with e5 e
    exact ⟨k, x, b, s, ai, n, c, ak, m, d, e0, e1, e2, e3, e4, e5⟩
theorem Vt.Lies.below {w w' : World} {B : Nat} {t : Vt} {v : Value} (h : t.Lies w (· < B) v) (hb : Below B w w') : t.Lies w' (· < B) v :=
  h.on fun k hk => ⟨hk, hb.block k hk⟩
theorem Vt.Lies.le {w : World} {B B' : Nat} {t : Vt} {v : Value} (h : t.Lies w (· < B) v) (hb : B ≤ B') : t.Lies w (· < B') v :=
  h.on fun _ hk => ⟨Nat.lt_of_lt_of_le hk hb, rfl⟩
end Go.Proofs.YtboalkfagfgnpaaGreatDoor
/-
  THE WALKS of the program's value.areKeys.
-/
namespace Go.Proofs.YtboalkfagfgnpaaGreatDoor
open Go.RowKit

set_option maxRecDepth 100000 in
theorem Vm.keys (m : Nat) (ks : Nat → ByteArray) (ak : Option Addr) (d : Nat) (R : Nat → Prop) (w : World) (h : Vt.Keys w R m ks ak d) :
    Calls Tryz.prog 80 #[.slice ak m d] w fun e w' => e = .returned (.bool (Vt.keysOk ks m)) ∧ w' = w := by
  have hm : m ≤ 9223372036854775807 := by have := h.le; have := h.max; unfold maxLen at this; omega
  go_enter Tryz.func80, Tryz.ntmps80
  go_wp2
  go_loop [3, 8] (fun p i => ∃ j : Nat, j ≤ m ∧ i = .int .i64 j ∧ p = .string (Vt.prev ks j) ∧ Hid (Vt.keysOk ks j = true)) (fun _ i => m - (intOf i).toNat)
  case atStart => exact ⟨0, Nat.zero_le _, by go_num, rfl, rfl⟩
  case round =>
    obtain ⟨j, hj, rfl, rfl, HK⟩ := hrel
    by_cases hjm : j < m
    · obtain ⟨b, o, rfl, _, hc⟩ := h.cell j hjm
      have hle : j < d := Nat.lt_of_lt_of_le hjm h.le
      have hmd := h.le
      have HN : Hid (Vt.key ks j = (!(Op.bytesLess (ks j).toList (Vt.prev ks j).toList || (ks j).toList == (Vt.prev ks j).toList) && decide ((ks j).size ≤ 32))) := rfl
      have HP : Hid (Vt.prev ks (j + 1) = ks j) := rfl
      have HA : Hid (Vt.key ks j = false → Vt.keysOk ks m = false) := fun hx => Vt.keysOk_no hx hjm
      have HB : Hid (Vt.key ks j = true → Vt.keysOk ks (j + 1) = true) := fun hx => by simp only [Vt.keysOk]; rw [HK.out, hx]; rfl
      generalize hX : ks j = X at *
      clear hX
      generalize Vt.prev ks j = Y at *
      cases hl : (Op.bytesLess X.toList Y.toList || X.toList == Y.toList) with
      | true =>
        have HX : Hid (Vt.key ks j = false) := by
          have := HN.out
          rw [hl] at this
          exact this
        clear HN
        go_wp2
        go_ret
        rw [HA.out HX.out]
        exact ⟨rfl, rfl⟩
      | false =>
        by_cases hs : X.size ≤ 32
        · have hs' : decide (32 < (X.size : Int)) = false := decide_eq_false (by omega)
          have HX : Hid (Vt.key ks j = true) := by
            have := HN.out
            rw [hl, decide_eq_true hs] at this
            exact this
          clear HN
          go_wp2
          refine ⟨⟨j + 1, by omega, by go_num, by rw [HP.out], HB.out HX.out⟩, ?_⟩
          simp [intOf]
          omega
        · have hs' : decide (32 < (X.size : Int)) = true := decide_eq_true (by omega)
          have HX : Hid (Vt.key ks j = false) := by
            have := HN.out
            rw [hl, decide_eq_false hs] at this
            exact this
          clear HN
          go_wp2
          go_ret
          rw [HA.out HX.out]
          exact ⟨rfl, rfl⟩
    · have e : j = m := by omega
      subst e
      go_wp2
      go_ret
      rw [HK.out]
      exact ⟨rfl, rfl⟩

end Go.Proofs.YtboalkfagfgnpaaGreatDoor
