/-
  The library's contracts that the walks lean on, laid at this program's own numbers: strings.Builder's WriteRune and Len, and strings.HasPrefix.
-/
import Derived.Shelf.Strings.BuilderRune
import Derived.Shelf.Strings.Prefix
import Derived.Shelf.Strings.BuilderF
import Derived.Test.YtiajclmhimkpnaaDoorBShelftoPlain
import Derived.Test.YtiajclmhimkpnaaDoorBQPlaintoNorm
import Derived.Lib.OthersKept
import Derived.Lib.Hide
namespace Go.Proofs.YtiajclmhimkpnaaDoor
open Go.Shelf
def Sh.lays168_ren : Go.Shelf.Ren := ⟨fun | 168 => 27 | 240 => 34 | 242 => 37 | 276 => 47 | 278 => 49 | n => n, fun | 0 => 0 | 3 => 3 | 4 => 4 | 5 => 5 | 9 => 9 | 20 => 20 | 21 => 21 | 37 => 35 | 46 => 36 | 51 => 76 | 70 => 46 | 72 => 48 | 75 => 52 | 80 => 56 | 164 => 73 | n => n, fun | n => n⟩
theorem Sh.lays168 : Go.Proofs.Lays.n168 Tryd.prog Sh.lays168_ren := {
  mixed := by kernel_rfl
  f168 := Tryd.func27.trans (congrArg some (by kernel_rfl))
  f240 := Tryd.func34.trans (congrArg some (by kernel_rfl))
  f242 := Tryd.func37.trans (congrArg some (by kernel_rfl))
  f276 := Tryd.func47.trans (congrArg some (by kernel_rfl))
  f278 := Tryd.func49.trans (congrArg some (by kernel_rfl))
  t0 := Tryd.underlying0
  a0 := Tryd.isAgg0
  z0 := Tryd.sizeOf0
  v0 := Tryd.zeroValue0
  t3 := Tryd.underlying3
  a3 := Tryd.isAgg3
  z3 := Tryd.sizeOf3
  v3 := Tryd.zeroValue3
  t4 := Tryd.underlying4
  a4 := Tryd.isAgg4
  z4 := Tryd.sizeOf4
  v4 := Tryd.zeroValue4
  t5 := Tryd.underlying5
  a5 := Tryd.isAgg5
  z5 := Tryd.sizeOf5
  v5 := Tryd.zeroValue5
  t9 := Tryd.underlying9
  a9 := Tryd.isAgg9
  z9 := Tryd.sizeOf9
  v9 := Tryd.zeroValue9
  t20 := Tryd.underlying20
  a20 := Tryd.isAgg20
  z20 := Tryd.sizeOf20
  v20 := Tryd.zeroValue20
  t21 := Tryd.underlying21
  a21 := Tryd.isAgg21
  z21 := Tryd.sizeOf21
  v21 := Tryd.zeroValue21
  t37 := Tryd.underlying35
  a37 := Tryd.isAgg35
  z37 := Tryd.sizeOf35
  v37 := Tryd.zeroValue35
  t46 := Tryd.underlying36
  a46 := Tryd.isAgg36
  z46 := Tryd.sizeOf36
  v46 := Tryd.zeroValue36
  t51 := Tryd.underlying76
  a51 := Tryd.isAgg76
  z51 := Tryd.sizeOf76
  v51 := Tryd.zeroValue76
  t70 := Tryd.underlying46
  a70 := Tryd.isAgg46
  z70 := Tryd.sizeOf46
  v70 := Tryd.zeroValue46
  t72 := Tryd.underlying48
  a72 := Tryd.isAgg48
  z72 := Tryd.sizeOf48
  v72 := Tryd.zeroValue48
  t75 := Tryd.underlying52
  a75 := Tryd.isAgg52
  z75 := Tryd.sizeOf52
  v75 := Tryd.zeroValue52
  t164 := Tryd.underlying73
  a164 := Tryd.isAgg73
  z164 := Tryd.sizeOf73
  v164 := Tryd.zeroValue73 }
theorem Sh.Builder_Extra_168 : Builder.Extra Tryd.prog Sh.lays168_ren := {
  sizeBuilder := by kernel_rfl
  liesBuilder := by kernel_rfl
  t5 := Tryd.underlying5
  a5 := Tryd.isAgg5
  z5 := Tryd.sizeOf5
  v5 := Tryd.zeroValue5
  infoByte := by kernel_rfl
  cellsByte := by kernel_rfl
  sizeByte := by kernel_rfl
  neB5 := by decide }
open Go.RowKit in
theorem Sh.Builder_WriteRune_k (B b : Nat) (bs : List Value) (r : Int) (hr0 : -2147483648 ≤ r) (hr1 : r ≤ 2147483647) (w : World) (h : Lib.IsBuilderF 48 5 B b bs w) (hlen : bs.length + 4 ≤ 140737488355328) (hBw : B ≤ w.heap.size) :
    Calls Tryd.prog 27 #[.pointer (some ⟨b, 0, none⟩), .int .i32 r] w fun e w' => e = .returned (.tuple #[.int .i64 (Lib.runeCells r).length, .nilIface]) ∧ (Lib.BuilderAtF 48 5 B b (.pointer (some ⟨b, 0, none⟩)) (bs ++ Lib.runeCells r) w' ∧ Below B w w' ∧ Lib.OthersKept 5 (some b) w w') := Any.Builder_WriteRune_k Sh.lays168 Sh.Builder_Extra_168 B b bs r hr0 hr1 w h hlen hBw
def Sh.lays99_ren : Go.Shelf.Ren := ⟨fun | 99 => 51 | 206 => 59 | n => n, fun | 9 => 9 | 3 => 3 | 4 => 4 | n => n, fun | n => n⟩
theorem Sh.lays99 : Go.Proofs.Lays.n99 Tryd.prog Sh.lays99_ren := {
  mixed := by kernel_rfl
  f99 := Tryd.func51.trans (congrArg some (by kernel_rfl))
  f206 := Tryd.func59.trans (congrArg some (by kernel_rfl))
  t3 := Tryd.underlying3
  a3 := Tryd.isAgg3
  z3 := Tryd.sizeOf3
  v3 := Tryd.zeroValue3
  t4 := Tryd.underlying4
  a4 := Tryd.isAgg4
  z4 := Tryd.sizeOf4
  v4 := Tryd.zeroValue4
  t9 := Tryd.underlying9
  a9 := Tryd.isAgg9
  z9 := Tryd.sizeOf9
  v9 := Tryd.zeroValue9 }
open Go.RowKit in
theorem Sh.strings_HasPrefix (s p : ByteArray) (w : World) :
    Calls Tryd.prog 51 #[.string s, .string p] w fun e w' => e = .returned (.bool (Lib.hasPrefix s.data.toList p.data.toList)) ∧ w' = w := Any.strings_HasPrefix Sh.lays99 s p w
end Go.Proofs.YtiajclmhimkpnaaDoor
/-
  THE WALKS of script.writeNumber and script.Escape.
-/
namespace Go.Proofs.YtiajclmhimkpnaaDoor
open Go.RowKit
theorem Jw.cat (acc l : List UInt8) : Lib.byteCells acc ++ Lib.byteCells l = Lib.byteCells (acc ++ l) := by rw [Lib.byteCells_append]
theorem Jw.cat1 (acc : List UInt8) (c : UInt8) : Lib.byteCells acc ++ [.int .u8 (c.toNat : Int)] = Lib.byteCells (acc ++ [c]) := by rw [Lib.byteCells_append]; rfl
theorem Jw.dig : ∀ n, n < 16 → ∀ h, (⟨#[48, 49, 50, 51, 52, 53, 54, 55, 56, 57, 97, 98, 99, 100, 101, 102]⟩ : ByteArray)[n]'h = Js.hex n := by decide
theorem Jw.and15 (c : UInt8) : bits .and .u8 (c.toNat : Int) 15 = (c.toNat : Int) % 16 :=
  of_decide_eq_true (Ug.all (p := fun c => decide (bits .and .u8 (c.toNat : Int) 15 = (c.toNat : Int) % 16)) (by decide +kernel) c)
set_option maxRecDepth 100000 in
set_option maxHeartbeats 2000000 in
theorem Jw.number (c : UInt8) (B b : Nat) (acc : List UInt8) (w : World) (h : Lib.IsBuilderF 48 5 B b (Lib.byteCells acc) w) (hlen : acc.length + 6 ≤ 140737488355328) (hBw : B ≤ w.heap.size) :
    Calls Tryd.prog 25 #[.pointer (some ⟨b, 0, none⟩), .int .u8 (c.toNat : Int)] w fun e w' => e = .returned (.tuple #[]) ∧ Lib.IsBuilderF 48 5 B b (Lib.byteCells (acc ++ [92, 117, 48, 48, Js.hex (c.toNat / 16), Js.hex (c.toNat % 16)])) w' ∧ Below B w w' ∧ Lib.OthersKept 5 (some b) w w' := by
  have hc := c.toNat_lt
  have e15 := Jw.and15 c
  have hsh : (c.toNat : Int) / 16 = ((c.toNat / 16 : Nat) : Int) := by omega
  have hm : (c.toNat : Int) % 16 = ((c.toNat % 16 : Nat) : Int) := by omega
  rw [hm] at e15
  have hA16 : c.toNat / 16 < 16 := by omega
  have hB16 : c.toNat % 16 < 16 := by omega
  generalize c.toNat / 16 = A at *
  generalize c.toNat % 16 = D at *
  have xA : ∀ h, (⟨#[48, 49, 50, 51, 52, 53, 54, 55, 56, 57, 97, 98, 99, 100, 101, 102]⟩ : ByteArray)[A]'h = Js.hex A := fun h => Jw.dig A hA16 h
  have xB : ∀ h, (⟨#[48, 49, 50, 51, 52, 53, 54, 55, 56, 57, 97, 98, 99, 100, 101, 102]⟩ : ByteArray)[D]'h = Js.hex D := fun h => Jw.dig D hB16 h
  have hAi : (A : Int) < 16 := by omega
  have hDi : (D : Int) < 16 := by omega
  have c1 := Sh.Builder_WriteString_k B b (Lib.byteCells acc) ⟨#[92, 117, 48, 48]⟩ w h (by rw [Lib.byteCells_length, show (⟨#[92, 117, 48, 48]⟩ : ByteArray).size = 4 from rfl]; omega) hBw
  clear h hm
  go_enter Tryd.func25, Tryd.ntmps25
  go_wp2_with fail
  refine c1.mono ?_
  rintro e w1 ⟨rfl, i1, b1, k1⟩
  have HI1 : Hid (Lib.IsBuilderF 48 5 B b (Lib.byteCells (acc ++ [92, 117, 48, 48])) w1) := by unfold Hid; rw [Lib.byteCells_append]; exact .inr i1
  have HB1 := Lib.hid b1
  have HK1 := Lib.hid k1
  have hl4 : (acc ++ [92, 117, 48, 48]).length = acc.length + 4 := by simp
  clear i1 b1 k1 c1
  generalize hac4 : acc ++ [92, 117, 48, 48] = acc4 at *
  have HC4 := Lib.hid hac4
  clear hac4
  go_wp2_with fail
  refine (Sh.Builder_WriteByte_k B b (Lib.byteCells acc4) _ w1 HI1.out (by rw [Lib.byteCells_length]; omega) (Nat.le_trans hBw HB1.out.size)).mono ?_
  rintro e w2 ⟨rfl, i2, b2, k2⟩
  rw [Jw.cat1] at i2
  have HI2 : Hid (Lib.IsBuilderF 48 5 B b (Lib.byteCells (acc4 ++ [Js.hex A])) w2) := .inr i2
  have HB2 := Lib.hid (HB1.out.trans b2)
  have HK2 := Lib.hid (HK1.out.trans k2)
  clear i2 b2 k2 HI1 HB1 HK1
  go_wp2_with fail
  refine (Sh.Builder_WriteByte_k B b (Lib.byteCells (acc4 ++ [Js.hex A])) _ w2 HI2.out (by rw [Lib.byteCells_length, List.length_append]; simp; omega) (Nat.le_trans hBw HB2.out.size)).mono ?_
  rintro e w3 ⟨rfl, i3, b3, k3⟩
  rw [Jw.cat1] at i3
  have HI3 : Hid (Lib.IsBuilderF 48 5 B b (Lib.byteCells (acc ++ [92, 117, 48, 48, Js.hex A, Js.hex D])) w3) := by
    have q : acc ++ [92, 117, 48, 48, Js.hex A, Js.hex D] = (acc4 ++ [Js.hex A]) ++ [Js.hex D] := by rw [← HC4.out]; simp
    unfold Hid
    rw [q]
    exact .inr i3
  have HB3 := Lib.hid (HB2.out.trans b3)
  have HK3 := Lib.hid (HK2.out.trans k3)
  clear i3 b3 k3 HI2 HB2 HK2
  go_wp2
  go_end0
  exact ⟨rfl, HI3.out, HB3.out, HK3.out⟩
def Jw.PB : List UInt8 := [65, 66, 67, 68, 69, 70, 71, 72, 73, 74, 75, 76, 77, 78, 79, 80, 81, 82, 83, 84, 85, 86, 87, 88, 89, 90, 97, 98, 99, 100, 101, 102, 103, 104, 105, 106, 107, 108, 109, 110, 111, 112, 113, 114].append [115, 116, 117, 118, 119, 120, 121, 122, 48, 49, 50, 51, 52, 53, 54, 55, 56, 57, 32, 33, 35, 36, 37, 40, 41, 42, 43, 44, 45, 46, 47, 58, 59, 61, 63, 64, 91, 93, 94, 95, 123, 124, 125, 126]
theorem Jw.PB_has (c : UInt8) : Bs.has Jw.PB c = Js.stays c :=
  eq_of_beq (Ug.all (p := fun c => Bs.has Jw.PB c == Js.stays c) (by decide +kernel) c)
theorem Jw.set : ∃ a0 a1 a2 a3 : Int,
    (∀ u, Calls Tryd.prog 22 #[.string ⟨Jw.PB.toArray⟩] u fun e w' => e = .returned (.agg #[.int .u64 a0, .int .u64 a1, .int .u64 a2, .int .u64 a3]) ∧ Below u.heap.size u w') ∧
    (∀ (c : UInt8) u, Calls Tryd.prog 24 #[.agg #[.int .u64 a0, .int .u64 a1, .int .u64 a2, .int .u64 a3], .int .u8 (c.toNat : Int)] u fun e w' => e = .returned (.bool (Js.stays c)) ∧ Below u.heap.size u w') :=
  ⟨_, _, _, _, fun u => Bs.Of ⟨Jw.PB.toArray⟩ u (by decide), fun c u => by rw [← Jw.PB_has c]; exact Bs.Has Jw.PB c u⟩
theorem Jw.norm_may (l : List UInt8) : Pl.mayL (Pl.normL l) = true := Pl.may_norm l
set_option maxRecDepth 100000 in
set_option maxHeartbeats 4000000 in
theorem Jw.escape (s : ByteArray) (w : World) (hT : Lib.Utf8Tabs 1 2 w) (hs : s.size ≤ 1099511627776) :
    Calls Tryd.prog 12 #[.string s] w fun e w' => e = .returned (.string ⟨(Js.esc s.data.toList).toArray⟩) ∧ Below w.heap.size w w' := by
  have nm := Wk.norm s w hT (by omega)
  obtain ⟨a0, a1, a2, a3, of1, has1⟩ := Jw.set
  unfold Jw.PB at of1
  have HNM : Hid (Pl.mayL (Pl.normL s.data.toList) = true) := Jw.norm_may _
  have HNL : Hid ((Pl.normL s.data.toList).length ≤ 3298534883328) := by
    have := Pl.norm_short s.data.toList
    rw [Wk.len_data] at this
    unfold Hid
    omega
  unfold Js.esc
  generalize Pl.normL s.data.toList = L at *
  obtain ⟨T, hTT⟩ : ∃ T : ByteArray, T = ⟨L.toArray⟩ := ⟨_, rfl⟩
  have hTL : T.data.toList = L := by rw [hTT]
  rw [← hTT] at nm
  rw [← hTL] at HNL HNM ⊢
  rw [Wk.len_data] at HNL
  have hT63 : T.size ≤ 3298534883328 := HNL.out
  clear hTT hTL hs hT HNL
  obtain ⟨RR, hRR⟩ : ∃ RR, Js.escS T.data.toList = RR := ⟨_, rfl⟩
  rw [hRR]
  have HRR := Lib.hid hRR
  clear hRR
  go_enter Tryd.func12, Tryd.ntmps12
  go_wp2_with (first | (go_at_call 21; refine nm.mono ?_; rintro e w1 ⟨rfl, b1⟩; have HB1 := Lib.hid b1; clear b1 nm) | (go_at_call 22; refine (of1 _).mono ?_; rintro e w2 ⟨rfl, b2⟩; have HB2 := Lib.hid (Wk.below_step HB1.out b2); clear b2 of1))
  have hz1 : (w2.alloc (.cells #[.int .u64 a0, .int .u64 a1, .int .u64 a2, .int .u64 a3] 44)).heap.size = w2.heap.size + 1 := by simp
  have hnew := heap_alloc_new (w2.alloc (.cells #[.int .u64 a0, .int .u64 a1, .int .u64 a2, .int .u64 a3] 44)) (.cells #[.pointer none, .slice none 0 0] 48)
  rw [hz1] at hnew
  have c0 := Sh.Builder_Grow_fresh (w2.heap.size + 1) (w2.heap.size + 1) T.size ((w2.alloc (.cells #[.int .u64 a0, .int .u64 a1, .int .u64 a2, .int .u64 a3] 44)).alloc (.cells #[.pointer none, .slice none 0 0] 48)) (Nat.le_refl _) hnew (by simp) (by omega)
  refine c0.mono ?_
  rintro e w3 ⟨rfl, hI3, b3⟩
  have HI3 : Hid (Lib.IsBuilderF 48 5 (w2.heap.size + 1) (w2.heap.size + 1) (Lib.byteCells []) w3) := .inr (Lib.BuilderAtF.of hI3)
  have HX3 : Hid (Bs.Box w3 w2.heap.size #[.int .u64 a0, .int .u64 a1, .int .u64 a2, .int .u64 a3] 44) := (b3.block _ (Nat.lt_succ_self _)).trans ((Bs.Box.new w2 _ _ _ rfl).alloc _)
  have HB3 : Hid (Below (w2.heap.size + 1) (w2.alloc (.cells #[.int .u64 a0, .int .u64 a1, .int .u64 a2, .int .u64 a3] 44)) w3) := ((Below.refl _ _).alloc (by simp) _).trans b3
  have hs3 : w2.heap.size + 1 < w3.heap.size := Nat.lt_of_lt_of_le (by simp) b3.size
  have HW3 : Hid (Below w.heap.size w w3) := by
    unfold Hid
    refine HB2.out.trans ?_
    exact (((Below.refl w.heap.size w2).alloc HB2.out.size _).alloc (by simp; have := HB2.out.size; omega) _).trans (b3.mono (by have := HB2.out.size; omega))
  clear c0 hI3 b3 hnew hz1 HB3
  have hwB : w.heap.size ≤ w2.heap.size := HB2.out.size
  generalize w2.heap.size = S0 at *
  clear HB1 HB2
  go_wp2_with fail
  generalize hK : w3.heap.size = K at *
  have HK0 : Hid ((w3.iter T 0).heap[K]? = some (.stringIter T 0)) := by
    unfold Hid
    rw [← hK]
    exact World.iter_heap w3 T 0
  go_loopw [] (fun wr => ∃ (pos : Nat) (acc : List UInt8), pos ≤ T.size ∧ Hid (acc ++ Js.escS (T.data.toList.drop pos) = RR) ∧ Hid (Pl.mayL (T.data.toList.drop pos) = true) ∧ Hid (Lib.IsBuilderF 48 5 (S0 + 1) (S0 + 1) (Lib.byteCells acc) wr) ∧ Hid (wr.heap[K]? = some (.stringIter T pos)) ∧ Hid (Bs.Box wr S0 #[.int .u64 a0, .int .u64 a1, .int .u64 a2, .int .u64 a3] 44) ∧ Hid (Below w.heap.size w wr) ∧ Hid (acc.length ≤ 6 * pos)) (fun wr => T.size - wr.iterPos K)
  case atStart => exact ⟨0, [], Nat.zero_le _, HRR, HNM, HI3.out.alloc _, HK0, HX3.out.alloc _, HW3.out.alloc (by have := HW3.out.size; omega) _, by unfold Hid; simp⟩
  case round =>
    clear HK0 HI3 HX3 HW3 HRR HNM
    obtain ⟨pos, acc, hpos, HA, HM, HI, HK, HX, HW, HAL⟩ := hrel
    have hal : acc.length ≤ 19791209299968 := by have := HAL.out; omega
    have hKw : K < wr.heap.size := (Array.getElem?_eq_some_iff.1 HK.out).1
    by_cases hp : pos < T.size
    · have hsg : Pl.sgn (T.data.toList.drop pos) ≠ 0 := fun q => by
        have := HM.out
        rw [Pl.mayL_bad _ (Wk.drop_ne T pos hp) q] at this
        cases this
      obtain ⟨r, hd, hr, hcase⟩ := Jw.stepL (T.data.toList.drop pos) hsg
      rw [← Jw.decode_drop] at hd
      have hmn := Pl.mayL_sign (T.data.toList.drop pos) hsg
      rw [HM.out, List.drop_drop] at hmn
      have hsl := Pl.sgn_le (T.data.toList.drop pos)
      rw [List.length_drop, Wk.len_data] at hsl
      have hnx := fun ty => Lib.run_next_any_at (P := Tryd.prog) wr K T pos ty HK.out hp
      simp only [hd] at hnx
      generalize Pl.sgn (T.data.toList.drop pos) = k at *
      have HM2 : Hid (Pl.mayL (T.data.toList.drop (pos + k)) = true) := hmn.symm
      have HKP : Hid (0 < k ∧ pos + k ≤ T.size) := ⟨by omega, by omega⟩
      have HPK : Hid (pos + k ≤ T.size) := HKP.out.2
      have HI2 := Lib.hid (HI.out.iterAt HK.out (pos + k))
      have HK2 := Lib.hid (Lib.iterAt_heap wr K T pos (pos + k) HK.out)
      have HW2 := Lib.hid (Lib.below_iterAt HW.out (k := K) (by omega) T (pos + k))
      have HX2 : Hid (Bs.Box (wr.iterAt K T (pos + k)) S0 #[.int .u64 a0, .int .u64 a1, .int .u64 a2, .int .u64 a3] 44) := (Lib.iterAt_other wr K S0 T (pos + k) (by omega)).trans HX.out
      have hs2 : S0 + 1 < (wr.iterAt K T (pos + k)).heap.size := by rw [Lib.iterAt_size]; omega
      generalize wr.iterAt K T (pos + k) = w2' at *
      have x0 : w2'.cell? ⟨S0, 0, none⟩ = some (.int .u64 a0) := HX2.out.cell 0 rfl
      have x1 : w2'.cell? ⟨S0, 1, none⟩ = some (.int .u64 a1) := HX2.out.cell 1 rfl
      have x2 : w2'.cell? ⟨S0, 2, none⟩ = some (.int .u64 a2) := HX2.out.cell 2 rfl
      have x3 : w2'.cell? ⟨S0, 3, none⟩ = some (.int .u64 a3) := HX2.out.cell 3 rfl
      clear hd hmn hsl hsg HM HI HX HW
      rcases hcase with ⟨c, t, ht, hk1, hrc, h128, hesc⟩ | ⟨hr2, hk3, hesc⟩ | ⟨hr2, hk3, hesc⟩ | ⟨h128, hn1, hn2, henc, hesc⟩
      · have htd : t = T.data.toList.drop (pos + k) := by rw [hk1, ← List.drop_drop, ht]; rfl
        rw [hesc, htd] at HA
        have hs1 := has1 c
        obtain ⟨acc2, hacc2⟩ : ∃ acc2, acc ++ Js.byte c = acc2 := ⟨_, rfl⟩
        have HA2 : Hid (acc2 ++ Js.escS (T.data.toList.drop (pos + k)) = RR) := by unfold Hid; rw [← hacc2, List.append_assoc]; exact HA.out
        have HL2 : Hid (acc2.length ≤ 6 * (pos + k)) := by
          have := HAL.out
          have := (Js.byte_len c).2
          unfold Hid
          rw [← hacc2, List.length_append]
          omega
        have d1 : decide ((c.toNat : Int) < 128) = true := decide_eq_true (by omega)
        have e1 : ((c.toNat : Int) == 8232) = false := beq_eq_false_iff_ne.2 (by omega)
        have e2 : ((c.toNat : Int) == 8233) = false := beq_eq_false_iff_ne.2 (by omega)
        have ew : IntKind.u8.wrap (c.toNat : Int) = (c.toNat : Int) := by rw [IntKind.wrap_u8]; omega
        subst hrc
        by_cases hst : Js.stays c = true
        · rw [hst] at hs1
          have HEN : Hid (acc ++ Lib.encodeRune (c.toNat : Int) = acc2) := by
            unfold Hid
            rw [← hacc2, show Js.byte c = [c] from if_pos (.inl hst)]
            unfold Lib.encodeRune
            rw [Lib.encodeRuneZ_one (by omega) (by omega)]
            simp only [List.map_cons, List.map_nil, Jw.byte_of (c := c) (n := c.toNat) rfl rfl]
          clear ht htd hesc HA hk1 hacc2 hst has1 hr
          go_wp2_with (first | (go_at_call 24; refine (hs1 _).mono ?_; rintro e w4 ⟨rfl, b4⟩; have HI4 := Lib.hid (Wk.isF_below HI2.out b4); have HK4 : Hid (w4.heap[K]? = some (.stringIter T (pos + k))) := (b4.block _ (Array.getElem?_eq_some_iff.1 HK2.out).1).trans HK2.out; have HX4 : Hid (Bs.Box w4 S0 #[.int .u64 a0, .int .u64 a1, .int .u64 a2, .int .u64 a3] 44) := (b4.block _ HX2.out.lt).trans HX2.out; have HW4 := Lib.hid (Wk.below_step HW2.out b4); have hs4 : S0 + 1 < w4.heap.size := Nat.lt_of_lt_of_le hs2 b4.size; clear b4 x0 x1 x2 x3) | (go_at_call 27; refine (Sh.Builder_WriteRune_k (S0 + 1) (S0 + 1) (Lib.byteCells acc) (c.toNat : Int) (by omega) (by omega) _ HI4.out (by rw [Lib.byteCells_length]; omega) (by omega)).mono ?_; rintro e w5 ⟨rfl, i5, b5, k5⟩; rw [← Lib.byteCells_encodeRune, Jw.cat, HEN.out] at i5; have HI5 : Hid (Lib.IsBuilderF 48 5 (S0 + 1) (S0 + 1) (Lib.byteCells acc2) w5) := .inr i5; have HK5 : Hid (w5.heap[K]? = some (.stringIter T (pos + k))) := k5.iter HK4.out (by omega); have HX5 : Hid (Bs.Box w5 S0 #[.int .u64 a0, .int .u64 a1, .int .u64 a2, .int .u64 a3] 44) := (b5.block _ (Nat.lt_succ_self _)).trans HX4.out; have HW5 := Lib.hid (HW4.out.trans (b5.mono (by omega))); clear i5 b5 k5))
          go_roundw
          case rel => exact ⟨pos + k, acc2, HPK.out, HA2, HM2, HI5, HK5, HX5, HW5, HL2⟩
          case measure => simp only [World.iterPos, HK5.out, HK.out]; have := HKP.out; omega
        · rw [Bool.eq_false_iff.2 hst] at hs1
          have HEN : Hid (acc ++ [92, 117, 48, 48, Js.hex (c.toNat / 16), Js.hex (c.toNat % 16)] = acc2) := by
            unfold Hid
            rw [← hacc2, show Js.byte c = [92, 117, 48, 48, Js.hex (c.toNat / 16), Js.hex (c.toNat % 16)] from if_neg (fun o => o.elim hst (fun q => by omega))]
          clear ht htd hesc HA hk1 hacc2 hst has1 hr
          go_wp2_with (first | (go_at_call 24; refine (hs1 _).mono ?_; rintro e w4 ⟨rfl, b4⟩; have HI4 := Lib.hid (Wk.isF_below HI2.out b4); have HK4 : Hid (w4.heap[K]? = some (.stringIter T (pos + k))) := (b4.block _ (Array.getElem?_eq_some_iff.1 HK2.out).1).trans HK2.out; have HX4 : Hid (Bs.Box w4 S0 #[.int .u64 a0, .int .u64 a1, .int .u64 a2, .int .u64 a3] 44) := (b4.block _ HX2.out.lt).trans HX2.out; have HW4 := Lib.hid (Wk.below_step HW2.out b4); have hs4 : S0 + 1 < w4.heap.size := Nat.lt_of_lt_of_le hs2 b4.size; clear b4 x0 x1 x2 x3) | (go_at_call 25; refine (Jw.number c (S0 + 1) (S0 + 1) acc _ HI4.out (by omega) (by omega)).mono ?_; rintro e w5 ⟨rfl, i5, b5, k5⟩; rw [HEN.out] at i5; have HI5 := Lib.hid i5; have HK5 : Hid (w5.heap[K]? = some (.stringIter T (pos + k))) := k5.iter HK4.out (by omega); have HX5 : Hid (Bs.Box w5 S0 #[.int .u64 a0, .int .u64 a1, .int .u64 a2, .int .u64 a3] 44) := (b5.block _ (Nat.lt_succ_self _)).trans HX4.out; have HW5 := Lib.hid (HW4.out.trans (b5.mono (by omega))); clear i5 b5 k5))
          go_roundw
          case rel => exact ⟨pos + k, acc2, HPK.out, HA2, HM2, HI5, HK5, HX5, HW5, HL2⟩
          case measure => simp only [World.iterPos, HK5.out, HK.out]; have := HKP.out; omega
      · obtain ⟨acc2, hacc2⟩ : ∃ acc2, acc ++ [92, 117, 50, 48, 50, 56] = acc2 := ⟨_, rfl⟩
        rw [hesc, List.drop_drop] at HA
        have HA2 : Hid (acc2 ++ Js.escS (T.data.toList.drop (pos + k)) = RR) := by unfold Hid; rw [← hacc2, List.append_assoc, hk3]; exact HA.out
        have HL2 : Hid (acc2.length ≤ 6 * (pos + k)) := by
          have := HAL.out
          unfold Hid
          rw [← hacc2, List.length_append]
          simp only [List.length_cons, List.length_nil]
          omega
        have d1 : decide ((r : Int) < 128) = false := decide_eq_false (by omega)
        have d1n : decide (r < 128) = false := decide_eq_false (by omega)
        have e1 : ((r : Int) == 8232) = true := beq_iff_eq.2 (by omega)
        have e2 : ((r : Int) == 8233) = false := beq_eq_false_iff_ne.2 (by omega)
        have HEN := Lib.hid hacc2
        clear hesc HA hk3 hacc2 has1 hr2
        go_wp2_with (go_at_call 26; refine (Sh.Builder_WriteString_k (S0 + 1) (S0 + 1) (Lib.byteCells acc) ⟨#[92, 117, 50, 48, 50, 56]⟩ _ HI2.out (by rw [Lib.byteCells_length, show (⟨#[92, 117, 50, 48, 50, 56]⟩ : ByteArray).size = 6 from rfl]; omega) (by omega)).mono ?_; rintro e w5 ⟨rfl, i5, b5, k5⟩; have HI5 : Hid (Lib.IsBuilderF 48 5 (S0 + 1) (S0 + 1) (Lib.byteCells acc2) w5) := (by unfold Hid; rw [← HEN.out, Lib.byteCells_append]; exact .inr i5); have HK5 : Hid (w5.heap[K]? = some (.stringIter T (pos + k))) := k5.iter HK2.out (by omega); have HX5 : Hid (Bs.Box w5 S0 #[.int .u64 a0, .int .u64 a1, .int .u64 a2, .int .u64 a3] 44) := (b5.block _ (Nat.lt_succ_self _)).trans HX2.out; have HW5 := Lib.hid (HW2.out.trans (b5.mono (by omega))); clear i5 b5 k5)
        go_roundw
        case rel => exact ⟨pos + k, acc2, HPK.out, HA2, HM2, HI5, HK5, HX5, HW5, HL2⟩
        case measure => simp only [World.iterPos, HK5.out, HK.out]; have := HKP.out; omega
      · obtain ⟨acc2, hacc2⟩ : ∃ acc2, acc ++ [92, 117, 50, 48, 50, 57] = acc2 := ⟨_, rfl⟩
        rw [hesc, List.drop_drop] at HA
        have HA2 : Hid (acc2 ++ Js.escS (T.data.toList.drop (pos + k)) = RR) := by unfold Hid; rw [← hacc2, List.append_assoc, hk3]; exact HA.out
        have HL2 : Hid (acc2.length ≤ 6 * (pos + k)) := by
          have := HAL.out
          unfold Hid
          rw [← hacc2, List.length_append]
          simp only [List.length_cons, List.length_nil]
          omega
        have d1 : decide ((r : Int) < 128) = false := decide_eq_false (by omega)
        have d1n : decide (r < 128) = false := decide_eq_false (by omega)
        have e1 : ((r : Int) == 8232) = false := beq_eq_false_iff_ne.2 (by omega)
        have e2 : ((r : Int) == 8233) = true := beq_iff_eq.2 (by omega)
        have HEN := Lib.hid hacc2
        clear hesc HA hk3 hacc2 has1 hr2
        go_wp2_with (go_at_call 26; refine (Sh.Builder_WriteString_k (S0 + 1) (S0 + 1) (Lib.byteCells acc) ⟨#[92, 117, 50, 48, 50, 57]⟩ _ HI2.out (by rw [Lib.byteCells_length, show (⟨#[92, 117, 50, 48, 50, 57]⟩ : ByteArray).size = 6 from rfl]; omega) (by omega)).mono ?_; rintro e w5 ⟨rfl, i5, b5, k5⟩; have HI5 : Hid (Lib.IsBuilderF 48 5 (S0 + 1) (S0 + 1) (Lib.byteCells acc2) w5) := (by unfold Hid; rw [← HEN.out, Lib.byteCells_append]; exact .inr i5); have HK5 : Hid (w5.heap[K]? = some (.stringIter T (pos + k))) := k5.iter HK2.out (by omega); have HX5 : Hid (Bs.Box w5 S0 #[.int .u64 a0, .int .u64 a1, .int .u64 a2, .int .u64 a3] 44) := (b5.block _ (Nat.lt_succ_self _)).trans HX2.out; have HW5 := Lib.hid (HW2.out.trans (b5.mono (by omega))); clear i5 b5 k5)
        go_roundw
        case rel => exact ⟨pos + k, acc2, HPK.out, HA2, HM2, HI5, HK5, HX5, HW5, HL2⟩
        case measure => simp only [World.iterPos, HK5.out, HK.out]; have := HKP.out; omega
      · obtain ⟨acc2, hacc2⟩ : ∃ acc2, acc ++ (T.data.toList.drop pos).take k = acc2 := ⟨_, rfl⟩
        have HLR : Hid ((Lib.encodeRune (r : Int)).length ≤ 4) := by
          have := Lib.runeCells_le (r : Int)
          rw [Lib.runeCells_length] at this
          exact this.2
        rw [hesc, List.drop_drop] at HA
        have HA2 : Hid (acc2 ++ Js.escS (T.data.toList.drop (pos + k)) = RR) := by unfold Hid; rw [← hacc2, List.append_assoc]; exact HA.out
        have HEN : Hid (acc ++ Lib.encodeRune (r : Int) = acc2) := by unfold Hid; rw [henc]; exact hacc2
        have HL2 : Hid (acc2.length ≤ 6 * (pos + k)) := by
          have := HAL.out
          have := HKP.out
          have := HLR.out
          unfold Hid
          rw [← HEN.out, List.length_append]
          omega
        have d1 : decide ((r : Int) < 128) = false := decide_eq_false (by omega)
        have d1n : decide (r < 128) = false := decide_eq_false (by omega)
        have e1 : ((r : Int) == 8232) = false := beq_eq_false_iff_ne.2 (by omega)
        have e2 : ((r : Int) == 8233) = false := beq_eq_false_iff_ne.2 (by omega)
        clear hesc HA hacc2 has1 henc hn1 hn2
        go_wp2_with (go_at_call 27; refine (Sh.Builder_WriteRune_k (S0 + 1) (S0 + 1) (Lib.byteCells acc) (r : Int) (by omega) (by omega) _ HI2.out (by rw [Lib.byteCells_length]; omega) (by omega)).mono ?_; rintro e w5 ⟨rfl, i5, b5, k5⟩; rw [← Lib.byteCells_encodeRune, Jw.cat, HEN.out] at i5; have HI5 : Hid (Lib.IsBuilderF 48 5 (S0 + 1) (S0 + 1) (Lib.byteCells acc2) w5) := .inr i5; have HK5 : Hid (w5.heap[K]? = some (.stringIter T (pos + k))) := k5.iter HK2.out (by omega); have HX5 : Hid (Bs.Box w5 S0 #[.int .u64 a0, .int .u64 a1, .int .u64 a2, .int .u64 a3] 44) := (b5.block _ (Nat.lt_succ_self _)).trans HX2.out; have HW5 := Lib.hid (HW2.out.trans (b5.mono (by omega))); clear i5 b5 k5)
        go_roundw
        case rel => exact ⟨pos + k, acc2, HPK.out, HA2, HM2, HI5, HK5, HX5, HW5, HL2⟩
        case measure => simp only [World.iterPos, HK5.out, HK.out]; have := HKP.out; omega
    · have hnx := fun ty => Lib.run_next_end_at (P := Tryd.prog) wr K T pos ty HK.out hp
      have e : pos = T.size := by omega
      have HRE : Hid (acc = RR) := by
        have := HA.out
        rw [e, List.drop_of_length_le (by rw [Wk.len_data]; exact Nat.le_refl _), Js.escS_nil, List.append_nil] at this
        exact this
      rw [HRE.out] at HI
      clear HA HM HX HAL e HRE hal
      go_wp2_with (go_at_call 28; refine (Sh.Builder_String_any_k (S0 + 1) (S0 + 1) RR _ HI.out (by omega)).mono ?_; rintro e w5 ⟨rfl, _, b5, _⟩; have HW5 := Lib.hid (HW.out.trans (b5.mono (by omega))); clear b5)
      go_ret
      exact ⟨rfl, HW5.out⟩
end Go.Proofs.YtiajclmhimkpnaaDoor
