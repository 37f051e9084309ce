/-
  THE WALKS of script.writeNumber and script.Escape.
-/
import Derived.Test.YtboalkfagfgnpaaGreatDoorCJMay1toJEp
import Derived.Test.YtboalkfagfgnpaaGreatDoorCQSettoJRb
import Derived.Test.YtboalkfagfgnpaaGreatDoorCNormtoJRi
import Derived.Lib.OthersKept
import Derived.Lib.Hide
import Derived.Test.YtboalkfagfgnpaaGreatDoorCShelf3toVKeys
import Derived.Test.YtboalkfagfgnpaaGreatDoorCJAgaintoJSaid
import Derived.Test.YtboalkfagfgnpaaGreatDoorCVFormtoReText
import Derived.Test.YtboalkfagfgnpaaGreatDoorCVAwaketoVCopyT
import Derived.Deep.RegionHeld
namespace Go.Proofs.YtboalkfagfgnpaaGreatDoor
open Go.RowKit
theorem Jw.cat (acc l : List UInt8) : Lib.byteCells acc ++ Lib.byteCells l = Lib.byteCells (acc ++ l) := by rw [Lib.byteCells_append]
theorem Jw.cat1 (acc : List UInt8) (c : UInt8) : Lib.byteCells acc ++ [.int .u8 (c.toNat : Int)] = Lib.byteCells (acc ++ [c]) := by rw [Lib.byteCells_append]; rfl
theorem Jw.dig : ∀ n, n < 16 → ∀ h, (⟨#[48, 49, 50, 51, 52, 53, 54, 55, 56, 57, 97, 98, 99, 100, 101, 102]⟩ : ByteArray)[n]'h = Js.hex n := by decide
theorem Jw.and15 (c : UInt8) : bits .and .u8 (c.toNat : Int) 15 = (c.toNat : Int) % 16 :=
  of_decide_eq_true (Ug.all (p := fun c => decide (bits .and .u8 (c.toNat : Int) 15 = (c.toNat : Int) % 16)) (by decide +kernel) c)
set_option maxRecDepth 100000 in
set_option maxHeartbeats 2000000 in
theorem Jw.number (c : UInt8) (B b : Nat) (acc : List UInt8) (w : World) (h : Lib.IsBuilderF 46 5 B b (Lib.byteCells acc) w) (hlen : acc.length + 6 ≤ 140737488355328) (hBw : B ≤ w.heap.size) :
    Calls Tryz.prog 94 #[.pointer (some ⟨b, 0, none⟩), .int .u8 (c.toNat : Int)] w fun e w' => e = .returned (.tuple #[]) ∧ Lib.IsBuilderF 46 5 B b (Lib.byteCells (acc ++ [92, 117, 48, 48, Js.hex (c.toNat / 16), Js.hex (c.toNat % 16)])) w' ∧ Below B w w' ∧ Lib.OthersKept 5 (some b) w w' := by
  have hc := c.toNat_lt
  have e15 := Jw.and15 c
  have hsh : (c.toNat : Int) / 16 = ((c.toNat / 16 : Nat) : Int) := by omega
  have hm : (c.toNat : Int) % 16 = ((c.toNat % 16 : Nat) : Int) := by omega
  rw [hm] at e15
  have hA16 : c.toNat / 16 < 16 := by omega
  have hB16 : c.toNat % 16 < 16 := by omega
  generalize c.toNat / 16 = A at *
  generalize c.toNat % 16 = D at *
  have xA : ∀ h, (⟨#[48, 49, 50, 51, 52, 53, 54, 55, 56, 57, 97, 98, 99, 100, 101, 102]⟩ : ByteArray)[A]'h = Js.hex A := fun h => Jw.dig A hA16 h
  have xB : ∀ h, (⟨#[48, 49, 50, 51, 52, 53, 54, 55, 56, 57, 97, 98, 99, 100, 101, 102]⟩ : ByteArray)[D]'h = Js.hex D := fun h => Jw.dig D hB16 h
  have hAi : (A : Int) < 16 := by omega
  have hDi : (D : Int) < 16 := by omega
  have c1 := Sh.Builder_WriteString_k B b (Lib.byteCells acc) ⟨#[92, 117, 48, 48]⟩ w h (by rw [Lib.byteCells_length, show (⟨#[92, 117, 48, 48]⟩ : ByteArray).size = 4 from rfl]; omega) hBw
  clear h hm
  go_enter Tryz.func94, Tryz.ntmps94
  go_wp2_with fail
  refine c1.mono ?_
  rintro e w1 ⟨rfl, i1, b1, k1⟩
  have HI1 : Hid (Lib.IsBuilderF 46 5 B b (Lib.byteCells (acc ++ [92, 117, 48, 48])) w1) := by unfold Hid; rw [Lib.byteCells_append]; exact .inr i1
  have HB1 := Lib.hid b1
  have HK1 := Lib.hid k1
  have hl4 : (acc ++ [92, 117, 48, 48]).length = acc.length + 4 := by simp
  clear i1 b1 k1 c1
  generalize hac4 : acc ++ [92, 117, 48, 48] = acc4 at *
  have HC4 := Lib.hid hac4
  clear hac4
  go_wp2_with fail
  refine (Sh.Builder_WriteByte_k B b (Lib.byteCells acc4) _ w1 HI1.out (by rw [Lib.byteCells_length]; omega) (Nat.le_trans hBw HB1.out.size)).mono ?_
  rintro e w2 ⟨rfl, i2, b2, k2⟩
  rw [Jw.cat1] at i2
  have HI2 : Hid (Lib.IsBuilderF 46 5 B b (Lib.byteCells (acc4 ++ [Js.hex A])) w2) := .inr i2
  have HB2 := Lib.hid (HB1.out.trans b2)
  have HK2 := Lib.hid (HK1.out.trans k2)
  clear i2 b2 k2 HI1 HB1 HK1
  go_wp2_with fail
  refine (Sh.Builder_WriteByte_k B b (Lib.byteCells (acc4 ++ [Js.hex A])) _ w2 HI2.out (by rw [Lib.byteCells_length, List.length_append]; simp; omega) (Nat.le_trans hBw HB2.out.size)).mono ?_
  rintro e w3 ⟨rfl, i3, b3, k3⟩
  rw [Jw.cat1] at i3
  have HI3 : Hid (Lib.IsBuilderF 46 5 B b (Lib.byteCells (acc ++ [92, 117, 48, 48, Js.hex A, Js.hex D])) w3) := by
    have q : acc ++ [92, 117, 48, 48, Js.hex A, Js.hex D] = (acc4 ++ [Js.hex A]) ++ [Js.hex D] := by rw [← HC4.out]; simp
    unfold Hid
    rw [q]
    exact .inr i3
  have HB3 := Lib.hid (HB2.out.trans b3)
  have HK3 := Lib.hid (HK2.out.trans k3)
  clear i3 b3 k3 HI2 HB2 HK2
  go_wp2
  go_end0
  exact ⟨rfl, HI3.out, HB3.out, HK3.out⟩
def Jw.PB : List UInt8 := [65, 66, 67, 68, 69, 70, 71, 72, 73, 74, 75, 76, 77, 78, 79, 80, 81, 82, 83, 84, 85, 86, 87, 88, 89, 90, 97, 98, 99, 100, 101, 102, 103, 104, 105, 106, 107, 108, 109, 110, 111, 112, 113, 114].append [115, 116, 117, 118, 119, 120, 121, 122, 48, 49, 50, 51, 52, 53, 54, 55, 56, 57, 32, 33, 35, 36, 37, 40, 41, 42, 43, 44, 45, 46, 47, 58, 59, 61, 63, 64, 91, 93, 94, 95, 123, 124, 125, 126]
theorem Jw.PB_has (c : UInt8) : Bs.has Jw.PB c = Js.stays c :=
  eq_of_beq (Ug.all (p := fun c => Bs.has Jw.PB c == Js.stays c) (by decide +kernel) c)
theorem Jw.set : ∃ a0 a1 a2 a3 : Int,
    (∀ u, Calls Tryz.prog 91 #[.string ⟨Jw.PB.toArray⟩] u fun e w' => e = .returned (.agg #[.int .u64 a0, .int .u64 a1, .int .u64 a2, .int .u64 a3]) ∧ Below u.heap.size u w') ∧
    (∀ (c : UInt8) u, Calls Tryz.prog 93 #[.agg #[.int .u64 a0, .int .u64 a1, .int .u64 a2, .int .u64 a3], .int .u8 (c.toNat : Int)] u fun e w' => e = .returned (.bool (Js.stays c)) ∧ Below u.heap.size u w') :=
  ⟨_, _, _, _, fun u => Bs.Of ⟨Jw.PB.toArray⟩ u (by decide), fun c u => by rw [← Jw.PB_has c]; exact Bs.Has Jw.PB c u⟩
theorem Jw.norm_may (l : List UInt8) : Pl.mayL (Pl.normL l) = true := Pl.may_norm l
set_option maxRecDepth 100000 in
set_option maxHeartbeats 4000000 in
theorem Jw.escape (s : ByteArray) (w : World) (hT : Lib.Utf8Tabs 1 2 w) (hs : s.size ≤ 1048576) :
    Calls Tryz.prog 65 #[.string s] w fun e w' => e = .returned (.string ⟨(Js.esc s.data.toList).toArray⟩) ∧ Below w.heap.size w w' := by
  have nm := Wk.norm s w hT (by omega)
  obtain ⟨a0, a1, a2, a3, of1, has1⟩ := Jw.set
  unfold Jw.PB at of1
  have HNM : Hid (Pl.mayL (Pl.normL s.data.toList) = true) := Jw.norm_may _
  have HNL : Hid ((Pl.normL s.data.toList).length ≤ 3145728) := by
    have := Pl.norm_short s.data.toList
    rw [Wk.len_data] at this
    unfold Hid
    omega
  unfold Js.esc
  generalize Pl.normL s.data.toList = L at *
  obtain ⟨T, hTT⟩ : ∃ T : ByteArray, T = ⟨L.toArray⟩ := ⟨_, rfl⟩
  have hTL : T.data.toList = L := by rw [hTT]
  rw [← hTT] at nm
  rw [← hTL] at HNL HNM ⊢
  rw [Wk.len_data] at HNL
  have hT63 : T.size ≤ 3145728 := HNL.out
  clear hTT hTL hs hT HNL
  obtain ⟨RR, hRR⟩ : ∃ RR, Js.escS T.data.toList = RR := ⟨_, rfl⟩
  rw [hRR]
  have HRR := Lib.hid hRR
  clear hRR
  go_enter Tryz.func65, Tryz.ntmps65
  go_wp2_with (first | (go_at_call 90; refine nm.mono ?_; rintro e w1 ⟨rfl, b1⟩; have HB1 := Lib.hid b1; clear b1 nm) | (go_at_call 91; refine (of1 _).mono ?_; rintro e w2 ⟨rfl, b2⟩; have HB2 := Lib.hid (Wk.below_step HB1.out b2); clear b2 of1))
  have hz1 : (w2.alloc (.cells #[.int .u64 a0, .int .u64 a1, .int .u64 a2, .int .u64 a3] 110)).heap.size = w2.heap.size + 1 := by simp
  have hnew := heap_alloc_new (w2.alloc (.cells #[.int .u64 a0, .int .u64 a1, .int .u64 a2, .int .u64 a3] 110)) (.cells #[.pointer none, .slice none 0 0] 46)
  rw [hz1] at hnew
  have c0 := Sh.Builder_Grow_fresh (w2.heap.size + 1) (w2.heap.size + 1) T.size ((w2.alloc (.cells #[.int .u64 a0, .int .u64 a1, .int .u64 a2, .int .u64 a3] 110)).alloc (.cells #[.pointer none, .slice none 0 0] 46)) (Nat.le_refl _) hnew (by simp) (by omega)
  refine c0.mono ?_
  rintro e w3 ⟨rfl, hI3, b3⟩
  have HI3 : Hid (Lib.IsBuilderF 46 5 (w2.heap.size + 1) (w2.heap.size + 1) (Lib.byteCells []) w3) := .inr (Lib.BuilderAtF.of hI3)
  have HX3 : Hid (Bs.Box w3 w2.heap.size #[.int .u64 a0, .int .u64 a1, .int .u64 a2, .int .u64 a3] 110) := (b3.block _ (Nat.lt_succ_self _)).trans ((Bs.Box.new w2 _ _ _ rfl).alloc _)
  have HB3 : Hid (Below (w2.heap.size + 1) (w2.alloc (.cells #[.int .u64 a0, .int .u64 a1, .int .u64 a2, .int .u64 a3] 110)) w3) := ((Below.refl _ _).alloc (by simp) _).trans b3
  have hs3 : w2.heap.size + 1 < w3.heap.size := Nat.lt_of_lt_of_le (by simp) b3.size
  have HW3 : Hid (Below w.heap.size w w3) := by
    unfold Hid
    refine HB2.out.trans ?_
    exact (((Below.refl w.heap.size w2).alloc HB2.out.size _).alloc (by simp; have := HB2.out.size; omega) _).trans (b3.mono (by have := HB2.out.size; omega))
  clear c0 hI3 b3 hnew hz1 HB3
  have hwB : w.heap.size ≤ w2.heap.size := HB2.out.size
  generalize w2.heap.size = S0 at *
  clear HB1 HB2
  go_wp2_with fail
  generalize hK : w3.heap.size = K at *
  have HK0 : Hid ((w3.iter T 0).heap[K]? = some (.stringIter T 0)) := by
    unfold Hid
    rw [← hK]
    exact World.iter_heap w3 T 0
  go_loopw [] (fun wr => ∃ (pos : Nat) (acc : List UInt8), pos ≤ T.size ∧ Hid (acc ++ Js.escS (T.data.toList.drop pos) = RR) ∧ Hid (Pl.mayL (T.data.toList.drop pos) = true) ∧ Hid (Lib.IsBuilderF 46 5 (S0 + 1) (S0 + 1) (Lib.byteCells acc) wr) ∧ Hid (wr.heap[K]? = some (.stringIter T pos)) ∧ Hid (Bs.Box wr S0 #[.int .u64 a0, .int .u64 a1, .int .u64 a2, .int .u64 a3] 110) ∧ Hid (Below w.heap.size w wr) ∧ Hid (acc.length ≤ 6 * pos)) (fun wr => T.size - wr.iterPos K)
  case atStart => exact ⟨0, [], Nat.zero_le _, HRR, HNM, HI3.out.alloc _, HK0, HX3.out.alloc _, HW3.out.alloc (by have := HW3.out.size; omega) _, by unfold Hid; simp⟩
  case round =>
    clear HK0 HI3 HX3 HW3 HRR HNM
    obtain ⟨pos, acc, hpos, HA, HM, HI, HK, HX, HW, HAL⟩ := hrel
    have hal : acc.length ≤ 18874368 := by have := HAL.out; omega
    have hKw : K < wr.heap.size := (Array.getElem?_eq_some_iff.1 HK.out).1
    by_cases hp : pos < T.size
    · have hsg : Pl.sgn (T.data.toList.drop pos) ≠ 0 := fun q => by
        have := HM.out
        rw [Pl.mayL_bad _ (Wk.drop_ne T pos hp) q] at this
        cases this
      obtain ⟨r, hd, hr, hcase⟩ := Jw.stepL (T.data.toList.drop pos) hsg
      rw [← Jw.decode_drop] at hd
      have hmn := Pl.mayL_sign (T.data.toList.drop pos) hsg
      rw [HM.out, List.drop_drop] at hmn
      have hsl := Pl.sgn_le (T.data.toList.drop pos)
      rw [List.length_drop, Wk.len_data] at hsl
      have hnx := fun ty => Lib.run_next_any_at (P := Tryz.prog) wr K T pos ty HK.out hp
      simp only [hd] at hnx
      generalize Pl.sgn (T.data.toList.drop pos) = k at *
      have HM2 : Hid (Pl.mayL (T.data.toList.drop (pos + k)) = true) := hmn.symm
      have HKP : Hid (0 < k ∧ pos + k ≤ T.size) := ⟨by omega, by omega⟩
      have HPK : Hid (pos + k ≤ T.size) := HKP.out.2
      have HI2 := Lib.hid (HI.out.iterAt HK.out (pos + k))
      have HK2 := Lib.hid (Lib.iterAt_heap wr K T pos (pos + k) HK.out)
      have HW2 := Lib.hid (Lib.below_iterAt HW.out (k := K) (by omega) T (pos + k))
      have HX2 : Hid (Bs.Box (wr.iterAt K T (pos + k)) S0 #[.int .u64 a0, .int .u64 a1, .int .u64 a2, .int .u64 a3] 110) := (Lib.iterAt_other wr K S0 T (pos + k) (by omega)).trans HX.out
      have hs2 : S0 + 1 < (wr.iterAt K T (pos + k)).heap.size := by rw [Lib.iterAt_size]; omega
      generalize wr.iterAt K T (pos + k) = w2' at *
      have x0 : w2'.cell? ⟨S0, 0, none⟩ = some (.int .u64 a0) := HX2.out.cell 0 rfl
      have x1 : w2'.cell? ⟨S0, 1, none⟩ = some (.int .u64 a1) := HX2.out.cell 1 rfl
      have x2 : w2'.cell? ⟨S0, 2, none⟩ = some (.int .u64 a2) := HX2.out.cell 2 rfl
      have x3 : w2'.cell? ⟨S0, 3, none⟩ = some (.int .u64 a3) := HX2.out.cell 3 rfl
      clear hd hmn hsl hsg HM HI HX HW
      rcases hcase with ⟨c, t, ht, hk1, hrc, h128, hesc⟩ | ⟨hr2, hk3, hesc⟩ | ⟨hr2, hk3, hesc⟩ | ⟨h128, hn1, hn2, henc, hesc⟩
      · have htd : t = T.data.toList.drop (pos + k) := by rw [hk1, ← List.drop_drop, ht]; rfl
        rw [hesc, htd] at HA
        have hs1 := has1 c
        obtain ⟨acc2, hacc2⟩ : ∃ acc2, acc ++ Js.byte c = acc2 := ⟨_, rfl⟩
        have HA2 : Hid (acc2 ++ Js.escS (T.data.toList.drop (pos + k)) = RR) := by unfold Hid; rw [← hacc2, List.append_assoc]; exact HA.out
        have HL2 : Hid (acc2.length ≤ 6 * (pos + k)) := by
          have := HAL.out
          have := (Js.byte_len c).2
          unfold Hid
          rw [← hacc2, List.length_append]
          omega
        have d1 : decide ((c.toNat : Int) < 128) = true := decide_eq_true (by omega)
        have e1 : ((c.toNat : Int) == 8232) = false := beq_eq_false_iff_ne.2 (by omega)
        have e2 : ((c.toNat : Int) == 8233) = false := beq_eq_false_iff_ne.2 (by omega)
        have ew : IntKind.u8.wrap (c.toNat : Int) = (c.toNat : Int) := by rw [IntKind.wrap_u8]; omega
        subst hrc
        by_cases hst : Js.stays c = true
        · rw [hst] at hs1
          have HEN : Hid (acc ++ Lib.encodeRune (c.toNat : Int) = acc2) := by
            unfold Hid
            rw [← hacc2, show Js.byte c = [c] from if_pos (.inl hst)]
            unfold Lib.encodeRune
            rw [Lib.encodeRuneZ_one (by omega) (by omega)]
            simp only [List.map_cons, List.map_nil, Jw.byte_of (c := c) (n := c.toNat) rfl rfl]
          clear ht htd hesc HA hk1 hacc2 hst has1 hr
          go_wp2_with (first | (go_at_call 93; refine (hs1 _).mono ?_; rintro e w4 ⟨rfl, b4⟩; have HI4 := Lib.hid (Wk.isF_below HI2.out b4); have HK4 : Hid (w4.heap[K]? = some (.stringIter T (pos + k))) := (b4.block _ (Array.getElem?_eq_some_iff.1 HK2.out).1).trans HK2.out; have HX4 : Hid (Bs.Box w4 S0 #[.int .u64 a0, .int .u64 a1, .int .u64 a2, .int .u64 a3] 110) := (b4.block _ HX2.out.lt).trans HX2.out; have HW4 := Lib.hid (Wk.below_step HW2.out b4); have hs4 : S0 + 1 < w4.heap.size := Nat.lt_of_lt_of_le hs2 b4.size; clear b4 x0 x1 x2 x3) | (go_at_call 95; refine (Sh.Builder_WriteRune_k (S0 + 1) (S0 + 1) (Lib.byteCells acc) (c.toNat : Int) (by omega) (by omega) _ HI4.out (by rw [Lib.byteCells_length]; omega) (by omega)).mono ?_; rintro e w5 ⟨rfl, i5, b5, k5⟩; rw [← Lib.byteCells_encodeRune, Jw.cat, HEN.out] at i5; have HI5 : Hid (Lib.IsBuilderF 46 5 (S0 + 1) (S0 + 1) (Lib.byteCells acc2) w5) := .inr i5; have HK5 : Hid (w5.heap[K]? = some (.stringIter T (pos + k))) := k5.iter HK4.out (by omega); have HX5 : Hid (Bs.Box w5 S0 #[.int .u64 a0, .int .u64 a1, .int .u64 a2, .int .u64 a3] 110) := (b5.block _ (Nat.lt_succ_self _)).trans HX4.out; have HW5 := Lib.hid (HW4.out.trans (b5.mono (by omega))); clear i5 b5 k5))
          go_roundw
          case rel => exact ⟨pos + k, acc2, HPK.out, HA2, HM2, HI5, HK5, HX5, HW5, HL2⟩
          case measure => simp only [World.iterPos, HK5.out, HK.out]; have := HKP.out; omega
        · rw [Bool.eq_false_iff.2 hst] at hs1
          have HEN : Hid (acc ++ [92, 117, 48, 48, Js.hex (c.toNat / 16), Js.hex (c.toNat % 16)] = acc2) := by
            unfold Hid
            rw [← hacc2, show Js.byte c = [92, 117, 48, 48, Js.hex (c.toNat / 16), Js.hex (c.toNat % 16)] from if_neg (fun o => o.elim hst (fun q => by omega))]
          clear ht htd hesc HA hk1 hacc2 hst has1 hr
          go_wp2_with (first | (go_at_call 93; refine (hs1 _).mono ?_; rintro e w4 ⟨rfl, b4⟩; have HI4 := Lib.hid (Wk.isF_below HI2.out b4); have HK4 : Hid (w4.heap[K]? = some (.stringIter T (pos + k))) := (b4.block _ (Array.getElem?_eq_some_iff.1 HK2.out).1).trans HK2.out; have HX4 : Hid (Bs.Box w4 S0 #[.int .u64 a0, .int .u64 a1, .int .u64 a2, .int .u64 a3] 110) := (b4.block _ HX2.out.lt).trans HX2.out; have HW4 := Lib.hid (Wk.below_step HW2.out b4); have hs4 : S0 + 1 < w4.heap.size := Nat.lt_of_lt_of_le hs2 b4.size; clear b4 x0 x1 x2 x3) | (go_at_call 94; refine (Jw.number c (S0 + 1) (S0 + 1) acc _ HI4.out (by omega) (by omega)).mono ?_; rintro e w5 ⟨rfl, i5, b5, k5⟩; rw [HEN.out] at i5; have HI5 := Lib.hid i5; have HK5 : Hid (w5.heap[K]? = some (.stringIter T (pos + k))) := k5.iter HK4.out (by omega); have HX5 : Hid (Bs.Box w5 S0 #[.int .u64 a0, .int .u64 a1, .int .u64 a2, .int .u64 a3] 110) := (b5.block _ (Nat.lt_succ_self _)).trans HX4.out; have HW5 := Lib.hid (HW4.out.trans (b5.mono (by omega))); clear i5 b5 k5))
          go_roundw
          case rel => exact ⟨pos + k, acc2, HPK.out, HA2, HM2, HI5, HK5, HX5, HW5, HL2⟩
          case measure => simp only [World.iterPos, HK5.out, HK.out]; have := HKP.out; omega
      · obtain ⟨acc2, hacc2⟩ : ∃ acc2, acc ++ [92, 117, 50, 48, 50, 56] = acc2 := ⟨_, rfl⟩
        rw [hesc, List.drop_drop] at HA
        have HA2 : Hid (acc2 ++ Js.escS (T.data.toList.drop (pos + k)) = RR) := by unfold Hid; rw [← hacc2, List.append_assoc, hk3]; exact HA.out
        have HL2 : Hid (acc2.length ≤ 6 * (pos + k)) := by
          have := HAL.out
          unfold Hid
          rw [← hacc2, List.length_append]
          simp only [List.length_cons, List.length_nil]
          omega
        have d1 : decide ((r : Int) < 128) = false := decide_eq_false (by omega)
        have d1n : decide (r < 128) = false := decide_eq_false (by omega)
        have e1 : ((r : Int) == 8232) = true := beq_iff_eq.2 (by omega)
        have e2 : ((r : Int) == 8233) = false := beq_eq_false_iff_ne.2 (by omega)
        have HEN := Lib.hid hacc2
        clear hesc HA hk3 hacc2 has1 hr2
        go_wp2_with (go_at_call 35; refine (Sh.Builder_WriteString_k (S0 + 1) (S0 + 1) (Lib.byteCells acc) ⟨#[92, 117, 50, 48, 50, 56]⟩ _ HI2.out (by rw [Lib.byteCells_length, show (⟨#[92, 117, 50, 48, 50, 56]⟩ : ByteArray).size = 6 from rfl]; omega) (by omega)).mono ?_; rintro e w5 ⟨rfl, i5, b5, k5⟩; have HI5 : Hid (Lib.IsBuilderF 46 5 (S0 + 1) (S0 + 1) (Lib.byteCells acc2) w5) := (by unfold Hid; rw [← HEN.out, Lib.byteCells_append]; exact .inr i5); have HK5 : Hid (w5.heap[K]? = some (.stringIter T (pos + k))) := k5.iter HK2.out (by omega); have HX5 : Hid (Bs.Box w5 S0 #[.int .u64 a0, .int .u64 a1, .int .u64 a2, .int .u64 a3] 110) := (b5.block _ (Nat.lt_succ_self _)).trans HX2.out; have HW5 := Lib.hid (HW2.out.trans (b5.mono (by omega))); clear i5 b5 k5)
        go_roundw
        case rel => exact ⟨pos + k, acc2, HPK.out, HA2, HM2, HI5, HK5, HX5, HW5, HL2⟩
        case measure => simp only [World.iterPos, HK5.out, HK.out]; have := HKP.out; omega
      · obtain ⟨acc2, hacc2⟩ : ∃ acc2, acc ++ [92, 117, 50, 48, 50, 57] = acc2 := ⟨_, rfl⟩
        rw [hesc, List.drop_drop] at HA
        have HA2 : Hid (acc2 ++ Js.escS (T.data.toList.drop (pos + k)) = RR) := by unfold Hid; rw [← hacc2, List.append_assoc, hk3]; exact HA.out
        have HL2 : Hid (acc2.length ≤ 6 * (pos + k)) := by
          have := HAL.out
          unfold Hid
          rw [← hacc2, List.length_append]
          simp only [List.length_cons, List.length_nil]
          omega
        have d1 : decide ((r : Int) < 128) = false := decide_eq_false (by omega)
        have d1n : decide (r < 128) = false := decide_eq_false (by omega)
        have e1 : ((r : Int) == 8232) = false := beq_eq_false_iff_ne.2 (by omega)
        have e2 : ((r : Int) == 8233) = true := beq_iff_eq.2 (by omega)
        have HEN := Lib.hid hacc2
        clear hesc HA hk3 hacc2 has1 hr2
        go_wp2_with (go_at_call 35; refine (Sh.Builder_WriteString_k (S0 + 1) (S0 + 1) (Lib.byteCells acc) ⟨#[92, 117, 50, 48, 50, 57]⟩ _ HI2.out (by rw [Lib.byteCells_length, show (⟨#[92, 117, 50, 48, 50, 57]⟩ : ByteArray).size = 6 from rfl]; omega) (by omega)).mono ?_; rintro e w5 ⟨rfl, i5, b5, k5⟩; have HI5 : Hid (Lib.IsBuilderF 46 5 (S0 + 1) (S0 + 1) (Lib.byteCells acc2) w5) := (by unfold Hid; rw [← HEN.out, Lib.byteCells_append]; exact .inr i5); have HK5 : Hid (w5.heap[K]? = some (.stringIter T (pos + k))) := k5.iter HK2.out (by omega); have HX5 : Hid (Bs.Box w5 S0 #[.int .u64 a0, .int .u64 a1, .int .u64 a2, .int .u64 a3] 110) := (b5.block _ (Nat.lt_succ_self _)).trans HX2.out; have HW5 := Lib.hid (HW2.out.trans (b5.mono (by omega))); clear i5 b5 k5)
        go_roundw
        case rel => exact ⟨pos + k, acc2, HPK.out, HA2, HM2, HI5, HK5, HX5, HW5, HL2⟩
        case measure => simp only [World.iterPos, HK5.out, HK.out]; have := HKP.out; omega
      · obtain ⟨acc2, hacc2⟩ : ∃ acc2, acc ++ (T.data.toList.drop pos).take k = acc2 := ⟨_, rfl⟩
        have HLR : Hid ((Lib.encodeRune (r : Int)).length ≤ 4) := by
          have := Lib.runeCells_le (r : Int)
          rw [Lib.runeCells_length] at this
          exact this.2
        rw [hesc, List.drop_drop] at HA
        have HA2 : Hid (acc2 ++ Js.escS (T.data.toList.drop (pos + k)) = RR) := by unfold Hid; rw [← hacc2, List.append_assoc]; exact HA.out
        have HEN : Hid (acc ++ Lib.encodeRune (r : Int) = acc2) := by unfold Hid; rw [henc]; exact hacc2
        have HL2 : Hid (acc2.length ≤ 6 * (pos + k)) := by
          have := HAL.out
          have := HKP.out
          have := HLR.out
          unfold Hid
          rw [← HEN.out, List.length_append]
          omega
        have d1 : decide ((r : Int) < 128) = false := decide_eq_false (by omega)
        have d1n : decide (r < 128) = false := decide_eq_false (by omega)
        have e1 : ((r : Int) == 8232) = false := beq_eq_false_iff_ne.2 (by omega)
        have e2 : ((r : Int) == 8233) = false := beq_eq_false_iff_ne.2 (by omega)
        clear hesc HA hacc2 has1 henc hn1 hn2
        go_wp2_with (go_at_call 95; refine (Sh.Builder_WriteRune_k (S0 + 1) (S0 + 1) (Lib.byteCells acc) (r : Int) (by omega) (by omega) _ HI2.out (by rw [Lib.byteCells_length]; omega) (by omega)).mono ?_; rintro e w5 ⟨rfl, i5, b5, k5⟩; rw [← Lib.byteCells_encodeRune, Jw.cat, HEN.out] at i5; have HI5 : Hid (Lib.IsBuilderF 46 5 (S0 + 1) (S0 + 1) (Lib.byteCells acc2) w5) := .inr i5; have HK5 : Hid (w5.heap[K]? = some (.stringIter T (pos + k))) := k5.iter HK2.out (by omega); have HX5 : Hid (Bs.Box w5 S0 #[.int .u64 a0, .int .u64 a1, .int .u64 a2, .int .u64 a3] 110) := (b5.block _ (Nat.lt_succ_self _)).trans HX2.out; have HW5 := Lib.hid (HW2.out.trans (b5.mono (by omega))); clear i5 b5 k5)
        go_roundw
        case rel => exact ⟨pos + k, acc2, HPK.out, HA2, HM2, HI5, HK5, HX5, HW5, HL2⟩
        case measure => simp only [World.iterPos, HK5.out, HK.out]; have := HKP.out; omega
    · have hnx := fun ty => Lib.run_next_end_at (P := Tryz.prog) wr K T pos ty HK.out hp
      have e : pos = T.size := by omega
      have HRE : Hid (acc = RR) := by
        have := HA.out
        rw [e, List.drop_of_length_le (by rw [Wk.len_data]; exact Nat.le_refl _), Js.escS_nil, List.append_nil] at this
        exact this
      rw [HRE.out] at HI
      clear HA HM HX HAL e HRE hal
      go_wp2_with (go_at_call 18; refine (Sh.Builder_String_any_k (S0 + 1) (S0 + 1) RR _ HI.out (by omega)).mono ?_; rintro e w5 ⟨rfl, _, b5, _⟩; have HW5 := Lib.hid (HW.out.trans (b5.mono (by omega))); clear b5)
      go_ret
      exact ⟨rfl, HW5.out⟩
end Go.Proofs.YtboalkfagfgnpaaGreatDoor
/-
  THE WALKS of json.quoted and json.realText.
-/
namespace Go.Proofs.YtboalkfagfgnpaaGreatDoor
open Go.RowKit
set_option maxRecDepth 100000 in
set_option maxHeartbeats 2000000 in
theorem Jw.quoted (s : ByteArray) (w : World) (hT : Jt w) (hs : s.size ≤ 1048576) :
    Calls Tryz.prog 39 #[.string s] w fun e w' => e = .returned (.string ⟨(Js.quoted s.data.toList).toArray⟩) ∧ Below w.heap.size w w' := by
  have es := Jw.escape s w hT.utf hs
  have hl : (Js.esc s.data.toList).length ≤ 18874368 := by
    have := Js.esc_len s.data.toList
    rw [Wk.len_data] at this
    omega
  have HQ : Hid (((⟨#[34]⟩ : ByteArray) ++ ⟨(Js.esc s.data.toList).toArray⟩) ++ ⟨#[34]⟩ = ⟨(Js.quoted s.data.toList).toArray⟩) := by
    unfold Hid Js.quoted
    have h1 : ((⟨#[34]⟩ : ByteArray)) = ⟨([34] : List UInt8).toArray⟩ := rfl
    rw [h1, Rt.cat, Rt.cat]
    rfl
  have hsz : (⟨(Js.esc s.data.toList).toArray⟩ : ByteArray).size = (Js.esc s.data.toList).length := Rt.size _
  have hsz2 : ((⟨#[34]⟩ : ByteArray) ++ ⟨(Js.esc s.data.toList).toArray⟩).size = 1 + (Js.esc s.data.toList).length := by rw [ByteArray.size_append, hsz]; rfl
  generalize (⟨(Js.quoted s.data.toList).toArray⟩ : ByteArray) = Q at *
  generalize Js.esc s.data.toList = E0 at *
  generalize (⟨E0.toArray⟩ : ByteArray) = E at *
  have hE : E.size ≤ 18874368 := by omega
  have hs1 : (⟨#[34]⟩ : ByteArray).size = 1 := rfl
  clear hT
  go_enter Tryz.func39, Tryz.ntmps39
  go_wp2_with (go_at_call 65; refine es.mono ?_; rintro e w1 ⟨rfl, b1⟩; have HB1 := Lib.hid b1; clear b1 es)
  go_ret
  exact ⟨by first | (rw [← HQ.out]; rfl) | rw [HQ.out], HB1.out⟩
set_option maxRecDepth 100000 in
set_option maxHeartbeats 2000000 in
theorem Jw.real (b : Nat) (hb : b < 18446744073709551616) (w : World) (hT : Jt w) :
    Calls Tryz.prog 38 #[.int .u64 (b : Int)] w fun e w' => e = .returned (.string ⟨(Js.real b).toArray⟩) ∧ Below w.heap.size w w' := by
  have kd := Rk.kind b hb
  have tx := Rt.text b hb w hT.re
  have hle := Rt.kind_le b
  unfold Js.real
  by_cases h2 : Re.kind b < 2
  · rw [if_pos h2]
    have hq : Re.kind b = 0 ∨ Re.kind b = 1 := by omega
    generalize Re.kind b = kk at *
    clear tx hT h2
    rcases hq with rfl | rfl
    · go_enter Tryz.func38, Tryz.ntmps38
      go_wp2_with (go_at_call 63; refine (kd _).mono ?_; rintro e w' ⟨rfl, hw⟩; have hw := hw.symm; subst hw)
      go_ret
      exact ⟨rfl, Below.refl _ _⟩
    · go_enter Tryz.func38, Tryz.ntmps38
      go_wp2_with (go_at_call 63; refine (kd _).mono ?_; rintro e w' ⟨rfl, hw⟩; have hw := hw.symm; subst hw)
      go_ret
      exact ⟨rfl, Below.refl _ _⟩
  · rw [if_neg h2]
    by_cases h4 : Re.kind b = 4
    · rw [if_pos h4]
      have hx : (Re.text b).length ≤ 1048576 := Nat.le_trans (Js.real_len b) (by omega)
      have qu : ∀ u, Jt u → Calls Tryz.prog 39 #[.string ⟨(Re.text b).toArray⟩] u fun e w' => e = .returned (.string ⟨(Js.quoted (Re.text b)).toArray⟩) ∧ Below u.heap.size u w' := fun u q => Jw.quoted ⟨(Re.text b).toArray⟩ u q (by rw [Rt.size]; exact hx)
      rw [h4] at kd
      generalize (⟨(Js.quoted (Re.text b)).toArray⟩ : ByteArray) = Y at *
      generalize (⟨(Re.text b).toArray⟩ : ByteArray) = X at *
      have HT := Lib.hid hT
      clear hT hx h2 hle h4
      go_enter Tryz.func38, Tryz.ntmps38
      go_wp2_with (first | (go_at_call 63; refine (kd _).mono ?_; rintro e w' ⟨rfl, hw⟩; have hw := hw.symm; subst hw) | (go_at_call 64; refine tx.mono ?_; rintro e w1 ⟨rfl, b1⟩; have HB1 := Lib.hid b1; replace qu := qu _ (HT.out.on b1); clear b1 tx) | (go_at_call 39; refine qu.mono ?_; rintro e w2 ⟨rfl, b2⟩; have HB2 := Lib.hid (Wk.below_step HB1.out b2); clear b2 qu))
      go_ret
      exact ⟨rfl, HB2.out⟩
    · rw [if_neg h4]
      have e0 : ((Re.kind b : Int) == 0) = false := beq_eq_false_iff_ne.2 (by omega)
      have e1 : ((Re.kind b : Int) == 1) = false := beq_eq_false_iff_ne.2 (by omega)
      have e4 : ((Re.kind b : Int) == 4) = false := beq_eq_false_iff_ne.2 (by omega)
      generalize (⟨(Re.text b).toArray⟩ : ByteArray) = X at *
      generalize Re.kind b = kk at *
      clear hT h2 h4 hle
      go_enter Tryz.func38, Tryz.ntmps38
      go_wp2_with (first | (go_at_call 63; refine (kd _).mono ?_; rintro e w' ⟨rfl, hw⟩; have hw := hw.symm; subst hw) | (go_at_call 64; refine tx.mono ?_; rintro e w1 ⟨rfl, b1⟩; have HB1 := Lib.hid b1; clear b1 tx))
      go_ret
      exact ⟨rfl, HB1.out⟩
end Go.Proofs.YtboalkfagfgnpaaGreatDoor
/-
  THE LANDED WRITER: what it keeps; its leaves.
-/
namespace Go.Proofs.YtboalkfagfgnpaaGreatDoor
open Go.RowKit
/-- what a writer keeps: all below the base, and all blocks that are no row of bytes but the Builder's own -/
structure Jw.Kept (B b : Nat) (w w' : World) : Prop where
  back : Below B w w'
  rest : Lib.OthersKept 5 (some b) w w'
theorem Jw.Kept.refl (B b : Nat) (w : World) : Jw.Kept B b w w := ⟨Below.refl _ _, Lib.OthersKept.refl _ _ _⟩
theorem Jw.Kept.trans {B b : Nat} {u v w : World} (h : Jw.Kept B b u v) (k : Jw.Kept B b v w) : Jw.Kept B b u w := ⟨h.back.trans k.back, h.rest.trans k.rest⟩
theorem Jw.Kept.alloc {B b : Nat} {u v : World} (h : Jw.Kept B b u v) (hb : B ≤ v.heap.size) (o : Obj) : Jw.Kept B b u (v.alloc o) := ⟨h.back.alloc hb o, h.rest.alloc o⟩
theorem Jw.Kept.drew {B b : Nat} {u v : World} (h : Jw.Kept B b u v) : Jw.Kept B b u v.drew := ⟨h.back.drew, h.rest.drew⟩
theorem Jw.Kept.more {B b : Nat} {u v w : World} (h : Jw.Kept B b u v) (hb : B ≤ v.heap.size) (k : Below v.heap.size v w) : Jw.Kept B b u w :=
  ⟨h.back.trans (k.mono hb), h.rest.trans fun i _ hi _ _ => (k.block i (Array.getElem?_eq_some_iff.1 hi).1).trans hi⟩
/-- the writer's two boxes: the Builder's place, the value -/
structure Jw.Bx (a b : Nat) (v0 v1 v2 v3 v4 v5 : Value) (u : World) : Prop where
  out : Bs.Box u a #[.pointer (some ⟨b, 0, none⟩)] 43
  val : Vm.Box u (a + 1) v0 v1 v2 v3 v4 v5
  ne : a ≠ b ∧ a + 1 ≠ b
theorem Jw.Bx.kept {a b B : Nat} {v0 v1 v2 v3 v4 v5 : Value} {u u' : World} (h : Jw.Bx a b v0 v1 v2 v3 v4 v5 u) (k : Jw.Kept B b u u') : Jw.Bx a b v0 v1 v2 v3 v4 v5 u' :=
  ⟨k.rest a _ h.out (fun q => h.ne.1 (by injection q)) (fun c fz q => by injection q with _ q2 _; exact absurd q2 (by decide)), ⟨k.rest (a + 1) _ h.val.all (fun q => h.ne.2 (by injection q)) (fun c fz q => by injection q with _ q2 _; exact absurd q2 (by decide))⟩, h.ne⟩
theorem Jw.Bx.on {a b : Nat} {v0 v1 v2 v3 v4 v5 : Value} {u u' : World} (h : Jw.Bx a b v0 v1 v2 v3 v4 v5 u) (k : Below u.heap.size u u') : Jw.Bx a b v0 v1 v2 v3 v4 v5 u' :=
  ⟨(k.block a h.out.lt).trans h.out, ⟨(k.block (a + 1) h.val.lt).trans h.val.all⟩, h.ne⟩
theorem Jw.Bx.start (w : World) (b : Nat) (v0 v1 v2 v3 v4 v5 : Value) (hb : b < w.heap.size) : Jw.Bx w.heap.size b v0 v1 v2 v3 v4 v5 ((w.alloc (.cells #[.pointer (some ⟨b, 0, none⟩)] 43)).alloc (.cells #[v0, v1, v2, v3, v4, v5] 26)) :=
  ⟨(Bs.Box.new w _ _ _ rfl).alloc _, ⟨Vm.Has.new _ _ _ (by simp)⟩, by omega, by omega⟩
theorem Jw.is_lt {T e : TypeId} {B b : Nat} {bs : List Value} {w : World} (h : Lib.IsBuilderF T e B b bs w) : b < w.heap.size ∧ B ≤ b :=
  h.elim (fun x => ⟨x.lt, x.1⟩) (fun x => ⟨x.lt, x.1⟩)
/-- the landed writer of a tree: what it adds -/
def Jw.W (w0 : World) (t : Vt) (B b : Nat) : Prop := ∀ (acc : List UInt8) (v : Value) (w : World), t.Lies w (· < B) v → Lib.IsBuilderF 46 5 B b (Lib.byteCells acc) w → acc.length ≤ 1099511627776 → Below w0.heap.size w0 w →
  Calls Tryz.prog 16 #[.pointer (some ⟨b, 0, none⟩), v] w fun e w' => e = .returned (.tuple #[]) ∧ Lib.IsBuilderF 46 5 B b (Lib.byteCells (Js.pj t acc)) w' ∧ Jw.Kept B b w w'
/-- a text is written -/
theorem Jw.put (S : ByteArray) {B b : Nat} {acc : List UInt8} (u : World) (h : Lib.IsBuilderF 46 5 B b (Lib.byteCells acc) u) (hl : acc.length + S.size ≤ 140737488355328) :
    Calls Tryz.prog 35 #[.pointer (some ⟨b, 0, none⟩), .string S] u fun e w' => e = .returned (.tuple #[.int .i64 S.size, .nilIface]) ∧ Lib.IsBuilderF 46 5 B b (Lib.byteCells (acc ++ S.data.toList)) w' ∧ Jw.Kept B b u w' := by
  have hb := Jw.is_lt h
  refine (Sh.Builder_WriteString_k B b (Lib.byteCells acc) S u h (by rw [Lib.byteCells_length]; exact hl) (by omega)).mono fun e w' ⟨h1, h2, h3, h4⟩ => ⟨h1, ?_, h3, h4⟩
  rw [Lib.byteCells_append]
  exact .inr h2
theorem Jw.putc (c : UInt8) {B b : Nat} {acc : List UInt8} (u : World) (h : Lib.IsBuilderF 46 5 B b (Lib.byteCells acc) u) (hl : acc.length + 1 ≤ 140737488355328) :
    Calls Tryz.prog 43 #[.pointer (some ⟨b, 0, none⟩), .int .u8 (c.toNat : Int)] u fun e w' => e = .returned .nilIface ∧ Lib.IsBuilderF 46 5 B b (Lib.byteCells (acc ++ [c])) w' ∧ Jw.Kept B b u w' := by
  have hb := Jw.is_lt h
  refine (Sh.Builder_WriteByte_k B b (Lib.byteCells acc) _ u h (by rw [Lib.byteCells_length]; exact hl) (by omega)).mono fun e w' ⟨h1, h2, h3, h4⟩ => ⟨h1, ?_, h3, h4⟩
  rw [Jw.cat1] at h2
  exact .inr h2
set_option maxRecDepth 100000 in
set_option maxHeartbeats 2000000 in
theorem Jw.long (t : Vt) (B b : Nat) (acc : List UInt8) (v : Value) (w : World) (hl : t.Lies w (· < B) v) (hi : Lib.IsBuilderF 46 5 B b (Lib.byteCells acc) w) (hlong : 65536 < acc.length) :
    Calls Tryz.prog 16 #[.pointer (some ⟨b, 0, none⟩), v] w fun e w' => e = .returned (.tuple #[]) ∧ Lib.IsBuilderF 46 5 B b (Lib.byteCells acc) w' ∧ Jw.Kept B b w w' := by
  obtain ⟨k, x, y, s, ai, n, c, ak, m, d, rfl⟩ := hl.form
  have hlt := Jw.is_lt hi
  have HI := Lib.hid ((hi.alloc (.cells #[.pointer (some ⟨b, 0, none⟩)] 43)).alloc (.cells #[.int .i64 k, .int .i64 x, .int .u64 (y : Int), .string s, .slice ai n c, .slice ak m d] 26))
  have HK := Lib.hid (((Jw.Kept.refl B b w).alloc (by omega) (.cells #[.pointer (some ⟨b, 0, none⟩)] 43)).alloc (by simp; omega) (.cells #[.int .i64 k, .int .i64 x, .int .u64 (y : Int), .string s, .slice ai n c, .slice ak m d] 26))
  have d1 : decide ((65536 : Int) < (acc.length : Int)) = true := decide_eq_true (by omega)
  have ln := Sh.Builder_Len_f B b _ _ HI.out
  rw [Lib.byteCells_length] at ln
  clear hl hi hlong
  go_enter Tryz.func16, Tryz.ntmps16
  go_wp2_with (go_at_call 17; refine ln.mono ?_; rintro e w1 ⟨rfl, hw⟩; have hw := hw.symm; subst hw)
  first | go_end0 | refine bodyPost_ret (results_none rfl _ _ _) rfl ?_
  exact ⟨rfl, HI.out, HK.out⟩
end Go.Proofs.YtboalkfagfgnpaaGreatDoor
