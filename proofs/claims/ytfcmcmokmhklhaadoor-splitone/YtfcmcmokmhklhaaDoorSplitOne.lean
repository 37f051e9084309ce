/-
  THE WALK of stolelaw13.SplitOne: it returns true.
-/
import Derived.Test.YtfcmcmokmhklhaaDoorLAw
import Derived.Test.YtfcmcmokmhklhaaDoorLPla
import Derived.Deep.CutBlock
namespace Go.Proofs.YtfcmcmokmhklhaaDoor
open Go.RowKit
theorem Lw.isEmpty {A : ByteArray} {k : Nat} {b : Bool} (h : A.toList.isEmpty = b) : Lx.one A.data.toList k = if b = true then [] else [⟨false, A.data.toList, k⟩] := by
  unfold Lx.one
  rw [← ByteArray.toList_eq]
  subst h
  cases A.toList <;> simp
set_option maxRecDepth 100000 in
set_option maxHeartbeats 4000000 in
theorem Law.splitOne (s t : ByteArray) (x : Int) (w : World) (hT : Lp.T w) (hs : s.size ≤ 1152921504606846976) (ht : t.size ≤ 1152921504606846976) : Calls Tryd.prog 6 #[.string s, .string t, .int .i64 x] w fun e w' => e = .returned (.bool true) ∧ Below w.heap.size w w' := by
  have aw := fun u h => Lw.awake u h
  have HT := Lib.hid hT
  have nm := fun x u => Lw.num x u
  have p1 := fun u => Lo.plain1 s u hs
  have p2 := fun u => Lo.plain1 t u ht
  obtain ⟨k, hk, hk12⟩ := Lb.and12 x
  have de := fun u => Dm.decimal k (by omega) u
  have zde : (Lib.decDigits k).length ≤ 4 := Dm.digits_len 3 k (by omega)
  have HAD := Lib.hid (Lo.act_dec k)
  obtain ⟨C, hC⟩ : ∃ C : ByteArray, (⟨#[46, 107]⟩ : ByteArray) ++ ⟨(Lib.decDigits k).toArray⟩ = C := ⟨_, rfl⟩
  have HCD : Hid (C.data.toList = 46 :: 107 :: Lib.decDigits k) := by unfold Hid; rw [← hC, Lf.append]; rfl
  have zD : (⟨(Lib.decDigits k).toArray⟩ : ByteArray).size ≤ 4 := by rw [← Wk.len_data]; exact zde
  have zC : C.size ≤ 6 := by rw [← Wk.len_data, HCD.out]; simp; omega
  rw [← HCD.out] at HAD
  clear hT HCD zde
  generalize (⟨(Lib.decDigits k).toArray⟩ : ByteArray) = DD at *
  go_enter Tryd.func6, Tryd.ntmps6
  go_upto_region 5 with (first | (go_at_call 12; refine (aw _ HT.out).mono ?_; rintro e w1 ⟨rfl, b1⟩; have HB1 := Lib.hid b1; clear b1 aw) | (go_at_call 14; refine (p1 _).mono ?_; rintro e w' ⟨A, rfl, zA, hA, hw⟩; have hw := hw.symm; subst hw; have HA := Lib.hid hA; clear p1 hA) | (go_at_call 14; refine (p2 _).mono ?_; rintro e w' ⟨B, rfl, zB, hB, hw⟩; have hw := hw.symm; subst hw; have HB := Lib.hid hB; clear p2 hB) | (go_at_call 15; refine (de _).mono ?_; rintro e w2 ⟨rfl, b2⟩; have HB2 := Lib.hid (Wk.below_step HB1.out b2); clear b2 de))
  have sz : ∀ a b : ByteArray, (a ++ b).size = a.size + b.size := fun a b => ByteArray.size_append
  have k1 : (⟨#[123, 123]⟩ : ByteArray).size = 2 := rfl
  have k2 : (⟨#[125, 125, 123, 123, 32, 32]⟩ : ByteArray).size = 6 := rfl
  have k3 : (⟨#[10, 125, 125]⟩ : ByteArray).size = 3 := rfl
  obtain ⟨SS, hSS⟩ : ∃ SS : ByteArray, SS = (A ++ ⟨#[123, 123]⟩ ++ C ++ ⟨#[125, 125, 123, 123, 32, 32]⟩ ++ C ++ ⟨#[10, 125, 125]⟩ ++ B) := ⟨_, rfl⟩
  have hq := Lo.split (s := SS) (A := A) (B := B) (C := C) HA.out HB.out HAD.out.1 HAD.out.2 (by omega) (by rw [hSS]; simp only [sz, k1, k2, k3]; omega) (by rw [hSS]; simp)
  rw [hSS] at hq
  have c1 := fun u h => Lp.split (A ++ ⟨#[123, 123]⟩ ++ C ++ ⟨#[125, 125, 123, 123, 32, 32]⟩ ++ C ++ ⟨#[10, 125, 125]⟩ ++ B) u h
  rw [hq] at c1
  clear hq hSS HAD HA HB
  obtain ⟨b1, hb1⟩ : ∃ b1, A.toList.isEmpty = b1 := ⟨_, rfl⟩
  obtain ⟨b2, hb2⟩ : ∃ b2, B.toList.isEmpty = b2 := ⟨_, rfl⟩
  have HO1 := Lib.hid (fun k => Lw.isEmpty (k := k) hb1)
  have HO2 := Lib.hid (fun k => Lw.isEmpty (k := k) hb2)
  go_upto_if 51 with (go_at_call 8; refine (c1 _ (HT.out.on HB2.out)).mono ?_; rintro e w3 ⟨v3, rfl, l3, b3⟩; have HL3 := Lib.hid l3; have HB3 := Lib.hid (Wk.below_step HB2.out b3); clear l3 b3 c1 HB1 HB2)
  clear hb1
  have HX : Hid (Bs.Box (w3.alloc (.cells #[.bool true, .string C, .int .i64 (A.size : Int), .bool true, .string C, .int .i64 ((A.size : Int) + (C.size : Int) + 4)] 33)) w3.heap.size _ 33) := Bs.Box.new _ _ _ _ rfl
  have HWA : Hid (Below w3.heap.size w3 (w3.alloc (.cells #[.bool true, .string C, .int .i64 (A.size : Int), .bool true, .string C, .int .i64 ((A.size : Int) + (C.size : Int) + 4)] 33))) := (Below.refl _ _).alloc (Nat.le_refl _) _
  have HCE : Hid ((#[.bool true, .string C, .int .i64 (A.size : Int), .bool true, .string C, .int .i64 ((A.size : Int) + (C.size : Int) + 4)] : Array Value).toList = Pc.cells [(⟨true, C.data.toList, A.size⟩ : Pc), ⟨true, C.data.toList, A.size + C.size + 4⟩]) := rfl
  have hw4 : w3.heap.size < (w3.alloc (.cells #[.bool true, .string C, .int .i64 (A.size : Int), .bool true, .string C, .int .i64 ((A.size : Int) + (C.size : Int) + 4)] 33)).heap.size := by simp
  generalize w3.alloc (.cells #[.bool true, .string C, .int .i64 (A.size : Int), .bool true, .string C, .int .i64 ((A.size : Int) + (C.size : Int) + 4)] 33) = w4 at *
  go_cut [12] from 52 to 56 (fun v wx => Hid (wx.ownsRow w3.heap.size 33 3 v (Lx.one A.data.toList 0 ++ [(⟨true, C.data.toList, A.size⟩ : Pc), ⟨true, C.data.toList, A.size + C.size + 4⟩]).length (Pc.cells (Lx.one A.data.toList 0 ++ [(⟨true, C.data.toList, A.size⟩ : Pc), ⟨true, C.data.toList, A.size + C.size + 4⟩]))) ∧ Hid (Below w3.heap.size w3 wx))
  case first =>
    cases b1 with
    | true =>
      have HE : Hid (Lx.one A.data.toList 0 = []) := HO1.out _
      clear HO1
      go_wp2_with fail
      go_meet
      case rel => exact ⟨by rw [HE.out]; exact Lm.own_lit [(⟨true, C.data.toList, A.size⟩ : Pc), ⟨true, C.data.toList, A.size + C.size + 4⟩] 2 HX.out (Nat.le_refl _) rfl (by decide) HCE.out, HWA⟩
    | false =>
      have HE : Hid (Lx.one A.data.toList 0 = [⟨false, A.data.toList, 0⟩]) := HO1.out _
      clear HO1
      go_wp2_with (at_builtin; refine Lm.pushN (base := w3.heap.size) (ps := [⟨false, A.data.toList, 0⟩]) (qs := [(⟨true, C.data.toList, A.size⟩ : Pc), ⟨true, C.data.toList, A.size + C.size + 4⟩]) rfl _ _ rfl _ rfl (Lm.own_lit [⟨false, A.data.toList, 0⟩] 1 (Bs.Box.new w4 _ _ _ rfl) (by omega) rfl (by decide) rfl) w3.heap.size 2 2 rfl rfl (fun j u hj => (HX.out.alloc _).cell j (by rw [← Array.getElem?_toList, HCE.out]; exact hj)) (by simp) (by simp; omega) ?_)
      intro v5 w5 R5 hg5
      have HR5 := Lib.hid R5
      have HW5 : Hid (Below w3.heap.size w3 w5) := (HWA.out.alloc (by omega) _).grown hg5 (by simp; omega) (fun k hk => by cases hk; show w3.heap.size ≤ w4.heap.size; omega)
      clear R5 hg5
      go_wp2_with fail
      go_meet
      case rel => exact ⟨by rw [HE.out]; exact HR5, HW5⟩
  case rest =>
    obtain ⟨HR, HW⟩ := hcut
    clear HX HWA HCE hw4
    have zL : (Lx.one A.data.toList 0 ++ [(⟨true, C.data.toList, A.size⟩ : Pc), ⟨true, C.data.toList, A.size + C.size + 4⟩]).length ≤ 3 := by rw [List.length_append]; have := (Lx.one_len A.data.toList 0).1; simp only [List.length_cons, List.length_nil]; omega
    obtain ⟨L, hL⟩ : ∃ L, A.size + 2 * C.size + 11 = L := ⟨_, rfl⟩
    have e11 : (A.size : Int) + 2 * (C.size : Int) + 11 = (L : Int) := by omega
    rw [hL] at HL3
    clear hL
    go_upto_if 58 with fail
    clear hb2
    generalize Lx.one A.data.toList 0 ++ [(⟨true, C.data.toList, A.size⟩ : Pc), ⟨true, C.data.toList, A.size + C.size + 4⟩] = PS1 at *
    have hwc := HW.out.size
    go_cut [12] from 59 to 70 (fun v wx => Hid (wx.ownsRow w3.heap.size 33 3 v (PS1 ++ Lx.one B.data.toList (L)).length (Pc.cells (PS1 ++ Lx.one B.data.toList (L)))) ∧ Hid (Below w3.heap.size w3 wx))
    case first =>
      cases b2 with
      | true =>
        have HE : Hid (Lx.one B.data.toList (L) = []) := HO2.out _
        clear HO2
        go_wp2_with fail
        go_meet
        case rel => exact ⟨by rw [HE.out, List.append_nil]; exact HR, HW⟩
      | false =>
        have HE : Hid (Lx.one B.data.toList (L) = [⟨false, B.data.toList, L⟩]) := HO2.out _
        clear HO2
        go_wp2_with (at_builtin; refine Ro.push rfl _ _ 22 33 3 32 _ rfl Tryd.underlying22 Lm.info rfl (by decide) _ rfl (HR.out.alloc _) wc.heap.size (Pc.three ⟨false, B.data.toList, L⟩) rfl (Lm.cell3 wc false B (L)) rfl (Pc.three_one _) (by unfold maxLen; omega) (by omega) (by simp; omega) ?_)
        intro v5 w5 R5 hg5 _
        have HR5 : Hid (w5.ownsRow w3.heap.size 33 3 v5 (PS1 ++ [(⟨false, B.data.toList, L⟩ : Pc)]).length (Pc.cells (PS1 ++ [⟨false, B.data.toList, L⟩]))) := by unfold Hid; rw [Pc.cells_snoc, List.length_append]; exact R5
        have HW5 : Hid (Below w3.heap.size w3 w5) := (HW.out.alloc hwc _).grown hg5 (by simp; omega) (fun k hk => (HR.out.lt k hk).1)
        clear R5 hg5 HR HW
        go_wp2_with fail
        go_meet
        case rel => exact ⟨by rw [HE.out]; exact HR5, HW5⟩
    case rest =>
      clear HR HW
      obtain ⟨HR, HW⟩ := hcut
      have HM := Lib.hid (Pc.Lies.below HL3.out HW.out)
      have HN := Lib.hid (Pc.Lies.own HR.out)
      have HBZ := Lib.hid (Wk.below_step HB3.out HW.out)
      clear HL3 HR HB3 HO1 HO2
      go_wp2_with (first | (go_at_call 10; refine (Sa.pieces _ _ _ _ _ _ HM.out HN.out).mono ?_; rintro e w9 ⟨rfl, n9, rfl⟩) | (go_at_call 11; refine (nm _ _).mono ?_; rintro e w' ⟨rfl, hw⟩; have hw := hw.symm; subst hw))
      go_ret
      exact ⟨rfl, Lw.drewN HBZ.out _⟩
end Go.Proofs.YtfcmcmokmhklhaaDoor
