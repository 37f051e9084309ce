/-
  THE WALK of stoleref1.json: Records.
-/
import Derived.Test.YtboalkfagfgnpaaGreatDoorCJJsonWtoJJsonY
import Derived.Test.YtboalkfagfgnpaaGreatDoorCJAgaintoJSaid
import Derived.Test.YtboalkfagfgnpaaGreatDoorCVCounttoJPk
import Derived.Test.YtboalkfagfgnpaaGreatDoorCJAwtoJCopy
import Derived.BigQuiet
import Derived.Deep.Cut
import Derived.Test.YtboalkfagfgnpaaGreatDoorCJReadW
namespace Go.Proofs.YtboalkfagfgnpaaGreatDoor
open Go.RowKit
set_option maxRecDepth 100000 in
set_option maxHeartbeats 4000000 in
theorem Jx.json_rec {base : Nat} {acc : List UInt8} {ov : Value} (d : Nat) (x : Int) (b : Nat) (s : ByteArray) (n : Nat) (it : Nat → Vt) (m : Nat) (ks : Nat → ByteArray) (v : Value) (w : World) (hb : base ≤ w.heap.size) (hown : w.ownsRow base 5 1 ov acc.length (Lib.byteCells acc)) (hlong : ¬ 65536 < acc.length) (hd : d ≤ 64) (hok : Js.Ok (d + 1) (.mk 6 x b s n it m ks)) (hl : (Vt.mk 6 x b s n it m ks).Lies w (· < base) v)
    (HI : Hid (∀ i, i < n → ∀ (acc : List UInt8) (v ov : Value) (w : World), base ≤ w.heap.size → acc.length ≤ 1099511627776 → (it i).Lies w (· < base) v → w.ownsRow base 5 1 ov acc.length (Lib.byteCells acc) → Calls Tryz.prog 20 #[ov, v] w fun e w' => ∃ v', e = .returned v' ∧ w'.ownsRow base 5 1 v' (Js.pj (it i) acc).length (Lib.byteCells (Js.pj (it i) acc)) ∧ Jx.Kept base w w')) :
    Calls Tryz.prog 20 #[ov, v] w fun e w' => ∃ v', e = .returned v' ∧ w'.ownsRow base 5 1 v' (Js.pj (.mk 6 x b s n it m ks) acc).length (Lib.byteCells (Js.pj (.mk 6 x b s n it m ks) acc)) ∧ Jx.Kept base w w' := by
  obtain ⟨R, hR⟩ : ∃ R, Js.pj (.mk 6 x b s n it m ks) acc = R := ⟨_, rfl⟩
  rw [hR]
  obtain ⟨F, hF⟩ : ∃ F : Nat → List UInt8 → List UInt8, F = fun i a => Js.pj (it i) (a ++ Js.pre 6 ks i) := ⟨_, rfl⟩
  have HF := Lib.hid hF
  have HR : Hid (Js.runp F n (acc ++ [123]) ++ [125] = R) := by
    unfold Hid
    rw [← hR, Js.pj, if_neg hlong, if_neg (by omega), hF]
    rfl
  obtain ⟨hf, hb64, hi⟩ := hok
  obtain ⟨hn64, hkk⟩ := Js.formed_many hf (by omega)
  obtain ⟨hmn, hks⟩ : m = n ∧ ∀ i, i < n → (ks i).size ≤ 32 := by
    rcases hkk with ⟨q, _⟩ | ⟨_, q, q2⟩
    · omega
    · exact ⟨q, q2⟩
  have HMN := Lib.hid hmn
  clear hmn hkk
  have HL : Hid (∀ j, j ≤ n → (Js.runp F j (acc ++ [123])).length ≤ 200000000) := by
    intro j hj
    have := Js.run_len (k := 6) (ks := ks) acc hlong hi (fun i q => .inr (hks i q)) (fun i out q => Js.pj_len d (it i) out q) j hj
    rw [hF]
    have : 2000000 * d ≤ 128000000 := by omega
    show (Js.runp (fun i a => Js.pj (it i) (a ++ Js.pre 6 ks i)) j (acc ++ [Js.open 6])).length ≤ 200000000
    omega
  have H := Lib.hid hl
  obtain ⟨ai, c, ak, dk, rfl, hbi, hn, hc, hk, hit⟩ := hl
  obtain ⟨oa, od, rfl⟩ := Rb.form hown
  have d1 : decide ((65536 : Int) < (acc.length : Int)) = false := decide_eq_false (by omega)
  have HKY := Lib.hid hk
  have HKS := Lib.hid hks
  have HO := Lib.hid (hown.alloc (.cells #[.int .i64 6, .int .i64 x, .int .u64 (b : Int), .string s, .slice ai n c, .slice ak m dk] 26))
  have HK := Lib.hid ((Jx.Kept.refl base w).alloc hb (.cells #[.int .i64 6, .int .i64 x, .int .u64 (b : Int), .string s, .slice ai n c, .slice ak m dk] 26))
  have HBX : Hid (base ≤ (w.alloc (.cells #[.int .i64 6, .int .i64 x, .int .u64 (b : Int), .string s, .slice ai n c, .slice ak m dk] 26)).heap.size) := by unfold Hid; simp; omega
  have HB : Hid (Vm.Box (w.alloc (.cells #[.int .i64 6, .int .i64 x, .int .u64 (b : Int), .string s, .slice ai n c, .slice ak m dk] 26)) w.heap.size (.int .i64 6) (.int .i64 x) (.int .u64 (b : Int)) (.string s) (.slice ai n c) (.slice ak m dk)) := ⟨Vm.Has.new w (.cells #[.int .i64 6, .int .i64 x, .int .u64 (b : Int), .string s, .slice ai n c, .slice ak m dk] 26) _ rfl⟩
  have HN1 : Hid (acc.length + 1 ≤ 140737488355328) := by unfold Hid; omega
  obtain ⟨acc1, hacc1⟩ : ∃ l, l = acc ++ [123] := ⟨_, rfl⟩
  rw [← hacc1] at HR HL
  have HC1 := Lib.hid hacc1
  clear hown hlong hR hF hf hi hk hit hacc1 hks
  go_enter Tryz.func20, Tryz.ntmps20
  go_wp2_with (at_builtin; refine Rb.push rfl _ _ rfl _ rfl (HO.out.alloc _) (w.heap.size + 1) [123] 1 rfl rfl (Rb.new (w.alloc (.cells #[.int .i64 6, .int .i64 x, .int .u64 (b : Int), .string s, .slice ai n c, .slice ak m dk] 26)) #[.int .u8 123] 5 _ (by simp)) HN1.out (by simp; omega) ?_; intro v1 w1 R1 hg1; have HK1 := Lib.hid ((HK.out.alloc HBX.out _).grown (HO.out.alloc _) (by simp; omega) hg1); replace R1 : w1.ownsRow base 5 1 v1 acc1.length (Lib.byteCells acc1) := (by rw [HC1.out]; exact R1); have HB1 : Hid (Vm.Box w1 w.heap.size (.int .i64 6) (.int .i64 x) (.int .u64 (b : Int)) (.string s) (.slice ai n c) (.slice ak m dk)) := Jx.box ((Jx.Kept.refl base (w.alloc (.cells #[.int .i64 6, .int .i64 x, .int .u64 (b : Int), .string s, .slice ai n c, .slice ak m dk] 26))).alloc HBX.out _ |>.grown (HO.out.alloc _) (by simp; omega) hg1) HB.out; have HR1 := Lib.hid R1; clear R1 hg1)
  go_loopw [0, 7] (fun ov ix wr => ∃ i : Nat, i ≤ n ∧ ix = .int .i64 (i : Int) ∧ Hid (wr.ownsRow base 5 1 ov (Js.runp F i acc1).length (Lib.byteCells (Js.runp F i acc1))) ∧ Hid (Jx.Kept base w wr) ∧ Hid (Vm.Box wr w.heap.size (.int .i64 6) (.int .i64 x) (.int .u64 (b : Int)) (.string s) (.slice ai n c) (.slice ak m dk))) (fun _ ix _ => n - (intOf ix).toNat)
  case atStart => exact ⟨0, Nat.zero_le _, rfl, HR1, HK1, HB1⟩
  case round =>
    clear HK1 HB1 HR1 HK HB HO HBX HN1 HC1 d1
    obtain ⟨i, hin, rfl, HO, HK, HB⟩ := hrel
    have c4 := HB.out.cells.2.2.2.2.1
    have c0 := HB.out.cells.1
    have HAL := Lib.hid (HL.out i hin)
    have hbr := Nat.le_trans hb HK.out.back.size
    by_cases hlt : i < n
    · have dj : decide ((i : Int) < (n : Int)) = true := decide_eq_true (by omega)
      obtain ⟨A2, hA2⟩ : ∃ l, l = Js.runp F i acc1 ++ Js.pre 6 ks i := ⟨_, rfl⟩
      obtain ⟨B, hB⟩ : ∃ l, Js.pj (it i) A2 = l := ⟨_, rfl⟩
      have HBB : Hid (Js.runp F (i + 1) acc1 = B) := by
        unfold Hid
        rw [← hB, hA2, Js.runp, HF.out]
      obtain ⟨A1, hA1⟩ : ∃ l, l = Js.runp F i acc1 ++ Js.comma i := ⟨_, rfl⟩
      obtain ⟨A3, hA3⟩ : ∃ l, A1 ++ Js.quoted (ks i).data.toList = l := ⟨_, rfl⟩
      have HC2 : Hid (A2 = A3 ++ [58]) := by
        unfold Hid
        rw [hA2, Js.pre, if_neg (by decide), ← hA3, hA1]
        simp
      have hcm : (Js.comma i).length ≤ 1 := by unfold Js.comma; split <;> simp
      have hks1 := HKS.out i hlt
      have hql := Js.quoted_len (ks i).data.toList
      rw [Wk.len_data] at hql
      have hA1l : A1.length ≤ 200000001 := by have := HAL.out; rw [hA1, List.length_append]; omega
      have hA3l : A3.length ≤ 200001001 := by rw [← hA3, List.length_append]; omega
      have hA2l : A2.length ≤ 1099511627776 := by rw [HC2.out, List.length_append]; simp; omega
      have HN3 : Hid (A3.length + 1 ≤ 140737488355328) := by unfold Hid; omega
      have HI1 := HI.out i hlt A2
      rw [hB] at HI1
      have HI2 := fun v ov u h1 => HI1 v ov u h1 hA2l
      have qd := fun v u h1 h2 => Jx.quoted (ks i) base A1 v u (by omega) (by omega) h1 h2
      rw [hA3] at qd
      have hlm : i < m := by have := HMN.out; omega
      have hldk : i < dk := Nat.lt_of_lt_of_le hlm HKY.out.le
      obtain ⟨kb, ko, rfl, hkb, z0⟩ := HKY.out.cell i hlm
      have hkl := HK.out.back.block kb hkb
      replace z0 := Vt.cell_on hkl z0
      have c5 := HB.out.cells.2.2.2.2.2
      have HC1 := Lib.hid hA1
      clear HI1 hA2 hB HF hcm hA2l hA3 hA1l hA3l hql hks1 hkl hA1
      obtain ⟨bi, oi, v0, v1, v2, v3, v4, v5, rfl, hbi1, y0, y1, y2, y3, y4, y5, hli0⟩ := (H.out.keys).2.2 i hlt
      have hli := hli0.below HK.out.back
      have hbl := HK.out.back.block bi hbi1
      replace y0 := Vt.cell_on hbl y0
      replace y1 := Vt.cell_on hbl y1
      replace y2 := Vt.cell_on hbl y2
      replace y3 := Vt.cell_on hbl y3
      replace y4 := Vt.cell_on hbl y4
      replace y5 := Vt.cell_on hbl y5
      clear hli0 hbl
      have hjc : i < c := Nat.lt_of_lt_of_le hlt hn
      obtain ⟨k', x', b', s', ai', n', c', ak', m', d', rfl, rfl, rfl, rfl, rfl, rfl⟩ := hli.cells
      have HLI := Lib.hid hli
      clear hli
      generalize Js.runp F i acc1 = A at *
      obtain ⟨oa2, od2, rfl⟩ := Rb.form HO.out
      by_cases h0 : i = 0
      · have d0 : decide ((0 : Int) < (i : Int)) = false := decide_eq_false (by omega)
        have d0n : decide (0 < i) = false := decide_eq_false (by omega)
        have HC : Hid (A1 = A) := by unfold Hid; rw [HC1.out, Js.comma, if_pos h0, List.append_nil]
        have HO2 : Hid (wr.ownsRow base 5 1 (.slice oa2 A.length od2) A1.length (Lib.byteCells A1)) := by unfold Hid; rw [HC.out]; exact HO.out
        have hb2 := hbr
        have HK2 := HK
        have HB2 := HB
        clear HC1 h0
        go_wp2_with (first | (go_at_call 45; refine (qd _ _ hb2 HO2.out).mono ?_; rintro e w3 ⟨v3, rfl, R3, K3⟩; have HK3 := Lib.hid (HK2.out.trans K3); have HB3 := Lib.hid (Jx.box K3 HB2.out); have hb3 := Nat.le_trans hb2 K3.back.size; have hbl := K3.back.block bi hbi1; replace y0 := Vt.cell_on hbl y0; replace y1 := Vt.cell_on hbl y1; replace y2 := Vt.cell_on hbl y2; replace y3 := Vt.cell_on hbl y3; replace y4 := Vt.cell_on hbl y4; replace y5 := Vt.cell_on hbl y5; replace z0 := Vt.cell_on (K3.back.block kb hkb) z0; replace c4 := HB3.out.cells.2.2.2.2.1; replace c5 := HB3.out.cells.2.2.2.2.2; replace c0 := HB3.out.cells.1; replace HLI := Lib.hid (HLI.out.below K3.back); obtain ⟨oa4, od4, rfl⟩ := Rb.form R3; have HO3 := Lib.hid R3; clear R3 K3 hbl) | (at_builtin; refine Rb.push rfl _ _ rfl _ rfl (HO3.out.alloc _) w3.heap.size [58] 1 rfl rfl (Rb.new w3 #[.int .u8 58] 5 _ rfl) HN3.out (by simp; omega) ?_; intro v4 w4 R4 hg4; have K4 := ((Jx.Kept.refl base w3).alloc hb3 _).grown (HO3.out.alloc _) (by simp; omega) hg4; have HK4 := Lib.hid (HK3.out.trans K4); replace R4 : w4.ownsRow base 5 1 v4 A2.length (Lib.byteCells A2) := (by rw [HC2.out]; exact R4); have HB4 := Lib.hid (Jx.box K4 HB3.out); have hb4 := Nat.le_trans hb3 K4.back.size; have hbl := K4.back.block bi hbi1; replace y0 := Vt.cell_on hbl y0; replace y1 := Vt.cell_on hbl y1; replace y2 := Vt.cell_on hbl y2; replace y3 := Vt.cell_on hbl y3; replace y4 := Vt.cell_on hbl y4; replace y5 := Vt.cell_on hbl y5; replace z0 := Vt.cell_on (K4.back.block kb hkb) z0; replace c4 := HB4.out.cells.2.2.2.2.1; replace c5 := HB4.out.cells.2.2.2.2.2; replace c0 := HB4.out.cells.1; replace HLI := Lib.hid (HLI.out.below K4.back); have hcall := HI2 _ _ _ hb4 HLI.out R4; obtain ⟨oa5, od5, rfl⟩ := Rb.form R4; clear R4 hg4 K4 hbl) | (go_at_call 20; refine hcall.mono ?_; rintro e w6 ⟨v6, rfl, R6, K6⟩; have HK6 := Lib.hid (HK4.out.trans K6); have HX6 := Lib.hid (Jx.box K6 HB4.out); have HR6 := Lib.hid R6; clear R6 K6))
        go_roundw
        case rel => exact ⟨i + 1, by omega, by go_num, by unfold Hid; rw [HBB.out]; exact HR6.out, HK6, HX6⟩
        case measure => simp [intOf]; omega
      · have d0 : decide ((0 : Int) < (i : Int)) = true := decide_eq_true (by omega)
        have d0n : decide (0 < i) = true := decide_eq_true (by omega)
        have HC : Hid (A1 = A ++ [44]) := by unfold Hid; rw [HC1.out, Js.comma, if_neg h0]
        have HN1 : Hid (A.length + 1 ≤ 140737488355328) := by have := HAL.out; unfold Hid; omega
        clear HC1 h0
        go_wp2_with (first | (at_builtin; refine Rb.push rfl _ _ rfl _ rfl (HO.out.alloc _) wr.heap.size [44] 1 rfl rfl (Rb.new wr #[.int .u8 44] 5 _ rfl) HN1.out (by simp; omega) ?_; intro v2 w2 R2 hg2; have K2 := ((Jx.Kept.refl base wr).alloc hbr _).grown (HO.out.alloc _) (by simp; omega) hg2; have HK2 := Lib.hid (HK.out.trans K2); replace R2 : w2.ownsRow base 5 1 v2 A1.length (Lib.byteCells A1) := (by rw [HC.out]; exact R2); have HB2 := Lib.hid (Jx.box K2 HB.out); have hb2 := Nat.le_trans hbr K2.back.size; have hbl := K2.back.block bi hbi1; replace y0 := Vt.cell_on hbl y0; replace y1 := Vt.cell_on hbl y1; replace y2 := Vt.cell_on hbl y2; replace y3 := Vt.cell_on hbl y3; replace y4 := Vt.cell_on hbl y4; replace y5 := Vt.cell_on hbl y5; replace z0 := Vt.cell_on (K2.back.block kb hkb) z0; replace c4 := HB2.out.cells.2.2.2.2.1; replace c5 := HB2.out.cells.2.2.2.2.2; replace c0 := HB2.out.cells.1; replace HLI := Lib.hid (HLI.out.below K2.back); obtain ⟨oa3, od3, rfl⟩ := Rb.form R2; have HO2 := Lib.hid R2; clear R2 hg2 K2 hbl) | (go_at_call 45; refine (qd _ _ hb2 HO2.out).mono ?_; rintro e w3 ⟨v3, rfl, R3, K3⟩; have HK3 := Lib.hid (HK2.out.trans K3); have HB3 := Lib.hid (Jx.box K3 HB2.out); have hb3 := Nat.le_trans hb2 K3.back.size; have hbl := K3.back.block bi hbi1; replace y0 := Vt.cell_on hbl y0; replace y1 := Vt.cell_on hbl y1; replace y2 := Vt.cell_on hbl y2; replace y3 := Vt.cell_on hbl y3; replace y4 := Vt.cell_on hbl y4; replace y5 := Vt.cell_on hbl y5; replace z0 := Vt.cell_on (K3.back.block kb hkb) z0; replace c4 := HB3.out.cells.2.2.2.2.1; replace c5 := HB3.out.cells.2.2.2.2.2; replace c0 := HB3.out.cells.1; replace HLI := Lib.hid (HLI.out.below K3.back); obtain ⟨oa4, od4, rfl⟩ := Rb.form R3; have HO3 := Lib.hid R3; clear R3 K3 hbl) | (at_builtin; refine Rb.push rfl _ _ rfl _ rfl (HO3.out.alloc _) w3.heap.size [58] 1 rfl rfl (Rb.new w3 #[.int .u8 58] 5 _ rfl) HN3.out (by simp; omega) ?_; intro v4 w4 R4 hg4; have K4 := ((Jx.Kept.refl base w3).alloc hb3 _).grown (HO3.out.alloc _) (by simp; omega) hg4; have HK4 := Lib.hid (HK3.out.trans K4); replace R4 : w4.ownsRow base 5 1 v4 A2.length (Lib.byteCells A2) := (by rw [HC2.out]; exact R4); have HB4 := Lib.hid (Jx.box K4 HB3.out); have hb4 := Nat.le_trans hb3 K4.back.size; have hbl := K4.back.block bi hbi1; replace y0 := Vt.cell_on hbl y0; replace y1 := Vt.cell_on hbl y1; replace y2 := Vt.cell_on hbl y2; replace y3 := Vt.cell_on hbl y3; replace y4 := Vt.cell_on hbl y4; replace y5 := Vt.cell_on hbl y5; replace z0 := Vt.cell_on (K4.back.block kb hkb) z0; replace c4 := HB4.out.cells.2.2.2.2.1; replace c5 := HB4.out.cells.2.2.2.2.2; replace c0 := HB4.out.cells.1; replace HLI := Lib.hid (HLI.out.below K4.back); have hcall := HI2 _ _ _ hb4 HLI.out R4; obtain ⟨oa5, od5, rfl⟩ := Rb.form R4; clear R4 hg4 K4 hbl) | (go_at_call 20; refine hcall.mono ?_; rintro e w6 ⟨v6, rfl, R6, K6⟩; have HK6 := Lib.hid (HK4.out.trans K6); have HX6 := Lib.hid (Jx.box K6 HB4.out); have HR6 := Lib.hid R6; clear R6 K6))
        go_roundw
        case rel => exact ⟨i + 1, by omega, by go_num, by unfold Hid; rw [HBB.out]; exact HR6.out, HK6, HX6⟩
        case measure => simp [intOf]; omega
    · have dj : decide ((i : Int) < (n : Int)) = false := decide_eq_false (by omega)
      have djn : decide (i < n) = false := decide_eq_false (by omega)
      have ei : i = n := by omega
      have HN1 : Hid ((Js.runp F i acc1).length + 1 ≤ 140737488355328) := by have := HAL.out; unfold Hid; omega
      have HRR : Hid (Js.runp F i acc1 ++ [125] = R) := by rw [ei]; exact HR
      clear HR ei hlt HF HI
      generalize Js.runp F i acc1 = A at *
      obtain ⟨oa2, od2, rfl⟩ := Rb.form HO.out
      go_wp2_with (at_builtin; refine Rb.push rfl _ _ rfl _ rfl (HO.out.alloc _) wr.heap.size [125] 1 rfl rfl (Rb.new wr #[.int .u8 125] 5 _ rfl) HN1.out (by simp; omega) ?_; intro v2 w2 R2 hg2; have HK2 := Lib.hid ((HK.out.alloc hbr _).grown (HO.out.alloc _) (by simp; omega) hg2); replace R2 : w2.ownsRow base 5 1 v2 R.length (Lib.byteCells R) := (by rw [← HRR.out]; exact R2); have HR2 := Lib.hid R2; clear R2 hg2)
      go_ret
      exact ⟨_, rfl, HR2.out, HK2.out⟩
end Go.Proofs.YtboalkfagfgnpaaGreatDoor
/-
  stoleref1.json, of every value that may be.
-/
namespace Go.Proofs.YtboalkfagfgnpaaGreatDoor
open Go.RowKit
theorem Jx.leaf_told {k x : Int} (hf : Vt.formed k x 0 ⟨#[]⟩ 0 0 (fun _ => ⟨#[]⟩) = true) (hk : k = 1 ∨ k = 2) : (Js.leaf k x 0 ⟨#[]⟩).told.1 = ⟨(Js.put (Js.leaf k x 0 ⟨#[]⟩)).toArray⟩ := by
  have hm : (Js.leaf k x 0 ⟨#[]⟩).may = true := by
    unfold Vt.may
    rw [Js.stand_leaf (by omega) hf]
  unfold Js.leaf at hm ⊢
  rw [Vt.told, if_pos hm, Js.put]
  rcases hk with rfl | rfl
  · by_cases hx : x = 1
    · simp [hx]
    · simp [hx]
  · simp
theorem Jx.formed12 {k x : Int} {b : Nat} {s : ByteArray} {n m : Nat} {ks : Nat → ByteArray} (hf : Vt.formed k x b s n m ks = true) (hk : k = 1 ∨ k = 2) : b = 0 ∧ s = ⟨#[]⟩ ∧ n = 0 ∧ m = 0 ∧ Vt.formed k x 0 ⟨#[]⟩ 0 0 (fun _ => ⟨#[]⟩) = true := by
  have hs : s.toList.isEmpty = true → s = ⟨#[]⟩ := fun q => by
    have q2 : s.toList = [] := List.isEmpty_iff.1 q
    rw [ByteArray.toList_eq] at q2
    apply ByteArray.ext
    apply Array.ext'
    rw [q2]
  rcases hk with rfl | rfl
  · simp only [Vt.formed, if_neg (show ¬ (1 : Int) = 0 by omega), if_true, Bool.and_eq_true, decide_eq_true_eq] at hf
    obtain ⟨⟨⟨⟨h1, rfl⟩, h3⟩, rfl⟩, rfl⟩ := hf
    refine ⟨rfl, hs h3, rfl, rfl, Js.formed013 (.inr (.inl ⟨rfl, ?_, rfl⟩))⟩
    simpa using h1
  · simp only [Vt.formed, if_neg (show ¬ (2 : Int) = 0 by omega), if_neg (show ¬ (2 : Int) = 1 by omega), if_true, Bool.and_eq_true, decide_eq_true_eq] at hf
    obtain ⟨⟨⟨⟨h1, rfl⟩, h3⟩, rfl⟩, rfl⟩ := hf
    exact ⟨rfl, hs h3, rfl, rfl, Js.formed2 h1.1 h1.2⟩
theorem Jx.put_leaf {k x : Int} (hk : k = 1 ∨ k = 2) (hx : -9007199254740991 ≤ x ∧ x ≤ 9007199254740991) (it : Nat → Vt) (ks : Nat → ByteArray) : Js.put (.mk k x 0 ⟨#[]⟩ 0 it 0 ks) = Js.put (Js.leaf k x 0 ⟨#[]⟩) ∧ (Js.put (Js.leaf k x 0 ⟨#[]⟩)).length ≤ 60 := by
  unfold Js.leaf
  have := Rt.itoa_le x (by omega) (by omega)
  rw [Js.put, Js.put]
  rcases hk with rfl | rfl
  · refine ⟨by simp, ?_⟩
    by_cases hx : x = 1
    · simp [hx]
    · simp [hx]
  · refine ⟨by simp, ?_⟩
    simp
    omega
theorem Jx.leaf_tell {k x : Int} (hf : Vt.formed k x 0 ⟨#[]⟩ 0 0 (fun _ => ⟨#[]⟩) = true) (hk : k = 1 ∨ k = 2) {ai ak : Option Addr} {c dk : Nat} (hc : c ≤ maxLen) (hd : dk ≤ maxLen) (u : World) :
    ∃ bo, Calls Tryz.prog 46 #[.agg #[.int .i64 k, .int .i64 x, .int .u64 0, .string ⟨#[]⟩, .slice ai 0 c, .slice ak 0 dk]] u fun e w' => e = .returned (.tuple #[.string ⟨(Js.put (Js.leaf k x 0 ⟨#[]⟩)).toArray⟩, .bool bo]) ∧ Below u.heap.size u w' := by
  have hm : (Js.leaf k x 0 ⟨#[]⟩).may = true := by
    unfold Vt.may
    rw [Js.stand_leaf (by omega) hf]
  have h := Rv.tell k x 0 ⟨#[]⟩ 0 (fun _ => .nil) 0 (fun _ => ⟨#[]⟩) (.agg #[.int .i64 k, .int .i64 x, .int .u64 0, .string ⟨#[]⟩, .slice ai 0 c, .slice ak 0 dk]) u ⟨ai, c, ak, dk, rfl, by omega, Nat.zero_le _, hc, ⟨Nat.zero_le _, hd, fun j q => absurd q (by omega)⟩, fun i q => absurd q (by omega)⟩ hm
  refine ⟨((Js.leaf k x 0 ⟨#[]⟩).told.2 == 0), ?_⟩
  rw [← Jx.leaf_told hf hk]
  exact h
theorem Jx.json : ∀ (d : Nat), d ≤ 64 → ∀ (t : Vt) (base : Nat) (acc : List UInt8) (v ov : Value) (w : World), Js.Ok d t → base ≤ w.heap.size → acc.length ≤ 1099511627776 → t.Lies w (· < base) v → w.ownsRow base 5 1 ov acc.length (Lib.byteCells acc) →
    Calls Tryz.prog 20 #[ov, v] w fun e w' => ∃ v', e = .returned v' ∧ w'.ownsRow base 5 1 v' (Js.pj t acc).length (Lib.byteCells (Js.pj t acc)) ∧ Jx.Kept base w w' := by
  intro d
  induction d with
  | zero => intro _ t _ _ _ _ _ h; exact h.elim
  | succ d ih =>
    intro hd t base acc v ov w hok hb hacc hl hown
    cases t with
    | nil => exact hok.elim
    | mk k x b s n it m ks =>
      have hl0 := hl
      obtain ⟨ai, c, ak, dk, rfl, hbi, hn, hc, hk, hit⟩ := hl
      by_cases hlong : 65536 < acc.length
      · rw [Js.pj_over hlong]
        refine (Jx.json_long _ w hown hlong).mono fun e w' h => ?_
        obtain ⟨rfl, K⟩ := h
        exact ⟨_, rfl, Jx.on hown K, (Jx.Kept.refl base w).more hb K⟩
      · have hok0 := hok
        obtain ⟨hf, hb64, hi⟩ := hok
        have epj : 0 ≤ k ∧ k < 5 → Js.pj (.mk k x b s n it m ks) acc = acc ++ Js.put (.mk k x b s n it m ks) := fun q => by rw [Js.pj, if_neg hlong, if_pos q]
        rcases Js.formed_leaf hf with ⟨rfl, rfl⟩ | ⟨rfl, hx⟩ | ⟨rfl, hx⟩ | rfl | rfl | ⟨rfl, rfl⟩ | ⟨rfl, rfl⟩
        · rw [epj (by omega), Js.put, if_pos rfl]
          exact Jx.json_null _ _ _ _ _ w hb hown hlong
        · have hkk := (show (1 : Int) = 1 ∨ (1 : Int) = 2 from .inl rfl)
          obtain ⟨rfl, rfl, rfl, rfl, hf2⟩ := Jx.formed12 hf hkk
          obtain ⟨e1, e2⟩ := Jx.put_leaf (x := x) hkk (by omega) it ks
          rw [epj (by omega), e1]
          exact Jx.json_tell _ x ai ak c dk ⟨(Js.put (Js.leaf _ x 0 ⟨#[]⟩)).toArray⟩ w hb hown hlong hkk (by rw [Rt.size]; exact e2) (fun u _ => Jx.leaf_tell hf2 hkk hc hk.max u)
        · have hkk := (show (2 : Int) = 1 ∨ (2 : Int) = 2 from .inr rfl)
          obtain ⟨rfl, rfl, rfl, rfl, hf2⟩ := Jx.formed12 hf hkk
          obtain ⟨e1, e2⟩ := Jx.put_leaf (x := x) hkk (by omega) it ks
          rw [epj (by omega), e1]
          exact Jx.json_tell _ x ai ak c dk ⟨(Js.put (Js.leaf _ x 0 ⟨#[]⟩)).toArray⟩ w hb hown hlong hkk (by rw [Rt.size]; exact e2) (fun u _ => Jx.leaf_tell hf2 hkk hc hk.max u)
        · rw [epj (by omega), Js.put, if_neg (by omega), if_neg (by omega), if_neg (by omega), if_pos rfl]
          exact Jx.json_real _ _ _ _ b hb64 w hb hown hlong
        · rw [epj (by omega), Js.put, if_neg (by omega), if_neg (by omega), if_neg (by omega), if_neg (by omega), if_pos rfl]
          have h3 : s.size ≤ 65536 := by
            simp only [Vt.formed] at hf
            simp at hf
            exact hf.1.1.1.1
          exact Jx.json_text _ _ _ _ s w hb hown hlong h3
        · exact Jx.json_list d x b s n it 0 ks _ w hb hown hlong (by omega) hok0 hl0 (fun i q acc v ov w h1 h2 h3 h4 => ih (by omega) (it i) base acc v ov w (hi i q) h1 h2 h3 h4)
        · exact Jx.json_rec d x b s _ it _ ks _ w hb hown hlong (by omega) hok0 hl0 (fun i q acc v ov w h1 h2 h3 h4 => ih (by omega) (it i) base acc v ov w (hi i q) h1 h2 h3 h4)
end Go.Proofs.YtboalkfagfgnpaaGreatDoor
/-
  THE WALK of stoleref1.PutJson.
-/
namespace Go.Proofs.YtboalkfagfgnpaaGreatDoor
open Go.RowKit
theorem Jx.bits {w : World} {R : Nat → Prop} : ∀ {t : Vt} {v : Value}, t.Lies w R v → Js.Bits t := by
  intro t
  induction t with
  | nil => intro v h; exact h.elim
  | mk k x b s n it m ks ih =>
    intro v h
    obtain ⟨ai, c, ak, dk, rfl, hb, hn, hc, hk, hi⟩ := h
    refine ⟨hb, fun i q => ?_⟩
    obtain ⟨bi, oi, v0, v1, v2, v3, v4, v5, _, _, _, _, _, _, _, _, hli⟩ := hi i q
    exact ih i hli
set_option maxRecDepth 100000 in
set_option maxHeartbeats 4000000 in
theorem Jx.put (t : Vt) (v : Value) (w : World) (hl : t.Lies w (· < w.heap.size) v) :
    Calls Tryz.prog 7 #[v] w fun e w' => e = .returned (.tuple #[.string ⟨(Js.said t).toArray⟩, .int .i64 (Js.err t)]) ∧ Below w.heap.size w w' := by
  have hm := fun (u : World) (hb : Below w.heap.size w u) => Rv.may t v u (hl.on' hb)
  have HFORM := hl.form
  have hbits := Jx.bits hl
  by_cases hmay : t.may = true
  · have hok := Js.ok_of_may hmay hbits
    have hj := fun (u : World) (hb : Below w.heap.size w u) => Jx.json 8 (by omega) t u.heap.size [] v (.slice none 0 0) u hok (Nat.le_refl _) (by simp) (hl.on' hb) (World.ownsRow_nil _ _ _ _)
    obtain ⟨h1, h2⟩ := Js.pj_said t
    obtain ⟨P, hP⟩ : ∃ P, Js.pj t [] = P := ⟨_, rfl⟩
    rw [hP] at hj h1 h2
    rw [hmay] at hm
    by_cases hlong : 65536 < P.length
    · have es : Js.said t = [] := if_neg (fun q => by have := h1.1 hlong; omega)
      have ee : Js.err t = 1001 := by unfold Js.err; rw [if_pos hmay, if_neg (by have := h1.1 hlong; omega)]
      rw [es, ee]
      have d1 : decide ((65536 : Int) < (P.length : Int)) = true := decide_eq_true (by omega)
      clear h1 h2 hP hok hmay es ee hbits hl hlong
      obtain ⟨k, x, b, s, ai, n, c, ak, m, d, rfl⟩ := HFORM
      go_enter Tryz.func7, Tryz.ntmps7
      go_wp2_with (first | (go_at_call 19; refine (hm _ ((Below.refl _ w).alloc (Nat.le_refl _) _)).mono ?_; rintro e w1 ⟨rfl, b1⟩; obtain ⟨c0, c1, c2, c3, c4, c5⟩ := (Vm.box b1).cells; replace b1 := ((Below.refl _ w).alloc (Nat.le_refl _) _).trans (b1.mono (by simp)); replace hj := hj w1 b1; have HB1 := Lib.hid b1; clear b1) | (go_at_call 20; refine hj.mono ?_; rintro e w2 ⟨v2, rfl, R2, K2⟩; obtain ⟨oa, od, rfl⟩ := Rb.form R2; have HB2 := Lib.hid (HB1.out.trans (K2.back.mono HB1.out.size)); clear R2 K2))
      go_ret2
      exact ⟨rfl, HB2.out⟩
    · have es : Js.said t = P := by unfold Js.said; rw [if_pos ⟨hmay, by have := mt h1.2 hlong; omega⟩, h2 hlong]
      have ee : Js.err t = 0 := by unfold Js.err; rw [if_pos hmay, if_pos (by have := mt h1.2 hlong; omega)]
      rw [es, ee]
      have d1 : decide ((65536 : Int) < (P.length : Int)) = false := decide_eq_false (by omega)
      clear h1 h2 hP hok hmay es ee hbits hl hlong
      obtain ⟨k, x, b, s, ai, n, c, ak, m, d, rfl⟩ := HFORM
      go_enter Tryz.func7, Tryz.ntmps7
      go_wp2_with (first | (go_at_call 19; refine (hm _ ((Below.refl _ w).alloc (Nat.le_refl _) _)).mono ?_; rintro e w1 ⟨rfl, b1⟩; obtain ⟨c0, c1, c2, c3, c4, c5⟩ := (Vm.box b1).cells; replace b1 := ((Below.refl _ w).alloc (Nat.le_refl _) _).trans (b1.mono (by simp)); replace hj := hj w1 b1; have HB1 := Lib.hid b1; clear b1) | (go_at_call 20; refine hj.mono ?_; rintro e w2 ⟨v2, rfl, R2, K2⟩; obtain ⟨oa, od, rfl⟩ := Rb.form R2; have hcv := Rn.conv R2; have HB2 := Lib.hid (HB1.out.trans (K2.back.mono HB1.out.size)); clear R2 K2))
      go_ret2
      exact ⟨rfl, HB2.out⟩
  · have es : Js.said t = [] := if_neg (fun q => hmay q.1)
    have ee : Js.err t = 1000 := by unfold Js.err; rw [if_neg hmay]
    rw [es, ee]
    rw [Bool.eq_false_iff.2 hmay] at hm
    clear es ee hbits hl hmay
    obtain ⟨k, x, b, s, ai, n, c, ak, m, d, rfl⟩ := HFORM
    go_enter Tryz.func7, Tryz.ntmps7
    go_wp2_with (go_at_call 19; refine (hm _ ((Below.refl _ w).alloc (Nat.le_refl _) _)).mono ?_; rintro e w1 ⟨rfl, b1⟩; obtain ⟨c0, c1, c2, c3, c4, c5⟩ := (Vm.box b1).cells; replace b1 := ((Below.refl _ w).alloc (Nat.le_refl _) _).trans (b1.mono (by simp)); have HB1 := Lib.hid b1; clear b1)
    go_ret2
    exact ⟨rfl, HB1.out⟩
end Go.Proofs.YtboalkfagfgnpaaGreatDoor
/-
  A REGION THAT DRAWS ITS ORDER, whose operations only read and whose callees only add: one walk, over all worlds that have grown from one.
-/
namespace Go.Proofs.YtboalkfagfgnpaaGreatDoor
open Go.RowKit
def Jq.Wd (L : World) : Type := { u : World // Below L.heap.size L u }
theorem Jq.ne (L : World) : Nonempty (Jq.Wd L) := ⟨⟨L, Below.refl _ _⟩⟩
theorem Jq.call {L : World} {f : FuncId} {args : Array Value} {v : Value} (q : Jq.Wd L) (h : Calls Tryz.prog f args q.1 fun e w' => e = .returned v ∧ Below q.1.heap.size q.1 w') :
    Calls Tryz.prog f args q.1 fun e w'' => e = .returned v ∧ ∃ m : Jq.Wd L, w'' = m.1 :=
  h.mono fun _ w' ⟨he, hb⟩ => ⟨he, ⟨w', q.2.trans (hb.mono q.2.size)⟩, rfl⟩
theorem Jq.cells {L : World} {g : Nat} {v0 v1 v2 v3 v4 v5 : Value} (h : Vm.Box L g v0 v1 v2 v3 v4 v5) (q : Jq.Wd L) : q.1.cell? ⟨g, 0, none⟩ = some v0 ∧ q.1.cell? ⟨g, 1, none⟩ = some v1 ∧ q.1.cell? ⟨g, 2, none⟩ = some v2 ∧ q.1.cell? ⟨g, 3, none⟩ = some v3 ∧ q.1.cell? ⟨g, 4, none⟩ = some v4 ∧ q.1.cell? ⟨g, 5, none⟩ = some v5 :=
  Vm.Box.cells ⟨(q.2.block g h.lt).trans h.all⟩
end Go.Proofs.YtboalkfagfgnpaaGreatDoor
/-
  THE WALK of stolelaw10.JsonBack: it returns true.
-/
namespace Go.Proofs.YtboalkfagfgnpaaGreatDoor
open Go.RowKit
theorem Js.clean_at : ∀ {l : List UInt8}, Js.dirty l = false → ∀ {i : Nat} {c : UInt8}, l[i]? = some c → Js.line c (l.drop (i + 1)) = false
  | [], _, i, c, h => by simp at h
  | a :: r, hd, 0, c, h => by
    rw [Js.dirty, Bool.or_eq_false_iff] at hd
    have : a = c := by simpa using h
    rw [← this]
    exact hd.1
  | a :: r, hd, i + 1, c, h => by
    rw [Js.dirty, Bool.or_eq_false_iff] at hd
    exact Js.clean_at hd.2 (i := i) (by simpa using h)
theorem Jb.at {T : ByteArray} {i : Nat} (h : i < T.size) : T.data.toList[i]? = some T[i] := by
  rw [List.getElem?_eq_getElem (by rw [Array.length_toList]; exact h)]
  simp [ByteArray.getElem_eq_getElem_data]
theorem Jb.same {a b : Vt} (h : a.eq b = true) {u : World} {v v' : Value} (h1 : a.Lies u (· < u.heap.size) v) (h2 : b.Lies u (· < u.heap.size) v') : Calls Tryz.prog 11 #[v, v'] u fun e w' => e = .returned (.bool true) ∧ Below u.heap.size u w' := by
  have := Vs.same a b v v' u h1 h2
  rw [h] at this
  exact this
theorem Jb.ne {c d : UInt8} (h : c ≠ d) : ((c.toNat : Int) == (d.toNat : Int)) = false := by
  rw [beq_eq_false_iff_ne]
  exact fun q => h (UInt8.toNat_inj.1 (by omega))
/-- what a byte of what is put is not -/
theorem Jb.byte {P : ByteArray} {t : Vt} (hP : P.data.toList = Js.put t) (hd : Js.dirty (Js.put t) = false) {i : Nat} (h : i < P.size) : P[i] ≠ 60 ∧ P[i] ≠ 62 ∧ P[i] ≠ 38 ∧ P[i] ≠ 39 ∧ 32 ≤ P[i].toNat ∧ (P[i] ≠ 226 ∨ ¬ i + 2 < P.size ∨ ∃ (h1 : i + 1 < P.size) (h2 : i + 2 < P.size), P[i + 1] ≠ 128 ∨ (P[i + 1] = 128 ∧ P[i + 2] ≠ 168 ∧ P[i + 2] ≠ 169)) := by
  have hm : P[i] ∈ Js.put t := by rw [← hP]; exact List.mem_of_getElem? (Jb.at h)
  have hg := Js.put_good t _ hm
  unfold Js.good at hg
  simp only [Bool.and_eq_true, decide_eq_true_eq, Bool.not_eq_true', decide_eq_false_iff_not] at hg
  refine ⟨hg.1.1.1.2, hg.1.1.2, hg.1.2, hg.2, hg.1.1.1.1, ?_⟩
  by_cases h226 : P[i] = 226
  · by_cases h2 : i + 2 < P.size
    · refine .inr (.inr ⟨by omega, h2, ?_⟩)
      have hl := Js.clean_at hd (i := i) (c := P[i]) (by rw [← hP]; exact Jb.at h)
      rw [← hP] at hl
      unfold Js.line at hl
      rw [h226, List.getElem?_drop, List.getElem?_drop, Nat.add_zero, Jb.at (show i + 1 < P.size by omega), show i + 1 + 1 = i + 2 from rfl, Jb.at h2] at hl
      by_cases h128 : P[i + 1] = 128
      · refine .inr ⟨h128, ?_, ?_⟩
        · intro q
          rw [h128, q] at hl
          exact absurd hl (by decide)
        · intro q
          rw [h128, q] at hl
          exact absurd hl (by decide)
      · exact .inl h128
    · exact .inr (.inl h2)
  · exact .inl h226
end Go.Proofs.YtboalkfagfgnpaaGreatDoor
