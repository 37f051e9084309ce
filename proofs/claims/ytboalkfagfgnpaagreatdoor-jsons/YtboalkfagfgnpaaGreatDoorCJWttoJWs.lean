/-
  THE WALKS of json.write: leaves.
-/
import Derived.Test.YtboalkfagfgnpaaGreatDoorCJEwtoJWr
import Derived.Test.YtboalkfagfgnpaaGreatDoorCVTruetoVAlike
namespace Go.Proofs.YtboalkfagfgnpaaGreatDoor
open Go.RowKit
theorem Js.pj_leaf {k x : Int} {b : Nat} {s : ByteArray} {n : Nat} {it : Nat → Vt} {m : Nat} {ks : Nat → ByteArray} {acc : List UInt8} (hl : ¬ 65536 < acc.length) (hk : 0 ≤ k ∧ k < 5) {S : ByteArray} (hS : Js.put (.mk k x b s n it m ks) = S.data.toList) : Js.pj (.mk k x b s n it m ks) acc = acc ++ S.data.toList := by
  rw [Js.pj, if_neg hl, if_pos hk, hS]
theorem Jw.Kept.low {B b : Nat} {u v : World} (h : Jw.Kept B b u v) (hB : B ≤ u.heap.size) : B ≤ v.heap.size := Nat.le_trans hB h.back.size
set_option maxRecDepth 100000 in
set_option maxHeartbeats 4000000 in
theorem Jw.null (x : Int) (y : Nat) (s : ByteArray) (n : Nat) (it : Nat → Vt) (m : Nat) (ks : Nat → ByteArray) (B b : Nat) (acc : List UInt8) (v : Value) (w : World) (hl : (Vt.mk 0 x y s n it m ks).Lies w (· < B) v) (hi : Lib.IsBuilderF 46 5 B b (Lib.byteCells acc) w) (hlong : ¬ 65536 < acc.length) (S : ByteArray) (hS : Js.put (.mk 0 x y s n it m ks) = S.data.toList) (hSz : S.size ≤ 2000000) (hSS : S = ⟨#[110, 117, 108, 108]⟩) :
    Calls Tryz.prog 16 #[.pointer (some ⟨b, 0, none⟩), v] w fun e w' => e = .returned (.tuple #[]) ∧ Lib.IsBuilderF 46 5 B b (Lib.byteCells (Js.pj (.mk 0 x y s n it m ks) acc)) w' ∧ Jw.Kept B b w w' := by
  have HP := Lib.hid (Js.pj_leaf (acc := acc) hlong (by decide) hS)
  obtain ⟨ai, c, ak, d, rfl, -, -, -, -, -⟩ := hl
  have hlt := Jw.is_lt hi
  have HI := Lib.hid ((hi.alloc (.cells #[.pointer (some ⟨b, 0, none⟩)] 43)).alloc (.cells #[.int .i64 0, .int .i64 x, .int .u64 (y : Int), .string s, .slice ai n c, .slice ak m d] 26))
  have HK := Lib.hid (((Jw.Kept.refl B b w).alloc (by omega) (.cells #[.pointer (some ⟨b, 0, none⟩)] 43)).alloc (by simp; omega) (.cells #[.int .i64 0, .int .i64 x, .int .u64 (y : Int), .string s, .slice ai n c, .slice ak m d] 26))
  have HX := Lib.hid (Jw.Bx.start w b (.int .i64 0) (.int .i64 x) (.int .u64 (y : Int)) (.string s) (.slice ai n c) (.slice ak m d) hlt.1)
  have hBW : B ≤ ((w.alloc (.cells #[.pointer (some ⟨b, 0, none⟩)] 43)).alloc (.cells #[.int .i64 0, .int .i64 x, .int .u64 (y : Int), .string s, .slice ai n c, .slice ak m d] 26)).heap.size := by simp; omega
  have HWW : Hid (Below w.heap.size w ((w.alloc (.cells #[.pointer (some ⟨b, 0, none⟩)] 43)).alloc (.cells #[.int .i64 0, .int .i64 x, .int .u64 (y : Int), .string s, .slice ai n c, .slice ak m d] 26))) := ((Below.refl _ _).alloc (Nat.le_refl _) _).alloc (by simp) _
  have hal : acc.length ≤ 65536 := by omega
  have d1 : decide ((65536 : Int) < (acc.length : Int)) = false := decide_eq_false (by omega)
  have d1n : decide (65536 < acc.length) = false := decide_eq_false (by omega)
  have ln := Sh.Builder_Len_f B b _ _ HI.out
  rw [Lib.byteCells_length] at ln
  have y0 : ((w.alloc (.cells #[.pointer (some ⟨b, 0, none⟩)] 43)).alloc (.cells #[.int .i64 0, .int .i64 x, .int .u64 (y : Int), .string s, .slice ai n c, .slice ak m d] 26)).cell? ⟨w.heap.size, 0, none⟩ = some (.pointer (some ⟨b, 0, none⟩)) := HX.out.out.cell 0 rfl
  obtain ⟨z0, z1, z2, z3, z4, z5⟩ := HX.out.val.cells
  clear hi hlong hS
  generalize hW2 : (w.alloc (.cells #[.pointer (some ⟨b, 0, none⟩)] 43)).alloc (.cells #[.int .i64 0, .int .i64 x, .int .u64 (y : Int), .string s, .slice ai n c, .slice ak m d] 26) = W2 at *
  have HW2 := Lib.hid hW2
  clear hW2
  subst hSS
  go_enter Tryz.func16, Tryz.ntmps16
  go_wp2_with fail
  rw [HW2.out]
  go_wp2_with (go_at_call 17; refine ln.mono ?_; rintro e w1 ⟨rfl, hw⟩; have hw := hw.symm; subst hw; clear ln)
  go_wp2_with (go_at_call 35; refine (Jw.put ⟨#[110, 117, 108, 108]⟩ _ HI.out (by omega)).mono ?_; rintro e w4 ⟨rfl, i4, k4⟩; have HI4 : Hid (Lib.IsBuilderF 46 5 B b (Lib.byteCells (Js.pj (.mk 0 x y s n it m ks) acc)) w4) := (by unfold Hid; rw [HP.out]; exact i4); have HK4 := Lib.hid (HK.out.trans k4); clear i4 k4)
  first | go_end0 | refine bodyPost_ret (results_none rfl _ _ _) rfl ?_
  exact ⟨rfl, HI4.out, HK4.out⟩
set_option maxRecDepth 100000 in
set_option maxHeartbeats 4000000 in
theorem Jw.bool (x : Int) (y : Nat) (s : ByteArray) (n : Nat) (it : Nat → Vt) (m : Nat) (ks : Nat → ByteArray) (B b : Nat) (acc : List UInt8) (v : Value) (w : World) (hl : (Vt.mk 1 x y s n it m ks).Lies w (· < B) v) (hi : Lib.IsBuilderF 46 5 B b (Lib.byteCells acc) w) (hlong : ¬ 65536 < acc.length) (S : ByteArray) (hS : Js.put (.mk 1 x y s n it m ks) = S.data.toList) (hSz : S.size ≤ 2000000) (hf : ∀ u, Calls Tryz.prog 36 #[.bool (x == 1)] u fun e w' => e = .returned (.string S) ∧ Below u.heap.size u w') :
    Calls Tryz.prog 16 #[.pointer (some ⟨b, 0, none⟩), v] w fun e w' => e = .returned (.tuple #[]) ∧ Lib.IsBuilderF 46 5 B b (Lib.byteCells (Js.pj (.mk 1 x y s n it m ks) acc)) w' ∧ Jw.Kept B b w w' := by
  have HP := Lib.hid (Js.pj_leaf (acc := acc) hlong (by decide) hS)
  obtain ⟨ai, c, ak, d, rfl, -, -, -, -, -⟩ := hl
  have hlt := Jw.is_lt hi
  have HI := Lib.hid ((hi.alloc (.cells #[.pointer (some ⟨b, 0, none⟩)] 43)).alloc (.cells #[.int .i64 1, .int .i64 x, .int .u64 (y : Int), .string s, .slice ai n c, .slice ak m d] 26))
  have HK := Lib.hid (((Jw.Kept.refl B b w).alloc (by omega) (.cells #[.pointer (some ⟨b, 0, none⟩)] 43)).alloc (by simp; omega) (.cells #[.int .i64 1, .int .i64 x, .int .u64 (y : Int), .string s, .slice ai n c, .slice ak m d] 26))
  have HX := Lib.hid (Jw.Bx.start w b (.int .i64 1) (.int .i64 x) (.int .u64 (y : Int)) (.string s) (.slice ai n c) (.slice ak m d) hlt.1)
  have hBW : B ≤ ((w.alloc (.cells #[.pointer (some ⟨b, 0, none⟩)] 43)).alloc (.cells #[.int .i64 1, .int .i64 x, .int .u64 (y : Int), .string s, .slice ai n c, .slice ak m d] 26)).heap.size := by simp; omega
  have HWW : Hid (Below w.heap.size w ((w.alloc (.cells #[.pointer (some ⟨b, 0, none⟩)] 43)).alloc (.cells #[.int .i64 1, .int .i64 x, .int .u64 (y : Int), .string s, .slice ai n c, .slice ak m d] 26))) := ((Below.refl _ _).alloc (Nat.le_refl _) _).alloc (by simp) _
  have hal : acc.length ≤ 65536 := by omega
  have d1 : decide ((65536 : Int) < (acc.length : Int)) = false := decide_eq_false (by omega)
  have d1n : decide (65536 < acc.length) = false := decide_eq_false (by omega)
  have ln := Sh.Builder_Len_f B b _ _ HI.out
  rw [Lib.byteCells_length] at ln
  have y0 : ((w.alloc (.cells #[.pointer (some ⟨b, 0, none⟩)] 43)).alloc (.cells #[.int .i64 1, .int .i64 x, .int .u64 (y : Int), .string s, .slice ai n c, .slice ak m d] 26)).cell? ⟨w.heap.size, 0, none⟩ = some (.pointer (some ⟨b, 0, none⟩)) := HX.out.out.cell 0 rfl
  obtain ⟨z0, z1, z2, z3, z4, z5⟩ := HX.out.val.cells
  clear hi hlong hS
  generalize hW2 : (w.alloc (.cells #[.pointer (some ⟨b, 0, none⟩)] 43)).alloc (.cells #[.int .i64 1, .int .i64 x, .int .u64 (y : Int), .string s, .slice ai n c, .slice ak m d] 26) = W2 at *
  have HW2 := Lib.hid hW2
  clear hW2
  go_enter Tryz.func16, Tryz.ntmps16
  go_wp2_with fail
  rw [HW2.out]
  go_wp2_with (go_at_call 17; refine ln.mono ?_; rintro e w1 ⟨rfl, hw⟩; have hw := hw.symm; subst hw; clear ln)
  go_wp2_with fail
  go_region_held (fun u => u.cell? ⟨w.heap.size, 0, none⟩ = some (.pointer (some ⟨b, 0, none⟩)) ∧ u.cell? ⟨w.heap.size + 1, 1, none⟩ = some (.int .i64 x)) (go_keep) (first | (go_at_call 36; refine (hf _).mono ?_; rintro e w3 ⟨rfl, b3⟩; have b3 := (Below.refl W2.heap.size W2).drew.trans b3; have HI3 := Lib.hid (Wk.isF_below HI.out b3); have HK3 := Lib.hid (HK.out.more hBW b3); have HX3 := Lib.hid (HX.out.on b3); have y0 : w3.cell? ⟨w.heap.size, 0, none⟩ = some (.pointer (some ⟨b, 0, none⟩)) := HX3.out.out.cell 0 rfl; obtain ⟨z0, z1, z2, z3, z4, z5⟩ := HX3.out.val.cells; clear b3) | (go_at_call 35; refine (Jw.put S _ HI3.out (by omega)).mono ?_; rintro e w4 ⟨rfl, i4, k4⟩; have HI4 : Hid (Lib.IsBuilderF 46 5 B b (Lib.byteCells (Js.pj (.mk 1 x y s n it m ks) acc)) w4) := (by unfold Hid; rw [HP.out]; exact i4); have HK4 := Lib.hid (HK3.out.trans k4); have y0 : w4.cell? ⟨w.heap.size, 0, none⟩ = some (.pointer (some ⟨b, 0, none⟩)) := (HX3.out.kept k4).out.cell 0 rfl; obtain ⟨z0, z1, z2, z3, z4, z5⟩ := (HX3.out.kept k4).val.cells; clear i4 k4))
  first | go_end0 | refine bodyPost_ret (results_none rfl _ _ _) rfl ?_
  exact ⟨rfl, HI4.out, HK4.out⟩
set_option maxRecDepth 100000 in
set_option maxHeartbeats 4000000 in
theorem Jw.int (x : Int) (y : Nat) (s : ByteArray) (n : Nat) (it : Nat → Vt) (m : Nat) (ks : Nat → ByteArray) (B b : Nat) (acc : List UInt8) (v : Value) (w : World) (hl : (Vt.mk 2 x y s n it m ks).Lies w (· < B) v) (hi : Lib.IsBuilderF 46 5 B b (Lib.byteCells acc) w) (hlong : ¬ 65536 < acc.length) (S : ByteArray) (hS : Js.put (.mk 2 x y s n it m ks) = S.data.toList) (hSz : S.size ≤ 2000000) (hf : ∀ u, Below w.heap.size w u → Calls Tryz.prog 37 #[.int .i64 x] u fun e w' => e = .returned (.string S) ∧ Below u.heap.size u w') :
    Calls Tryz.prog 16 #[.pointer (some ⟨b, 0, none⟩), v] w fun e w' => e = .returned (.tuple #[]) ∧ Lib.IsBuilderF 46 5 B b (Lib.byteCells (Js.pj (.mk 2 x y s n it m ks) acc)) w' ∧ Jw.Kept B b w w' := by
  have HP := Lib.hid (Js.pj_leaf (acc := acc) hlong (by decide) hS)
  obtain ⟨ai, c, ak, d, rfl, -, -, -, -, -⟩ := hl
  have hlt := Jw.is_lt hi
  have HI := Lib.hid ((hi.alloc (.cells #[.pointer (some ⟨b, 0, none⟩)] 43)).alloc (.cells #[.int .i64 2, .int .i64 x, .int .u64 (y : Int), .string s, .slice ai n c, .slice ak m d] 26))
  have HK := Lib.hid (((Jw.Kept.refl B b w).alloc (by omega) (.cells #[.pointer (some ⟨b, 0, none⟩)] 43)).alloc (by simp; omega) (.cells #[.int .i64 2, .int .i64 x, .int .u64 (y : Int), .string s, .slice ai n c, .slice ak m d] 26))
  have HX := Lib.hid (Jw.Bx.start w b (.int .i64 2) (.int .i64 x) (.int .u64 (y : Int)) (.string s) (.slice ai n c) (.slice ak m d) hlt.1)
  have hBW : B ≤ ((w.alloc (.cells #[.pointer (some ⟨b, 0, none⟩)] 43)).alloc (.cells #[.int .i64 2, .int .i64 x, .int .u64 (y : Int), .string s, .slice ai n c, .slice ak m d] 26)).heap.size := by simp; omega
  have HWW : Hid (Below w.heap.size w ((w.alloc (.cells #[.pointer (some ⟨b, 0, none⟩)] 43)).alloc (.cells #[.int .i64 2, .int .i64 x, .int .u64 (y : Int), .string s, .slice ai n c, .slice ak m d] 26))) := ((Below.refl _ _).alloc (Nat.le_refl _) _).alloc (by simp) _
  have hal : acc.length ≤ 65536 := by omega
  have d1 : decide ((65536 : Int) < (acc.length : Int)) = false := decide_eq_false (by omega)
  have d1n : decide (65536 < acc.length) = false := decide_eq_false (by omega)
  have ln := Sh.Builder_Len_f B b _ _ HI.out
  rw [Lib.byteCells_length] at ln
  have y0 : ((w.alloc (.cells #[.pointer (some ⟨b, 0, none⟩)] 43)).alloc (.cells #[.int .i64 2, .int .i64 x, .int .u64 (y : Int), .string s, .slice ai n c, .slice ak m d] 26)).cell? ⟨w.heap.size, 0, none⟩ = some (.pointer (some ⟨b, 0, none⟩)) := HX.out.out.cell 0 rfl
  obtain ⟨z0, z1, z2, z3, z4, z5⟩ := HX.out.val.cells
  clear hi hlong hS
  generalize hW2 : (w.alloc (.cells #[.pointer (some ⟨b, 0, none⟩)] 43)).alloc (.cells #[.int .i64 2, .int .i64 x, .int .u64 (y : Int), .string s, .slice ai n c, .slice ak m d] 26) = W2 at *
  have HW2 := Lib.hid hW2
  clear hW2
  replace hf := hf _ (HWW.out.drew)
  go_enter Tryz.func16, Tryz.ntmps16
  go_wp2_with fail
  rw [HW2.out]
  go_wp2_with (go_at_call 17; refine ln.mono ?_; rintro e w1 ⟨rfl, hw⟩; have hw := hw.symm; subst hw; clear ln)
  go_wp2_with fail
  go_region_held (fun u => u.cell? ⟨w.heap.size, 0, none⟩ = some (.pointer (some ⟨b, 0, none⟩)) ∧ u.cell? ⟨w.heap.size + 1, 1, none⟩ = some (.int .i64 x)) (go_keep) (first | (go_at_call 37; refine (hf).mono ?_; rintro e w3 ⟨rfl, b3⟩; have b3 := (Below.refl W2.heap.size W2).drew.trans b3; have HI3 := Lib.hid (Wk.isF_below HI.out b3); have HK3 := Lib.hid (HK.out.more hBW b3); have HX3 := Lib.hid (HX.out.on b3); have y0 : w3.cell? ⟨w.heap.size, 0, none⟩ = some (.pointer (some ⟨b, 0, none⟩)) := HX3.out.out.cell 0 rfl; obtain ⟨z0, z1, z2, z3, z4, z5⟩ := HX3.out.val.cells; clear b3) | (go_at_call 35; refine (Jw.put S _ HI3.out (by omega)).mono ?_; rintro e w4 ⟨rfl, i4, k4⟩; have HI4 : Hid (Lib.IsBuilderF 46 5 B b (Lib.byteCells (Js.pj (.mk 2 x y s n it m ks) acc)) w4) := (by unfold Hid; rw [HP.out]; exact i4); have HK4 := Lib.hid (HK3.out.trans k4); have y0 : w4.cell? ⟨w.heap.size, 0, none⟩ = some (.pointer (some ⟨b, 0, none⟩)) := (HX3.out.kept k4).out.cell 0 rfl; obtain ⟨z0, z1, z2, z3, z4, z5⟩ := (HX3.out.kept k4).val.cells; clear i4 k4))
  first | go_end0 | refine bodyPost_ret (results_none rfl _ _ _) rfl ?_
  exact ⟨rfl, HI4.out, HK4.out⟩
set_option maxRecDepth 100000 in
set_option maxHeartbeats 4000000 in
theorem Jw.realv (x : Int) (y : Nat) (s : ByteArray) (n : Nat) (it : Nat → Vt) (m : Nat) (ks : Nat → ByteArray) (B b : Nat) (acc : List UInt8) (v : Value) (w : World) (hl : (Vt.mk 3 x y s n it m ks).Lies w (· < B) v) (hi : Lib.IsBuilderF 46 5 B b (Lib.byteCells acc) w) (hlong : ¬ 65536 < acc.length) (S : ByteArray) (hS : Js.put (.mk 3 x y s n it m ks) = S.data.toList) (hSz : S.size ≤ 2000000) (hf : ∀ u, Below w.heap.size w u → Calls Tryz.prog 38 #[.int .u64 (y : Int)] u fun e w' => e = .returned (.string S) ∧ Below u.heap.size u w') :
    Calls Tryz.prog 16 #[.pointer (some ⟨b, 0, none⟩), v] w fun e w' => e = .returned (.tuple #[]) ∧ Lib.IsBuilderF 46 5 B b (Lib.byteCells (Js.pj (.mk 3 x y s n it m ks) acc)) w' ∧ Jw.Kept B b w w' := by
  have HP := Lib.hid (Js.pj_leaf (acc := acc) hlong (by decide) hS)
  obtain ⟨ai, c, ak, d, rfl, -, -, -, -, -⟩ := hl
  have hlt := Jw.is_lt hi
  have HI := Lib.hid ((hi.alloc (.cells #[.pointer (some ⟨b, 0, none⟩)] 43)).alloc (.cells #[.int .i64 3, .int .i64 x, .int .u64 (y : Int), .string s, .slice ai n c, .slice ak m d] 26))
  have HK := Lib.hid (((Jw.Kept.refl B b w).alloc (by omega) (.cells #[.pointer (some ⟨b, 0, none⟩)] 43)).alloc (by simp; omega) (.cells #[.int .i64 3, .int .i64 x, .int .u64 (y : Int), .string s, .slice ai n c, .slice ak m d] 26))
  have HX := Lib.hid (Jw.Bx.start w b (.int .i64 3) (.int .i64 x) (.int .u64 (y : Int)) (.string s) (.slice ai n c) (.slice ak m d) hlt.1)
  have hBW : B ≤ ((w.alloc (.cells #[.pointer (some ⟨b, 0, none⟩)] 43)).alloc (.cells #[.int .i64 3, .int .i64 x, .int .u64 (y : Int), .string s, .slice ai n c, .slice ak m d] 26)).heap.size := by simp; omega
  have HWW : Hid (Below w.heap.size w ((w.alloc (.cells #[.pointer (some ⟨b, 0, none⟩)] 43)).alloc (.cells #[.int .i64 3, .int .i64 x, .int .u64 (y : Int), .string s, .slice ai n c, .slice ak m d] 26))) := ((Below.refl _ _).alloc (Nat.le_refl _) _).alloc (by simp) _
  have hal : acc.length ≤ 65536 := by omega
  have d1 : decide ((65536 : Int) < (acc.length : Int)) = false := decide_eq_false (by omega)
  have d1n : decide (65536 < acc.length) = false := decide_eq_false (by omega)
  have ln := Sh.Builder_Len_f B b _ _ HI.out
  rw [Lib.byteCells_length] at ln
  have y0 : ((w.alloc (.cells #[.pointer (some ⟨b, 0, none⟩)] 43)).alloc (.cells #[.int .i64 3, .int .i64 x, .int .u64 (y : Int), .string s, .slice ai n c, .slice ak m d] 26)).cell? ⟨w.heap.size, 0, none⟩ = some (.pointer (some ⟨b, 0, none⟩)) := HX.out.out.cell 0 rfl
  obtain ⟨z0, z1, z2, z3, z4, z5⟩ := HX.out.val.cells
  clear hi hlong hS
  generalize hW2 : (w.alloc (.cells #[.pointer (some ⟨b, 0, none⟩)] 43)).alloc (.cells #[.int .i64 3, .int .i64 x, .int .u64 (y : Int), .string s, .slice ai n c, .slice ak m d] 26) = W2 at *
  have HW2 := Lib.hid hW2
  clear hW2
  replace hf := hf _ (HWW.out.drew)
  go_enter Tryz.func16, Tryz.ntmps16
  go_wp2_with fail
  rw [HW2.out]
  go_wp2_with (go_at_call 17; refine ln.mono ?_; rintro e w1 ⟨rfl, hw⟩; have hw := hw.symm; subst hw; clear ln)
  go_wp2_with fail
  go_region_held (fun u => u.cell? ⟨w.heap.size, 0, none⟩ = some (.pointer (some ⟨b, 0, none⟩)) ∧ u.cell? ⟨w.heap.size + 1, 2, none⟩ = some (.int .u64 (y : Int))) (go_keep) (first | (go_at_call 38; refine (hf).mono ?_; rintro e w3 ⟨rfl, b3⟩; have b3 := (Below.refl W2.heap.size W2).drew.trans b3; have HI3 := Lib.hid (Wk.isF_below HI.out b3); have HK3 := Lib.hid (HK.out.more hBW b3); have HX3 := Lib.hid (HX.out.on b3); have y0 : w3.cell? ⟨w.heap.size, 0, none⟩ = some (.pointer (some ⟨b, 0, none⟩)) := HX3.out.out.cell 0 rfl; obtain ⟨z0, z1, z2, z3, z4, z5⟩ := HX3.out.val.cells; clear b3) | (go_at_call 35; refine (Jw.put S _ HI3.out (by omega)).mono ?_; rintro e w4 ⟨rfl, i4, k4⟩; have HI4 : Hid (Lib.IsBuilderF 46 5 B b (Lib.byteCells (Js.pj (.mk 3 x y s n it m ks) acc)) w4) := (by unfold Hid; rw [HP.out]; exact i4); have HK4 := Lib.hid (HK3.out.trans k4); have y0 : w4.cell? ⟨w.heap.size, 0, none⟩ = some (.pointer (some ⟨b, 0, none⟩)) := (HX3.out.kept k4).out.cell 0 rfl; obtain ⟨z0, z1, z2, z3, z4, z5⟩ := (HX3.out.kept k4).val.cells; clear i4 k4))
  first | go_end0 | refine bodyPost_ret (results_none rfl _ _ _) rfl ?_
  exact ⟨rfl, HI4.out, HK4.out⟩
set_option maxRecDepth 100000 in
set_option maxHeartbeats 4000000 in
theorem Jw.text (x : Int) (y : Nat) (s : ByteArray) (n : Nat) (it : Nat → Vt) (m : Nat) (ks : Nat → ByteArray) (B b : Nat) (acc : List UInt8) (v : Value) (w : World) (hl : (Vt.mk 4 x y s n it m ks).Lies w (· < B) v) (hi : Lib.IsBuilderF 46 5 B b (Lib.byteCells acc) w) (hlong : ¬ 65536 < acc.length) (S : ByteArray) (hS : Js.put (.mk 4 x y s n it m ks) = S.data.toList) (hSz : S.size ≤ 2000000) (hf : ∀ u, Below w.heap.size w u → Calls Tryz.prog 39 #[.string s] u fun e w' => e = .returned (.string S) ∧ Below u.heap.size u w') :
    Calls Tryz.prog 16 #[.pointer (some ⟨b, 0, none⟩), v] w fun e w' => e = .returned (.tuple #[]) ∧ Lib.IsBuilderF 46 5 B b (Lib.byteCells (Js.pj (.mk 4 x y s n it m ks) acc)) w' ∧ Jw.Kept B b w w' := by
  have HP := Lib.hid (Js.pj_leaf (acc := acc) hlong (by decide) hS)
  obtain ⟨ai, c, ak, d, rfl, -, -, -, -, -⟩ := hl
  have hlt := Jw.is_lt hi
  have HI := Lib.hid ((hi.alloc (.cells #[.pointer (some ⟨b, 0, none⟩)] 43)).alloc (.cells #[.int .i64 4, .int .i64 x, .int .u64 (y : Int), .string s, .slice ai n c, .slice ak m d] 26))
  have HK := Lib.hid (((Jw.Kept.refl B b w).alloc (by omega) (.cells #[.pointer (some ⟨b, 0, none⟩)] 43)).alloc (by simp; omega) (.cells #[.int .i64 4, .int .i64 x, .int .u64 (y : Int), .string s, .slice ai n c, .slice ak m d] 26))
  have HX := Lib.hid (Jw.Bx.start w b (.int .i64 4) (.int .i64 x) (.int .u64 (y : Int)) (.string s) (.slice ai n c) (.slice ak m d) hlt.1)
  have hBW : B ≤ ((w.alloc (.cells #[.pointer (some ⟨b, 0, none⟩)] 43)).alloc (.cells #[.int .i64 4, .int .i64 x, .int .u64 (y : Int), .string s, .slice ai n c, .slice ak m d] 26)).heap.size := by simp; omega
  have HWW : Hid (Below w.heap.size w ((w.alloc (.cells #[.pointer (some ⟨b, 0, none⟩)] 43)).alloc (.cells #[.int .i64 4, .int .i64 x, .int .u64 (y : Int), .string s, .slice ai n c, .slice ak m d] 26))) := ((Below.refl _ _).alloc (Nat.le_refl _) _).alloc (by simp) _
  have hal : acc.length ≤ 65536 := by omega
  have d1 : decide ((65536 : Int) < (acc.length : Int)) = false := decide_eq_false (by omega)
  have d1n : decide (65536 < acc.length) = false := decide_eq_false (by omega)
  have ln := Sh.Builder_Len_f B b _ _ HI.out
  rw [Lib.byteCells_length] at ln
  have y0 : ((w.alloc (.cells #[.pointer (some ⟨b, 0, none⟩)] 43)).alloc (.cells #[.int .i64 4, .int .i64 x, .int .u64 (y : Int), .string s, .slice ai n c, .slice ak m d] 26)).cell? ⟨w.heap.size, 0, none⟩ = some (.pointer (some ⟨b, 0, none⟩)) := HX.out.out.cell 0 rfl
  obtain ⟨z0, z1, z2, z3, z4, z5⟩ := HX.out.val.cells
  clear hi hlong hS
  generalize hW2 : (w.alloc (.cells #[.pointer (some ⟨b, 0, none⟩)] 43)).alloc (.cells #[.int .i64 4, .int .i64 x, .int .u64 (y : Int), .string s, .slice ai n c, .slice ak m d] 26) = W2 at *
  have HW2 := Lib.hid hW2
  clear hW2
  replace hf := hf _ (HWW.out.drew)
  go_enter Tryz.func16, Tryz.ntmps16
  go_wp2_with fail
  rw [HW2.out]
  go_wp2_with (go_at_call 17; refine ln.mono ?_; rintro e w1 ⟨rfl, hw⟩; have hw := hw.symm; subst hw; clear ln)
  go_wp2_with fail
  go_region_held (fun u => u.cell? ⟨w.heap.size, 0, none⟩ = some (.pointer (some ⟨b, 0, none⟩)) ∧ u.cell? ⟨w.heap.size + 1, 3, none⟩ = some (.string s)) (go_keep) (first | (go_at_call 39; refine (hf).mono ?_; rintro e w3 ⟨rfl, b3⟩; have b3 := (Below.refl W2.heap.size W2).drew.trans b3; have HI3 := Lib.hid (Wk.isF_below HI.out b3); have HK3 := Lib.hid (HK.out.more hBW b3); have HX3 := Lib.hid (HX.out.on b3); have y0 : w3.cell? ⟨w.heap.size, 0, none⟩ = some (.pointer (some ⟨b, 0, none⟩)) := HX3.out.out.cell 0 rfl; obtain ⟨z0, z1, z2, z3, z4, z5⟩ := HX3.out.val.cells; clear b3) | (go_at_call 35; refine (Jw.put S _ HI3.out (by omega)).mono ?_; rintro e w4 ⟨rfl, i4, k4⟩; have HI4 : Hid (Lib.IsBuilderF 46 5 B b (Lib.byteCells (Js.pj (.mk 4 x y s n it m ks) acc)) w4) := (by unfold Hid; rw [HP.out]; exact i4); have HK4 := Lib.hid (HK3.out.trans k4); have y0 : w4.cell? ⟨w.heap.size, 0, none⟩ = some (.pointer (some ⟨b, 0, none⟩)) := (HX3.out.kept k4).out.cell 0 rfl; obtain ⟨z0, z1, z2, z3, z4, z5⟩ := (HX3.out.kept k4).val.cells; clear i4 k4))
  first | go_end0 | refine bodyPost_ret (results_none rfl _ _ _) rfl ?_
  exact ⟨rfl, HI4.out, HK4.out⟩
end Go.Proofs.YtboalkfagfgnpaaGreatDoor
/-
  THE WALK of json.writeRow, over whatever part.
-/
namespace Go.Proofs.YtboalkfagfgnpaaGreatDoor
open Go.RowKit
theorem Js.runp_comma (f : Nat → List UInt8 → List UInt8) (i : Nat) (l : List UInt8) : Js.runp (fun i a => f i (a ++ Js.comma i)) (i + 1) l = f i (Js.runp (fun i a => f i (a ++ Js.comma i)) i l ++ Js.comma i) := rfl
set_option maxRecDepth 100000 in
set_option maxHeartbeats 4000000 in
theorem Jw.row (F : FuncId) (p0 p1 : Value) (hF : ∀ x u, (callFunc F #[x, p0, p1]).run Tryz.prog u = .ok (.enter F #[x, p0, p1]) u) (o c : UInt8) (n : Nat) (hn : n ≤ 64) (B b : Nat) (f : Nat → List UInt8 → List UInt8) (P : World → Prop) (hP : ∀ u u', P u → Jw.Kept B b u u' → P u')
    (hpart : ∀ (i : Nat) acc u, i < n → acc.length ≤ 549755813888 → P u → Lib.IsBuilderF 46 5 B b (Lib.byteCells acc) u → Calls Tryz.prog F #[.int .i64 (i : Int), p0, p1] u fun e w' => e = .returned (.tuple #[]) ∧ Lib.IsBuilderF 46 5 B b (Lib.byteCells (f i acc)) w' ∧ Jw.Kept B b u w')
    (acc : List UInt8) (w : World) (h : P w) (hI : Lib.IsBuilderF 46 5 B b (Lib.byteCells acc) w) (hlen : acc.length + 1 ≤ 140737488355328) (hrun : ∀ i, i ≤ n → (Js.runp (fun i a => f i (a ++ Js.comma i)) i (acc ++ [o])).length + 1 ≤ 549755813888) :
    Calls Tryz.prog 40 #[.pointer (some ⟨b, 0, none⟩), .string ⟨#[o, c]⟩, .int .i64 (n : Int), .func (.func F) #[] #[p0, p1]] w fun e w' => e = .returned (.tuple #[]) ∧ Lib.IsBuilderF 46 5 B b (Lib.byteCells (Js.runp (fun i a => f i (a ++ Js.comma i)) n (acc ++ [o]) ++ [c])) w' ∧ Jw.Kept B b w w' := by
  have hix0 : ∀ hh, (⟨#[o, c]⟩ : ByteArray)[0]'hh = o := fun _ => rfl
  have hix1 : ∀ hh, (⟨#[o, c]⟩ : ByteArray)[1]'hh = c := fun _ => rfl
  have hsz : (⟨#[o, c]⟩ : ByteArray).size = 2 := rfl
  have c1 := Jw.putc o w hI hlen
  have HP := Lib.hid hP
  have HPT := Lib.hid hpart
  have HRN := Lib.hid hrun
  have HW := Lib.hid h
  clear hP hpart hrun h hI
  generalize (⟨#[o, c]⟩ : ByteArray) = BR at *
  go_enter Tryz.func40, Tryz.ntmps40
  go_wp2_with fail
  refine c1.mono ?_
  rintro e w1 ⟨rfl, i1, k1⟩
  have HI1 := Lib.hid i1
  have HK1 := Lib.hid k1
  clear i1 k1 c1
  go_wp2_with fail
  go_loopw [14] (fun ix wr => ∃ (i : Nat), i ≤ n ∧ ix = .int .i64 (i : Int) ∧ Hid (Lib.IsBuilderF 46 5 B b (Lib.byteCells (Js.runp (fun i a => f i (a ++ Js.comma i)) i (acc ++ [o]))) wr) ∧ Hid (Jw.Kept B b w wr)) (fun ix _ => n - (intOf ix).toNat)
  case atStart => exact ⟨0, Nat.zero_le _, rfl, HI1, HK1⟩
  case round =>
    obtain ⟨i, hi, rfl, HI, HK⟩ := hrel
    clear HI1 HK1
    have hrl := HRN.out i hi
    by_cases hlt : i < n
    · have d1 : decide ((i : Int) < (n : Int)) = true := decide_eq_true (by omega)
      have d1n : decide (i < n) = true := decide_eq_true hlt
      have HR2 := Lib.hid (Js.runp_comma f i (acc ++ [o]))
      generalize Js.runp (fun i a => f i (a ++ Js.comma i)) i (acc ++ [o]) = R at *
      have hHP := HP.out w wr HW.out HK.out
      by_cases h0 : i = 0
      · have d0 : decide ((0 : Int) < (i : Int)) = false := decide_eq_false (by omega)
        have d0n : decide (0 < i) = false := decide_eq_false (by omega)
        have hc : Js.comma i = [] := by unfold Js.comma; rw [if_pos h0]
        rw [hc, List.append_nil] at HR2
        have pt := HPT.out i R wr hlt (by omega) hHP HI.out
        clear h0 hc
        go_wp2_with fail
        refine pt.mono ?_
        rintro e w2 ⟨rfl, i2, k2⟩
        have HI2 : Hid (Lib.IsBuilderF 46 5 B b (Lib.byteCells (Js.runp (fun i a => f i (a ++ Js.comma i)) (i + 1) (acc ++ [o]))) w2) := by unfold Hid; rw [HR2.out]; exact i2
        have HK2 := Lib.hid (HK.out.trans k2)
        clear i2 k2 pt
        go_wp2
        go_roundw
        case rel => exact ⟨i + 1, by omega, by go_num, HI2, HK2⟩
        case measure => simp [intOf]; omega
      · have d0 : decide ((0 : Int) < (i : Int)) = true := decide_eq_true (by omega)
        have d0n : decide (0 < i) = true := decide_eq_true (by omega)
        have hc : Js.comma i = [44] := by unfold Js.comma; rw [if_neg h0]
        rw [hc] at HR2
        have pc : Calls Tryz.prog 43 #[.pointer (some ⟨b, 0, none⟩), .int .u8 44] wr fun e w' => e = .returned .nilIface ∧ Lib.IsBuilderF 46 5 B b (Lib.byteCells (R ++ [44])) w' ∧ Jw.Kept B b wr w' := Jw.putc 44 wr HI.out (by omega)
        have hl44 : (R ++ [44]).length = R.length + 1 := by simp
        generalize R ++ [44] = R4 at *
        clear h0 hc
        go_wp2_with fail
        refine pc.mono ?_
        rintro e w2 ⟨rfl, i2, k2⟩
        have pt := HPT.out i R4 w2 hlt (by omega) (HP.out _ _ hHP k2) i2
        have HK2 := Lib.hid (HK.out.trans k2)
        clear i2 k2 pc
        go_wp2_with fail
        refine pt.mono ?_
        rintro e w3 ⟨rfl, i3, k3⟩
        have HI3 : Hid (Lib.IsBuilderF 46 5 B b (Lib.byteCells (Js.runp (fun i a => f i (a ++ Js.comma i)) (i + 1) (acc ++ [o]))) w3) := by unfold Hid; rw [HR2.out]; exact i3
        have HK3 := Lib.hid (HK2.out.trans k3)
        clear i3 k3 pt
        go_wp2
        go_roundw
        case rel => exact ⟨i + 1, by omega, by go_num, HI3, HK3⟩
        case measure => simp [intOf]; omega
    · have d1 : decide ((i : Int) < (n : Int)) = false := decide_eq_false (by omega)
      have d1n : decide (i < n) = false := decide_eq_false hlt
      have e : i = n := by omega
      have hq : (Js.runp (fun i a => f i (a ++ Js.comma i)) n (acc ++ [o])).length + 1 ≤ 140737488355328 := by rw [← e]; omega
      rw [e] at HI
      have pc := Jw.putc c wr HI.out hq
      clear e hq hrl
      go_wp2_with fail
      refine pc.mono ?_
      rintro e w2 ⟨rfl, i2, k2⟩
      have HI2 := Lib.hid i2
      have HK2 := Lib.hid (HK.out.trans k2)
      clear i2 k2 pc
      go_wp2
      first | go_end0 | refine bodyPost_ret (results_none rfl _ _ _) rfl ?_
      exact ⟨rfl, HI2.out, HK2.out⟩
end Go.Proofs.YtboalkfagfgnpaaGreatDoor
