/-
  THE LANDED WRITER: what it keeps; its leaves.
-/
import Derived.Test.YtboalkfagfgnpaaGreatDoorBJEwtoJWq
import Derived.Test.YtboalkfagfgnpaaGreatDoorBVGettoVKit
import Derived.Test.YtboalkfagfgnpaaGreatDoorBJRptoJSaid
import Derived.Deep.RegionHeld
import Derived.Test.YtboalkfagfgnpaaGreatDoorBVTruetoVAlike
namespace Go.Proofs.YtboalkfagfgnpaaGreatDoor
open Go.RowKit
/-- what a writer keeps: all below the base, and all blocks that are no row of bytes but the Builder's own -/
structure Jw.Kept (B b : Nat) (w w' : World) : Prop where
  back : Below B w w'
  rest : Lib.OthersKept 5 (some b) w w'
theorem Jw.Kept.refl (B b : Nat) (w : World) : Jw.Kept B b w w := ⟨Below.refl _ _, Lib.OthersKept.refl _ _ _⟩
theorem Jw.Kept.trans {B b : Nat} {u v w : World} (h : Jw.Kept B b u v) (k : Jw.Kept B b v w) : Jw.Kept B b u w := ⟨h.back.trans k.back, h.rest.trans k.rest⟩
theorem Jw.Kept.alloc {B b : Nat} {u v : World} (h : Jw.Kept B b u v) (hb : B ≤ v.heap.size) (o : Obj) : Jw.Kept B b u (v.alloc o) := ⟨h.back.alloc hb o, h.rest.alloc o⟩
theorem Jw.Kept.drew {B b : Nat} {u v : World} (h : Jw.Kept B b u v) : Jw.Kept B b u v.drew := ⟨h.back.drew, h.rest.drew⟩
theorem Jw.Kept.more {B b : Nat} {u v w : World} (h : Jw.Kept B b u v) (hb : B ≤ v.heap.size) (k : Below v.heap.size v w) : Jw.Kept B b u w :=
  ⟨h.back.trans (k.mono hb), h.rest.trans fun i _ hi _ _ => (k.block i (Array.getElem?_eq_some_iff.1 hi).1).trans hi⟩
/-- the writer's two boxes: the Builder's place, the value -/
structure Jw.Bx (a b : Nat) (v0 v1 v2 v3 v4 v5 : Value) (u : World) : Prop where
  out : Bs.Box u a #[.pointer (some ⟨b, 0, none⟩)] 43
  val : Vm.Box u (a + 1) v0 v1 v2 v3 v4 v5
  ne : a ≠ b ∧ a + 1 ≠ b
theorem Jw.Bx.kept {a b B : Nat} {v0 v1 v2 v3 v4 v5 : Value} {u u' : World} (h : Jw.Bx a b v0 v1 v2 v3 v4 v5 u) (k : Jw.Kept B b u u') : Jw.Bx a b v0 v1 v2 v3 v4 v5 u' :=
  ⟨k.rest a _ h.out (fun q => h.ne.1 (by injection q)) (fun c fz q => by injection q with _ q2 _; exact absurd q2 (by decide)), ⟨k.rest (a + 1) _ h.val.all (fun q => h.ne.2 (by injection q)) (fun c fz q => by injection q with _ q2 _; exact absurd q2 (by decide))⟩, h.ne⟩
theorem Jw.Bx.on {a b : Nat} {v0 v1 v2 v3 v4 v5 : Value} {u u' : World} (h : Jw.Bx a b v0 v1 v2 v3 v4 v5 u) (k : Below u.heap.size u u') : Jw.Bx a b v0 v1 v2 v3 v4 v5 u' :=
  ⟨(k.block a h.out.lt).trans h.out, ⟨(k.block (a + 1) h.val.lt).trans h.val.all⟩, h.ne⟩
theorem Jw.Bx.start (w : World) (b : Nat) (v0 v1 v2 v3 v4 v5 : Value) (hb : b < w.heap.size) : Jw.Bx w.heap.size b v0 v1 v2 v3 v4 v5 ((w.alloc (.cells #[.pointer (some ⟨b, 0, none⟩)] 43)).alloc (.cells #[v0, v1, v2, v3, v4, v5] 26)) :=
  ⟨(Bs.Box.new w _ _ _ rfl).alloc _, ⟨Vm.Has.new _ _ _ (by simp)⟩, by omega, by omega⟩
theorem Jw.is_lt {T e : TypeId} {B b : Nat} {bs : List Value} {w : World} (h : Lib.IsBuilderF T e B b bs w) : b < w.heap.size ∧ B ≤ b :=
  h.elim (fun x => ⟨x.lt, x.1⟩) (fun x => ⟨x.lt, x.1⟩)
/-- the landed writer of a tree: what it adds -/
def Jw.W (w0 : World) (t : Vt) (B b : Nat) : Prop := ∀ (acc : List UInt8) (v : Value) (w : World), t.Lies w (· < B) v → Lib.IsBuilderF 46 5 B b (Lib.byteCells acc) w → acc.length ≤ 1099511627776 → Below w0.heap.size w0 w →
  Calls Tryz.prog 16 #[.pointer (some ⟨b, 0, none⟩), v] w fun e w' => e = .returned (.tuple #[]) ∧ Lib.IsBuilderF 46 5 B b (Lib.byteCells (Js.pj t acc)) w' ∧ Jw.Kept B b w w'
/-- a text is written -/
theorem Jw.put (S : ByteArray) {B b : Nat} {acc : List UInt8} (u : World) (h : Lib.IsBuilderF 46 5 B b (Lib.byteCells acc) u) (hl : acc.length + S.size ≤ 140737488355328) :
    Calls Tryz.prog 35 #[.pointer (some ⟨b, 0, none⟩), .string S] u fun e w' => e = .returned (.tuple #[.int .i64 S.size, .nilIface]) ∧ Lib.IsBuilderF 46 5 B b (Lib.byteCells (acc ++ S.data.toList)) w' ∧ Jw.Kept B b u w' := by
  have hb := Jw.is_lt h
  refine (Sh.Builder_WriteString_k B b (Lib.byteCells acc) S u h (by rw [Lib.byteCells_length]; exact hl) (by omega)).mono fun e w' ⟨h1, h2, h3, h4⟩ => ⟨h1, ?_, h3, h4⟩
  rw [Lib.byteCells_append]
  exact .inr h2
theorem Jw.putc (c : UInt8) {B b : Nat} {acc : List UInt8} (u : World) (h : Lib.IsBuilderF 46 5 B b (Lib.byteCells acc) u) (hl : acc.length + 1 ≤ 140737488355328) :
    Calls Tryz.prog 43 #[.pointer (some ⟨b, 0, none⟩), .int .u8 (c.toNat : Int)] u fun e w' => e = .returned .nilIface ∧ Lib.IsBuilderF 46 5 B b (Lib.byteCells (acc ++ [c])) w' ∧ Jw.Kept B b u w' := by
  have hb := Jw.is_lt h
  refine (Sh.Builder_WriteByte_k B b (Lib.byteCells acc) _ u h (by rw [Lib.byteCells_length]; exact hl) (by omega)).mono fun e w' ⟨h1, h2, h3, h4⟩ => ⟨h1, ?_, h3, h4⟩
  rw [Jw.cat1] at h2
  exact .inr h2
set_option maxRecDepth 100000 in
set_option maxHeartbeats 2000000 in
theorem Jw.long (t : Vt) (B b : Nat) (acc : List UInt8) (v : Value) (w : World) (hl : t.Lies w (· < B) v) (hi : Lib.IsBuilderF 46 5 B b (Lib.byteCells acc) w) (hlong : 65536 < acc.length) :
    Calls Tryz.prog 16 #[.pointer (some ⟨b, 0, none⟩), v] w fun e w' => e = .returned (.tuple #[]) ∧ Lib.IsBuilderF 46 5 B b (Lib.byteCells acc) w' ∧ Jw.Kept B b w w' := by
  obtain ⟨k, x, y, s, ai, n, c, ak, m, d, rfl⟩ := hl.form
  have hlt := Jw.is_lt hi
  have HI := Lib.hid ((hi.alloc (.cells #[.pointer (some ⟨b, 0, none⟩)] 43)).alloc (.cells #[.int .i64 k, .int .i64 x, .int .u64 (y : Int), .string s, .slice ai n c, .slice ak m d] 26))
  have HK := Lib.hid (((Jw.Kept.refl B b w).alloc (by omega) (.cells #[.pointer (some ⟨b, 0, none⟩)] 43)).alloc (by simp; omega) (.cells #[.int .i64 k, .int .i64 x, .int .u64 (y : Int), .string s, .slice ai n c, .slice ak m d] 26))
  have d1 : decide ((65536 : Int) < (acc.length : Int)) = true := decide_eq_true (by omega)
  have ln := Sh.Builder_Len_f B b _ _ HI.out
  rw [Lib.byteCells_length] at ln
  clear hl hi hlong
  go_enter Tryz.func16, Tryz.ntmps16
  go_wp2_with (go_at_call 17; refine ln.mono ?_; rintro e w1 ⟨rfl, hw⟩; have hw := hw.symm; subst hw)
  first | go_end0 | refine bodyPost_ret (results_none rfl _ _ _) rfl ?_
  exact ⟨rfl, HI.out, HK.out⟩
end Go.Proofs.YtboalkfagfgnpaaGreatDoor
/-
  THE WALKS of json.write: leaves.
-/
namespace Go.Proofs.YtboalkfagfgnpaaGreatDoor
open Go.RowKit
theorem Js.pj_leaf {k x : Int} {b : Nat} {s : ByteArray} {n : Nat} {it : Nat → Vt} {m : Nat} {ks : Nat → ByteArray} {acc : List UInt8} (hl : ¬ 65536 < acc.length) (hk : 0 ≤ k ∧ k < 5) {S : ByteArray} (hS : Js.put (.mk k x b s n it m ks) = S.data.toList) : Js.pj (.mk k x b s n it m ks) acc = acc ++ S.data.toList := by
  rw [Js.pj, if_neg hl, if_pos hk, hS]
theorem Jw.Kept.low {B b : Nat} {u v : World} (h : Jw.Kept B b u v) (hB : B ≤ u.heap.size) : B ≤ v.heap.size := Nat.le_trans hB h.back.size
set_option maxRecDepth 100000 in
set_option maxHeartbeats 4000000 in
theorem Jw.null (x : Int) (y : Nat) (s : ByteArray) (n : Nat) (it : Nat → Vt) (m : Nat) (ks : Nat → ByteArray) (B b : Nat) (acc : List UInt8) (v : Value) (w : World) (hl : (Vt.mk 0 x y s n it m ks).Lies w (· < B) v) (hi : Lib.IsBuilderF 46 5 B b (Lib.byteCells acc) w) (hlong : ¬ 65536 < acc.length) (S : ByteArray) (hS : Js.put (.mk 0 x y s n it m ks) = S.data.toList) (hSz : S.size ≤ 2000000) (hSS : S = ⟨#[110, 117, 108, 108]⟩) :
    Calls Tryz.prog 16 #[.pointer (some ⟨b, 0, none⟩), v] w fun e w' => e = .returned (.tuple #[]) ∧ Lib.IsBuilderF 46 5 B b (Lib.byteCells (Js.pj (.mk 0 x y s n it m ks) acc)) w' ∧ Jw.Kept B b w w' := by
  have HP := Lib.hid (Js.pj_leaf (acc := acc) hlong (by decide) hS)
  obtain ⟨ai, c, ak, d, rfl, -, -, -, -, -⟩ := hl
  have hlt := Jw.is_lt hi
  have HI := Lib.hid ((hi.alloc (.cells #[.pointer (some ⟨b, 0, none⟩)] 43)).alloc (.cells #[.int .i64 0, .int .i64 x, .int .u64 (y : Int), .string s, .slice ai n c, .slice ak m d] 26))
  have HK := Lib.hid (((Jw.Kept.refl B b w).alloc (by omega) (.cells #[.pointer (some ⟨b, 0, none⟩)] 43)).alloc (by simp; omega) (.cells #[.int .i64 0, .int .i64 x, .int .u64 (y : Int), .string s, .slice ai n c, .slice ak m d] 26))
  have HX := Lib.hid (Jw.Bx.start w b (.int .i64 0) (.int .i64 x) (.int .u64 (y : Int)) (.string s) (.slice ai n c) (.slice ak m d) hlt.1)
  have hBW : B ≤ ((w.alloc (.cells #[.pointer (some ⟨b, 0, none⟩)] 43)).alloc (.cells #[.int .i64 0, .int .i64 x, .int .u64 (y : Int), .string s, .slice ai n c, .slice ak m d] 26)).heap.size := by simp; omega
  have HWW : Hid (Below w.heap.size w ((w.alloc (.cells #[.pointer (some ⟨b, 0, none⟩)] 43)).alloc (.cells #[.int .i64 0, .int .i64 x, .int .u64 (y : Int), .string s, .slice ai n c, .slice ak m d] 26))) := ((Below.refl _ _).alloc (Nat.le_refl _) _).alloc (by simp) _
  have hal : acc.length ≤ 65536 := by omega
  have d1 : decide ((65536 : Int) < (acc.length : Int)) = false := decide_eq_false (by omega)
  have d1n : decide (65536 < acc.length) = false := decide_eq_false (by omega)
  have ln := Sh.Builder_Len_f B b _ _ HI.out
  rw [Lib.byteCells_length] at ln
  have y0 : ((w.alloc (.cells #[.pointer (some ⟨b, 0, none⟩)] 43)).alloc (.cells #[.int .i64 0, .int .i64 x, .int .u64 (y : Int), .string s, .slice ai n c, .slice ak m d] 26)).cell? ⟨w.heap.size, 0, none⟩ = some (.pointer (some ⟨b, 0, none⟩)) := HX.out.out.cell 0 rfl
  obtain ⟨z0, z1, z2, z3, z4, z5⟩ := HX.out.val.cells
  clear hi hlong hS
  generalize hW2 : (w.alloc (.cells #[.pointer (some ⟨b, 0, none⟩)] 43)).alloc (.cells #[.int .i64 0, .int .i64 x, .int .u64 (y : Int), .string s, .slice ai n c, .slice ak m d] 26) = W2 at *
  have HW2 := Lib.hid hW2
  clear hW2
  subst hSS
  go_enter Tryz.func16, Tryz.ntmps16
  go_wp2_with fail
  rw [HW2.out]
  go_wp2_with (go_at_call 17; refine ln.mono ?_; rintro e w1 ⟨rfl, hw⟩; have hw := hw.symm; subst hw; clear ln)
  go_wp2_with (go_at_call 35; refine (Jw.put ⟨#[110, 117, 108, 108]⟩ _ HI.out (by omega)).mono ?_; rintro e w4 ⟨rfl, i4, k4⟩; have HI4 : Hid (Lib.IsBuilderF 46 5 B b (Lib.byteCells (Js.pj (.mk 0 x y s n it m ks) acc)) w4) := (by unfold Hid; rw [HP.out]; exact i4); have HK4 := Lib.hid (HK.out.trans k4); clear i4 k4)
  first | go_end0 | refine bodyPost_ret (results_none rfl _ _ _) rfl ?_
  exact ⟨rfl, HI4.out, HK4.out⟩
set_option maxRecDepth 100000 in
set_option maxHeartbeats 4000000 in
theorem Jw.bool (x : Int) (y : Nat) (s : ByteArray) (n : Nat) (it : Nat → Vt) (m : Nat) (ks : Nat → ByteArray) (B b : Nat) (acc : List UInt8) (v : Value) (w : World) (hl : (Vt.mk 1 x y s n it m ks).Lies w (· < B) v) (hi : Lib.IsBuilderF 46 5 B b (Lib.byteCells acc) w) (hlong : ¬ 65536 < acc.length) (S : ByteArray) (hS : Js.put (.mk 1 x y s n it m ks) = S.data.toList) (hSz : S.size ≤ 2000000) (hf : ∀ u, Calls Tryz.prog 36 #[.bool (x == 1)] u fun e w' => e = .returned (.string S) ∧ Below u.heap.size u w') :
    Calls Tryz.prog 16 #[.pointer (some ⟨b, 0, none⟩), v] w fun e w' => e = .returned (.tuple #[]) ∧ Lib.IsBuilderF 46 5 B b (Lib.byteCells (Js.pj (.mk 1 x y s n it m ks) acc)) w' ∧ Jw.Kept B b w w' := by
  have HP := Lib.hid (Js.pj_leaf (acc := acc) hlong (by decide) hS)
  obtain ⟨ai, c, ak, d, rfl, -, -, -, -, -⟩ := hl
  have hlt := Jw.is_lt hi
  have HI := Lib.hid ((hi.alloc (.cells #[.pointer (some ⟨b, 0, none⟩)] 43)).alloc (.cells #[.int .i64 1, .int .i64 x, .int .u64 (y : Int), .string s, .slice ai n c, .slice ak m d] 26))
  have HK := Lib.hid (((Jw.Kept.refl B b w).alloc (by omega) (.cells #[.pointer (some ⟨b, 0, none⟩)] 43)).alloc (by simp; omega) (.cells #[.int .i64 1, .int .i64 x, .int .u64 (y : Int), .string s, .slice ai n c, .slice ak m d] 26))
  have HX := Lib.hid (Jw.Bx.start w b (.int .i64 1) (.int .i64 x) (.int .u64 (y : Int)) (.string s) (.slice ai n c) (.slice ak m d) hlt.1)
  have hBW : B ≤ ((w.alloc (.cells #[.pointer (some ⟨b, 0, none⟩)] 43)).alloc (.cells #[.int .i64 1, .int .i64 x, .int .u64 (y : Int), .string s, .slice ai n c, .slice ak m d] 26)).heap.size := by simp; omega
  have HWW : Hid (Below w.heap.size w ((w.alloc (.cells #[.pointer (some ⟨b, 0, none⟩)] 43)).alloc (.cells #[.int .i64 1, .int .i64 x, .int .u64 (y : Int), .string s, .slice ai n c, .slice ak m d] 26))) := ((Below.refl _ _).alloc (Nat.le_refl _) _).alloc (by simp) _
  have hal : acc.length ≤ 65536 := by omega
  have d1 : decide ((65536 : Int) < (acc.length : Int)) = false := decide_eq_false (by omega)
  have d1n : decide (65536 < acc.length) = false := decide_eq_false (by omega)
  have ln := Sh.Builder_Len_f B b _ _ HI.out
  rw [Lib.byteCells_length] at ln
  have y0 : ((w.alloc (.cells #[.pointer (some ⟨b, 0, none⟩)] 43)).alloc (.cells #[.int .i64 1, .int .i64 x, .int .u64 (y : Int), .string s, .slice ai n c, .slice ak m d] 26)).cell? ⟨w.heap.size, 0, none⟩ = some (.pointer (some ⟨b, 0, none⟩)) := HX.out.out.cell 0 rfl
  obtain ⟨z0, z1, z2, z3, z4, z5⟩ := HX.out.val.cells
  clear hi hlong hS
  generalize hW2 : (w.alloc (.cells #[.pointer (some ⟨b, 0, none⟩)] 43)).alloc (.cells #[.int .i64 1, .int .i64 x, .int .u64 (y : Int), .string s, .slice ai n c, .slice ak m d] 26) = W2 at *
  have HW2 := Lib.hid hW2
  clear hW2
  go_enter Tryz.func16, Tryz.ntmps16
  go_wp2_with fail
  rw [HW2.out]
  go_wp2_with (go_at_call 17; refine ln.mono ?_; rintro e w1 ⟨rfl, hw⟩; have hw := hw.symm; subst hw; clear ln)
  go_wp2_with fail
  go_region_held (fun u => u.cell? ⟨w.heap.size, 0, none⟩ = some (.pointer (some ⟨b, 0, none⟩)) ∧ u.cell? ⟨w.heap.size + 1, 1, none⟩ = some (.int .i64 x)) (go_keep) (first | (go_at_call 36; refine (hf _).mono ?_; rintro e w3 ⟨rfl, b3⟩; have b3 := (Below.refl W2.heap.size W2).drew.trans b3; have HI3 := Lib.hid (Wk.isF_below HI.out b3); have HK3 := Lib.hid (HK.out.more hBW b3); have HX3 := Lib.hid (HX.out.on b3); have y0 : w3.cell? ⟨w.heap.size, 0, none⟩ = some (.pointer (some ⟨b, 0, none⟩)) := HX3.out.out.cell 0 rfl; obtain ⟨z0, z1, z2, z3, z4, z5⟩ := HX3.out.val.cells; clear b3) | (go_at_call 35; refine (Jw.put S _ HI3.out (by omega)).mono ?_; rintro e w4 ⟨rfl, i4, k4⟩; have HI4 : Hid (Lib.IsBuilderF 46 5 B b (Lib.byteCells (Js.pj (.mk 1 x y s n it m ks) acc)) w4) := (by unfold Hid; rw [HP.out]; exact i4); have HK4 := Lib.hid (HK3.out.trans k4); have y0 : w4.cell? ⟨w.heap.size, 0, none⟩ = some (.pointer (some ⟨b, 0, none⟩)) := (HX3.out.kept k4).out.cell 0 rfl; obtain ⟨z0, z1, z2, z3, z4, z5⟩ := (HX3.out.kept k4).val.cells; clear i4 k4))
  first | go_end0 | refine bodyPost_ret (results_none rfl _ _ _) rfl ?_
  exact ⟨rfl, HI4.out, HK4.out⟩
set_option maxRecDepth 100000 in
set_option maxHeartbeats 4000000 in
theorem Jw.int (x : Int) (y : Nat) (s : ByteArray) (n : Nat) (it : Nat → Vt) (m : Nat) (ks : Nat → ByteArray) (B b : Nat) (acc : List UInt8) (v : Value) (w : World) (hl : (Vt.mk 2 x y s n it m ks).Lies w (· < B) v) (hi : Lib.IsBuilderF 46 5 B b (Lib.byteCells acc) w) (hlong : ¬ 65536 < acc.length) (S : ByteArray) (hS : Js.put (.mk 2 x y s n it m ks) = S.data.toList) (hSz : S.size ≤ 2000000) (hf : ∀ u, Below w.heap.size w u → Calls Tryz.prog 37 #[.int .i64 x] u fun e w' => e = .returned (.string S) ∧ Below u.heap.size u w') :
    Calls Tryz.prog 16 #[.pointer (some ⟨b, 0, none⟩), v] w fun e w' => e = .returned (.tuple #[]) ∧ Lib.IsBuilderF 46 5 B b (Lib.byteCells (Js.pj (.mk 2 x y s n it m ks) acc)) w' ∧ Jw.Kept B b w w' := by
  have HP := Lib.hid (Js.pj_leaf (acc := acc) hlong (by decide) hS)
  obtain ⟨ai, c, ak, d, rfl, -, -, -, -, -⟩ := hl
  have hlt := Jw.is_lt hi
  have HI := Lib.hid ((hi.alloc (.cells #[.pointer (some ⟨b, 0, none⟩)] 43)).alloc (.cells #[.int .i64 2, .int .i64 x, .int .u64 (y : Int), .string s, .slice ai n c, .slice ak m d] 26))
  have HK := Lib.hid (((Jw.Kept.refl B b w).alloc (by omega) (.cells #[.pointer (some ⟨b, 0, none⟩)] 43)).alloc (by simp; omega) (.cells #[.int .i64 2, .int .i64 x, .int .u64 (y : Int), .string s, .slice ai n c, .slice ak m d] 26))
  have HX := Lib.hid (Jw.Bx.start w b (.int .i64 2) (.int .i64 x) (.int .u64 (y : Int)) (.string s) (.slice ai n c) (.slice ak m d) hlt.1)
  have hBW : B ≤ ((w.alloc (.cells #[.pointer (some ⟨b, 0, none⟩)] 43)).alloc (.cells #[.int .i64 2, .int .i64 x, .int .u64 (y : Int), .string s, .slice ai n c, .slice ak m d] 26)).heap.size := by simp; omega
  have HWW : Hid (Below w.heap.size w ((w.alloc (.cells #[.pointer (some ⟨b, 0, none⟩)] 43)).alloc (.cells #[.int .i64 2, .int .i64 x, .int .u64 (y : Int), .string s, .slice ai n c, .slice ak m d] 26))) := ((Below.refl _ _).alloc (Nat.le_refl _) _).alloc (by simp) _
  have hal : acc.length ≤ 65536 := by omega
  have d1 : decide ((65536 : Int) < (acc.length : Int)) = false := decide_eq_false (by omega)
  have d1n : decide (65536 < acc.length) = false := decide_eq_false (by omega)
  have ln := Sh.Builder_Len_f B b _ _ HI.out
  rw [Lib.byteCells_length] at ln
  have y0 : ((w.alloc (.cells #[.pointer (some ⟨b, 0, none⟩)] 43)).alloc (.cells #[.int .i64 2, .int .i64 x, .int .u64 (y : Int), .string s, .slice ai n c, .slice ak m d] 26)).cell? ⟨w.heap.size, 0, none⟩ = some (.pointer (some ⟨b, 0, none⟩)) := HX.out.out.cell 0 rfl
  obtain ⟨z0, z1, z2, z3, z4, z5⟩ := HX.out.val.cells
  clear hi hlong hS
  generalize hW2 : (w.alloc (.cells #[.pointer (some ⟨b, 0, none⟩)] 43)).alloc (.cells #[.int .i64 2, .int .i64 x, .int .u64 (y : Int), .string s, .slice ai n c, .slice ak m d] 26) = W2 at *
  have HW2 := Lib.hid hW2
  clear hW2
  replace hf := hf _ (HWW.out.drew)
  go_enter Tryz.func16, Tryz.ntmps16
  go_wp2_with fail
  rw [HW2.out]
  go_wp2_with (go_at_call 17; refine ln.mono ?_; rintro e w1 ⟨rfl, hw⟩; have hw := hw.symm; subst hw; clear ln)
  go_wp2_with fail
  go_region_held (fun u => u.cell? ⟨w.heap.size, 0, none⟩ = some (.pointer (some ⟨b, 0, none⟩)) ∧ u.cell? ⟨w.heap.size + 1, 1, none⟩ = some (.int .i64 x)) (go_keep) (first | (go_at_call 37; refine (hf).mono ?_; rintro e w3 ⟨rfl, b3⟩; have b3 := (Below.refl W2.heap.size W2).drew.trans b3; have HI3 := Lib.hid (Wk.isF_below HI.out b3); have HK3 := Lib.hid (HK.out.more hBW b3); have HX3 := Lib.hid (HX.out.on b3); have y0 : w3.cell? ⟨w.heap.size, 0, none⟩ = some (.pointer (some ⟨b, 0, none⟩)) := HX3.out.out.cell 0 rfl; obtain ⟨z0, z1, z2, z3, z4, z5⟩ := HX3.out.val.cells; clear b3) | (go_at_call 35; refine (Jw.put S _ HI3.out (by omega)).mono ?_; rintro e w4 ⟨rfl, i4, k4⟩; have HI4 : Hid (Lib.IsBuilderF 46 5 B b (Lib.byteCells (Js.pj (.mk 2 x y s n it m ks) acc)) w4) := (by unfold Hid; rw [HP.out]; exact i4); have HK4 := Lib.hid (HK3.out.trans k4); have y0 : w4.cell? ⟨w.heap.size, 0, none⟩ = some (.pointer (some ⟨b, 0, none⟩)) := (HX3.out.kept k4).out.cell 0 rfl; obtain ⟨z0, z1, z2, z3, z4, z5⟩ := (HX3.out.kept k4).val.cells; clear i4 k4))
  first | go_end0 | refine bodyPost_ret (results_none rfl _ _ _) rfl ?_
  exact ⟨rfl, HI4.out, HK4.out⟩
set_option maxRecDepth 100000 in
set_option maxHeartbeats 4000000 in
theorem Jw.realv (x : Int) (y : Nat) (s : ByteArray) (n : Nat) (it : Nat → Vt) (m : Nat) (ks : Nat → ByteArray) (B b : Nat) (acc : List UInt8) (v : Value) (w : World) (hl : (Vt.mk 3 x y s n it m ks).Lies w (· < B) v) (hi : Lib.IsBuilderF 46 5 B b (Lib.byteCells acc) w) (hlong : ¬ 65536 < acc.length) (S : ByteArray) (hS : Js.put (.mk 3 x y s n it m ks) = S.data.toList) (hSz : S.size ≤ 2000000) (hf : ∀ u, Below w.heap.size w u → Calls Tryz.prog 38 #[.int .u64 (y : Int)] u fun e w' => e = .returned (.string S) ∧ Below u.heap.size u w') :
    Calls Tryz.prog 16 #[.pointer (some ⟨b, 0, none⟩), v] w fun e w' => e = .returned (.tuple #[]) ∧ Lib.IsBuilderF 46 5 B b (Lib.byteCells (Js.pj (.mk 3 x y s n it m ks) acc)) w' ∧ Jw.Kept B b w w' := by
  have HP := Lib.hid (Js.pj_leaf (acc := acc) hlong (by decide) hS)
  obtain ⟨ai, c, ak, d, rfl, -, -, -, -, -⟩ := hl
  have hlt := Jw.is_lt hi
  have HI := Lib.hid ((hi.alloc (.cells #[.pointer (some ⟨b, 0, none⟩)] 43)).alloc (.cells #[.int .i64 3, .int .i64 x, .int .u64 (y : Int), .string s, .slice ai n c, .slice ak m d] 26))
  have HK := Lib.hid (((Jw.Kept.refl B b w).alloc (by omega) (.cells #[.pointer (some ⟨b, 0, none⟩)] 43)).alloc (by simp; omega) (.cells #[.int .i64 3, .int .i64 x, .int .u64 (y : Int), .string s, .slice ai n c, .slice ak m d] 26))
  have HX := Lib.hid (Jw.Bx.start w b (.int .i64 3) (.int .i64 x) (.int .u64 (y : Int)) (.string s) (.slice ai n c) (.slice ak m d) hlt.1)
  have hBW : B ≤ ((w.alloc (.cells #[.pointer (some ⟨b, 0, none⟩)] 43)).alloc (.cells #[.int .i64 3, .int .i64 x, .int .u64 (y : Int), .string s, .slice ai n c, .slice ak m d] 26)).heap.size := by simp; omega
  have HWW : Hid (Below w.heap.size w ((w.alloc (.cells #[.pointer (some ⟨b, 0, none⟩)] 43)).alloc (.cells #[.int .i64 3, .int .i64 x, .int .u64 (y : Int), .string s, .slice ai n c, .slice ak m d] 26))) := ((Below.refl _ _).alloc (Nat.le_refl _) _).alloc (by simp) _
  have hal : acc.length ≤ 65536 := by omega
  have d1 : decide ((65536 : Int) < (acc.length : Int)) = false := decide_eq_false (by omega)
  have d1n : decide (65536 < acc.length) = false := decide_eq_false (by omega)
  have ln := Sh.Builder_Len_f B b _ _ HI.out
  rw [Lib.byteCells_length] at ln
  have y0 : ((w.alloc (.cells #[.pointer (some ⟨b, 0, none⟩)] 43)).alloc (.cells #[.int .i64 3, .int .i64 x, .int .u64 (y : Int), .string s, .slice ai n c, .slice ak m d] 26)).cell? ⟨w.heap.size, 0, none⟩ = some (.pointer (some ⟨b, 0, none⟩)) := HX.out.out.cell 0 rfl
  obtain ⟨z0, z1, z2, z3, z4, z5⟩ := HX.out.val.cells
  clear hi hlong hS
  generalize hW2 : (w.alloc (.cells #[.pointer (some ⟨b, 0, none⟩)] 43)).alloc (.cells #[.int .i64 3, .int .i64 x, .int .u64 (y : Int), .string s, .slice ai n c, .slice ak m d] 26) = W2 at *
  have HW2 := Lib.hid hW2
  clear hW2
  replace hf := hf _ (HWW.out.drew)
  go_enter Tryz.func16, Tryz.ntmps16
  go_wp2_with fail
  rw [HW2.out]
  go_wp2_with (go_at_call 17; refine ln.mono ?_; rintro e w1 ⟨rfl, hw⟩; have hw := hw.symm; subst hw; clear ln)
  go_wp2_with fail
  go_region_held (fun u => u.cell? ⟨w.heap.size, 0, none⟩ = some (.pointer (some ⟨b, 0, none⟩)) ∧ u.cell? ⟨w.heap.size + 1, 2, none⟩ = some (.int .u64 (y : Int))) (go_keep) (first | (go_at_call 38; refine (hf).mono ?_; rintro e w3 ⟨rfl, b3⟩; have b3 := (Below.refl W2.heap.size W2).drew.trans b3; have HI3 := Lib.hid (Wk.isF_below HI.out b3); have HK3 := Lib.hid (HK.out.more hBW b3); have HX3 := Lib.hid (HX.out.on b3); have y0 : w3.cell? ⟨w.heap.size, 0, none⟩ = some (.pointer (some ⟨b, 0, none⟩)) := HX3.out.out.cell 0 rfl; obtain ⟨z0, z1, z2, z3, z4, z5⟩ := HX3.out.val.cells; clear b3) | (go_at_call 35; refine (Jw.put S _ HI3.out (by omega)).mono ?_; rintro e w4 ⟨rfl, i4, k4⟩; have HI4 : Hid (Lib.IsBuilderF 46 5 B b (Lib.byteCells (Js.pj (.mk 3 x y s n it m ks) acc)) w4) := (by unfold Hid; rw [HP.out]; exact i4); have HK4 := Lib.hid (HK3.out.trans k4); have y0 : w4.cell? ⟨w.heap.size, 0, none⟩ = some (.pointer (some ⟨b, 0, none⟩)) := (HX3.out.kept k4).out.cell 0 rfl; obtain ⟨z0, z1, z2, z3, z4, z5⟩ := (HX3.out.kept k4).val.cells; clear i4 k4))
  first | go_end0 | refine bodyPost_ret (results_none rfl _ _ _) rfl ?_
  exact ⟨rfl, HI4.out, HK4.out⟩
set_option maxRecDepth 100000 in
set_option maxHeartbeats 4000000 in
theorem Jw.text (x : Int) (y : Nat) (s : ByteArray) (n : Nat) (it : Nat → Vt) (m : Nat) (ks : Nat → ByteArray) (B b : Nat) (acc : List UInt8) (v : Value) (w : World) (hl : (Vt.mk 4 x y s n it m ks).Lies w (· < B) v) (hi : Lib.IsBuilderF 46 5 B b (Lib.byteCells acc) w) (hlong : ¬ 65536 < acc.length) (S : ByteArray) (hS : Js.put (.mk 4 x y s n it m ks) = S.data.toList) (hSz : S.size ≤ 2000000) (hf : ∀ u, Below w.heap.size w u → Calls Tryz.prog 39 #[.string s] u fun e w' => e = .returned (.string S) ∧ Below u.heap.size u w') :
    Calls Tryz.prog 16 #[.pointer (some ⟨b, 0, none⟩), v] w fun e w' => e = .returned (.tuple #[]) ∧ Lib.IsBuilderF 46 5 B b (Lib.byteCells (Js.pj (.mk 4 x y s n it m ks) acc)) w' ∧ Jw.Kept B b w w' := by
  have HP := Lib.hid (Js.pj_leaf (acc := acc) hlong (by decide) hS)
  obtain ⟨ai, c, ak, d, rfl, -, -, -, -, -⟩ := hl
  have hlt := Jw.is_lt hi
  have HI := Lib.hid ((hi.alloc (.cells #[.pointer (some ⟨b, 0, none⟩)] 43)).alloc (.cells #[.int .i64 4, .int .i64 x, .int .u64 (y : Int), .string s, .slice ai n c, .slice ak m d] 26))
  have HK := Lib.hid (((Jw.Kept.refl B b w).alloc (by omega) (.cells #[.pointer (some ⟨b, 0, none⟩)] 43)).alloc (by simp; omega) (.cells #[.int .i64 4, .int .i64 x, .int .u64 (y : Int), .string s, .slice ai n c, .slice ak m d] 26))
  have HX := Lib.hid (Jw.Bx.start w b (.int .i64 4) (.int .i64 x) (.int .u64 (y : Int)) (.string s) (.slice ai n c) (.slice ak m d) hlt.1)
  have hBW : B ≤ ((w.alloc (.cells #[.pointer (some ⟨b, 0, none⟩)] 43)).alloc (.cells #[.int .i64 4, .int .i64 x, .int .u64 (y : Int), .string s, .slice ai n c, .slice ak m d] 26)).heap.size := by simp; omega
  have HWW : Hid (Below w.heap.size w ((w.alloc (.cells #[.pointer (some ⟨b, 0, none⟩)] 43)).alloc (.cells #[.int .i64 4, .int .i64 x, .int .u64 (y : Int), .string s, .slice ai n c, .slice ak m d] 26))) := ((Below.refl _ _).alloc (Nat.le_refl _) _).alloc (by simp) _
  have hal : acc.length ≤ 65536 := by omega
  have d1 : decide ((65536 : Int) < (acc.length : Int)) = false := decide_eq_false (by omega)
  have d1n : decide (65536 < acc.length) = false := decide_eq_false (by omega)
  have ln := Sh.Builder_Len_f B b _ _ HI.out
  rw [Lib.byteCells_length] at ln
  have y0 : ((w.alloc (.cells #[.pointer (some ⟨b, 0, none⟩)] 43)).alloc (.cells #[.int .i64 4, .int .i64 x, .int .u64 (y : Int), .string s, .slice ai n c, .slice ak m d] 26)).cell? ⟨w.heap.size, 0, none⟩ = some (.pointer (some ⟨b, 0, none⟩)) := HX.out.out.cell 0 rfl
  obtain ⟨z0, z1, z2, z3, z4, z5⟩ := HX.out.val.cells
  clear hi hlong hS
  generalize hW2 : (w.alloc (.cells #[.pointer (some ⟨b, 0, none⟩)] 43)).alloc (.cells #[.int .i64 4, .int .i64 x, .int .u64 (y : Int), .string s, .slice ai n c, .slice ak m d] 26) = W2 at *
  have HW2 := Lib.hid hW2
  clear hW2
  replace hf := hf _ (HWW.out.drew)
  go_enter Tryz.func16, Tryz.ntmps16
  go_wp2_with fail
  rw [HW2.out]
  go_wp2_with (go_at_call 17; refine ln.mono ?_; rintro e w1 ⟨rfl, hw⟩; have hw := hw.symm; subst hw; clear ln)
  go_wp2_with fail
  go_region_held (fun u => u.cell? ⟨w.heap.size, 0, none⟩ = some (.pointer (some ⟨b, 0, none⟩)) ∧ u.cell? ⟨w.heap.size + 1, 3, none⟩ = some (.string s)) (go_keep) (first | (go_at_call 39; refine (hf).mono ?_; rintro e w3 ⟨rfl, b3⟩; have b3 := (Below.refl W2.heap.size W2).drew.trans b3; have HI3 := Lib.hid (Wk.isF_below HI.out b3); have HK3 := Lib.hid (HK.out.more hBW b3); have HX3 := Lib.hid (HX.out.on b3); have y0 : w3.cell? ⟨w.heap.size, 0, none⟩ = some (.pointer (some ⟨b, 0, none⟩)) := HX3.out.out.cell 0 rfl; obtain ⟨z0, z1, z2, z3, z4, z5⟩ := HX3.out.val.cells; clear b3) | (go_at_call 35; refine (Jw.put S _ HI3.out (by omega)).mono ?_; rintro e w4 ⟨rfl, i4, k4⟩; have HI4 : Hid (Lib.IsBuilderF 46 5 B b (Lib.byteCells (Js.pj (.mk 4 x y s n it m ks) acc)) w4) := (by unfold Hid; rw [HP.out]; exact i4); have HK4 := Lib.hid (HK3.out.trans k4); have y0 : w4.cell? ⟨w.heap.size, 0, none⟩ = some (.pointer (some ⟨b, 0, none⟩)) := (HX3.out.kept k4).out.cell 0 rfl; obtain ⟨z0, z1, z2, z3, z4, z5⟩ := (HX3.out.kept k4).val.cells; clear i4 k4))
  first | go_end0 | refine bodyPost_ret (results_none rfl _ _ _) rfl ?_
  exact ⟨rfl, HI4.out, HK4.out⟩
end Go.Proofs.YtboalkfagfgnpaaGreatDoor
