/-
  THE WALK of json.writeRow, over whatever part.
-/
import Derived.Test.YtboalkfagfgnpaaGreatDoorBJWrtoJWt
namespace Go.Proofs.YtboalkfagfgnpaaGreatDoor
open Go.RowKit
theorem Js.runp_comma (f : Nat → List UInt8 → List UInt8) (i : Nat) (l : List UInt8) : Js.runp (fun i a => f i (a ++ Js.comma i)) (i + 1) l = f i (Js.runp (fun i a => f i (a ++ Js.comma i)) i l ++ Js.comma i) := rfl
set_option maxRecDepth 100000 in
set_option maxHeartbeats 4000000 in
theorem Jw.row (F : FuncId) (p0 p1 : Value) (hF : ∀ x u, (callFunc F #[x, p0, p1]).run Tryz.prog u = .ok (.enter F #[x, p0, p1]) u) (o c : UInt8) (n : Nat) (hn : n ≤ 64) (B b : Nat) (f : Nat → List UInt8 → List UInt8) (P : World → Prop) (hP : ∀ u u', P u → Jw.Kept B b u u' → P u')
    (hpart : ∀ (i : Nat) acc u, i < n → acc.length ≤ 549755813888 → P u → Lib.IsBuilderF 46 5 B b (Lib.byteCells acc) u → Calls Tryz.prog F #[.int .i64 (i : Int), p0, p1] u fun e w' => e = .returned (.tuple #[]) ∧ Lib.IsBuilderF 46 5 B b (Lib.byteCells (f i acc)) w' ∧ Jw.Kept B b u w')
    (acc : List UInt8) (w : World) (h : P w) (hI : Lib.IsBuilderF 46 5 B b (Lib.byteCells acc) w) (hlen : acc.length + 1 ≤ 140737488355328) (hrun : ∀ i, i ≤ n → (Js.runp (fun i a => f i (a ++ Js.comma i)) i (acc ++ [o])).length + 1 ≤ 549755813888) :
    Calls Tryz.prog 40 #[.pointer (some ⟨b, 0, none⟩), .string ⟨#[o, c]⟩, .int .i64 (n : Int), .func (.func F) #[] #[p0, p1]] w fun e w' => e = .returned (.tuple #[]) ∧ Lib.IsBuilderF 46 5 B b (Lib.byteCells (Js.runp (fun i a => f i (a ++ Js.comma i)) n (acc ++ [o]) ++ [c])) w' ∧ Jw.Kept B b w w' := by
  have hix0 : ∀ hh, (⟨#[o, c]⟩ : ByteArray)[0]'hh = o := fun _ => rfl
  have hix1 : ∀ hh, (⟨#[o, c]⟩ : ByteArray)[1]'hh = c := fun _ => rfl
  have hsz : (⟨#[o, c]⟩ : ByteArray).size = 2 := rfl
  have c1 := Jw.putc o w hI hlen
  have HP := Lib.hid hP
  have HPT := Lib.hid hpart
  have HRN := Lib.hid hrun
  have HW := Lib.hid h
  clear hP hpart hrun h hI
  generalize (⟨#[o, c]⟩ : ByteArray) = BR at *
  go_enter Tryz.func40, Tryz.ntmps40
  go_wp2_with fail
  refine c1.mono ?_
  rintro e w1 ⟨rfl, i1, k1⟩
  have HI1 := Lib.hid i1
  have HK1 := Lib.hid k1
  clear i1 k1 c1
  go_wp2_with fail
  go_loopw [14] (fun ix wr => ∃ (i : Nat), i ≤ n ∧ ix = .int .i64 (i : Int) ∧ Hid (Lib.IsBuilderF 46 5 B b (Lib.byteCells (Js.runp (fun i a => f i (a ++ Js.comma i)) i (acc ++ [o]))) wr) ∧ Hid (Jw.Kept B b w wr)) (fun ix _ => n - (intOf ix).toNat)
  case atStart => exact ⟨0, Nat.zero_le _, rfl, HI1, HK1⟩
  case round =>
    obtain ⟨i, hi, rfl, HI, HK⟩ := hrel
    clear HI1 HK1
    have hrl := HRN.out i hi
    by_cases hlt : i < n
    · have d1 : decide ((i : Int) < (n : Int)) = true := decide_eq_true (by omega)
      have d1n : decide (i < n) = true := decide_eq_true hlt
      have HR2 := Lib.hid (Js.runp_comma f i (acc ++ [o]))
      generalize Js.runp (fun i a => f i (a ++ Js.comma i)) i (acc ++ [o]) = R at *
      have hHP := HP.out w wr HW.out HK.out
      by_cases h0 : i = 0
      · have d0 : decide ((0 : Int) < (i : Int)) = false := decide_eq_false (by omega)
        have d0n : decide (0 < i) = false := decide_eq_false (by omega)
        have hc : Js.comma i = [] := by unfold Js.comma; rw [if_pos h0]
        rw [hc, List.append_nil] at HR2
        have pt := HPT.out i R wr hlt (by omega) hHP HI.out
        clear h0 hc
        go_wp2_with fail
        refine pt.mono ?_
        rintro e w2 ⟨rfl, i2, k2⟩
        have HI2 : Hid (Lib.IsBuilderF 46 5 B b (Lib.byteCells (Js.runp (fun i a => f i (a ++ Js.comma i)) (i + 1) (acc ++ [o]))) w2) := by unfold Hid; rw [HR2.out]; exact i2
        have HK2 := Lib.hid (HK.out.trans k2)
        clear i2 k2 pt
        go_wp2
        go_roundw
        case rel => exact ⟨i + 1, by omega, by go_num, HI2, HK2⟩
        case measure => simp [intOf]; omega
      · have d0 : decide ((0 : Int) < (i : Int)) = true := decide_eq_true (by omega)
        have d0n : decide (0 < i) = true := decide_eq_true (by omega)
        have hc : Js.comma i = [44] := by unfold Js.comma; rw [if_neg h0]
        rw [hc] at HR2
        have pc : Calls Tryz.prog 43 #[.pointer (some ⟨b, 0, none⟩), .int .u8 44] wr fun e w' => e = .returned .nilIface ∧ Lib.IsBuilderF 46 5 B b (Lib.byteCells (R ++ [44])) w' ∧ Jw.Kept B b wr w' := Jw.putc 44 wr HI.out (by omega)
        have hl44 : (R ++ [44]).length = R.length + 1 := by simp
        generalize R ++ [44] = R4 at *
        clear h0 hc
        go_wp2_with fail
        refine pc.mono ?_
        rintro e w2 ⟨rfl, i2, k2⟩
        have pt := HPT.out i R4 w2 hlt (by omega) (HP.out _ _ hHP k2) i2
        have HK2 := Lib.hid (HK.out.trans k2)
        clear i2 k2 pc
        go_wp2_with fail
        refine pt.mono ?_
        rintro e w3 ⟨rfl, i3, k3⟩
        have HI3 : Hid (Lib.IsBuilderF 46 5 B b (Lib.byteCells (Js.runp (fun i a => f i (a ++ Js.comma i)) (i + 1) (acc ++ [o]))) w3) := by unfold Hid; rw [HR2.out]; exact i3
        have HK3 := Lib.hid (HK2.out.trans k3)
        clear i3 k3 pt
        go_wp2
        go_roundw
        case rel => exact ⟨i + 1, by omega, by go_num, HI3, HK3⟩
        case measure => simp [intOf]; omega
    · have d1 : decide ((i : Int) < (n : Int)) = false := decide_eq_false (by omega)
      have d1n : decide (i < n) = false := decide_eq_false hlt
      have e : i = n := by omega
      have hq : (Js.runp (fun i a => f i (a ++ Js.comma i)) n (acc ++ [o])).length + 1 ≤ 140737488355328 := by rw [← e]; omega
      rw [e] at HI
      have pc := Jw.putc c wr HI.out hq
      clear e hq hrl
      go_wp2_with fail
      refine pc.mono ?_
      rintro e w2 ⟨rfl, i2, k2⟩
      have HI2 := Lib.hid i2
      have HK2 := Lib.hid (HK.out.trans k2)
      clear i2 k2 pc
      go_wp2
      first | go_end0 | refine bodyPost_ret (results_none rfl _ _ _) rfl ?_
      exact ⟨rfl, HI2.out, HK2.out⟩
end Go.Proofs.YtboalkfagfgnpaaGreatDoor
/-
  THE WALKS of json.write's two closures.
-/
namespace Go.Proofs.YtboalkfagfgnpaaGreatDoor
open Go.RowKit
theorem Jw.isF_drew {T e : TypeId} {B b : Nat} {bs : List Value} {W : World} (h : Lib.IsBuilderF T e B b bs W) : Lib.IsBuilderF T e B b bs W.drew := Wk.isF_below h (Below.refl _ _).drew
set_option maxRecDepth 100000 in
set_option maxHeartbeats 4000000 in
theorem Jw.part1 (w0 : World) (t : Vt) (B b a : Nat) (hW : Jw.W w0 t B b) (v0 v1 v2 v3 v5 : Value) (bi oi n c i : Nat) (hin : i < n) (_hn : n ≤ 64) (acc : List UInt8) (u : World) (hX : Jw.Bx a b v0 v1 v2 v3 (.slice (some ⟨bi, oi, none⟩) n c) v5 u)
    (u0 u1 u2 u3 u4 u5 : Value) (c0 : u.cell? ⟨bi, oi + i * 6, none⟩ = some u0) (c1 : u.cell? ⟨bi, oi + i * 6 + 1, none⟩ = some u1) (c2 : u.cell? ⟨bi, oi + i * 6 + 2, none⟩ = some u2) (c3 : u.cell? ⟨bi, oi + i * 6 + 3, none⟩ = some u3) (c4 : u.cell? ⟨bi, oi + i * 6 + 4, none⟩ = some u4) (c5 : u.cell? ⟨bi, oi + i * 6 + 5, none⟩ = some u5)
    (hl : t.Lies u (· < B) (.agg #[u0, u1, u2, u3, u4, u5])) (hI : Lib.IsBuilderF 46 5 B b (Lib.byteCells acc) u) (hlen : acc.length ≤ 1099511627776) (h0 : Below w0.heap.size w0 u) :
    Calls Tryz.prog 41 #[.int .i64 (i : Int), .pointer (some ⟨a, 0, none⟩), .pointer (some ⟨a + 1, 0, none⟩)] u fun e w' => e = .returned (.tuple #[]) ∧ Lib.IsBuilderF 46 5 B b (Lib.byteCells (Js.pj t acc)) w' ∧ Jw.Kept B b u w' := by
  have hw := hW acc _ u.drew (hl.below (Below.refl _ _).drew) (Jw.isF_drew hI) hlen h0.drew
  obtain ⟨k, x, y, s, ai', n', c', ak, m, d, rfl, rfl, rfl, rfl, rfl, rfl⟩ := hl.cells
  have y0 : u.cell? ⟨a, 0, none⟩ = some (.pointer (some ⟨b, 0, none⟩)) := hX.out.cell 0 rfl
  obtain ⟨-, -, -, -, z4, -⟩ := hX.val.cells
  have i0 : (0 : Int) ≤ (i : Int) := by omega
  have i1 : (i : Int) < (n : Int) := by omega
  clear hX hl hI hW h0
  go_enter Tryz.func41, Tryz.ntmps41
  go_wp2_with fail
  go_region_with (go_at_call 16; refine hw.mono ?_; rintro e w4 ⟨rfl, i4, k4⟩; have HI4 := Lib.hid i4; have HK4 : Hid (Jw.Kept B b u w4) := (Jw.Kept.refl B b u).drew.trans k4; clear i4 k4)
  all_goals first | go_end0 | refine bodyPost_ret (results_none rfl _ _ _) rfl ?_
  all_goals exact ⟨rfl, HI4.out, HK4.out⟩
set_option maxRecDepth 100000 in
set_option maxHeartbeats 4000000 in
theorem Jw.part2 (w0 : World) (t : Vt) (B b a : Nat) (hW : Jw.W w0 t B b) (v0 v1 v2 v3 : Value) (bi oi n c bk ok d i : Nat) (hin : i < n) (_hn : n ≤ 64) (acc : List UInt8) (key : ByteArray) (u : World) (hX : Jw.Bx a b v0 v1 v2 v3 (.slice (some ⟨bi, oi, none⟩) n c) (.slice (some ⟨bk, ok, none⟩) n d) u)
    (hk : u.cell? ⟨bk, ok + i, none⟩ = some (.string key)) (hbk : bk < B)
    (u0 u1 u2 u3 u4 u5 : Value) (hbi : bi < B) (c0 : u.cell? ⟨bi, oi + i * 6, none⟩ = some u0) (c1 : u.cell? ⟨bi, oi + i * 6 + 1, none⟩ = some u1) (c2 : u.cell? ⟨bi, oi + i * 6 + 2, none⟩ = some u2) (c3 : u.cell? ⟨bi, oi + i * 6 + 3, none⟩ = some u3) (c4 : u.cell? ⟨bi, oi + i * 6 + 4, none⟩ = some u4) (c5 : u.cell? ⟨bi, oi + i * 6 + 5, none⟩ = some u5)
    (hl : t.Lies u (· < B) (.agg #[u0, u1, u2, u3, u4, u5])) (hI : Lib.IsBuilderF 46 5 B b (Lib.byteCells acc) u) (hB : B ≤ u.heap.size) (h0B : w0.heap.size ≤ B) (S : ByteArray) (hS : S.data.toList = Js.quoted key.data.toList)
    (hq : ∀ v, Below w0.heap.size w0 v → Calls Tryz.prog 39 #[.string key] v fun e w' => e = .returned (.string S) ∧ Below v.heap.size v w') (hlen : acc.length + S.size + 1 ≤ 1099511627776) (h0 : Below w0.heap.size w0 u) :
    Calls Tryz.prog 42 #[.int .i64 (i : Int), .pointer (some ⟨a, 0, none⟩), .pointer (some ⟨a + 1, 0, none⟩)] u fun e w' => e = .returned (.tuple #[]) ∧ Lib.IsBuilderF 46 5 B b (Lib.byteCells (Js.pj t (acc ++ (Js.quoted key.data.toList ++ [58])))) w' ∧ Jw.Kept B b u w' := by
  have HE : Hid (acc ++ (Js.quoted key.data.toList ++ [58]) = (acc ++ S.data.toList) ++ [58]) := by unfold Hid; rw [hS]; simp
  have hq1 := hq u.drew h0.drew
  obtain ⟨k, x, y, s, ai', n', c', ak, m, d', rfl, rfl, rfl, rfl, rfl, rfl⟩ := hl.cells
  have y0 : u.cell? ⟨a, 0, none⟩ = some (.pointer (some ⟨b, 0, none⟩)) := hX.out.cell 0 rfl
  obtain ⟨-, -, -, -, z4, z5⟩ := hX.val.cells
  have HX := Lib.hid hX
  have HI := Lib.hid hI
  have HL := Lib.hid hl
  have i0 : (0 : Int) ≤ (i : Int) := by omega
  have i1 : (i : Int) < (n : Int) := by omega
  have hSl : S.data.toList.length = S.size := Wk.len_data S
  have hle4 : (acc ++ S.data.toList).length = acc.length + S.size := by rw [List.length_append, hSl]
  have hle5 : ((acc ++ S.data.toList) ++ [58]).length = acc.length + S.size + 1 := by rw [List.length_append, hle4]; rfl
  have KB : Hid (∀ (u' : World) (o : Nat) (v : Value), Below B u u' → u.cell? ⟨bi, o, none⟩ = some v → u'.cell? ⟨bi, o, none⟩ = some v) := fun u' o v h q => Vt.cell_on (h.block _ hbi) q
  have C := Lib.hid (And.intro c0 (And.intro c1 (And.intro c2 (And.intro c3 (And.intro c4 c5)))))
  rw [HE.out]
  clear hX hl hI hS hSl HE c0 c1 c2 c3 c4 c5 hq
  generalize hA4 : acc ++ S.data.toList = A4 at *
  have HA4 := Lib.hid hA4
  clear hA4
  generalize hA5 : A4 ++ [58] = A5 at *
  have HA5 := Lib.hid hA5
  clear hA5
  go_enter Tryz.func42, Tryz.ntmps42
  go_wp2_with fail
  go_region_held (fun u => u.cell? ⟨a, 0, none⟩ = some (.pointer (some ⟨b, 0, none⟩)) ∧ u.cell? ⟨a + 1, 5, none⟩ = some (.slice (some ⟨bk, ok, none⟩) n d) ∧ u.cell? ⟨bk, ok + i, none⟩ = some (.string key)) (go_keep) (first | (go_at_call 39; refine hq1.mono ?_; rintro e w3 ⟨rfl, b3⟩; have b3 := (Below.refl u.heap.size u).drew.trans b3; have HI3 := Lib.hid (Wk.isF_below HI.out b3); have HK3 := Lib.hid ((Jw.Kept.refl B b u).more hB b3); have HX3 := Lib.hid (HX.out.on b3); have y0 : w3.cell? ⟨a, 0, none⟩ = some (.pointer (some ⟨b, 0, none⟩)) := HX3.out.out.cell 0 rfl; obtain ⟨-, -, -, -, z4, z5⟩ := HX3.out.val.cells; have hk : w3.cell? ⟨bk, ok + i, none⟩ = some (.string key) := Vt.cell_on (b3.block _ (by omega)) hk; clear b3 hq1) | (go_at_call 35; refine (Jw.put S _ HI3.out (by omega)).mono ?_; rintro e w4 ⟨rfl, i4, k4⟩; have HI4 : Hid (Lib.IsBuilderF 46 5 B b (Lib.byteCells A4) w4) := (by unfold Hid; rw [← HA4.out]; exact i4); have HK4 := Lib.hid (HK3.out.trans k4); have HX4 := Lib.hid (HX3.out.kept k4); have y0 : w4.cell? ⟨a, 0, none⟩ = some (.pointer (some ⟨b, 0, none⟩)) := HX4.out.out.cell 0 rfl; obtain ⟨-, -, -, -, z4, z5⟩ := HX4.out.val.cells; have hk : w4.cell? ⟨bk, ok + i, none⟩ = some (.string key) := Vt.cell_on (k4.back.block _ hbk) hk; clear i4 k4))
  have pc : Calls Tryz.prog 43 #[.pointer (some ⟨b, 0, none⟩), .int .u8 58] w4 fun e w' => e = .returned .nilIface ∧ Lib.IsBuilderF 46 5 B b (Lib.byteCells A5) w' ∧ Jw.Kept B b w4 w' := by rw [← HA5.out]; exact Jw.putc 58 w4 HI4.out (by omega)
  go_wp2_with fail
  refine pc.mono ?_
  rintro e w5 ⟨rfl, i5, k5⟩
  have HK5 := Lib.hid (HK4.out.trans k5)
  have HX5 := Lib.hid (HX4.out.kept k5)
  have y0 : w5.cell? ⟨a, 0, none⟩ = some (.pointer (some ⟨b, 0, none⟩)) := HX5.out.out.cell 0 rfl
  obtain ⟨-, -, -, -, z4, z5⟩ := HX5.out.val.cells
  have hw := hW A5 _ w5.drew ((HL.out.below HK5.out.back).below (Below.refl _ _).drew) (Jw.isF_drew i5) (by omega) (h0.trans (HK5.out.back.mono h0B)).drew
  have q0 := KB.out _ _ _ HK5.out.back C.out.1
  have q1 := KB.out _ _ _ HK5.out.back C.out.2.1
  have q2 := KB.out _ _ _ HK5.out.back C.out.2.2.1
  have q3 := KB.out _ _ _ HK5.out.back C.out.2.2.2.1
  have q4 := KB.out _ _ _ HK5.out.back C.out.2.2.2.2.1
  have q5 := KB.out _ _ _ HK5.out.back C.out.2.2.2.2.2
  clear i5 k5 pc hW HI HI3 HI4 HX HX3 HX4 HK3 HK4 HX5 HL
  go_wp2_with fail
  go_region_with (go_at_call 16; refine hw.mono ?_; rintro e w6 ⟨rfl, i6, k6⟩; have HI6 := Lib.hid i6; have HK6 := Lib.hid (HK5.out.drew.trans k6); clear i6)
  all_goals first | go_end0 | refine bodyPost_ret (results_none rfl _ _ _) rfl ?_
  all_goals exact ⟨rfl, HI6.out, HK6.out⟩
end Go.Proofs.YtboalkfagfgnpaaGreatDoor
