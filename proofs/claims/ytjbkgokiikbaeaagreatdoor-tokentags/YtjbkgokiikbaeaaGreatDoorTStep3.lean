/-
  THE WALKS of tok.Step and tok.Start.
-/
import Derived.Test.YtjbkgokiikbaeaaGreatDoorTStep2
namespace Go.Proofs.YtjbkgokiikbaeaaGreatDoor
open Go.RowKit
/-- the table laid by a store of the whole into a new variable -/
theorem Tp.Table.laid {W : World} {g o B C : Nat} (hB : B < W.heap.size) (hC : C < W.heap.size) (h1 : W.cell? ⟨B, 0, none⟩ = some (.int .u8 34)) (h2 : W.cell? ⟨C, 0, none⟩ = some (.int .u8 39)) (hgB : B ≠ g) (hgC : C ≠ g) (hg : g < W.heap.size) (ht : W.there g o 23) :
    Tp.Table (W.setCells g o (Tp.table B C).toList) g o := by
  have hr := World.rangeAt_setCells_same W g o (Tp.table B C).toList ht
  have hs := Tp.setCells_size g (Tp.table B C).toList o W
  refine ⟨by omega, B, C, by omega, by omega, ?_, ?_, fun k v hv => hr k v (by simpa using hv)⟩
  · exact (World.cell?_setCells_out g _ o W ⟨B, 0, none⟩ (fun e => absurd e hgB)).trans h1
  · exact (World.cell?_setCells_out g _ o W ⟨C, 0, none⟩ (fun e => absurd e hgC)).trans h2
set_option maxHeartbeats 2000000 in
theorem Tp.Step (s : Ts) (c : UInt8) (w : World) (hs : s.Fits) : Calls Tryz.prog 8 #[.agg #[.int .i64 s.pl, .string s.name, .bool s.fin, .string s.attr, .string s.held, .int .i64 s.read], .int .u8 c.toNat] w fun e w' => e = .returned (.agg #[.int .i64 (s.step c).pl, .string (s.step c).name, .bool (s.step c).fin, .string (s.step c).attr, .string (s.step c).held, .int .i64 (s.step c).read]) ∧ Below w.heap.size w w' := by
  have HS := Lib.hid hs
  clear hs
  go_enter Tryz.func8, Tryz.ntmps8
  go_wp2_with (first | (go_at_call 22; refine (Tp.steppers _).mono ?_; rintro e w1 ⟨B, C, rfl, hB, hC, hB0, hC0, h34, h39, hb1⟩) | refine Vm.stop 5 ?_)
  have k0 := Tp.keep hb1 (b := w.heap.size) (o := 0) (v := .int .i64 s.pl) (by simp)
  have k1 := Tp.keep hb1 (b := w.heap.size) (o := 1) (v := .string s.name) (by simp)
  have k2 := Tp.keep hb1 (b := w.heap.size) (o := 2) (v := .bool s.fin) (by simp)
  have k3 := Tp.keep hb1 (b := w.heap.size) (o := 3) (v := .string s.attr) (by simp)
  have k4 := Tp.keep hb1 (b := w.heap.size) (o := 4) (v := .string s.held) (by simp)
  have k5 := Tp.keep hb1 (b := w.heap.size) (o := 5) (v := .int .i64 s.read) (by simp)
  have z0 := Tp.keep hb1 (b := w.heap.size + 1) (o := 0) (v := .int .i64 0) (by simp)
  have z1 := Tp.keep hb1 (b := w.heap.size + 1) (o := 1) (v := .string ⟨#[]⟩) (by simp)
  have z2 := Tp.keep hb1 (b := w.heap.size + 1) (o := 2) (v := .bool false) (by simp)
  have z3 := Tp.keep hb1 (b := w.heap.size + 1) (o := 3) (v := .string ⟨#[]⟩) (by simp)
  have z4 := Tp.keep hb1 (b := w.heap.size + 1) (o := 4) (v := .string ⟨#[]⟩) (by simp)
  have z5 := Tp.keep hb1 (b := w.heap.size + 1) (o := 5) (v := .int .i64 0) (by simp)
  have zf := Tp.keepF hb1 (b := w.heap.size + 1) (by simp) (fun i => by simp)
  have hs1 := hb1.size
  simp at hs1 hB0 hC0
  have q1 : Below w.heap.size w w1 := (Tp.two _ _ _).trans (hb1.mono (by simp; omega))
  clear hb1
  refine ⟨?_⟩
  go_wp2_with (refine Vm.stopS 58 ?_)
  refine ⟨?_⟩
  obtain ⟨W, hW⟩ : ∃ W, w1.alloc (.cells Tp.none23 58) = W := ⟨_, rfl⟩
  have hsz : W.heap.size = w1.heap.size + 1 := by rw [← hW]; simp
  have hb2 : Below w1.heap.size w1 W := by rw [← hW]; exact (Below.refl _ _).alloc (Nat.le_refl _) _
  have hth : W.there w1.heap.size 0 23 := Tp.there W w1.heap.size Tp.none23 58 (by rw [← hW]; exact heap_alloc_new w1 _) 0 23 (by decide)
  have hT := Tp.Table.laid (W := W) (g := w1.heap.size) (o := 0) (B := B) (C := C) (by omega) (by omega) (Tp.keep hb2 h34) (Tp.keep hb2 h39) (by omega) (by omega) (by omega) hth
  have hb3 := Tp.setCells (B := w1.heap.size) (a := w1) w1.heap.size (Nat.le_refl _) (Tp.table B C).toList 0 W hb2
  unfold Tp.none23 at hW
  rw [hW]
  refine wpList_store_mid rfl 58 _ _ rfl w1.heap.size 0 (Tp.table B C) rfl rfl hth Tp.tableInfo (Tp.table_one _ _) ?_
  clear hW hth hb2
  generalize W.setCells w1.heap.size 0 (Tp.table B C).toList = V at *
  have k0' := Tp.keep hb3 k0
  have k1' := Tp.keep hb3 k1
  have k2' := Tp.keep hb3 k2
  have k3' := Tp.keep hb3 k3
  have k4' := Tp.keep hb3 k4
  have k5' := Tp.keep hb3 k5
  have z0' := Tp.keep hb3 z0
  have z1' := Tp.keep hb3 z1
  have z2' := Tp.keep hb3 z2
  have z3' := Tp.keep hb3 z3
  have z4' := Tp.keep hb3 z4
  have z5' := Tp.keep hb3 z5
  have zf' := Tp.keepF hb3 (by omega) zf
  have q2 : Below w.heap.size w V := q1.trans (hb3.mono (by omega))
  have hsV := hb3.size
  have hst := Tp.step s c V w1.heap.size 0 hT HS.out
  clear k0 k1 k2 k3 k4 k5 z0 z1 z2 z3 z4 z5 zf q1 hb3 h34 h39
  go_wp2_with (go_at_call 23; refine hst.mono ?_; rintro e w2 ⟨rfl, hb4⟩; have y0 := Tp.keep hb4 z0'; have y1 := Tp.keep hb4 z1'; have y2 := Tp.keep hb4 z2'; have y3 := Tp.keep hb4 z3'; have y4 := Tp.keep hb4 z4'; have y5 := Tp.keep hb4 z5'; have yf := Tp.keepF hb4 (by omega) zf'; have q3 : Below w.heap.size w w2 := q2.trans (hb4.mono (by omega)); clear hb4 hst)
  refine bodyPost_ret (v := .agg #[.int .i64 (s.step c).pl, .string (s.step c).name, .bool (s.step c).fin, .string (s.step c).attr, .string (s.step c).held, .int .i64 (s.step c).read]) (by simp [results, Tryz.results8, go_sem, *]) rfl ⟨rfl, ?_⟩
  repeat (refine Below.setCell ?_ (by simp) _)
  exact q3
theorem Tp.Start (w : World) : Calls Tryz.prog 10 #[] w fun e w' => e = .returned (.agg #[.int .i64 0, .string ⟨#[]⟩, .bool false, .string ⟨#[]⟩, .string ⟨#[]⟩, .int .i64 0]) ∧ Below w.heap.size w w' := by
  go_enter Tryz.func10, Tryz.ntmps10
  go_wp2
  exact bodyPost_ret (v := .agg #[.int .i64 0, .string ⟨#[]⟩, .bool false, .string ⟨#[]⟩, .string ⟨#[]⟩, .int .i64 0]) (by simp [results, Tryz.results10, go_sem]) rfl ⟨rfl, (Below.refl _ _).alloc (Nat.le_refl _) _⟩
end Go.Proofs.YtjbkgokiikbaeaaGreatDoor
