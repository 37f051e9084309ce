/-
  THE WALK of the reference's Step.
-/
import Derived.Test.YtblpkjlodncpeaaGreatDoorBTRs7
namespace Go.Proofs.YtblpkjlodncpeaaGreatDoor
open Go.RowKit
theorem Rs.mid {w W w1 : World} (hb : Below W.heap.size W w1) (h : Below w.heap.size w W) : Below w.heap.size w w1 := h.trans (hb.mono h.size)
set_option maxRecDepth 100000 in
set_option maxHeartbeats 4000000 in
theorem Rs.step_0 (c : UInt8) (w : World) : Calls Tryz.prog 87 #[.agg #[.int .i64 0, .string ⟨#[]⟩, .bool false, .string ⟨#[]⟩, .string ⟨#[]⟩, .int .i64 0], .int .u8 c.toNat] w fun e w' => e = .returned (.agg #[.int .i64 ((⟨0, Ts.e, false, Ts.e, Ts.e, 0⟩ : Ts).step c).pl, .string ((⟨0, Ts.e, false, Ts.e, Ts.e, 0⟩ : Ts).step c).name, .bool ((⟨0, Ts.e, false, Ts.e, Ts.e, 0⟩ : Ts).step c).fin, .string ((⟨0, Ts.e, false, Ts.e, Ts.e, 0⟩ : Ts).step c).attr, .string ((⟨0, Ts.e, false, Ts.e, Ts.e, 0⟩ : Ts).step c).held, .int .i64 ((⟨0, Ts.e, false, Ts.e, Ts.e, 0⟩ : Ts).step c).read]) ∧ Below w.heap.size w w' := by
 have hcn := fun u => Rs.clean_0 u
 by_cases h60 : c = 60
 ·
  have HR : Hid ((⟨0, Ts.e, false, Ts.e, Ts.e, 0⟩ : Ts).step c = (⟨1, Ts.e, false, Ts.e, Ts.e, 0⟩ : Ts)) := (by unfold Hid; show Ts.data ((⟨0, Ts.e, false, Ts.e, Ts.e, 0⟩ : Ts).to 0) c = _; unfold Ts.data; rw [if_pos h60]; rfl)
  have t60 : ((c.toNat : Int) == 60) = true := Tp.eq_true h60
  clear h60
  go_enter Tryz.func87, Tryz.ntmps87
  go_wp2_with ((go_at_call 119; refine (hcn _).mono ?_; rintro e w' ⟨rfl, rfl⟩))
  refine bodyPost_ret (v := .agg #[.int .i64 1, .string ⟨#[]⟩, .bool false, .string ⟨#[]⟩, .string ⟨#[]⟩, .int .i64 0]) (by simp [results, Tryz.results87, go_sem]) rfl ⟨Rs.agg (X := (⟨1, Ts.e, false, Ts.e, Ts.e, 0⟩ : Ts)) HR.out.symm, ?_⟩
  repeat' first | refine Below.setCell ?_ (by first | (simp; done) | (simp; omega) | omega) _ | refine Below.alloc ?_ (by first | (simp; done) | (simp; omega) | omega) _ | exact Below.refl _ _
 have HR : Hid ((⟨0, Ts.e, false, Ts.e, Ts.e, 0⟩ : Ts).step c = (⟨0, Ts.e, false, Ts.e, Ts.e, 0⟩ : Ts)) := (by unfold Hid; show Ts.data ((⟨0, Ts.e, false, Ts.e, Ts.e, 0⟩ : Ts).to 0) c = _; unfold Ts.data; rw [if_neg h60]; rfl)
 have t60 : ((c.toNat : Int) == 60) = false := Tp.eq_false h60
 clear h60
 go_enter Tryz.func87, Tryz.ntmps87
 go_wp2_with ((go_at_call 119; refine (hcn _).mono ?_; rintro e w' ⟨rfl, rfl⟩))
 refine bodyPost_ret (v := .agg #[.int .i64 0, .string ⟨#[]⟩, .bool false, .string ⟨#[]⟩, .string ⟨#[]⟩, .int .i64 0]) (by simp [results, Tryz.results87, go_sem]) rfl ⟨Rs.agg (X := (⟨0, Ts.e, false, Ts.e, Ts.e, 0⟩ : Ts)) HR.out.symm, ?_⟩
 repeat' first | refine Below.setCell ?_ (by first | (simp; done) | (simp; omega) | omega) _ | refine Below.alloc ?_ (by first | (simp; done) | (simp; omega) | omega) _ | exact Below.refl _ _
set_option maxRecDepth 100000 in
set_option maxHeartbeats 4000000 in
theorem Rs.step_1 (c : UInt8) (w : World) : Calls Tryz.prog 87 #[.agg #[.int .i64 1, .string ⟨#[]⟩, .bool false, .string ⟨#[]⟩, .string ⟨#[]⟩, .int .i64 0], .int .u8 c.toNat] w fun e w' => e = .returned (.agg #[.int .i64 ((⟨1, Ts.e, false, Ts.e, Ts.e, 0⟩ : Ts).step c).pl, .string ((⟨1, Ts.e, false, Ts.e, Ts.e, 0⟩ : Ts).step c).name, .bool ((⟨1, Ts.e, false, Ts.e, Ts.e, 0⟩ : Ts).step c).fin, .string ((⟨1, Ts.e, false, Ts.e, Ts.e, 0⟩ : Ts).step c).attr, .string ((⟨1, Ts.e, false, Ts.e, Ts.e, 0⟩ : Ts).step c).held, .int .i64 ((⟨1, Ts.e, false, Ts.e, Ts.e, 0⟩ : Ts).step c).read]) ∧ Below w.heap.size w w' := by
 have hcn := fun u => Rs.clean_1 u
 have hG := fun u => Rs.open_1 c u
 generalize (⟨1, Ts.e, false, Ts.e, Ts.e, 0⟩ : Ts).step c = N at *
 go_enter Tryz.func87, Tryz.ntmps87
 go_wp2_with (first | (go_at_call 119; refine (hcn _).mono ?_; rintro e w' ⟨rfl, rfl⟩) | (go_at_call 120; refine (hG _).mono ?_; rintro e w1 ⟨rfl, hb1⟩; obtain ⟨d0, d1, d2, d3, d4, d5⟩ := Tp.z6 hb1 (b := w.heap.size + 1) (by simp [go_sem]); have fz := Tp.keepF hb1 (b := w.heap.size + 1) (by first | (simp; done) | (simp; omega)) (fun i => by simp [go_sem]); have HB1 : Hid (Below w.heap.size w w1) := Lib.hid (Rs.mid hb1 (by repeat' first | refine Below.setCell ?_ (by first | (simp; done) | (simp; omega) | omega) _ | refine Below.alloc ?_ (by first | (simp; done) | (simp; omega) | omega) _ | exact Below.refl _ _)); clear hb1 hG))
 refine bodyPost_ret (v := Ts.v N) (by simp [results, Tryz.results87, go_sem, Ts.v, *]) rfl ⟨rfl, ?_⟩
 repeat (refine Below.setCell ?_ (by first | (simp; done) | (simp; omega) | omega) _)
 exact HB1.out
set_option maxRecDepth 100000 in
set_option maxHeartbeats 4000000 in
theorem Rs.step_2 (c : UInt8) (w : World) : Calls Tryz.prog 87 #[.agg #[.int .i64 2, .string ⟨#[]⟩, .bool false, .string ⟨#[]⟩, .string ⟨#[]⟩, .int .i64 0], .int .u8 c.toNat] w fun e w' => e = .returned (.agg #[.int .i64 ((⟨2, Ts.e, false, Ts.e, Ts.e, 0⟩ : Ts).step c).pl, .string ((⟨2, Ts.e, false, Ts.e, Ts.e, 0⟩ : Ts).step c).name, .bool ((⟨2, Ts.e, false, Ts.e, Ts.e, 0⟩ : Ts).step c).fin, .string ((⟨2, Ts.e, false, Ts.e, Ts.e, 0⟩ : Ts).step c).attr, .string ((⟨2, Ts.e, false, Ts.e, Ts.e, 0⟩ : Ts).step c).held, .int .i64 ((⟨2, Ts.e, false, Ts.e, Ts.e, 0⟩ : Ts).step c).read]) ∧ Below w.heap.size w w' := by
 have hcn := fun u => Rs.clean_2 u
 have hG := fun u => Rs.open_2 c u
 generalize (⟨2, Ts.e, false, Ts.e, Ts.e, 0⟩ : Ts).step c = N at *
 go_enter Tryz.func87, Tryz.ntmps87
 go_wp2_with (first | (go_at_call 119; refine (hcn _).mono ?_; rintro e w' ⟨rfl, rfl⟩) | (go_at_call 120; refine (hG _).mono ?_; rintro e w1 ⟨rfl, hb1⟩; obtain ⟨d0, d1, d2, d3, d4, d5⟩ := Tp.z6 hb1 (b := w.heap.size + 1) (by simp [go_sem]); have fz := Tp.keepF hb1 (b := w.heap.size + 1) (by first | (simp; done) | (simp; omega)) (fun i => by simp [go_sem]); have HB1 : Hid (Below w.heap.size w w1) := Lib.hid (Rs.mid hb1 (by repeat' first | refine Below.setCell ?_ (by first | (simp; done) | (simp; omega) | omega) _ | refine Below.alloc ?_ (by first | (simp; done) | (simp; omega) | omega) _ | exact Below.refl _ _)); clear hb1 hG))
 refine bodyPost_ret (v := Ts.v N) (by simp [results, Tryz.results87, go_sem, Ts.v, *]) rfl ⟨rfl, ?_⟩
 repeat (refine Below.setCell ?_ (by first | (simp; done) | (simp; omega) | omega) _)
 exact HB1.out
set_option maxRecDepth 100000 in
set_option maxHeartbeats 4000000 in
theorem Rs.step_3 (n : ByteArray) (f : Bool) (c : UInt8) (w : World) (hn : n.size ≤ 32) : Calls Tryz.prog 87 #[.agg #[.int .i64 3, .string n, .bool f, .string ⟨#[]⟩, .string ⟨#[]⟩, .int .i64 0], .int .u8 c.toNat] w fun e w' => e = .returned (.agg #[.int .i64 ((⟨3, n, f, Ts.e, Ts.e, 0⟩ : Ts).step c).pl, .string ((⟨3, n, f, Ts.e, Ts.e, 0⟩ : Ts).step c).name, .bool ((⟨3, n, f, Ts.e, Ts.e, 0⟩ : Ts).step c).fin, .string ((⟨3, n, f, Ts.e, Ts.e, 0⟩ : Ts).step c).attr, .string ((⟨3, n, f, Ts.e, Ts.e, 0⟩ : Ts).step c).held, .int .i64 ((⟨3, n, f, Ts.e, Ts.e, 0⟩ : Ts).step c).read]) ∧ Below w.heap.size w w' := by
 have hcn := fun u => Rs.clean_3 n f u rfl
 have hG := fun u => Rs.names_3 n f c u hn
 generalize (⟨3, n, f, Ts.e, Ts.e, 0⟩ : Ts).step c = N at *
 go_enter Tryz.func87, Tryz.ntmps87
 go_wp2_with (first | (go_at_call 119; refine (hcn _).mono ?_; rintro e w' ⟨rfl, rfl⟩) | (go_at_call 121; refine (hG _).mono ?_; rintro e w1 ⟨rfl, hb1⟩; obtain ⟨d0, d1, d2, d3, d4, d5⟩ := Tp.z6 hb1 (b := w.heap.size + 1) (by simp [go_sem]); have fz := Tp.keepF hb1 (b := w.heap.size + 1) (by first | (simp; done) | (simp; omega)) (fun i => by simp [go_sem]); have HB1 : Hid (Below w.heap.size w w1) := Lib.hid (Rs.mid hb1 (by repeat' first | refine Below.setCell ?_ (by first | (simp; done) | (simp; omega) | omega) _ | refine Below.alloc ?_ (by first | (simp; done) | (simp; omega) | omega) _ | exact Below.refl _ _)); clear hb1 hG))
 refine bodyPost_ret (v := Ts.v N) (by simp [results, Tryz.results87, go_sem, Ts.v, *]) rfl ⟨rfl, ?_⟩
 repeat (refine Below.setCell ?_ (by first | (simp; done) | (simp; omega) | omega) _)
 exact HB1.out
set_option maxRecDepth 100000 in
set_option maxHeartbeats 4000000 in
theorem Rs.step_4 (n : ByteArray) (f : Bool) (c : UInt8) (w : World) : Calls Tryz.prog 87 #[.agg #[.int .i64 4, .string n, .bool f, .string ⟨#[]⟩, .string ⟨#[]⟩, .int .i64 0], .int .u8 c.toNat] w fun e w' => e = .returned (.agg #[.int .i64 ((⟨4, n, f, Ts.e, Ts.e, 0⟩ : Ts).step c).pl, .string ((⟨4, n, f, Ts.e, Ts.e, 0⟩ : Ts).step c).name, .bool ((⟨4, n, f, Ts.e, Ts.e, 0⟩ : Ts).step c).fin, .string ((⟨4, n, f, Ts.e, Ts.e, 0⟩ : Ts).step c).attr, .string ((⟨4, n, f, Ts.e, Ts.e, 0⟩ : Ts).step c).held, .int .i64 ((⟨4, n, f, Ts.e, Ts.e, 0⟩ : Ts).step c).read]) ∧ Below w.heap.size w w' := by
 have hcn := fun u => Rs.clean_4 n f u rfl
 have hG := fun u => Rs.names_4 n f c u
 generalize (⟨4, n, f, Ts.e, Ts.e, 0⟩ : Ts).step c = N at *
 go_enter Tryz.func87, Tryz.ntmps87
 go_wp2_with (first | (go_at_call 119; refine (hcn _).mono ?_; rintro e w' ⟨rfl, rfl⟩) | (go_at_call 121; refine (hG _).mono ?_; rintro e w1 ⟨rfl, hb1⟩; obtain ⟨d0, d1, d2, d3, d4, d5⟩ := Tp.z6 hb1 (b := w.heap.size + 1) (by simp [go_sem]); have fz := Tp.keepF hb1 (b := w.heap.size + 1) (by first | (simp; done) | (simp; omega)) (fun i => by simp [go_sem]); have HB1 : Hid (Below w.heap.size w w1) := Lib.hid (Rs.mid hb1 (by repeat' first | refine Below.setCell ?_ (by first | (simp; done) | (simp; omega) | omega) _ | refine Below.alloc ?_ (by first | (simp; done) | (simp; omega) | omega) _ | exact Below.refl _ _)); clear hb1 hG))
 refine bodyPost_ret (v := Ts.v N) (by simp [results, Tryz.results87, go_sem, Ts.v, *]) rfl ⟨rfl, ?_⟩
 repeat (refine Below.setCell ?_ (by first | (simp; done) | (simp; omega) | omega) _)
 exact HB1.out
set_option maxRecDepth 100000 in
set_option maxHeartbeats 4000000 in
theorem Rs.step_5 (n : ByteArray) (f : Bool) (a : ByteArray) (c : UInt8) (w : World) (ha : a.size ≤ 32) : Calls Tryz.prog 87 #[.agg #[.int .i64 5, .string n, .bool f, .string a, .string ⟨#[]⟩, .int .i64 0], .int .u8 c.toNat] w fun e w' => e = .returned (.agg #[.int .i64 ((⟨5, n, f, a, Ts.e, 0⟩ : Ts).step c).pl, .string ((⟨5, n, f, a, Ts.e, 0⟩ : Ts).step c).name, .bool ((⟨5, n, f, a, Ts.e, 0⟩ : Ts).step c).fin, .string ((⟨5, n, f, a, Ts.e, 0⟩ : Ts).step c).attr, .string ((⟨5, n, f, a, Ts.e, 0⟩ : Ts).step c).held, .int .i64 ((⟨5, n, f, a, Ts.e, 0⟩ : Ts).step c).read]) ∧ Below w.heap.size w w' := by
 have hcn := fun u => Rs.clean_5 n f a u rfl
 have hG := fun u => Rs.names_5 n f a c u ha
 generalize (⟨5, n, f, a, Ts.e, 0⟩ : Ts).step c = N at *
 go_enter Tryz.func87, Tryz.ntmps87
 go_wp2_with (first | (go_at_call 119; refine (hcn _).mono ?_; rintro e w' ⟨rfl, rfl⟩) | (go_at_call 121; refine (hG _).mono ?_; rintro e w1 ⟨rfl, hb1⟩; obtain ⟨d0, d1, d2, d3, d4, d5⟩ := Tp.z6 hb1 (b := w.heap.size + 1) (by simp [go_sem]); have fz := Tp.keepF hb1 (b := w.heap.size + 1) (by first | (simp; done) | (simp; omega)) (fun i => by simp [go_sem]); have HB1 : Hid (Below w.heap.size w w1) := Lib.hid (Rs.mid hb1 (by repeat' first | refine Below.setCell ?_ (by first | (simp; done) | (simp; omega) | omega) _ | refine Below.alloc ?_ (by first | (simp; done) | (simp; omega) | omega) _ | exact Below.refl _ _)); clear hb1 hG))
 refine bodyPost_ret (v := Ts.v N) (by simp [results, Tryz.results87, go_sem, Ts.v, *]) rfl ⟨rfl, ?_⟩
 repeat (refine Below.setCell ?_ (by first | (simp; done) | (simp; omega) | omega) _)
 exact HB1.out
set_option maxRecDepth 100000 in
set_option maxHeartbeats 4000000 in
theorem Rs.step_6 (n : ByteArray) (f : Bool) (a : ByteArray) (c : UInt8) (w : World) : Calls Tryz.prog 87 #[.agg #[.int .i64 6, .string n, .bool f, .string a, .string ⟨#[]⟩, .int .i64 0], .int .u8 c.toNat] w fun e w' => e = .returned (.agg #[.int .i64 ((⟨6, n, f, a, Ts.e, 0⟩ : Ts).step c).pl, .string ((⟨6, n, f, a, Ts.e, 0⟩ : Ts).step c).name, .bool ((⟨6, n, f, a, Ts.e, 0⟩ : Ts).step c).fin, .string ((⟨6, n, f, a, Ts.e, 0⟩ : Ts).step c).attr, .string ((⟨6, n, f, a, Ts.e, 0⟩ : Ts).step c).held, .int .i64 ((⟨6, n, f, a, Ts.e, 0⟩ : Ts).step c).read]) ∧ Below w.heap.size w w' := by
 have hcn := fun u => Rs.clean_6 n f a u rfl
 have hG := fun u => Rs.names_6 n f a c u
 generalize (⟨6, n, f, a, Ts.e, 0⟩ : Ts).step c = N at *
 go_enter Tryz.func87, Tryz.ntmps87
 go_wp2_with (first | (go_at_call 119; refine (hcn _).mono ?_; rintro e w' ⟨rfl, rfl⟩) | (go_at_call 121; refine (hG _).mono ?_; rintro e w1 ⟨rfl, hb1⟩; obtain ⟨d0, d1, d2, d3, d4, d5⟩ := Tp.z6 hb1 (b := w.heap.size + 1) (by simp [go_sem]); have fz := Tp.keepF hb1 (b := w.heap.size + 1) (by first | (simp; done) | (simp; omega)) (fun i => by simp [go_sem]); have HB1 : Hid (Below w.heap.size w w1) := Lib.hid (Rs.mid hb1 (by repeat' first | refine Below.setCell ?_ (by first | (simp; done) | (simp; omega) | omega) _ | refine Below.alloc ?_ (by first | (simp; done) | (simp; omega) | omega) _ | exact Below.refl _ _)); clear hb1 hG))
 refine bodyPost_ret (v := Ts.v N) (by simp [results, Tryz.results87, go_sem, Ts.v, *]) rfl ⟨rfl, ?_⟩
 repeat (refine Below.setCell ?_ (by first | (simp; done) | (simp; omega) | omega) _)
 exact HB1.out
set_option maxRecDepth 100000 in
set_option maxHeartbeats 4000000 in
theorem Rs.step_7 (n : ByteArray) (f : Bool) (a : ByteArray) (c : UInt8) (w : World) : Calls Tryz.prog 87 #[.agg #[.int .i64 7, .string n, .bool f, .string a, .string ⟨#[]⟩, .int .i64 0], .int .u8 c.toNat] w fun e w' => e = .returned (.agg #[.int .i64 ((⟨7, n, f, a, Ts.e, 0⟩ : Ts).step c).pl, .string ((⟨7, n, f, a, Ts.e, 0⟩ : Ts).step c).name, .bool ((⟨7, n, f, a, Ts.e, 0⟩ : Ts).step c).fin, .string ((⟨7, n, f, a, Ts.e, 0⟩ : Ts).step c).attr, .string ((⟨7, n, f, a, Ts.e, 0⟩ : Ts).step c).held, .int .i64 ((⟨7, n, f, a, Ts.e, 0⟩ : Ts).step c).read]) ∧ Below w.heap.size w w' := by
 have hcn := fun u => Rs.clean_7 n f a u rfl
 have hG := fun u => Rs.values_7 n f a c u
 generalize (⟨7, n, f, a, Ts.e, 0⟩ : Ts).step c = N at *
 go_enter Tryz.func87, Tryz.ntmps87
 go_wp2_with (first | (go_at_call 119; refine (hcn _).mono ?_; rintro e w' ⟨rfl, rfl⟩) | (go_at_call 122; refine (hG _).mono ?_; rintro e w1 ⟨rfl, hb1⟩; obtain ⟨d0, d1, d2, d3, d4, d5⟩ := Tp.z6 hb1 (b := w.heap.size + 1) (by simp [go_sem]); have fz := Tp.keepF hb1 (b := w.heap.size + 1) (by first | (simp; done) | (simp; omega)) (fun i => by simp [go_sem]); have HB1 : Hid (Below w.heap.size w w1) := Lib.hid (Rs.mid hb1 (by repeat' first | refine Below.setCell ?_ (by first | (simp; done) | (simp; omega) | omega) _ | refine Below.alloc ?_ (by first | (simp; done) | (simp; omega) | omega) _ | exact Below.refl _ _)); clear hb1 hG))
 refine bodyPost_ret (v := Ts.v N) (by simp [results, Tryz.results87, go_sem, Ts.v, *]) rfl ⟨rfl, ?_⟩
 repeat (refine Below.setCell ?_ (by first | (simp; done) | (simp; omega) | omega) _)
 exact HB1.out
set_option maxRecDepth 100000 in
set_option maxHeartbeats 4000000 in
theorem Rs.step_8 (n : ByteArray) (f : Bool) (a : ByteArray) (c : UInt8) (w : World) : Calls Tryz.prog 87 #[.agg #[.int .i64 8, .string n, .bool f, .string a, .string ⟨#[]⟩, .int .i64 0], .int .u8 c.toNat] w fun e w' => e = .returned (.agg #[.int .i64 ((⟨8, n, f, a, Ts.e, 0⟩ : Ts).step c).pl, .string ((⟨8, n, f, a, Ts.e, 0⟩ : Ts).step c).name, .bool ((⟨8, n, f, a, Ts.e, 0⟩ : Ts).step c).fin, .string ((⟨8, n, f, a, Ts.e, 0⟩ : Ts).step c).attr, .string ((⟨8, n, f, a, Ts.e, 0⟩ : Ts).step c).held, .int .i64 ((⟨8, n, f, a, Ts.e, 0⟩ : Ts).step c).read]) ∧ Below w.heap.size w w' := by
 have hcn := fun u => Rs.clean_8 n f a u rfl
 have hG := fun u => Rs.values_8 n f a c u
 generalize (⟨8, n, f, a, Ts.e, 0⟩ : Ts).step c = N at *
 go_enter Tryz.func87, Tryz.ntmps87
 go_wp2_with (first | (go_at_call 119; refine (hcn _).mono ?_; rintro e w' ⟨rfl, rfl⟩) | (go_at_call 122; refine (hG _).mono ?_; rintro e w1 ⟨rfl, hb1⟩; obtain ⟨d0, d1, d2, d3, d4, d5⟩ := Tp.z6 hb1 (b := w.heap.size + 1) (by simp [go_sem]); have fz := Tp.keepF hb1 (b := w.heap.size + 1) (by first | (simp; done) | (simp; omega)) (fun i => by simp [go_sem]); have HB1 : Hid (Below w.heap.size w w1) := Lib.hid (Rs.mid hb1 (by repeat' first | refine Below.setCell ?_ (by first | (simp; done) | (simp; omega) | omega) _ | refine Below.alloc ?_ (by first | (simp; done) | (simp; omega) | omega) _ | exact Below.refl _ _)); clear hb1 hG))
 refine bodyPost_ret (v := Ts.v N) (by simp [results, Tryz.results87, go_sem, Ts.v, *]) rfl ⟨rfl, ?_⟩
 repeat (refine Below.setCell ?_ (by first | (simp; done) | (simp; omega) | omega) _)
 exact HB1.out
set_option maxRecDepth 100000 in
set_option maxHeartbeats 4000000 in
theorem Rs.step_9 (n : ByteArray) (f : Bool) (a : ByteArray) (c : UInt8) (w : World) : Calls Tryz.prog 87 #[.agg #[.int .i64 9, .string n, .bool f, .string a, .string ⟨#[]⟩, .int .i64 0], .int .u8 c.toNat] w fun e w' => e = .returned (.agg #[.int .i64 ((⟨9, n, f, a, Ts.e, 0⟩ : Ts).step c).pl, .string ((⟨9, n, f, a, Ts.e, 0⟩ : Ts).step c).name, .bool ((⟨9, n, f, a, Ts.e, 0⟩ : Ts).step c).fin, .string ((⟨9, n, f, a, Ts.e, 0⟩ : Ts).step c).attr, .string ((⟨9, n, f, a, Ts.e, 0⟩ : Ts).step c).held, .int .i64 ((⟨9, n, f, a, Ts.e, 0⟩ : Ts).step c).read]) ∧ Below w.heap.size w w' := by
 have hcn := fun u => Rs.clean_9 n f a u rfl
 have hG := fun u => Rs.values_9 n f a c u
 generalize (⟨9, n, f, a, Ts.e, 0⟩ : Ts).step c = N at *
 go_enter Tryz.func87, Tryz.ntmps87
 go_wp2_with (first | (go_at_call 119; refine (hcn _).mono ?_; rintro e w' ⟨rfl, rfl⟩) | (go_at_call 122; refine (hG _).mono ?_; rintro e w1 ⟨rfl, hb1⟩; obtain ⟨d0, d1, d2, d3, d4, d5⟩ := Tp.z6 hb1 (b := w.heap.size + 1) (by simp [go_sem]); have fz := Tp.keepF hb1 (b := w.heap.size + 1) (by first | (simp; done) | (simp; omega)) (fun i => by simp [go_sem]); have HB1 : Hid (Below w.heap.size w w1) := Lib.hid (Rs.mid hb1 (by repeat' first | refine Below.setCell ?_ (by first | (simp; done) | (simp; omega) | omega) _ | refine Below.alloc ?_ (by first | (simp; done) | (simp; omega) | omega) _ | exact Below.refl _ _)); clear hb1 hG))
 refine bodyPost_ret (v := Ts.v N) (by simp [results, Tryz.results87, go_sem, Ts.v, *]) rfl ⟨rfl, ?_⟩
 repeat (refine Below.setCell ?_ (by first | (simp; done) | (simp; omega) | omega) _)
 exact HB1.out
set_option maxRecDepth 100000 in
set_option maxHeartbeats 4000000 in
theorem Rs.step_10 (n : ByteArray) (f : Bool) (a : ByteArray) (c : UInt8) (w : World) : Calls Tryz.prog 87 #[.agg #[.int .i64 10, .string n, .bool f, .string a, .string ⟨#[]⟩, .int .i64 0], .int .u8 c.toNat] w fun e w' => e = .returned (.agg #[.int .i64 ((⟨10, n, f, a, Ts.e, 0⟩ : Ts).step c).pl, .string ((⟨10, n, f, a, Ts.e, 0⟩ : Ts).step c).name, .bool ((⟨10, n, f, a, Ts.e, 0⟩ : Ts).step c).fin, .string ((⟨10, n, f, a, Ts.e, 0⟩ : Ts).step c).attr, .string ((⟨10, n, f, a, Ts.e, 0⟩ : Ts).step c).held, .int .i64 ((⟨10, n, f, a, Ts.e, 0⟩ : Ts).step c).read]) ∧ Below w.heap.size w w' := by
 have hcn := fun u => Rs.clean_10 n f a u rfl
 have hG := fun u => Rs.values_10 n f a c u
 generalize (⟨10, n, f, a, Ts.e, 0⟩ : Ts).step c = N at *
 go_enter Tryz.func87, Tryz.ntmps87
 go_wp2_with (first | (go_at_call 119; refine (hcn _).mono ?_; rintro e w' ⟨rfl, rfl⟩) | (go_at_call 122; refine (hG _).mono ?_; rintro e w1 ⟨rfl, hb1⟩; obtain ⟨d0, d1, d2, d3, d4, d5⟩ := Tp.z6 hb1 (b := w.heap.size + 1) (by simp [go_sem]); have fz := Tp.keepF hb1 (b := w.heap.size + 1) (by first | (simp; done) | (simp; omega)) (fun i => by simp [go_sem]); have HB1 : Hid (Below w.heap.size w w1) := Lib.hid (Rs.mid hb1 (by repeat' first | refine Below.setCell ?_ (by first | (simp; done) | (simp; omega) | omega) _ | refine Below.alloc ?_ (by first | (simp; done) | (simp; omega) | omega) _ | exact Below.refl _ _)); clear hb1 hG))
 refine bodyPost_ret (v := Ts.v N) (by simp [results, Tryz.results87, go_sem, Ts.v, *]) rfl ⟨rfl, ?_⟩
 repeat (refine Below.setCell ?_ (by first | (simp; done) | (simp; omega) | omega) _)
 exact HB1.out
set_option maxRecDepth 100000 in
set_option maxHeartbeats 4000000 in
theorem Rs.step_11 (n : ByteArray) (f : Bool) (c : UInt8) (w : World) : Calls Tryz.prog 87 #[.agg #[.int .i64 11, .string n, .bool f, .string ⟨#[]⟩, .string ⟨#[]⟩, .int .i64 0], .int .u8 c.toNat] w fun e w' => e = .returned (.agg #[.int .i64 ((⟨11, n, f, Ts.e, Ts.e, 0⟩ : Ts).step c).pl, .string ((⟨11, n, f, Ts.e, Ts.e, 0⟩ : Ts).step c).name, .bool ((⟨11, n, f, Ts.e, Ts.e, 0⟩ : Ts).step c).fin, .string ((⟨11, n, f, Ts.e, Ts.e, 0⟩ : Ts).step c).attr, .string ((⟨11, n, f, Ts.e, Ts.e, 0⟩ : Ts).step c).held, .int .i64 ((⟨11, n, f, Ts.e, Ts.e, 0⟩ : Ts).step c).read]) ∧ Below w.heap.size w w' := by
 have hcn := fun u => Rs.clean_11 n f u rfl
 have hG := fun u => Rs.names_11 n f c u
 generalize (⟨11, n, f, Ts.e, Ts.e, 0⟩ : Ts).step c = N at *
 go_enter Tryz.func87, Tryz.ntmps87
 go_wp2_with (first | (go_at_call 119; refine (hcn _).mono ?_; rintro e w' ⟨rfl, rfl⟩) | (go_at_call 121; refine (hG _).mono ?_; rintro e w1 ⟨rfl, hb1⟩; obtain ⟨d0, d1, d2, d3, d4, d5⟩ := Tp.z6 hb1 (b := w.heap.size + 1) (by simp [go_sem]); have fz := Tp.keepF hb1 (b := w.heap.size + 1) (by first | (simp; done) | (simp; omega)) (fun i => by simp [go_sem]); have HB1 : Hid (Below w.heap.size w w1) := Lib.hid (Rs.mid hb1 (by repeat' first | refine Below.setCell ?_ (by first | (simp; done) | (simp; omega) | omega) _ | refine Below.alloc ?_ (by first | (simp; done) | (simp; omega) | omega) _ | exact Below.refl _ _)); clear hb1 hG))
 refine bodyPost_ret (v := Ts.v N) (by simp [results, Tryz.results87, go_sem, Ts.v, *]) rfl ⟨rfl, ?_⟩
 repeat (refine Below.setCell ?_ (by first | (simp; done) | (simp; omega) | omega) _)
 exact HB1.out
set_option maxRecDepth 100000 in
set_option maxHeartbeats 4000000 in
theorem Rs.step_12 (n : ByteArray) (f : Bool) (c : UInt8) (w : World) : Calls Tryz.prog 87 #[.agg #[.int .i64 12, .string n, .bool f, .string ⟨#[]⟩, .string ⟨#[]⟩, .int .i64 0], .int .u8 c.toNat] w fun e w' => e = .returned (.agg #[.int .i64 ((⟨12, n, f, Ts.e, Ts.e, 0⟩ : Ts).step c).pl, .string ((⟨12, n, f, Ts.e, Ts.e, 0⟩ : Ts).step c).name, .bool ((⟨12, n, f, Ts.e, Ts.e, 0⟩ : Ts).step c).fin, .string ((⟨12, n, f, Ts.e, Ts.e, 0⟩ : Ts).step c).attr, .string ((⟨12, n, f, Ts.e, Ts.e, 0⟩ : Ts).step c).held, .int .i64 ((⟨12, n, f, Ts.e, Ts.e, 0⟩ : Ts).step c).read]) ∧ Below w.heap.size w w' := by
 have hcn := fun u => Rs.clean_12 n f u rfl
 have hG := fun u => Rs.names_12 n f c u
 generalize (⟨12, n, f, Ts.e, Ts.e, 0⟩ : Ts).step c = N at *
 go_enter Tryz.func87, Tryz.ntmps87
 go_wp2_with (first | (go_at_call 119; refine (hcn _).mono ?_; rintro e w' ⟨rfl, rfl⟩) | (go_at_call 121; refine (hG _).mono ?_; rintro e w1 ⟨rfl, hb1⟩; obtain ⟨d0, d1, d2, d3, d4, d5⟩ := Tp.z6 hb1 (b := w.heap.size + 1) (by simp [go_sem]); have fz := Tp.keepF hb1 (b := w.heap.size + 1) (by first | (simp; done) | (simp; omega)) (fun i => by simp [go_sem]); have HB1 : Hid (Below w.heap.size w w1) := Lib.hid (Rs.mid hb1 (by repeat' first | refine Below.setCell ?_ (by first | (simp; done) | (simp; omega) | omega) _ | refine Below.alloc ?_ (by first | (simp; done) | (simp; omega) | omega) _ | exact Below.refl _ _)); clear hb1 hG))
 refine bodyPost_ret (v := Ts.v N) (by simp [results, Tryz.results87, go_sem, Ts.v, *]) rfl ⟨rfl, ?_⟩
 repeat (refine Below.setCell ?_ (by first | (simp; done) | (simp; omega) | omega) _)
 exact HB1.out
set_option maxRecDepth 100000 in
set_option maxHeartbeats 4000000 in
theorem Rs.step_13 (c : UInt8) (w : World) : Calls Tryz.prog 87 #[.agg #[.int .i64 13, .string ⟨#[]⟩, .bool false, .string ⟨#[]⟩, .string ⟨#[]⟩, .int .i64 0], .int .u8 c.toNat] w fun e w' => e = .returned (.agg #[.int .i64 ((⟨13, Ts.e, false, Ts.e, Ts.e, 0⟩ : Ts).step c).pl, .string ((⟨13, Ts.e, false, Ts.e, Ts.e, 0⟩ : Ts).step c).name, .bool ((⟨13, Ts.e, false, Ts.e, Ts.e, 0⟩ : Ts).step c).fin, .string ((⟨13, Ts.e, false, Ts.e, Ts.e, 0⟩ : Ts).step c).attr, .string ((⟨13, Ts.e, false, Ts.e, Ts.e, 0⟩ : Ts).step c).held, .int .i64 ((⟨13, Ts.e, false, Ts.e, Ts.e, 0⟩ : Ts).step c).read]) ∧ Below w.heap.size w w' := by
 have hcn := fun u => Rs.clean_13 u
 have hG := fun u => Rs.comments_13 c u
 generalize (⟨13, Ts.e, false, Ts.e, Ts.e, 0⟩ : Ts).step c = N at *
 go_enter Tryz.func87, Tryz.ntmps87
 go_wp2_with (first | (go_at_call 119; refine (hcn _).mono ?_; rintro e w' ⟨rfl, rfl⟩) | (go_at_call 123; refine (hG _).mono ?_; rintro e w1 ⟨rfl, hb1⟩; obtain ⟨d0, d1, d2, d3, d4, d5⟩ := Tp.z6 hb1 (b := w.heap.size + 1) (by simp [go_sem]); have fz := Tp.keepF hb1 (b := w.heap.size + 1) (by first | (simp; done) | (simp; omega)) (fun i => by simp [go_sem]); have HB1 : Hid (Below w.heap.size w w1) := Lib.hid (Rs.mid hb1 (by repeat' first | refine Below.setCell ?_ (by first | (simp; done) | (simp; omega) | omega) _ | refine Below.alloc ?_ (by first | (simp; done) | (simp; omega) | omega) _ | exact Below.refl _ _)); clear hb1 hG))
 refine bodyPost_ret (v := Ts.v N) (by simp [results, Tryz.results87, go_sem, Ts.v, *]) rfl ⟨rfl, ?_⟩
 repeat (refine Below.setCell ?_ (by first | (simp; done) | (simp; omega) | omega) _)
 exact HB1.out
set_option maxRecDepth 100000 in
set_option maxHeartbeats 4000000 in
theorem Rs.step_14 (c : UInt8) (w : World) : Calls Tryz.prog 87 #[.agg #[.int .i64 14, .string ⟨#[]⟩, .bool false, .string ⟨#[]⟩, .string ⟨#[]⟩, .int .i64 0], .int .u8 c.toNat] w fun e w' => e = .returned (.agg #[.int .i64 ((⟨14, Ts.e, false, Ts.e, Ts.e, 0⟩ : Ts).step c).pl, .string ((⟨14, Ts.e, false, Ts.e, Ts.e, 0⟩ : Ts).step c).name, .bool ((⟨14, Ts.e, false, Ts.e, Ts.e, 0⟩ : Ts).step c).fin, .string ((⟨14, Ts.e, false, Ts.e, Ts.e, 0⟩ : Ts).step c).attr, .string ((⟨14, Ts.e, false, Ts.e, Ts.e, 0⟩ : Ts).step c).held, .int .i64 ((⟨14, Ts.e, false, Ts.e, Ts.e, 0⟩ : Ts).step c).read]) ∧ Below w.heap.size w w' := by
 have hcn := fun u => Rs.clean_14 u
 have hG := fun u => Rs.comments_14 c u
 generalize (⟨14, Ts.e, false, Ts.e, Ts.e, 0⟩ : Ts).step c = N at *
 go_enter Tryz.func87, Tryz.ntmps87
 go_wp2_with (first | (go_at_call 119; refine (hcn _).mono ?_; rintro e w' ⟨rfl, rfl⟩) | (go_at_call 123; refine (hG _).mono ?_; rintro e w1 ⟨rfl, hb1⟩; obtain ⟨d0, d1, d2, d3, d4, d5⟩ := Tp.z6 hb1 (b := w.heap.size + 1) (by simp [go_sem]); have fz := Tp.keepF hb1 (b := w.heap.size + 1) (by first | (simp; done) | (simp; omega)) (fun i => by simp [go_sem]); have HB1 : Hid (Below w.heap.size w w1) := Lib.hid (Rs.mid hb1 (by repeat' first | refine Below.setCell ?_ (by first | (simp; done) | (simp; omega) | omega) _ | refine Below.alloc ?_ (by first | (simp; done) | (simp; omega) | omega) _ | exact Below.refl _ _)); clear hb1 hG))
 refine bodyPost_ret (v := Ts.v N) (by simp [results, Tryz.results87, go_sem, Ts.v, *]) rfl ⟨rfl, ?_⟩
 repeat (refine Below.setCell ?_ (by first | (simp; done) | (simp; omega) | omega) _)
 exact HB1.out
set_option maxRecDepth 100000 in
set_option maxHeartbeats 4000000 in
theorem Rs.step_15 (c : UInt8) (w : World) : Calls Tryz.prog 87 #[.agg #[.int .i64 15, .string ⟨#[]⟩, .bool false, .string ⟨#[]⟩, .string ⟨#[]⟩, .int .i64 0], .int .u8 c.toNat] w fun e w' => e = .returned (.agg #[.int .i64 ((⟨15, Ts.e, false, Ts.e, Ts.e, 0⟩ : Ts).step c).pl, .string ((⟨15, Ts.e, false, Ts.e, Ts.e, 0⟩ : Ts).step c).name, .bool ((⟨15, Ts.e, false, Ts.e, Ts.e, 0⟩ : Ts).step c).fin, .string ((⟨15, Ts.e, false, Ts.e, Ts.e, 0⟩ : Ts).step c).attr, .string ((⟨15, Ts.e, false, Ts.e, Ts.e, 0⟩ : Ts).step c).held, .int .i64 ((⟨15, Ts.e, false, Ts.e, Ts.e, 0⟩ : Ts).step c).read]) ∧ Below w.heap.size w w' := by
 have hcn := fun u => Rs.clean_15 u
 have hG := fun u => Rs.comments_15 c u
 generalize (⟨15, Ts.e, false, Ts.e, Ts.e, 0⟩ : Ts).step c = N at *
 go_enter Tryz.func87, Tryz.ntmps87
 go_wp2_with (first | (go_at_call 119; refine (hcn _).mono ?_; rintro e w' ⟨rfl, rfl⟩) | (go_at_call 123; refine (hG _).mono ?_; rintro e w1 ⟨rfl, hb1⟩; obtain ⟨d0, d1, d2, d3, d4, d5⟩ := Tp.z6 hb1 (b := w.heap.size + 1) (by simp [go_sem]); have fz := Tp.keepF hb1 (b := w.heap.size + 1) (by first | (simp; done) | (simp; omega)) (fun i => by simp [go_sem]); have HB1 : Hid (Below w.heap.size w w1) := Lib.hid (Rs.mid hb1 (by repeat' first | refine Below.setCell ?_ (by first | (simp; done) | (simp; omega) | omega) _ | refine Below.alloc ?_ (by first | (simp; done) | (simp; omega) | omega) _ | exact Below.refl _ _)); clear hb1 hG))
 refine bodyPost_ret (v := Ts.v N) (by simp [results, Tryz.results87, go_sem, Ts.v, *]) rfl ⟨rfl, ?_⟩
 repeat (refine Below.setCell ?_ (by first | (simp; done) | (simp; omega) | omega) _)
 exact HB1.out
set_option maxRecDepth 100000 in
set_option maxHeartbeats 4000000 in
theorem Rs.step_16 (c : UInt8) (w : World) : Calls Tryz.prog 87 #[.agg #[.int .i64 16, .string ⟨#[]⟩, .bool false, .string ⟨#[]⟩, .string ⟨#[]⟩, .int .i64 0], .int .u8 c.toNat] w fun e w' => e = .returned (.agg #[.int .i64 ((⟨16, Ts.e, false, Ts.e, Ts.e, 0⟩ : Ts).step c).pl, .string ((⟨16, Ts.e, false, Ts.e, Ts.e, 0⟩ : Ts).step c).name, .bool ((⟨16, Ts.e, false, Ts.e, Ts.e, 0⟩ : Ts).step c).fin, .string ((⟨16, Ts.e, false, Ts.e, Ts.e, 0⟩ : Ts).step c).attr, .string ((⟨16, Ts.e, false, Ts.e, Ts.e, 0⟩ : Ts).step c).held, .int .i64 ((⟨16, Ts.e, false, Ts.e, Ts.e, 0⟩ : Ts).step c).read]) ∧ Below w.heap.size w w' := by
 have hcn := fun u => Rs.clean_16 u
 have hG := fun u => Rs.comments_16 c u
 generalize (⟨16, Ts.e, false, Ts.e, Ts.e, 0⟩ : Ts).step c = N at *
 go_enter Tryz.func87, Tryz.ntmps87
 go_wp2_with (first | (go_at_call 119; refine (hcn _).mono ?_; rintro e w' ⟨rfl, rfl⟩) | (go_at_call 123; refine (hG _).mono ?_; rintro e w1 ⟨rfl, hb1⟩; obtain ⟨d0, d1, d2, d3, d4, d5⟩ := Tp.z6 hb1 (b := w.heap.size + 1) (by simp [go_sem]); have fz := Tp.keepF hb1 (b := w.heap.size + 1) (by first | (simp; done) | (simp; omega)) (fun i => by simp [go_sem]); have HB1 : Hid (Below w.heap.size w w1) := Lib.hid (Rs.mid hb1 (by repeat' first | refine Below.setCell ?_ (by first | (simp; done) | (simp; omega) | omega) _ | refine Below.alloc ?_ (by first | (simp; done) | (simp; omega) | omega) _ | exact Below.refl _ _)); clear hb1 hG))
 refine bodyPost_ret (v := Ts.v N) (by simp [results, Tryz.results87, go_sem, Ts.v, *]) rfl ⟨rfl, ?_⟩
 repeat (refine Below.setCell ?_ (by first | (simp; done) | (simp; omega) | omega) _)
 exact HB1.out
set_option maxRecDepth 100000 in
set_option maxHeartbeats 4000000 in
theorem Rs.step_17 (c : UInt8) (w : World) : Calls Tryz.prog 87 #[.agg #[.int .i64 17, .string ⟨#[]⟩, .bool false, .string ⟨#[]⟩, .string ⟨#[]⟩, .int .i64 0], .int .u8 c.toNat] w fun e w' => e = .returned (.agg #[.int .i64 ((⟨17, Ts.e, false, Ts.e, Ts.e, 0⟩ : Ts).step c).pl, .string ((⟨17, Ts.e, false, Ts.e, Ts.e, 0⟩ : Ts).step c).name, .bool ((⟨17, Ts.e, false, Ts.e, Ts.e, 0⟩ : Ts).step c).fin, .string ((⟨17, Ts.e, false, Ts.e, Ts.e, 0⟩ : Ts).step c).attr, .string ((⟨17, Ts.e, false, Ts.e, Ts.e, 0⟩ : Ts).step c).held, .int .i64 ((⟨17, Ts.e, false, Ts.e, Ts.e, 0⟩ : Ts).step c).read]) ∧ Below w.heap.size w w' := by
 have hcn := fun u => Rs.clean_17 u
 have hG := fun u => Rs.comments_17 c u
 generalize (⟨17, Ts.e, false, Ts.e, Ts.e, 0⟩ : Ts).step c = N at *
 go_enter Tryz.func87, Tryz.ntmps87
 go_wp2_with (first | (go_at_call 119; refine (hcn _).mono ?_; rintro e w' ⟨rfl, rfl⟩) | (go_at_call 123; refine (hG _).mono ?_; rintro e w1 ⟨rfl, hb1⟩; obtain ⟨d0, d1, d2, d3, d4, d5⟩ := Tp.z6 hb1 (b := w.heap.size + 1) (by simp [go_sem]); have fz := Tp.keepF hb1 (b := w.heap.size + 1) (by first | (simp; done) | (simp; omega)) (fun i => by simp [go_sem]); have HB1 : Hid (Below w.heap.size w w1) := Lib.hid (Rs.mid hb1 (by repeat' first | refine Below.setCell ?_ (by first | (simp; done) | (simp; omega) | omega) _ | refine Below.alloc ?_ (by first | (simp; done) | (simp; omega) | omega) _ | exact Below.refl _ _)); clear hb1 hG))
 refine bodyPost_ret (v := Ts.v N) (by simp [results, Tryz.results87, go_sem, Ts.v, *]) rfl ⟨rfl, ?_⟩
 repeat (refine Below.setCell ?_ (by first | (simp; done) | (simp; omega) | omega) _)
 exact HB1.out
set_option maxRecDepth 100000 in
set_option maxHeartbeats 4000000 in
theorem Rs.step_18 (c : UInt8) (w : World) : Calls Tryz.prog 87 #[.agg #[.int .i64 18, .string ⟨#[]⟩, .bool false, .string ⟨#[]⟩, .string ⟨#[]⟩, .int .i64 0], .int .u8 c.toNat] w fun e w' => e = .returned (.agg #[.int .i64 ((⟨18, Ts.e, false, Ts.e, Ts.e, 0⟩ : Ts).step c).pl, .string ((⟨18, Ts.e, false, Ts.e, Ts.e, 0⟩ : Ts).step c).name, .bool ((⟨18, Ts.e, false, Ts.e, Ts.e, 0⟩ : Ts).step c).fin, .string ((⟨18, Ts.e, false, Ts.e, Ts.e, 0⟩ : Ts).step c).attr, .string ((⟨18, Ts.e, false, Ts.e, Ts.e, 0⟩ : Ts).step c).held, .int .i64 ((⟨18, Ts.e, false, Ts.e, Ts.e, 0⟩ : Ts).step c).read]) ∧ Below w.heap.size w w' := by
 have hcn := fun u => Rs.clean_18 u
 have hG := fun u => Rs.comments_18 c u
 generalize (⟨18, Ts.e, false, Ts.e, Ts.e, 0⟩ : Ts).step c = N at *
 go_enter Tryz.func87, Tryz.ntmps87
 go_wp2_with (first | (go_at_call 119; refine (hcn _).mono ?_; rintro e w' ⟨rfl, rfl⟩) | (go_at_call 123; refine (hG _).mono ?_; rintro e w1 ⟨rfl, hb1⟩; obtain ⟨d0, d1, d2, d3, d4, d5⟩ := Tp.z6 hb1 (b := w.heap.size + 1) (by simp [go_sem]); have fz := Tp.keepF hb1 (b := w.heap.size + 1) (by first | (simp; done) | (simp; omega)) (fun i => by simp [go_sem]); have HB1 : Hid (Below w.heap.size w w1) := Lib.hid (Rs.mid hb1 (by repeat' first | refine Below.setCell ?_ (by first | (simp; done) | (simp; omega) | omega) _ | refine Below.alloc ?_ (by first | (simp; done) | (simp; omega) | omega) _ | exact Below.refl _ _)); clear hb1 hG))
 refine bodyPost_ret (v := Ts.v N) (by simp [results, Tryz.results87, go_sem, Ts.v, *]) rfl ⟨rfl, ?_⟩
 repeat (refine Below.setCell ?_ (by first | (simp; done) | (simp; omega) | omega) _)
 exact HB1.out
set_option maxRecDepth 100000 in
set_option maxHeartbeats 4000000 in
theorem Rs.step_19 (h : ByteArray) (c : UInt8) (w : World) : Calls Tryz.prog 87 #[.agg #[.int .i64 19, .string ⟨#[]⟩, .bool false, .string ⟨#[]⟩, .string h, .int .i64 0], .int .u8 c.toNat] w fun e w' => e = .returned (.agg #[.int .i64 ((⟨19, Ts.e, false, Ts.e, h, 0⟩ : Ts).step c).pl, .string ((⟨19, Ts.e, false, Ts.e, h, 0⟩ : Ts).step c).name, .bool ((⟨19, Ts.e, false, Ts.e, h, 0⟩ : Ts).step c).fin, .string ((⟨19, Ts.e, false, Ts.e, h, 0⟩ : Ts).step c).attr, .string ((⟨19, Ts.e, false, Ts.e, h, 0⟩ : Ts).step c).held, .int .i64 ((⟨19, Ts.e, false, Ts.e, h, 0⟩ : Ts).step c).read]) ∧ Below w.heap.size w w' := by
 have hcn := fun u => Rs.clean_19 h u
 have hG := fun u => Rs.held_19 h c u
 generalize (⟨19, Ts.e, false, Ts.e, h, 0⟩ : Ts).step c = N at *
 go_enter Tryz.func87, Tryz.ntmps87
 go_wp2_with (first | (go_at_call 119; refine (hcn _).mono ?_; rintro e w' ⟨rfl, rfl⟩) | (go_at_call 124; refine (hG _).mono ?_; rintro e w1 ⟨rfl, hb1⟩; obtain ⟨d0, d1, d2, d3, d4, d5⟩ := Tp.z6 hb1 (b := w.heap.size + 1) (by simp [go_sem]); have fz := Tp.keepF hb1 (b := w.heap.size + 1) (by first | (simp; done) | (simp; omega)) (fun i => by simp [go_sem]); have HB1 : Hid (Below w.heap.size w w1) := Lib.hid (Rs.mid hb1 (by repeat' first | refine Below.setCell ?_ (by first | (simp; done) | (simp; omega) | omega) _ | refine Below.alloc ?_ (by first | (simp; done) | (simp; omega) | omega) _ | exact Below.refl _ _)); clear hb1 hG))
 refine bodyPost_ret (v := Ts.v N) (by simp [results, Tryz.results87, go_sem, Ts.v, *]) rfl ⟨rfl, ?_⟩
 repeat (refine Below.setCell ?_ (by first | (simp; done) | (simp; omega) | omega) _)
 exact HB1.out
set_option maxRecDepth 100000 in
set_option maxHeartbeats 4000000 in
theorem Rs.step_20 (h : ByteArray) (c : UInt8) (w : World) : Calls Tryz.prog 87 #[.agg #[.int .i64 20, .string ⟨#[]⟩, .bool false, .string ⟨#[]⟩, .string h, .int .i64 0], .int .u8 c.toNat] w fun e w' => e = .returned (.agg #[.int .i64 ((⟨20, Ts.e, false, Ts.e, h, 0⟩ : Ts).step c).pl, .string ((⟨20, Ts.e, false, Ts.e, h, 0⟩ : Ts).step c).name, .bool ((⟨20, Ts.e, false, Ts.e, h, 0⟩ : Ts).step c).fin, .string ((⟨20, Ts.e, false, Ts.e, h, 0⟩ : Ts).step c).attr, .string ((⟨20, Ts.e, false, Ts.e, h, 0⟩ : Ts).step c).held, .int .i64 ((⟨20, Ts.e, false, Ts.e, h, 0⟩ : Ts).step c).read]) ∧ Below w.heap.size w w' := by
 have hcn := fun u => Rs.clean_20 h u
 have hG := fun u => Rs.held_20 h c u
 generalize (⟨20, Ts.e, false, Ts.e, h, 0⟩ : Ts).step c = N at *
 go_enter Tryz.func87, Tryz.ntmps87
 go_wp2_with (first | (go_at_call 119; refine (hcn _).mono ?_; rintro e w' ⟨rfl, rfl⟩) | (go_at_call 124; refine (hG _).mono ?_; rintro e w1 ⟨rfl, hb1⟩; obtain ⟨d0, d1, d2, d3, d4, d5⟩ := Tp.z6 hb1 (b := w.heap.size + 1) (by simp [go_sem]); have fz := Tp.keepF hb1 (b := w.heap.size + 1) (by first | (simp; done) | (simp; omega)) (fun i => by simp [go_sem]); have HB1 : Hid (Below w.heap.size w w1) := Lib.hid (Rs.mid hb1 (by repeat' first | refine Below.setCell ?_ (by first | (simp; done) | (simp; omega) | omega) _ | refine Below.alloc ?_ (by first | (simp; done) | (simp; omega) | omega) _ | exact Below.refl _ _)); clear hb1 hG))
 refine bodyPost_ret (v := Ts.v N) (by simp [results, Tryz.results87, go_sem, Ts.v, *]) rfl ⟨rfl, ?_⟩
 repeat (refine Below.setCell ?_ (by first | (simp; done) | (simp; omega) | omega) _)
 exact HB1.out
set_option maxRecDepth 100000 in
set_option maxHeartbeats 4000000 in
theorem Rs.step_21 (h : ByteArray) (c : UInt8) (w : World) (h0 : 0 < h.size) (hh : ∀ x ∈ h.data.toList, x ≠ 60) : Calls Tryz.prog 87 #[.agg #[.int .i64 21, .string ⟨#[]⟩, .bool false, .string ⟨#[]⟩, .string h, .int .i64 0], .int .u8 c.toNat] w fun e w' => e = .returned (.agg #[.int .i64 ((⟨21, Ts.e, false, Ts.e, h, 0⟩ : Ts).step c).pl, .string ((⟨21, Ts.e, false, Ts.e, h, 0⟩ : Ts).step c).name, .bool ((⟨21, Ts.e, false, Ts.e, h, 0⟩ : Ts).step c).fin, .string ((⟨21, Ts.e, false, Ts.e, h, 0⟩ : Ts).step c).attr, .string ((⟨21, Ts.e, false, Ts.e, h, 0⟩ : Ts).step c).held, .int .i64 ((⟨21, Ts.e, false, Ts.e, h, 0⟩ : Ts).step c).read]) ∧ Below w.heap.size w w' := by
 have hcn := fun u => Rs.clean_21 h u
 have hG := fun u => Rs.held_21 h c u h0 hh
 generalize (⟨21, Ts.e, false, Ts.e, h, 0⟩ : Ts).step c = N at *
 go_enter Tryz.func87, Tryz.ntmps87
 go_wp2_with (first | (go_at_call 119; refine (hcn _).mono ?_; rintro e w' ⟨rfl, rfl⟩) | (go_at_call 124; refine (hG _).mono ?_; rintro e w1 ⟨rfl, hb1⟩; obtain ⟨d0, d1, d2, d3, d4, d5⟩ := Tp.z6 hb1 (b := w.heap.size + 1) (by simp [go_sem]); have fz := Tp.keepF hb1 (b := w.heap.size + 1) (by first | (simp; done) | (simp; omega)) (fun i => by simp [go_sem]); have HB1 : Hid (Below w.heap.size w w1) := Lib.hid (Rs.mid hb1 (by repeat' first | refine Below.setCell ?_ (by first | (simp; done) | (simp; omega) | omega) _ | refine Below.alloc ?_ (by first | (simp; done) | (simp; omega) | omega) _ | exact Below.refl _ _)); clear hb1 hG))
 refine bodyPost_ret (v := Ts.v N) (by simp [results, Tryz.results87, go_sem, Ts.v, *]) rfl ⟨rfl, ?_⟩
 repeat (refine Below.setCell ?_ (by first | (simp; done) | (simp; omega) | omega) _)
 exact HB1.out
set_option maxRecDepth 100000 in
set_option maxHeartbeats 4000000 in
theorem Rs.step_22 (h : ByteArray) (j : Nat) (c : UInt8) (w : World) (hj : j ≤ h.size) (hz : h.size ≤ 9223372036854775807) (hh : ∀ x ∈ h.data.toList, x ≠ 60) : Calls Tryz.prog 87 #[.agg #[.int .i64 22, .string ⟨#[]⟩, .bool false, .string ⟨#[]⟩, .string h, .int .i64 (j : Int)], .int .u8 c.toNat] w fun e w' => e = .returned (.agg #[.int .i64 ((⟨22, Ts.e, false, Ts.e, h, (j : Int)⟩ : Ts).step c).pl, .string ((⟨22, Ts.e, false, Ts.e, h, (j : Int)⟩ : Ts).step c).name, .bool ((⟨22, Ts.e, false, Ts.e, h, (j : Int)⟩ : Ts).step c).fin, .string ((⟨22, Ts.e, false, Ts.e, h, (j : Int)⟩ : Ts).step c).attr, .string ((⟨22, Ts.e, false, Ts.e, h, (j : Int)⟩ : Ts).step c).held, .int .i64 ((⟨22, Ts.e, false, Ts.e, h, (j : Int)⟩ : Ts).step c).read]) ∧ Below w.heap.size w w' := by
 have hcn := fun u => Rs.clean_22 h j u
 have hG := fun u => Rs.held_22 h j c u hj hz hh
 generalize (⟨22, Ts.e, false, Ts.e, h, (j : Int)⟩ : Ts).step c = N at *
 go_enter Tryz.func87, Tryz.ntmps87
 go_wp2_with (first | (go_at_call 119; refine (hcn _).mono ?_; rintro e w' ⟨rfl, rfl⟩) | (go_at_call 124; refine (hG _).mono ?_; rintro e w1 ⟨rfl, hb1⟩; obtain ⟨d0, d1, d2, d3, d4, d5⟩ := Tp.z6 hb1 (b := w.heap.size + 1) (by simp [go_sem]); have fz := Tp.keepF hb1 (b := w.heap.size + 1) (by first | (simp; done) | (simp; omega)) (fun i => by simp [go_sem]); have HB1 : Hid (Below w.heap.size w w1) := Lib.hid (Rs.mid hb1 (by repeat' first | refine Below.setCell ?_ (by first | (simp; done) | (simp; omega) | omega) _ | refine Below.alloc ?_ (by first | (simp; done) | (simp; omega) | omega) _ | exact Below.refl _ _)); clear hb1 hG))
 refine bodyPost_ret (v := Ts.v N) (by simp [results, Tryz.results87, go_sem, Ts.v, *]) rfl ⟨rfl, ?_⟩
 repeat (refine Below.setCell ?_ (by first | (simp; done) | (simp; omega) | omega) _)
 exact HB1.out
end Go.Proofs.YtblpkjlodncpeaaGreatDoor
