/-
  THE WALK of the reference's held.
-/
import Derived.Test.YtblpkjlodncpeaaGreatDoorBTRs2
import Derived.Deep.QuietTactic
import Derived.BigQuiet
namespace Go.Proofs.YtblpkjlodncpeaaGreatDoor
open Go.RowKit
theorem Rs.drewNB {B : Nat} {a w : World} (h : Below B a w) (n : Nat) : Below B a (w.drewN n) := ⟨h.os, h.tape, h.output, h.size, h.block⟩
theorem Rs.low60 (x : UInt8) (h : Pl.lowB x = 60) : x = 60 := by
 unfold Pl.lowB at h
 split at h
 ·
  next q =>
  exfalso
  have h1 := congrArg UInt8.toNat h
  rw [UInt8.toNat_add] at h1
  have h2 : (x.toNat + 32) % 256 = 60 := h1
  omega
 ·
  exact h
theorem Rs.getD (h : ByteArray) (j : Nat) (hj : j < h.size) : h.data.toList.getD j 0 = h[j] := by
 rw [List.getD_eq_getElem?_getD, List.getElem?_eq_getElem (by rw [Array.length_toList]; exact hj)]
 rfl
theorem Rs.heldAt (k : Int) (h : ByteArray) (j : Nat) (hj : j < h.size) (c : UInt8) : Ts.heldAt (⟨k, Ts.e, false, Ts.e, h, (j : Int)⟩ : Ts) c = (Pl.lowB h[j] == Pl.lowB c) := by
 unfold Ts.heldAt
 show (decide ((0 : Int) ≤ (j : Int)) && decide ((j : Int) < (h.size : Int)) && (Pl.lowB (h.data.toList.getD ((j : Int).toNat) 0) == Pl.lowB c)) = _
 rw [Int.toNat_natCast, Rs.getD h j hj, decide_eq_true (by omega), decide_eq_true (by omega)]
 rfl
theorem Rs.heldNot (k : Int) (h : ByteArray) (j : Nat) (hj : h.size ≤ j) (c : UInt8) : Ts.heldAt (⟨k, Ts.e, false, Ts.e, h, (j : Int)⟩ : Ts) c = false := by
 unfold Ts.heldAt
 show (decide ((0 : Int) ≤ (j : Int)) && decide ((j : Int) < (h.size : Int)) && _) = _
 rw [decide_eq_false (p := (j : Int) < (h.size : Int)) (by omega)]
 simp
theorem Rs.lowEq {x c : UInt8} (h : Pl.lowB x = Pl.lowB c) : (((Pl.lowB c).toNat : Int) == ((Pl.lowB x).toNat : Int)) = true := by rw [h]; simp
theorem Rs.lowNe {x c : UInt8} (h : ¬ Pl.lowB x = Pl.lowB c) : (((Pl.lowB c).toNat : Int) == ((Pl.lowB x).toNat : Int)) = false := Tp.eq_false (fun e => h e.symm)
theorem Rs.notNil (K : ByteArray) (h : ¬ K.size = 0) : ¬ K.toList = [] := by
 intro e
 rw [ByteArray.toList_eq] at e
 apply h
 show K.data.size = 0
 rw [← Array.length_toList, e]
 rfl
theorem Rs.notEmpty (K : ByteArray) (h : ¬ K.size = 0) : K.toList.isEmpty = false := by
 cases hh : K.toList with
 | nil => exact absurd hh (Rs.notNil K h)
 | cons a l => rfl
set_option maxRecDepth 100000 in
set_option maxHeartbeats 4000000 in
theorem Rs.held_19 (h : ByteArray) (c : UInt8) (w : World) : Calls Tryz.prog 124 #[.agg #[.int .i64 19, .string ⟨#[]⟩, .bool false, .string ⟨#[]⟩, .string h, .int .i64 0], .int .u8 c.toNat] w fun e w' => e = .returned (.agg #[.int .i64 ((⟨19, Ts.e, false, Ts.e, h, 0⟩ : Ts).step c).pl, .string ((⟨19, Ts.e, false, Ts.e, h, 0⟩ : Ts).step c).name, .bool ((⟨19, Ts.e, false, Ts.e, h, 0⟩ : Ts).step c).fin, .string ((⟨19, Ts.e, false, Ts.e, h, 0⟩ : Ts).step c).attr, .string ((⟨19, Ts.e, false, Ts.e, h, 0⟩ : Ts).step c).held, .int .i64 ((⟨19, Ts.e, false, Ts.e, h, 0⟩ : Ts).step c).read]) ∧ Below w.heap.size w w' := by
 by_cases h60 : c = 60
 ·
  have HR : Hid ((⟨19, Ts.e, false, Ts.e, h, 0⟩ : Ts).step c = (⟨20, Ts.e, false, Ts.e, h, 0⟩ : Ts)) := (by unfold Hid; show Ts.heldS ((⟨19, Ts.e, false, Ts.e, h, 0⟩ : Ts).to 19) c = _; unfold Ts.heldS; rw [if_pos h60]; rfl)
  have t60 := Tp.y60 h60
  clear h60
  go_enter Tryz.func124, Tryz.ntmps124
  go_wp2_with (fail)
  refine bodyPost_ret (v := .agg #[.int .i64 20, .string ⟨#[]⟩, .bool false, .string ⟨#[]⟩, .string h, .int .i64 0]) (by simp [results, Tryz.results124, go_sem]) rfl ⟨Rs.agg (X := (⟨20, Ts.e, false, Ts.e, h, 0⟩ : Ts)) HR.out.symm, ?_⟩
  repeat' first | refine Below.setCell ?_ (by first | (simp; done) | (simp; omega) | omega) _ | refine Rs.drewNB ?_ _ | refine Below.alloc ?_ (by first | (simp; done) | (simp; omega) | omega) _ | exact Below.refl _ _
 have HR : Hid ((⟨19, Ts.e, false, Ts.e, h, 0⟩ : Ts).step c = (⟨19, Ts.e, false, Ts.e, h, 0⟩ : Ts)) := (by unfold Hid; show Ts.heldS ((⟨19, Ts.e, false, Ts.e, h, 0⟩ : Ts).to 19) c = _; unfold Ts.heldS; rw [if_neg h60]; rfl)
 have t60 := Tp.n60 h60
 clear h60
 go_enter Tryz.func124, Tryz.ntmps124
 go_wp2_with (fail)
 go_quiet (fail)
 go_wp2_with (fail)
 go_quiet (fail)
 go_wp2_with (fail)
 refine bodyPost_ret (v := .agg #[.int .i64 19, .string ⟨#[]⟩, .bool false, .string ⟨#[]⟩, .string h, .int .i64 0]) (by simp [results, Tryz.results124, go_sem]) rfl ⟨Rs.agg (X := (⟨19, Ts.e, false, Ts.e, h, 0⟩ : Ts)) HR.out.symm, ?_⟩
 repeat' first | refine Below.setCell ?_ (by first | (simp; done) | (simp; omega) | omega) _ | refine Rs.drewNB ?_ _ | refine Below.alloc ?_ (by first | (simp; done) | (simp; omega) | omega) _ | exact Below.refl _ _
set_option maxRecDepth 100000 in
set_option maxHeartbeats 4000000 in
theorem Rs.held_20 (h : ByteArray) (c : UInt8) (w : World) : Calls Tryz.prog 124 #[.agg #[.int .i64 20, .string ⟨#[]⟩, .bool false, .string ⟨#[]⟩, .string h, .int .i64 0], .int .u8 c.toNat] w fun e w' => e = .returned (.agg #[.int .i64 ((⟨20, Ts.e, false, Ts.e, h, 0⟩ : Ts).step c).pl, .string ((⟨20, Ts.e, false, Ts.e, h, 0⟩ : Ts).step c).name, .bool ((⟨20, Ts.e, false, Ts.e, h, 0⟩ : Ts).step c).fin, .string ((⟨20, Ts.e, false, Ts.e, h, 0⟩ : Ts).step c).attr, .string ((⟨20, Ts.e, false, Ts.e, h, 0⟩ : Ts).step c).held, .int .i64 ((⟨20, Ts.e, false, Ts.e, h, 0⟩ : Ts).step c).read]) ∧ Below w.heap.size w w' := by
 by_cases h60 : c = 60
 ·
  have h47 : ¬ c = 47 := by rw [h60]; decide
  have HR : Hid ((⟨20, Ts.e, false, Ts.e, h, 0⟩ : Ts).step c = (⟨20, Ts.e, false, Ts.e, h, 0⟩ : Ts)) := (by unfold Hid; show Ts.heldLt ((⟨20, Ts.e, false, Ts.e, h, 0⟩ : Ts).to 20) c = _; unfold Ts.heldLt; rw [if_neg h47, if_pos h60]; rfl)
  have t60 := Tp.y60 h60
  have t47 := Tp.n47 h47
  clear h60 h47
  go_enter Tryz.func124, Tryz.ntmps124
  go_wp2_with (fail)
  refine bodyPost_ret (v := .agg #[.int .i64 20, .string ⟨#[]⟩, .bool false, .string ⟨#[]⟩, .string h, .int .i64 0]) (by simp [results, Tryz.results124, go_sem]) rfl ⟨Rs.agg (X := (⟨20, Ts.e, false, Ts.e, h, 0⟩ : Ts)) HR.out.symm, ?_⟩
  repeat' first | refine Below.setCell ?_ (by first | (simp; done) | (simp; omega) | omega) _ | refine Rs.drewNB ?_ _ | refine Below.alloc ?_ (by first | (simp; done) | (simp; omega) | omega) _ | exact Below.refl _ _
 by_cases h47 : c = 47
 ·
  have HR : Hid ((⟨20, Ts.e, false, Ts.e, h, 0⟩ : Ts).step c = (⟨21, Ts.e, false, Ts.e, h, 0⟩ : Ts)) := (by unfold Hid; show Ts.heldLt ((⟨20, Ts.e, false, Ts.e, h, 0⟩ : Ts).to 20) c = _; unfold Ts.heldLt; rw [if_pos h47]; rfl)
  have t60 := Tp.n60 h60
  have t47 := Tp.y47 h47
  clear h60 h47
  go_enter Tryz.func124, Tryz.ntmps124
  go_wp2_with (fail)
  refine bodyPost_ret (v := .agg #[.int .i64 21, .string ⟨#[]⟩, .bool false, .string ⟨#[]⟩, .string h, .int .i64 0]) (by simp [results, Tryz.results124, go_sem]) rfl ⟨Rs.agg (X := (⟨21, Ts.e, false, Ts.e, h, 0⟩ : Ts)) HR.out.symm, ?_⟩
  repeat' first | refine Below.setCell ?_ (by first | (simp; done) | (simp; omega) | omega) _ | refine Rs.drewNB ?_ _ | refine Below.alloc ?_ (by first | (simp; done) | (simp; omega) | omega) _ | exact Below.refl _ _
 have HR : Hid ((⟨20, Ts.e, false, Ts.e, h, 0⟩ : Ts).step c = (⟨19, Ts.e, false, Ts.e, h, 0⟩ : Ts)) := (by unfold Hid; show Ts.heldLt ((⟨20, Ts.e, false, Ts.e, h, 0⟩ : Ts).to 20) c = _; unfold Ts.heldLt; rw [if_neg h47, if_neg h60]; rfl)
 have t60 := Tp.n60 h60
 have t47 := Tp.n47 h47
 clear h60 h47
 go_enter Tryz.func124, Tryz.ntmps124
 go_wp2_with (fail)
 go_quiet (fail)
 go_wp2_with (fail)
 go_quiet (fail)
 go_wp2_with (fail)
 refine bodyPost_ret (v := .agg #[.int .i64 19, .string ⟨#[]⟩, .bool false, .string ⟨#[]⟩, .string h, .int .i64 0]) (by simp [results, Tryz.results124, go_sem]) rfl ⟨Rs.agg (X := (⟨19, Ts.e, false, Ts.e, h, 0⟩ : Ts)) HR.out.symm, ?_⟩
 repeat' first | refine Below.setCell ?_ (by first | (simp; done) | (simp; omega) | omega) _ | refine Rs.drewNB ?_ _ | refine Below.alloc ?_ (by first | (simp; done) | (simp; omega) | omega) _ | exact Below.refl _ _
set_option maxRecDepth 100000 in
set_option maxHeartbeats 4000000 in
theorem Rs.held_21 (h : ByteArray) (c : UInt8) (w : World) (h0 : 0 < h.size) (hh : ∀ x ∈ h.data.toList, x ≠ 60) : Calls Tryz.prog 124 #[.agg #[.int .i64 21, .string ⟨#[]⟩, .bool false, .string ⟨#[]⟩, .string h, .int .i64 0], .int .u8 c.toNat] w fun e w' => e = .returned (.agg #[.int .i64 ((⟨21, Ts.e, false, Ts.e, h, 0⟩ : Ts).step c).pl, .string ((⟨21, Ts.e, false, Ts.e, h, 0⟩ : Ts).step c).name, .bool ((⟨21, Ts.e, false, Ts.e, h, 0⟩ : Ts).step c).fin, .string ((⟨21, Ts.e, false, Ts.e, h, 0⟩ : Ts).step c).attr, .string ((⟨21, Ts.e, false, Ts.e, h, 0⟩ : Ts).step c).held, .int .i64 ((⟨21, Ts.e, false, Ts.e, h, 0⟩ : Ts).step c).read]) ∧ Below w.heap.size w w' := by
 have hat := Rs.heldAt 21 h 0 h0 c
 have hm : h[0] ≠ 60 := hh _ (by show h.data[0] ∈ h.data.toList; exact Array.mem_toList_iff.2 (Array.getElem_mem _))
 have n1 := Rs.notNil h (by omega)
 have n2 := Rs.notEmpty h (by omega)
 clear hh
 by_cases h60 : c = 60
 ·
  have hf : (Pl.lowB h[0] == Pl.lowB c) = false := beq_eq_false_iff_ne.2 (fun e => hm (Rs.low60 _ (by rw [e, h60]; decide)))
  rw [hf] at hat
  have HR : Hid ((⟨21, Ts.e, false, Ts.e, h, 0⟩ : Ts).step c = (⟨20, Ts.e, false, Ts.e, h, 0⟩ : Ts)) := (by unfold Hid; show Ts.heldSlash ((⟨21, Ts.e, false, Ts.e, h, 0⟩ : Ts).to 21) c = _; unfold Ts.heldSlash; rw [if_neg (by show ¬ Ts.heldAt (⟨21, Ts.e, false, Ts.e, h, ((0 : Nat) : Int)⟩ : Ts) c = true; rw [hat]; decide)]; unfold Ts.heldOn; rw [if_pos h60]; rfl)
  have t60 := Tp.y60 h60
  clear h60 hat hf hm
  go_enter Tryz.func124, Tryz.ntmps124
  go_wp2_with (fail)
  refine bodyPost_ret (v := .agg #[.int .i64 20, .string ⟨#[]⟩, .bool false, .string ⟨#[]⟩, .string h, .int .i64 0]) (by simp [results, Tryz.results124, go_sem]) rfl ⟨Rs.agg (X := (⟨20, Ts.e, false, Ts.e, h, 0⟩ : Ts)) HR.out.symm, ?_⟩
  repeat' first | refine Below.setCell ?_ (by first | (simp; done) | (simp; omega) | omega) _ | refine Rs.drewNB ?_ _ | refine Below.alloc ?_ (by first | (simp; done) | (simp; omega) | omega) _ | exact Below.refl _ _
 by_cases he : Pl.lowB h[0] = Pl.lowB c
 ·
  rw [show (Pl.lowB h[0] == Pl.lowB c) = true by rw [he]; simp] at hat
  have HR : Hid ((⟨21, Ts.e, false, Ts.e, h, 0⟩ : Ts).step c = (⟨22, Ts.e, false, Ts.e, h, 1⟩ : Ts)) := (by unfold Hid; show Ts.heldSlash ((⟨21, Ts.e, false, Ts.e, h, 0⟩ : Ts).to 21) c = _; unfold Ts.heldSlash; rw [if_pos (show Ts.heldAt ((⟨21, Ts.e, false, Ts.e, h, 0⟩ : Ts).to 21) c = true from hat)]; rfl)
  have t60 := Tp.n60 h60
  have te := Rs.lowEq he
  have hl1 := fun u => Sz.low c u
  have hl2 := fun u => Sz.low h[0] u
  clear h60 hat hm he
  go_enter Tryz.func124, Tryz.ntmps124
  go_wp2_with (fail)
  go_quiet (first | (go_at_call_of 145 c; exact Calls.quiet_of_same (hl1 _)) | (go_at_call 145; exact Calls.quiet_of_same (hl2 _)))
  go_wp2_with (fail)
  refine bodyPost_ret (v := .agg #[.int .i64 22, .string ⟨#[]⟩, .bool false, .string ⟨#[]⟩, .string h, .int .i64 1]) (by simp [results, Tryz.results124, go_sem]) rfl ⟨Rs.agg (X := (⟨22, Ts.e, false, Ts.e, h, 1⟩ : Ts)) HR.out.symm, ?_⟩
  repeat' first | refine Below.setCell ?_ (by first | (simp; done) | (simp; omega) | omega) _ | refine Rs.drewNB ?_ _ | refine Below.alloc ?_ (by first | (simp; done) | (simp; omega) | omega) _ | exact Below.refl _ _
 rw [show (Pl.lowB h[0] == Pl.lowB c) = false from beq_eq_false_iff_ne.2 he] at hat
 have HR : Hid ((⟨21, Ts.e, false, Ts.e, h, 0⟩ : Ts).step c = (⟨19, Ts.e, false, Ts.e, h, 0⟩ : Ts)) := (by unfold Hid; show Ts.heldSlash ((⟨21, Ts.e, false, Ts.e, h, 0⟩ : Ts).to 21) c = _; unfold Ts.heldSlash; rw [if_neg (by show ¬ Ts.heldAt (⟨21, Ts.e, false, Ts.e, h, ((0 : Nat) : Int)⟩ : Ts) c = true; rw [hat]; decide)]; unfold Ts.heldOn; rw [if_neg h60]; rfl)
 have t60 := Tp.n60 h60
 have te := Rs.lowNe he
 have hl1 := fun u => Sz.low c u
 have hl2 := fun u => Sz.low h[0] u
 clear h60 hat hm he
 go_enter Tryz.func124, Tryz.ntmps124
 go_wp2_with (fail)
 go_quiet (first | (go_at_call_of 145 c; exact Calls.quiet_of_same (hl1 _)) | (go_at_call 145; exact Calls.quiet_of_same (hl2 _)))
 go_wp2_with (fail)
 go_quiet (fail)
 go_wp2_with (fail)
 refine bodyPost_ret (v := .agg #[.int .i64 19, .string ⟨#[]⟩, .bool false, .string ⟨#[]⟩, .string h, .int .i64 0]) (by simp [results, Tryz.results124, go_sem]) rfl ⟨Rs.agg (X := (⟨19, Ts.e, false, Ts.e, h, 0⟩ : Ts)) HR.out.symm, ?_⟩
 repeat' first | refine Below.setCell ?_ (by first | (simp; done) | (simp; omega) | omega) _ | refine Rs.drewNB ?_ _ | refine Below.alloc ?_ (by first | (simp; done) | (simp; omega) | omega) _ | exact Below.refl _ _
set_option maxRecDepth 100000 in
set_option maxHeartbeats 4000000 in
theorem Rs.held_22 (h : ByteArray) (j : Nat) (c : UInt8) (w : World) (hj : j ≤ h.size) (hz : h.size ≤ 9223372036854775807) (hh : ∀ x ∈ h.data.toList, x ≠ 60) : Calls Tryz.prog 124 #[.agg #[.int .i64 22, .string ⟨#[]⟩, .bool false, .string ⟨#[]⟩, .string h, .int .i64 (j : Int)], .int .u8 c.toNat] w fun e w' => e = .returned (.agg #[.int .i64 ((⟨22, Ts.e, false, Ts.e, h, (j : Int)⟩ : Ts).step c).pl, .string ((⟨22, Ts.e, false, Ts.e, h, (j : Int)⟩ : Ts).step c).name, .bool ((⟨22, Ts.e, false, Ts.e, h, (j : Int)⟩ : Ts).step c).fin, .string ((⟨22, Ts.e, false, Ts.e, h, (j : Int)⟩ : Ts).step c).attr, .string ((⟨22, Ts.e, false, Ts.e, h, (j : Int)⟩ : Ts).step c).held, .int .i64 ((⟨22, Ts.e, false, Ts.e, h, (j : Int)⟩ : Ts).step c).read]) ∧ Below w.heap.size w w' := by
 by_cases hlt : j < h.size
 ·
  have hat := Rs.heldAt 22 h j hlt c
  have hm : h[j] ≠ 60 := hh _ (by show h.data[j] ∈ h.data.toList; exact Array.mem_toList_iff.2 (Array.getElem_mem _))
  clear hh
  by_cases h60 : c = 60
  ·
   have hf : (Pl.lowB h[j] == Pl.lowB c) = false := beq_eq_false_iff_ne.2 (fun e => hm (Rs.low60 _ (by rw [e, h60]; decide)))
   rw [hf] at hat
   have HR : Hid ((⟨22, Ts.e, false, Ts.e, h, (j : Int)⟩ : Ts).step c = (⟨20, Ts.e, false, Ts.e, h, 0⟩ : Ts)) := (by unfold Hid; show Ts.heldName ((⟨22, Ts.e, false, Ts.e, h, (j : Int)⟩ : Ts).to 22) c = _; unfold Ts.heldName; rw [if_neg (by show ¬ Ts.heldAt (⟨22, Ts.e, false, Ts.e, h, (j : Int)⟩ : Ts) c = true; rw [hat]; decide), if_pos (show ((⟨22, Ts.e, false, Ts.e, h, (j : Int)⟩ : Ts).to 22).read < (((⟨22, Ts.e, false, Ts.e, h, (j : Int)⟩ : Ts).to 22).held.size : Int) by show (j : Int) < (h.size : Int); omega)]; unfold Ts.heldOn; rw [if_pos h60]; rfl)
   have g1 : decide ((h.size : Int) ≤ (j : Int)) = false := decide_eq_false (by omega)
   have g2 : decide ((j : Int) < (h.size : Int)) = true := decide_eq_true (by omega)
   have g3 : decide ((0 : Int) ≤ (j : Int)) = true := decide_eq_true (by omega)
   have t60 := Tp.y60 h60
   clear h60 hat hf hm
   go_enter Tryz.func124, Tryz.ntmps124
   go_wp2_with (fail)
   refine bodyPost_ret (v := .agg #[.int .i64 20, .string ⟨#[]⟩, .bool false, .string ⟨#[]⟩, .string h, .int .i64 0]) (by simp [results, Tryz.results124, go_sem]) rfl ⟨Rs.agg (X := (⟨20, Ts.e, false, Ts.e, h, 0⟩ : Ts)) HR.out.symm, ?_⟩
   repeat' first | refine Below.setCell ?_ (by first | (simp; done) | (simp; omega) | omega) _ | refine Rs.drewNB ?_ _ | refine Below.alloc ?_ (by first | (simp; done) | (simp; omega) | omega) _ | exact Below.refl _ _
  by_cases he : Pl.lowB h[j] = Pl.lowB c
  ·
   rw [show (Pl.lowB h[j] == Pl.lowB c) = true by rw [he]; simp] at hat
   have HR : Hid ((⟨22, Ts.e, false, Ts.e, h, (j : Int)⟩ : Ts).step c = (⟨22, Ts.e, false, Ts.e, h, ((j : Int) + 1)⟩ : Ts)) := (by unfold Hid; show Ts.heldName ((⟨22, Ts.e, false, Ts.e, h, (j : Int)⟩ : Ts).to 22) c = _; unfold Ts.heldName; rw [if_pos (show Ts.heldAt ((⟨22, Ts.e, false, Ts.e, h, (j : Int)⟩ : Ts).to 22) c = true from hat)]; rfl)
   have g1 : decide ((h.size : Int) ≤ (j : Int)) = false := decide_eq_false (by omega)
   have g2 : decide ((j : Int) < (h.size : Int)) = true := decide_eq_true (by omega)
   have g3 : decide ((0 : Int) ≤ (j : Int)) = true := decide_eq_true (by omega)
   have t60 := Tp.n60 h60
   have te := Rs.lowEq he
   have hl1 := fun u => Sz.low c u
   have hl2 := fun u => Sz.low h[j] u
   have hw : IntKind.i64.wrap ((j : Int) + 1) = (j : Int) + 1 := by rw [IntKind.wrap_i64]; omega
   clear h60 hat hm he
   go_enter Tryz.func124, Tryz.ntmps124
   go_wp2_with (fail)
   go_quiet (fail)
   go_wp2_with (fail)
   go_quiet (first | (go_at_call_of 145 c; refine (hl1 _).mono ?_; rintro e w' ⟨rfl, rfl⟩; exact ⟨rfl, _, rfl⟩) | (go_at_call 145; refine (hl2 _).mono ?_; rintro e w' ⟨rfl, rfl⟩; exact ⟨rfl, _, rfl⟩))
   go_wp2_with (fail)
   refine bodyPost_ret (v := .agg #[.int .i64 22, .string ⟨#[]⟩, .bool false, .string ⟨#[]⟩, .string h, .int .i64 ((j : Int) + 1)]) (by simp [results, Tryz.results124, go_sem]) rfl ⟨Rs.agg (X := (⟨22, Ts.e, false, Ts.e, h, ((j : Int) + 1)⟩ : Ts)) HR.out.symm, ?_⟩
   repeat' first | refine Below.setCell ?_ (by first | (simp; done) | (simp; omega) | omega) _ | refine Rs.drewNB ?_ _ | refine Below.alloc ?_ (by first | (simp; done) | (simp; omega) | omega) _ | exact Below.refl _ _
  rw [show (Pl.lowB h[j] == Pl.lowB c) = false from beq_eq_false_iff_ne.2 he] at hat
  have HR : Hid ((⟨22, Ts.e, false, Ts.e, h, (j : Int)⟩ : Ts).step c = (⟨19, Ts.e, false, Ts.e, h, 0⟩ : Ts)) := (by unfold Hid; show Ts.heldName ((⟨22, Ts.e, false, Ts.e, h, (j : Int)⟩ : Ts).to 22) c = _; unfold Ts.heldName; rw [if_neg (by show ¬ Ts.heldAt (⟨22, Ts.e, false, Ts.e, h, (j : Int)⟩ : Ts) c = true; rw [hat]; decide), if_pos (show ((⟨22, Ts.e, false, Ts.e, h, (j : Int)⟩ : Ts).to 22).read < (((⟨22, Ts.e, false, Ts.e, h, (j : Int)⟩ : Ts).to 22).held.size : Int) by show (j : Int) < (h.size : Int); omega)]; unfold Ts.heldOn; rw [if_neg h60]; rfl)
  have g1 : decide ((h.size : Int) ≤ (j : Int)) = false := decide_eq_false (by omega)
  have g2 : decide ((j : Int) < (h.size : Int)) = true := decide_eq_true (by omega)
  have g3 : decide ((0 : Int) ≤ (j : Int)) = true := decide_eq_true (by omega)
  have t60 := Tp.n60 h60
  have te := Rs.lowNe he
  have hl1 := fun u => Sz.low c u
  have hl2 := fun u => Sz.low h[j] u
  clear h60 hat hm he
  go_enter Tryz.func124, Tryz.ntmps124
  go_wp2_with (fail)
  go_quiet (fail)
  go_wp2_with (fail)
  go_quiet (first | (go_at_call_of 145 c; refine (hl1 _).mono ?_; rintro e w' ⟨rfl, rfl⟩; exact ⟨rfl, _, rfl⟩) | (go_at_call 145; refine (hl2 _).mono ?_; rintro e w' ⟨rfl, rfl⟩; exact ⟨rfl, _, rfl⟩))
  go_wp2_with (fail)
  refine bodyPost_ret (v := .agg #[.int .i64 19, .string ⟨#[]⟩, .bool false, .string ⟨#[]⟩, .string h, .int .i64 0]) (by simp [results, Tryz.results124, go_sem]) rfl ⟨Rs.agg (X := (⟨19, Ts.e, false, Ts.e, h, 0⟩ : Ts)) HR.out.symm, ?_⟩
  repeat' first | refine Below.setCell ?_ (by first | (simp; done) | (simp; omega) | omega) _ | refine Rs.drewNB ?_ _ | refine Below.alloc ?_ (by first | (simp; done) | (simp; omega) | omega) _ | exact Below.refl _ _
 have hat := Rs.heldNot 22 h j (by omega) c
 clear hh
 cases hB : Ts.blank c with
 | true =>
  have HR : Hid ((⟨22, Ts.e, false, Ts.e, h, (j : Int)⟩ : Ts).step c = (⟨4, h, true, Ts.e, Ts.e, 0⟩ : Ts)) := (by unfold Hid; show Ts.heldName ((⟨22, Ts.e, false, Ts.e, h, (j : Int)⟩ : Ts).to 22) c = _; unfold Ts.heldName; rw [if_neg (by show ¬ Ts.heldAt (⟨22, Ts.e, false, Ts.e, h, (j : Int)⟩ : Ts) c = true; rw [hat]; decide), if_neg (show ¬ ((⟨22, Ts.e, false, Ts.e, h, (j : Int)⟩ : Ts).to 22).read < (((⟨22, Ts.e, false, Ts.e, h, (j : Int)⟩ : Ts).to 22).held.size : Int) by show ¬ (j : Int) < (h.size : Int); omega), if_pos hB]; rfl)
  have g1 : decide ((h.size : Int) ≤ (j : Int)) = true := decide_eq_true (by omega)
  have g2 : decide ((j : Int) < (h.size : Int)) = false := decide_eq_false (by omega)
  have g3 : decide ((0 : Int) ≤ (j : Int)) = true := decide_eq_true (by omega)
  have hbl := fun u => Rs.bl hB u
  clear hB hat
  go_enter Tryz.func124, Tryz.ntmps124
  go_wp2_with ((go_at_call 144; refine (hbl _).mono ?_; rintro e w' ⟨rfl, rfl⟩))
  refine bodyPost_ret (v := .agg #[.int .i64 4, .string h, .bool true, .string ⟨#[]⟩, .string ⟨#[]⟩, .int .i64 0]) (by simp [results, Tryz.results124, go_sem]) rfl ⟨Rs.agg (X := (⟨4, h, true, Ts.e, Ts.e, 0⟩ : Ts)) HR.out.symm, ?_⟩
  repeat' first | refine Below.setCell ?_ (by first | (simp; done) | (simp; omega) | omega) _ | refine Rs.drewNB ?_ _ | refine Below.alloc ?_ (by first | (simp; done) | (simp; omega) | omega) _ | exact Below.refl _ _
 | false =>
  by_cases h47 : c = 47
  ·
   have HR : Hid ((⟨22, Ts.e, false, Ts.e, h, (j : Int)⟩ : Ts).step c = (⟨12, h, true, Ts.e, Ts.e, 0⟩ : Ts)) := (by unfold Hid; show Ts.heldName ((⟨22, Ts.e, false, Ts.e, h, (j : Int)⟩ : Ts).to 22) c = _; unfold Ts.heldName; rw [if_neg (by show ¬ Ts.heldAt (⟨22, Ts.e, false, Ts.e, h, (j : Int)⟩ : Ts) c = true; rw [hat]; decide), if_neg (show ¬ ((⟨22, Ts.e, false, Ts.e, h, (j : Int)⟩ : Ts).to 22).read < (((⟨22, Ts.e, false, Ts.e, h, (j : Int)⟩ : Ts).to 22).held.size : Int) by show ¬ (j : Int) < (h.size : Int); omega), if_neg (by rw [hB]; decide), if_pos h47]; rfl)
   have g1 : decide ((h.size : Int) ≤ (j : Int)) = true := decide_eq_true (by omega)
   have g2 : decide ((j : Int) < (h.size : Int)) = false := decide_eq_false (by omega)
   have g3 : decide ((0 : Int) ≤ (j : Int)) = true := decide_eq_true (by omega)
   have hbl := fun u => Rs.bl hB u
   have t47 := Tp.y47 h47
   clear hB hat h47
   go_enter Tryz.func124, Tryz.ntmps124
   go_wp2_with ((go_at_call 144; refine (hbl _).mono ?_; rintro e w' ⟨rfl, rfl⟩))
   refine bodyPost_ret (v := .agg #[.int .i64 12, .string h, .bool true, .string ⟨#[]⟩, .string ⟨#[]⟩, .int .i64 0]) (by simp [results, Tryz.results124, go_sem]) rfl ⟨Rs.agg (X := (⟨12, h, true, Ts.e, Ts.e, 0⟩ : Ts)) HR.out.symm, ?_⟩
   repeat' first | refine Below.setCell ?_ (by first | (simp; done) | (simp; omega) | omega) _ | refine Rs.drewNB ?_ _ | refine Below.alloc ?_ (by first | (simp; done) | (simp; omega) | omega) _ | exact Below.refl _ _
  by_cases h62 : c = 62
  ·
   have HR : Hid ((⟨22, Ts.e, false, Ts.e, h, (j : Int)⟩ : Ts).step c = (⟨0, Ts.e, false, Ts.e, Ts.e, 0⟩ : Ts)) := (by unfold Hid; show Ts.heldName ((⟨22, Ts.e, false, Ts.e, h, (j : Int)⟩ : Ts).to 22) c = _; unfold Ts.heldName; rw [if_neg (by show ¬ Ts.heldAt (⟨22, Ts.e, false, Ts.e, h, (j : Int)⟩ : Ts) c = true; rw [hat]; decide), if_neg (show ¬ ((⟨22, Ts.e, false, Ts.e, h, (j : Int)⟩ : Ts).to 22).read < (((⟨22, Ts.e, false, Ts.e, h, (j : Int)⟩ : Ts).to 22).held.size : Int) by show ¬ (j : Int) < (h.size : Int); omega), if_neg (by rw [hB]; decide), if_neg h47, if_pos h62]; rfl)
   have g1 : decide ((h.size : Int) ≤ (j : Int)) = true := decide_eq_true (by omega)
   have g2 : decide ((j : Int) < (h.size : Int)) = false := decide_eq_false (by omega)
   have g3 : decide ((0 : Int) ≤ (j : Int)) = true := decide_eq_true (by omega)
   have hbl := fun u => Rs.bl hB u
   have t47 := Tp.n47 h47
   have t62 := Tp.y62 h62
   clear hB hat h47 h62
   go_enter Tryz.func124, Tryz.ntmps124
   go_wp2_with ((go_at_call 144; refine (hbl _).mono ?_; rintro e w' ⟨rfl, rfl⟩))
   refine bodyPost_ret (v := .agg #[.int .i64 0, .string ⟨#[]⟩, .bool false, .string ⟨#[]⟩, .string ⟨#[]⟩, .int .i64 0]) (by simp [results, Tryz.results124, go_sem]) rfl ⟨Rs.agg (X := (⟨0, Ts.e, false, Ts.e, Ts.e, 0⟩ : Ts)) HR.out.symm, ?_⟩
   repeat' first | refine Below.setCell ?_ (by first | (simp; done) | (simp; omega) | omega) _ | refine Rs.drewNB ?_ _ | refine Below.alloc ?_ (by first | (simp; done) | (simp; omega) | omega) _ | exact Below.refl _ _
  by_cases h60 : c = 60
  ·
   have HR : Hid ((⟨22, Ts.e, false, Ts.e, h, (j : Int)⟩ : Ts).step c = (⟨20, Ts.e, false, Ts.e, h, 0⟩ : Ts)) := (by unfold Hid; show Ts.heldName ((⟨22, Ts.e, false, Ts.e, h, (j : Int)⟩ : Ts).to 22) c = _; unfold Ts.heldName; rw [if_neg (by show ¬ Ts.heldAt (⟨22, Ts.e, false, Ts.e, h, (j : Int)⟩ : Ts) c = true; rw [hat]; decide), if_neg (show ¬ ((⟨22, Ts.e, false, Ts.e, h, (j : Int)⟩ : Ts).to 22).read < (((⟨22, Ts.e, false, Ts.e, h, (j : Int)⟩ : Ts).to 22).held.size : Int) by show ¬ (j : Int) < (h.size : Int); omega), if_neg (by rw [hB]; decide), if_neg h47, if_neg h62]; unfold Ts.heldOn; rw [if_pos h60]; rfl)
   have g1 : decide ((h.size : Int) ≤ (j : Int)) = true := decide_eq_true (by omega)
   have g2 : decide ((j : Int) < (h.size : Int)) = false := decide_eq_false (by omega)
   have g3 : decide ((0 : Int) ≤ (j : Int)) = true := decide_eq_true (by omega)
   have hbl := fun u => Rs.bl hB u
   have t47 := Tp.n47 h47
   have t62 := Tp.n62 h62
   have t60 := Tp.y60 h60
   clear hB hat h47 h62 h60
   go_enter Tryz.func124, Tryz.ntmps124
   go_wp2_with ((go_at_call 144; refine (hbl _).mono ?_; rintro e w' ⟨rfl, rfl⟩))
   refine bodyPost_ret (v := .agg #[.int .i64 20, .string ⟨#[]⟩, .bool false, .string ⟨#[]⟩, .string h, .int .i64 0]) (by simp [results, Tryz.results124, go_sem]) rfl ⟨Rs.agg (X := (⟨20, Ts.e, false, Ts.e, h, 0⟩ : Ts)) HR.out.symm, ?_⟩
   repeat' first | refine Below.setCell ?_ (by first | (simp; done) | (simp; omega) | omega) _ | refine Rs.drewNB ?_ _ | refine Below.alloc ?_ (by first | (simp; done) | (simp; omega) | omega) _ | exact Below.refl _ _
  have HR : Hid ((⟨22, Ts.e, false, Ts.e, h, (j : Int)⟩ : Ts).step c = (⟨19, Ts.e, false, Ts.e, h, 0⟩ : Ts)) := (by unfold Hid; show Ts.heldName ((⟨22, Ts.e, false, Ts.e, h, (j : Int)⟩ : Ts).to 22) c = _; unfold Ts.heldName; rw [if_neg (by show ¬ Ts.heldAt (⟨22, Ts.e, false, Ts.e, h, (j : Int)⟩ : Ts) c = true; rw [hat]; decide), if_neg (show ¬ ((⟨22, Ts.e, false, Ts.e, h, (j : Int)⟩ : Ts).to 22).read < (((⟨22, Ts.e, false, Ts.e, h, (j : Int)⟩ : Ts).to 22).held.size : Int) by show ¬ (j : Int) < (h.size : Int); omega), if_neg (by rw [hB]; decide), if_neg h47, if_neg h62]; unfold Ts.heldOn; rw [if_neg h60]; rfl)
  have g1 : decide ((h.size : Int) ≤ (j : Int)) = true := decide_eq_true (by omega)
  have g2 : decide ((j : Int) < (h.size : Int)) = false := decide_eq_false (by omega)
  have g3 : decide ((0 : Int) ≤ (j : Int)) = true := decide_eq_true (by omega)
  have hbl := fun u => Rs.bl hB u
  have t47 := Tp.n47 h47
  have t62 := Tp.n62 h62
  have t60 := Tp.n60 h60
  clear hB hat h47 h62 h60
  go_enter Tryz.func124, Tryz.ntmps124
  go_wp2_with ((go_at_call 144; refine (hbl _).mono ?_; rintro e w' ⟨rfl, rfl⟩))
  go_quiet (fail)
  go_wp2_with (fail)
  go_quiet (fail)
  go_wp2_with (fail)
  refine bodyPost_ret (v := .agg #[.int .i64 19, .string ⟨#[]⟩, .bool false, .string ⟨#[]⟩, .string h, .int .i64 0]) (by simp [results, Tryz.results124, go_sem]) rfl ⟨Rs.agg (X := (⟨19, Ts.e, false, Ts.e, h, 0⟩ : Ts)) HR.out.symm, ?_⟩
  repeat' first | refine Below.setCell ?_ (by first | (simp; done) | (simp; omega) | omega) _ | refine Rs.drewNB ?_ _ | refine Below.alloc ?_ (by first | (simp; done) | (simp; omega) | omega) _ | exact Below.refl _ _
end Go.Proofs.YtblpkjlodncpeaaGreatDoor
