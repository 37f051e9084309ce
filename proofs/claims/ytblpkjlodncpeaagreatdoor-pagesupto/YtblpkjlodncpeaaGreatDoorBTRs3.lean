/-
  THE WALKS of the reference's functions of a place: values, open, comments.
-/
import Derived.Test.YtblpkjlodncpeaaGreatDoorBTRs2
namespace Go.Proofs.YtblpkjlodncpeaaGreatDoor
open Go.RowKit
set_option maxRecDepth 100000 in
set_option maxHeartbeats 2000000 in
theorem Rs.values_8 (n : ByteArray) (f : Bool) (a : ByteArray) (c : UInt8) (w : World) : Calls Tryz.prog 122 #[.agg #[.int .i64 8, .string n, .bool f, .string a, .string ⟨#[]⟩, .int .i64 0], .int .u8 c.toNat] w fun e w' => e = .returned (.agg #[.int .i64 ((⟨8, n, f, a, Ts.e, 0⟩ : Ts).step c).pl, .string ((⟨8, n, f, a, Ts.e, 0⟩ : Ts).step c).name, .bool ((⟨8, n, f, a, Ts.e, 0⟩ : Ts).step c).fin, .string ((⟨8, n, f, a, Ts.e, 0⟩ : Ts).step c).attr, .string ((⟨8, n, f, a, Ts.e, 0⟩ : Ts).step c).held, .int .i64 ((⟨8, n, f, a, Ts.e, 0⟩ : Ts).step c).read]) ∧ Below w.heap.size w w' := by
 by_cases h34 : c = 34
 ·
  have HR : Hid ((⟨8, n, f, a, Ts.e, 0⟩ : Ts).step c = (⟨11, n, f, Ts.e, Ts.e, 0⟩ : Ts)) := (by unfold Hid; show Ts.quoted 34 ((⟨8, n, f, a, Ts.e, 0⟩ : Ts).to 8) c = _; unfold Ts.quoted; rw [if_pos h34]; rfl)
  have t34 : ((c.toNat : Int) == 34) = true := Tp.eq_true h34
  have htg := fun u => Rs.tag 11 (⟨8, n, f, a, Ts.e, 0⟩ : Ts) u
  clear h34
  go_enter Tryz.func122, Tryz.ntmps122
  go_wp2_with (first | (go_at_call 141; refine (htg _).mono ?_; rintro e w' ⟨rfl, rfl⟩))
  refine bodyPost_ret (v := .agg #[.int .i64 11, .string n, .bool f, .string ⟨#[]⟩, .string ⟨#[]⟩, .int .i64 0]) (by simp [results, Tryz.results122, go_sem]) rfl ⟨Rs.agg (X := (⟨11, n, f, Ts.e, Ts.e, 0⟩ : Ts)) HR.out.symm, ?_⟩
  repeat' first | exact Below.refl _ _ | refine Below.drew ?_ | refine Below.alloc ?_ (by first | (simp; done) | (simp; omega) | omega) _
 have HR : Hid ((⟨8, n, f, a, Ts.e, 0⟩ : Ts).step c = (⟨8, n, f, a, Ts.e, 0⟩ : Ts)) := (by unfold Hid; show Ts.quoted 34 ((⟨8, n, f, a, Ts.e, 0⟩ : Ts).to 8) c = _; unfold Ts.quoted; rw [if_neg h34]; rfl)
 have t34 := Tp.n34 h34
 clear h34
 go_enter Tryz.func122, Tryz.ntmps122
 go_wp2_with (fail)
 refine bodyPost_ret (v := .agg #[.int .i64 8, .string n, .bool f, .string a, .string ⟨#[]⟩, .int .i64 0]) (by simp [results, Tryz.results122, go_sem]) rfl ⟨Rs.agg (X := (⟨8, n, f, a, Ts.e, 0⟩ : Ts)) HR.out.symm, ?_⟩
 repeat' first | exact Below.refl _ _ | refine Below.drew ?_ | refine Below.alloc ?_ (by first | (simp; done) | (simp; omega) | omega) _
set_option maxRecDepth 100000 in
set_option maxHeartbeats 2000000 in
theorem Rs.values_9 (n : ByteArray) (f : Bool) (a : ByteArray) (c : UInt8) (w : World) : Calls Tryz.prog 122 #[.agg #[.int .i64 9, .string n, .bool f, .string a, .string ⟨#[]⟩, .int .i64 0], .int .u8 c.toNat] w fun e w' => e = .returned (.agg #[.int .i64 ((⟨9, n, f, a, Ts.e, 0⟩ : Ts).step c).pl, .string ((⟨9, n, f, a, Ts.e, 0⟩ : Ts).step c).name, .bool ((⟨9, n, f, a, Ts.e, 0⟩ : Ts).step c).fin, .string ((⟨9, n, f, a, Ts.e, 0⟩ : Ts).step c).attr, .string ((⟨9, n, f, a, Ts.e, 0⟩ : Ts).step c).held, .int .i64 ((⟨9, n, f, a, Ts.e, 0⟩ : Ts).step c).read]) ∧ Below w.heap.size w w' := by
 by_cases h39 : c = 39
 ·
  have HR : Hid ((⟨9, n, f, a, Ts.e, 0⟩ : Ts).step c = (⟨11, n, f, Ts.e, Ts.e, 0⟩ : Ts)) := (by unfold Hid; show Ts.quoted 39 ((⟨9, n, f, a, Ts.e, 0⟩ : Ts).to 9) c = _; unfold Ts.quoted; rw [if_pos h39]; rfl)
  have t39 : ((c.toNat : Int) == 39) = true := Tp.eq_true h39
  have htg := fun u => Rs.tag 11 (⟨9, n, f, a, Ts.e, 0⟩ : Ts) u
  clear h39
  go_enter Tryz.func122, Tryz.ntmps122
  go_wp2_with (first | (go_at_call 141; refine (htg _).mono ?_; rintro e w' ⟨rfl, rfl⟩))
  refine bodyPost_ret (v := .agg #[.int .i64 11, .string n, .bool f, .string ⟨#[]⟩, .string ⟨#[]⟩, .int .i64 0]) (by simp [results, Tryz.results122, go_sem]) rfl ⟨Rs.agg (X := (⟨11, n, f, Ts.e, Ts.e, 0⟩ : Ts)) HR.out.symm, ?_⟩
  repeat' first | exact Below.refl _ _ | refine Below.drew ?_ | refine Below.alloc ?_ (by first | (simp; done) | (simp; omega) | omega) _
 have HR : Hid ((⟨9, n, f, a, Ts.e, 0⟩ : Ts).step c = (⟨9, n, f, a, Ts.e, 0⟩ : Ts)) := (by unfold Hid; show Ts.quoted 39 ((⟨9, n, f, a, Ts.e, 0⟩ : Ts).to 9) c = _; unfold Ts.quoted; rw [if_neg h39]; rfl)
 have t39 := Tp.n39 h39
 clear h39
 go_enter Tryz.func122, Tryz.ntmps122
 go_wp2_with (fail)
 refine bodyPost_ret (v := .agg #[.int .i64 9, .string n, .bool f, .string a, .string ⟨#[]⟩, .int .i64 0]) (by simp [results, Tryz.results122, go_sem]) rfl ⟨Rs.agg (X := (⟨9, n, f, a, Ts.e, 0⟩ : Ts)) HR.out.symm, ?_⟩
 repeat' first | exact Below.refl _ _ | refine Below.drew ?_ | refine Below.alloc ?_ (by first | (simp; done) | (simp; omega) | omega) _
set_option maxRecDepth 100000 in
set_option maxHeartbeats 2000000 in
theorem Rs.values_7 (n : ByteArray) (f : Bool) (a : ByteArray) (c : UInt8) (w : World) : Calls Tryz.prog 122 #[.agg #[.int .i64 7, .string n, .bool f, .string a, .string ⟨#[]⟩, .int .i64 0], .int .u8 c.toNat] w fun e w' => e = .returned (.agg #[.int .i64 ((⟨7, n, f, a, Ts.e, 0⟩ : Ts).step c).pl, .string ((⟨7, n, f, a, Ts.e, 0⟩ : Ts).step c).name, .bool ((⟨7, n, f, a, Ts.e, 0⟩ : Ts).step c).fin, .string ((⟨7, n, f, a, Ts.e, 0⟩ : Ts).step c).attr, .string ((⟨7, n, f, a, Ts.e, 0⟩ : Ts).step c).held, .int .i64 ((⟨7, n, f, a, Ts.e, 0⟩ : Ts).step c).read]) ∧ Below w.heap.size w w' := by
 by_cases h62 : c = 62
 ·
  have hB := Rs.nb h62 (by decide)
  have h34 : ¬ c = 34 := by rw [h62]; decide
  have h39 : ¬ c = 39 := by rw [h62]; decide
  have HR : Hid ((⟨7, n, f, a, Ts.e, 0⟩ : Ts).step c = (⟨7, n, f, a, Ts.e, 0⟩ : Ts).closed) := (by unfold Hid; show Ts.beforeValue ((⟨7, n, f, a, Ts.e, 0⟩ : Ts).to 7) c = _; unfold Ts.beforeValue; rw [if_neg (by rw [hB]; decide), if_neg h34, if_neg h39, if_pos h62]; rfl)
  have hbl := fun u => Rs.bl hB u
  have t34 := Tp.n34 h34
  have t39 := Tp.n39 h39
  have t62 := Tp.y62 h62
  have hcl := fun u => Rs.closed (⟨7, n, f, a, Ts.e, 0⟩ : Ts) u
  clear hB h34 h39 h62
  generalize (⟨7, n, f, a, Ts.e, 0⟩ : Ts).closed = Z at *
  go_enter Tryz.func122, Tryz.ntmps122
  go_wp2_with (first | (go_at_call 144; refine (hbl _).mono ?_; rintro e w' ⟨rfl, rfl⟩) | (go_at_call 143; refine (hcl _).mono ?_; rintro e w' ⟨rfl, rfl⟩))
  refine bodyPost_ret (v := Ts.v Z) (by simp [results, Tryz.results122, go_sem, Ts.v]) rfl ⟨Rs.agg (X := Z) HR.out.symm, ?_⟩
  repeat' first | exact Below.refl _ _ | refine Below.drew ?_ | refine Below.alloc ?_ (by first | (simp; done) | (simp; omega) | omega) _
 cases hB : Ts.blank c with
 | true =>
  have h34 := Rs.ba hB 34 (by decide)
  have h39 := Rs.ba hB 39 (by decide)
  have HR : Hid ((⟨7, n, f, a, Ts.e, 0⟩ : Ts).step c = (⟨7, n, f, a, Ts.e, 0⟩ : Ts)) := (by unfold Hid; show Ts.beforeValue ((⟨7, n, f, a, Ts.e, 0⟩ : Ts).to 7) c = _; unfold Ts.beforeValue; rw [if_pos hB]; rfl)
  have t62 := Tp.n62 h62
  have t34 := Tp.n34 h34
  have t39 := Tp.n39 h39
  have hbl := fun u => Rs.bl hB u
  clear h62 h34 h39 hB
  go_enter Tryz.func122, Tryz.ntmps122
  go_wp2_with (first | (go_at_call 144; refine (hbl _).mono ?_; rintro e w' ⟨rfl, rfl⟩))
  refine bodyPost_ret (v := .agg #[.int .i64 7, .string n, .bool f, .string a, .string ⟨#[]⟩, .int .i64 0]) (by simp [results, Tryz.results122, go_sem]) rfl ⟨Rs.agg (X := (⟨7, n, f, a, Ts.e, 0⟩ : Ts)) HR.out.symm, ?_⟩
  repeat' first | exact Below.refl _ _ | refine Below.drew ?_ | refine Below.alloc ?_ (by first | (simp; done) | (simp; omega) | omega) _
 | false =>
  by_cases h34 : c = 34
  ·
   have h39 : ¬ c = 39 := by rw [h34]; decide
   have HR : Hid ((⟨7, n, f, a, Ts.e, 0⟩ : Ts).step c = (⟨8, n, f, a, Ts.e, 0⟩ : Ts)) := (by unfold Hid; show Ts.beforeValue ((⟨7, n, f, a, Ts.e, 0⟩ : Ts).to 7) c = _; unfold Ts.beforeValue; rw [if_neg (by rw [hB]; decide), if_pos h34]; rfl)
   have t62 := Tp.n62 h62
   have hbl := fun u => Rs.bl hB u
   have t39 := Tp.n39 h39
   have t34 : ((c.toNat : Int) == 34) = true := Tp.eq_true h34
   have hat := fun u => Rs.attr 8 (⟨7, n, f, a, Ts.e, 0⟩ : Ts) a u
   clear h62 hB h39 h34
   go_enter Tryz.func122, Tryz.ntmps122
   go_wp2_with (first | (go_at_call 144; refine (hbl _).mono ?_; rintro e w' ⟨rfl, rfl⟩) | (go_at_call 140; refine (hat _).mono ?_; rintro e w' ⟨rfl, rfl⟩))
   refine bodyPost_ret (v := .agg #[.int .i64 8, .string n, .bool f, .string a, .string ⟨#[]⟩, .int .i64 0]) (by simp [results, Tryz.results122, go_sem]) rfl ⟨Rs.agg (X := (⟨8, n, f, a, Ts.e, 0⟩ : Ts)) HR.out.symm, ?_⟩
   repeat' first | exact Below.refl _ _ | refine Below.drew ?_ | refine Below.alloc ?_ (by first | (simp; done) | (simp; omega) | omega) _
  by_cases h39 : c = 39
  ·
   have HR : Hid ((⟨7, n, f, a, Ts.e, 0⟩ : Ts).step c = (⟨9, n, f, a, Ts.e, 0⟩ : Ts)) := (by unfold Hid; show Ts.beforeValue ((⟨7, n, f, a, Ts.e, 0⟩ : Ts).to 7) c = _; unfold Ts.beforeValue; rw [if_neg (by rw [hB]; decide), if_neg h34, if_pos h39]; rfl)
   have t62 := Tp.n62 h62
   have hbl := fun u => Rs.bl hB u
   have t34 := Tp.n34 h34
   have t39 : ((c.toNat : Int) == 39) = true := Tp.eq_true h39
   have hat := fun u => Rs.attr 9 (⟨7, n, f, a, Ts.e, 0⟩ : Ts) a u
   clear h62 hB h34 h39
   go_enter Tryz.func122, Tryz.ntmps122
   go_wp2_with (first | (go_at_call 144; refine (hbl _).mono ?_; rintro e w' ⟨rfl, rfl⟩) | (go_at_call 140; refine (hat _).mono ?_; rintro e w' ⟨rfl, rfl⟩))
   refine bodyPost_ret (v := .agg #[.int .i64 9, .string n, .bool f, .string a, .string ⟨#[]⟩, .int .i64 0]) (by simp [results, Tryz.results122, go_sem]) rfl ⟨Rs.agg (X := (⟨9, n, f, a, Ts.e, 0⟩ : Ts)) HR.out.symm, ?_⟩
   repeat' first | exact Below.refl _ _ | refine Below.drew ?_ | refine Below.alloc ?_ (by first | (simp; done) | (simp; omega) | omega) _
  have HR : Hid ((⟨7, n, f, a, Ts.e, 0⟩ : Ts).step c = (⟨10, n, f, a, Ts.e, 0⟩ : Ts)) := (by unfold Hid; show Ts.beforeValue ((⟨7, n, f, a, Ts.e, 0⟩ : Ts).to 7) c = _; unfold Ts.beforeValue; rw [if_neg (by rw [hB]; decide), if_neg h34, if_neg h39, if_neg h62]; rfl)
  have t62 := Tp.n62 h62
  have hbl := fun u => Rs.bl hB u
  have t34 := Tp.n34 h34
  have t39 := Tp.n39 h39
  have hat := fun u => Rs.attr 10 (⟨7, n, f, a, Ts.e, 0⟩ : Ts) a u
  clear h62 hB h34 h39
  go_enter Tryz.func122, Tryz.ntmps122
  go_wp2_with (first | (go_at_call 144; refine (hbl _).mono ?_; rintro e w' ⟨rfl, rfl⟩) | (go_at_call 140; refine (hat _).mono ?_; rintro e w' ⟨rfl, rfl⟩))
  refine bodyPost_ret (v := .agg #[.int .i64 10, .string n, .bool f, .string a, .string ⟨#[]⟩, .int .i64 0]) (by simp [results, Tryz.results122, go_sem]) rfl ⟨Rs.agg (X := (⟨10, n, f, a, Ts.e, 0⟩ : Ts)) HR.out.symm, ?_⟩
  repeat' first | exact Below.refl _ _ | refine Below.drew ?_ | refine Below.alloc ?_ (by first | (simp; done) | (simp; omega) | omega) _
set_option maxRecDepth 100000 in
set_option maxHeartbeats 2000000 in
theorem Rs.values_10 (n : ByteArray) (f : Bool) (a : ByteArray) (c : UInt8) (w : World) : Calls Tryz.prog 122 #[.agg #[.int .i64 10, .string n, .bool f, .string a, .string ⟨#[]⟩, .int .i64 0], .int .u8 c.toNat] w fun e w' => e = .returned (.agg #[.int .i64 ((⟨10, n, f, a, Ts.e, 0⟩ : Ts).step c).pl, .string ((⟨10, n, f, a, Ts.e, 0⟩ : Ts).step c).name, .bool ((⟨10, n, f, a, Ts.e, 0⟩ : Ts).step c).fin, .string ((⟨10, n, f, a, Ts.e, 0⟩ : Ts).step c).attr, .string ((⟨10, n, f, a, Ts.e, 0⟩ : Ts).step c).held, .int .i64 ((⟨10, n, f, a, Ts.e, 0⟩ : Ts).step c).read]) ∧ Below w.heap.size w w' := by
 by_cases h62 : c = 62
 ·
  have hB := Rs.nb h62 (by decide)
  have HR : Hid ((⟨10, n, f, a, Ts.e, 0⟩ : Ts).step c = (⟨10, n, f, a, Ts.e, 0⟩ : Ts).closed) := (by unfold Hid; show Ts.bare ((⟨10, n, f, a, Ts.e, 0⟩ : Ts).to 10) c = _; unfold Ts.bare; rw [if_neg (by rw [hB]; decide), if_pos h62]; rfl)
  have hbl := fun u => Rs.bl hB u
  have t62 := Tp.y62 h62
  have hcl := fun u => Rs.closed (⟨10, n, f, a, Ts.e, 0⟩ : Ts) u
  clear hB h62
  generalize (⟨10, n, f, a, Ts.e, 0⟩ : Ts).closed = Z at *
  go_enter Tryz.func122, Tryz.ntmps122
  go_wp2_with (first | (go_at_call 144; refine (hbl _).mono ?_; rintro e w' ⟨rfl, rfl⟩) | (go_at_call 143; refine (hcl _).mono ?_; rintro e w' ⟨rfl, rfl⟩))
  refine bodyPost_ret (v := Ts.v Z) (by simp [results, Tryz.results122, go_sem, Ts.v]) rfl ⟨Rs.agg (X := Z) HR.out.symm, ?_⟩
  repeat' first | exact Below.refl _ _ | refine Below.drew ?_ | refine Below.alloc ?_ (by first | (simp; done) | (simp; omega) | omega) _
 cases hB : Ts.blank c with
 | true =>
  have HR : Hid ((⟨10, n, f, a, Ts.e, 0⟩ : Ts).step c = (⟨4, n, f, Ts.e, Ts.e, 0⟩ : Ts)) := (by unfold Hid; show Ts.bare ((⟨10, n, f, a, Ts.e, 0⟩ : Ts).to 10) c = _; unfold Ts.bare; rw [if_pos hB]; rfl)
  have t62 := Tp.n62 h62
  have hbl := fun u => Rs.bl hB u
  have htg := fun u => Rs.tag 4 (⟨10, n, f, a, Ts.e, 0⟩ : Ts) u
  clear h62 hB
  go_enter Tryz.func122, Tryz.ntmps122
  go_wp2_with (first | (go_at_call 144; refine (hbl _).mono ?_; rintro e w' ⟨rfl, rfl⟩) | (go_at_call 141; refine (htg _).mono ?_; rintro e w' ⟨rfl, rfl⟩))
  refine bodyPost_ret (v := .agg #[.int .i64 4, .string n, .bool f, .string ⟨#[]⟩, .string ⟨#[]⟩, .int .i64 0]) (by simp [results, Tryz.results122, go_sem]) rfl ⟨Rs.agg (X := (⟨4, n, f, Ts.e, Ts.e, 0⟩ : Ts)) HR.out.symm, ?_⟩
  repeat' first | exact Below.refl _ _ | refine Below.drew ?_ | refine Below.alloc ?_ (by first | (simp; done) | (simp; omega) | omega) _
 | false =>
  have HR : Hid ((⟨10, n, f, a, Ts.e, 0⟩ : Ts).step c = (⟨10, n, f, a, Ts.e, 0⟩ : Ts)) := (by unfold Hid; show Ts.bare ((⟨10, n, f, a, Ts.e, 0⟩ : Ts).to 10) c = _; unfold Ts.bare; rw [if_neg (by rw [hB]; decide), if_neg h62]; rfl)
  have t62 := Tp.n62 h62
  have hbl := fun u => Rs.bl hB u
  clear h62 hB
  go_enter Tryz.func122, Tryz.ntmps122
  go_wp2_with (first | (go_at_call 144; refine (hbl _).mono ?_; rintro e w' ⟨rfl, rfl⟩))
  refine bodyPost_ret (v := .agg #[.int .i64 10, .string n, .bool f, .string a, .string ⟨#[]⟩, .int .i64 0]) (by simp [results, Tryz.results122, go_sem]) rfl ⟨Rs.agg (X := (⟨10, n, f, a, Ts.e, 0⟩ : Ts)) HR.out.symm, ?_⟩
  repeat' first | exact Below.refl _ _ | refine Below.drew ?_ | refine Below.alloc ?_ (by first | (simp; done) | (simp; omega) | omega) _
set_option maxRecDepth 100000 in
set_option maxHeartbeats 2000000 in
theorem Rs.open_1 (c : UInt8) (w : World) : Calls Tryz.prog 120 #[.agg #[.int .i64 1, .string ⟨#[]⟩, .bool false, .string ⟨#[]⟩, .string ⟨#[]⟩, .int .i64 0], .int .u8 c.toNat] w fun e w' => e = .returned (.agg #[.int .i64 ((⟨1, Ts.e, false, Ts.e, Ts.e, 0⟩ : Ts).step c).pl, .string ((⟨1, Ts.e, false, Ts.e, Ts.e, 0⟩ : Ts).step c).name, .bool ((⟨1, Ts.e, false, Ts.e, Ts.e, 0⟩ : Ts).step c).fin, .string ((⟨1, Ts.e, false, Ts.e, Ts.e, 0⟩ : Ts).step c).attr, .string ((⟨1, Ts.e, false, Ts.e, Ts.e, 0⟩ : Ts).step c).held, .int .i64 ((⟨1, Ts.e, false, Ts.e, Ts.e, 0⟩ : Ts).step c).read]) ∧ Below w.heap.size w w' := by
 cases hL : Ts.letter c with
 | true =>
  have h60 := Rs.la hL 60 (by decide)
  have h47 := Rs.la hL 47 (by decide)
  have h33 := Rs.la hL 33 (by decide)
  have HR : Hid ((⟨1, Ts.e, false, Ts.e, Ts.e, 0⟩ : Ts).step c = (⟨3, (Ts.low c), false, Ts.e, Ts.e, 0⟩ : Ts)) := (by unfold Hid; show Ts.tagOpen ((⟨1, Ts.e, false, Ts.e, Ts.e, 0⟩ : Ts).to 1) c = _; unfold Ts.tagOpen; rw [if_pos hL]; rfl)
  have t60 := Tp.n60 h60
  have t47 := Tp.n47 h47
  have t33 := Tp.n33 h33
  have hle := fun u => Rs.le hL u
  have hwi := fun u => Rs.withS ⟨#[]⟩ c u (by decide)
  rw [Rs.emptyLow] at hwi
  have zl := Tp.low_size c
  clear h60 h47 h33 hL
  go_enter Tryz.func120, Tryz.ntmps120
  go_wp2_with (first | (go_at_call 126; refine (hle _).mono ?_; rintro e w' ⟨rfl, rfl⟩) | (go_at_call 142; refine (hwi _).mono ?_; rintro e w' ⟨rfl, rfl⟩))
  refine bodyPost_ret (v := .agg #[.int .i64 3, .string (Ts.low c), .bool false, .string ⟨#[]⟩, .string ⟨#[]⟩, .int .i64 0]) (by simp [results, Tryz.results120, go_sem]) rfl ⟨Rs.agg (X := (⟨3, (Ts.low c), false, Ts.e, Ts.e, 0⟩ : Ts)) HR.out.symm, ?_⟩
  repeat' first | exact Below.refl _ _ | refine Below.drew ?_ | refine Below.alloc ?_ (by first | (simp; done) | (simp; omega) | omega) _
 | false =>
  by_cases h60 : c = 60
  ·
   have h47 : ¬ c = 47 := by rw [h60]; decide
   have h33 : ¬ c = 33 := by rw [h60]; decide
   have HR : Hid ((⟨1, Ts.e, false, Ts.e, Ts.e, 0⟩ : Ts).step c = (⟨1, Ts.e, false, Ts.e, Ts.e, 0⟩ : Ts)) := (by unfold Hid; show Ts.tagOpen ((⟨1, Ts.e, false, Ts.e, Ts.e, 0⟩ : Ts).to 1) c = _; unfold Ts.tagOpen; rw [if_neg (by rw [hL]; decide), if_neg h47, if_neg h33, if_pos h60]; rfl)
   have hle := fun u => Rs.le hL u
   have t47 := Tp.n47 h47
   have t33 := Tp.n33 h33
   have t60 := Tp.y60 h60
   clear hL h47 h33 h60
   go_enter Tryz.func120, Tryz.ntmps120
   go_wp2_with (first | (go_at_call 126; refine (hle _).mono ?_; rintro e w' ⟨rfl, rfl⟩))
   refine bodyPost_ret (v := .agg #[.int .i64 1, .string ⟨#[]⟩, .bool false, .string ⟨#[]⟩, .string ⟨#[]⟩, .int .i64 0]) (by simp [results, Tryz.results120, go_sem]) rfl ⟨Rs.agg (X := (⟨1, Ts.e, false, Ts.e, Ts.e, 0⟩ : Ts)) HR.out.symm, ?_⟩
   repeat' first | exact Below.refl _ _ | refine Below.drew ?_ | refine Below.alloc ?_ (by first | (simp; done) | (simp; omega) | omega) _
  by_cases h47 : c = 47
  ·
   have h33 : ¬ c = 33 := by rw [h47]; decide
   have HR : Hid ((⟨1, Ts.e, false, Ts.e, Ts.e, 0⟩ : Ts).step c = (⟨2, Ts.e, false, Ts.e, Ts.e, 0⟩ : Ts)) := (by unfold Hid; show Ts.tagOpen ((⟨1, Ts.e, false, Ts.e, Ts.e, 0⟩ : Ts).to 1) c = _; unfold Ts.tagOpen; rw [if_neg (by rw [hL]; decide), if_pos h47]; rfl)
   have hle := fun u => Rs.le hL u
   have t60 := Tp.n60 h60
   have t33 := Tp.n33 h33
   have t47 := Tp.y47 h47
   clear hL h60 h33 h47
   go_enter Tryz.func120, Tryz.ntmps120
   go_wp2_with (first | (go_at_call 126; refine (hle _).mono ?_; rintro e w' ⟨rfl, rfl⟩))
   refine bodyPost_ret (v := .agg #[.int .i64 2, .string ⟨#[]⟩, .bool false, .string ⟨#[]⟩, .string ⟨#[]⟩, .int .i64 0]) (by simp [results, Tryz.results120, go_sem]) rfl ⟨Rs.agg (X := (⟨2, Ts.e, false, Ts.e, Ts.e, 0⟩ : Ts)) HR.out.symm, ?_⟩
   repeat' first | exact Below.refl _ _ | refine Below.drew ?_ | refine Below.alloc ?_ (by first | (simp; done) | (simp; omega) | omega) _
  by_cases h33 : c = 33
  ·
   have HR : Hid ((⟨1, Ts.e, false, Ts.e, Ts.e, 0⟩ : Ts).step c = (⟨13, Ts.e, false, Ts.e, Ts.e, 0⟩ : Ts)) := (by unfold Hid; show Ts.tagOpen ((⟨1, Ts.e, false, Ts.e, Ts.e, 0⟩ : Ts).to 1) c = _; unfold Ts.tagOpen; rw [if_neg (by rw [hL]; decide), if_neg h47, if_pos h33]; rfl)
   have hle := fun u => Rs.le hL u
   have t60 := Tp.n60 h60
   have t47 := Tp.n47 h47
   have t33 : ((c.toNat : Int) == 33) = true := Tp.eq_true h33
   clear hL h60 h47 h33
   go_enter Tryz.func120, Tryz.ntmps120
   go_wp2_with (first | (go_at_call 126; refine (hle _).mono ?_; rintro e w' ⟨rfl, rfl⟩))
   refine bodyPost_ret (v := .agg #[.int .i64 13, .string ⟨#[]⟩, .bool false, .string ⟨#[]⟩, .string ⟨#[]⟩, .int .i64 0]) (by simp [results, Tryz.results120, go_sem]) rfl ⟨Rs.agg (X := (⟨13, Ts.e, false, Ts.e, Ts.e, 0⟩ : Ts)) HR.out.symm, ?_⟩
   repeat' first | exact Below.refl _ _ | refine Below.drew ?_ | refine Below.alloc ?_ (by first | (simp; done) | (simp; omega) | omega) _
  have HR : Hid ((⟨1, Ts.e, false, Ts.e, Ts.e, 0⟩ : Ts).step c = (⟨0, Ts.e, false, Ts.e, Ts.e, 0⟩ : Ts)) := (by unfold Hid; show Ts.tagOpen ((⟨1, Ts.e, false, Ts.e, Ts.e, 0⟩ : Ts).to 1) c = _; unfold Ts.tagOpen; rw [if_neg (by rw [hL]; decide), if_neg h47, if_neg h33, if_neg h60]; rfl)
  have hle := fun u => Rs.le hL u
  have t60 := Tp.n60 h60
  have t47 := Tp.n47 h47
  have t33 := Tp.n33 h33
  clear hL h60 h47 h33
  go_enter Tryz.func120, Tryz.ntmps120
  go_wp2_with (first | (go_at_call 126; refine (hle _).mono ?_; rintro e w' ⟨rfl, rfl⟩))
  refine bodyPost_ret (v := .agg #[.int .i64 0, .string ⟨#[]⟩, .bool false, .string ⟨#[]⟩, .string ⟨#[]⟩, .int .i64 0]) (by simp [results, Tryz.results120, go_sem]) rfl ⟨Rs.agg (X := (⟨0, Ts.e, false, Ts.e, Ts.e, 0⟩ : Ts)) HR.out.symm, ?_⟩
  repeat' first | exact Below.refl _ _ | refine Below.drew ?_ | refine Below.alloc ?_ (by first | (simp; done) | (simp; omega) | omega) _
set_option maxRecDepth 100000 in
set_option maxHeartbeats 2000000 in
theorem Rs.open_2 (c : UInt8) (w : World) : Calls Tryz.prog 120 #[.agg #[.int .i64 2, .string ⟨#[]⟩, .bool false, .string ⟨#[]⟩, .string ⟨#[]⟩, .int .i64 0], .int .u8 c.toNat] w fun e w' => e = .returned (.agg #[.int .i64 ((⟨2, Ts.e, false, Ts.e, Ts.e, 0⟩ : Ts).step c).pl, .string ((⟨2, Ts.e, false, Ts.e, Ts.e, 0⟩ : Ts).step c).name, .bool ((⟨2, Ts.e, false, Ts.e, Ts.e, 0⟩ : Ts).step c).fin, .string ((⟨2, Ts.e, false, Ts.e, Ts.e, 0⟩ : Ts).step c).attr, .string ((⟨2, Ts.e, false, Ts.e, Ts.e, 0⟩ : Ts).step c).held, .int .i64 ((⟨2, Ts.e, false, Ts.e, Ts.e, 0⟩ : Ts).step c).read]) ∧ Below w.heap.size w w' := by
 cases hL : Ts.letter c with
 | true =>
  have h60 := Rs.la hL 60 (by decide)
  have h47 := Rs.la hL 47 (by decide)
  have h33 := Rs.la hL 33 (by decide)
  have HR : Hid ((⟨2, Ts.e, false, Ts.e, Ts.e, 0⟩ : Ts).step c = (⟨3, (Ts.low c), true, Ts.e, Ts.e, 0⟩ : Ts)) := (by unfold Hid; show Ts.endOpen ((⟨2, Ts.e, false, Ts.e, Ts.e, 0⟩ : Ts).to 2) c = _; unfold Ts.endOpen; rw [if_pos hL]; rfl)
  have t60 := Tp.n60 h60
  have t47 := Tp.n47 h47
  have t33 := Tp.n33 h33
  have hle := fun u => Rs.le hL u
  have hwi := fun u => Rs.withS ⟨#[]⟩ c u (by decide)
  rw [Rs.emptyLow] at hwi
  have zl := Tp.low_size c
  clear h60 h47 h33 hL
  go_enter Tryz.func120, Tryz.ntmps120
  go_wp2_with (first | (go_at_call 126; refine (hle _).mono ?_; rintro e w' ⟨rfl, rfl⟩) | (go_at_call 142; refine (hwi _).mono ?_; rintro e w' ⟨rfl, rfl⟩))
  refine bodyPost_ret (v := .agg #[.int .i64 3, .string (Ts.low c), .bool true, .string ⟨#[]⟩, .string ⟨#[]⟩, .int .i64 0]) (by simp [results, Tryz.results120, go_sem]) rfl ⟨Rs.agg (X := (⟨3, (Ts.low c), true, Ts.e, Ts.e, 0⟩ : Ts)) HR.out.symm, ?_⟩
  repeat' first | exact Below.refl _ _ | refine Below.drew ?_ | refine Below.alloc ?_ (by first | (simp; done) | (simp; omega) | omega) _
 | false =>
  by_cases h60 : c = 60
  ·
   have h47 : ¬ c = 47 := by rw [h60]; decide
   have h33 : ¬ c = 33 := by rw [h60]; decide
   have HR : Hid ((⟨2, Ts.e, false, Ts.e, Ts.e, 0⟩ : Ts).step c = (⟨1, Ts.e, false, Ts.e, Ts.e, 0⟩ : Ts)) := (by unfold Hid; show Ts.endOpen ((⟨2, Ts.e, false, Ts.e, Ts.e, 0⟩ : Ts).to 2) c = _; unfold Ts.endOpen; rw [if_neg (by rw [hL]; decide), if_pos h60]; rfl)
   have hle := fun u => Rs.le hL u
   have t47 := Tp.n47 h47
   have t33 := Tp.n33 h33
   have t60 := Tp.y60 h60
   clear hL h47 h33 h60
   go_enter Tryz.func120, Tryz.ntmps120
   go_wp2_with (first | (go_at_call 126; refine (hle _).mono ?_; rintro e w' ⟨rfl, rfl⟩))
   refine bodyPost_ret (v := .agg #[.int .i64 1, .string ⟨#[]⟩, .bool false, .string ⟨#[]⟩, .string ⟨#[]⟩, .int .i64 0]) (by simp [results, Tryz.results120, go_sem]) rfl ⟨Rs.agg (X := (⟨1, Ts.e, false, Ts.e, Ts.e, 0⟩ : Ts)) HR.out.symm, ?_⟩
   repeat' first | exact Below.refl _ _ | refine Below.drew ?_ | refine Below.alloc ?_ (by first | (simp; done) | (simp; omega) | omega) _
  by_cases h47 : c = 47
  ·
   have h33 : ¬ c = 33 := by rw [h47]; decide
   have HR : Hid ((⟨2, Ts.e, false, Ts.e, Ts.e, 0⟩ : Ts).step c = (⟨0, Ts.e, false, Ts.e, Ts.e, 0⟩ : Ts)) := (by unfold Hid; show Ts.endOpen ((⟨2, Ts.e, false, Ts.e, Ts.e, 0⟩ : Ts).to 2) c = _; unfold Ts.endOpen; rw [if_neg (by rw [hL]; decide), if_neg h60]; rfl)
   have hle := fun u => Rs.le hL u
   have t60 := Tp.n60 h60
   have t47 := Tp.y47 h47
   have t33 := Tp.n33 h33
   clear hL h60 h47 h33
   go_enter Tryz.func120, Tryz.ntmps120
   go_wp2_with (first | (go_at_call 126; refine (hle _).mono ?_; rintro e w' ⟨rfl, rfl⟩))
   refine bodyPost_ret (v := .agg #[.int .i64 0, .string ⟨#[]⟩, .bool false, .string ⟨#[]⟩, .string ⟨#[]⟩, .int .i64 0]) (by simp [results, Tryz.results120, go_sem]) rfl ⟨Rs.agg (X := (⟨0, Ts.e, false, Ts.e, Ts.e, 0⟩ : Ts)) HR.out.symm, ?_⟩
   repeat' first | exact Below.refl _ _ | refine Below.drew ?_ | refine Below.alloc ?_ (by first | (simp; done) | (simp; omega) | omega) _
  by_cases h33 : c = 33
  ·
   have HR : Hid ((⟨2, Ts.e, false, Ts.e, Ts.e, 0⟩ : Ts).step c = (⟨0, Ts.e, false, Ts.e, Ts.e, 0⟩ : Ts)) := (by unfold Hid; show Ts.endOpen ((⟨2, Ts.e, false, Ts.e, Ts.e, 0⟩ : Ts).to 2) c = _; unfold Ts.endOpen; rw [if_neg (by rw [hL]; decide), if_neg h60]; rfl)
   have hle := fun u => Rs.le hL u
   have t60 := Tp.n60 h60
   have t47 := Tp.n47 h47
   have t33 : ((c.toNat : Int) == 33) = true := Tp.eq_true h33
   clear hL h60 h47 h33
   go_enter Tryz.func120, Tryz.ntmps120
   go_wp2_with (first | (go_at_call 126; refine (hle _).mono ?_; rintro e w' ⟨rfl, rfl⟩))
   refine bodyPost_ret (v := .agg #[.int .i64 0, .string ⟨#[]⟩, .bool false, .string ⟨#[]⟩, .string ⟨#[]⟩, .int .i64 0]) (by simp [results, Tryz.results120, go_sem]) rfl ⟨Rs.agg (X := (⟨0, Ts.e, false, Ts.e, Ts.e, 0⟩ : Ts)) HR.out.symm, ?_⟩
   repeat' first | exact Below.refl _ _ | refine Below.drew ?_ | refine Below.alloc ?_ (by first | (simp; done) | (simp; omega) | omega) _
  have HR : Hid ((⟨2, Ts.e, false, Ts.e, Ts.e, 0⟩ : Ts).step c = (⟨0, Ts.e, false, Ts.e, Ts.e, 0⟩ : Ts)) := (by unfold Hid; show Ts.endOpen ((⟨2, Ts.e, false, Ts.e, Ts.e, 0⟩ : Ts).to 2) c = _; unfold Ts.endOpen; rw [if_neg (by rw [hL]; decide), if_neg h60]; rfl)
  have hle := fun u => Rs.le hL u
  have t60 := Tp.n60 h60
  have t47 := Tp.n47 h47
  have t33 := Tp.n33 h33
  clear hL h60 h47 h33
  go_enter Tryz.func120, Tryz.ntmps120
  go_wp2_with (first | (go_at_call 126; refine (hle _).mono ?_; rintro e w' ⟨rfl, rfl⟩))
  refine bodyPost_ret (v := .agg #[.int .i64 0, .string ⟨#[]⟩, .bool false, .string ⟨#[]⟩, .string ⟨#[]⟩, .int .i64 0]) (by simp [results, Tryz.results120, go_sem]) rfl ⟨Rs.agg (X := (⟨0, Ts.e, false, Ts.e, Ts.e, 0⟩ : Ts)) HR.out.symm, ?_⟩
  repeat' first | exact Below.refl _ _ | refine Below.drew ?_ | refine Below.alloc ?_ (by first | (simp; done) | (simp; omega) | omega) _
set_option maxRecDepth 100000 in
set_option maxHeartbeats 2000000 in
theorem Rs.comments_13 (c : UInt8) (w : World) : Calls Tryz.prog 123 #[.agg #[.int .i64 13, .string ⟨#[]⟩, .bool false, .string ⟨#[]⟩, .string ⟨#[]⟩, .int .i64 0], .int .u8 c.toNat] w fun e w' => e = .returned (.agg #[.int .i64 ((⟨13, Ts.e, false, Ts.e, Ts.e, 0⟩ : Ts).step c).pl, .string ((⟨13, Ts.e, false, Ts.e, Ts.e, 0⟩ : Ts).step c).name, .bool ((⟨13, Ts.e, false, Ts.e, Ts.e, 0⟩ : Ts).step c).fin, .string ((⟨13, Ts.e, false, Ts.e, Ts.e, 0⟩ : Ts).step c).attr, .string ((⟨13, Ts.e, false, Ts.e, Ts.e, 0⟩ : Ts).step c).held, .int .i64 ((⟨13, Ts.e, false, Ts.e, Ts.e, 0⟩ : Ts).step c).read]) ∧ Below w.heap.size w w' := by
 by_cases h62 : c = 62
 ·
  have h45 : ¬ c = 45 := by rw [h62]; decide
  have HR : Hid ((⟨13, Ts.e, false, Ts.e, Ts.e, 0⟩ : Ts).step c = (⟨0, Ts.e, false, Ts.e, Ts.e, 0⟩ : Ts)) := (by unfold Hid; show Ts.bang ((⟨13, Ts.e, false, Ts.e, Ts.e, 0⟩ : Ts).to 13) c = _; unfold Ts.bang; rw [if_neg h45, if_pos h62]; rfl)
  have t45 := Tp.n45 h45
  have t62 := Tp.y62 h62
  clear h45 h62
  go_enter Tryz.func123, Tryz.ntmps123
  go_wp2_with (fail)
  refine bodyPost_ret (v := .agg #[.int .i64 0, .string ⟨#[]⟩, .bool false, .string ⟨#[]⟩, .string ⟨#[]⟩, .int .i64 0]) (by simp [results, Tryz.results123, go_sem]) rfl ⟨Rs.agg (X := (⟨0, Ts.e, false, Ts.e, Ts.e, 0⟩ : Ts)) HR.out.symm, ?_⟩
  repeat' first | exact Below.refl _ _ | refine Below.drew ?_ | refine Below.alloc ?_ (by first | (simp; done) | (simp; omega) | omega) _
 by_cases h45 : c = 45
 ·
  have HR : Hid ((⟨13, Ts.e, false, Ts.e, Ts.e, 0⟩ : Ts).step c = (⟨14, Ts.e, false, Ts.e, Ts.e, 0⟩ : Ts)) := (by unfold Hid; show Ts.bang ((⟨13, Ts.e, false, Ts.e, Ts.e, 0⟩ : Ts).to 13) c = _; unfold Ts.bang; rw [if_pos h45]; rfl)
  have t62 := Tp.n62 h62
  have t45 := Tp.y45 h45
  clear h62 h45
  go_enter Tryz.func123, Tryz.ntmps123
  go_wp2_with (fail)
  refine bodyPost_ret (v := .agg #[.int .i64 14, .string ⟨#[]⟩, .bool false, .string ⟨#[]⟩, .string ⟨#[]⟩, .int .i64 0]) (by simp [results, Tryz.results123, go_sem]) rfl ⟨Rs.agg (X := (⟨14, Ts.e, false, Ts.e, Ts.e, 0⟩ : Ts)) HR.out.symm, ?_⟩
  repeat' first | exact Below.refl _ _ | refine Below.drew ?_ | refine Below.alloc ?_ (by first | (simp; done) | (simp; omega) | omega) _
 have HR : Hid ((⟨13, Ts.e, false, Ts.e, Ts.e, 0⟩ : Ts).step c = (⟨18, Ts.e, false, Ts.e, Ts.e, 0⟩ : Ts)) := (by unfold Hid; show Ts.bang ((⟨13, Ts.e, false, Ts.e, Ts.e, 0⟩ : Ts).to 13) c = _; unfold Ts.bang; rw [if_neg h45, if_neg h62]; rfl)
 have t45 := Tp.n45 h45
 have t62 := Tp.n62 h62
 clear h45 h62
 go_enter Tryz.func123, Tryz.ntmps123
 go_wp2_with (fail)
 refine bodyPost_ret (v := .agg #[.int .i64 18, .string ⟨#[]⟩, .bool false, .string ⟨#[]⟩, .string ⟨#[]⟩, .int .i64 0]) (by simp [results, Tryz.results123, go_sem]) rfl ⟨Rs.agg (X := (⟨18, Ts.e, false, Ts.e, Ts.e, 0⟩ : Ts)) HR.out.symm, ?_⟩
 repeat' first | exact Below.refl _ _ | refine Below.drew ?_ | refine Below.alloc ?_ (by first | (simp; done) | (simp; omega) | omega) _
set_option maxRecDepth 100000 in
set_option maxHeartbeats 2000000 in
theorem Rs.comments_14 (c : UInt8) (w : World) : Calls Tryz.prog 123 #[.agg #[.int .i64 14, .string ⟨#[]⟩, .bool false, .string ⟨#[]⟩, .string ⟨#[]⟩, .int .i64 0], .int .u8 c.toNat] w fun e w' => e = .returned (.agg #[.int .i64 ((⟨14, Ts.e, false, Ts.e, Ts.e, 0⟩ : Ts).step c).pl, .string ((⟨14, Ts.e, false, Ts.e, Ts.e, 0⟩ : Ts).step c).name, .bool ((⟨14, Ts.e, false, Ts.e, Ts.e, 0⟩ : Ts).step c).fin, .string ((⟨14, Ts.e, false, Ts.e, Ts.e, 0⟩ : Ts).step c).attr, .string ((⟨14, Ts.e, false, Ts.e, Ts.e, 0⟩ : Ts).step c).held, .int .i64 ((⟨14, Ts.e, false, Ts.e, Ts.e, 0⟩ : Ts).step c).read]) ∧ Below w.heap.size w w' := by
 by_cases h62 : c = 62
 ·
  have h45 : ¬ c = 45 := by rw [h62]; decide
  have HR : Hid ((⟨14, Ts.e, false, Ts.e, Ts.e, 0⟩ : Ts).step c = (⟨0, Ts.e, false, Ts.e, Ts.e, 0⟩ : Ts)) := (by unfold Hid; show Ts.bangDash ((⟨14, Ts.e, false, Ts.e, Ts.e, 0⟩ : Ts).to 14) c = _; unfold Ts.bangDash; rw [if_neg h45, if_pos h62]; rfl)
  have t45 := Tp.n45 h45
  have t62 := Tp.y62 h62
  clear h45 h62
  go_enter Tryz.func123, Tryz.ntmps123
  go_wp2_with (fail)
  refine bodyPost_ret (v := .agg #[.int .i64 0, .string ⟨#[]⟩, .bool false, .string ⟨#[]⟩, .string ⟨#[]⟩, .int .i64 0]) (by simp [results, Tryz.results123, go_sem]) rfl ⟨Rs.agg (X := (⟨0, Ts.e, false, Ts.e, Ts.e, 0⟩ : Ts)) HR.out.symm, ?_⟩
  repeat' first | exact Below.refl _ _ | refine Below.drew ?_ | refine Below.alloc ?_ (by first | (simp; done) | (simp; omega) | omega) _
 by_cases h45 : c = 45
 ·
  have HR : Hid ((⟨14, Ts.e, false, Ts.e, Ts.e, 0⟩ : Ts).step c = (⟨15, Ts.e, false, Ts.e, Ts.e, 0⟩ : Ts)) := (by unfold Hid; show Ts.bangDash ((⟨14, Ts.e, false, Ts.e, Ts.e, 0⟩ : Ts).to 14) c = _; unfold Ts.bangDash; rw [if_pos h45]; rfl)
  have t62 := Tp.n62 h62
  have t45 := Tp.y45 h45
  clear h62 h45
  go_enter Tryz.func123, Tryz.ntmps123
  go_wp2_with (fail)
  refine bodyPost_ret (v := .agg #[.int .i64 15, .string ⟨#[]⟩, .bool false, .string ⟨#[]⟩, .string ⟨#[]⟩, .int .i64 0]) (by simp [results, Tryz.results123, go_sem]) rfl ⟨Rs.agg (X := (⟨15, Ts.e, false, Ts.e, Ts.e, 0⟩ : Ts)) HR.out.symm, ?_⟩
  repeat' first | exact Below.refl _ _ | refine Below.drew ?_ | refine Below.alloc ?_ (by first | (simp; done) | (simp; omega) | omega) _
 have HR : Hid ((⟨14, Ts.e, false, Ts.e, Ts.e, 0⟩ : Ts).step c = (⟨18, Ts.e, false, Ts.e, Ts.e, 0⟩ : Ts)) := (by unfold Hid; show Ts.bangDash ((⟨14, Ts.e, false, Ts.e, Ts.e, 0⟩ : Ts).to 14) c = _; unfold Ts.bangDash; rw [if_neg h45, if_neg h62]; rfl)
 have t45 := Tp.n45 h45
 have t62 := Tp.n62 h62
 clear h45 h62
 go_enter Tryz.func123, Tryz.ntmps123
 go_wp2_with (fail)
 refine bodyPost_ret (v := .agg #[.int .i64 18, .string ⟨#[]⟩, .bool false, .string ⟨#[]⟩, .string ⟨#[]⟩, .int .i64 0]) (by simp [results, Tryz.results123, go_sem]) rfl ⟨Rs.agg (X := (⟨18, Ts.e, false, Ts.e, Ts.e, 0⟩ : Ts)) HR.out.symm, ?_⟩
 repeat' first | exact Below.refl _ _ | refine Below.drew ?_ | refine Below.alloc ?_ (by first | (simp; done) | (simp; omega) | omega) _
set_option maxRecDepth 100000 in
set_option maxHeartbeats 2000000 in
theorem Rs.comments_15 (c : UInt8) (w : World) : Calls Tryz.prog 123 #[.agg #[.int .i64 15, .string ⟨#[]⟩, .bool false, .string ⟨#[]⟩, .string ⟨#[]⟩, .int .i64 0], .int .u8 c.toNat] w fun e w' => e = .returned (.agg #[.int .i64 ((⟨15, Ts.e, false, Ts.e, Ts.e, 0⟩ : Ts).step c).pl, .string ((⟨15, Ts.e, false, Ts.e, Ts.e, 0⟩ : Ts).step c).name, .bool ((⟨15, Ts.e, false, Ts.e, Ts.e, 0⟩ : Ts).step c).fin, .string ((⟨15, Ts.e, false, Ts.e, Ts.e, 0⟩ : Ts).step c).attr, .string ((⟨15, Ts.e, false, Ts.e, Ts.e, 0⟩ : Ts).step c).held, .int .i64 ((⟨15, Ts.e, false, Ts.e, Ts.e, 0⟩ : Ts).step c).read]) ∧ Below w.heap.size w w' := by
 by_cases h62 : c = 62
 ·
  have h45 : ¬ c = 45 := by rw [h62]; decide
  have HR : Hid ((⟨15, Ts.e, false, Ts.e, Ts.e, 0⟩ : Ts).step c = (⟨15, Ts.e, false, Ts.e, Ts.e, 0⟩ : Ts)) := (by unfold Hid; show Ts.comment ((⟨15, Ts.e, false, Ts.e, Ts.e, 0⟩ : Ts).to 15) c = _; unfold Ts.comment; rw [if_neg h45]; rfl)
  have t45 := Tp.n45 h45
  have t62 := Tp.y62 h62
  clear h45 h62
  go_enter Tryz.func123, Tryz.ntmps123
  go_wp2_with (fail)
  refine bodyPost_ret (v := .agg #[.int .i64 15, .string ⟨#[]⟩, .bool false, .string ⟨#[]⟩, .string ⟨#[]⟩, .int .i64 0]) (by simp [results, Tryz.results123, go_sem]) rfl ⟨Rs.agg (X := (⟨15, Ts.e, false, Ts.e, Ts.e, 0⟩ : Ts)) HR.out.symm, ?_⟩
  repeat' first | exact Below.refl _ _ | refine Below.drew ?_ | refine Below.alloc ?_ (by first | (simp; done) | (simp; omega) | omega) _
 by_cases h45 : c = 45
 ·
  have HR : Hid ((⟨15, Ts.e, false, Ts.e, Ts.e, 0⟩ : Ts).step c = (⟨16, Ts.e, false, Ts.e, Ts.e, 0⟩ : Ts)) := (by unfold Hid; show Ts.comment ((⟨15, Ts.e, false, Ts.e, Ts.e, 0⟩ : Ts).to 15) c = _; unfold Ts.comment; rw [if_pos h45]; rfl)
  have t62 := Tp.n62 h62
  have t45 := Tp.y45 h45
  clear h62 h45
  go_enter Tryz.func123, Tryz.ntmps123
  go_wp2_with (fail)
  refine bodyPost_ret (v := .agg #[.int .i64 16, .string ⟨#[]⟩, .bool false, .string ⟨#[]⟩, .string ⟨#[]⟩, .int .i64 0]) (by simp [results, Tryz.results123, go_sem]) rfl ⟨Rs.agg (X := (⟨16, Ts.e, false, Ts.e, Ts.e, 0⟩ : Ts)) HR.out.symm, ?_⟩
  repeat' first | exact Below.refl _ _ | refine Below.drew ?_ | refine Below.alloc ?_ (by first | (simp; done) | (simp; omega) | omega) _
 have HR : Hid ((⟨15, Ts.e, false, Ts.e, Ts.e, 0⟩ : Ts).step c = (⟨15, Ts.e, false, Ts.e, Ts.e, 0⟩ : Ts)) := (by unfold Hid; show Ts.comment ((⟨15, Ts.e, false, Ts.e, Ts.e, 0⟩ : Ts).to 15) c = _; unfold Ts.comment; rw [if_neg h45]; rfl)
 have t45 := Tp.n45 h45
 have t62 := Tp.n62 h62
 clear h45 h62
 go_enter Tryz.func123, Tryz.ntmps123
 go_wp2_with (fail)
 refine bodyPost_ret (v := .agg #[.int .i64 15, .string ⟨#[]⟩, .bool false, .string ⟨#[]⟩, .string ⟨#[]⟩, .int .i64 0]) (by simp [results, Tryz.results123, go_sem]) rfl ⟨Rs.agg (X := (⟨15, Ts.e, false, Ts.e, Ts.e, 0⟩ : Ts)) HR.out.symm, ?_⟩
 repeat' first | exact Below.refl _ _ | refine Below.drew ?_ | refine Below.alloc ?_ (by first | (simp; done) | (simp; omega) | omega) _
set_option maxRecDepth 100000 in
set_option maxHeartbeats 2000000 in
theorem Rs.comments_16 (c : UInt8) (w : World) : Calls Tryz.prog 123 #[.agg #[.int .i64 16, .string ⟨#[]⟩, .bool false, .string ⟨#[]⟩, .string ⟨#[]⟩, .int .i64 0], .int .u8 c.toNat] w fun e w' => e = .returned (.agg #[.int .i64 ((⟨16, Ts.e, false, Ts.e, Ts.e, 0⟩ : Ts).step c).pl, .string ((⟨16, Ts.e, false, Ts.e, Ts.e, 0⟩ : Ts).step c).name, .bool ((⟨16, Ts.e, false, Ts.e, Ts.e, 0⟩ : Ts).step c).fin, .string ((⟨16, Ts.e, false, Ts.e, Ts.e, 0⟩ : Ts).step c).attr, .string ((⟨16, Ts.e, false, Ts.e, Ts.e, 0⟩ : Ts).step c).held, .int .i64 ((⟨16, Ts.e, false, Ts.e, Ts.e, 0⟩ : Ts).step c).read]) ∧ Below w.heap.size w w' := by
 by_cases h62 : c = 62
 ·
  have h45 : ¬ c = 45 := by rw [h62]; decide
  have HR : Hid ((⟨16, Ts.e, false, Ts.e, Ts.e, 0⟩ : Ts).step c = (⟨15, Ts.e, false, Ts.e, Ts.e, 0⟩ : Ts)) := (by unfold Hid; show Ts.commentDash ((⟨16, Ts.e, false, Ts.e, Ts.e, 0⟩ : Ts).to 16) c = _; unfold Ts.commentDash; rw [if_neg h45]; rfl)
  have t45 := Tp.n45 h45
  have t62 := Tp.y62 h62
  clear h45 h62
  go_enter Tryz.func123, Tryz.ntmps123
  go_wp2_with (fail)
  refine bodyPost_ret (v := .agg #[.int .i64 15, .string ⟨#[]⟩, .bool false, .string ⟨#[]⟩, .string ⟨#[]⟩, .int .i64 0]) (by simp [results, Tryz.results123, go_sem]) rfl ⟨Rs.agg (X := (⟨15, Ts.e, false, Ts.e, Ts.e, 0⟩ : Ts)) HR.out.symm, ?_⟩
  repeat' first | exact Below.refl _ _ | refine Below.drew ?_ | refine Below.alloc ?_ (by first | (simp; done) | (simp; omega) | omega) _
 by_cases h45 : c = 45
 ·
  have HR : Hid ((⟨16, Ts.e, false, Ts.e, Ts.e, 0⟩ : Ts).step c = (⟨17, Ts.e, false, Ts.e, Ts.e, 0⟩ : Ts)) := (by unfold Hid; show Ts.commentDash ((⟨16, Ts.e, false, Ts.e, Ts.e, 0⟩ : Ts).to 16) c = _; unfold Ts.commentDash; rw [if_pos h45]; rfl)
  have t62 := Tp.n62 h62
  have t45 := Tp.y45 h45
  clear h62 h45
  go_enter Tryz.func123, Tryz.ntmps123
  go_wp2_with (fail)
  refine bodyPost_ret (v := .agg #[.int .i64 17, .string ⟨#[]⟩, .bool false, .string ⟨#[]⟩, .string ⟨#[]⟩, .int .i64 0]) (by simp [results, Tryz.results123, go_sem]) rfl ⟨Rs.agg (X := (⟨17, Ts.e, false, Ts.e, Ts.e, 0⟩ : Ts)) HR.out.symm, ?_⟩
  repeat' first | exact Below.refl _ _ | refine Below.drew ?_ | refine Below.alloc ?_ (by first | (simp; done) | (simp; omega) | omega) _
 have HR : Hid ((⟨16, Ts.e, false, Ts.e, Ts.e, 0⟩ : Ts).step c = (⟨15, Ts.e, false, Ts.e, Ts.e, 0⟩ : Ts)) := (by unfold Hid; show Ts.commentDash ((⟨16, Ts.e, false, Ts.e, Ts.e, 0⟩ : Ts).to 16) c = _; unfold Ts.commentDash; rw [if_neg h45]; rfl)
 have t45 := Tp.n45 h45
 have t62 := Tp.n62 h62
 clear h45 h62
 go_enter Tryz.func123, Tryz.ntmps123
 go_wp2_with (fail)
 refine bodyPost_ret (v := .agg #[.int .i64 15, .string ⟨#[]⟩, .bool false, .string ⟨#[]⟩, .string ⟨#[]⟩, .int .i64 0]) (by simp [results, Tryz.results123, go_sem]) rfl ⟨Rs.agg (X := (⟨15, Ts.e, false, Ts.e, Ts.e, 0⟩ : Ts)) HR.out.symm, ?_⟩
 repeat' first | exact Below.refl _ _ | refine Below.drew ?_ | refine Below.alloc ?_ (by first | (simp; done) | (simp; omega) | omega) _
set_option maxRecDepth 100000 in
set_option maxHeartbeats 2000000 in
theorem Rs.comments_17 (c : UInt8) (w : World) : Calls Tryz.prog 123 #[.agg #[.int .i64 17, .string ⟨#[]⟩, .bool false, .string ⟨#[]⟩, .string ⟨#[]⟩, .int .i64 0], .int .u8 c.toNat] w fun e w' => e = .returned (.agg #[.int .i64 ((⟨17, Ts.e, false, Ts.e, Ts.e, 0⟩ : Ts).step c).pl, .string ((⟨17, Ts.e, false, Ts.e, Ts.e, 0⟩ : Ts).step c).name, .bool ((⟨17, Ts.e, false, Ts.e, Ts.e, 0⟩ : Ts).step c).fin, .string ((⟨17, Ts.e, false, Ts.e, Ts.e, 0⟩ : Ts).step c).attr, .string ((⟨17, Ts.e, false, Ts.e, Ts.e, 0⟩ : Ts).step c).held, .int .i64 ((⟨17, Ts.e, false, Ts.e, Ts.e, 0⟩ : Ts).step c).read]) ∧ Below w.heap.size w w' := by
 by_cases h62 : c = 62
 ·
  have h45 : ¬ c = 45 := by rw [h62]; decide
  have HR : Hid ((⟨17, Ts.e, false, Ts.e, Ts.e, 0⟩ : Ts).step c = (⟨0, Ts.e, false, Ts.e, Ts.e, 0⟩ : Ts)) := (by unfold Hid; show Ts.commentEnd ((⟨17, Ts.e, false, Ts.e, Ts.e, 0⟩ : Ts).to 17) c = _; unfold Ts.commentEnd; rw [if_pos h62]; rfl)
  have t45 := Tp.n45 h45
  have t62 := Tp.y62 h62
  clear h45 h62
  go_enter Tryz.func123, Tryz.ntmps123
  go_wp2_with (fail)
  refine bodyPost_ret (v := .agg #[.int .i64 0, .string ⟨#[]⟩, .bool false, .string ⟨#[]⟩, .string ⟨#[]⟩, .int .i64 0]) (by simp [results, Tryz.results123, go_sem]) rfl ⟨Rs.agg (X := (⟨0, Ts.e, false, Ts.e, Ts.e, 0⟩ : Ts)) HR.out.symm, ?_⟩
  repeat' first | exact Below.refl _ _ | refine Below.drew ?_ | refine Below.alloc ?_ (by first | (simp; done) | (simp; omega) | omega) _
 by_cases h45 : c = 45
 ·
  have HR : Hid ((⟨17, Ts.e, false, Ts.e, Ts.e, 0⟩ : Ts).step c = (⟨17, Ts.e, false, Ts.e, Ts.e, 0⟩ : Ts)) := (by unfold Hid; show Ts.commentEnd ((⟨17, Ts.e, false, Ts.e, Ts.e, 0⟩ : Ts).to 17) c = _; unfold Ts.commentEnd; rw [if_neg h62, if_pos h45]; rfl)
  have t62 := Tp.n62 h62
  have t45 := Tp.y45 h45
  clear h62 h45
  go_enter Tryz.func123, Tryz.ntmps123
  go_wp2_with (fail)
  refine bodyPost_ret (v := .agg #[.int .i64 17, .string ⟨#[]⟩, .bool false, .string ⟨#[]⟩, .string ⟨#[]⟩, .int .i64 0]) (by simp [results, Tryz.results123, go_sem]) rfl ⟨Rs.agg (X := (⟨17, Ts.e, false, Ts.e, Ts.e, 0⟩ : Ts)) HR.out.symm, ?_⟩
  repeat' first | exact Below.refl _ _ | refine Below.drew ?_ | refine Below.alloc ?_ (by first | (simp; done) | (simp; omega) | omega) _
 have HR : Hid ((⟨17, Ts.e, false, Ts.e, Ts.e, 0⟩ : Ts).step c = (⟨15, Ts.e, false, Ts.e, Ts.e, 0⟩ : Ts)) := (by unfold Hid; show Ts.commentEnd ((⟨17, Ts.e, false, Ts.e, Ts.e, 0⟩ : Ts).to 17) c = _; unfold Ts.commentEnd; rw [if_neg h62, if_neg h45]; rfl)
 have t45 := Tp.n45 h45
 have t62 := Tp.n62 h62
 clear h45 h62
 go_enter Tryz.func123, Tryz.ntmps123
 go_wp2_with (fail)
 refine bodyPost_ret (v := .agg #[.int .i64 15, .string ⟨#[]⟩, .bool false, .string ⟨#[]⟩, .string ⟨#[]⟩, .int .i64 0]) (by simp [results, Tryz.results123, go_sem]) rfl ⟨Rs.agg (X := (⟨15, Ts.e, false, Ts.e, Ts.e, 0⟩ : Ts)) HR.out.symm, ?_⟩
 repeat' first | exact Below.refl _ _ | refine Below.drew ?_ | refine Below.alloc ?_ (by first | (simp; done) | (simp; omega) | omega) _
set_option maxRecDepth 100000 in
set_option maxHeartbeats 2000000 in
theorem Rs.comments_18 (c : UInt8) (w : World) : Calls Tryz.prog 123 #[.agg #[.int .i64 18, .string ⟨#[]⟩, .bool false, .string ⟨#[]⟩, .string ⟨#[]⟩, .int .i64 0], .int .u8 c.toNat] w fun e w' => e = .returned (.agg #[.int .i64 ((⟨18, Ts.e, false, Ts.e, Ts.e, 0⟩ : Ts).step c).pl, .string ((⟨18, Ts.e, false, Ts.e, Ts.e, 0⟩ : Ts).step c).name, .bool ((⟨18, Ts.e, false, Ts.e, Ts.e, 0⟩ : Ts).step c).fin, .string ((⟨18, Ts.e, false, Ts.e, Ts.e, 0⟩ : Ts).step c).attr, .string ((⟨18, Ts.e, false, Ts.e, Ts.e, 0⟩ : Ts).step c).held, .int .i64 ((⟨18, Ts.e, false, Ts.e, Ts.e, 0⟩ : Ts).step c).read]) ∧ Below w.heap.size w w' := by
 by_cases h62 : c = 62
 ·
  have h45 : ¬ c = 45 := by rw [h62]; decide
  have HR : Hid ((⟨18, Ts.e, false, Ts.e, Ts.e, 0⟩ : Ts).step c = (⟨0, Ts.e, false, Ts.e, Ts.e, 0⟩ : Ts)) := (by unfold Hid; show Ts.bogus ((⟨18, Ts.e, false, Ts.e, Ts.e, 0⟩ : Ts).to 18) c = _; unfold Ts.bogus; rw [if_pos h62]; rfl)
  have t45 := Tp.n45 h45
  have t62 := Tp.y62 h62
  clear h45 h62
  go_enter Tryz.func123, Tryz.ntmps123
  go_wp2_with (fail)
  refine bodyPost_ret (v := .agg #[.int .i64 0, .string ⟨#[]⟩, .bool false, .string ⟨#[]⟩, .string ⟨#[]⟩, .int .i64 0]) (by simp [results, Tryz.results123, go_sem]) rfl ⟨Rs.agg (X := (⟨0, Ts.e, false, Ts.e, Ts.e, 0⟩ : Ts)) HR.out.symm, ?_⟩
  repeat' first | exact Below.refl _ _ | refine Below.drew ?_ | refine Below.alloc ?_ (by first | (simp; done) | (simp; omega) | omega) _
 by_cases h45 : c = 45
 ·
  have HR : Hid ((⟨18, Ts.e, false, Ts.e, Ts.e, 0⟩ : Ts).step c = (⟨18, Ts.e, false, Ts.e, Ts.e, 0⟩ : Ts)) := (by unfold Hid; show Ts.bogus ((⟨18, Ts.e, false, Ts.e, Ts.e, 0⟩ : Ts).to 18) c = _; unfold Ts.bogus; rw [if_neg h62]; rfl)
  have t45 := Tp.y45 h45
  have t62 := Tp.n62 h62
  clear h45 h62
  go_enter Tryz.func123, Tryz.ntmps123
  go_wp2_with (fail)
  refine bodyPost_ret (v := .agg #[.int .i64 18, .string ⟨#[]⟩, .bool false, .string ⟨#[]⟩, .string ⟨#[]⟩, .int .i64 0]) (by simp [results, Tryz.results123, go_sem]) rfl ⟨Rs.agg (X := (⟨18, Ts.e, false, Ts.e, Ts.e, 0⟩ : Ts)) HR.out.symm, ?_⟩
  repeat' first | exact Below.refl _ _ | refine Below.drew ?_ | refine Below.alloc ?_ (by first | (simp; done) | (simp; omega) | omega) _
 have HR : Hid ((⟨18, Ts.e, false, Ts.e, Ts.e, 0⟩ : Ts).step c = (⟨18, Ts.e, false, Ts.e, Ts.e, 0⟩ : Ts)) := (by unfold Hid; show Ts.bogus ((⟨18, Ts.e, false, Ts.e, Ts.e, 0⟩ : Ts).to 18) c = _; unfold Ts.bogus; rw [if_neg h62]; rfl)
 have t45 := Tp.n45 h45
 have t62 := Tp.n62 h62
 clear h45 h62
 go_enter Tryz.func123, Tryz.ntmps123
 go_wp2_with (fail)
 refine bodyPost_ret (v := .agg #[.int .i64 18, .string ⟨#[]⟩, .bool false, .string ⟨#[]⟩, .string ⟨#[]⟩, .int .i64 0]) (by simp [results, Tryz.results123, go_sem]) rfl ⟨Rs.agg (X := (⟨18, Ts.e, false, Ts.e, Ts.e, 0⟩ : Ts)) HR.out.symm, ?_⟩
 repeat' first | exact Below.refl _ _ | refine Below.drew ?_ | refine Below.alloc ?_ (by first | (simp; done) | (simp; omega) | omega) _
end Go.Proofs.YtblpkjlodncpeaaGreatDoor
