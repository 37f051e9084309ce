/-
  THE WALKS of the reference's Clean and Step.
-/
import Derived.Test.YtblpkjlodncpeaaGreatDoorBTRs3
import Derived.Test.YtblpkjlodncpeaaGreatDoorBTRs4toTRs6
namespace Go.Proofs.YtblpkjlodncpeaaGreatDoor
open Go.RowKit
theorem Rs.inTag (a : Int) (b : Bool) (hb : Ts.inTag a = b) (w : World) : Calls Tryz.prog 88 #[.int .i64 a] w fun e w' => e = .returned (.bool b) ∧ w' = w := by
 subst hb
 unfold Ts.inTag
 by_cases g1 : 3 ≤ a
 ·
  have d1 : decide (3 ≤ a) = true := decide_eq_true g1
  by_cases g2 : a ≤ 12
  ·
   have d2 : decide (a ≤ 12) = true := decide_eq_true g2
   rw [d1, d2]
   go_enter Tryz.func88, Tryz.ntmps88
   go_wp2
   go_ret
   exact ⟨rfl, rfl⟩
  ·
   have d2 : decide (a ≤ 12) = false := decide_eq_false g2
   rw [d1, d2]
   go_enter Tryz.func88, Tryz.ntmps88
   go_wp2
   go_ret
   exact ⟨rfl, rfl⟩
 ·
  have d1 : decide (3 ≤ a) = false := decide_eq_false g1
  rw [d1]
  go_enter Tryz.func88, Tryz.ntmps88
  go_wp2
  go_ret
  exact ⟨rfl, rfl⟩
set_option maxRecDepth 100000 in
set_option maxHeartbeats 2000000 in
theorem Rs.clean_0 (w : World) : Calls Tryz.prog 119 #[.agg #[.int .i64 0, .string ⟨#[]⟩, .bool false, .string ⟨#[]⟩, .string ⟨#[]⟩, .int .i64 0]] w fun e w' => e = .returned (.agg #[.int .i64 0, .string ⟨#[]⟩, .bool false, .string ⟨#[]⟩, .string ⟨#[]⟩, .int .i64 0]) ∧ w' = (w.alloc (.cells #[.int .i64 0, .string ⟨#[]⟩, .bool false, .string ⟨#[]⟩, .string ⟨#[]⟩, .int .i64 0] 76)).alloc (.cells #[.int .i64 0, .string ⟨#[]⟩, .bool false, .string ⟨#[]⟩, .string ⟨#[]⟩, .int .i64 0] 76) := by
 have hit := fun u => Rs.inTag 0 false (by decide) u
 go_enter Tryz.func119, Tryz.ntmps119
 go_wp2_with (first | (go_at_call 88; refine (hit _).mono ?_; rintro e w' ⟨rfl, rfl⟩))
 refine bodyPost_ret (v := .agg #[.int .i64 0, .string ⟨#[]⟩, .bool false, .string ⟨#[]⟩, .string ⟨#[]⟩, .int .i64 0]) (by simp [results, Tryz.results119, go_sem]) rfl ⟨rfl, ?_⟩
 simp
set_option maxRecDepth 100000 in
set_option maxHeartbeats 2000000 in
theorem Rs.clean_1 (w : World) : Calls Tryz.prog 119 #[.agg #[.int .i64 1, .string ⟨#[]⟩, .bool false, .string ⟨#[]⟩, .string ⟨#[]⟩, .int .i64 0]] w fun e w' => e = .returned (.agg #[.int .i64 1, .string ⟨#[]⟩, .bool false, .string ⟨#[]⟩, .string ⟨#[]⟩, .int .i64 0]) ∧ w' = (w.alloc (.cells #[.int .i64 1, .string ⟨#[]⟩, .bool false, .string ⟨#[]⟩, .string ⟨#[]⟩, .int .i64 0] 76)).alloc (.cells #[.int .i64 1, .string ⟨#[]⟩, .bool false, .string ⟨#[]⟩, .string ⟨#[]⟩, .int .i64 0] 76) := by
 have hit := fun u => Rs.inTag 1 false (by decide) u
 go_enter Tryz.func119, Tryz.ntmps119
 go_wp2_with (first | (go_at_call 88; refine (hit _).mono ?_; rintro e w' ⟨rfl, rfl⟩))
 refine bodyPost_ret (v := .agg #[.int .i64 1, .string ⟨#[]⟩, .bool false, .string ⟨#[]⟩, .string ⟨#[]⟩, .int .i64 0]) (by simp [results, Tryz.results119, go_sem]) rfl ⟨rfl, ?_⟩
 simp
set_option maxRecDepth 100000 in
set_option maxHeartbeats 2000000 in
theorem Rs.clean_2 (w : World) : Calls Tryz.prog 119 #[.agg #[.int .i64 2, .string ⟨#[]⟩, .bool false, .string ⟨#[]⟩, .string ⟨#[]⟩, .int .i64 0]] w fun e w' => e = .returned (.agg #[.int .i64 2, .string ⟨#[]⟩, .bool false, .string ⟨#[]⟩, .string ⟨#[]⟩, .int .i64 0]) ∧ w' = (w.alloc (.cells #[.int .i64 2, .string ⟨#[]⟩, .bool false, .string ⟨#[]⟩, .string ⟨#[]⟩, .int .i64 0] 76)).alloc (.cells #[.int .i64 2, .string ⟨#[]⟩, .bool false, .string ⟨#[]⟩, .string ⟨#[]⟩, .int .i64 0] 76) := by
 have hit := fun u => Rs.inTag 2 false (by decide) u
 go_enter Tryz.func119, Tryz.ntmps119
 go_wp2_with (first | (go_at_call 88; refine (hit _).mono ?_; rintro e w' ⟨rfl, rfl⟩))
 refine bodyPost_ret (v := .agg #[.int .i64 2, .string ⟨#[]⟩, .bool false, .string ⟨#[]⟩, .string ⟨#[]⟩, .int .i64 0]) (by simp [results, Tryz.results119, go_sem]) rfl ⟨rfl, ?_⟩
 simp
set_option maxRecDepth 100000 in
set_option maxHeartbeats 2000000 in
theorem Rs.clean_3 (n : ByteArray) (f : Bool) (w : World) {V : Array Value} (hV : V = #[.int .i64 3, .string n, .bool f, .string ⟨#[]⟩, .string ⟨#[]⟩, .int .i64 0]) : Calls Tryz.prog 119 #[.agg V] w fun e w' => e = .returned (.agg V) ∧ w' = (((w.alloc (.cells V 76)).alloc (.cells V 76)).alloc (.cells V 76)).alloc (.cells V 76) := by
 subst hV
 have hit := fun u => Rs.inTag 3 true (by decide) u
 have htg := fun u => Rs.tag 3 (⟨3, n, f, Ts.e, Ts.e, 0⟩ : Ts) u
 go_enter Tryz.func119, Tryz.ntmps119
 go_wp2_with (first | (go_at_call 88; refine (hit _).mono ?_; rintro e w' ⟨rfl, rfl⟩) | (go_at_call 141; refine (htg _).mono ?_; rintro e w' ⟨rfl, rfl⟩))
 refine bodyPost_ret (v := .agg #[.int .i64 3, .string n, .bool f, .string ⟨#[]⟩, .string ⟨#[]⟩, .int .i64 0]) (by simp [results, Tryz.results119, go_sem]) rfl ⟨rfl, ?_⟩
 simp [Ts.e]
set_option maxRecDepth 100000 in
set_option maxHeartbeats 2000000 in
theorem Rs.clean_4 (n : ByteArray) (f : Bool) (w : World) {V : Array Value} (hV : V = #[.int .i64 4, .string n, .bool f, .string ⟨#[]⟩, .string ⟨#[]⟩, .int .i64 0]) : Calls Tryz.prog 119 #[.agg V] w fun e w' => e = .returned (.agg V) ∧ w' = (((w.alloc (.cells V 76)).alloc (.cells V 76)).alloc (.cells V 76)).alloc (.cells V 76) := by
 subst hV
 have hit := fun u => Rs.inTag 4 true (by decide) u
 have htg := fun u => Rs.tag 4 (⟨4, n, f, Ts.e, Ts.e, 0⟩ : Ts) u
 go_enter Tryz.func119, Tryz.ntmps119
 go_wp2_with (first | (go_at_call 88; refine (hit _).mono ?_; rintro e w' ⟨rfl, rfl⟩) | (go_at_call 141; refine (htg _).mono ?_; rintro e w' ⟨rfl, rfl⟩))
 refine bodyPost_ret (v := .agg #[.int .i64 4, .string n, .bool f, .string ⟨#[]⟩, .string ⟨#[]⟩, .int .i64 0]) (by simp [results, Tryz.results119, go_sem]) rfl ⟨rfl, ?_⟩
 simp [Ts.e]
set_option maxRecDepth 100000 in
set_option maxHeartbeats 2000000 in
theorem Rs.clean_5 (n : ByteArray) (f : Bool) (a : ByteArray) (w : World) {V : Array Value} (hV : V = #[.int .i64 5, .string n, .bool f, .string a, .string ⟨#[]⟩, .int .i64 0]) : Calls Tryz.prog 119 #[.agg V] w fun e w' => e = .returned (.agg V) ∧ w' = (((w.alloc (.cells V 76)).alloc (.cells V 76)).alloc (.cells V 76)).alloc (.cells V 76) := by
 subst hV
 have hit := fun u => Rs.inTag 5 true (by decide) u
 have hat := fun u => Rs.attr 5 (⟨5, n, f, a, Ts.e, 0⟩ : Ts) a u
 go_enter Tryz.func119, Tryz.ntmps119
 go_wp2_with (first | (go_at_call 88; refine (hit _).mono ?_; rintro e w' ⟨rfl, rfl⟩) | (go_at_call 140; refine (hat _).mono ?_; rintro e w' ⟨rfl, rfl⟩))
 refine bodyPost_ret (v := .agg #[.int .i64 5, .string n, .bool f, .string a, .string ⟨#[]⟩, .int .i64 0]) (by simp [results, Tryz.results119, go_sem]) rfl ⟨rfl, ?_⟩
 simp [Ts.e]
set_option maxRecDepth 100000 in
set_option maxHeartbeats 2000000 in
theorem Rs.clean_6 (n : ByteArray) (f : Bool) (a : ByteArray) (w : World) {V : Array Value} (hV : V = #[.int .i64 6, .string n, .bool f, .string a, .string ⟨#[]⟩, .int .i64 0]) : Calls Tryz.prog 119 #[.agg V] w fun e w' => e = .returned (.agg V) ∧ w' = (((w.alloc (.cells V 76)).alloc (.cells V 76)).alloc (.cells V 76)).alloc (.cells V 76) := by
 subst hV
 have hit := fun u => Rs.inTag 6 true (by decide) u
 have hat := fun u => Rs.attr 6 (⟨6, n, f, a, Ts.e, 0⟩ : Ts) a u
 go_enter Tryz.func119, Tryz.ntmps119
 go_wp2_with (first | (go_at_call 88; refine (hit _).mono ?_; rintro e w' ⟨rfl, rfl⟩) | (go_at_call 140; refine (hat _).mono ?_; rintro e w' ⟨rfl, rfl⟩))
 refine bodyPost_ret (v := .agg #[.int .i64 6, .string n, .bool f, .string a, .string ⟨#[]⟩, .int .i64 0]) (by simp [results, Tryz.results119, go_sem]) rfl ⟨rfl, ?_⟩
 simp [Ts.e]
set_option maxRecDepth 100000 in
set_option maxHeartbeats 2000000 in
theorem Rs.clean_7 (n : ByteArray) (f : Bool) (a : ByteArray) (w : World) {V : Array Value} (hV : V = #[.int .i64 7, .string n, .bool f, .string a, .string ⟨#[]⟩, .int .i64 0]) : Calls Tryz.prog 119 #[.agg V] w fun e w' => e = .returned (.agg V) ∧ w' = (((w.alloc (.cells V 76)).alloc (.cells V 76)).alloc (.cells V 76)).alloc (.cells V 76) := by
 subst hV
 have hit := fun u => Rs.inTag 7 true (by decide) u
 have hat := fun u => Rs.attr 7 (⟨7, n, f, a, Ts.e, 0⟩ : Ts) a u
 go_enter Tryz.func119, Tryz.ntmps119
 go_wp2_with (first | (go_at_call 88; refine (hit _).mono ?_; rintro e w' ⟨rfl, rfl⟩) | (go_at_call 140; refine (hat _).mono ?_; rintro e w' ⟨rfl, rfl⟩))
 refine bodyPost_ret (v := .agg #[.int .i64 7, .string n, .bool f, .string a, .string ⟨#[]⟩, .int .i64 0]) (by simp [results, Tryz.results119, go_sem]) rfl ⟨rfl, ?_⟩
 simp [Ts.e]
set_option maxRecDepth 100000 in
set_option maxHeartbeats 2000000 in
theorem Rs.clean_8 (n : ByteArray) (f : Bool) (a : ByteArray) (w : World) {V : Array Value} (hV : V = #[.int .i64 8, .string n, .bool f, .string a, .string ⟨#[]⟩, .int .i64 0]) : Calls Tryz.prog 119 #[.agg V] w fun e w' => e = .returned (.agg V) ∧ w' = (((w.alloc (.cells V 76)).alloc (.cells V 76)).alloc (.cells V 76)).alloc (.cells V 76) := by
 subst hV
 have hit := fun u => Rs.inTag 8 true (by decide) u
 have hat := fun u => Rs.attr 8 (⟨8, n, f, a, Ts.e, 0⟩ : Ts) a u
 go_enter Tryz.func119, Tryz.ntmps119
 go_wp2_with (first | (go_at_call 88; refine (hit _).mono ?_; rintro e w' ⟨rfl, rfl⟩) | (go_at_call 140; refine (hat _).mono ?_; rintro e w' ⟨rfl, rfl⟩))
 refine bodyPost_ret (v := .agg #[.int .i64 8, .string n, .bool f, .string a, .string ⟨#[]⟩, .int .i64 0]) (by simp [results, Tryz.results119, go_sem]) rfl ⟨rfl, ?_⟩
 simp [Ts.e]
set_option maxRecDepth 100000 in
set_option maxHeartbeats 2000000 in
theorem Rs.clean_9 (n : ByteArray) (f : Bool) (a : ByteArray) (w : World) {V : Array Value} (hV : V = #[.int .i64 9, .string n, .bool f, .string a, .string ⟨#[]⟩, .int .i64 0]) : Calls Tryz.prog 119 #[.agg V] w fun e w' => e = .returned (.agg V) ∧ w' = (((w.alloc (.cells V 76)).alloc (.cells V 76)).alloc (.cells V 76)).alloc (.cells V 76) := by
 subst hV
 have hit := fun u => Rs.inTag 9 true (by decide) u
 have hat := fun u => Rs.attr 9 (⟨9, n, f, a, Ts.e, 0⟩ : Ts) a u
 go_enter Tryz.func119, Tryz.ntmps119
 go_wp2_with (first | (go_at_call 88; refine (hit _).mono ?_; rintro e w' ⟨rfl, rfl⟩) | (go_at_call 140; refine (hat _).mono ?_; rintro e w' ⟨rfl, rfl⟩))
 refine bodyPost_ret (v := .agg #[.int .i64 9, .string n, .bool f, .string a, .string ⟨#[]⟩, .int .i64 0]) (by simp [results, Tryz.results119, go_sem]) rfl ⟨rfl, ?_⟩
 simp [Ts.e]
set_option maxRecDepth 100000 in
set_option maxHeartbeats 2000000 in
theorem Rs.clean_10 (n : ByteArray) (f : Bool) (a : ByteArray) (w : World) {V : Array Value} (hV : V = #[.int .i64 10, .string n, .bool f, .string a, .string ⟨#[]⟩, .int .i64 0]) : Calls Tryz.prog 119 #[.agg V] w fun e w' => e = .returned (.agg V) ∧ w' = (((w.alloc (.cells V 76)).alloc (.cells V 76)).alloc (.cells V 76)).alloc (.cells V 76) := by
 subst hV
 have hit := fun u => Rs.inTag 10 true (by decide) u
 have hat := fun u => Rs.attr 10 (⟨10, n, f, a, Ts.e, 0⟩ : Ts) a u
 go_enter Tryz.func119, Tryz.ntmps119
 go_wp2_with (first | (go_at_call 88; refine (hit _).mono ?_; rintro e w' ⟨rfl, rfl⟩) | (go_at_call 140; refine (hat _).mono ?_; rintro e w' ⟨rfl, rfl⟩))
 refine bodyPost_ret (v := .agg #[.int .i64 10, .string n, .bool f, .string a, .string ⟨#[]⟩, .int .i64 0]) (by simp [results, Tryz.results119, go_sem]) rfl ⟨rfl, ?_⟩
 simp [Ts.e]
set_option maxRecDepth 100000 in
set_option maxHeartbeats 2000000 in
theorem Rs.clean_11 (n : ByteArray) (f : Bool) (w : World) {V : Array Value} (hV : V = #[.int .i64 11, .string n, .bool f, .string ⟨#[]⟩, .string ⟨#[]⟩, .int .i64 0]) : Calls Tryz.prog 119 #[.agg V] w fun e w' => e = .returned (.agg V) ∧ w' = (((w.alloc (.cells V 76)).alloc (.cells V 76)).alloc (.cells V 76)).alloc (.cells V 76) := by
 subst hV
 have hit := fun u => Rs.inTag 11 true (by decide) u
 have htg := fun u => Rs.tag 11 (⟨11, n, f, Ts.e, Ts.e, 0⟩ : Ts) u
 go_enter Tryz.func119, Tryz.ntmps119
 go_wp2_with (first | (go_at_call 88; refine (hit _).mono ?_; rintro e w' ⟨rfl, rfl⟩) | (go_at_call 141; refine (htg _).mono ?_; rintro e w' ⟨rfl, rfl⟩))
 refine bodyPost_ret (v := .agg #[.int .i64 11, .string n, .bool f, .string ⟨#[]⟩, .string ⟨#[]⟩, .int .i64 0]) (by simp [results, Tryz.results119, go_sem]) rfl ⟨rfl, ?_⟩
 simp [Ts.e]
set_option maxRecDepth 100000 in
set_option maxHeartbeats 2000000 in
theorem Rs.clean_12 (n : ByteArray) (f : Bool) (w : World) {V : Array Value} (hV : V = #[.int .i64 12, .string n, .bool f, .string ⟨#[]⟩, .string ⟨#[]⟩, .int .i64 0]) : Calls Tryz.prog 119 #[.agg V] w fun e w' => e = .returned (.agg V) ∧ w' = (((w.alloc (.cells V 76)).alloc (.cells V 76)).alloc (.cells V 76)).alloc (.cells V 76) := by
 subst hV
 have hit := fun u => Rs.inTag 12 true (by decide) u
 have htg := fun u => Rs.tag 12 (⟨12, n, f, Ts.e, Ts.e, 0⟩ : Ts) u
 go_enter Tryz.func119, Tryz.ntmps119
 go_wp2_with (first | (go_at_call 88; refine (hit _).mono ?_; rintro e w' ⟨rfl, rfl⟩) | (go_at_call 141; refine (htg _).mono ?_; rintro e w' ⟨rfl, rfl⟩))
 refine bodyPost_ret (v := .agg #[.int .i64 12, .string n, .bool f, .string ⟨#[]⟩, .string ⟨#[]⟩, .int .i64 0]) (by simp [results, Tryz.results119, go_sem]) rfl ⟨rfl, ?_⟩
 simp [Ts.e]
set_option maxRecDepth 100000 in
set_option maxHeartbeats 2000000 in
theorem Rs.clean_13 (w : World) : Calls Tryz.prog 119 #[.agg #[.int .i64 13, .string ⟨#[]⟩, .bool false, .string ⟨#[]⟩, .string ⟨#[]⟩, .int .i64 0]] w fun e w' => e = .returned (.agg #[.int .i64 13, .string ⟨#[]⟩, .bool false, .string ⟨#[]⟩, .string ⟨#[]⟩, .int .i64 0]) ∧ w' = (w.alloc (.cells #[.int .i64 13, .string ⟨#[]⟩, .bool false, .string ⟨#[]⟩, .string ⟨#[]⟩, .int .i64 0] 76)).alloc (.cells #[.int .i64 13, .string ⟨#[]⟩, .bool false, .string ⟨#[]⟩, .string ⟨#[]⟩, .int .i64 0] 76) := by
 have hit := fun u => Rs.inTag 13 false (by decide) u
 go_enter Tryz.func119, Tryz.ntmps119
 go_wp2_with (first | (go_at_call 88; refine (hit _).mono ?_; rintro e w' ⟨rfl, rfl⟩))
 refine bodyPost_ret (v := .agg #[.int .i64 13, .string ⟨#[]⟩, .bool false, .string ⟨#[]⟩, .string ⟨#[]⟩, .int .i64 0]) (by simp [results, Tryz.results119, go_sem]) rfl ⟨rfl, ?_⟩
 simp
set_option maxRecDepth 100000 in
set_option maxHeartbeats 2000000 in
theorem Rs.clean_14 (w : World) : Calls Tryz.prog 119 #[.agg #[.int .i64 14, .string ⟨#[]⟩, .bool false, .string ⟨#[]⟩, .string ⟨#[]⟩, .int .i64 0]] w fun e w' => e = .returned (.agg #[.int .i64 14, .string ⟨#[]⟩, .bool false, .string ⟨#[]⟩, .string ⟨#[]⟩, .int .i64 0]) ∧ w' = (w.alloc (.cells #[.int .i64 14, .string ⟨#[]⟩, .bool false, .string ⟨#[]⟩, .string ⟨#[]⟩, .int .i64 0] 76)).alloc (.cells #[.int .i64 14, .string ⟨#[]⟩, .bool false, .string ⟨#[]⟩, .string ⟨#[]⟩, .int .i64 0] 76) := by
 have hit := fun u => Rs.inTag 14 false (by decide) u
 go_enter Tryz.func119, Tryz.ntmps119
 go_wp2_with (first | (go_at_call 88; refine (hit _).mono ?_; rintro e w' ⟨rfl, rfl⟩))
 refine bodyPost_ret (v := .agg #[.int .i64 14, .string ⟨#[]⟩, .bool false, .string ⟨#[]⟩, .string ⟨#[]⟩, .int .i64 0]) (by simp [results, Tryz.results119, go_sem]) rfl ⟨rfl, ?_⟩
 simp
set_option maxRecDepth 100000 in
set_option maxHeartbeats 2000000 in
theorem Rs.clean_15 (w : World) : Calls Tryz.prog 119 #[.agg #[.int .i64 15, .string ⟨#[]⟩, .bool false, .string ⟨#[]⟩, .string ⟨#[]⟩, .int .i64 0]] w fun e w' => e = .returned (.agg #[.int .i64 15, .string ⟨#[]⟩, .bool false, .string ⟨#[]⟩, .string ⟨#[]⟩, .int .i64 0]) ∧ w' = (w.alloc (.cells #[.int .i64 15, .string ⟨#[]⟩, .bool false, .string ⟨#[]⟩, .string ⟨#[]⟩, .int .i64 0] 76)).alloc (.cells #[.int .i64 15, .string ⟨#[]⟩, .bool false, .string ⟨#[]⟩, .string ⟨#[]⟩, .int .i64 0] 76) := by
 have hit := fun u => Rs.inTag 15 false (by decide) u
 go_enter Tryz.func119, Tryz.ntmps119
 go_wp2_with (first | (go_at_call 88; refine (hit _).mono ?_; rintro e w' ⟨rfl, rfl⟩))
 refine bodyPost_ret (v := .agg #[.int .i64 15, .string ⟨#[]⟩, .bool false, .string ⟨#[]⟩, .string ⟨#[]⟩, .int .i64 0]) (by simp [results, Tryz.results119, go_sem]) rfl ⟨rfl, ?_⟩
 simp
set_option maxRecDepth 100000 in
set_option maxHeartbeats 2000000 in
theorem Rs.clean_16 (w : World) : Calls Tryz.prog 119 #[.agg #[.int .i64 16, .string ⟨#[]⟩, .bool false, .string ⟨#[]⟩, .string ⟨#[]⟩, .int .i64 0]] w fun e w' => e = .returned (.agg #[.int .i64 16, .string ⟨#[]⟩, .bool false, .string ⟨#[]⟩, .string ⟨#[]⟩, .int .i64 0]) ∧ w' = (w.alloc (.cells #[.int .i64 16, .string ⟨#[]⟩, .bool false, .string ⟨#[]⟩, .string ⟨#[]⟩, .int .i64 0] 76)).alloc (.cells #[.int .i64 16, .string ⟨#[]⟩, .bool false, .string ⟨#[]⟩, .string ⟨#[]⟩, .int .i64 0] 76) := by
 have hit := fun u => Rs.inTag 16 false (by decide) u
 go_enter Tryz.func119, Tryz.ntmps119
 go_wp2_with (first | (go_at_call 88; refine (hit _).mono ?_; rintro e w' ⟨rfl, rfl⟩))
 refine bodyPost_ret (v := .agg #[.int .i64 16, .string ⟨#[]⟩, .bool false, .string ⟨#[]⟩, .string ⟨#[]⟩, .int .i64 0]) (by simp [results, Tryz.results119, go_sem]) rfl ⟨rfl, ?_⟩
 simp
set_option maxRecDepth 100000 in
set_option maxHeartbeats 2000000 in
theorem Rs.clean_17 (w : World) : Calls Tryz.prog 119 #[.agg #[.int .i64 17, .string ⟨#[]⟩, .bool false, .string ⟨#[]⟩, .string ⟨#[]⟩, .int .i64 0]] w fun e w' => e = .returned (.agg #[.int .i64 17, .string ⟨#[]⟩, .bool false, .string ⟨#[]⟩, .string ⟨#[]⟩, .int .i64 0]) ∧ w' = (w.alloc (.cells #[.int .i64 17, .string ⟨#[]⟩, .bool false, .string ⟨#[]⟩, .string ⟨#[]⟩, .int .i64 0] 76)).alloc (.cells #[.int .i64 17, .string ⟨#[]⟩, .bool false, .string ⟨#[]⟩, .string ⟨#[]⟩, .int .i64 0] 76) := by
 have hit := fun u => Rs.inTag 17 false (by decide) u
 go_enter Tryz.func119, Tryz.ntmps119
 go_wp2_with (first | (go_at_call 88; refine (hit _).mono ?_; rintro e w' ⟨rfl, rfl⟩))
 refine bodyPost_ret (v := .agg #[.int .i64 17, .string ⟨#[]⟩, .bool false, .string ⟨#[]⟩, .string ⟨#[]⟩, .int .i64 0]) (by simp [results, Tryz.results119, go_sem]) rfl ⟨rfl, ?_⟩
 simp
set_option maxRecDepth 100000 in
set_option maxHeartbeats 2000000 in
theorem Rs.clean_18 (w : World) : Calls Tryz.prog 119 #[.agg #[.int .i64 18, .string ⟨#[]⟩, .bool false, .string ⟨#[]⟩, .string ⟨#[]⟩, .int .i64 0]] w fun e w' => e = .returned (.agg #[.int .i64 18, .string ⟨#[]⟩, .bool false, .string ⟨#[]⟩, .string ⟨#[]⟩, .int .i64 0]) ∧ w' = (w.alloc (.cells #[.int .i64 18, .string ⟨#[]⟩, .bool false, .string ⟨#[]⟩, .string ⟨#[]⟩, .int .i64 0] 76)).alloc (.cells #[.int .i64 18, .string ⟨#[]⟩, .bool false, .string ⟨#[]⟩, .string ⟨#[]⟩, .int .i64 0] 76) := by
 have hit := fun u => Rs.inTag 18 false (by decide) u
 go_enter Tryz.func119, Tryz.ntmps119
 go_wp2_with (first | (go_at_call 88; refine (hit _).mono ?_; rintro e w' ⟨rfl, rfl⟩))
 refine bodyPost_ret (v := .agg #[.int .i64 18, .string ⟨#[]⟩, .bool false, .string ⟨#[]⟩, .string ⟨#[]⟩, .int .i64 0]) (by simp [results, Tryz.results119, go_sem]) rfl ⟨rfl, ?_⟩
 simp
set_option maxRecDepth 100000 in
set_option maxHeartbeats 2000000 in
theorem Rs.clean_19 (h : ByteArray) (w : World) : Calls Tryz.prog 119 #[.agg #[.int .i64 19, .string ⟨#[]⟩, .bool false, .string ⟨#[]⟩, .string h, .int .i64 0]] w fun e w' => e = .returned (.agg #[.int .i64 19, .string ⟨#[]⟩, .bool false, .string ⟨#[]⟩, .string h, .int .i64 0]) ∧ w' = (w.alloc (.cells #[.int .i64 19, .string ⟨#[]⟩, .bool false, .string ⟨#[]⟩, .string h, .int .i64 0] 76)).alloc (.cells #[.int .i64 19, .string ⟨#[]⟩, .bool false, .string ⟨#[]⟩, .string h, .int .i64 0] 76) := by
 have hit := fun u => Rs.inTag 19 false (by decide) u
 go_enter Tryz.func119, Tryz.ntmps119
 go_wp2_with (first | (go_at_call 88; refine (hit _).mono ?_; rintro e w' ⟨rfl, rfl⟩))
 refine bodyPost_ret (v := .agg #[.int .i64 19, .string ⟨#[]⟩, .bool false, .string ⟨#[]⟩, .string h, .int .i64 0]) (by simp [results, Tryz.results119, go_sem]) rfl ⟨rfl, ?_⟩
 simp
set_option maxRecDepth 100000 in
set_option maxHeartbeats 2000000 in
theorem Rs.clean_20 (h : ByteArray) (w : World) : Calls Tryz.prog 119 #[.agg #[.int .i64 20, .string ⟨#[]⟩, .bool false, .string ⟨#[]⟩, .string h, .int .i64 0]] w fun e w' => e = .returned (.agg #[.int .i64 20, .string ⟨#[]⟩, .bool false, .string ⟨#[]⟩, .string h, .int .i64 0]) ∧ w' = (w.alloc (.cells #[.int .i64 20, .string ⟨#[]⟩, .bool false, .string ⟨#[]⟩, .string h, .int .i64 0] 76)).alloc (.cells #[.int .i64 20, .string ⟨#[]⟩, .bool false, .string ⟨#[]⟩, .string h, .int .i64 0] 76) := by
 have hit := fun u => Rs.inTag 20 false (by decide) u
 go_enter Tryz.func119, Tryz.ntmps119
 go_wp2_with (first | (go_at_call 88; refine (hit _).mono ?_; rintro e w' ⟨rfl, rfl⟩))
 refine bodyPost_ret (v := .agg #[.int .i64 20, .string ⟨#[]⟩, .bool false, .string ⟨#[]⟩, .string h, .int .i64 0]) (by simp [results, Tryz.results119, go_sem]) rfl ⟨rfl, ?_⟩
 simp
set_option maxRecDepth 100000 in
set_option maxHeartbeats 2000000 in
theorem Rs.clean_21 (h : ByteArray) (w : World) : Calls Tryz.prog 119 #[.agg #[.int .i64 21, .string ⟨#[]⟩, .bool false, .string ⟨#[]⟩, .string h, .int .i64 0]] w fun e w' => e = .returned (.agg #[.int .i64 21, .string ⟨#[]⟩, .bool false, .string ⟨#[]⟩, .string h, .int .i64 0]) ∧ w' = (w.alloc (.cells #[.int .i64 21, .string ⟨#[]⟩, .bool false, .string ⟨#[]⟩, .string h, .int .i64 0] 76)).alloc (.cells #[.int .i64 21, .string ⟨#[]⟩, .bool false, .string ⟨#[]⟩, .string h, .int .i64 0] 76) := by
 have hit := fun u => Rs.inTag 21 false (by decide) u
 go_enter Tryz.func119, Tryz.ntmps119
 go_wp2_with (first | (go_at_call 88; refine (hit _).mono ?_; rintro e w' ⟨rfl, rfl⟩))
 refine bodyPost_ret (v := .agg #[.int .i64 21, .string ⟨#[]⟩, .bool false, .string ⟨#[]⟩, .string h, .int .i64 0]) (by simp [results, Tryz.results119, go_sem]) rfl ⟨rfl, ?_⟩
 simp
set_option maxRecDepth 100000 in
set_option maxHeartbeats 2000000 in
theorem Rs.clean_22 (h : ByteArray) (j : Nat) (w : World) : Calls Tryz.prog 119 #[.agg #[.int .i64 22, .string ⟨#[]⟩, .bool false, .string ⟨#[]⟩, .string h, .int .i64 (j : Int)]] w fun e w' => e = .returned (.agg #[.int .i64 22, .string ⟨#[]⟩, .bool false, .string ⟨#[]⟩, .string h, .int .i64 (j : Int)]) ∧ w' = (w.alloc (.cells #[.int .i64 22, .string ⟨#[]⟩, .bool false, .string ⟨#[]⟩, .string h, .int .i64 (j : Int)] 76)).alloc (.cells #[.int .i64 22, .string ⟨#[]⟩, .bool false, .string ⟨#[]⟩, .string h, .int .i64 (j : Int)] 76) := by
 have hit := fun u => Rs.inTag 22 false (by decide) u
 go_enter Tryz.func119, Tryz.ntmps119
 go_wp2_with (first | (go_at_call 88; refine (hit _).mono ?_; rintro e w' ⟨rfl, rfl⟩))
 refine bodyPost_ret (v := .agg #[.int .i64 22, .string ⟨#[]⟩, .bool false, .string ⟨#[]⟩, .string h, .int .i64 (j : Int)]) (by simp [results, Tryz.results119, go_sem]) rfl ⟨rfl, ?_⟩
 simp
end Go.Proofs.YtblpkjlodncpeaaGreatDoor
