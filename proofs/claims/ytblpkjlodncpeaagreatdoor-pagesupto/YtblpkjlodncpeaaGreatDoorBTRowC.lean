/-
  THE WALKS of tok's functions of a place, from beforeValue to heldLt.
-/
import Derived.Test.YtblpkjlodncpeaaGreatDoorBTLowtoTRowA
namespace Go.Proofs.YtblpkjlodncpeaaGreatDoor
open Go.RowKit
set_option maxHeartbeats 2000000 in
theorem Tp.beforeValue (s : Ts) (c : UInt8) (w : World) : Calls Tryz.prog 59 #[.agg #[.int .i64 s.pl, .string s.name, .bool s.fin, .string s.attr, .string s.held, .int .i64 s.read], .int .u8 c.toNat] w fun e w' => e = .returned (.agg #[.int .i64 (s.beforeValue c).pl, .string (s.beforeValue c).name, .bool (s.beforeValue c).fin, .string (s.beforeValue c).attr, .string (s.beforeValue c).held, .int .i64 (s.beforeValue c).read]) ∧ Below w.heap.size w w' := by
 by_cases h0 : Ts.blank c = true
 ·
  have t0 := h0
  have HX := Lib.hid (show s.beforeValue c = s by unfold Ts.beforeValue; rw [if_pos h0])
  clear h0
  go_enter Tryz.func59, Tryz.ntmps59
  go_wp2_with (first | (go_at_call 101; refine (Tp.isBlank c _).mono ?_; rintro e w' ⟨rfl, rfl⟩))
  refine bodyPost_ret (v := Ts.v s) (by simp [results, Tryz.results59, go_sem, Ts.v]) rfl ⟨Tp.ret (HX.out.symm), ?_⟩
  exact Tp.two _ _ _
 by_cases h1 : c = 34
 ·
  have t0 := Bool.eq_false_iff.2 h0
  have t1 : ((c.toNat : Int) == 34) = true := Tp.eq_true h1
  have HX := Lib.hid (show s.beforeValue c = (s.to 8) by unfold Ts.beforeValue; rw [if_neg h0, if_pos h1])
  clear h0 h1
  go_enter Tryz.func59, Tryz.ntmps59
  go_wp2_with (first | (go_at_call 101; refine (Tp.isBlank c _).mono ?_; rintro e w' ⟨rfl, rfl⟩) | (go_at_call 98; refine (Tp.to s _ _).mono ?_; go_loud (rintro e w1 ⟨rfl, hb1⟩; obtain ⟨hl1, hm1, a1_0, a1_1, a1_2, a1_3, a1_4, a1_5, fa1, b1_0, b1_1, b1_2, b1_3, b1_4, b1_5, fb1, q1⟩ := Tp.kp hb1; clear hb1)))
  refine bodyPost_ret (v := Ts.v (s.to 8)) (by simp [results, Tryz.results59, go_sem, Ts.v, *]) rfl ⟨Tp.ret (HX.out.symm), ?_⟩
  repeat (refine Below.setCell ?_ (by simp) _)
  exact q1
 by_cases h2 : c = 39
 ·
  have t0 := Bool.eq_false_iff.2 h0
  have t1 := Tp.n34 h1
  have t2 : ((c.toNat : Int) == 39) = true := Tp.eq_true h2
  have HX := Lib.hid (show s.beforeValue c = (s.to 9) by unfold Ts.beforeValue; rw [if_neg h0, if_neg h1, if_pos h2])
  clear h0 h1 h2
  go_enter Tryz.func59, Tryz.ntmps59
  go_wp2_with (first | (go_at_call 101; refine (Tp.isBlank c _).mono ?_; rintro e w' ⟨rfl, rfl⟩) | (go_at_call 98; refine (Tp.to s _ _).mono ?_; go_loud (rintro e w1 ⟨rfl, hb1⟩; obtain ⟨hl1, hm1, a1_0, a1_1, a1_2, a1_3, a1_4, a1_5, fa1, b1_0, b1_1, b1_2, b1_3, b1_4, b1_5, fb1, q1⟩ := Tp.kp hb1; clear hb1)))
  refine bodyPost_ret (v := Ts.v (s.to 9)) (by simp [results, Tryz.results59, go_sem, Ts.v, *]) rfl ⟨Tp.ret (HX.out.symm), ?_⟩
  repeat (refine Below.setCell ?_ (by simp) _)
  exact q1
 by_cases h3 : c = 62
 ·
  have t0 := Bool.eq_false_iff.2 h0
  have t1 := Tp.n34 h1
  have t2 := Tp.n39 h2
  have t3 := Tp.y62 h3
  have HX := Lib.hid (show s.beforeValue c = s.closed by unfold Ts.beforeValue; rw [if_neg h0, if_neg h1, if_neg h2, if_pos h3])
  clear h0 h1 h2 h3
  go_enter Tryz.func59, Tryz.ntmps59
  go_wp2_with (first | (go_at_call 101; refine (Tp.isBlank c _).mono ?_; rintro e w' ⟨rfl, rfl⟩) | (go_at_call 102; refine (Tp.closed s _).mono ?_; go_loud (rintro e w1 ⟨rfl, hb1⟩; obtain ⟨hl1, hm1, a1_0, a1_1, a1_2, a1_3, a1_4, a1_5, fa1, b1_0, b1_1, b1_2, b1_3, b1_4, b1_5, fb1, q1⟩ := Tp.kp hb1; clear hb1)))
  refine bodyPost_ret (v := Ts.v s.closed) (by simp [results, Tryz.results59, go_sem, Ts.v, *]) rfl ⟨Tp.ret (HX.out.symm), ?_⟩
  repeat (refine Below.setCell ?_ (by simp) _)
  exact q1
 have t0 := Bool.eq_false_iff.2 h0
 have t1 := Tp.n34 h1
 have t2 := Tp.n39 h2
 have t3 := Tp.n62 h3
 have HX := Lib.hid (show s.beforeValue c = (s.to 10) by unfold Ts.beforeValue; rw [if_neg h0, if_neg h1, if_neg h2, if_neg h3])
 clear h0 h1 h2 h3
 go_enter Tryz.func59, Tryz.ntmps59
 go_wp2_with (first | (go_at_call 101; refine (Tp.isBlank c _).mono ?_; rintro e w' ⟨rfl, rfl⟩) | (go_at_call 98; refine (Tp.to s _ _).mono ?_; go_loud (rintro e w1 ⟨rfl, hb1⟩; obtain ⟨hl1, hm1, a1_0, a1_1, a1_2, a1_3, a1_4, a1_5, fa1, b1_0, b1_1, b1_2, b1_3, b1_4, b1_5, fb1, q1⟩ := Tp.kp hb1; clear hb1)))
 refine bodyPost_ret (v := Ts.v (s.to 10)) (by simp [results, Tryz.results59, go_sem, Ts.v, *]) rfl ⟨Tp.ret (HX.out.symm), ?_⟩
 repeat (refine Below.setCell ?_ (by simp) _)
 exact q1
set_option maxHeartbeats 2000000 in
theorem Tp.bare (s : Ts) (c : UInt8) (w : World) : Calls Tryz.prog 61 #[.agg #[.int .i64 s.pl, .string s.name, .bool s.fin, .string s.attr, .string s.held, .int .i64 s.read], .int .u8 c.toNat] w fun e w' => e = .returned (.agg #[.int .i64 (s.bare c).pl, .string (s.bare c).name, .bool (s.bare c).fin, .string (s.bare c).attr, .string (s.bare c).held, .int .i64 (s.bare c).read]) ∧ Below w.heap.size w w' := by
 by_cases h0 : Ts.blank c = true
 ·
  have t0 := h0
  have HX := Lib.hid (show s.bare c = (s.to 4) by unfold Ts.bare; rw [if_pos h0])
  clear h0
  go_enter Tryz.func61, Tryz.ntmps61
  go_wp2_with (first | (go_at_call 101; refine (Tp.isBlank c _).mono ?_; rintro e w' ⟨rfl, rfl⟩) | (go_at_call 98; refine (Tp.to s _ _).mono ?_; go_loud (rintro e w1 ⟨rfl, hb1⟩; obtain ⟨hl1, hm1, a1_0, a1_1, a1_2, a1_3, a1_4, a1_5, fa1, b1_0, b1_1, b1_2, b1_3, b1_4, b1_5, fb1, q1⟩ := Tp.kp hb1; clear hb1)))
  refine bodyPost_ret (v := Ts.v (s.to 4)) (by simp [results, Tryz.results61, go_sem, Ts.v, *]) rfl ⟨Tp.ret (HX.out.symm), ?_⟩
  repeat (refine Below.setCell ?_ (by simp) _)
  exact q1
 by_cases h1 : c = 62
 ·
  have t0 := Bool.eq_false_iff.2 h0
  have t1 := Tp.y62 h1
  have HX := Lib.hid (show s.bare c = s.closed by unfold Ts.bare; rw [if_neg h0, if_pos h1])
  clear h0 h1
  go_enter Tryz.func61, Tryz.ntmps61
  go_wp2_with (first | (go_at_call 101; refine (Tp.isBlank c _).mono ?_; rintro e w' ⟨rfl, rfl⟩) | (go_at_call 102; refine (Tp.closed s _).mono ?_; go_loud (rintro e w1 ⟨rfl, hb1⟩; obtain ⟨hl1, hm1, a1_0, a1_1, a1_2, a1_3, a1_4, a1_5, fa1, b1_0, b1_1, b1_2, b1_3, b1_4, b1_5, fb1, q1⟩ := Tp.kp hb1; clear hb1)))
  refine bodyPost_ret (v := Ts.v s.closed) (by simp [results, Tryz.results61, go_sem, Ts.v, *]) rfl ⟨Tp.ret (HX.out.symm), ?_⟩
  repeat (refine Below.setCell ?_ (by simp) _)
  exact q1
 have t0 := Bool.eq_false_iff.2 h0
 have t1 := Tp.n62 h1
 have HX := Lib.hid (show s.bare c = s by unfold Ts.bare; rw [if_neg h0, if_neg h1])
 clear h0 h1
 go_enter Tryz.func61, Tryz.ntmps61
 go_wp2_with (first | (go_at_call 101; refine (Tp.isBlank c _).mono ?_; rintro e w' ⟨rfl, rfl⟩))
 refine bodyPost_ret (v := Ts.v s) (by simp [results, Tryz.results61, go_sem, Ts.v]) rfl ⟨Tp.ret (HX.out.symm), ?_⟩
 exact Tp.two _ _ _
set_option maxHeartbeats 2000000 in
theorem Tp.afterValue (s : Ts) (c : UInt8) (w : World) : Calls Tryz.prog 62 #[.agg #[.int .i64 s.pl, .string s.name, .bool s.fin, .string s.attr, .string s.held, .int .i64 s.read], .int .u8 c.toNat] w fun e w' => e = .returned (.agg #[.int .i64 (s.afterValue c).pl, .string (s.afterValue c).name, .bool (s.afterValue c).fin, .string (s.afterValue c).attr, .string (s.afterValue c).held, .int .i64 (s.afterValue c).read]) ∧ Below w.heap.size w w' := by
 by_cases h0 : Ts.blank c = true
 ·
  have t0 := h0
  have HX := Lib.hid (show s.afterValue c = (s.to 4) by unfold Ts.afterValue; rw [if_pos h0])
  clear h0
  go_enter Tryz.func62, Tryz.ntmps62
  go_wp2_with (first | (go_at_call 101; refine (Tp.isBlank c _).mono ?_; rintro e w' ⟨rfl, rfl⟩) | (go_at_call 98; refine (Tp.to s _ _).mono ?_; go_loud (rintro e w1 ⟨rfl, hb1⟩; obtain ⟨hl1, hm1, a1_0, a1_1, a1_2, a1_3, a1_4, a1_5, fa1, b1_0, b1_1, b1_2, b1_3, b1_4, b1_5, fb1, q1⟩ := Tp.kp hb1; clear hb1)))
  refine bodyPost_ret (v := Ts.v (s.to 4)) (by simp [results, Tryz.results62, go_sem, Ts.v, *]) rfl ⟨Tp.ret (HX.out.symm), ?_⟩
  repeat (refine Below.setCell ?_ (by simp) _)
  exact q1
 by_cases h1 : c = 47
 ·
  have t0 := Bool.eq_false_iff.2 h0
  have t1 := Tp.y47 h1
  have HX := Lib.hid (show s.afterValue c = (s.to 12) by unfold Ts.afterValue; rw [if_neg h0, if_pos h1])
  clear h0 h1
  go_enter Tryz.func62, Tryz.ntmps62
  go_wp2_with (first | (go_at_call 101; refine (Tp.isBlank c _).mono ?_; rintro e w' ⟨rfl, rfl⟩) | (go_at_call 98; refine (Tp.to s _ _).mono ?_; go_loud (rintro e w1 ⟨rfl, hb1⟩; obtain ⟨hl1, hm1, a1_0, a1_1, a1_2, a1_3, a1_4, a1_5, fa1, b1_0, b1_1, b1_2, b1_3, b1_4, b1_5, fb1, q1⟩ := Tp.kp hb1; clear hb1)))
  refine bodyPost_ret (v := Ts.v (s.to 12)) (by simp [results, Tryz.results62, go_sem, Ts.v, *]) rfl ⟨Tp.ret (HX.out.symm), ?_⟩
  repeat (refine Below.setCell ?_ (by simp) _)
  exact q1
 by_cases h2 : c = 62
 ·
  have t0 := Bool.eq_false_iff.2 h0
  have t1 := Tp.n47 h1
  have t2 := Tp.y62 h2
  have HX := Lib.hid (show s.afterValue c = s.closed by unfold Ts.afterValue; rw [if_neg h0, if_neg h1, if_pos h2])
  clear h0 h1 h2
  go_enter Tryz.func62, Tryz.ntmps62
  go_wp2_with (first | (go_at_call 101; refine (Tp.isBlank c _).mono ?_; rintro e w' ⟨rfl, rfl⟩) | (go_at_call 102; refine (Tp.closed s _).mono ?_; go_loud (rintro e w1 ⟨rfl, hb1⟩; obtain ⟨hl1, hm1, a1_0, a1_1, a1_2, a1_3, a1_4, a1_5, fa1, b1_0, b1_1, b1_2, b1_3, b1_4, b1_5, fb1, q1⟩ := Tp.kp hb1; clear hb1)))
  refine bodyPost_ret (v := Ts.v s.closed) (by simp [results, Tryz.results62, go_sem, Ts.v, *]) rfl ⟨Tp.ret (HX.out.symm), ?_⟩
  repeat (refine Below.setCell ?_ (by simp) _)
  exact q1
 have t0 := Bool.eq_false_iff.2 h0
 have t1 := Tp.n47 h1
 have t2 := Tp.n62 h2
 have HX := Lib.hid (show s.afterValue c = (s.openAttr c) by unfold Ts.afterValue; rw [if_neg h0, if_neg h1, if_neg h2])
 clear h0 h1 h2
 go_enter Tryz.func62, Tryz.ntmps62
 go_wp2_with (first | (go_at_call 101; refine (Tp.isBlank c _).mono ?_; rintro e w' ⟨rfl, rfl⟩) | (go_at_call 104; refine (Tp.openAttr s c _).mono ?_; go_loud (rintro e w1 ⟨rfl, hb1⟩; obtain ⟨hl1, hm1, a1_0, a1_1, a1_2, a1_3, a1_4, a1_5, fa1, b1_0, b1_1, b1_2, b1_3, b1_4, b1_5, fb1, q1⟩ := Tp.kp hb1; clear hb1)))
 refine bodyPost_ret (v := Ts.v (s.openAttr c)) (by simp [results, Tryz.results62, go_sem, Ts.v, *]) rfl ⟨Tp.ret (HX.out.symm), ?_⟩
 repeat (refine Below.setCell ?_ (by simp) _)
 exact q1
set_option maxHeartbeats 2000000 in
theorem Tp.selfClose (s : Ts) (c : UInt8) (w : World) : Calls Tryz.prog 63 #[.agg #[.int .i64 s.pl, .string s.name, .bool s.fin, .string s.attr, .string s.held, .int .i64 s.read], .int .u8 c.toNat] w fun e w' => e = .returned (.agg #[.int .i64 (s.selfClose c).pl, .string (s.selfClose c).name, .bool (s.selfClose c).fin, .string (s.selfClose c).attr, .string (s.selfClose c).held, .int .i64 (s.selfClose c).read]) ∧ Below w.heap.size w w' := by
 by_cases h0 : c = 62
 ·
  have t0 := Tp.y62 h0
  have HX := Lib.hid (show s.selfClose c = s.closed by unfold Ts.selfClose; rw [if_pos h0])
  clear h0
  go_enter Tryz.func63, Tryz.ntmps63
  go_wp2_with (first | (go_at_call 101; refine (Tp.isBlank c _).mono ?_; rintro e w' ⟨rfl, rfl⟩) | (go_at_call 102; refine (Tp.closed s _).mono ?_; go_loud (rintro e w1 ⟨rfl, hb1⟩; obtain ⟨hl1, hm1, a1_0, a1_1, a1_2, a1_3, a1_4, a1_5, fa1, b1_0, b1_1, b1_2, b1_3, b1_4, b1_5, fb1, q1⟩ := Tp.kp hb1; clear hb1)))
  refine bodyPost_ret (v := Ts.v s.closed) (by simp [results, Tryz.results63, go_sem, Ts.v, *]) rfl ⟨Tp.ret (HX.out.symm), ?_⟩
  repeat (refine Below.setCell ?_ (by simp) _)
  exact q1
 by_cases h1 : Ts.blank c = true
 ·
  have t0 := Tp.n62 h0
  have t1 := h1
  have HX := Lib.hid (show s.selfClose c = (s.to 4) by unfold Ts.selfClose; rw [if_neg h0, if_pos h1])
  clear h0 h1
  go_enter Tryz.func63, Tryz.ntmps63
  go_wp2_with (first | (go_at_call 101; refine (Tp.isBlank c _).mono ?_; rintro e w' ⟨rfl, rfl⟩) | (go_at_call 98; refine (Tp.to s _ _).mono ?_; go_loud (rintro e w1 ⟨rfl, hb1⟩; obtain ⟨hl1, hm1, a1_0, a1_1, a1_2, a1_3, a1_4, a1_5, fa1, b1_0, b1_1, b1_2, b1_3, b1_4, b1_5, fb1, q1⟩ := Tp.kp hb1; clear hb1)))
  refine bodyPost_ret (v := Ts.v (s.to 4)) (by simp [results, Tryz.results63, go_sem, Ts.v, *]) rfl ⟨Tp.ret (HX.out.symm), ?_⟩
  repeat (refine Below.setCell ?_ (by simp) _)
  exact q1
 by_cases h2 : c = 47
 ·
  have t0 := Tp.n62 h0
  have t1 := Bool.eq_false_iff.2 h1
  have t2 := Tp.y47 h2
  have HX := Lib.hid (show s.selfClose c = s by unfold Ts.selfClose; rw [if_neg h0, if_neg h1, if_pos h2])
  clear h0 h1 h2
  go_enter Tryz.func63, Tryz.ntmps63
  go_wp2_with (first | (go_at_call 101; refine (Tp.isBlank c _).mono ?_; rintro e w' ⟨rfl, rfl⟩))
  refine bodyPost_ret (v := Ts.v s) (by simp [results, Tryz.results63, go_sem, Ts.v]) rfl ⟨Tp.ret (HX.out.symm), ?_⟩
  exact Tp.two _ _ _
 have t0 := Tp.n62 h0
 have t1 := Bool.eq_false_iff.2 h1
 have t2 := Tp.n47 h2
 have HX := Lib.hid (show s.selfClose c = (s.openAttr c) by unfold Ts.selfClose; rw [if_neg h0, if_neg h1, if_neg h2])
 clear h0 h1 h2
 go_enter Tryz.func63, Tryz.ntmps63
 go_wp2_with (first | (go_at_call 101; refine (Tp.isBlank c _).mono ?_; rintro e w' ⟨rfl, rfl⟩) | (go_at_call 104; refine (Tp.openAttr s c _).mono ?_; go_loud (rintro e w1 ⟨rfl, hb1⟩; obtain ⟨hl1, hm1, a1_0, a1_1, a1_2, a1_3, a1_4, a1_5, fa1, b1_0, b1_1, b1_2, b1_3, b1_4, b1_5, fb1, q1⟩ := Tp.kp hb1; clear hb1)))
 refine bodyPost_ret (v := Ts.v (s.openAttr c)) (by simp [results, Tryz.results63, go_sem, Ts.v, *]) rfl ⟨Tp.ret (HX.out.symm), ?_⟩
 repeat (refine Below.setCell ?_ (by simp) _)
 exact q1
set_option maxHeartbeats 2000000 in
theorem Tp.bang (s : Ts) (c : UInt8) (w : World) : Calls Tryz.prog 64 #[.agg #[.int .i64 s.pl, .string s.name, .bool s.fin, .string s.attr, .string s.held, .int .i64 s.read], .int .u8 c.toNat] w fun e w' => e = .returned (.agg #[.int .i64 (s.bang c).pl, .string (s.bang c).name, .bool (s.bang c).fin, .string (s.bang c).attr, .string (s.bang c).held, .int .i64 (s.bang c).read]) ∧ Below w.heap.size w w' := by
 by_cases h0 : c = 45
 ·
  have t0 := Tp.y45 h0
  have HX := Lib.hid (show s.bang c = (s.to 14) by unfold Ts.bang; rw [if_pos h0])
  clear h0
  go_enter Tryz.func64, Tryz.ntmps64
  go_wp2_with (first | (go_at_call 98; refine (Tp.to s _ _).mono ?_; go_loud (rintro e w1 ⟨rfl, hb1⟩; obtain ⟨hl1, hm1, a1_0, a1_1, a1_2, a1_3, a1_4, a1_5, fa1, b1_0, b1_1, b1_2, b1_3, b1_4, b1_5, fb1, q1⟩ := Tp.kp hb1; clear hb1)))
  refine bodyPost_ret (v := Ts.v (s.to 14)) (by simp [results, Tryz.results64, go_sem, Ts.v, *]) rfl ⟨Tp.ret (HX.out.symm), ?_⟩
  repeat (refine Below.setCell ?_ (by simp) _)
  exact q1
 by_cases h1 : c = 62
 ·
  have t0 := Tp.n45 h0
  have t1 := Tp.y62 h1
  have HX := Lib.hid (show s.bang c = (s.to 0) by unfold Ts.bang; rw [if_neg h0, if_pos h1])
  clear h0 h1
  go_enter Tryz.func64, Tryz.ntmps64
  go_wp2_with (first | (go_at_call 98; refine (Tp.to s _ _).mono ?_; go_loud (rintro e w1 ⟨rfl, hb1⟩; obtain ⟨hl1, hm1, a1_0, a1_1, a1_2, a1_3, a1_4, a1_5, fa1, b1_0, b1_1, b1_2, b1_3, b1_4, b1_5, fb1, q1⟩ := Tp.kp hb1; clear hb1)))
  refine bodyPost_ret (v := Ts.v (s.to 0)) (by simp [results, Tryz.results64, go_sem, Ts.v, *]) rfl ⟨Tp.ret (HX.out.symm), ?_⟩
  repeat (refine Below.setCell ?_ (by simp) _)
  exact q1
 have t0 := Tp.n45 h0
 have t1 := Tp.n62 h1
 have HX := Lib.hid (show s.bang c = (s.to 18) by unfold Ts.bang; rw [if_neg h0, if_neg h1])
 clear h0 h1
 go_enter Tryz.func64, Tryz.ntmps64
 go_wp2_with (first | (go_at_call 98; refine (Tp.to s _ _).mono ?_; go_loud (rintro e w1 ⟨rfl, hb1⟩; obtain ⟨hl1, hm1, a1_0, a1_1, a1_2, a1_3, a1_4, a1_5, fa1, b1_0, b1_1, b1_2, b1_3, b1_4, b1_5, fb1, q1⟩ := Tp.kp hb1; clear hb1)))
 refine bodyPost_ret (v := Ts.v (s.to 18)) (by simp [results, Tryz.results64, go_sem, Ts.v, *]) rfl ⟨Tp.ret (HX.out.symm), ?_⟩
 repeat (refine Below.setCell ?_ (by simp) _)
 exact q1
set_option maxHeartbeats 2000000 in
theorem Tp.bangDash (s : Ts) (c : UInt8) (w : World) : Calls Tryz.prog 65 #[.agg #[.int .i64 s.pl, .string s.name, .bool s.fin, .string s.attr, .string s.held, .int .i64 s.read], .int .u8 c.toNat] w fun e w' => e = .returned (.agg #[.int .i64 (s.bangDash c).pl, .string (s.bangDash c).name, .bool (s.bangDash c).fin, .string (s.bangDash c).attr, .string (s.bangDash c).held, .int .i64 (s.bangDash c).read]) ∧ Below w.heap.size w w' := by
 by_cases h0 : c = 45
 ·
  have t0 := Tp.y45 h0
  have HX := Lib.hid (show s.bangDash c = (s.to 15) by unfold Ts.bangDash; rw [if_pos h0])
  clear h0
  go_enter Tryz.func65, Tryz.ntmps65
  go_wp2_with (first | (go_at_call 98; refine (Tp.to s _ _).mono ?_; go_loud (rintro e w1 ⟨rfl, hb1⟩; obtain ⟨hl1, hm1, a1_0, a1_1, a1_2, a1_3, a1_4, a1_5, fa1, b1_0, b1_1, b1_2, b1_3, b1_4, b1_5, fb1, q1⟩ := Tp.kp hb1; clear hb1)))
  refine bodyPost_ret (v := Ts.v (s.to 15)) (by simp [results, Tryz.results65, go_sem, Ts.v, *]) rfl ⟨Tp.ret (HX.out.symm), ?_⟩
  repeat (refine Below.setCell ?_ (by simp) _)
  exact q1
 by_cases h1 : c = 62
 ·
  have t0 := Tp.n45 h0
  have t1 := Tp.y62 h1
  have HX := Lib.hid (show s.bangDash c = (s.to 0) by unfold Ts.bangDash; rw [if_neg h0, if_pos h1])
  clear h0 h1
  go_enter Tryz.func65, Tryz.ntmps65
  go_wp2_with (first | (go_at_call 98; refine (Tp.to s _ _).mono ?_; go_loud (rintro e w1 ⟨rfl, hb1⟩; obtain ⟨hl1, hm1, a1_0, a1_1, a1_2, a1_3, a1_4, a1_5, fa1, b1_0, b1_1, b1_2, b1_3, b1_4, b1_5, fb1, q1⟩ := Tp.kp hb1; clear hb1)))
  refine bodyPost_ret (v := Ts.v (s.to 0)) (by simp [results, Tryz.results65, go_sem, Ts.v, *]) rfl ⟨Tp.ret (HX.out.symm), ?_⟩
  repeat (refine Below.setCell ?_ (by simp) _)
  exact q1
 have t0 := Tp.n45 h0
 have t1 := Tp.n62 h1
 have HX := Lib.hid (show s.bangDash c = (s.to 18) by unfold Ts.bangDash; rw [if_neg h0, if_neg h1])
 clear h0 h1
 go_enter Tryz.func65, Tryz.ntmps65
 go_wp2_with (first | (go_at_call 98; refine (Tp.to s _ _).mono ?_; go_loud (rintro e w1 ⟨rfl, hb1⟩; obtain ⟨hl1, hm1, a1_0, a1_1, a1_2, a1_3, a1_4, a1_5, fa1, b1_0, b1_1, b1_2, b1_3, b1_4, b1_5, fb1, q1⟩ := Tp.kp hb1; clear hb1)))
 refine bodyPost_ret (v := Ts.v (s.to 18)) (by simp [results, Tryz.results65, go_sem, Ts.v, *]) rfl ⟨Tp.ret (HX.out.symm), ?_⟩
 repeat (refine Below.setCell ?_ (by simp) _)
 exact q1
set_option maxHeartbeats 2000000 in
theorem Tp.comment (s : Ts) (c : UInt8) (w : World) : Calls Tryz.prog 66 #[.agg #[.int .i64 s.pl, .string s.name, .bool s.fin, .string s.attr, .string s.held, .int .i64 s.read], .int .u8 c.toNat] w fun e w' => e = .returned (.agg #[.int .i64 (s.comment c).pl, .string (s.comment c).name, .bool (s.comment c).fin, .string (s.comment c).attr, .string (s.comment c).held, .int .i64 (s.comment c).read]) ∧ Below w.heap.size w w' := by
 by_cases h0 : c = 45
 ·
  have t0 := Tp.y45 h0
  have HX := Lib.hid (show s.comment c = (s.to 16) by unfold Ts.comment; rw [if_pos h0])
  clear h0
  go_enter Tryz.func66, Tryz.ntmps66
  go_wp2_with (first | (go_at_call 98; refine (Tp.to s _ _).mono ?_; go_loud (rintro e w1 ⟨rfl, hb1⟩; obtain ⟨hl1, hm1, a1_0, a1_1, a1_2, a1_3, a1_4, a1_5, fa1, b1_0, b1_1, b1_2, b1_3, b1_4, b1_5, fb1, q1⟩ := Tp.kp hb1; clear hb1)))
  refine bodyPost_ret (v := Ts.v (s.to 16)) (by simp [results, Tryz.results66, go_sem, Ts.v, *]) rfl ⟨Tp.ret (HX.out.symm), ?_⟩
  repeat (refine Below.setCell ?_ (by simp) _)
  exact q1
 have t0 := Tp.n45 h0
 have HX := Lib.hid (show s.comment c = s by unfold Ts.comment; rw [if_neg h0])
 clear h0
 go_enter Tryz.func66, Tryz.ntmps66
 go_wp2
 refine bodyPost_ret (v := Ts.v s) (by simp [results, Tryz.results66, go_sem, Ts.v]) rfl ⟨Tp.ret (HX.out.symm), ?_⟩
 exact Tp.two _ _ _
set_option maxHeartbeats 2000000 in
theorem Tp.commentDash (s : Ts) (c : UInt8) (w : World) : Calls Tryz.prog 67 #[.agg #[.int .i64 s.pl, .string s.name, .bool s.fin, .string s.attr, .string s.held, .int .i64 s.read], .int .u8 c.toNat] w fun e w' => e = .returned (.agg #[.int .i64 (s.commentDash c).pl, .string (s.commentDash c).name, .bool (s.commentDash c).fin, .string (s.commentDash c).attr, .string (s.commentDash c).held, .int .i64 (s.commentDash c).read]) ∧ Below w.heap.size w w' := by
 by_cases h0 : c = 45
 ·
  have t0 := Tp.y45 h0
  have HX := Lib.hid (show s.commentDash c = (s.to 17) by unfold Ts.commentDash; rw [if_pos h0])
  clear h0
  go_enter Tryz.func67, Tryz.ntmps67
  go_wp2_with (first | (go_at_call 98; refine (Tp.to s _ _).mono ?_; go_loud (rintro e w1 ⟨rfl, hb1⟩; obtain ⟨hl1, hm1, a1_0, a1_1, a1_2, a1_3, a1_4, a1_5, fa1, b1_0, b1_1, b1_2, b1_3, b1_4, b1_5, fb1, q1⟩ := Tp.kp hb1; clear hb1)))
  refine bodyPost_ret (v := Ts.v (s.to 17)) (by simp [results, Tryz.results67, go_sem, Ts.v, *]) rfl ⟨Tp.ret (HX.out.symm), ?_⟩
  repeat (refine Below.setCell ?_ (by simp) _)
  exact q1
 have t0 := Tp.n45 h0
 have HX := Lib.hid (show s.commentDash c = (s.to 15) by unfold Ts.commentDash; rw [if_neg h0])
 clear h0
 go_enter Tryz.func67, Tryz.ntmps67
 go_wp2_with (first | (go_at_call 98; refine (Tp.to s _ _).mono ?_; go_loud (rintro e w1 ⟨rfl, hb1⟩; obtain ⟨hl1, hm1, a1_0, a1_1, a1_2, a1_3, a1_4, a1_5, fa1, b1_0, b1_1, b1_2, b1_3, b1_4, b1_5, fb1, q1⟩ := Tp.kp hb1; clear hb1)))
 refine bodyPost_ret (v := Ts.v (s.to 15)) (by simp [results, Tryz.results67, go_sem, Ts.v, *]) rfl ⟨Tp.ret (HX.out.symm), ?_⟩
 repeat (refine Below.setCell ?_ (by simp) _)
 exact q1
set_option maxHeartbeats 2000000 in
theorem Tp.commentEnd (s : Ts) (c : UInt8) (w : World) : Calls Tryz.prog 68 #[.agg #[.int .i64 s.pl, .string s.name, .bool s.fin, .string s.attr, .string s.held, .int .i64 s.read], .int .u8 c.toNat] w fun e w' => e = .returned (.agg #[.int .i64 (s.commentEnd c).pl, .string (s.commentEnd c).name, .bool (s.commentEnd c).fin, .string (s.commentEnd c).attr, .string (s.commentEnd c).held, .int .i64 (s.commentEnd c).read]) ∧ Below w.heap.size w w' := by
 by_cases h0 : c = 62
 ·
  have t0 := Tp.y62 h0
  have HX := Lib.hid (show s.commentEnd c = (s.to 0) by unfold Ts.commentEnd; rw [if_pos h0])
  clear h0
  go_enter Tryz.func68, Tryz.ntmps68
  go_wp2_with (first | (go_at_call 98; refine (Tp.to s _ _).mono ?_; go_loud (rintro e w1 ⟨rfl, hb1⟩; obtain ⟨hl1, hm1, a1_0, a1_1, a1_2, a1_3, a1_4, a1_5, fa1, b1_0, b1_1, b1_2, b1_3, b1_4, b1_5, fb1, q1⟩ := Tp.kp hb1; clear hb1)))
  refine bodyPost_ret (v := Ts.v (s.to 0)) (by simp [results, Tryz.results68, go_sem, Ts.v, *]) rfl ⟨Tp.ret (HX.out.symm), ?_⟩
  repeat (refine Below.setCell ?_ (by simp) _)
  exact q1
 by_cases h1 : c = 45
 ·
  have t0 := Tp.n62 h0
  have t1 := Tp.y45 h1
  have HX := Lib.hid (show s.commentEnd c = s by unfold Ts.commentEnd; rw [if_neg h0, if_pos h1])
  clear h0 h1
  go_enter Tryz.func68, Tryz.ntmps68
  go_wp2
  refine bodyPost_ret (v := Ts.v s) (by simp [results, Tryz.results68, go_sem, Ts.v]) rfl ⟨Tp.ret (HX.out.symm), ?_⟩
  exact Tp.two _ _ _
 have t0 := Tp.n62 h0
 have t1 := Tp.n45 h1
 have HX := Lib.hid (show s.commentEnd c = (s.to 15) by unfold Ts.commentEnd; rw [if_neg h0, if_neg h1])
 clear h0 h1
 go_enter Tryz.func68, Tryz.ntmps68
 go_wp2_with (first | (go_at_call 98; refine (Tp.to s _ _).mono ?_; go_loud (rintro e w1 ⟨rfl, hb1⟩; obtain ⟨hl1, hm1, a1_0, a1_1, a1_2, a1_3, a1_4, a1_5, fa1, b1_0, b1_1, b1_2, b1_3, b1_4, b1_5, fb1, q1⟩ := Tp.kp hb1; clear hb1)))
 refine bodyPost_ret (v := Ts.v (s.to 15)) (by simp [results, Tryz.results68, go_sem, Ts.v, *]) rfl ⟨Tp.ret (HX.out.symm), ?_⟩
 repeat (refine Below.setCell ?_ (by simp) _)
 exact q1
set_option maxHeartbeats 2000000 in
theorem Tp.bogus (s : Ts) (c : UInt8) (w : World) : Calls Tryz.prog 69 #[.agg #[.int .i64 s.pl, .string s.name, .bool s.fin, .string s.attr, .string s.held, .int .i64 s.read], .int .u8 c.toNat] w fun e w' => e = .returned (.agg #[.int .i64 (s.bogus c).pl, .string (s.bogus c).name, .bool (s.bogus c).fin, .string (s.bogus c).attr, .string (s.bogus c).held, .int .i64 (s.bogus c).read]) ∧ Below w.heap.size w w' := by
 by_cases h0 : c = 62
 ·
  have t0 := Tp.y62 h0
  have HX := Lib.hid (show s.bogus c = (s.to 0) by unfold Ts.bogus; rw [if_pos h0])
  clear h0
  go_enter Tryz.func69, Tryz.ntmps69
  go_wp2_with (first | (go_at_call 98; refine (Tp.to s _ _).mono ?_; go_loud (rintro e w1 ⟨rfl, hb1⟩; obtain ⟨hl1, hm1, a1_0, a1_1, a1_2, a1_3, a1_4, a1_5, fa1, b1_0, b1_1, b1_2, b1_3, b1_4, b1_5, fb1, q1⟩ := Tp.kp hb1; clear hb1)))
  refine bodyPost_ret (v := Ts.v (s.to 0)) (by simp [results, Tryz.results69, go_sem, Ts.v, *]) rfl ⟨Tp.ret (HX.out.symm), ?_⟩
  repeat (refine Below.setCell ?_ (by simp) _)
  exact q1
 have t0 := Tp.n62 h0
 have HX := Lib.hid (show s.bogus c = s by unfold Ts.bogus; rw [if_neg h0])
 clear h0
 go_enter Tryz.func69, Tryz.ntmps69
 go_wp2
 refine bodyPost_ret (v := Ts.v s) (by simp [results, Tryz.results69, go_sem, Ts.v]) rfl ⟨Tp.ret (HX.out.symm), ?_⟩
 exact Tp.two _ _ _
set_option maxHeartbeats 2000000 in
theorem Tp.held (s : Ts) (c : UInt8) (w : World) : Calls Tryz.prog 70 #[.agg #[.int .i64 s.pl, .string s.name, .bool s.fin, .string s.attr, .string s.held, .int .i64 s.read], .int .u8 c.toNat] w fun e w' => e = .returned (.agg #[.int .i64 (s.heldS c).pl, .string (s.heldS c).name, .bool (s.heldS c).fin, .string (s.heldS c).attr, .string (s.heldS c).held, .int .i64 (s.heldS c).read]) ∧ Below w.heap.size w w' := by
 by_cases h0 : c = 60
 ·
  have t0 := Tp.y60 h0
  have HX := Lib.hid (show s.heldS c = (s.to 20) by unfold Ts.heldS; rw [if_pos h0])
  clear h0
  go_enter Tryz.func70, Tryz.ntmps70
  go_wp2_with (first | (go_at_call 98; refine (Tp.to s _ _).mono ?_; go_loud (rintro e w1 ⟨rfl, hb1⟩; obtain ⟨hl1, hm1, a1_0, a1_1, a1_2, a1_3, a1_4, a1_5, fa1, b1_0, b1_1, b1_2, b1_3, b1_4, b1_5, fb1, q1⟩ := Tp.kp hb1; clear hb1)))
  refine bodyPost_ret (v := Ts.v (s.to 20)) (by simp [results, Tryz.results70, go_sem, Ts.v, *]) rfl ⟨Tp.ret (HX.out.symm), ?_⟩
  repeat (refine Below.setCell ?_ (by simp) _)
  exact q1
 have t0 := Tp.n60 h0
 have HX := Lib.hid (show s.heldS c = s by unfold Ts.heldS; rw [if_neg h0])
 clear h0
 go_enter Tryz.func70, Tryz.ntmps70
 go_wp2
 refine bodyPost_ret (v := Ts.v s) (by simp [results, Tryz.results70, go_sem, Ts.v]) rfl ⟨Tp.ret (HX.out.symm), ?_⟩
 exact Tp.two _ _ _
set_option maxHeartbeats 2000000 in
theorem Tp.heldLt (s : Ts) (c : UInt8) (w : World) : Calls Tryz.prog 71 #[.agg #[.int .i64 s.pl, .string s.name, .bool s.fin, .string s.attr, .string s.held, .int .i64 s.read], .int .u8 c.toNat] w fun e w' => e = .returned (.agg #[.int .i64 (s.heldLt c).pl, .string (s.heldLt c).name, .bool (s.heldLt c).fin, .string (s.heldLt c).attr, .string (s.heldLt c).held, .int .i64 (s.heldLt c).read]) ∧ Below w.heap.size w w' := by
 by_cases h0 : c = 47
 ·
  have t0 := Tp.y47 h0
  have HX := Lib.hid (show s.heldLt c = (s.to 21) by unfold Ts.heldLt; rw [if_pos h0])
  clear h0
  go_enter Tryz.func71, Tryz.ntmps71
  go_wp2_with (first | (go_at_call 98; refine (Tp.to s _ _).mono ?_; go_loud (rintro e w1 ⟨rfl, hb1⟩; obtain ⟨hl1, hm1, a1_0, a1_1, a1_2, a1_3, a1_4, a1_5, fa1, b1_0, b1_1, b1_2, b1_3, b1_4, b1_5, fb1, q1⟩ := Tp.kp hb1; clear hb1)))
  refine bodyPost_ret (v := Ts.v (s.to 21)) (by simp [results, Tryz.results71, go_sem, Ts.v, *]) rfl ⟨Tp.ret (HX.out.symm), ?_⟩
  repeat (refine Below.setCell ?_ (by simp) _)
  exact q1
 by_cases h1 : c = 60
 ·
  have t0 := Tp.n47 h0
  have t1 := Tp.y60 h1
  have HX := Lib.hid (show s.heldLt c = s by unfold Ts.heldLt; rw [if_neg h0, if_pos h1])
  clear h0 h1
  go_enter Tryz.func71, Tryz.ntmps71
  go_wp2
  refine bodyPost_ret (v := Ts.v s) (by simp [results, Tryz.results71, go_sem, Ts.v]) rfl ⟨Tp.ret (HX.out.symm), ?_⟩
  exact Tp.two _ _ _
 have t0 := Tp.n47 h0
 have t1 := Tp.n60 h1
 have HX := Lib.hid (show s.heldLt c = (s.to 19) by unfold Ts.heldLt; rw [if_neg h0, if_neg h1])
 clear h0 h1
 go_enter Tryz.func71, Tryz.ntmps71
 go_wp2_with (first | (go_at_call 98; refine (Tp.to s _ _).mono ?_; go_loud (rintro e w1 ⟨rfl, hb1⟩; obtain ⟨hl1, hm1, a1_0, a1_1, a1_2, a1_3, a1_4, a1_5, fa1, b1_0, b1_1, b1_2, b1_3, b1_4, b1_5, fb1, q1⟩ := Tp.kp hb1; clear hb1)))
 refine bodyPost_ret (v := Ts.v (s.to 19)) (by simp [results, Tryz.results71, go_sem, Ts.v, *]) rfl ⟨Tp.ret (HX.out.symm), ?_⟩
 repeat (refine Below.setCell ?_ (by simp) _)
 exact q1
set_option maxHeartbeats 2000000 in
theorem Tp.heldOn (s : Ts) (c : UInt8) (w : World) : Calls Tryz.prog 107 #[.agg #[.int .i64 s.pl, .string s.name, .bool s.fin, .string s.attr, .string s.held, .int .i64 s.read], .int .u8 c.toNat] w fun e w' => e = .returned (.agg #[.int .i64 (s.heldOn c).pl, .string (s.heldOn c).name, .bool (s.heldOn c).fin, .string (s.heldOn c).attr, .string (s.heldOn c).held, .int .i64 (s.heldOn c).read]) ∧ Below w.heap.size w w' := by
 by_cases h0 : c = 60
 ·
  have t0 := Tp.y60 h0
  have HX := Lib.hid (show s.heldOn c = (s.to 20) by unfold Ts.heldOn; rw [if_pos h0])
  clear h0
  go_enter Tryz.func107, Tryz.ntmps107
  go_wp2_with (first | (go_at_call 98; refine (Tp.to s _ _).mono ?_; go_loud (rintro e w1 ⟨rfl, hb1⟩; obtain ⟨hl1, hm1, a1_0, a1_1, a1_2, a1_3, a1_4, a1_5, fa1, b1_0, b1_1, b1_2, b1_3, b1_4, b1_5, fb1, q1⟩ := Tp.kp hb1; clear hb1)))
  refine bodyPost_ret (v := Ts.v (s.to 20)) (by simp [results, Tryz.results107, go_sem, Ts.v, *]) rfl ⟨Tp.ret (HX.out.symm), ?_⟩
  repeat (refine Below.setCell ?_ (by simp) _)
  exact q1
 have t0 := Tp.n60 h0
 have HX := Lib.hid (show s.heldOn c = (s.to 19) by unfold Ts.heldOn; rw [if_neg h0])
 clear h0
 go_enter Tryz.func107, Tryz.ntmps107
 go_wp2_with (first | (go_at_call 98; refine (Tp.to s _ _).mono ?_; go_loud (rintro e w1 ⟨rfl, hb1⟩; obtain ⟨hl1, hm1, a1_0, a1_1, a1_2, a1_3, a1_4, a1_5, fa1, b1_0, b1_1, b1_2, b1_3, b1_4, b1_5, fb1, q1⟩ := Tp.kp hb1; clear hb1)))
 refine bodyPost_ret (v := Ts.v (s.to 19)) (by simp [results, Tryz.results107, go_sem, Ts.v, *]) rfl ⟨Tp.ret (HX.out.symm), ?_⟩
 repeat (refine Below.setCell ?_ (by simp) _)
 exact q1
end Go.Proofs.YtblpkjlodncpeaaGreatDoor
