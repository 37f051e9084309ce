/-
  THE WALKS of tok's functions of a place, from beforeValue to heldLt.
-/
import Derived.Test.YtblpkjlodncpeaaGreatDoorATRowA
namespace Go.Proofs.YtblpkjlodncpeaaGreatDoor
open Go.RowKit
set_option maxHeartbeats 2000000 in
theorem Tp.beforeValue (s : Ts) (c : UInt8) (w : World) : Calls Tryz.prog 59 #[.agg #[.int .i64 s.pl, .string s.name, .bool s.fin, .string s.attr, .string s.held, .int .i64 s.read], .int .u8 c.toNat] w fun e w' => e = .returned (.agg #[.int .i64 (s.beforeValue c).pl, .string (s.beforeValue c).name, .bool (s.beforeValue c).fin, .string (s.beforeValue c).attr, .string (s.beforeValue c).held, .int .i64 (s.beforeValue c).read]) ∧ Below w.heap.size w w' := by
  by_cases h0 : Ts.blank c = true
  · have t0 := h0
    have HX := Lib.hid (show s.beforeValue c = s by unfold Ts.beforeValue; rw [if_pos h0])
    clear h0
    go_enter Tryz.func59, Tryz.ntmps59
    go_wp2_with (first | (go_at_call 101; refine (Tp.isBlank c _).mono ?_; rintro e w' ⟨rfl, rfl⟩))
    refine bodyPost_ret (v := .agg #[.int .i64 s.pl, .string s.name, .bool s.fin, .string s.attr, .string s.held, .int .i64 s.read]) (by simp [results, Tryz.results59, go_sem]) rfl ⟨Tp.ret (HX.out.symm), ?_⟩
    exact Tp.two _ _ _
  by_cases h1 : c = 34
  · have t0 := Bool.eq_false_iff.2 h0
    have t1 : ((c.toNat : Int) == 34) = true := Tp.eq_true h1
    have HX := Lib.hid (show s.beforeValue c = (s.to 8) by unfold Ts.beforeValue; rw [if_neg h0, if_pos h1])
    clear h0 h1
    go_enter Tryz.func59, Tryz.ntmps59
    go_wp2_with (first | (go_at_call 101; refine (Tp.isBlank c _).mono ?_; rintro e w' ⟨rfl, rfl⟩) | (go_at_call 98; refine (Tp.to s _ _).mono ?_; go_loud (rintro e w1 ⟨rfl, hb1⟩; obtain ⟨hl1, hm1, a1_0, a1_1, a1_2, a1_3, a1_4, a1_5, fa1, b1_0, b1_1, b1_2, b1_3, b1_4, b1_5, fb1, q1⟩ := Tp.kp hb1; clear hb1)))
    refine bodyPost_ret (v := .agg #[.int .i64 (s.to 8).pl, .string (s.to 8).name, .bool (s.to 8).fin, .string (s.to 8).attr, .string (s.to 8).held, .int .i64 (s.to 8).read]) (by simp [results, Tryz.results59, go_sem, *]) rfl ⟨Tp.ret (HX.out.symm), ?_⟩
    repeat (refine Below.setCell ?_ (by simp) _)
    exact q1
  by_cases h2 : c = 39
  · have t0 := Bool.eq_false_iff.2 h0
    have t1 : ((c.toNat : Int) == 34) = false := Tp.eq_false h1
    have t2 : ((c.toNat : Int) == 39) = true := Tp.eq_true h2
    have HX := Lib.hid (show s.beforeValue c = (s.to 9) by unfold Ts.beforeValue; rw [if_neg h0, if_neg h1, if_pos h2])
    clear h0 h1 h2
    go_enter Tryz.func59, Tryz.ntmps59
    go_wp2_with (first | (go_at_call 101; refine (Tp.isBlank c _).mono ?_; rintro e w' ⟨rfl, rfl⟩) | (go_at_call 98; refine (Tp.to s _ _).mono ?_; go_loud (rintro e w1 ⟨rfl, hb1⟩; obtain ⟨hl1, hm1, a1_0, a1_1, a1_2, a1_3, a1_4, a1_5, fa1, b1_0, b1_1, b1_2, b1_3, b1_4, b1_5, fb1, q1⟩ := Tp.kp hb1; clear hb1)))
    refine bodyPost_ret (v := .agg #[.int .i64 (s.to 9).pl, .string (s.to 9).name, .bool (s.to 9).fin, .string (s.to 9).attr, .string (s.to 9).held, .int .i64 (s.to 9).read]) (by simp [results, Tryz.results59, go_sem, *]) rfl ⟨Tp.ret (HX.out.symm), ?_⟩
    repeat (refine Below.setCell ?_ (by simp) _)
    exact q1
  by_cases h3 : c = 62
  · have t0 := Bool.eq_false_iff.2 h0
    have t1 : ((c.toNat : Int) == 34) = false := Tp.eq_false h1
    have t2 : ((c.toNat : Int) == 39) = false := Tp.eq_false h2
    have t3 : ((c.toNat : Int) == 62) = true := Tp.eq_true h3
    have HX := Lib.hid (show s.beforeValue c = s.closed by unfold Ts.beforeValue; rw [if_neg h0, if_neg h1, if_neg h2, if_pos h3])
    clear h0 h1 h2 h3
    go_enter Tryz.func59, Tryz.ntmps59
    go_wp2_with (first | (go_at_call 101; refine (Tp.isBlank c _).mono ?_; rintro e w' ⟨rfl, rfl⟩) | (go_at_call 102; refine (Tp.closed s _).mono ?_; go_loud (rintro e w1 ⟨rfl, hb1⟩; obtain ⟨hl1, hm1, a1_0, a1_1, a1_2, a1_3, a1_4, a1_5, fa1, b1_0, b1_1, b1_2, b1_3, b1_4, b1_5, fb1, q1⟩ := Tp.kp hb1; clear hb1)))
    refine bodyPost_ret (v := .agg #[.int .i64 s.closed.pl, .string s.closed.name, .bool s.closed.fin, .string s.closed.attr, .string s.closed.held, .int .i64 s.closed.read]) (by simp [results, Tryz.results59, go_sem, *]) rfl ⟨Tp.ret (HX.out.symm), ?_⟩
    repeat (refine Below.setCell ?_ (by simp) _)
    exact q1
  have t0 := Bool.eq_false_iff.2 h0
  have t1 : ((c.toNat : Int) == 34) = false := Tp.eq_false h1
  have t2 : ((c.toNat : Int) == 39) = false := Tp.eq_false h2
  have t3 : ((c.toNat : Int) == 62) = false := Tp.eq_false h3
  have HX := Lib.hid (show s.beforeValue c = (s.to 10) by unfold Ts.beforeValue; rw [if_neg h0, if_neg h1, if_neg h2, if_neg h3])
  clear h0 h1 h2 h3
  go_enter Tryz.func59, Tryz.ntmps59
  go_wp2_with (first | (go_at_call 101; refine (Tp.isBlank c _).mono ?_; rintro e w' ⟨rfl, rfl⟩) | (go_at_call 98; refine (Tp.to s _ _).mono ?_; go_loud (rintro e w1 ⟨rfl, hb1⟩; obtain ⟨hl1, hm1, a1_0, a1_1, a1_2, a1_3, a1_4, a1_5, fa1, b1_0, b1_1, b1_2, b1_3, b1_4, b1_5, fb1, q1⟩ := Tp.kp hb1; clear hb1)))
  refine bodyPost_ret (v := .agg #[.int .i64 (s.to 10).pl, .string (s.to 10).name, .bool (s.to 10).fin, .string (s.to 10).attr, .string (s.to 10).held, .int .i64 (s.to 10).read]) (by simp [results, Tryz.results59, go_sem, *]) rfl ⟨Tp.ret (HX.out.symm), ?_⟩
  repeat (refine Below.setCell ?_ (by simp) _)
  exact q1
set_option maxHeartbeats 2000000 in
theorem Tp.bare (s : Ts) (c : UInt8) (w : World) : Calls Tryz.prog 61 #[.agg #[.int .i64 s.pl, .string s.name, .bool s.fin, .string s.attr, .string s.held, .int .i64 s.read], .int .u8 c.toNat] w fun e w' => e = .returned (.agg #[.int .i64 (s.bare c).pl, .string (s.bare c).name, .bool (s.bare c).fin, .string (s.bare c).attr, .string (s.bare c).held, .int .i64 (s.bare c).read]) ∧ Below w.heap.size w w' := by
  by_cases h0 : Ts.blank c = true
  · have t0 := h0
    have HX := Lib.hid (show s.bare c = (s.to 4) by unfold Ts.bare; rw [if_pos h0])
    clear h0
    go_enter Tryz.func61, Tryz.ntmps61
    go_wp2_with (first | (go_at_call 101; refine (Tp.isBlank c _).mono ?_; rintro e w' ⟨rfl, rfl⟩) | (go_at_call 98; refine (Tp.to s _ _).mono ?_; go_loud (rintro e w1 ⟨rfl, hb1⟩; obtain ⟨hl1, hm1, a1_0, a1_1, a1_2, a1_3, a1_4, a1_5, fa1, b1_0, b1_1, b1_2, b1_3, b1_4, b1_5, fb1, q1⟩ := Tp.kp hb1; clear hb1)))
    refine bodyPost_ret (v := .agg #[.int .i64 (s.to 4).pl, .string (s.to 4).name, .bool (s.to 4).fin, .string (s.to 4).attr, .string (s.to 4).held, .int .i64 (s.to 4).read]) (by simp [results, Tryz.results61, go_sem, *]) rfl ⟨Tp.ret (HX.out.symm), ?_⟩
    repeat (refine Below.setCell ?_ (by simp) _)
    exact q1
  by_cases h1 : c = 62
  · have t0 := Bool.eq_false_iff.2 h0
    have t1 : ((c.toNat : Int) == 62) = true := Tp.eq_true h1
    have HX := Lib.hid (show s.bare c = s.closed by unfold Ts.bare; rw [if_neg h0, if_pos h1])
    clear h0 h1
    go_enter Tryz.func61, Tryz.ntmps61
    go_wp2_with (first | (go_at_call 101; refine (Tp.isBlank c _).mono ?_; rintro e w' ⟨rfl, rfl⟩) | (go_at_call 102; refine (Tp.closed s _).mono ?_; go_loud (rintro e w1 ⟨rfl, hb1⟩; obtain ⟨hl1, hm1, a1_0, a1_1, a1_2, a1_3, a1_4, a1_5, fa1, b1_0, b1_1, b1_2, b1_3, b1_4, b1_5, fb1, q1⟩ := Tp.kp hb1; clear hb1)))
    refine bodyPost_ret (v := .agg #[.int .i64 s.closed.pl, .string s.closed.name, .bool s.closed.fin, .string s.closed.attr, .string s.closed.held, .int .i64 s.closed.read]) (by simp [results, Tryz.results61, go_sem, *]) rfl ⟨Tp.ret (HX.out.symm), ?_⟩
    repeat (refine Below.setCell ?_ (by simp) _)
    exact q1
  have t0 := Bool.eq_false_iff.2 h0
  have t1 : ((c.toNat : Int) == 62) = false := Tp.eq_false h1
  have HX := Lib.hid (show s.bare c = s by unfold Ts.bare; rw [if_neg h0, if_neg h1])
  clear h0 h1
  go_enter Tryz.func61, Tryz.ntmps61
  go_wp2_with (first | (go_at_call 101; refine (Tp.isBlank c _).mono ?_; rintro e w' ⟨rfl, rfl⟩))
  refine bodyPost_ret (v := .agg #[.int .i64 s.pl, .string s.name, .bool s.fin, .string s.attr, .string s.held, .int .i64 s.read]) (by simp [results, Tryz.results61, go_sem]) rfl ⟨Tp.ret (HX.out.symm), ?_⟩
  exact Tp.two _ _ _
set_option maxHeartbeats 2000000 in
theorem Tp.afterValue (s : Ts) (c : UInt8) (w : World) : Calls Tryz.prog 62 #[.agg #[.int .i64 s.pl, .string s.name, .bool s.fin, .string s.attr, .string s.held, .int .i64 s.read], .int .u8 c.toNat] w fun e w' => e = .returned (.agg #[.int .i64 (s.afterValue c).pl, .string (s.afterValue c).name, .bool (s.afterValue c).fin, .string (s.afterValue c).attr, .string (s.afterValue c).held, .int .i64 (s.afterValue c).read]) ∧ Below w.heap.size w w' := by
  by_cases h0 : Ts.blank c = true
  · have t0 := h0
    have HX := Lib.hid (show s.afterValue c = (s.to 4) by unfold Ts.afterValue; rw [if_pos h0])
    clear h0
    go_enter Tryz.func62, Tryz.ntmps62
    go_wp2_with (first | (go_at_call 101; refine (Tp.isBlank c _).mono ?_; rintro e w' ⟨rfl, rfl⟩) | (go_at_call 98; refine (Tp.to s _ _).mono ?_; go_loud (rintro e w1 ⟨rfl, hb1⟩; obtain ⟨hl1, hm1, a1_0, a1_1, a1_2, a1_3, a1_4, a1_5, fa1, b1_0, b1_1, b1_2, b1_3, b1_4, b1_5, fb1, q1⟩ := Tp.kp hb1; clear hb1)))
    refine bodyPost_ret (v := .agg #[.int .i64 (s.to 4).pl, .string (s.to 4).name, .bool (s.to 4).fin, .string (s.to 4).attr, .string (s.to 4).held, .int .i64 (s.to 4).read]) (by simp [results, Tryz.results62, go_sem, *]) rfl ⟨Tp.ret (HX.out.symm), ?_⟩
    repeat (refine Below.setCell ?_ (by simp) _)
    exact q1
  by_cases h1 : c = 47
  · have t0 := Bool.eq_false_iff.2 h0
    have t1 : ((c.toNat : Int) == 47) = true := Tp.eq_true h1
    have HX := Lib.hid (show s.afterValue c = (s.to 12) by unfold Ts.afterValue; rw [if_neg h0, if_pos h1])
    clear h0 h1
    go_enter Tryz.func62, Tryz.ntmps62
    go_wp2_with (first | (go_at_call 101; refine (Tp.isBlank c _).mono ?_; rintro e w' ⟨rfl, rfl⟩) | (go_at_call 98; refine (Tp.to s _ _).mono ?_; go_loud (rintro e w1 ⟨rfl, hb1⟩; obtain ⟨hl1, hm1, a1_0, a1_1, a1_2, a1_3, a1_4, a1_5, fa1, b1_0, b1_1, b1_2, b1_3, b1_4, b1_5, fb1, q1⟩ := Tp.kp hb1; clear hb1)))
    refine bodyPost_ret (v := .agg #[.int .i64 (s.to 12).pl, .string (s.to 12).name, .bool (s.to 12).fin, .string (s.to 12).attr, .string (s.to 12).held, .int .i64 (s.to 12).read]) (by simp [results, Tryz.results62, go_sem, *]) rfl ⟨Tp.ret (HX.out.symm), ?_⟩
    repeat (refine Below.setCell ?_ (by simp) _)
    exact q1
  by_cases h2 : c = 62
  · have t0 := Bool.eq_false_iff.2 h0
    have t1 : ((c.toNat : Int) == 47) = false := Tp.eq_false h1
    have t2 : ((c.toNat : Int) == 62) = true := Tp.eq_true h2
    have HX := Lib.hid (show s.afterValue c = s.closed by unfold Ts.afterValue; rw [if_neg h0, if_neg h1, if_pos h2])
    clear h0 h1 h2
    go_enter Tryz.func62, Tryz.ntmps62
    go_wp2_with (first | (go_at_call 101; refine (Tp.isBlank c _).mono ?_; rintro e w' ⟨rfl, rfl⟩) | (go_at_call 102; refine (Tp.closed s _).mono ?_; go_loud (rintro e w1 ⟨rfl, hb1⟩; obtain ⟨hl1, hm1, a1_0, a1_1, a1_2, a1_3, a1_4, a1_5, fa1, b1_0, b1_1, b1_2, b1_3, b1_4, b1_5, fb1, q1⟩ := Tp.kp hb1; clear hb1)))
    refine bodyPost_ret (v := .agg #[.int .i64 s.closed.pl, .string s.closed.name, .bool s.closed.fin, .string s.closed.attr, .string s.closed.held, .int .i64 s.closed.read]) (by simp [results, Tryz.results62, go_sem, *]) rfl ⟨Tp.ret (HX.out.symm), ?_⟩
    repeat (refine Below.setCell ?_ (by simp) _)
    exact q1
  have t0 := Bool.eq_false_iff.2 h0
  have t1 : ((c.toNat : Int) == 47) = false := Tp.eq_false h1
  have t2 : ((c.toNat : Int) == 62) = false := Tp.eq_false h2
  have HX := Lib.hid (show s.afterValue c = (s.openAttr c) by unfold Ts.afterValue; rw [if_neg h0, if_neg h1, if_neg h2])
  clear h0 h1 h2
  go_enter Tryz.func62, Tryz.ntmps62
  go_wp2_with (first | (go_at_call 101; refine (Tp.isBlank c _).mono ?_; rintro e w' ⟨rfl, rfl⟩) | (go_at_call 104; refine (Tp.openAttr s c _).mono ?_; go_loud (rintro e w1 ⟨rfl, hb1⟩; obtain ⟨hl1, hm1, a1_0, a1_1, a1_2, a1_3, a1_4, a1_5, fa1, b1_0, b1_1, b1_2, b1_3, b1_4, b1_5, fb1, q1⟩ := Tp.kp hb1; clear hb1)))
  refine bodyPost_ret (v := .agg #[.int .i64 (s.openAttr c).pl, .string (s.openAttr c).name, .bool (s.openAttr c).fin, .string (s.openAttr c).attr, .string (s.openAttr c).held, .int .i64 (s.openAttr c).read]) (by simp [results, Tryz.results62, go_sem, *]) rfl ⟨Tp.ret (HX.out.symm), ?_⟩
  repeat (refine Below.setCell ?_ (by simp) _)
  exact q1
set_option maxHeartbeats 2000000 in
theorem Tp.selfClose (s : Ts) (c : UInt8) (w : World) : Calls Tryz.prog 63 #[.agg #[.int .i64 s.pl, .string s.name, .bool s.fin, .string s.attr, .string s.held, .int .i64 s.read], .int .u8 c.toNat] w fun e w' => e = .returned (.agg #[.int .i64 (s.selfClose c).pl, .string (s.selfClose c).name, .bool (s.selfClose c).fin, .string (s.selfClose c).attr, .string (s.selfClose c).held, .int .i64 (s.selfClose c).read]) ∧ Below w.heap.size w w' := by
  by_cases h0 : c = 62
  · have t0 : ((c.toNat : Int) == 62) = true := Tp.eq_true h0
    have HX := Lib.hid (show s.selfClose c = s.closed by unfold Ts.selfClose; rw [if_pos h0])
    clear h0
    go_enter Tryz.func63, Tryz.ntmps63
    go_wp2_with (first | (go_at_call 101; refine (Tp.isBlank c _).mono ?_; rintro e w' ⟨rfl, rfl⟩) | (go_at_call 102; refine (Tp.closed s _).mono ?_; go_loud (rintro e w1 ⟨rfl, hb1⟩; obtain ⟨hl1, hm1, a1_0, a1_1, a1_2, a1_3, a1_4, a1_5, fa1, b1_0, b1_1, b1_2, b1_3, b1_4, b1_5, fb1, q1⟩ := Tp.kp hb1; clear hb1)))
    refine bodyPost_ret (v := .agg #[.int .i64 s.closed.pl, .string s.closed.name, .bool s.closed.fin, .string s.closed.attr, .string s.closed.held, .int .i64 s.closed.read]) (by simp [results, Tryz.results63, go_sem, *]) rfl ⟨Tp.ret (HX.out.symm), ?_⟩
    repeat (refine Below.setCell ?_ (by simp) _)
    exact q1
  by_cases h1 : Ts.blank c = true
  · have t0 : ((c.toNat : Int) == 62) = false := Tp.eq_false h0
    have t1 := h1
    have HX := Lib.hid (show s.selfClose c = (s.to 4) by unfold Ts.selfClose; rw [if_neg h0, if_pos h1])
    clear h0 h1
    go_enter Tryz.func63, Tryz.ntmps63
    go_wp2_with (first | (go_at_call 101; refine (Tp.isBlank c _).mono ?_; rintro e w' ⟨rfl, rfl⟩) | (go_at_call 98; refine (Tp.to s _ _).mono ?_; go_loud (rintro e w1 ⟨rfl, hb1⟩; obtain ⟨hl1, hm1, a1_0, a1_1, a1_2, a1_3, a1_4, a1_5, fa1, b1_0, b1_1, b1_2, b1_3, b1_4, b1_5, fb1, q1⟩ := Tp.kp hb1; clear hb1)))
    refine bodyPost_ret (v := .agg #[.int .i64 (s.to 4).pl, .string (s.to 4).name, .bool (s.to 4).fin, .string (s.to 4).attr, .string (s.to 4).held, .int .i64 (s.to 4).read]) (by simp [results, Tryz.results63, go_sem, *]) rfl ⟨Tp.ret (HX.out.symm), ?_⟩
    repeat (refine Below.setCell ?_ (by simp) _)
    exact q1
  by_cases h2 : c = 47
  · have t0 : ((c.toNat : Int) == 62) = false := Tp.eq_false h0
    have t1 := Bool.eq_false_iff.2 h1
    have t2 : ((c.toNat : Int) == 47) = true := Tp.eq_true h2
    have HX := Lib.hid (show s.selfClose c = s by unfold Ts.selfClose; rw [if_neg h0, if_neg h1, if_pos h2])
    clear h0 h1 h2
    go_enter Tryz.func63, Tryz.ntmps63
    go_wp2_with (first | (go_at_call 101; refine (Tp.isBlank c _).mono ?_; rintro e w' ⟨rfl, rfl⟩))
    refine bodyPost_ret (v := .agg #[.int .i64 s.pl, .string s.name, .bool s.fin, .string s.attr, .string s.held, .int .i64 s.read]) (by simp [results, Tryz.results63, go_sem]) rfl ⟨Tp.ret (HX.out.symm), ?_⟩
    exact Tp.two _ _ _
  have t0 : ((c.toNat : Int) == 62) = false := Tp.eq_false h0
  have t1 := Bool.eq_false_iff.2 h1
  have t2 : ((c.toNat : Int) == 47) = false := Tp.eq_false h2
  have HX := Lib.hid (show s.selfClose c = (s.openAttr c) by unfold Ts.selfClose; rw [if_neg h0, if_neg h1, if_neg h2])
  clear h0 h1 h2
  go_enter Tryz.func63, Tryz.ntmps63
  go_wp2_with (first | (go_at_call 101; refine (Tp.isBlank c _).mono ?_; rintro e w' ⟨rfl, rfl⟩) | (go_at_call 104; refine (Tp.openAttr s c _).mono ?_; go_loud (rintro e w1 ⟨rfl, hb1⟩; obtain ⟨hl1, hm1, a1_0, a1_1, a1_2, a1_3, a1_4, a1_5, fa1, b1_0, b1_1, b1_2, b1_3, b1_4, b1_5, fb1, q1⟩ := Tp.kp hb1; clear hb1)))
  refine bodyPost_ret (v := .agg #[.int .i64 (s.openAttr c).pl, .string (s.openAttr c).name, .bool (s.openAttr c).fin, .string (s.openAttr c).attr, .string (s.openAttr c).held, .int .i64 (s.openAttr c).read]) (by simp [results, Tryz.results63, go_sem, *]) rfl ⟨Tp.ret (HX.out.symm), ?_⟩
  repeat (refine Below.setCell ?_ (by simp) _)
  exact q1
set_option maxHeartbeats 2000000 in
theorem Tp.bang (s : Ts) (c : UInt8) (w : World) : Calls Tryz.prog 64 #[.agg #[.int .i64 s.pl, .string s.name, .bool s.fin, .string s.attr, .string s.held, .int .i64 s.read], .int .u8 c.toNat] w fun e w' => e = .returned (.agg #[.int .i64 (s.bang c).pl, .string (s.bang c).name, .bool (s.bang c).fin, .string (s.bang c).attr, .string (s.bang c).held, .int .i64 (s.bang c).read]) ∧ Below w.heap.size w w' := by
  by_cases h0 : c = 45
  · have t0 : ((c.toNat : Int) == 45) = true := Tp.eq_true h0
    have HX := Lib.hid (show s.bang c = (s.to 14) by unfold Ts.bang; rw [if_pos h0])
    clear h0
    go_enter Tryz.func64, Tryz.ntmps64
    go_wp2_with (first | (go_at_call 98; refine (Tp.to s _ _).mono ?_; go_loud (rintro e w1 ⟨rfl, hb1⟩; obtain ⟨hl1, hm1, a1_0, a1_1, a1_2, a1_3, a1_4, a1_5, fa1, b1_0, b1_1, b1_2, b1_3, b1_4, b1_5, fb1, q1⟩ := Tp.kp hb1; clear hb1)))
    refine bodyPost_ret (v := .agg #[.int .i64 (s.to 14).pl, .string (s.to 14).name, .bool (s.to 14).fin, .string (s.to 14).attr, .string (s.to 14).held, .int .i64 (s.to 14).read]) (by simp [results, Tryz.results64, go_sem, *]) rfl ⟨Tp.ret (HX.out.symm), ?_⟩
    repeat (refine Below.setCell ?_ (by simp) _)
    exact q1
  by_cases h1 : c = 62
  · have t0 : ((c.toNat : Int) == 45) = false := Tp.eq_false h0
    have t1 : ((c.toNat : Int) == 62) = true := Tp.eq_true h1
    have HX := Lib.hid (show s.bang c = (s.to 0) by unfold Ts.bang; rw [if_neg h0, if_pos h1])
    clear h0 h1
    go_enter Tryz.func64, Tryz.ntmps64
    go_wp2_with (first | (go_at_call 98; refine (Tp.to s _ _).mono ?_; go_loud (rintro e w1 ⟨rfl, hb1⟩; obtain ⟨hl1, hm1, a1_0, a1_1, a1_2, a1_3, a1_4, a1_5, fa1, b1_0, b1_1, b1_2, b1_3, b1_4, b1_5, fb1, q1⟩ := Tp.kp hb1; clear hb1)))
    refine bodyPost_ret (v := .agg #[.int .i64 (s.to 0).pl, .string (s.to 0).name, .bool (s.to 0).fin, .string (s.to 0).attr, .string (s.to 0).held, .int .i64 (s.to 0).read]) (by simp [results, Tryz.results64, go_sem, *]) rfl ⟨Tp.ret (HX.out.symm), ?_⟩
    repeat (refine Below.setCell ?_ (by simp) _)
    exact q1
  have t0 : ((c.toNat : Int) == 45) = false := Tp.eq_false h0
  have t1 : ((c.toNat : Int) == 62) = false := Tp.eq_false h1
  have HX := Lib.hid (show s.bang c = (s.to 18) by unfold Ts.bang; rw [if_neg h0, if_neg h1])
  clear h0 h1
  go_enter Tryz.func64, Tryz.ntmps64
  go_wp2_with (first | (go_at_call 98; refine (Tp.to s _ _).mono ?_; go_loud (rintro e w1 ⟨rfl, hb1⟩; obtain ⟨hl1, hm1, a1_0, a1_1, a1_2, a1_3, a1_4, a1_5, fa1, b1_0, b1_1, b1_2, b1_3, b1_4, b1_5, fb1, q1⟩ := Tp.kp hb1; clear hb1)))
  refine bodyPost_ret (v := .agg #[.int .i64 (s.to 18).pl, .string (s.to 18).name, .bool (s.to 18).fin, .string (s.to 18).attr, .string (s.to 18).held, .int .i64 (s.to 18).read]) (by simp [results, Tryz.results64, go_sem, *]) rfl ⟨Tp.ret (HX.out.symm), ?_⟩
  repeat (refine Below.setCell ?_ (by simp) _)
  exact q1
set_option maxHeartbeats 2000000 in
theorem Tp.bangDash (s : Ts) (c : UInt8) (w : World) : Calls Tryz.prog 65 #[.agg #[.int .i64 s.pl, .string s.name, .bool s.fin, .string s.attr, .string s.held, .int .i64 s.read], .int .u8 c.toNat] w fun e w' => e = .returned (.agg #[.int .i64 (s.bangDash c).pl, .string (s.bangDash c).name, .bool (s.bangDash c).fin, .string (s.bangDash c).attr, .string (s.bangDash c).held, .int .i64 (s.bangDash c).read]) ∧ Below w.heap.size w w' := by
  by_cases h0 : c = 45
  · have t0 : ((c.toNat : Int) == 45) = true := Tp.eq_true h0
    have HX := Lib.hid (show s.bangDash c = (s.to 15) by unfold Ts.bangDash; rw [if_pos h0])
    clear h0
    go_enter Tryz.func65, Tryz.ntmps65
    go_wp2_with (first | (go_at_call 98; refine (Tp.to s _ _).mono ?_; go_loud (rintro e w1 ⟨rfl, hb1⟩; obtain ⟨hl1, hm1, a1_0, a1_1, a1_2, a1_3, a1_4, a1_5, fa1, b1_0, b1_1, b1_2, b1_3, b1_4, b1_5, fb1, q1⟩ := Tp.kp hb1; clear hb1)))
    refine bodyPost_ret (v := .agg #[.int .i64 (s.to 15).pl, .string (s.to 15).name, .bool (s.to 15).fin, .string (s.to 15).attr, .string (s.to 15).held, .int .i64 (s.to 15).read]) (by simp [results, Tryz.results65, go_sem, *]) rfl ⟨Tp.ret (HX.out.symm), ?_⟩
    repeat (refine Below.setCell ?_ (by simp) _)
    exact q1
  by_cases h1 : c = 62
  · have t0 : ((c.toNat : Int) == 45) = false := Tp.eq_false h0
    have t1 : ((c.toNat : Int) == 62) = true := Tp.eq_true h1
    have HX := Lib.hid (show s.bangDash c = (s.to 0) by unfold Ts.bangDash; rw [if_neg h0, if_pos h1])
    clear h0 h1
    go_enter Tryz.func65, Tryz.ntmps65
    go_wp2_with (first | (go_at_call 98; refine (Tp.to s _ _).mono ?_; go_loud (rintro e w1 ⟨rfl, hb1⟩; obtain ⟨hl1, hm1, a1_0, a1_1, a1_2, a1_3, a1_4, a1_5, fa1, b1_0, b1_1, b1_2, b1_3, b1_4, b1_5, fb1, q1⟩ := Tp.kp hb1; clear hb1)))
    refine bodyPost_ret (v := .agg #[.int .i64 (s.to 0).pl, .string (s.to 0).name, .bool (s.to 0).fin, .string (s.to 0).attr, .string (s.to 0).held, .int .i64 (s.to 0).read]) (by simp [results, Tryz.results65, go_sem, *]) rfl ⟨Tp.ret (HX.out.symm), ?_⟩
    repeat (refine Below.setCell ?_ (by simp) _)
    exact q1
  have t0 : ((c.toNat : Int) == 45) = false := Tp.eq_false h0
  have t1 : ((c.toNat : Int) == 62) = false := Tp.eq_false h1
  have HX := Lib.hid (show s.bangDash c = (s.to 18) by unfold Ts.bangDash; rw [if_neg h0, if_neg h1])
  clear h0 h1
  go_enter Tryz.func65, Tryz.ntmps65
  go_wp2_with (first | (go_at_call 98; refine (Tp.to s _ _).mono ?_; go_loud (rintro e w1 ⟨rfl, hb1⟩; obtain ⟨hl1, hm1, a1_0, a1_1, a1_2, a1_3, a1_4, a1_5, fa1, b1_0, b1_1, b1_2, b1_3, b1_4, b1_5, fb1, q1⟩ := Tp.kp hb1; clear hb1)))
  refine bodyPost_ret (v := .agg #[.int .i64 (s.to 18).pl, .string (s.to 18).name, .bool (s.to 18).fin, .string (s.to 18).attr, .string (s.to 18).held, .int .i64 (s.to 18).read]) (by simp [results, Tryz.results65, go_sem, *]) rfl ⟨Tp.ret (HX.out.symm), ?_⟩
  repeat (refine Below.setCell ?_ (by simp) _)
  exact q1
set_option maxHeartbeats 2000000 in
theorem Tp.comment (s : Ts) (c : UInt8) (w : World) : Calls Tryz.prog 66 #[.agg #[.int .i64 s.pl, .string s.name, .bool s.fin, .string s.attr, .string s.held, .int .i64 s.read], .int .u8 c.toNat] w fun e w' => e = .returned (.agg #[.int .i64 (s.comment c).pl, .string (s.comment c).name, .bool (s.comment c).fin, .string (s.comment c).attr, .string (s.comment c).held, .int .i64 (s.comment c).read]) ∧ Below w.heap.size w w' := by
  by_cases h0 : c = 45
  · have t0 : ((c.toNat : Int) == 45) = true := Tp.eq_true h0
    have HX := Lib.hid (show s.comment c = (s.to 16) by unfold Ts.comment; rw [if_pos h0])
    clear h0
    go_enter Tryz.func66, Tryz.ntmps66
    go_wp2_with (first | (go_at_call 98; refine (Tp.to s _ _).mono ?_; go_loud (rintro e w1 ⟨rfl, hb1⟩; obtain ⟨hl1, hm1, a1_0, a1_1, a1_2, a1_3, a1_4, a1_5, fa1, b1_0, b1_1, b1_2, b1_3, b1_4, b1_5, fb1, q1⟩ := Tp.kp hb1; clear hb1)))
    refine bodyPost_ret (v := .agg #[.int .i64 (s.to 16).pl, .string (s.to 16).name, .bool (s.to 16).fin, .string (s.to 16).attr, .string (s.to 16).held, .int .i64 (s.to 16).read]) (by simp [results, Tryz.results66, go_sem, *]) rfl ⟨Tp.ret (HX.out.symm), ?_⟩
    repeat (refine Below.setCell ?_ (by simp) _)
    exact q1
  have t0 : ((c.toNat : Int) == 45) = false := Tp.eq_false h0
  have HX := Lib.hid (show s.comment c = s by unfold Ts.comment; rw [if_neg h0])
  clear h0
  go_enter Tryz.func66, Tryz.ntmps66
  go_wp2
  refine bodyPost_ret (v := .agg #[.int .i64 s.pl, .string s.name, .bool s.fin, .string s.attr, .string s.held, .int .i64 s.read]) (by simp [results, Tryz.results66, go_sem]) rfl ⟨Tp.ret (HX.out.symm), ?_⟩
  exact Tp.two _ _ _
set_option maxHeartbeats 2000000 in
theorem Tp.commentDash (s : Ts) (c : UInt8) (w : World) : Calls Tryz.prog 67 #[.agg #[.int .i64 s.pl, .string s.name, .bool s.fin, .string s.attr, .string s.held, .int .i64 s.read], .int .u8 c.toNat] w fun e w' => e = .returned (.agg #[.int .i64 (s.commentDash c).pl, .string (s.commentDash c).name, .bool (s.commentDash c).fin, .string (s.commentDash c).attr, .string (s.commentDash c).held, .int .i64 (s.commentDash c).read]) ∧ Below w.heap.size w w' := by
  by_cases h0 : c = 45
  · have t0 : ((c.toNat : Int) == 45) = true := Tp.eq_true h0
    have HX := Lib.hid (show s.commentDash c = (s.to 17) by unfold Ts.commentDash; rw [if_pos h0])
    clear h0
    go_enter Tryz.func67, Tryz.ntmps67
    go_wp2_with (first | (go_at_call 98; refine (Tp.to s _ _).mono ?_; go_loud (rintro e w1 ⟨rfl, hb1⟩; obtain ⟨hl1, hm1, a1_0, a1_1, a1_2, a1_3, a1_4, a1_5, fa1, b1_0, b1_1, b1_2, b1_3, b1_4, b1_5, fb1, q1⟩ := Tp.kp hb1; clear hb1)))
    refine bodyPost_ret (v := .agg #[.int .i64 (s.to 17).pl, .string (s.to 17).name, .bool (s.to 17).fin, .string (s.to 17).attr, .string (s.to 17).held, .int .i64 (s.to 17).read]) (by simp [results, Tryz.results67, go_sem, *]) rfl ⟨Tp.ret (HX.out.symm), ?_⟩
    repeat (refine Below.setCell ?_ (by simp) _)
    exact q1
  have t0 : ((c.toNat : Int) == 45) = false := Tp.eq_false h0
  have HX := Lib.hid (show s.commentDash c = (s.to 15) by unfold Ts.commentDash; rw [if_neg h0])
  clear h0
  go_enter Tryz.func67, Tryz.ntmps67
  go_wp2_with (first | (go_at_call 98; refine (Tp.to s _ _).mono ?_; go_loud (rintro e w1 ⟨rfl, hb1⟩; obtain ⟨hl1, hm1, a1_0, a1_1, a1_2, a1_3, a1_4, a1_5, fa1, b1_0, b1_1, b1_2, b1_3, b1_4, b1_5, fb1, q1⟩ := Tp.kp hb1; clear hb1)))
  refine bodyPost_ret (v := .agg #[.int .i64 (s.to 15).pl, .string (s.to 15).name, .bool (s.to 15).fin, .string (s.to 15).attr, .string (s.to 15).held, .int .i64 (s.to 15).read]) (by simp [results, Tryz.results67, go_sem, *]) rfl ⟨Tp.ret (HX.out.symm), ?_⟩
  repeat (refine Below.setCell ?_ (by simp) _)
  exact q1
set_option maxHeartbeats 2000000 in
theorem Tp.commentEnd (s : Ts) (c : UInt8) (w : World) : Calls Tryz.prog 68 #[.agg #[.int .i64 s.pl, .string s.name, .bool s.fin, .string s.attr, .string s.held, .int .i64 s.read], .int .u8 c.toNat] w fun e w' => e = .returned (.agg #[.int .i64 (s.commentEnd c).pl, .string (s.commentEnd c).name, .bool (s.commentEnd c).fin, .string (s.commentEnd c).attr, .string (s.commentEnd c).held, .int .i64 (s.commentEnd c).read]) ∧ Below w.heap.size w w' := by
  by_cases h0 : c = 62
  · have t0 : ((c.toNat : Int) == 62) = true := Tp.eq_true h0
    have HX := Lib.hid (show s.commentEnd c = (s.to 0) by unfold Ts.commentEnd; rw [if_pos h0])
    clear h0
    go_enter Tryz.func68, Tryz.ntmps68
    go_wp2_with (first | (go_at_call 98; refine (Tp.to s _ _).mono ?_; go_loud (rintro e w1 ⟨rfl, hb1⟩; obtain ⟨hl1, hm1, a1_0, a1_1, a1_2, a1_3, a1_4, a1_5, fa1, b1_0, b1_1, b1_2, b1_3, b1_4, b1_5, fb1, q1⟩ := Tp.kp hb1; clear hb1)))
    refine bodyPost_ret (v := .agg #[.int .i64 (s.to 0).pl, .string (s.to 0).name, .bool (s.to 0).fin, .string (s.to 0).attr, .string (s.to 0).held, .int .i64 (s.to 0).read]) (by simp [results, Tryz.results68, go_sem, *]) rfl ⟨Tp.ret (HX.out.symm), ?_⟩
    repeat (refine Below.setCell ?_ (by simp) _)
    exact q1
  by_cases h1 : c = 45
  · have t0 : ((c.toNat : Int) == 62) = false := Tp.eq_false h0
    have t1 : ((c.toNat : Int) == 45) = true := Tp.eq_true h1
    have HX := Lib.hid (show s.commentEnd c = s by unfold Ts.commentEnd; rw [if_neg h0, if_pos h1])
    clear h0 h1
    go_enter Tryz.func68, Tryz.ntmps68
    go_wp2
    refine bodyPost_ret (v := .agg #[.int .i64 s.pl, .string s.name, .bool s.fin, .string s.attr, .string s.held, .int .i64 s.read]) (by simp [results, Tryz.results68, go_sem]) rfl ⟨Tp.ret (HX.out.symm), ?_⟩
    exact Tp.two _ _ _
  have t0 : ((c.toNat : Int) == 62) = false := Tp.eq_false h0
  have t1 : ((c.toNat : Int) == 45) = false := Tp.eq_false h1
  have HX := Lib.hid (show s.commentEnd c = (s.to 15) by unfold Ts.commentEnd; rw [if_neg h0, if_neg h1])
  clear h0 h1
  go_enter Tryz.func68, Tryz.ntmps68
  go_wp2_with (first | (go_at_call 98; refine (Tp.to s _ _).mono ?_; go_loud (rintro e w1 ⟨rfl, hb1⟩; obtain ⟨hl1, hm1, a1_0, a1_1, a1_2, a1_3, a1_4, a1_5, fa1, b1_0, b1_1, b1_2, b1_3, b1_4, b1_5, fb1, q1⟩ := Tp.kp hb1; clear hb1)))
  refine bodyPost_ret (v := .agg #[.int .i64 (s.to 15).pl, .string (s.to 15).name, .bool (s.to 15).fin, .string (s.to 15).attr, .string (s.to 15).held, .int .i64 (s.to 15).read]) (by simp [results, Tryz.results68, go_sem, *]) rfl ⟨Tp.ret (HX.out.symm), ?_⟩
  repeat (refine Below.setCell ?_ (by simp) _)
  exact q1
set_option maxHeartbeats 2000000 in
theorem Tp.bogus (s : Ts) (c : UInt8) (w : World) : Calls Tryz.prog 69 #[.agg #[.int .i64 s.pl, .string s.name, .bool s.fin, .string s.attr, .string s.held, .int .i64 s.read], .int .u8 c.toNat] w fun e w' => e = .returned (.agg #[.int .i64 (s.bogus c).pl, .string (s.bogus c).name, .bool (s.bogus c).fin, .string (s.bogus c).attr, .string (s.bogus c).held, .int .i64 (s.bogus c).read]) ∧ Below w.heap.size w w' := by
  by_cases h0 : c = 62
  · have t0 : ((c.toNat : Int) == 62) = true := Tp.eq_true h0
    have HX := Lib.hid (show s.bogus c = (s.to 0) by unfold Ts.bogus; rw [if_pos h0])
    clear h0
    go_enter Tryz.func69, Tryz.ntmps69
    go_wp2_with (first | (go_at_call 98; refine (Tp.to s _ _).mono ?_; go_loud (rintro e w1 ⟨rfl, hb1⟩; obtain ⟨hl1, hm1, a1_0, a1_1, a1_2, a1_3, a1_4, a1_5, fa1, b1_0, b1_1, b1_2, b1_3, b1_4, b1_5, fb1, q1⟩ := Tp.kp hb1; clear hb1)))
    refine bodyPost_ret (v := .agg #[.int .i64 (s.to 0).pl, .string (s.to 0).name, .bool (s.to 0).fin, .string (s.to 0).attr, .string (s.to 0).held, .int .i64 (s.to 0).read]) (by simp [results, Tryz.results69, go_sem, *]) rfl ⟨Tp.ret (HX.out.symm), ?_⟩
    repeat (refine Below.setCell ?_ (by simp) _)
    exact q1
  have t0 : ((c.toNat : Int) == 62) = false := Tp.eq_false h0
  have HX := Lib.hid (show s.bogus c = s by unfold Ts.bogus; rw [if_neg h0])
  clear h0
  go_enter Tryz.func69, Tryz.ntmps69
  go_wp2
  refine bodyPost_ret (v := .agg #[.int .i64 s.pl, .string s.name, .bool s.fin, .string s.attr, .string s.held, .int .i64 s.read]) (by simp [results, Tryz.results69, go_sem]) rfl ⟨Tp.ret (HX.out.symm), ?_⟩
  exact Tp.two _ _ _
set_option maxHeartbeats 2000000 in
theorem Tp.held (s : Ts) (c : UInt8) (w : World) : Calls Tryz.prog 70 #[.agg #[.int .i64 s.pl, .string s.name, .bool s.fin, .string s.attr, .string s.held, .int .i64 s.read], .int .u8 c.toNat] w fun e w' => e = .returned (.agg #[.int .i64 (s.heldS c).pl, .string (s.heldS c).name, .bool (s.heldS c).fin, .string (s.heldS c).attr, .string (s.heldS c).held, .int .i64 (s.heldS c).read]) ∧ Below w.heap.size w w' := by
  by_cases h0 : c = 60
  · have t0 : ((c.toNat : Int) == 60) = true := Tp.eq_true h0
    have HX := Lib.hid (show s.heldS c = (s.to 20) by unfold Ts.heldS; rw [if_pos h0])
    clear h0
    go_enter Tryz.func70, Tryz.ntmps70
    go_wp2_with (first | (go_at_call 98; refine (Tp.to s _ _).mono ?_; go_loud (rintro e w1 ⟨rfl, hb1⟩; obtain ⟨hl1, hm1, a1_0, a1_1, a1_2, a1_3, a1_4, a1_5, fa1, b1_0, b1_1, b1_2, b1_3, b1_4, b1_5, fb1, q1⟩ := Tp.kp hb1; clear hb1)))
    refine bodyPost_ret (v := .agg #[.int .i64 (s.to 20).pl, .string (s.to 20).name, .bool (s.to 20).fin, .string (s.to 20).attr, .string (s.to 20).held, .int .i64 (s.to 20).read]) (by simp [results, Tryz.results70, go_sem, *]) rfl ⟨Tp.ret (HX.out.symm), ?_⟩
    repeat (refine Below.setCell ?_ (by simp) _)
    exact q1
  have t0 : ((c.toNat : Int) == 60) = false := Tp.eq_false h0
  have HX := Lib.hid (show s.heldS c = s by unfold Ts.heldS; rw [if_neg h0])
  clear h0
  go_enter Tryz.func70, Tryz.ntmps70
  go_wp2
  refine bodyPost_ret (v := .agg #[.int .i64 s.pl, .string s.name, .bool s.fin, .string s.attr, .string s.held, .int .i64 s.read]) (by simp [results, Tryz.results70, go_sem]) rfl ⟨Tp.ret (HX.out.symm), ?_⟩
  exact Tp.two _ _ _
set_option maxHeartbeats 2000000 in
theorem Tp.heldLt (s : Ts) (c : UInt8) (w : World) : Calls Tryz.prog 71 #[.agg #[.int .i64 s.pl, .string s.name, .bool s.fin, .string s.attr, .string s.held, .int .i64 s.read], .int .u8 c.toNat] w fun e w' => e = .returned (.agg #[.int .i64 (s.heldLt c).pl, .string (s.heldLt c).name, .bool (s.heldLt c).fin, .string (s.heldLt c).attr, .string (s.heldLt c).held, .int .i64 (s.heldLt c).read]) ∧ Below w.heap.size w w' := by
  by_cases h0 : c = 47
  · have t0 : ((c.toNat : Int) == 47) = true := Tp.eq_true h0
    have HX := Lib.hid (show s.heldLt c = (s.to 21) by unfold Ts.heldLt; rw [if_pos h0])
    clear h0
    go_enter Tryz.func71, Tryz.ntmps71
    go_wp2_with (first | (go_at_call 98; refine (Tp.to s _ _).mono ?_; go_loud (rintro e w1 ⟨rfl, hb1⟩; obtain ⟨hl1, hm1, a1_0, a1_1, a1_2, a1_3, a1_4, a1_5, fa1, b1_0, b1_1, b1_2, b1_3, b1_4, b1_5, fb1, q1⟩ := Tp.kp hb1; clear hb1)))
    refine bodyPost_ret (v := .agg #[.int .i64 (s.to 21).pl, .string (s.to 21).name, .bool (s.to 21).fin, .string (s.to 21).attr, .string (s.to 21).held, .int .i64 (s.to 21).read]) (by simp [results, Tryz.results71, go_sem, *]) rfl ⟨Tp.ret (HX.out.symm), ?_⟩
    repeat (refine Below.setCell ?_ (by simp) _)
    exact q1
  by_cases h1 : c = 60
  · have t0 : ((c.toNat : Int) == 47) = false := Tp.eq_false h0
    have t1 : ((c.toNat : Int) == 60) = true := Tp.eq_true h1
    have HX := Lib.hid (show s.heldLt c = s by unfold Ts.heldLt; rw [if_neg h0, if_pos h1])
    clear h0 h1
    go_enter Tryz.func71, Tryz.ntmps71
    go_wp2
    refine bodyPost_ret (v := .agg #[.int .i64 s.pl, .string s.name, .bool s.fin, .string s.attr, .string s.held, .int .i64 s.read]) (by simp [results, Tryz.results71, go_sem]) rfl ⟨Tp.ret (HX.out.symm), ?_⟩
    exact Tp.two _ _ _
  have t0 : ((c.toNat : Int) == 47) = false := Tp.eq_false h0
  have t1 : ((c.toNat : Int) == 60) = false := Tp.eq_false h1
  have HX := Lib.hid (show s.heldLt c = (s.to 19) by unfold Ts.heldLt; rw [if_neg h0, if_neg h1])
  clear h0 h1
  go_enter Tryz.func71, Tryz.ntmps71
  go_wp2_with (first | (go_at_call 98; refine (Tp.to s _ _).mono ?_; go_loud (rintro e w1 ⟨rfl, hb1⟩; obtain ⟨hl1, hm1, a1_0, a1_1, a1_2, a1_3, a1_4, a1_5, fa1, b1_0, b1_1, b1_2, b1_3, b1_4, b1_5, fb1, q1⟩ := Tp.kp hb1; clear hb1)))
  refine bodyPost_ret (v := .agg #[.int .i64 (s.to 19).pl, .string (s.to 19).name, .bool (s.to 19).fin, .string (s.to 19).attr, .string (s.to 19).held, .int .i64 (s.to 19).read]) (by simp [results, Tryz.results71, go_sem, *]) rfl ⟨Tp.ret (HX.out.symm), ?_⟩
  repeat (refine Below.setCell ?_ (by simp) _)
  exact q1
set_option maxHeartbeats 2000000 in
theorem Tp.heldOn (s : Ts) (c : UInt8) (w : World) : Calls Tryz.prog 107 #[.agg #[.int .i64 s.pl, .string s.name, .bool s.fin, .string s.attr, .string s.held, .int .i64 s.read], .int .u8 c.toNat] w fun e w' => e = .returned (.agg #[.int .i64 (s.heldOn c).pl, .string (s.heldOn c).name, .bool (s.heldOn c).fin, .string (s.heldOn c).attr, .string (s.heldOn c).held, .int .i64 (s.heldOn c).read]) ∧ Below w.heap.size w w' := by
  by_cases h0 : c = 60
  · have t0 : ((c.toNat : Int) == 60) = true := Tp.eq_true h0
    have HX := Lib.hid (show s.heldOn c = (s.to 20) by unfold Ts.heldOn; rw [if_pos h0])
    clear h0
    go_enter Tryz.func107, Tryz.ntmps107
    go_wp2_with (first | (go_at_call 98; refine (Tp.to s _ _).mono ?_; go_loud (rintro e w1 ⟨rfl, hb1⟩; obtain ⟨hl1, hm1, a1_0, a1_1, a1_2, a1_3, a1_4, a1_5, fa1, b1_0, b1_1, b1_2, b1_3, b1_4, b1_5, fb1, q1⟩ := Tp.kp hb1; clear hb1)))
    refine bodyPost_ret (v := .agg #[.int .i64 (s.to 20).pl, .string (s.to 20).name, .bool (s.to 20).fin, .string (s.to 20).attr, .string (s.to 20).held, .int .i64 (s.to 20).read]) (by simp [results, Tryz.results107, go_sem, *]) rfl ⟨Tp.ret (HX.out.symm), ?_⟩
    repeat (refine Below.setCell ?_ (by simp) _)
    exact q1
  have t0 : ((c.toNat : Int) == 60) = false := Tp.eq_false h0
  have HX := Lib.hid (show s.heldOn c = (s.to 19) by unfold Ts.heldOn; rw [if_neg h0])
  clear h0
  go_enter Tryz.func107, Tryz.ntmps107
  go_wp2_with (first | (go_at_call 98; refine (Tp.to s _ _).mono ?_; go_loud (rintro e w1 ⟨rfl, hb1⟩; obtain ⟨hl1, hm1, a1_0, a1_1, a1_2, a1_3, a1_4, a1_5, fa1, b1_0, b1_1, b1_2, b1_3, b1_4, b1_5, fb1, q1⟩ := Tp.kp hb1; clear hb1)))
  refine bodyPost_ret (v := .agg #[.int .i64 (s.to 19).pl, .string (s.to 19).name, .bool (s.to 19).fin, .string (s.to 19).attr, .string (s.to 19).held, .int .i64 (s.to 19).read]) (by simp [results, Tryz.results107, go_sem, *]) rfl ⟨Tp.ret (HX.out.symm), ?_⟩
  repeat (refine Below.setCell ?_ (by simp) _)
  exact q1
end Go.Proofs.YtblpkjlodncpeaaGreatDoor
