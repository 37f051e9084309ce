/-
  THE WALKS of tok's functions of a place, up to afterName.
-/
import Derived.Test.YtblpkjlodncpeaaGreatDoorBTLowtoTRowA
namespace Go.Proofs.YtblpkjlodncpeaaGreatDoor
open Go.RowKit
set_option maxHeartbeats 2000000 in
theorem Tp.data (s : Ts) (c : UInt8) (w : World) : Calls Tryz.prog 52 #[.agg #[.int .i64 s.pl, .string s.name, .bool s.fin, .string s.attr, .string s.held, .int .i64 s.read], .int .u8 c.toNat] w fun e w' => e = .returned (.agg #[.int .i64 (s.data c).pl, .string (s.data c).name, .bool (s.data c).fin, .string (s.data c).attr, .string (s.data c).held, .int .i64 (s.data c).read]) ∧ Below w.heap.size w w' := by
 by_cases h0 : c = 60
 ·
  have t0 := Tp.y60 h0
  have HX := Lib.hid (show s.data c = (s.to 1) by unfold Ts.data; rw [if_pos h0])
  clear h0
  go_enter Tryz.func52, Tryz.ntmps52
  go_wp2_with (first | (go_at_call 98; refine (Tp.to s _ _).mono ?_; go_loud (rintro e w1 ⟨rfl, hb1⟩; obtain ⟨hl1, hm1, a1_0, a1_1, a1_2, a1_3, a1_4, a1_5, fa1, b1_0, b1_1, b1_2, b1_3, b1_4, b1_5, fb1, q1⟩ := Tp.kp hb1; clear hb1)))
  refine bodyPost_ret (v := Ts.v (s.to 1)) (by simp [results, Tryz.results52, go_sem, Ts.v, *]) rfl ⟨Tp.ret (HX.out.symm), ?_⟩
  repeat (refine Below.setCell ?_ (by simp) _)
  exact q1
 have t0 := Tp.n60 h0
 have HX := Lib.hid (show s.data c = s by unfold Ts.data; rw [if_neg h0])
 clear h0
 go_enter Tryz.func52, Tryz.ntmps52
 go_wp2
 refine bodyPost_ret (v := Ts.v s) (by simp [results, Tryz.results52, go_sem, Ts.v]) rfl ⟨Tp.ret (HX.out.symm), ?_⟩
 exact Tp.two _ _ _
set_option maxHeartbeats 2000000 in
theorem Tp.tagOpen (s : Ts) (c : UInt8) (w : World) : Calls Tryz.prog 53 #[.agg #[.int .i64 s.pl, .string s.name, .bool s.fin, .string s.attr, .string s.held, .int .i64 s.read], .int .u8 c.toNat] w fun e w' => e = .returned (.agg #[.int .i64 (s.tagOpen c).pl, .string (s.tagOpen c).name, .bool (s.tagOpen c).fin, .string (s.tagOpen c).attr, .string (s.tagOpen c).held, .int .i64 (s.tagOpen c).read]) ∧ Below w.heap.size w w' := by
 by_cases h0 : Ts.letter c = true
 ·
  have t0 := h0
  have HX := Lib.hid (show s.tagOpen c = (s.openTag c) by unfold Ts.tagOpen; rw [if_pos h0])
  clear h0
  go_enter Tryz.func53, Tryz.ntmps53
  go_wp2_with (first | (go_at_call 99; refine (Tp.isLetter c _).mono ?_; rintro e w' ⟨rfl, rfl⟩) | (go_at_call 100; refine (Tp.openTag s c _).mono ?_; go_loud (rintro e w1 ⟨rfl, hb1⟩; obtain ⟨hl1, hm1, a1_0, a1_1, a1_2, a1_3, a1_4, a1_5, fa1, b1_0, b1_1, b1_2, b1_3, b1_4, b1_5, fb1, q1⟩ := Tp.kp hb1; clear hb1)))
  refine bodyPost_ret (v := Ts.v (s.openTag c)) (by simp [results, Tryz.results53, go_sem, Ts.v, *]) rfl ⟨Tp.ret (HX.out.symm), ?_⟩
  repeat (refine Below.setCell ?_ (by simp) _)
  exact q1
 by_cases h1 : c = 47
 ·
  have t0 := Bool.eq_false_iff.2 h0
  have t1 := Tp.y47 h1
  have HX := Lib.hid (show s.tagOpen c = (s.to 2) by unfold Ts.tagOpen; rw [if_neg h0, if_pos h1])
  clear h0 h1
  go_enter Tryz.func53, Tryz.ntmps53
  go_wp2_with (first | (go_at_call 99; refine (Tp.isLetter c _).mono ?_; rintro e w' ⟨rfl, rfl⟩) | (go_at_call 98; refine (Tp.to s _ _).mono ?_; go_loud (rintro e w1 ⟨rfl, hb1⟩; obtain ⟨hl1, hm1, a1_0, a1_1, a1_2, a1_3, a1_4, a1_5, fa1, b1_0, b1_1, b1_2, b1_3, b1_4, b1_5, fb1, q1⟩ := Tp.kp hb1; clear hb1)))
  refine bodyPost_ret (v := Ts.v (s.to 2)) (by simp [results, Tryz.results53, go_sem, Ts.v, *]) rfl ⟨Tp.ret (HX.out.symm), ?_⟩
  repeat (refine Below.setCell ?_ (by simp) _)
  exact q1
 by_cases h2 : c = 33
 ·
  have t0 := Bool.eq_false_iff.2 h0
  have t1 := Tp.n47 h1
  have t2 : ((c.toNat : Int) == 33) = true := Tp.eq_true h2
  have HX := Lib.hid (show s.tagOpen c = (s.to 13) by unfold Ts.tagOpen; rw [if_neg h0, if_neg h1, if_pos h2])
  clear h0 h1 h2
  go_enter Tryz.func53, Tryz.ntmps53
  go_wp2_with (first | (go_at_call 99; refine (Tp.isLetter c _).mono ?_; rintro e w' ⟨rfl, rfl⟩) | (go_at_call 98; refine (Tp.to s _ _).mono ?_; go_loud (rintro e w1 ⟨rfl, hb1⟩; obtain ⟨hl1, hm1, a1_0, a1_1, a1_2, a1_3, a1_4, a1_5, fa1, b1_0, b1_1, b1_2, b1_3, b1_4, b1_5, fb1, q1⟩ := Tp.kp hb1; clear hb1)))
  refine bodyPost_ret (v := Ts.v (s.to 13)) (by simp [results, Tryz.results53, go_sem, Ts.v, *]) rfl ⟨Tp.ret (HX.out.symm), ?_⟩
  repeat (refine Below.setCell ?_ (by simp) _)
  exact q1
 by_cases h3 : c = 60
 ·
  have t0 := Bool.eq_false_iff.2 h0
  have t1 := Tp.n47 h1
  have t2 := Tp.n33 h2
  have t3 := Tp.y60 h3
  have HX := Lib.hid (show s.tagOpen c = s by unfold Ts.tagOpen; rw [if_neg h0, if_neg h1, if_neg h2, if_pos h3])
  clear h0 h1 h2 h3
  go_enter Tryz.func53, Tryz.ntmps53
  go_wp2_with (first | (go_at_call 99; refine (Tp.isLetter c _).mono ?_; rintro e w' ⟨rfl, rfl⟩))
  refine bodyPost_ret (v := Ts.v s) (by simp [results, Tryz.results53, go_sem, Ts.v]) rfl ⟨Tp.ret (HX.out.symm), ?_⟩
  exact Tp.two _ _ _
 have t0 := Bool.eq_false_iff.2 h0
 have t1 := Tp.n47 h1
 have t2 := Tp.n33 h2
 have t3 := Tp.n60 h3
 have HX := Lib.hid (show s.tagOpen c = (s.to 0) by unfold Ts.tagOpen; rw [if_neg h0, if_neg h1, if_neg h2, if_neg h3])
 clear h0 h1 h2 h3
 go_enter Tryz.func53, Tryz.ntmps53
 go_wp2_with (first | (go_at_call 99; refine (Tp.isLetter c _).mono ?_; rintro e w' ⟨rfl, rfl⟩) | (go_at_call 98; refine (Tp.to s _ _).mono ?_; go_loud (rintro e w1 ⟨rfl, hb1⟩; obtain ⟨hl1, hm1, a1_0, a1_1, a1_2, a1_3, a1_4, a1_5, fa1, b1_0, b1_1, b1_2, b1_3, b1_4, b1_5, fb1, q1⟩ := Tp.kp hb1; clear hb1)))
 refine bodyPost_ret (v := Ts.v (s.to 0)) (by simp [results, Tryz.results53, go_sem, Ts.v, *]) rfl ⟨Tp.ret (HX.out.symm), ?_⟩
 repeat (refine Below.setCell ?_ (by simp) _)
 exact q1
set_option maxHeartbeats 2000000 in
theorem Tp.endOpen1 (s : Ts) (c : UInt8) (w : World) (t0 : Ts.letter c = true) : Calls Tryz.prog 54 #[.agg #[.int .i64 s.pl, .string s.name, .bool s.fin, .string s.attr, .string s.held, .int .i64 s.read], .int .u8 c.toNat] w fun e w' => e = .returned (.agg #[.int .i64 (⟨(s.openTag c).pl, (s.openTag c).name, true, (s.openTag c).attr, (s.openTag c).held, (s.openTag c).read⟩ : Ts).pl, .string (⟨(s.openTag c).pl, (s.openTag c).name, true, (s.openTag c).attr, (s.openTag c).held, (s.openTag c).read⟩ : Ts).name, .bool (⟨(s.openTag c).pl, (s.openTag c).name, true, (s.openTag c).attr, (s.openTag c).held, (s.openTag c).read⟩ : Ts).fin, .string (⟨(s.openTag c).pl, (s.openTag c).name, true, (s.openTag c).attr, (s.openTag c).held, (s.openTag c).read⟩ : Ts).attr, .string (⟨(s.openTag c).pl, (s.openTag c).name, true, (s.openTag c).attr, (s.openTag c).held, (s.openTag c).read⟩ : Ts).held, .int .i64 (⟨(s.openTag c).pl, (s.openTag c).name, true, (s.openTag c).attr, (s.openTag c).held, (s.openTag c).read⟩ : Ts).read]) ∧ Below w.heap.size w w' := by
 go_enter Tryz.func54, Tryz.ntmps54
 go_wp2_with (first | (go_at_call 99; refine (Tp.isLetter c _).mono ?_; rintro e w' ⟨rfl, rfl⟩) | (go_at_call 100; refine (Tp.openTag s c _).mono ?_; go_loud (rintro e w1 ⟨rfl, hb1⟩; obtain ⟨hl1, hm1, a1_0, a1_1, a1_2, a1_3, a1_4, a1_5, fa1, b1_0, b1_1, b1_2, b1_3, b1_4, b1_5, fb1, q1⟩ := Tp.kp hb1; clear hb1)) | refine Vm.stop 11 ?_)
 obtain ⟨W, hW, c0, c1, c2, c3, c4, c5, fW, cW, fO, sW, bW⟩ := Tp.six w1 w.heap.size (.int .i64 (s.openTag c).pl) (.string (s.openTag c).name) (.bool (s.openTag c).fin) (.string (s.openTag c).attr) (.string (s.openTag c).held) (.int .i64 (s.openTag c).read) a1_0 a1_1 a1_2 a1_3 a1_4 a1_5 fa1
 rw [hW]
 have qW := bW _ _ (Nat.le_refl _) q1
 have d0 := (cW (w.heap.size + 1) 0 (by omega)).trans b1_0
 have d1 := (cW (w.heap.size + 1) 1 (by omega)).trans b1_1
 have d2 := (cW (w.heap.size + 1) 2 (by omega)).trans b1_2
 have d3 := (cW (w.heap.size + 1) 3 (by omega)).trans b1_3
 have d4 := (cW (w.heap.size + 1) 4 (by omega)).trans b1_4
 have d5 := (cW (w.heap.size + 1) 5 (by omega)).trans b1_5
 have fD : ∀ i, W.frozen? ⟨w.heap.size + 1, i, none⟩ = false := fun i => (fO _ i).trans (fb1 i)
 have hlW : w.heap.size < W.heap.size := by rw [sW]; exact hl1
 have hmW : w.heap.size + 1 < W.heap.size := by rw [sW]; exact hm1
 clear hW cW fO sW bW q1 hl1 hm1 fa1 fb1 a1_0 b1_0 a1_1 b1_1 a1_2 b1_2 a1_3 b1_3 a1_4 b1_4 a1_5 b1_5
 refine ⟨?_⟩
 go_wp2
 refine bodyPost_ret (v := .agg #[.int .i64 (⟨(s.openTag c).pl, (s.openTag c).name, true, (s.openTag c).attr, (s.openTag c).held, (s.openTag c).read⟩ : Ts).pl, .string (⟨(s.openTag c).pl, (s.openTag c).name, true, (s.openTag c).attr, (s.openTag c).held, (s.openTag c).read⟩ : Ts).name, .bool (⟨(s.openTag c).pl, (s.openTag c).name, true, (s.openTag c).attr, (s.openTag c).held, (s.openTag c).read⟩ : Ts).fin, .string (⟨(s.openTag c).pl, (s.openTag c).name, true, (s.openTag c).attr, (s.openTag c).held, (s.openTag c).read⟩ : Ts).attr, .string (⟨(s.openTag c).pl, (s.openTag c).name, true, (s.openTag c).attr, (s.openTag c).held, (s.openTag c).read⟩ : Ts).held, .int .i64 (⟨(s.openTag c).pl, (s.openTag c).name, true, (s.openTag c).attr, (s.openTag c).held, (s.openTag c).read⟩ : Ts).read]) (by simp [results, Tryz.results54, go_sem, *]) rfl ⟨Tp.ret (rfl), ?_⟩
 repeat (refine Below.setCell ?_ (by simp) _)
 exact qW
set_option maxHeartbeats 2000000 in
theorem Tp.endOpen (s : Ts) (c : UInt8) (w : World) : Calls Tryz.prog 54 #[.agg #[.int .i64 s.pl, .string s.name, .bool s.fin, .string s.attr, .string s.held, .int .i64 s.read], .int .u8 c.toNat] w fun e w' => e = .returned (.agg #[.int .i64 (s.endOpen c).pl, .string (s.endOpen c).name, .bool (s.endOpen c).fin, .string (s.endOpen c).attr, .string (s.endOpen c).held, .int .i64 (s.endOpen c).read]) ∧ Below w.heap.size w w' := by
 by_cases h0 : Ts.letter c = true
 ·
  have h := Tp.endOpen1 s c w h0
  have HX := (show s.endOpen c = (⟨(s.openTag c).pl, (s.openTag c).name, true, (s.openTag c).attr, (s.openTag c).held, (s.openTag c).read⟩ : Ts) by unfold Ts.endOpen; rw [if_pos h0])
  rw [HX]
  exact h
 by_cases h1 : c = 60
 ·
  have t0 := Bool.eq_false_iff.2 h0
  have t1 := Tp.y60 h1
  have HX := Lib.hid (show s.endOpen c = (s.to 1) by unfold Ts.endOpen; rw [if_neg h0, if_pos h1])
  clear h0 h1
  go_enter Tryz.func54, Tryz.ntmps54
  go_wp2_with (first | (go_at_call 99; refine (Tp.isLetter c _).mono ?_; rintro e w' ⟨rfl, rfl⟩) | (go_at_call 98; refine (Tp.to s _ _).mono ?_; go_loud (rintro e w1 ⟨rfl, hb1⟩; obtain ⟨hl1, hm1, a1_0, a1_1, a1_2, a1_3, a1_4, a1_5, fa1, b1_0, b1_1, b1_2, b1_3, b1_4, b1_5, fb1, q1⟩ := Tp.kp hb1; clear hb1)))
  refine bodyPost_ret (v := Ts.v (s.to 1)) (by simp [results, Tryz.results54, go_sem, Ts.v, *]) rfl ⟨Tp.ret (HX.out.symm), ?_⟩
  repeat (refine Below.setCell ?_ (by simp) _)
  exact q1
 have t0 := Bool.eq_false_iff.2 h0
 have t1 := Tp.n60 h1
 have HX := Lib.hid (show s.endOpen c = (s.to 0) by unfold Ts.endOpen; rw [if_neg h0, if_neg h1])
 clear h0 h1
 go_enter Tryz.func54, Tryz.ntmps54
 go_wp2_with (first | (go_at_call 99; refine (Tp.isLetter c _).mono ?_; rintro e w' ⟨rfl, rfl⟩) | (go_at_call 98; refine (Tp.to s _ _).mono ?_; go_loud (rintro e w1 ⟨rfl, hb1⟩; obtain ⟨hl1, hm1, a1_0, a1_1, a1_2, a1_3, a1_4, a1_5, fa1, b1_0, b1_1, b1_2, b1_3, b1_4, b1_5, fb1, q1⟩ := Tp.kp hb1; clear hb1)))
 refine bodyPost_ret (v := Ts.v (s.to 0)) (by simp [results, Tryz.results54, go_sem, Ts.v, *]) rfl ⟨Tp.ret (HX.out.symm), ?_⟩
 repeat (refine Below.setCell ?_ (by simp) _)
 exact q1
set_option maxHeartbeats 2000000 in
theorem Tp.tagName (s : Ts) (c : UInt8) (w : World) (hn : s.name.size ≤ maxLen) : Calls Tryz.prog 55 #[.agg #[.int .i64 s.pl, .string s.name, .bool s.fin, .string s.attr, .string s.held, .int .i64 s.read], .int .u8 c.toNat] w fun e w' => e = .returned (.agg #[.int .i64 (s.tagName c).pl, .string (s.tagName c).name, .bool (s.tagName c).fin, .string (s.tagName c).attr, .string (s.tagName c).held, .int .i64 (s.tagName c).read]) ∧ Below w.heap.size w w' := by
 by_cases h0 : Ts.blank c = true
 ·
  have t0 := h0
  have HX := Lib.hid (show s.tagName c = (s.to 4) by unfold Ts.tagName; rw [if_pos h0])
  clear h0
  go_enter Tryz.func55, Tryz.ntmps55
  go_wp2_with (first | (go_at_call 101; refine (Tp.isBlank c _).mono ?_; rintro e w' ⟨rfl, rfl⟩) | (go_at_call 98; refine (Tp.to s _ _).mono ?_; go_loud (rintro e w1 ⟨rfl, hb1⟩; obtain ⟨hl1, hm1, a1_0, a1_1, a1_2, a1_3, a1_4, a1_5, fa1, b1_0, b1_1, b1_2, b1_3, b1_4, b1_5, fb1, q1⟩ := Tp.kp hb1; clear hb1)))
  refine bodyPost_ret (v := Ts.v (s.to 4)) (by simp [results, Tryz.results55, go_sem, Ts.v, *]) rfl ⟨Tp.ret (HX.out.symm), ?_⟩
  repeat (refine Below.setCell ?_ (by simp) _)
  exact q1
 by_cases h1 : c = 47
 ·
  have t0 := Bool.eq_false_iff.2 h0
  have t1 := Tp.y47 h1
  have HX := Lib.hid (show s.tagName c = (s.to 12) by unfold Ts.tagName; rw [if_neg h0, if_pos h1])
  clear h0 h1
  go_enter Tryz.func55, Tryz.ntmps55
  go_wp2_with (first | (go_at_call 101; refine (Tp.isBlank c _).mono ?_; rintro e w' ⟨rfl, rfl⟩) | (go_at_call 98; refine (Tp.to s _ _).mono ?_; go_loud (rintro e w1 ⟨rfl, hb1⟩; obtain ⟨hl1, hm1, a1_0, a1_1, a1_2, a1_3, a1_4, a1_5, fa1, b1_0, b1_1, b1_2, b1_3, b1_4, b1_5, fb1, q1⟩ := Tp.kp hb1; clear hb1)))
  refine bodyPost_ret (v := Ts.v (s.to 12)) (by simp [results, Tryz.results55, go_sem, Ts.v, *]) rfl ⟨Tp.ret (HX.out.symm), ?_⟩
  repeat (refine Below.setCell ?_ (by simp) _)
  exact q1
 by_cases h2 : c = 62
 ·
  have t0 := Bool.eq_false_iff.2 h0
  have t1 := Tp.n47 h1
  have t2 := Tp.y62 h2
  have HX := Lib.hid (show s.tagName c = s.closed by unfold Ts.tagName; rw [if_neg h0, if_neg h1, if_pos h2])
  clear h0 h1 h2
  go_enter Tryz.func55, Tryz.ntmps55
  go_wp2_with (first | (go_at_call 101; refine (Tp.isBlank c _).mono ?_; rintro e w' ⟨rfl, rfl⟩) | (go_at_call 102; refine (Tp.closed s _).mono ?_; go_loud (rintro e w1 ⟨rfl, hb1⟩; obtain ⟨hl1, hm1, a1_0, a1_1, a1_2, a1_3, a1_4, a1_5, fa1, b1_0, b1_1, b1_2, b1_3, b1_4, b1_5, fb1, q1⟩ := Tp.kp hb1; clear hb1)))
  refine bodyPost_ret (v := Ts.v s.closed) (by simp [results, Tryz.results55, go_sem, Ts.v, *]) rfl ⟨Tp.ret (HX.out.symm), ?_⟩
  repeat (refine Below.setCell ?_ (by simp) _)
  exact q1
 have t0 := Bool.eq_false_iff.2 h0
 have t1 := Tp.n47 h1
 have t2 := Tp.n62 h2
 have HX := Lib.hid (show s.tagName c = (⟨s.pl, Ts.grown s.name c, s.fin, s.attr, s.held, s.read⟩ : Ts) by unfold Ts.tagName; rw [if_neg h0, if_neg h1, if_neg h2])
 clear h0 h1 h2
 go_enter Tryz.func55, Tryz.ntmps55
 go_wp2_with (first | (go_at_call 101; refine (Tp.isBlank c _).mono ?_; rintro e w' ⟨rfl, rfl⟩) | (go_at_call 103; refine (Tp.grown s.name c _ hn).mono ?_; go_loud (rintro e w1 ⟨rfl, hb1⟩; obtain ⟨hl1, hm1, a1_0, a1_1, a1_2, a1_3, a1_4, a1_5, fa1, b1_0, b1_1, b1_2, b1_3, b1_4, b1_5, fb1, q1⟩ := Tp.kp hb1; clear hb1)))
 refine bodyPost_ret (v := .agg #[.int .i64 (⟨s.pl, Ts.grown s.name c, s.fin, s.attr, s.held, s.read⟩ : Ts).pl, .string (⟨s.pl, Ts.grown s.name c, s.fin, s.attr, s.held, s.read⟩ : Ts).name, .bool (⟨s.pl, Ts.grown s.name c, s.fin, s.attr, s.held, s.read⟩ : Ts).fin, .string (⟨s.pl, Ts.grown s.name c, s.fin, s.attr, s.held, s.read⟩ : Ts).attr, .string (⟨s.pl, Ts.grown s.name c, s.fin, s.attr, s.held, s.read⟩ : Ts).held, .int .i64 (⟨s.pl, Ts.grown s.name c, s.fin, s.attr, s.held, s.read⟩ : Ts).read]) (by simp [results, Tryz.results55, go_sem, *]) rfl ⟨Tp.ret (HX.out.symm), ?_⟩
 repeat (refine Below.setCell ?_ (by simp) _)
 exact q1
set_option maxHeartbeats 2000000 in
theorem Tp.beforeAttr (s : Ts) (c : UInt8) (w : World) : Calls Tryz.prog 56 #[.agg #[.int .i64 s.pl, .string s.name, .bool s.fin, .string s.attr, .string s.held, .int .i64 s.read], .int .u8 c.toNat] w fun e w' => e = .returned (.agg #[.int .i64 (s.beforeAttr c).pl, .string (s.beforeAttr c).name, .bool (s.beforeAttr c).fin, .string (s.beforeAttr c).attr, .string (s.beforeAttr c).held, .int .i64 (s.beforeAttr c).read]) ∧ Below w.heap.size w w' := by
 by_cases h0 : Ts.blank c = true
 ·
  have t0 := h0
  have HX := Lib.hid (show s.beforeAttr c = s by unfold Ts.beforeAttr; rw [if_pos h0])
  clear h0
  go_enter Tryz.func56, Tryz.ntmps56
  go_wp2_with (first | (go_at_call 101; refine (Tp.isBlank c _).mono ?_; rintro e w' ⟨rfl, rfl⟩))
  refine bodyPost_ret (v := Ts.v s) (by simp [results, Tryz.results56, go_sem, Ts.v]) rfl ⟨Tp.ret (HX.out.symm), ?_⟩
  exact Tp.two _ _ _
 by_cases h1 : c = 47
 ·
  have t0 := Bool.eq_false_iff.2 h0
  have t1 := Tp.y47 h1
  have HX := Lib.hid (show s.beforeAttr c = (s.to 12) by unfold Ts.beforeAttr; rw [if_neg h0, if_pos h1])
  clear h0 h1
  go_enter Tryz.func56, Tryz.ntmps56
  go_wp2_with (first | (go_at_call 101; refine (Tp.isBlank c _).mono ?_; rintro e w' ⟨rfl, rfl⟩) | (go_at_call 98; refine (Tp.to s _ _).mono ?_; go_loud (rintro e w1 ⟨rfl, hb1⟩; obtain ⟨hl1, hm1, a1_0, a1_1, a1_2, a1_3, a1_4, a1_5, fa1, b1_0, b1_1, b1_2, b1_3, b1_4, b1_5, fb1, q1⟩ := Tp.kp hb1; clear hb1)))
  refine bodyPost_ret (v := Ts.v (s.to 12)) (by simp [results, Tryz.results56, go_sem, Ts.v, *]) rfl ⟨Tp.ret (HX.out.symm), ?_⟩
  repeat (refine Below.setCell ?_ (by simp) _)
  exact q1
 by_cases h2 : c = 62
 ·
  have t0 := Bool.eq_false_iff.2 h0
  have t1 := Tp.n47 h1
  have t2 := Tp.y62 h2
  have HX := Lib.hid (show s.beforeAttr c = s.closed by unfold Ts.beforeAttr; rw [if_neg h0, if_neg h1, if_pos h2])
  clear h0 h1 h2
  go_enter Tryz.func56, Tryz.ntmps56
  go_wp2_with (first | (go_at_call 101; refine (Tp.isBlank c _).mono ?_; rintro e w' ⟨rfl, rfl⟩) | (go_at_call 102; refine (Tp.closed s _).mono ?_; go_loud (rintro e w1 ⟨rfl, hb1⟩; obtain ⟨hl1, hm1, a1_0, a1_1, a1_2, a1_3, a1_4, a1_5, fa1, b1_0, b1_1, b1_2, b1_3, b1_4, b1_5, fb1, q1⟩ := Tp.kp hb1; clear hb1)))
  refine bodyPost_ret (v := Ts.v s.closed) (by simp [results, Tryz.results56, go_sem, Ts.v, *]) rfl ⟨Tp.ret (HX.out.symm), ?_⟩
  repeat (refine Below.setCell ?_ (by simp) _)
  exact q1
 have t0 := Bool.eq_false_iff.2 h0
 have t1 := Tp.n47 h1
 have t2 := Tp.n62 h2
 have HX := Lib.hid (show s.beforeAttr c = (s.openAttr c) by unfold Ts.beforeAttr; rw [if_neg h0, if_neg h1, if_neg h2])
 clear h0 h1 h2
 go_enter Tryz.func56, Tryz.ntmps56
 go_wp2_with (first | (go_at_call 101; refine (Tp.isBlank c _).mono ?_; rintro e w' ⟨rfl, rfl⟩) | (go_at_call 104; refine (Tp.openAttr s c _).mono ?_; go_loud (rintro e w1 ⟨rfl, hb1⟩; obtain ⟨hl1, hm1, a1_0, a1_1, a1_2, a1_3, a1_4, a1_5, fa1, b1_0, b1_1, b1_2, b1_3, b1_4, b1_5, fb1, q1⟩ := Tp.kp hb1; clear hb1)))
 refine bodyPost_ret (v := Ts.v (s.openAttr c)) (by simp [results, Tryz.results56, go_sem, Ts.v, *]) rfl ⟨Tp.ret (HX.out.symm), ?_⟩
 repeat (refine Below.setCell ?_ (by simp) _)
 exact q1
set_option maxHeartbeats 2000000 in
theorem Tp.attrName (s : Ts) (c : UInt8) (w : World) (hn : s.attr.size ≤ maxLen) : Calls Tryz.prog 57 #[.agg #[.int .i64 s.pl, .string s.name, .bool s.fin, .string s.attr, .string s.held, .int .i64 s.read], .int .u8 c.toNat] w fun e w' => e = .returned (.agg #[.int .i64 (s.attrName c).pl, .string (s.attrName c).name, .bool (s.attrName c).fin, .string (s.attrName c).attr, .string (s.attrName c).held, .int .i64 (s.attrName c).read]) ∧ Below w.heap.size w w' := by
 by_cases h0 : Ts.blank c = true
 ·
  have t0 := h0
  have HX := Lib.hid (show s.attrName c = (s.to 6) by unfold Ts.attrName; rw [if_pos h0])
  clear h0
  go_enter Tryz.func57, Tryz.ntmps57
  go_wp2_with (first | (go_at_call 101; refine (Tp.isBlank c _).mono ?_; rintro e w' ⟨rfl, rfl⟩) | (go_at_call 98; refine (Tp.to s _ _).mono ?_; go_loud (rintro e w1 ⟨rfl, hb1⟩; obtain ⟨hl1, hm1, a1_0, a1_1, a1_2, a1_3, a1_4, a1_5, fa1, b1_0, b1_1, b1_2, b1_3, b1_4, b1_5, fb1, q1⟩ := Tp.kp hb1; clear hb1)))
  refine bodyPost_ret (v := Ts.v (s.to 6)) (by simp [results, Tryz.results57, go_sem, Ts.v, *]) rfl ⟨Tp.ret (HX.out.symm), ?_⟩
  repeat (refine Below.setCell ?_ (by simp) _)
  exact q1
 by_cases h1 : c = 47
 ·
  have t0 := Bool.eq_false_iff.2 h0
  have t1 := Tp.y47 h1
  have HX := Lib.hid (show s.attrName c = (s.to 12) by unfold Ts.attrName; rw [if_neg h0, if_pos h1])
  clear h0 h1
  go_enter Tryz.func57, Tryz.ntmps57
  go_wp2_with (first | (go_at_call 101; refine (Tp.isBlank c _).mono ?_; rintro e w' ⟨rfl, rfl⟩) | (go_at_call 98; refine (Tp.to s _ _).mono ?_; go_loud (rintro e w1 ⟨rfl, hb1⟩; obtain ⟨hl1, hm1, a1_0, a1_1, a1_2, a1_3, a1_4, a1_5, fa1, b1_0, b1_1, b1_2, b1_3, b1_4, b1_5, fb1, q1⟩ := Tp.kp hb1; clear hb1)))
  refine bodyPost_ret (v := Ts.v (s.to 12)) (by simp [results, Tryz.results57, go_sem, Ts.v, *]) rfl ⟨Tp.ret (HX.out.symm), ?_⟩
  repeat (refine Below.setCell ?_ (by simp) _)
  exact q1
 by_cases h2 : c = 62
 ·
  have t0 := Bool.eq_false_iff.2 h0
  have t1 := Tp.n47 h1
  have t2 := Tp.y62 h2
  have HX := Lib.hid (show s.attrName c = s.closed by unfold Ts.attrName; rw [if_neg h0, if_neg h1, if_pos h2])
  clear h0 h1 h2
  go_enter Tryz.func57, Tryz.ntmps57
  go_wp2_with (first | (go_at_call 101; refine (Tp.isBlank c _).mono ?_; rintro e w' ⟨rfl, rfl⟩) | (go_at_call 102; refine (Tp.closed s _).mono ?_; go_loud (rintro e w1 ⟨rfl, hb1⟩; obtain ⟨hl1, hm1, a1_0, a1_1, a1_2, a1_3, a1_4, a1_5, fa1, b1_0, b1_1, b1_2, b1_3, b1_4, b1_5, fb1, q1⟩ := Tp.kp hb1; clear hb1)))
  refine bodyPost_ret (v := Ts.v s.closed) (by simp [results, Tryz.results57, go_sem, Ts.v, *]) rfl ⟨Tp.ret (HX.out.symm), ?_⟩
  repeat (refine Below.setCell ?_ (by simp) _)
  exact q1
 by_cases h3 : c = 61
 ·
  have t0 := Bool.eq_false_iff.2 h0
  have t1 := Tp.n47 h1
  have t2 := Tp.n62 h2
  have t3 := Tp.y61 h3
  have HX := Lib.hid (show s.attrName c = (s.to 7) by unfold Ts.attrName; rw [if_neg h0, if_neg h1, if_neg h2, if_pos h3])
  clear h0 h1 h2 h3
  go_enter Tryz.func57, Tryz.ntmps57
  go_wp2_with (first | (go_at_call 101; refine (Tp.isBlank c _).mono ?_; rintro e w' ⟨rfl, rfl⟩) | (go_at_call 98; refine (Tp.to s _ _).mono ?_; go_loud (rintro e w1 ⟨rfl, hb1⟩; obtain ⟨hl1, hm1, a1_0, a1_1, a1_2, a1_3, a1_4, a1_5, fa1, b1_0, b1_1, b1_2, b1_3, b1_4, b1_5, fb1, q1⟩ := Tp.kp hb1; clear hb1)))
  refine bodyPost_ret (v := Ts.v (s.to 7)) (by simp [results, Tryz.results57, go_sem, Ts.v, *]) rfl ⟨Tp.ret (HX.out.symm), ?_⟩
  repeat (refine Below.setCell ?_ (by simp) _)
  exact q1
 have t0 := Bool.eq_false_iff.2 h0
 have t1 := Tp.n47 h1
 have t2 := Tp.n62 h2
 have t3 := Tp.n61 h3
 have HX := Lib.hid (show s.attrName c = (⟨s.pl, s.name, s.fin, Ts.grown s.attr c, s.held, s.read⟩ : Ts) by unfold Ts.attrName; rw [if_neg h0, if_neg h1, if_neg h2, if_neg h3])
 clear h0 h1 h2 h3
 go_enter Tryz.func57, Tryz.ntmps57
 go_wp2_with (first | (go_at_call 101; refine (Tp.isBlank c _).mono ?_; rintro e w' ⟨rfl, rfl⟩) | (go_at_call 103; refine (Tp.grown s.attr c _ hn).mono ?_; go_loud (rintro e w1 ⟨rfl, hb1⟩; obtain ⟨hl1, hm1, a1_0, a1_1, a1_2, a1_3, a1_4, a1_5, fa1, b1_0, b1_1, b1_2, b1_3, b1_4, b1_5, fb1, q1⟩ := Tp.kp hb1; clear hb1)))
 refine bodyPost_ret (v := .agg #[.int .i64 (⟨s.pl, s.name, s.fin, Ts.grown s.attr c, s.held, s.read⟩ : Ts).pl, .string (⟨s.pl, s.name, s.fin, Ts.grown s.attr c, s.held, s.read⟩ : Ts).name, .bool (⟨s.pl, s.name, s.fin, Ts.grown s.attr c, s.held, s.read⟩ : Ts).fin, .string (⟨s.pl, s.name, s.fin, Ts.grown s.attr c, s.held, s.read⟩ : Ts).attr, .string (⟨s.pl, s.name, s.fin, Ts.grown s.attr c, s.held, s.read⟩ : Ts).held, .int .i64 (⟨s.pl, s.name, s.fin, Ts.grown s.attr c, s.held, s.read⟩ : Ts).read]) (by simp [results, Tryz.results57, go_sem, *]) rfl ⟨Tp.ret (HX.out.symm), ?_⟩
 repeat (refine Below.setCell ?_ (by simp) _)
 exact q1
set_option maxHeartbeats 2000000 in
theorem Tp.afterName (s : Ts) (c : UInt8) (w : World) : Calls Tryz.prog 58 #[.agg #[.int .i64 s.pl, .string s.name, .bool s.fin, .string s.attr, .string s.held, .int .i64 s.read], .int .u8 c.toNat] w fun e w' => e = .returned (.agg #[.int .i64 (s.afterName c).pl, .string (s.afterName c).name, .bool (s.afterName c).fin, .string (s.afterName c).attr, .string (s.afterName c).held, .int .i64 (s.afterName c).read]) ∧ Below w.heap.size w w' := by
 by_cases h0 : Ts.blank c = true
 ·
  have t0 := h0
  have HX := Lib.hid (show s.afterName c = s by unfold Ts.afterName; rw [if_pos h0])
  clear h0
  go_enter Tryz.func58, Tryz.ntmps58
  go_wp2_with (first | (go_at_call 101; refine (Tp.isBlank c _).mono ?_; rintro e w' ⟨rfl, rfl⟩))
  refine bodyPost_ret (v := Ts.v s) (by simp [results, Tryz.results58, go_sem, Ts.v]) rfl ⟨Tp.ret (HX.out.symm), ?_⟩
  exact Tp.two _ _ _
 by_cases h1 : c = 47
 ·
  have t0 := Bool.eq_false_iff.2 h0
  have t1 := Tp.y47 h1
  have HX := Lib.hid (show s.afterName c = (s.to 12) by unfold Ts.afterName; rw [if_neg h0, if_pos h1])
  clear h0 h1
  go_enter Tryz.func58, Tryz.ntmps58
  go_wp2_with (first | (go_at_call 101; refine (Tp.isBlank c _).mono ?_; rintro e w' ⟨rfl, rfl⟩) | (go_at_call 98; refine (Tp.to s _ _).mono ?_; go_loud (rintro e w1 ⟨rfl, hb1⟩; obtain ⟨hl1, hm1, a1_0, a1_1, a1_2, a1_3, a1_4, a1_5, fa1, b1_0, b1_1, b1_2, b1_3, b1_4, b1_5, fb1, q1⟩ := Tp.kp hb1; clear hb1)))
  refine bodyPost_ret (v := Ts.v (s.to 12)) (by simp [results, Tryz.results58, go_sem, Ts.v, *]) rfl ⟨Tp.ret (HX.out.symm), ?_⟩
  repeat (refine Below.setCell ?_ (by simp) _)
  exact q1
 by_cases h2 : c = 62
 ·
  have t0 := Bool.eq_false_iff.2 h0
  have t1 := Tp.n47 h1
  have t2 := Tp.y62 h2
  have HX := Lib.hid (show s.afterName c = s.closed by unfold Ts.afterName; rw [if_neg h0, if_neg h1, if_pos h2])
  clear h0 h1 h2
  go_enter Tryz.func58, Tryz.ntmps58
  go_wp2_with (first | (go_at_call 101; refine (Tp.isBlank c _).mono ?_; rintro e w' ⟨rfl, rfl⟩) | (go_at_call 102; refine (Tp.closed s _).mono ?_; go_loud (rintro e w1 ⟨rfl, hb1⟩; obtain ⟨hl1, hm1, a1_0, a1_1, a1_2, a1_3, a1_4, a1_5, fa1, b1_0, b1_1, b1_2, b1_3, b1_4, b1_5, fb1, q1⟩ := Tp.kp hb1; clear hb1)))
  refine bodyPost_ret (v := Ts.v s.closed) (by simp [results, Tryz.results58, go_sem, Ts.v, *]) rfl ⟨Tp.ret (HX.out.symm), ?_⟩
  repeat (refine Below.setCell ?_ (by simp) _)
  exact q1
 by_cases h3 : c = 61
 ·
  have t0 := Bool.eq_false_iff.2 h0
  have t1 := Tp.n47 h1
  have t2 := Tp.n62 h2
  have t3 := Tp.y61 h3
  have HX := Lib.hid (show s.afterName c = (s.to 7) by unfold Ts.afterName; rw [if_neg h0, if_neg h1, if_neg h2, if_pos h3])
  clear h0 h1 h2 h3
  go_enter Tryz.func58, Tryz.ntmps58
  go_wp2_with (first | (go_at_call 101; refine (Tp.isBlank c _).mono ?_; rintro e w' ⟨rfl, rfl⟩) | (go_at_call 98; refine (Tp.to s _ _).mono ?_; go_loud (rintro e w1 ⟨rfl, hb1⟩; obtain ⟨hl1, hm1, a1_0, a1_1, a1_2, a1_3, a1_4, a1_5, fa1, b1_0, b1_1, b1_2, b1_3, b1_4, b1_5, fb1, q1⟩ := Tp.kp hb1; clear hb1)))
  refine bodyPost_ret (v := Ts.v (s.to 7)) (by simp [results, Tryz.results58, go_sem, Ts.v, *]) rfl ⟨Tp.ret (HX.out.symm), ?_⟩
  repeat (refine Below.setCell ?_ (by simp) _)
  exact q1
 have t0 := Bool.eq_false_iff.2 h0
 have t1 := Tp.n47 h1
 have t2 := Tp.n62 h2
 have t3 := Tp.n61 h3
 have HX := Lib.hid (show s.afterName c = (s.openAttr c) by unfold Ts.afterName; rw [if_neg h0, if_neg h1, if_neg h2, if_neg h3])
 clear h0 h1 h2 h3
 go_enter Tryz.func58, Tryz.ntmps58
 go_wp2_with (first | (go_at_call 101; refine (Tp.isBlank c _).mono ?_; rintro e w' ⟨rfl, rfl⟩) | (go_at_call 104; refine (Tp.openAttr s c _).mono ?_; go_loud (rintro e w1 ⟨rfl, hb1⟩; obtain ⟨hl1, hm1, a1_0, a1_1, a1_2, a1_3, a1_4, a1_5, fa1, b1_0, b1_1, b1_2, b1_3, b1_4, b1_5, fb1, q1⟩ := Tp.kp hb1; clear hb1)))
 refine bodyPost_ret (v := Ts.v (s.openAttr c)) (by simp [results, Tryz.results58, go_sem, Ts.v, *]) rfl ⟨Tp.ret (HX.out.symm), ?_⟩
 repeat (refine Below.setCell ?_ (by simp) _)
 exact q1
end Go.Proofs.YtblpkjlodncpeaaGreatDoor
