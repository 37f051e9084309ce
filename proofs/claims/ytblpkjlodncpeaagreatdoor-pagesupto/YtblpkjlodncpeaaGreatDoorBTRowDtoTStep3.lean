/-
  THE WALKS of tok.isHeldAt.
-/
import Derived.Test.YtblpkjlodncpeaaGreatDoorBTLowtoTRowA
import Derived.Test.YtblpkjlodncpeaaGreatDoorBTRowC
import Derived.Deep.RegionHeld
import Derived.Test.YtblpkjlodncpeaaGreatDoorBTRowB
import Derived.Great.BuildSlice
import Derived.Deep.MidRow
namespace Go.Proofs.YtblpkjlodncpeaaGreatDoor
open Go.RowKit
theorem Tp.low_beq (d c : UInt8) : ((Ts.low d).toList == (Ts.low c).toList) = (Pl.lowB d == Pl.lowB c) := by
 rw [ByteArray.toList_eq, ByteArray.toList_eq, Bool.eq_iff_iff]
 simp [Ts.low]
theorem Tp.getD (s : ByteArray) (k : Nat) (h : k < s.size) : s.data.toList.getD k 0 = s[k] := by
 have h' : k < s.data.toList.length := by rw [Wk.len_data]; exact h
 rw [List.getD_eq_getElem?_getD, List.getElem?_eq_getElem h']
 rfl
set_option maxHeartbeats 1000000 in
theorem Tp.heldAt3 (p : Int) (n : ByteArray) (f : Bool) (a h : ByteArray) (k : Nat) (c : UInt8) (w : World) (hk : k < h.size) (b : Bool) (hb : (Pl.lowB h[k] == Pl.lowB c) = b) :
  Calls Tryz.prog 106 #[.agg #[.int .i64 p, .string n, .bool f, .string a, .string h, .int .i64 (k : Int)], .int .u8 c.toNat] w fun e w' => e = .returned (.bool b) ∧ Below w.heap.size w w' := by
 have t1 : decide ((0 : Int) ≤ (k : Int)) = true := decide_eq_true (by omega)
 have t2 : decide ((k : Int) < (h.size : Int)) = true := decide_eq_true (by omega)
 have hL1 := Tp.lowered h[k]
 have hL2 := Tp.lowered c
 have hq := Tp.low_beq h[k] c
 rw [hb] at hq
 clear hb
 generalize Ts.low h[k] = x at *
 generalize Ts.low c = y at *
 go_enter Tryz.func106, Tryz.ntmps106
 go_wp2_with (first | (go_at_call 133; refine (hL1 _).mono ?_; rintro e w1 ⟨rfl, hb1⟩; clear hL1; have hz1 := hb1.size; simp at hz1; have a4 : w1.cell? ⟨w.heap.size, 4, none⟩ = some (.string h) := (hb1.cell (p := ⟨w.heap.size, 4, none⟩) (by simp; try omega)).trans (by simp); have q1 : Below w.heap.size w w1 := ((Below.refl _ _).alloc (Nat.le_refl _) _).trans (hb1.mono (by simp; try omega)); clear hb1) | (go_at_call 133; refine (hL2 _).mono ?_; rintro e w2 ⟨rfl, hb2⟩))
 go_ret
 exact ⟨rfl, q1.trans (hb2.mono (by omega))⟩
theorem Tp.isHeldAt (s : Ts) (c : UInt8) (w : World) :
  Calls Tryz.prog 106 #[.agg #[.int .i64 s.pl, .string s.name, .bool s.fin, .string s.attr, .string s.held, .int .i64 s.read], .int .u8 c.toNat] w fun e w' => e = .returned (.bool (s.heldAt c)) ∧ Below w.heap.size w w' := by
 by_cases h0 : 0 ≤ s.read
 ·
  by_cases h1 : s.read < s.held.size
  ·
   obtain ⟨p, n, f, a, h, r⟩ := s
   simp only at h0 h1 ⊢
   obtain ⟨k, rfl⟩ := Int.eq_ofNat_of_zero_le h0
   have hk : k < h.size := by omega
   refine Tp.heldAt3 p n f a h k c w hk _ ?_
   unfold Ts.heldAt
   simp only [Int.toNat_natCast, Tp.getD h k hk]
   simp [hk]
  ·
   have t1 : decide (0 ≤ s.read) = true := decide_eq_true h0
   have t2 : decide (s.read < (s.held.size : Int)) = false := decide_eq_false h1
   have HX := Lib.hid (show s.heldAt c = false by unfold Ts.heldAt; rw [t2]; simp)
   clear h1
   go_enter Tryz.func106, Tryz.ntmps106
   go_wp2
   go_ret
   exact ⟨Wk.ret_bool HX.out.symm, (Below.refl _ _).alloc (Nat.le_refl _) _⟩
 ·
  have t1 : decide (0 ≤ s.read) = false := decide_eq_false h0
  have HX := Lib.hid (show s.heldAt c = false by unfold Ts.heldAt; rw [t1]; simp)
  go_enter Tryz.func106, Tryz.ntmps106
  go_wp2
  go_ret
  exact ⟨Wk.ret_bool HX.out.symm, (Below.refl _ _).alloc (Nat.le_refl _) _⟩
set_option maxHeartbeats 2000000 in
theorem Tp.heldSlash1 (s : Ts) (c : UInt8) (w : World) (t0 : s.heldAt c = true) : Calls Tryz.prog 72 #[.agg #[.int .i64 s.pl, .string s.name, .bool s.fin, .string s.attr, .string s.held, .int .i64 s.read], .int .u8 c.toNat] w fun e w' => e = .returned (.agg #[.int .i64 (⟨(s.to 22).pl, (s.to 22).name, (s.to 22).fin, (s.to 22).attr, (s.to 22).held, 1⟩ : Ts).pl, .string (⟨(s.to 22).pl, (s.to 22).name, (s.to 22).fin, (s.to 22).attr, (s.to 22).held, 1⟩ : Ts).name, .bool (⟨(s.to 22).pl, (s.to 22).name, (s.to 22).fin, (s.to 22).attr, (s.to 22).held, 1⟩ : Ts).fin, .string (⟨(s.to 22).pl, (s.to 22).name, (s.to 22).fin, (s.to 22).attr, (s.to 22).held, 1⟩ : Ts).attr, .string (⟨(s.to 22).pl, (s.to 22).name, (s.to 22).fin, (s.to 22).attr, (s.to 22).held, 1⟩ : Ts).held, .int .i64 (⟨(s.to 22).pl, (s.to 22).name, (s.to 22).fin, (s.to 22).attr, (s.to 22).held, 1⟩ : Ts).read]) ∧ Below w.heap.size w w' := by
 go_enter Tryz.func72, Tryz.ntmps72
 go_wp2_with (first | (go_at_call 106; refine (Tp.isHeldAt s c _).mono ?_; go_loud (rintro e w1 ⟨rfl, hb1⟩; obtain ⟨hl1, hm1, a1_0, a1_1, a1_2, a1_3, a1_4, a1_5, fa1, b1_0, b1_1, b1_2, b1_3, b1_4, b1_5, fb1, q1⟩ := Tp.kp hb1; clear hb1)) | (go_at_call 98; refine (Tp.to s _ _).mono ?_; go_loud (rintro e w2 ⟨rfl, hb2⟩; obtain ⟨a2_0, a2_1, a2_2, a2_3, a2_4, a2_5⟩ := Tp.k6 hb2 ⟨a1_0, a1_1, a1_2, a1_3, a1_4, a1_5⟩; obtain ⟨b2_0, b2_1, b2_2, b2_3, b2_4, b2_5⟩ := Tp.k6 hb2 ⟨b1_0, b1_1, b1_2, b1_3, b1_4, b1_5⟩; have fa2 := Tp.keepF hb2 hl1 fa1; have fb2 := Tp.keepF hb2 hm1 fb1; have hl2 := Nat.lt_of_lt_of_le hl1 hb2.size; have hm2 := Nat.lt_of_lt_of_le hm1 hb2.size; have q2 : Below w.heap.size w w2 := q1.trans (hb2.mono (by omega)); clear hb2 a1_0 a1_1 a1_2 a1_3 a1_4 a1_5 b1_0 b1_1 b1_2 b1_3 b1_4 b1_5 fa1 fb1)) | refine Vm.stop 10 ?_)
 obtain ⟨W, hW, c0, c1, c2, c3, c4, c5, fW, cW, fO, sW, bW⟩ := Tp.six w2 w.heap.size (.int .i64 (s.to 22).pl) (.string (s.to 22).name) (.bool (s.to 22).fin) (.string (s.to 22).attr) (.string (s.to 22).held) (.int .i64 (s.to 22).read) a2_0 a2_1 a2_2 a2_3 a2_4 a2_5 fa2
 rw [hW]
 have qW := bW _ _ (Nat.le_refl _) q2
 have d0 := (cW (w.heap.size + 1) 0 (by omega)).trans b2_0
 have d1 := (cW (w.heap.size + 1) 1 (by omega)).trans b2_1
 have d2 := (cW (w.heap.size + 1) 2 (by omega)).trans b2_2
 have d3 := (cW (w.heap.size + 1) 3 (by omega)).trans b2_3
 have d4 := (cW (w.heap.size + 1) 4 (by omega)).trans b2_4
 have d5 := (cW (w.heap.size + 1) 5 (by omega)).trans b2_5
 have fD : ∀ i, W.frozen? ⟨w.heap.size + 1, i, none⟩ = false := fun i => (fO _ i).trans (fb2 i)
 have hlW : w.heap.size < W.heap.size := by rw [sW]; exact hl2
 have hmW : w.heap.size + 1 < W.heap.size := by rw [sW]; exact hm2
 clear hW cW fO sW bW q2 hl2 hm2 fa2 fb2 a2_0 b2_0 a2_1 b2_1 a2_2 b2_2 a2_3 b2_3 a2_4 b2_4 a2_5 b2_5
 refine ⟨?_⟩
 go_wp2
 refine bodyPost_ret (v := .agg #[.int .i64 (⟨(s.to 22).pl, (s.to 22).name, (s.to 22).fin, (s.to 22).attr, (s.to 22).held, 1⟩ : Ts).pl, .string (⟨(s.to 22).pl, (s.to 22).name, (s.to 22).fin, (s.to 22).attr, (s.to 22).held, 1⟩ : Ts).name, .bool (⟨(s.to 22).pl, (s.to 22).name, (s.to 22).fin, (s.to 22).attr, (s.to 22).held, 1⟩ : Ts).fin, .string (⟨(s.to 22).pl, (s.to 22).name, (s.to 22).fin, (s.to 22).attr, (s.to 22).held, 1⟩ : Ts).attr, .string (⟨(s.to 22).pl, (s.to 22).name, (s.to 22).fin, (s.to 22).attr, (s.to 22).held, 1⟩ : Ts).held, .int .i64 (⟨(s.to 22).pl, (s.to 22).name, (s.to 22).fin, (s.to 22).attr, (s.to 22).held, 1⟩ : Ts).read]) (by simp [results, Tryz.results72, go_sem, *]) rfl ⟨Tp.ret (rfl), ?_⟩
 repeat (refine Below.setCell ?_ (by simp) _)
 exact qW
set_option maxHeartbeats 2000000 in
theorem Tp.heldSlash (s : Ts) (c : UInt8) (w : World) : Calls Tryz.prog 72 #[.agg #[.int .i64 s.pl, .string s.name, .bool s.fin, .string s.attr, .string s.held, .int .i64 s.read], .int .u8 c.toNat] w fun e w' => e = .returned (.agg #[.int .i64 (s.heldSlash c).pl, .string (s.heldSlash c).name, .bool (s.heldSlash c).fin, .string (s.heldSlash c).attr, .string (s.heldSlash c).held, .int .i64 (s.heldSlash c).read]) ∧ Below w.heap.size w w' := by
 by_cases t0 : s.heldAt c = true
 ·
  have h := Tp.heldSlash1 s c w t0
  rw [show s.heldSlash c = (⟨(s.to 22).pl, (s.to 22).name, (s.to 22).fin, (s.to 22).attr, (s.to 22).held, 1⟩ : Ts) by unfold Ts.heldSlash; rw [if_pos t0]]
  exact h
 have t1 := Bool.eq_false_iff.2 t0
 have HX := Lib.hid (show s.heldSlash c = s.heldOn c by unfold Ts.heldSlash; rw [if_neg t0])
 clear t0
 go_enter Tryz.func72, Tryz.ntmps72
 go_wp2_with (first | (go_at_call 106; refine (Tp.isHeldAt s c _).mono ?_; go_loud (rintro e w1 ⟨rfl, hb1⟩; obtain ⟨hl1, hm1, a1_0, a1_1, a1_2, a1_3, a1_4, a1_5, fa1, b1_0, b1_1, b1_2, b1_3, b1_4, b1_5, fb1, q1⟩ := Tp.kp hb1; clear hb1)) | (go_at_call 107; refine (Tp.heldOn s c _).mono ?_; go_loud (rintro e w2 ⟨rfl, hb2⟩; obtain ⟨a2_0, a2_1, a2_2, a2_3, a2_4, a2_5⟩ := Tp.k6 hb2 ⟨a1_0, a1_1, a1_2, a1_3, a1_4, a1_5⟩; obtain ⟨b2_0, b2_1, b2_2, b2_3, b2_4, b2_5⟩ := Tp.k6 hb2 ⟨b1_0, b1_1, b1_2, b1_3, b1_4, b1_5⟩; have fa2 := Tp.keepF hb2 hl1 fa1; have fb2 := Tp.keepF hb2 hm1 fb1; have hl2 := Nat.lt_of_lt_of_le hl1 hb2.size; have hm2 := Nat.lt_of_lt_of_le hm1 hb2.size; have q2 : Below w.heap.size w w2 := q1.trans (hb2.mono (by omega)); clear hb2 a1_0 a1_1 a1_2 a1_3 a1_4 a1_5 b1_0 b1_1 b1_2 b1_3 b1_4 b1_5 fa1 fb1)))
 refine bodyPost_ret (v := Ts.v (s.heldOn c)) (by simp [results, Tryz.results72, go_sem, Ts.v, *]) rfl ⟨Tp.ret (HX.out.symm), ?_⟩
 repeat (refine Below.setCell ?_ (by simp) _)
 exact q2
theorem Tp.heldEnd (s : Ts) (a : Int) (w : World) : Calls Tryz.prog 108 #[.agg #[.int .i64 s.pl, .string s.name, .bool s.fin, .string s.attr, .string s.held, .int .i64 s.read], .int .i64 a] w fun e w' => e = .returned (.agg #[.int .i64 (s.heldEnd a).pl, .string (s.heldEnd a).name, .bool (s.heldEnd a).fin, .string (s.heldEnd a).attr, .string (s.heldEnd a).held, .int .i64 (s.heldEnd a).read]) ∧ Below w.heap.size w w' := by
 go_enter Tryz.func108, Tryz.ntmps108
 go_wp2_with (first | (go_at_call 98; refine (Tp.to (⟨s.pl, s.held, true, s.attr, s.held, s.read⟩ : Ts) _ _).mono ?_; go_loud (rintro e w1 ⟨rfl, hb1⟩; obtain ⟨hl1, hm1, a1_0, a1_1, a1_2, a1_3, a1_4, a1_5, fa1, b1_0, b1_1, b1_2, b1_3, b1_4, b1_5, fb1, q1⟩ := Tp.kp hb1; clear hb1)))
 refine bodyPost_ret (v := .agg #[.int .i64 ((⟨s.pl, s.held, true, s.attr, s.held, s.read⟩ : Ts).to a).pl, .string ((⟨s.pl, s.held, true, s.attr, s.held, s.read⟩ : Ts).to a).name, .bool ((⟨s.pl, s.held, true, s.attr, s.held, s.read⟩ : Ts).to a).fin, .string ((⟨s.pl, s.held, true, s.attr, s.held, s.read⟩ : Ts).to a).attr, .string ((⟨s.pl, s.held, true, s.attr, s.held, s.read⟩ : Ts).to a).held, .int .i64 ((⟨s.pl, s.held, true, s.attr, s.held, s.read⟩ : Ts).to a).read]) (by simp [results, Tryz.results108, go_sem, *]) rfl ⟨Tp.ret (rfl), ?_⟩
 repeat (refine Below.setCell ?_ (by simp) _)
 exact q1
set_option maxHeartbeats 4000000 in
theorem Tp.heldName (s : Ts) (c : UInt8) (w : World) (hh : s.held.size ≤ maxLen) : Calls Tryz.prog 73 #[.agg #[.int .i64 s.pl, .string s.name, .bool s.fin, .string s.attr, .string s.held, .int .i64 s.read], .int .u8 c.toNat] w fun e w' => e = .returned (.agg #[.int .i64 (s.heldName c).pl, .string (s.heldName c).name, .bool (s.heldName c).fin, .string (s.heldName c).attr, .string (s.heldName c).held, .int .i64 (s.heldName c).read]) ∧ Below w.heap.size w w' := by
 unfold maxLen at hh
 by_cases h0 : s.heldAt c = true
 ·
  have hr : 0 ≤ s.read ∧ s.read < s.held.size := by
    have := h0
    unfold Ts.heldAt at this
    simp only [Bool.and_eq_true, decide_eq_true_eq] at this
    exact ⟨this.1.1, this.1.2⟩
  obtain ⟨hr0, hr1⟩ := hr
  have hw : IntKind.i64.wrap (s.read + 1) = s.read + 1 := by rw [IntKind.wrap_i64]; omega
  have HX := Lib.hid (show s.heldName c = (⟨s.pl, s.name, s.fin, s.attr, s.held, s.read + 1⟩ : Ts) by unfold Ts.heldName; rw [if_pos h0])
  go_enter Tryz.func73, Tryz.ntmps73
  go_wp2_with (first | (go_at_call 106; refine (Tp.isHeldAt s c _).mono ?_; go_loud (rintro e w1 ⟨rfl, hb1⟩; obtain ⟨hl1, hm1, a1_0, a1_1, a1_2, a1_3, a1_4, a1_5, fa1, b1_0, b1_1, b1_2, b1_3, b1_4, b1_5, fb1, q1⟩ := Tp.kp hb1; clear hb1)))
  refine bodyPost_ret (v := .agg #[.int .i64 (⟨s.pl, s.name, s.fin, s.attr, s.held, s.read + 1⟩ : Ts).pl, .string (⟨s.pl, s.name, s.fin, s.attr, s.held, s.read + 1⟩ : Ts).name, .bool (⟨s.pl, s.name, s.fin, s.attr, s.held, s.read + 1⟩ : Ts).fin, .string (⟨s.pl, s.name, s.fin, s.attr, s.held, s.read + 1⟩ : Ts).attr, .string (⟨s.pl, s.name, s.fin, s.attr, s.held, s.read + 1⟩ : Ts).held, .int .i64 (⟨s.pl, s.name, s.fin, s.attr, s.held, s.read + 1⟩ : Ts).read]) (by simp [results, Tryz.results73, go_sem, *]) rfl ⟨Tp.ret (HX.out.symm), ?_⟩
  repeat (refine Below.setCell ?_ (by simp) _)
  exact q1
 have t0 := Bool.eq_false_iff.2 h0
 by_cases h1 : s.read < s.held.size
 ·
  have t1 : decide (s.read < (s.held.size : Int)) = true := decide_eq_true h1
  have HX := Lib.hid (show s.heldName c = s.heldOn c by unfold Ts.heldName; rw [if_neg h0, if_pos h1])
  clear h0 h1
  go_enter Tryz.func73, Tryz.ntmps73
  go_wp2_with (first | (go_at_call 106; refine (Tp.isHeldAt s c _).mono ?_; go_loud (rintro e w1 ⟨rfl, hb1⟩; obtain ⟨hl1, hm1, a1_0, a1_1, a1_2, a1_3, a1_4, a1_5, fa1, b1_0, b1_1, b1_2, b1_3, b1_4, b1_5, fb1, q1⟩ := Tp.kp hb1; clear hb1)) | (go_at_call 107; refine (Tp.heldOn s c _).mono ?_; go_loud (rintro e w2 ⟨rfl, hb2⟩; obtain ⟨a2_0, a2_1, a2_2, a2_3, a2_4, a2_5⟩ := Tp.k6 hb2 ⟨a1_0, a1_1, a1_2, a1_3, a1_4, a1_5⟩; obtain ⟨b2_0, b2_1, b2_2, b2_3, b2_4, b2_5⟩ := Tp.k6 hb2 ⟨b1_0, b1_1, b1_2, b1_3, b1_4, b1_5⟩; have fa2 := Tp.keepF hb2 hl1 fa1; have fb2 := Tp.keepF hb2 hm1 fb1; have hl2 := Nat.lt_of_lt_of_le hl1 hb2.size; have hm2 := Nat.lt_of_lt_of_le hm1 hb2.size; have q2 : Below w.heap.size w w2 := q1.trans (hb2.mono (by omega)); clear hb2 a1_0 a1_1 a1_2 a1_3 a1_4 a1_5 b1_0 b1_1 b1_2 b1_3 b1_4 b1_5 fa1 fb1)))
  refine bodyPost_ret (v := Ts.v (s.heldOn c)) (by simp [results, Tryz.results73, go_sem, Ts.v, *]) rfl ⟨Tp.ret (HX.out.symm), ?_⟩
  repeat (refine Below.setCell ?_ (by simp) _)
  exact q2
 have t1 : decide (s.read < (s.held.size : Int)) = false := decide_eq_false h1
 by_cases g0 : Ts.blank c = true
 ·
  have u0 := g0
  have HX := Lib.hid (show s.heldName c = (s.heldEnd 4) by unfold Ts.heldName; rw [if_neg h0, if_neg h1, if_pos g0])
  clear h0 h1 g0
  go_enter Tryz.func73, Tryz.ntmps73
  go_wp2_with (first | (go_at_call 106; refine (Tp.isHeldAt s c _).mono ?_; go_loud (rintro e w1 ⟨rfl, hb1⟩; obtain ⟨hl1, hm1, a1_0, a1_1, a1_2, a1_3, a1_4, a1_5, fa1, b1_0, b1_1, b1_2, b1_3, b1_4, b1_5, fb1, q1⟩ := Tp.kp hb1; clear hb1)) | (go_at_call 101; refine (Tp.isBlank c _).mono ?_; rintro e w' ⟨rfl, rfl⟩) | (go_at_call 108; refine (Tp.heldEnd s 4 _).mono ?_; go_loud (rintro e w2 ⟨rfl, hb2⟩; obtain ⟨a2_0, a2_1, a2_2, a2_3, a2_4, a2_5⟩ := Tp.k6 hb2 ⟨a1_0, a1_1, a1_2, a1_3, a1_4, a1_5⟩; obtain ⟨b2_0, b2_1, b2_2, b2_3, b2_4, b2_5⟩ := Tp.k6 hb2 ⟨b1_0, b1_1, b1_2, b1_3, b1_4, b1_5⟩; have fa2 := Tp.keepF hb2 hl1 fa1; have fb2 := Tp.keepF hb2 hm1 fb1; have hl2 := Nat.lt_of_lt_of_le hl1 hb2.size; have hm2 := Nat.lt_of_lt_of_le hm1 hb2.size; have q2 : Below w.heap.size w w2 := q1.trans (hb2.mono (by omega)); clear hb2 a1_0 a1_1 a1_2 a1_3 a1_4 a1_5 b1_0 b1_1 b1_2 b1_3 b1_4 b1_5 fa1 fb1)))
  refine bodyPost_ret (v := Ts.v (s.heldEnd 4)) (by simp [results, Tryz.results73, go_sem, Ts.v, *]) rfl ⟨Tp.ret (HX.out.symm), ?_⟩
  repeat (refine Below.setCell ?_ (by simp) _)
  exact q2
 by_cases g1 : c = 47
 ·
  have u0 := Bool.eq_false_iff.2 g0
  have u1 : ((c.toNat : Int) == 47) = true := Tp.eq_true g1
  have HX := Lib.hid (show s.heldName c = (s.heldEnd 12) by unfold Ts.heldName; rw [if_neg h0, if_neg h1, if_neg g0, if_pos g1])
  clear h0 h1 g0 g1
  go_enter Tryz.func73, Tryz.ntmps73
  go_wp2_with (first | (go_at_call 106; refine (Tp.isHeldAt s c _).mono ?_; go_loud (rintro e w1 ⟨rfl, hb1⟩; obtain ⟨hl1, hm1, a1_0, a1_1, a1_2, a1_3, a1_4, a1_5, fa1, b1_0, b1_1, b1_2, b1_3, b1_4, b1_5, fb1, q1⟩ := Tp.kp hb1; clear hb1)) | (go_at_call 101; refine (Tp.isBlank c _).mono ?_; rintro e w' ⟨rfl, rfl⟩) | (go_at_call 108; refine (Tp.heldEnd s 12 _).mono ?_; go_loud (rintro e w2 ⟨rfl, hb2⟩; obtain ⟨a2_0, a2_1, a2_2, a2_3, a2_4, a2_5⟩ := Tp.k6 hb2 ⟨a1_0, a1_1, a1_2, a1_3, a1_4, a1_5⟩; obtain ⟨b2_0, b2_1, b2_2, b2_3, b2_4, b2_5⟩ := Tp.k6 hb2 ⟨b1_0, b1_1, b1_2, b1_3, b1_4, b1_5⟩; have fa2 := Tp.keepF hb2 hl1 fa1; have fb2 := Tp.keepF hb2 hm1 fb1; have hl2 := Nat.lt_of_lt_of_le hl1 hb2.size; have hm2 := Nat.lt_of_lt_of_le hm1 hb2.size; have q2 : Below w.heap.size w w2 := q1.trans (hb2.mono (by omega)); clear hb2 a1_0 a1_1 a1_2 a1_3 a1_4 a1_5 b1_0 b1_1 b1_2 b1_3 b1_4 b1_5 fa1 fb1)))
  refine bodyPost_ret (v := Ts.v (s.heldEnd 12)) (by simp [results, Tryz.results73, go_sem, Ts.v, *]) rfl ⟨Tp.ret (HX.out.symm), ?_⟩
  repeat (refine Below.setCell ?_ (by simp) _)
  exact q2
 by_cases g2 : c = 62
 ·
  have u0 := Bool.eq_false_iff.2 g0
  have u1 : ((c.toNat : Int) == 47) = false := Tp.eq_false g1
  have u2 : ((c.toNat : Int) == 62) = true := Tp.eq_true g2
  have HX := Lib.hid (show s.heldName c = (s.to 0) by unfold Ts.heldName; rw [if_neg h0, if_neg h1, if_neg g0, if_neg g1, if_pos g2])
  clear h0 h1 g0 g1 g2
  go_enter Tryz.func73, Tryz.ntmps73
  go_wp2_with (first | (go_at_call 106; refine (Tp.isHeldAt s c _).mono ?_; go_loud (rintro e w1 ⟨rfl, hb1⟩; obtain ⟨hl1, hm1, a1_0, a1_1, a1_2, a1_3, a1_4, a1_5, fa1, b1_0, b1_1, b1_2, b1_3, b1_4, b1_5, fb1, q1⟩ := Tp.kp hb1; clear hb1)) | (go_at_call 101; refine (Tp.isBlank c _).mono ?_; rintro e w' ⟨rfl, rfl⟩) | (go_at_call 98; refine (Tp.to s _ _).mono ?_; go_loud (rintro e w2 ⟨rfl, hb2⟩; obtain ⟨a2_0, a2_1, a2_2, a2_3, a2_4, a2_5⟩ := Tp.k6 hb2 ⟨a1_0, a1_1, a1_2, a1_3, a1_4, a1_5⟩; obtain ⟨b2_0, b2_1, b2_2, b2_3, b2_4, b2_5⟩ := Tp.k6 hb2 ⟨b1_0, b1_1, b1_2, b1_3, b1_4, b1_5⟩; have fa2 := Tp.keepF hb2 hl1 fa1; have fb2 := Tp.keepF hb2 hm1 fb1; have hl2 := Nat.lt_of_lt_of_le hl1 hb2.size; have hm2 := Nat.lt_of_lt_of_le hm1 hb2.size; have q2 : Below w.heap.size w w2 := q1.trans (hb2.mono (by omega)); clear hb2 a1_0 a1_1 a1_2 a1_3 a1_4 a1_5 b1_0 b1_1 b1_2 b1_3 b1_4 b1_5 fa1 fb1)))
  refine bodyPost_ret (v := Ts.v (s.to 0)) (by simp [results, Tryz.results73, go_sem, Ts.v, *]) rfl ⟨Tp.ret (HX.out.symm), ?_⟩
  repeat (refine Below.setCell ?_ (by simp) _)
  exact q2
 have u0 := Bool.eq_false_iff.2 g0
 have u1 : ((c.toNat : Int) == 47) = false := Tp.eq_false g1
 have u2 : ((c.toNat : Int) == 62) = false := Tp.eq_false g2
 have HX := Lib.hid (show s.heldName c = (s.heldOn c) by unfold Ts.heldName; rw [if_neg h0, if_neg h1, if_neg g0, if_neg g1, if_neg g2])
 clear h0 h1 g0 g1 g2
 go_enter Tryz.func73, Tryz.ntmps73
 go_wp2_with (first | (go_at_call 106; refine (Tp.isHeldAt s c _).mono ?_; go_loud (rintro e w1 ⟨rfl, hb1⟩; obtain ⟨hl1, hm1, a1_0, a1_1, a1_2, a1_3, a1_4, a1_5, fa1, b1_0, b1_1, b1_2, b1_3, b1_4, b1_5, fb1, q1⟩ := Tp.kp hb1; clear hb1)) | (go_at_call 101; refine (Tp.isBlank c _).mono ?_; rintro e w' ⟨rfl, rfl⟩) | (go_at_call 107; refine (Tp.heldOn s c _).mono ?_; go_loud (rintro e w2 ⟨rfl, hb2⟩; obtain ⟨a2_0, a2_1, a2_2, a2_3, a2_4, a2_5⟩ := Tp.k6 hb2 ⟨a1_0, a1_1, a1_2, a1_3, a1_4, a1_5⟩; obtain ⟨b2_0, b2_1, b2_2, b2_3, b2_4, b2_5⟩ := Tp.k6 hb2 ⟨b1_0, b1_1, b1_2, b1_3, b1_4, b1_5⟩; have fa2 := Tp.keepF hb2 hl1 fa1; have fb2 := Tp.keepF hb2 hm1 fb1; have hl2 := Nat.lt_of_lt_of_le hl1 hb2.size; have hm2 := Nat.lt_of_lt_of_le hm1 hb2.size; have q2 : Below w.heap.size w w2 := q1.trans (hb2.mono (by omega)); clear hb2 a1_0 a1_1 a1_2 a1_3 a1_4 a1_5 b1_0 b1_1 b1_2 b1_3 b1_4 b1_5 fa1 fb1)))
 refine bodyPost_ret (v := Ts.v (s.heldOn c)) (by simp [results, Tryz.results73, go_sem, Ts.v, *]) rfl ⟨Tp.ret (HX.out.symm), ?_⟩
 repeat (refine Below.setCell ?_ (by simp) _)
 exact q2
set_option maxHeartbeats 1000000 in
theorem Tp.stepAt (s : Ts) (c : UInt8) (w : World) (g off k : Nat) (hk : s.pl = (k : Int)) (hk23 : k < 23) (hg : g < w.heap.size) (f : Nat) (lb : Array Value) (ef : ∀ args w, (callFunc f args).run Tryz.prog w = .ok (.enter f args) w)
  (hc : w.cell? ⟨g, off + k, none⟩ = some (.func (.func f) #[] lb)) (X : Ts)
  (hX : ∀ u, Below w.heap.size w u → Calls Tryz.prog f (#[.agg #[.int .i64 (s.to k).pl, .string (s.to k).name, .bool (s.to k).fin, .string (s.to k).attr, .string (s.to k).held, .int .i64 (s.to k).read], .int .u8 c.toNat] ++ lb) u fun e w' => e = .returned (.agg #[.int .i64 X.pl, .string X.name, .bool X.fin, .string X.attr, .string X.held, .int .i64 X.read]) ∧ Below u.heap.size u w') :
  Calls Tryz.prog 74 #[.pointer (some ⟨g, off, none⟩), .agg #[.int .i64 s.pl, .string s.name, .bool s.fin, .string s.attr, .string s.held, .int .i64 s.read], .int .u8 c.toNat] w fun e w' => e = .returned (.agg #[.int .i64 X.pl, .string X.name, .bool X.fin, .string X.attr, .string X.held, .int .i64 X.read]) ∧ Below w.heap.size w w' := by
 obtain ⟨p, n, fi, a, h, r⟩ := s
 simp only at hk ⊢
 subst hk
 have t1 : decide ((k : Int) < 0) = false := decide_eq_false (by omega)
 have t2 : decide ((23 : Int) ≤ (k : Int)) = false := decide_eq_false (by omega)
 have hT := Tp.to ⟨k, n, fi, a, h, r⟩ k
 simp only at hT
 generalize Ts.to ⟨k, n, fi, a, h, r⟩ k = Y at *
 go_enter Tryz.func74, Tryz.ntmps74
 go_wp2
 have hne : w.heap.size ≠ g := by omega
 have hne1 : w.heap.size + 1 ≠ g := by omega
 obtain ⟨W, hW⟩ : ∃ W, (w.alloc (.cells #[.int .i64 (k : Int), .string n, .bool fi, .string a, .string h, .int .i64 r] 76)).alloc (.cells #[.int .i64 0, .string ⟨#[]⟩, .bool false, .string ⟨#[]⟩, .string ⟨#[]⟩, .int .i64 0] 76) = W := ⟨_, rfl⟩
 rw [hW]
 have hbW : Below w.heap.size w W := by rw [← hW]; exact Tp.two _ _ _
 have hsW : W.heap.size = w.heap.size + 1 + 1 := by rw [← hW]; simp
 have k0 : W.cell? ⟨w.heap.size, 0, none⟩ = some (.int .i64 (k : Int)) := by rw [← hW]; simp
 have k1 : W.cell? ⟨w.heap.size, 1, none⟩ = some (.string n) := by rw [← hW]; simp
 have k2 : W.cell? ⟨w.heap.size, 2, none⟩ = some (.bool fi) := by rw [← hW]; simp
 have k3 : W.cell? ⟨w.heap.size, 3, none⟩ = some (.string a) := by rw [← hW]; simp
 have k4 : W.cell? ⟨w.heap.size, 4, none⟩ = some (.string h) := by rw [← hW]; simp
 have k5 : W.cell? ⟨w.heap.size, 5, none⟩ = some (.int .i64 r) := by rw [← hW]; simp
 have z0 : W.cell? ⟨w.heap.size + 1, 0, none⟩ = some (.int .i64 0) := by rw [← hW]; simp
 have z1 : W.cell? ⟨w.heap.size + 1, 1, none⟩ = some (.string ⟨#[]⟩) := by rw [← hW]; simp
 have z2 : W.cell? ⟨w.heap.size + 1, 2, none⟩ = some (.bool false) := by rw [← hW]; simp
 have z3 : W.cell? ⟨w.heap.size + 1, 3, none⟩ = some (.string ⟨#[]⟩) := by rw [← hW]; simp
 have z4 : W.cell? ⟨w.heap.size + 1, 4, none⟩ = some (.string ⟨#[]⟩) := by rw [← hW]; simp
 have z5 : W.cell? ⟨w.heap.size + 1, 5, none⟩ = some (.int .i64 0) := by rw [← hW]; simp
 have zf : ∀ i, W.frozen? ⟨w.heap.size + 1, i, none⟩ = false := fun i => by rw [← hW]; simp
 have kc : W.cell? ⟨g, off + k, none⟩ = some (.func (.func f) #[] lb) := (hbW.cell (p := ⟨g, off + k, none⟩) hg).trans hc
 clear hW hc
 have HX := Lib.hid hX
 clear hX
 go_region_held (fun u => u.cell? ⟨w.heap.size, 0, none⟩ = some (.int .i64 (k : Int)) ∧ u.cell? ⟨w.heap.size, 1, none⟩ = some (.string n) ∧ u.cell? ⟨w.heap.size, 2, none⟩ = some (.bool fi) ∧ u.cell? ⟨w.heap.size, 3, none⟩ = some (.string a) ∧ u.cell? ⟨w.heap.size, 4, none⟩ = some (.string h) ∧ u.cell? ⟨w.heap.size, 5, none⟩ = some (.int .i64 r) ∧ u.cell? ⟨g, off + k, none⟩ = some (.func (.func f) #[] lb)) (go_keep) (first | (go_at_call 98; refine (hT _).mono ?_; rintro e w1 ⟨rfl, hb1⟩; go_loud (have k0' := Tp.keep hb1 k0; have k1' := Tp.keep hb1 k1; have k2' := Tp.keep hb1 k2; have k3' := Tp.keep hb1 k3; have k4' := Tp.keep hb1 k4; have k5' := Tp.keep hb1 k5; have kc' := Tp.keep hb1 kc; have z0' := Tp.keep hb1 z0; have z1' := Tp.keep hb1 z1; have z2' := Tp.keep hb1 z2; have z3' := Tp.keep hb1 z3; have z4' := Tp.keep hb1 z4; have z5' := Tp.keep hb1 z5; have zf' := Tp.keepF hb1 (by simp; omega) zf; have hs1 := hb1.size; simp at hs1; have q1 : Below w.heap.size w w1 := hbW.trans (Below.trans (by exact (Below.refl _ _).drew) (hb1.mono (by simp; omega))); clear hb1 zf hT k0 k1 k2 k3 k4 k5 kc z0 z1 z2 z3 z4 z5)) | (go_at_fn f; refine (HX.out _ q1).mono ?_; rintro e w2 ⟨rfl, hb2⟩; go_loud (have k0'' := Tp.keep hb2 k0'; have k1'' := Tp.keep hb2 k1'; have k2'' := Tp.keep hb2 k2'; have k3'' := Tp.keep hb2 k3'; have k4'' := Tp.keep hb2 k4'; have k5'' := Tp.keep hb2 k5'; have kc'' := Tp.keep hb2 kc'; have z0'' := Tp.keep hb2 z0'; have z1'' := Tp.keep hb2 z1'; have z2'' := Tp.keep hb2 z2'; have z3'' := Tp.keep hb2 z3'; have z4'' := Tp.keep hb2 z4'; have z5'' := Tp.keep hb2 z5'; have zf'' := Tp.keepF hb2 (by omega) zf'; have hs2 := hb2.size; have q2 : Below w.heap.size w w2 := q1.trans (hb2.mono (by omega)); clear hb2 zf' k0' k1' k2' k3' k4' k5' kc' z0' z1' z2' z3' z4' z5')))
 all_goals go_wp2
 all_goals refine bodyPost_ret (v := Ts.v X) (by simp [results, Tryz.results74, go_sem, Ts.v, *]) rfl ⟨rfl, ?_⟩
 all_goals repeat (refine Below.setCell ?_ (by simp) _)
 all_goals exact q2
theorem Tp.stepOut (s : Ts) (c : UInt8) (w : World) (g off : Nat) (hk : s.pl < 0 ∨ 23 ≤ s.pl) :
  Calls Tryz.prog 74 #[.pointer (some ⟨g, off, none⟩), .agg #[.int .i64 s.pl, .string s.name, .bool s.fin, .string s.attr, .string s.held, .int .i64 s.read], .int .u8 c.toNat] w fun e w' => e = .returned (.agg #[.int .i64 s.pl, .string s.name, .bool s.fin, .string s.attr, .string s.held, .int .i64 s.read]) ∧ Below w.heap.size w w' := by
 by_cases h : s.pl < 0
 ·
  have t1 : decide (s.pl < 0) = true := decide_eq_true h
  clear h hk
  go_enter Tryz.func74, Tryz.ntmps74
  go_wp2
  exact bodyPost_ret (v := Ts.v s) (by simp [results, Tryz.results74, go_sem, Ts.v]) rfl ⟨rfl, Tp.two _ _ _⟩
 ·
  have t1 : decide (s.pl < 0) = false := decide_eq_false h
  have t2 : decide (23 ≤ s.pl) = true := decide_eq_true (by omega)
  clear h hk
  go_enter Tryz.func74, Tryz.ntmps74
  go_wp2
  exact bodyPost_ret (v := Ts.v s) (by simp [results, Tryz.results74, go_sem, Ts.v]) rfl ⟨rfl, Tp.two _ _ _⟩
theorem Tp.quoted1 (q : UInt8) (s : Ts) (c : UInt8) (B : Nat) (w : World) (hB : B < w.heap.size) (hq : w.cell? ⟨B, 0, none⟩ = some (.int .u8 q.toNat)) :
  Calls Tryz.prog 105 #[.agg #[.int .i64 s.pl, .string s.name, .bool s.fin, .string s.attr, .string s.held, .int .i64 s.read], .int .u8 c.toNat, .pointer (some ⟨B, 0, none⟩)] w fun e w' => e = .returned (.agg #[.int .i64 (Ts.quoted q s c).pl, .string (Ts.quoted q s c).name, .bool (Ts.quoted q s c).fin, .string (Ts.quoted q s c).attr, .string (Ts.quoted q s c).held, .int .i64 (Ts.quoted q s c).read]) ∧ Below w.heap.size w w' := by
 have hn0 : w.heap.size ≠ B := by omega
 have hn1 : w.heap.size + 1 ≠ B := by omega
 have hn2 : B ≠ w.heap.size := by omega
 have hn3 : B ≠ w.heap.size + 1 := by omega
 by_cases h : c = q
 ·
  have t : ((c.toNat : Int) == (q.toNat : Int)) = true := Tp.eq_true h
  have HX := Lib.hid (show Ts.quoted q s c = s.to 11 by unfold Ts.quoted; rw [if_pos h])
  clear h
  go_enter Tryz.func105, Tryz.ntmps105
  go_wp2_with (go_at_call 98; refine (Tp.to s _ _).mono ?_; rintro e w1 ⟨rfl, hb1⟩; have b0 := Tp.keep hb1 (b := w.heap.size + 1) (o := 0) (v := .int .i64 0) (by simp); have b1 := Tp.keep hb1 (b := w.heap.size + 1) (o := 1) (v := .string ⟨#[]⟩) (by simp); have b2 := Tp.keep hb1 (b := w.heap.size + 1) (o := 2) (v := .bool false) (by simp); have b3 := Tp.keep hb1 (b := w.heap.size + 1) (o := 3) (v := .string ⟨#[]⟩) (by simp); have b4 := Tp.keep hb1 (b := w.heap.size + 1) (o := 4) (v := .string ⟨#[]⟩) (by simp); have b5 := Tp.keep hb1 (b := w.heap.size + 1) (o := 5) (v := .int .i64 0) (by simp); have bf := Tp.keepF hb1 (b := w.heap.size + 1) (by simp) (fun i => by simp); have q1 : Below w.heap.size w w1 := (Tp.two _ _ _).trans (hb1.mono (by simp; omega)); clear hb1)
  refine bodyPost_ret (v := Ts.v (s.to 11)) (by simp [results, Tryz.results105, go_sem, Ts.v, *]) rfl ⟨Tp.ret HX.out.symm, ?_⟩
  repeat (refine Below.setCell ?_ (by simp) _)
  exact q1
 ·
  have t : ((c.toNat : Int) == (q.toNat : Int)) = false := Tp.eq_false h
  have HX := Lib.hid (show Ts.quoted q s c = s by unfold Ts.quoted; rw [if_neg h])
  clear h
  go_enter Tryz.func105, Tryz.ntmps105
  go_wp2
  exact bodyPost_ret (v := Ts.v s) (by simp [results, Tryz.results105, go_sem, Ts.v]) rfl ⟨Tp.ret HX.out.symm, Tp.two _ _ _⟩
def Tp.quote (B : Nat) : Value := .func (.func 105) #[] #[.pointer (some ⟨B, 0, none⟩)]
def Tp.fn (f : Nat) : Value := .func (.func f) #[] #[]
def Tp.table (B C : Nat) : Array Value := #[Tp.fn 52, Tp.fn 53, Tp.fn 54, Tp.fn 55, Tp.fn 56, Tp.fn 57, Tp.fn 58, Tp.fn 59, Tp.quote B, Tp.quote C, Tp.fn 61, Tp.fn 62, Tp.fn 63, Tp.fn 64, Tp.fn 65, Tp.fn 66, Tp.fn 67, Tp.fn 68, Tp.fn 69, Tp.fn 70, Tp.fn 71, Tp.fn 72, Tp.fn 73]
structure Tp.Table (w : World) (g off : Nat) : Prop where
 lt : g < w.heap.size
 all : ∃ B C, B < w.heap.size ∧ C < w.heap.size ∧ w.cell? ⟨B, 0, none⟩ = some (.int .u8 34) ∧ w.cell? ⟨C, 0, none⟩ = some (.int .u8 39) ∧ ∀ k v, (Tp.table B C)[k]? = some v → w.cell? ⟨g, off + k, none⟩ = some v
theorem Tp.quoted (q : Int) (w : World) : Calls Tryz.prog 60 #[.int .u8 q] w fun e w' => e = .returned (Tp.quote w.heap.size) ∧ w' = w.alloc (.cells #[.int .u8 q] 5) := by
 go_enter Tryz.func60, Tryz.ntmps60
 go_wp2
 go_ret
 exact ⟨rfl, rfl⟩
theorem Tp.setCells {B : Nat} {a : World} (b : Nat) (hB : B ≤ b) : ∀ (vs : List Value) (o : Nat) (w : World), Below B a w → Below B a (w.setCells b o vs)
 | [], _, _, h => h
 | _ :: vs, o, _, h => Tp.setCells b hB vs (o + 1) _ (h.setCell (p := ⟨b, o, none⟩) hB _)
theorem Tp.setCells_size (b : Nat) : ∀ (vs : List Value) (o : Nat) (w : World), (w.setCells b o vs).heap.size = w.heap.size
 | [], _, _ => rfl
 | _ :: vs, o, w => by
  show ((w.setCell ⟨b, o, none⟩ _).setCells b (o + 1) vs).heap.size = _
  rw [Tp.setCells_size b vs]; simp
theorem Tp.newCell (w : World) (v : Value) (t : TypeId) {g : Nat} (hg : g = w.heap.size) : (w.alloc (.cells #[v] t)).cell? ⟨g, 0, none⟩ = some v := by subst hg; simp
theorem Tp.tableInfo : (Tryz.prog.info? 73).map (·.size) = some 23 := by kernel_rfl
theorem Tp.table_one (B C : Nat) : (Tp.table B C).all (·.oneCell') = true := by simp [Tp.table, Tp.fn, Tp.quote, Value.oneCell']
def Tp.none23 : Array Value := #[.nilFunc, .nilFunc, .nilFunc, .nilFunc, .nilFunc, .nilFunc, .nilFunc, .nilFunc, .nilFunc, .nilFunc, .nilFunc, .nilFunc, .nilFunc, .nilFunc, .nilFunc, .nilFunc, .nilFunc, .nilFunc, .nilFunc, .nilFunc, .nilFunc, .nilFunc, .nilFunc]
theorem Tp.there (w : World) (g : Nat) (cs : Array Value) (t : TypeId) (h : w.heap[g]? = some (.cells cs t)) (o n : Nat) (hn : o + n ≤ cs.size) : w.there g o n := by
 intro j hj
 have hlt : o + j < cs.size := by omega
 constructor
 ·
  unfold World.cell?
  rw [h]
  simp [hlt]
 ·
  unfold World.frozen?
  rw [h]
  simp
set_option maxHeartbeats 2000000 in
theorem Tp.steppers (w : World) : Calls Tryz.prog 32 #[] w fun e w' => ∃ B C, e = .returned (.agg (Tp.table B C)) ∧ B < w'.heap.size ∧ C < w'.heap.size ∧ w.heap.size ≤ B ∧ w.heap.size ≤ C ∧ w'.cell? ⟨B, 0, none⟩ = some (.int .u8 34) ∧ w'.cell? ⟨C, 0, none⟩ = some (.int .u8 39) ∧ Below w.heap.size w w' := by
 go_enter Tryz.func32, Tryz.ntmps32
 go_wp2_with (first | (go_at_call 60; refine (Tp.quoted _ _).mono ?_; rintro e w' ⟨rfl, rfl⟩) | refine Vm.stop 3 ?_)
 obtain ⟨W, hW⟩ : ∃ W, ((w.alloc (.cells Tp.none23 73)).alloc (.cells #[.int .u8 34] 5)).alloc (.cells #[.int .u8 39] 5) = W := ⟨_, rfl⟩
 have hsz : W.heap.size = w.heap.size + 3 := by rw [← hW]; simp
 have hbW : Below w.heap.size w W := by rw [← hW]; exact (Tp.two _ _ _).alloc (by simp; omega) _
 have c34 : W.cell? ⟨w.heap.size + 1, 0, none⟩ = some (.int .u8 34) := by
  rw [← hW]
  exact Tp.keep ((Below.refl _ _).alloc (Nat.le_refl _) _) (Tp.newCell (w.alloc _) _ _ (by simp))
 have c39 : W.cell? ⟨w.heap.size + 1 + 1, 0, none⟩ = some (.int .u8 39) := by
  rw [← hW]
  exact Tp.newCell ((w.alloc _).alloc _) _ _ (by simp)
 have hth : W.there w.heap.size 0 23 := by
  refine Tp.there W w.heap.size Tp.none23 73 ?_ 0 23 (by decide)
  rw [← hW]
  exact (Below.heap_alloc _ _ _ (by simp; omega)).trans ((Below.heap_alloc _ _ _ (by simp)).trans (heap_alloc_new w _))
 refine ⟨?_⟩
 refine wpList_buildTo rfl 73 _ rfl (some 3) rfl (Tp.table (w.heap.size + 1) (w.heap.size + 1 + 1)) (by kernel_rfl) ?_
 unfold Tp.none23 at hW
 rw [hW]
 refine wpList_store_mid rfl 73 _ _ rfl w.heap.size 0 (Tp.table (w.heap.size + 1) (w.heap.size + 1 + 1)) rfl rfl hth Tp.tableInfo (Tp.table_one _ _) ?_
 clear hW
 have hr := World.rangeAt_setCells_same W w.heap.size 0 (Tp.table (w.heap.size + 1) (w.heap.size + 1 + 1)).toList hth
 have hbS := Tp.setCells (B := w.heap.size) (a := w) w.heap.size (Nat.le_refl _) (Tp.table (w.heap.size + 1) (w.heap.size + 1 + 1)).toList 0 W hbW
 have hsS := Tp.setCells_size w.heap.size (Tp.table (w.heap.size + 1) (w.heap.size + 1 + 1)).toList 0 W
 have d34 := (World.cell?_setCells_out w.heap.size (Tp.table (w.heap.size + 1) (w.heap.size + 1 + 1)).toList 0 W ⟨w.heap.size + 1, 0, none⟩ (fun e => by have e' : w.heap.size + 1 = w.heap.size := e; omega)).trans c34
 have d39 := (World.cell?_setCells_out w.heap.size (Tp.table (w.heap.size + 1) (w.heap.size + 1 + 1)).toList 0 W ⟨w.heap.size + 1 + 1, 0, none⟩ (fun e => by have e' : w.heap.size + 1 + 1 = w.heap.size := e; omega)).trans c39
 generalize W.setCells w.heap.size 0 (Tp.table (w.heap.size + 1) (w.heap.size + 1 + 1)).toList = V at *
 have hl := run_loadVar_mid (P := Tryz.prog) V w.heap.size 0 73 _ _ hr Tryz.underlying73 rfl Tp.tableInfo
 clear hr hth c34 c39
 go_wp2
 refine bodyPost_ret (v := .agg (Tp.table (w.heap.size + 1) (w.heap.size + 1 + 1))) ?_ rfl ⟨_, _, rfl, by omega, by omega, by omega, by omega, d34, d39, hbS⟩
 simp [results, Tryz.results32, asAddr, Act.put, hl]
theorem Tp.Table.cell {w : World} {g off : Nat} (h : Tp.Table w g off) : ∃ B C, B < w.heap.size ∧ C < w.heap.size ∧ w.cell? ⟨B, 0, none⟩ = some (.int .u8 34) ∧ w.cell? ⟨C, 0, none⟩ = some (.int .u8 39) ∧ ∀ k v, (Tp.table B C)[k]? = some v → w.cell? ⟨g, off + k, none⟩ = some v := h.all
theorem Tp.Table.on {w w' : World} {g off : Nat} (h : Tp.Table w g off) (hb : Below w.heap.size w w') : Tp.Table w' g off := by
 obtain ⟨B, C, hB, hC, h1, h2, hk⟩ := h.all
 exact ⟨Nat.lt_of_lt_of_le h.lt hb.size, B, C, Nat.lt_of_lt_of_le hB hb.size, Nat.lt_of_lt_of_le hC hb.size, Tp.keep hb h1, Tp.keep hb h2, fun k v hv => Tp.keep hb (hk k v hv)⟩
def Ts.Fits (s : Ts) : Prop := s.name.size ≤ maxLen ∧ s.attr.size ≤ maxLen ∧ s.held.size ≤ maxLen
theorem Ts.to_fits {s : Ts} (h : s.Fits) (a : Int) : (s.to a).Fits := by
 have e : Ts.e.size ≤ maxLen := by decide
 unfold Ts.to
 refine ⟨?_, ?_, ?_⟩
 ·
  show (if _ then _ else _ : ByteArray).size ≤ _
  split
  ·
   exact h.1
  ·
   exact e
 ·
  show (if _ then _ else _ : ByteArray).size ≤ _
  split
  ·
   exact h.2.1
  ·
   exact e
 ·
  show (if _ then _ else _ : ByteArray).size ≤ _
  split
  ·
   exact h.2.2
  ·
   exact e
theorem Tp.step (s : Ts) (c : UInt8) (w : World) (g off : Nat) (hT : Tp.Table w g off) (hs : s.Fits) :
  Calls Tryz.prog 74 #[.pointer (some ⟨g, off, none⟩), .agg #[.int .i64 s.pl, .string s.name, .bool s.fin, .string s.attr, .string s.held, .int .i64 s.read], .int .u8 c.toNat] w fun e w' => e = .returned (.agg #[.int .i64 (s.step c).pl, .string (s.step c).name, .bool (s.step c).fin, .string (s.step c).attr, .string (s.step c).held, .int .i64 (s.step c).read]) ∧ Below w.heap.size w w' := by
 by_cases hk : s.pl < 0 ∨ 23 ≤ s.pl
 ·
  have h := Tp.stepOut s c w g off hk
  rw [show s.step c = s by unfold Ts.step; rw [if_pos hk]]
  exact h
 obtain ⟨k, hk'⟩ : ∃ k : Nat, s.pl = (k : Int) := ⟨s.pl.toNat, by omega⟩
 have hk23 : k < 23 := by omega
 rw [show s.step c = (s.to k).at c k by unfold Ts.step; rw [if_neg hk, hk', Int.toNat_natCast]]
 obtain ⟨B, C, hB, hC, h34, h39, hc⟩ := hT.cell
 have hf := Ts.to_fits hs (k : Int)
 have hlt := hT.lt
 clear hk hs hT
 by_cases e0 : k = 0
 ·
  subst e0
  exact Tp.stepAt s c w g off 0 hk' hk23 hlt 52 #[] (enters_of Tryz.func52 (by kernel_rfl) rfl) (hc 0 _ rfl) _ (fun u _ => Tp.data (s.to 0) c u)
 by_cases e1 : k = 1
 ·
  subst e1
  exact Tp.stepAt s c w g off 1 hk' hk23 hlt 53 #[] (enters_of Tryz.func53 (by kernel_rfl) rfl) (hc 1 _ rfl) _ (fun u _ => Tp.tagOpen (s.to 1) c u)
 by_cases e2 : k = 2
 ·
  subst e2
  exact Tp.stepAt s c w g off 2 hk' hk23 hlt 54 #[] (enters_of Tryz.func54 (by kernel_rfl) rfl) (hc 2 _ rfl) _ (fun u _ => Tp.endOpen (s.to 2) c u)
 by_cases e3 : k = 3
 ·
  subst e3
  exact Tp.stepAt s c w g off 3 hk' hk23 hlt 55 #[] (enters_of Tryz.func55 (by kernel_rfl) rfl) (hc 3 _ rfl) _ (fun u _ => Tp.tagName (s.to 3) c u hf.1)
 by_cases e4 : k = 4
 ·
  subst e4
  exact Tp.stepAt s c w g off 4 hk' hk23 hlt 56 #[] (enters_of Tryz.func56 (by kernel_rfl) rfl) (hc 4 _ rfl) _ (fun u _ => Tp.beforeAttr (s.to 4) c u)
 by_cases e5 : k = 5
 ·
  subst e5
  exact Tp.stepAt s c w g off 5 hk' hk23 hlt 57 #[] (enters_of Tryz.func57 (by kernel_rfl) rfl) (hc 5 _ rfl) _ (fun u _ => Tp.attrName (s.to 5) c u hf.2.1)
 by_cases e6 : k = 6
 ·
  subst e6
  exact Tp.stepAt s c w g off 6 hk' hk23 hlt 58 #[] (enters_of Tryz.func58 (by kernel_rfl) rfl) (hc 6 _ rfl) _ (fun u _ => Tp.afterName (s.to 6) c u)
 by_cases e7 : k = 7
 ·
  subst e7
  exact Tp.stepAt s c w g off 7 hk' hk23 hlt 59 #[] (enters_of Tryz.func59 (by kernel_rfl) rfl) (hc 7 _ rfl) _ (fun u _ => Tp.beforeValue (s.to 7) c u)
 by_cases e8 : k = 8
 ·
  subst e8
  exact Tp.stepAt s c w g off 8 hk' hk23 hlt 105 #[.pointer (some ⟨B, 0, none⟩)] (enters_of Tryz.func105 (by kernel_rfl) rfl) (hc 8 _ rfl) _ (fun u hu => Tp.quoted1 34 (s.to 8) c B u (Nat.lt_of_lt_of_le hB hu.size) (Tp.keep hu h34))
 by_cases e9 : k = 9
 ·
  subst e9
  exact Tp.stepAt s c w g off 9 hk' hk23 hlt 105 #[.pointer (some ⟨C, 0, none⟩)] (enters_of Tryz.func105 (by kernel_rfl) rfl) (hc 9 _ rfl) _ (fun u hu => Tp.quoted1 39 (s.to 9) c C u (Nat.lt_of_lt_of_le hC hu.size) (Tp.keep hu h39))
 by_cases e10 : k = 10
 ·
  subst e10
  exact Tp.stepAt s c w g off 10 hk' hk23 hlt 61 #[] (enters_of Tryz.func61 (by kernel_rfl) rfl) (hc 10 _ rfl) _ (fun u _ => Tp.bare (s.to 10) c u)
 by_cases e11 : k = 11
 ·
  subst e11
  exact Tp.stepAt s c w g off 11 hk' hk23 hlt 62 #[] (enters_of Tryz.func62 (by kernel_rfl) rfl) (hc 11 _ rfl) _ (fun u _ => Tp.afterValue (s.to 11) c u)
 by_cases e12 : k = 12
 ·
  subst e12
  exact Tp.stepAt s c w g off 12 hk' hk23 hlt 63 #[] (enters_of Tryz.func63 (by kernel_rfl) rfl) (hc 12 _ rfl) _ (fun u _ => Tp.selfClose (s.to 12) c u)
 by_cases e13 : k = 13
 ·
  subst e13
  exact Tp.stepAt s c w g off 13 hk' hk23 hlt 64 #[] (enters_of Tryz.func64 (by kernel_rfl) rfl) (hc 13 _ rfl) _ (fun u _ => Tp.bang (s.to 13) c u)
 by_cases e14 : k = 14
 ·
  subst e14
  exact Tp.stepAt s c w g off 14 hk' hk23 hlt 65 #[] (enters_of Tryz.func65 (by kernel_rfl) rfl) (hc 14 _ rfl) _ (fun u _ => Tp.bangDash (s.to 14) c u)
 by_cases e15 : k = 15
 ·
  subst e15
  exact Tp.stepAt s c w g off 15 hk' hk23 hlt 66 #[] (enters_of Tryz.func66 (by kernel_rfl) rfl) (hc 15 _ rfl) _ (fun u _ => Tp.comment (s.to 15) c u)
 by_cases e16 : k = 16
 ·
  subst e16
  exact Tp.stepAt s c w g off 16 hk' hk23 hlt 67 #[] (enters_of Tryz.func67 (by kernel_rfl) rfl) (hc 16 _ rfl) _ (fun u _ => Tp.commentDash (s.to 16) c u)
 by_cases e17 : k = 17
 ·
  subst e17
  exact Tp.stepAt s c w g off 17 hk' hk23 hlt 68 #[] (enters_of Tryz.func68 (by kernel_rfl) rfl) (hc 17 _ rfl) _ (fun u _ => Tp.commentEnd (s.to 17) c u)
 by_cases e18 : k = 18
 ·
  subst e18
  exact Tp.stepAt s c w g off 18 hk' hk23 hlt 69 #[] (enters_of Tryz.func69 (by kernel_rfl) rfl) (hc 18 _ rfl) _ (fun u _ => Tp.bogus (s.to 18) c u)
 by_cases e19 : k = 19
 ·
  subst e19
  exact Tp.stepAt s c w g off 19 hk' hk23 hlt 70 #[] (enters_of Tryz.func70 (by kernel_rfl) rfl) (hc 19 _ rfl) _ (fun u _ => Tp.held (s.to 19) c u)
 by_cases e20 : k = 20
 ·
  subst e20
  exact Tp.stepAt s c w g off 20 hk' hk23 hlt 71 #[] (enters_of Tryz.func71 (by kernel_rfl) rfl) (hc 20 _ rfl) _ (fun u _ => Tp.heldLt (s.to 20) c u)
 by_cases e21 : k = 21
 ·
  subst e21
  exact Tp.stepAt s c w g off 21 hk' hk23 hlt 72 #[] (enters_of Tryz.func72 (by kernel_rfl) rfl) (hc 21 _ rfl) _ (fun u _ => Tp.heldSlash (s.to 21) c u)
 by_cases e22 : k = 22
 ·
  subst e22
  exact Tp.stepAt s c w g off 22 hk' hk23 hlt 73 #[] (enters_of Tryz.func73 (by kernel_rfl) rfl) (hc 22 _ rfl) _ (fun u _ => Tp.heldName (s.to 22) c u hf.2.2)
 omega
theorem Tp.Start (w : World) : Calls Tryz.prog 33 #[] w fun e w' => e = .returned (.agg #[.int .i64 0, .string ⟨#[]⟩, .bool false, .string ⟨#[]⟩, .string ⟨#[]⟩, .int .i64 0]) ∧ Below w.heap.size w w' := by
 go_enter Tryz.func33, Tryz.ntmps33
 go_wp2
 exact bodyPost_ret (v := .agg #[.int .i64 0, .string ⟨#[]⟩, .bool false, .string ⟨#[]⟩, .string ⟨#[]⟩, .int .i64 0]) (by simp [results, Tryz.results33, go_sem]) rfl ⟨rfl, (Below.refl _ _).alloc (Nat.le_refl _) _⟩
end Go.Proofs.YtblpkjlodncpeaaGreatDoor
