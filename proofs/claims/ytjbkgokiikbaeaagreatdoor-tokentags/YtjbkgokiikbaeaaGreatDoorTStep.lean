/-
  THE WALKS of tok.quoted's function, of a table's step.
-/
import Derived.Test.YtjbkgokiikbaeaaGreatDoorTRowA
import Derived.Deep.RegionHeld
namespace Go.Proofs.YtjbkgokiikbaeaaGreatDoor
open Go.RowKit
set_option maxHeartbeats 1000000 in
theorem Tp.stepAt (s : Ts) (c : UInt8) (w : World) (g off k : Nat) (hk : s.pl = (k : Int)) (hk23 : k < 23) (hg : g < w.heap.size) (f : Nat) (lb : Array Value) (ef : ∀ args w, (callFunc f args).run Tryz.prog w = .ok (.enter f args) w)
    (hc : w.cell? ⟨g, off + k, none⟩ = some (.func (.func f) #[] lb)) (X : Ts)
    (hX : ∀ u, Below w.heap.size w u → Calls Tryz.prog f (#[.agg #[.int .i64 (s.to k).pl, .string (s.to k).name, .bool (s.to k).fin, .string (s.to k).attr, .string (s.to k).held, .int .i64 (s.to k).read], .int .u8 c.toNat] ++ lb) u fun e w' => e = .returned (.agg #[.int .i64 X.pl, .string X.name, .bool X.fin, .string X.attr, .string X.held, .int .i64 X.read]) ∧ Below u.heap.size u w') :
    Calls Tryz.prog 23 #[.pointer (some ⟨g, off, none⟩), .agg #[.int .i64 s.pl, .string s.name, .bool s.fin, .string s.attr, .string s.held, .int .i64 s.read], .int .u8 c.toNat] w fun e w' => e = .returned (.agg #[.int .i64 X.pl, .string X.name, .bool X.fin, .string X.attr, .string X.held, .int .i64 X.read]) ∧ Below w.heap.size w w' := by
  obtain ⟨p, n, fi, a, h, r⟩ := s
  simp only at hk ⊢
  subst hk
  have t1 : decide ((k : Int) < 0) = false := decide_eq_false (by omega)
  have t2 : decide ((23 : Int) ≤ (k : Int)) = false := decide_eq_false (by omega)
  have hT := Tp.to ⟨k, n, fi, a, h, r⟩ k
  simp only at hT
  generalize Ts.to ⟨k, n, fi, a, h, r⟩ k = Y at *
  go_enter Tryz.func23, Tryz.ntmps23
  go_wp2
  have hne : w.heap.size ≠ g := by omega
  have hne1 : w.heap.size + 1 ≠ g := by omega
  obtain ⟨W, hW⟩ : ∃ W, (w.alloc (.cells #[.int .i64 (k : Int), .string n, .bool fi, .string a, .string h, .int .i64 r] 23)).alloc (.cells #[.int .i64 0, .string ⟨#[]⟩, .bool false, .string ⟨#[]⟩, .string ⟨#[]⟩, .int .i64 0] 23) = W := ⟨_, rfl⟩
  rw [hW]
  have hbW : Below w.heap.size w W := by rw [← hW]; exact Tp.two _ _ _
  have hsW : W.heap.size = w.heap.size + 1 + 1 := by rw [← hW]; simp
  have k0 : W.cell? ⟨w.heap.size, 0, none⟩ = some (.int .i64 (k : Int)) := by rw [← hW]; simp
  have k1 : W.cell? ⟨w.heap.size, 1, none⟩ = some (.string n) := by rw [← hW]; simp
  have k2 : W.cell? ⟨w.heap.size, 2, none⟩ = some (.bool fi) := by rw [← hW]; simp
  have k3 : W.cell? ⟨w.heap.size, 3, none⟩ = some (.string a) := by rw [← hW]; simp
  have k4 : W.cell? ⟨w.heap.size, 4, none⟩ = some (.string h) := by rw [← hW]; simp
  have k5 : W.cell? ⟨w.heap.size, 5, none⟩ = some (.int .i64 r) := by rw [← hW]; simp
  have z0 : W.cell? ⟨w.heap.size + 1, 0, none⟩ = some (.int .i64 0) := by rw [← hW]; simp
  have z1 : W.cell? ⟨w.heap.size + 1, 1, none⟩ = some (.string ⟨#[]⟩) := by rw [← hW]; simp
  have z2 : W.cell? ⟨w.heap.size + 1, 2, none⟩ = some (.bool false) := by rw [← hW]; simp
  have z3 : W.cell? ⟨w.heap.size + 1, 3, none⟩ = some (.string ⟨#[]⟩) := by rw [← hW]; simp
  have z4 : W.cell? ⟨w.heap.size + 1, 4, none⟩ = some (.string ⟨#[]⟩) := by rw [← hW]; simp
  have z5 : W.cell? ⟨w.heap.size + 1, 5, none⟩ = some (.int .i64 0) := by rw [← hW]; simp
  have zf : ∀ i, W.frozen? ⟨w.heap.size + 1, i, none⟩ = false := fun i => by rw [← hW]; simp
  have kc : W.cell? ⟨g, off + k, none⟩ = some (.func (.func f) #[] lb) := (hbW.cell (p := ⟨g, off + k, none⟩) hg).trans hc
  clear hW hc
  have HX := Lib.hid hX
  clear hX
  go_region_held (fun u => u.cell? ⟨w.heap.size, 0, none⟩ = some (.int .i64 (k : Int)) ∧ u.cell? ⟨w.heap.size, 1, none⟩ = some (.string n) ∧ u.cell? ⟨w.heap.size, 2, none⟩ = some (.bool fi) ∧ u.cell? ⟨w.heap.size, 3, none⟩ = some (.string a) ∧ u.cell? ⟨w.heap.size, 4, none⟩ = some (.string h) ∧ u.cell? ⟨w.heap.size, 5, none⟩ = some (.int .i64 r) ∧ u.cell? ⟨g, off + k, none⟩ = some (.func (.func f) #[] lb)) (go_keep) (first | (go_at_call 67; refine (hT _).mono ?_; rintro e w1 ⟨rfl, hb1⟩; go_loud (have k0' := Tp.keep hb1 k0; have k1' := Tp.keep hb1 k1; have k2' := Tp.keep hb1 k2; have k3' := Tp.keep hb1 k3; have k4' := Tp.keep hb1 k4; have k5' := Tp.keep hb1 k5; have kc' := Tp.keep hb1 kc; have z0' := Tp.keep hb1 z0; have z1' := Tp.keep hb1 z1; have z2' := Tp.keep hb1 z2; have z3' := Tp.keep hb1 z3; have z4' := Tp.keep hb1 z4; have z5' := Tp.keep hb1 z5; have zf' := Tp.keepF hb1 (by simp; omega) zf; have hs1 := hb1.size; simp at hs1; have q1 : Below w.heap.size w w1 := hbW.trans (Below.trans (by exact (Below.refl _ _).drew) (hb1.mono (by simp; omega))); clear hb1 zf hT k0 k1 k2 k3 k4 k5 kc z0 z1 z2 z3 z4 z5)) | (go_at_fn f; refine (HX.out _ q1).mono ?_; rintro e w2 ⟨rfl, hb2⟩; go_loud (have k0'' := Tp.keep hb2 k0'; have k1'' := Tp.keep hb2 k1'; have k2'' := Tp.keep hb2 k2'; have k3'' := Tp.keep hb2 k3'; have k4'' := Tp.keep hb2 k4'; have k5'' := Tp.keep hb2 k5'; have kc'' := Tp.keep hb2 kc'; have z0'' := Tp.keep hb2 z0'; have z1'' := Tp.keep hb2 z1'; have z2'' := Tp.keep hb2 z2'; have z3'' := Tp.keep hb2 z3'; have z4'' := Tp.keep hb2 z4'; have z5'' := Tp.keep hb2 z5'; have zf'' := Tp.keepF hb2 (by omega) zf'; have hs2 := hb2.size; have q2 : Below w.heap.size w w2 := q1.trans (hb2.mono (by omega)); clear hb2 zf' k0' k1' k2' k3' k4' k5' kc' z0' z1' z2' z3' z4' z5')))
  all_goals go_wp2
  all_goals refine bodyPost_ret (v := .agg #[.int .i64 X.pl, .string X.name, .bool X.fin, .string X.attr, .string X.held, .int .i64 X.read]) (by simp [results, Tryz.results23, go_sem, *]) rfl ⟨rfl, ?_⟩
  all_goals repeat (refine Below.setCell ?_ (by simp) _)
  all_goals exact q2
theorem Tp.stepOut (s : Ts) (c : UInt8) (w : World) (g off : Nat) (hk : s.pl < 0 ∨ 23 ≤ s.pl) :
    Calls Tryz.prog 23 #[.pointer (some ⟨g, off, none⟩), .agg #[.int .i64 s.pl, .string s.name, .bool s.fin, .string s.attr, .string s.held, .int .i64 s.read], .int .u8 c.toNat] w fun e w' => e = .returned (.agg #[.int .i64 s.pl, .string s.name, .bool s.fin, .string s.attr, .string s.held, .int .i64 s.read]) ∧ Below w.heap.size w w' := by
  by_cases h : s.pl < 0
  · have t1 : decide (s.pl < 0) = true := decide_eq_true h
    clear h hk
    go_enter Tryz.func23, Tryz.ntmps23
    go_wp2
    exact bodyPost_ret (v := .agg #[.int .i64 s.pl, .string s.name, .bool s.fin, .string s.attr, .string s.held, .int .i64 s.read]) (by simp [results, Tryz.results23, go_sem]) rfl ⟨rfl, Tp.two _ _ _⟩
  · have t1 : decide (s.pl < 0) = false := decide_eq_false h
    have t2 : decide (23 ≤ s.pl) = true := decide_eq_true (by omega)
    clear h hk
    go_enter Tryz.func23, Tryz.ntmps23
    go_wp2
    exact bodyPost_ret (v := .agg #[.int .i64 s.pl, .string s.name, .bool s.fin, .string s.attr, .string s.held, .int .i64 s.read]) (by simp [results, Tryz.results23, go_sem]) rfl ⟨rfl, Tp.two _ _ _⟩
/-- tok.quoted's own function -/
theorem Tp.quoted1 (q : UInt8) (s : Ts) (c : UInt8) (B : Nat) (w : World) (hB : B < w.heap.size) (hq : w.cell? ⟨B, 0, none⟩ = some (.int .u8 q.toNat)) :
    Calls Tryz.prog 94 #[.agg #[.int .i64 s.pl, .string s.name, .bool s.fin, .string s.attr, .string s.held, .int .i64 s.read], .int .u8 c.toNat, .pointer (some ⟨B, 0, none⟩)] w fun e w' => e = .returned (.agg #[.int .i64 (Ts.quoted q s c).pl, .string (Ts.quoted q s c).name, .bool (Ts.quoted q s c).fin, .string (Ts.quoted q s c).attr, .string (Ts.quoted q s c).held, .int .i64 (Ts.quoted q s c).read]) ∧ Below w.heap.size w w' := by
  have hn0 : w.heap.size ≠ B := by omega
  have hn1 : w.heap.size + 1 ≠ B := by omega
  have hn2 : B ≠ w.heap.size := by omega
  have hn3 : B ≠ w.heap.size + 1 := by omega
  by_cases h : c = q
  · have t : ((c.toNat : Int) == (q.toNat : Int)) = true := Tp.eq_true h
    have HX := Lib.hid (show Ts.quoted q s c = s.to 11 by unfold Ts.quoted; rw [if_pos h])
    clear h
    go_enter Tryz.func94, Tryz.ntmps94
    go_wp2_with (go_at_call 67; refine (Tp.to s _ _).mono ?_; rintro e w1 ⟨rfl, hb1⟩; have b0 := Tp.keep hb1 (b := w.heap.size + 1) (o := 0) (v := .int .i64 0) (by simp); have b1 := Tp.keep hb1 (b := w.heap.size + 1) (o := 1) (v := .string ⟨#[]⟩) (by simp); have b2 := Tp.keep hb1 (b := w.heap.size + 1) (o := 2) (v := .bool false) (by simp); have b3 := Tp.keep hb1 (b := w.heap.size + 1) (o := 3) (v := .string ⟨#[]⟩) (by simp); have b4 := Tp.keep hb1 (b := w.heap.size + 1) (o := 4) (v := .string ⟨#[]⟩) (by simp); have b5 := Tp.keep hb1 (b := w.heap.size + 1) (o := 5) (v := .int .i64 0) (by simp); have bf := Tp.keepF hb1 (b := w.heap.size + 1) (by simp) (fun i => by simp); have q1 : Below w.heap.size w w1 := (Tp.two _ _ _).trans (hb1.mono (by simp; omega)); clear hb1)
    refine bodyPost_ret (v := .agg #[.int .i64 (s.to 11).pl, .string (s.to 11).name, .bool (s.to 11).fin, .string (s.to 11).attr, .string (s.to 11).held, .int .i64 (s.to 11).read]) (by simp [results, Tryz.results94, go_sem, *]) rfl ⟨Tp.ret HX.out.symm, ?_⟩
    repeat (refine Below.setCell ?_ (by simp) _)
    exact q1
  · have t : ((c.toNat : Int) == (q.toNat : Int)) = false := Tp.eq_false h
    have HX := Lib.hid (show Ts.quoted q s c = s by unfold Ts.quoted; rw [if_neg h])
    clear h
    go_enter Tryz.func94, Tryz.ntmps94
    go_wp2
    exact bodyPost_ret (v := .agg #[.int .i64 s.pl, .string s.name, .bool s.fin, .string s.attr, .string s.held, .int .i64 s.read]) (by simp [results, Tryz.results94, go_sem]) rfl ⟨Tp.ret HX.out.symm, Tp.two _ _ _⟩
end Go.Proofs.YtjbkgokiikbaeaaGreatDoor
