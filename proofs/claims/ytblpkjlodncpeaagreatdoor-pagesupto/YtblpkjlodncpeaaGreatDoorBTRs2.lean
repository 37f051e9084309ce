/-
  THE WALKS of the reference's functions of a place: closed, open, names, values, comments.
-/
import Derived.Test.YtblpkjlodncpeaaGreatDoorBTRs1
import Derived.Deep.RegionHeld
namespace Go.Proofs.YtblpkjlodncpeaaGreatDoor
open Go.RowKit
theorem Rs.agg {X Y : Ts} (h : X = Y) : Ending.returned (.agg #[.int .i64 X.pl, .string X.name, .bool X.fin, .string X.attr, .string X.held, .int .i64 X.read]) = .returned (.agg #[.int .i64 Y.pl, .string Y.name, .bool Y.fin, .string Y.attr, .string Y.held, .int .i64 Y.read]) := by rw [h]
theorem Rs.bl {c : UInt8} {b : Bool} (h : Ts.blank c = b) (w : World) : Calls Tryz.prog 144 #[.int .u8 c.toNat] w fun e w' => e = .returned (.bool b) ∧ w' = w := by
 subst h
 exact Rs.blank c w
theorem Rs.le {c : UInt8} {b : Bool} (h : Ts.letter c = b) (w : World) : Calls Tryz.prog 126 #[.int .u8 c.toNat] w fun e w' => e = .returned (.bool b) ∧ w' = w := by
 subst h
 exact Rs.letter c w
theorem Rs.nb {c : UInt8} {d : UInt8} (h : c = d) (hd : Ts.blank d = false) : Ts.blank c = false := by rw [h]; exact hd
theorem Rs.ba {c : UInt8} (h : Ts.blank c = true) (d : UInt8) (hd : Ts.blank d = false) : ¬ c = d := fun e => by rw [e, hd] at h; cases h
theorem Rs.la {c : UInt8} (h : Ts.letter c = true) (d : UInt8) (hd : Ts.letter d = false) : ¬ c = d := fun e => by rw [e, hd] at h; cases h
theorem Rs.drewB {B : Nat} {a w : World} (h : Below B a w) : Below B a w.drew := ⟨h.os, h.tape, h.output, h.size, h.block⟩
theorem Rs.bel1 {u w1 : World} {o : Obj} (h : w1 = u ∨ w1 = u.alloc o) : Below u.heap.size u w1 := by
 rcases h with rfl | rfl
 ·
  exact Below.refl _ _
 ·
  exact (Below.refl _ _).alloc (Nat.le_refl _) _
theorem Rs.bel2 {u w1 : World} {o p : Obj} (h : w1 = (u.alloc o).alloc p) : Below u.heap.size u w1 := by
 rw [h]
 exact ((Below.refl _ _).alloc (Nat.le_refl _) _).alloc (by simp) _
theorem Rs.grownL (n : ByteArray) (c : UInt8) (h : n.size = 32) : Ts.grown n c = n := by
 unfold Ts.grown
 rw [if_pos (by omega)]
 apply ByteArray.ext
 rw [ByteArray.data_extract, Array.extract_eq_self_of_le (by show n.size ≤ 32; omega)]
theorem Rs.grownS (n : ByteArray) (c : UInt8) (h : n.size < 32) : Ts.grown n c = n ++ Ts.low c := by
 unfold Ts.grown
 rw [if_neg (by omega)]
theorem Rs.emptyLow (c : UInt8) : (⟨#[]⟩ : ByteArray) ++ Ts.low c = Ts.low c := by
 apply ByteArray.ext
 simp [ByteArray.data_append]
theorem Rs.closed (s : Ts) (w : World) : Calls Tryz.prog 143 #[.agg #[.int .i64 s.pl, .string s.name, .bool s.fin, .string s.attr, .string s.held, .int .i64 s.read]] w fun e w' => e = .returned (.agg #[.int .i64 s.closed.pl, .string s.closed.name, .bool s.closed.fin, .string s.closed.attr, .string s.closed.held, .int .i64 s.closed.read]) ∧ w' = (w.alloc (.cells #[.int .i64 s.pl, .string s.name, .bool s.fin, .string s.attr, .string s.held, .int .i64 s.read] 76)).alloc (.cells #[.int .i64 s.closed.pl, .string s.closed.name, .bool s.closed.fin, .string s.closed.attr, .string s.closed.held, .int .i64 s.closed.read] 76) := by
 have he := fun u => Rs.elem s.name u
 by_cases h : s.fin = true ∨ Ts.kind s.name = 0 ∨ Ts.kind s.name = 1
 ·
  have HR : Hid (s.closed = (⟨0, Ts.e, false, Ts.e, Ts.e, 0⟩ : Ts)) := by unfold Hid Ts.closed; rw [if_pos h]; rfl
  rw [HR.out]
  by_cases h1 : s.fin = true
  ·
   rw [h1]
   generalize Ts.kind s.name = K at *
   clear h h1
   go_enter Tryz.func143, Tryz.ntmps143
   go_wp2_with (go_at_call 91; refine (he _).mono ?_; rintro e w' ⟨rfl, rfl⟩)
   refine bodyPost_ret (v := .agg #[.int .i64 0, .string ⟨#[]⟩, .bool false, .string ⟨#[]⟩, .string ⟨#[]⟩, .int .i64 0]) (by simp [results, Tryz.results143, go_sem]) rfl ⟨rfl, ?_⟩
   simp [Ts.e]
  ·
   have h1 : s.fin = false := by simpa using h1
   rw [h1]
   by_cases h2 : Ts.kind s.name = 0
   ·
    rw [h2] at he
    clear h h1 h2
    go_enter Tryz.func143, Tryz.ntmps143
    go_wp2_with (go_at_call 91; refine (he _).mono ?_; rintro e w' ⟨rfl, rfl⟩)
    refine bodyPost_ret (v := .agg #[.int .i64 0, .string ⟨#[]⟩, .bool false, .string ⟨#[]⟩, .string ⟨#[]⟩, .int .i64 0]) (by simp [results, Tryz.results143, go_sem]) rfl ⟨rfl, ?_⟩
    simp [Ts.e]
   ·
    have h3 : Ts.kind s.name = 1 := by
     rcases h with q | q | q
     ·
      rw [h1] at q; cases q
     ·
      exact absurd q h2
     ·
      exact q
    rw [h3] at he
    clear h h1 h2 h3
    go_enter Tryz.func143, Tryz.ntmps143
    go_wp2_with (go_at_call 91; refine (he _).mono ?_; rintro e w' ⟨rfl, rfl⟩)
    refine bodyPost_ret (v := .agg #[.int .i64 0, .string ⟨#[]⟩, .bool false, .string ⟨#[]⟩, .string ⟨#[]⟩, .int .i64 0]) (by simp [results, Tryz.results143, go_sem]) rfl ⟨rfl, ?_⟩
    simp [Ts.e]
 ·
  have HR : Hid (s.closed = (⟨19, Ts.e, false, Ts.e, s.name, 0⟩ : Ts)) := by unfold Hid Ts.closed; rw [if_neg h]; rfl
  rw [HR.out]
  have h1 : s.fin = false := by cases q : s.fin with | false => rfl | true => exact absurd (Or.inl q) h
  have t0 : (Ts.kind s.name == 0) = false := beq_eq_false_iff_ne.2 (fun q => h (Or.inr (Or.inl q)))
  have t1 : (Ts.kind s.name == 1) = false := beq_eq_false_iff_ne.2 (fun q => h (Or.inr (Or.inr q)))
  rw [h1]
  generalize Ts.kind s.name = K at *
  clear h h1
  go_enter Tryz.func143, Tryz.ntmps143
  go_wp2_with (go_at_call 91; refine (he _).mono ?_; rintro e w' ⟨rfl, rfl⟩)
  refine bodyPost_ret (v := .agg #[.int .i64 19, .string ⟨#[]⟩, .bool false, .string ⟨#[]⟩, .string s.name, .int .i64 0]) (by simp [results, Tryz.results143, go_sem]) rfl ⟨rfl, ?_⟩
  simp [Ts.e]
set_option maxRecDepth 100000 in
set_option maxHeartbeats 2000000 in
theorem Rs.names_3 (n : ByteArray) (f : Bool) (c : UInt8) (w : World) (hn : n.size ≤ 32) : Calls Tryz.prog 121 #[.agg #[.int .i64 3, .string n, .bool f, .string ⟨#[]⟩, .string ⟨#[]⟩, .int .i64 0], .int .u8 c.toNat] w fun e w' => e = .returned (.agg #[.int .i64 ((⟨3, n, f, Ts.e, Ts.e, 0⟩ : Ts).step c).pl, .string ((⟨3, n, f, Ts.e, Ts.e, 0⟩ : Ts).step c).name, .bool ((⟨3, n, f, Ts.e, Ts.e, 0⟩ : Ts).step c).fin, .string ((⟨3, n, f, Ts.e, Ts.e, 0⟩ : Ts).step c).attr, .string ((⟨3, n, f, Ts.e, Ts.e, 0⟩ : Ts).step c).held, .int .i64 ((⟨3, n, f, Ts.e, Ts.e, 0⟩ : Ts).step c).read]) ∧ Below w.heap.size w w' := by
 by_cases h62 : c = 62
 ·
  have hB := Rs.nb h62 (by decide)
  have h47 : ¬ c = 47 := by rw [h62]; decide
  have HR : Hid ((⟨3, n, f, Ts.e, Ts.e, 0⟩ : Ts).step c = (⟨3, n, f, Ts.e, Ts.e, 0⟩ : Ts).closed) := (by unfold Hid; show Ts.tagName ((⟨3, n, f, Ts.e, Ts.e, 0⟩ : Ts).to 3) c = _; unfold Ts.tagName; rw [if_neg (by rw [hB]; decide), if_neg h47, if_pos h62]; rfl)
  have hbl := fun u => Rs.bl hB u
  have t47 := Tp.n47 h47
  have t62 := Tp.y62 h62
  have hcl := fun u => Rs.closed (⟨3, n, f, Ts.e, Ts.e, 0⟩ : Ts) u
  clear hB h47 h62
  generalize (⟨3, n, f, Ts.e, Ts.e, 0⟩ : Ts).closed = Z at *
  go_enter Tryz.func121, Tryz.ntmps121
  go_wp2_with (first | (go_at_call 144; refine (hbl _).mono ?_; rintro e w' ⟨rfl, rfl⟩) | (go_at_call 143; refine (hcl _).mono ?_; rintro e w' ⟨rfl, rfl⟩))
  refine bodyPost_ret (v := Ts.v Z) (by simp [results, Tryz.results121, go_sem, Ts.v]) rfl ⟨Rs.agg (X := Z) HR.out.symm, ?_⟩
  repeat' first | exact Below.refl _ _ | refine Below.drew ?_ | refine Below.alloc ?_ (by first | (simp; done) | (simp; omega) | omega) _
 by_cases h47 : c = 47
 ·
  have hB := Rs.nb h47 (by decide)
  have HR : Hid ((⟨3, n, f, Ts.e, Ts.e, 0⟩ : Ts).step c = (⟨12, n, f, Ts.e, Ts.e, 0⟩ : Ts)) := (by unfold Hid; show Ts.tagName ((⟨3, n, f, Ts.e, Ts.e, 0⟩ : Ts).to 3) c = _; unfold Ts.tagName; rw [if_neg (by rw [hB]; decide), if_pos h47]; rfl)
  have t62 := Tp.n62 h62
  have hbl := fun u => Rs.bl hB u
  have t47 := Tp.y47 h47
  have htg := fun u => Rs.tag 12 (⟨3, n, f, Ts.e, Ts.e, 0⟩ : Ts) u
  clear h62 hB h47
  go_enter Tryz.func121, Tryz.ntmps121
  go_wp2_with (first | (go_at_call 144; refine (hbl _).mono ?_; rintro e w' ⟨rfl, rfl⟩) | (go_at_call 141; refine (htg _).mono ?_; rintro e w' ⟨rfl, rfl⟩))
  refine bodyPost_ret (v := .agg #[.int .i64 12, .string n, .bool f, .string ⟨#[]⟩, .string ⟨#[]⟩, .int .i64 0]) (by simp [results, Tryz.results121, go_sem]) rfl ⟨Rs.agg (X := (⟨12, n, f, Ts.e, Ts.e, 0⟩ : Ts)) HR.out.symm, ?_⟩
  repeat' first | exact Below.refl _ _ | refine Below.drew ?_ | refine Below.alloc ?_ (by first | (simp; done) | (simp; omega) | omega) _
 cases hB : Ts.blank c with
 | true =>
  have HR : Hid ((⟨3, n, f, Ts.e, Ts.e, 0⟩ : Ts).step c = (⟨4, n, f, Ts.e, Ts.e, 0⟩ : Ts)) := (by unfold Hid; show Ts.tagName ((⟨3, n, f, Ts.e, Ts.e, 0⟩ : Ts).to 3) c = _; unfold Ts.tagName; rw [if_pos hB]; rfl)
  have t62 := Tp.n62 h62
  have t47 := Tp.n47 h47
  have hbl := fun u => Rs.bl hB u
  have htg := fun u => Rs.tag 4 (⟨3, n, f, Ts.e, Ts.e, 0⟩ : Ts) u
  clear h62 h47 hB
  go_enter Tryz.func121, Tryz.ntmps121
  go_wp2_with (first | (go_at_call 144; refine (hbl _).mono ?_; rintro e w' ⟨rfl, rfl⟩) | (go_at_call 141; refine (htg _).mono ?_; rintro e w' ⟨rfl, rfl⟩))
  refine bodyPost_ret (v := .agg #[.int .i64 4, .string n, .bool f, .string ⟨#[]⟩, .string ⟨#[]⟩, .int .i64 0]) (by simp [results, Tryz.results121, go_sem]) rfl ⟨Rs.agg (X := (⟨4, n, f, Ts.e, Ts.e, 0⟩ : Ts)) HR.out.symm, ?_⟩
  repeat' first | exact Below.refl _ _ | refine Below.drew ?_ | refine Below.alloc ?_ (by first | (simp; done) | (simp; omega) | omega) _
 | false =>
  by_cases h61 : c = 61
  ·
   by_cases hz : n.size < 32
   ·
    have HR : Hid ((⟨3, n, f, Ts.e, Ts.e, 0⟩ : Ts).step c = (⟨3, (n ++ Ts.low c), f, Ts.e, Ts.e, 0⟩ : Ts)) := (by unfold Hid; show Ts.tagName ((⟨3, n, f, Ts.e, Ts.e, 0⟩ : Ts).to 3) c = _; unfold Ts.tagName; rw [if_neg (by rw [hB]; decide), if_neg h47, if_neg h62]; show (⟨3, Ts.grown n c, f, Ts.e, Ts.e, 0⟩ : Ts) = _; rw [Rs.grownS n c hz])
    have t62 := Tp.n62 h62
    have t47 := Tp.n47 h47
    have hbl := fun u => Rs.bl hB u
    have t61 := Tp.y61 h61
    clear h61
    have hwi := fun u => Rs.withS n c u hz
    have zl := Tp.low_size c
    clear hz
    clear h62 h47 hB
    go_enter Tryz.func121, Tryz.ntmps121
    go_wp2_with (first | (go_at_call 144; refine (hbl _).mono ?_; rintro e w' ⟨rfl, rfl⟩) | (go_at_call 142; refine (hwi _).mono ?_; rintro e w' ⟨rfl, rfl⟩))
    refine bodyPost_ret (v := .agg #[.int .i64 3, .string (n ++ Ts.low c), .bool f, .string ⟨#[]⟩, .string ⟨#[]⟩, .int .i64 0]) (by simp [results, Tryz.results121, go_sem]) rfl ⟨Rs.agg (X := (⟨3, (n ++ Ts.low c), f, Ts.e, Ts.e, 0⟩ : Ts)) HR.out.symm, ?_⟩
    repeat' first | exact Below.refl _ _ | refine Below.drew ?_ | refine Below.alloc ?_ (by first | (simp; done) | (simp; omega) | omega) _
   have hz : n.size = 32 := by omega
   have HR : Hid ((⟨3, n, f, Ts.e, Ts.e, 0⟩ : Ts).step c = (⟨3, n, f, Ts.e, Ts.e, 0⟩ : Ts)) := (by unfold Hid; show Ts.tagName ((⟨3, n, f, Ts.e, Ts.e, 0⟩ : Ts).to 3) c = _; unfold Ts.tagName; rw [if_neg (by rw [hB]; decide), if_neg h47, if_neg h62]; show (⟨3, Ts.grown n c, f, Ts.e, Ts.e, 0⟩ : Ts) = _; rw [Rs.grownL n c hz])
   have t62 := Tp.n62 h62
   have t47 := Tp.n47 h47
   have hbl := fun u => Rs.bl hB u
   have t61 := Tp.y61 h61
   clear h61
   have hwi := fun u => Rs.withL n c u hz
   clear hz
   clear h62 h47 hB
   go_enter Tryz.func121, Tryz.ntmps121
   go_wp2_with (first | (go_at_call 144; refine (hbl _).mono ?_; rintro e w' ⟨rfl, rfl⟩) | (go_at_call 142; refine (hwi _).mono ?_; rintro e w' ⟨rfl, rfl⟩))
   refine bodyPost_ret (v := .agg #[.int .i64 3, .string n, .bool f, .string ⟨#[]⟩, .string ⟨#[]⟩, .int .i64 0]) (by simp [results, Tryz.results121, go_sem]) rfl ⟨Rs.agg (X := (⟨3, n, f, Ts.e, Ts.e, 0⟩ : Ts)) HR.out.symm, ?_⟩
   repeat' first | exact Below.refl _ _ | refine Below.drew ?_ | refine Below.alloc ?_ (by first | (simp; done) | (simp; omega) | omega) _
  by_cases hz : n.size < 32
  ·
   have HR : Hid ((⟨3, n, f, Ts.e, Ts.e, 0⟩ : Ts).step c = (⟨3, (n ++ Ts.low c), f, Ts.e, Ts.e, 0⟩ : Ts)) := (by unfold Hid; show Ts.tagName ((⟨3, n, f, Ts.e, Ts.e, 0⟩ : Ts).to 3) c = _; unfold Ts.tagName; rw [if_neg (by rw [hB]; decide), if_neg h47, if_neg h62]; show (⟨3, Ts.grown n c, f, Ts.e, Ts.e, 0⟩ : Ts) = _; rw [Rs.grownS n c hz])
   have t62 := Tp.n62 h62
   have t47 := Tp.n47 h47
   have hbl := fun u => Rs.bl hB u
   have t61 := Tp.n61 h61
   clear h61
   have hwi := fun u => Rs.withS n c u hz
   have zl := Tp.low_size c
   clear hz
   clear h62 h47 hB
   go_enter Tryz.func121, Tryz.ntmps121
   go_wp2_with (first | (go_at_call 144; refine (hbl _).mono ?_; rintro e w' ⟨rfl, rfl⟩) | (go_at_call 142; refine (hwi _).mono ?_; rintro e w' ⟨rfl, rfl⟩))
   refine bodyPost_ret (v := .agg #[.int .i64 3, .string (n ++ Ts.low c), .bool f, .string ⟨#[]⟩, .string ⟨#[]⟩, .int .i64 0]) (by simp [results, Tryz.results121, go_sem]) rfl ⟨Rs.agg (X := (⟨3, (n ++ Ts.low c), f, Ts.e, Ts.e, 0⟩ : Ts)) HR.out.symm, ?_⟩
   repeat' first | exact Below.refl _ _ | refine Below.drew ?_ | refine Below.alloc ?_ (by first | (simp; done) | (simp; omega) | omega) _
  have hz : n.size = 32 := by omega
  have HR : Hid ((⟨3, n, f, Ts.e, Ts.e, 0⟩ : Ts).step c = (⟨3, n, f, Ts.e, Ts.e, 0⟩ : Ts)) := (by unfold Hid; show Ts.tagName ((⟨3, n, f, Ts.e, Ts.e, 0⟩ : Ts).to 3) c = _; unfold Ts.tagName; rw [if_neg (by rw [hB]; decide), if_neg h47, if_neg h62]; show (⟨3, Ts.grown n c, f, Ts.e, Ts.e, 0⟩ : Ts) = _; rw [Rs.grownL n c hz])
  have t62 := Tp.n62 h62
  have t47 := Tp.n47 h47
  have hbl := fun u => Rs.bl hB u
  have t61 := Tp.n61 h61
  clear h61
  have hwi := fun u => Rs.withL n c u hz
  clear hz
  clear h62 h47 hB
  go_enter Tryz.func121, Tryz.ntmps121
  go_wp2_with (first | (go_at_call 144; refine (hbl _).mono ?_; rintro e w' ⟨rfl, rfl⟩) | (go_at_call 142; refine (hwi _).mono ?_; rintro e w' ⟨rfl, rfl⟩))
  refine bodyPost_ret (v := .agg #[.int .i64 3, .string n, .bool f, .string ⟨#[]⟩, .string ⟨#[]⟩, .int .i64 0]) (by simp [results, Tryz.results121, go_sem]) rfl ⟨Rs.agg (X := (⟨3, n, f, Ts.e, Ts.e, 0⟩ : Ts)) HR.out.symm, ?_⟩
  repeat' first | exact Below.refl _ _ | refine Below.drew ?_ | refine Below.alloc ?_ (by first | (simp; done) | (simp; omega) | omega) _
set_option maxRecDepth 100000 in
set_option maxHeartbeats 2000000 in
theorem Rs.names_4 (n : ByteArray) (f : Bool) (c : UInt8) (w : World) : Calls Tryz.prog 121 #[.agg #[.int .i64 4, .string n, .bool f, .string ⟨#[]⟩, .string ⟨#[]⟩, .int .i64 0], .int .u8 c.toNat] w fun e w' => e = .returned (.agg #[.int .i64 ((⟨4, n, f, Ts.e, Ts.e, 0⟩ : Ts).step c).pl, .string ((⟨4, n, f, Ts.e, Ts.e, 0⟩ : Ts).step c).name, .bool ((⟨4, n, f, Ts.e, Ts.e, 0⟩ : Ts).step c).fin, .string ((⟨4, n, f, Ts.e, Ts.e, 0⟩ : Ts).step c).attr, .string ((⟨4, n, f, Ts.e, Ts.e, 0⟩ : Ts).step c).held, .int .i64 ((⟨4, n, f, Ts.e, Ts.e, 0⟩ : Ts).step c).read]) ∧ Below w.heap.size w w' := by
 by_cases h62 : c = 62
 ·
  have hB := Rs.nb h62 (by decide)
  have h47 : ¬ c = 47 := by rw [h62]; decide
  have HR : Hid ((⟨4, n, f, Ts.e, Ts.e, 0⟩ : Ts).step c = (⟨4, n, f, Ts.e, Ts.e, 0⟩ : Ts).closed) := (by unfold Hid; show Ts.beforeAttr ((⟨4, n, f, Ts.e, Ts.e, 0⟩ : Ts).to 4) c = _; unfold Ts.beforeAttr; rw [if_neg (by rw [hB]; decide), if_neg h47, if_pos h62]; rfl)
  have hbl := fun u => Rs.bl hB u
  have t47 := Tp.n47 h47
  have t62 := Tp.y62 h62
  have hcl := fun u => Rs.closed (⟨4, n, f, Ts.e, Ts.e, 0⟩ : Ts) u
  clear hB h47 h62
  generalize (⟨4, n, f, Ts.e, Ts.e, 0⟩ : Ts).closed = Z at *
  go_enter Tryz.func121, Tryz.ntmps121
  go_wp2_with (first | (go_at_call 144; refine (hbl _).mono ?_; rintro e w' ⟨rfl, rfl⟩) | (go_at_call 143; refine (hcl _).mono ?_; rintro e w' ⟨rfl, rfl⟩))
  refine bodyPost_ret (v := Ts.v Z) (by simp [results, Tryz.results121, go_sem, Ts.v]) rfl ⟨Rs.agg (X := Z) HR.out.symm, ?_⟩
  repeat' first | exact Below.refl _ _ | refine Below.drew ?_ | refine Below.alloc ?_ (by first | (simp; done) | (simp; omega) | omega) _
 by_cases h47 : c = 47
 ·
  have hB := Rs.nb h47 (by decide)
  have HR : Hid ((⟨4, n, f, Ts.e, Ts.e, 0⟩ : Ts).step c = (⟨12, n, f, Ts.e, Ts.e, 0⟩ : Ts)) := (by unfold Hid; show Ts.beforeAttr ((⟨4, n, f, Ts.e, Ts.e, 0⟩ : Ts).to 4) c = _; unfold Ts.beforeAttr; rw [if_neg (by rw [hB]; decide), if_pos h47]; rfl)
  have t62 := Tp.n62 h62
  have hbl := fun u => Rs.bl hB u
  have t47 := Tp.y47 h47
  have htg := fun u => Rs.tag 12 (⟨4, n, f, Ts.e, Ts.e, 0⟩ : Ts) u
  clear h62 hB h47
  go_enter Tryz.func121, Tryz.ntmps121
  go_wp2_with (first | (go_at_call 144; refine (hbl _).mono ?_; rintro e w' ⟨rfl, rfl⟩) | (go_at_call 141; refine (htg _).mono ?_; rintro e w' ⟨rfl, rfl⟩))
  refine bodyPost_ret (v := .agg #[.int .i64 12, .string n, .bool f, .string ⟨#[]⟩, .string ⟨#[]⟩, .int .i64 0]) (by simp [results, Tryz.results121, go_sem]) rfl ⟨Rs.agg (X := (⟨12, n, f, Ts.e, Ts.e, 0⟩ : Ts)) HR.out.symm, ?_⟩
  repeat' first | exact Below.refl _ _ | refine Below.drew ?_ | refine Below.alloc ?_ (by first | (simp; done) | (simp; omega) | omega) _
 cases hB : Ts.blank c with
 | true =>
  have HR : Hid ((⟨4, n, f, Ts.e, Ts.e, 0⟩ : Ts).step c = (⟨4, n, f, Ts.e, Ts.e, 0⟩ : Ts)) := (by unfold Hid; show Ts.beforeAttr ((⟨4, n, f, Ts.e, Ts.e, 0⟩ : Ts).to 4) c = _; unfold Ts.beforeAttr; rw [if_pos hB]; rfl)
  have t62 := Tp.n62 h62
  have t47 := Tp.n47 h47
  have hbl := fun u => Rs.bl hB u
  have htg := fun u => Rs.tag 4 (⟨4, n, f, Ts.e, Ts.e, 0⟩ : Ts) u
  clear h62 h47 hB
  go_enter Tryz.func121, Tryz.ntmps121
  go_wp2_with (first | (go_at_call 144; refine (hbl _).mono ?_; rintro e w' ⟨rfl, rfl⟩) | (go_at_call 141; refine (htg _).mono ?_; rintro e w' ⟨rfl, rfl⟩))
  refine bodyPost_ret (v := .agg #[.int .i64 4, .string n, .bool f, .string ⟨#[]⟩, .string ⟨#[]⟩, .int .i64 0]) (by simp [results, Tryz.results121, go_sem]) rfl ⟨Rs.agg (X := (⟨4, n, f, Ts.e, Ts.e, 0⟩ : Ts)) HR.out.symm, ?_⟩
  repeat' first | exact Below.refl _ _ | refine Below.drew ?_ | refine Below.alloc ?_ (by first | (simp; done) | (simp; omega) | omega) _
 | false =>
  by_cases h61 : c = 61
  ·
   have HR : Hid ((⟨4, n, f, Ts.e, Ts.e, 0⟩ : Ts).step c = (⟨5, n, f, (Ts.low c), Ts.e, 0⟩ : Ts)) := (by unfold Hid; show Ts.beforeAttr ((⟨4, n, f, Ts.e, Ts.e, 0⟩ : Ts).to 4) c = _; unfold Ts.beforeAttr; rw [if_neg (by rw [hB]; decide), if_neg h47, if_neg h62]; rfl)
   have t62 := Tp.n62 h62
   have t47 := Tp.n47 h47
   have hbl := fun u => Rs.bl hB u
   have t61 := Tp.y61 h61
   clear h61
   have hwi := fun u => Rs.withS ⟨#[]⟩ c u (by decide)
   rw [Rs.emptyLow] at hwi
   have hat := fun u => Rs.attr 5 (⟨4, n, f, Ts.e, Ts.e, 0⟩ : Ts) (Ts.low c) u
   have zl := Tp.low_size c
   clear h62 h47 hB
   go_enter Tryz.func121, Tryz.ntmps121
   go_wp2_with (first | (go_at_call 144; refine (hbl _).mono ?_; rintro e w' ⟨rfl, rfl⟩) | (go_at_call 142; refine (hwi _).mono ?_; rintro e w' ⟨rfl, rfl⟩) | (go_at_call 140; refine (hat _).mono ?_; rintro e w' ⟨rfl, rfl⟩))
   obtain ⟨W, hW⟩ : ∃ W, (w.alloc (.cells #[.int .i64 4, .string n, .bool f, .string ⟨#[]⟩, .string ⟨#[]⟩, .int .i64 0] 76)).alloc (.cells #[.int .i64 0, .string ⟨#[]⟩, .bool false, .string ⟨#[]⟩, .string ⟨#[]⟩, .int .i64 0] 76) = W := ⟨_, rfl⟩
   have HB : Hid (Below w.heap.size w W) := Lib.hid (by rw [← hW]; exact ((Below.refl _ _).alloc (Nat.le_refl _) _).alloc (by simp) _)
   have c0 : W.cell? ⟨w.heap.size, 0, none⟩ = some (.int .i64 4) := by rw [← hW]; simp
   have c1 : W.cell? ⟨w.heap.size, 1, none⟩ = some (.string n) := by rw [← hW]; simp
   have c2 : W.cell? ⟨w.heap.size, 2, none⟩ = some (.bool f) := by rw [← hW]; simp
   have c3 : W.cell? ⟨w.heap.size, 3, none⟩ = some (.string ⟨#[]⟩) := by rw [← hW]; simp
   have c4 : W.cell? ⟨w.heap.size, 4, none⟩ = some (.string ⟨#[]⟩) := by rw [← hW]; simp
   have c5 : W.cell? ⟨w.heap.size, 5, none⟩ = some (.int .i64 0) := by rw [← hW]; simp
   have d0 : W.cell? ⟨w.heap.size + 1, 0, none⟩ = some (.int .i64 0) := by rw [← hW]; simp
   have d1 : W.cell? ⟨w.heap.size + 1, 1, none⟩ = some (.string ⟨#[]⟩) := by rw [← hW]; simp
   have d2 : W.cell? ⟨w.heap.size + 1, 2, none⟩ = some (.bool false) := by rw [← hW]; simp
   have d3 : W.cell? ⟨w.heap.size + 1, 3, none⟩ = some (.string ⟨#[]⟩) := by rw [← hW]; simp
   have d4 : W.cell? ⟨w.heap.size + 1, 4, none⟩ = some (.string ⟨#[]⟩) := by rw [← hW]; simp
   have d5 : W.cell? ⟨w.heap.size + 1, 5, none⟩ = some (.int .i64 0) := by rw [← hW]; simp
   have fz : ∀ i, W.frozen? ⟨w.heap.size + 1, i, none⟩ = false := fun i => by rw [← hW]; simp
   have hzz : w.heap.size + 1 < W.heap.size := by rw [← hW]; simp
   rw [hW]
   clear hW
   go_region_held (fun u => u.cell? ⟨w.heap.size, 0, none⟩ = some (.int .i64 4) ∧ u.cell? ⟨w.heap.size, 1, none⟩ = some (.string n) ∧ u.cell? ⟨w.heap.size, 2, none⟩ = some (.bool f) ∧ u.cell? ⟨w.heap.size, 3, none⟩ = some (.string ⟨#[]⟩) ∧ u.cell? ⟨w.heap.size, 4, none⟩ = some (.string ⟨#[]⟩) ∧ u.cell? ⟨w.heap.size, 5, none⟩ = some (.int .i64 0)) (go_keep) (first | (go_at_call 142; refine (hwi _).mono ?_; rintro e w1 ⟨rfl, hw1⟩; have hb1 := Rs.bel1 (u := W.drew) (o := .cells #[.int .u8 (Pl.lowB c).toNat] 5) (by first | exact Or.inl hw1 | exact Or.inr hw1); clear hw1; obtain ⟨k0, k1, k2, k3, k4, k5⟩ := Tp.k6 hb1 (b := w.heap.size) ⟨c0, c1, c2, c3, c4, c5⟩; obtain ⟨m0, m1, m2, m3, m4, m5⟩ := Tp.k6 hb1 (b := w.heap.size + 1) ⟨d0, d1, d2, d3, d4, d5⟩; have fz1 := Tp.keepF hb1 (b := w.heap.size + 1) (by first | omega | (simp; omega)) (by first | exact fz | simpa using fz); have hz1 : w.heap.size + 1 < w1.heap.size := Nat.lt_of_lt_of_le hzz hb1.size; have HB1 := Lib.hid ((Rs.drewB HB.out).trans (hb1.mono (by first | exact HB.out.size | (simp; exact HB.out.size)))); clear hb1 hwi) | (go_at_call 140; refine (hat _).mono ?_; rintro e w2 ⟨rfl, hw2⟩; have hb2 := Rs.bel2 hw2; clear hw2; obtain ⟨x0, x1, x2, x3, x4, x5⟩ := Tp.k6 hb2 (b := w.heap.size) ⟨k0, k1, k2, k3, k4, k5⟩; obtain ⟨y0, y1, y2, y3, y4, y5⟩ := Tp.k6 hb2 (b := w.heap.size + 1) ⟨m0, m1, m2, m3, m4, m5⟩; have fz2 := Tp.keepF hb2 (b := w.heap.size + 1) (by first | omega | (simp; omega)) (by first | exact fz1 | simpa using fz1); have HB2 := Lib.hid (HB1.out.trans (hb2.mono HB1.out.size)); clear hb2 hat))
   go_wp2
   refine bodyPost_ret (v := .agg #[.int .i64 5, .string n, .bool f, .string (Ts.low c), .string ⟨#[]⟩, .int .i64 0]) (by simp [results, Tryz.results121, go_sem, *]) rfl ⟨Rs.agg (X := (⟨5, n, f, (Ts.low c), Ts.e, 0⟩ : Ts)) HR.out.symm, ?_⟩
   repeat (refine Below.setCell ?_ (by simp) _)
   exact HB2.out
  have HR : Hid ((⟨4, n, f, Ts.e, Ts.e, 0⟩ : Ts).step c = (⟨5, n, f, (Ts.low c), Ts.e, 0⟩ : Ts)) := (by unfold Hid; show Ts.beforeAttr ((⟨4, n, f, Ts.e, Ts.e, 0⟩ : Ts).to 4) c = _; unfold Ts.beforeAttr; rw [if_neg (by rw [hB]; decide), if_neg h47, if_neg h62]; rfl)
  have t62 := Tp.n62 h62
  have t47 := Tp.n47 h47
  have hbl := fun u => Rs.bl hB u
  have t61 := Tp.n61 h61
  clear h61
  have hwi := fun u => Rs.withS ⟨#[]⟩ c u (by decide)
  rw [Rs.emptyLow] at hwi
  have hat := fun u => Rs.attr 5 (⟨4, n, f, Ts.e, Ts.e, 0⟩ : Ts) (Ts.low c) u
  have zl := Tp.low_size c
  clear h62 h47 hB
  go_enter Tryz.func121, Tryz.ntmps121
  go_wp2_with (first | (go_at_call 144; refine (hbl _).mono ?_; rintro e w' ⟨rfl, rfl⟩) | (go_at_call 142; refine (hwi _).mono ?_; rintro e w' ⟨rfl, rfl⟩) | (go_at_call 140; refine (hat _).mono ?_; rintro e w' ⟨rfl, rfl⟩))
  obtain ⟨W, hW⟩ : ∃ W, (w.alloc (.cells #[.int .i64 4, .string n, .bool f, .string ⟨#[]⟩, .string ⟨#[]⟩, .int .i64 0] 76)).alloc (.cells #[.int .i64 0, .string ⟨#[]⟩, .bool false, .string ⟨#[]⟩, .string ⟨#[]⟩, .int .i64 0] 76) = W := ⟨_, rfl⟩
  have HB : Hid (Below w.heap.size w W) := Lib.hid (by rw [← hW]; exact ((Below.refl _ _).alloc (Nat.le_refl _) _).alloc (by simp) _)
  have c0 : W.cell? ⟨w.heap.size, 0, none⟩ = some (.int .i64 4) := by rw [← hW]; simp
  have c1 : W.cell? ⟨w.heap.size, 1, none⟩ = some (.string n) := by rw [← hW]; simp
  have c2 : W.cell? ⟨w.heap.size, 2, none⟩ = some (.bool f) := by rw [← hW]; simp
  have c3 : W.cell? ⟨w.heap.size, 3, none⟩ = some (.string ⟨#[]⟩) := by rw [← hW]; simp
  have c4 : W.cell? ⟨w.heap.size, 4, none⟩ = some (.string ⟨#[]⟩) := by rw [← hW]; simp
  have c5 : W.cell? ⟨w.heap.size, 5, none⟩ = some (.int .i64 0) := by rw [← hW]; simp
  have d0 : W.cell? ⟨w.heap.size + 1, 0, none⟩ = some (.int .i64 0) := by rw [← hW]; simp
  have d1 : W.cell? ⟨w.heap.size + 1, 1, none⟩ = some (.string ⟨#[]⟩) := by rw [← hW]; simp
  have d2 : W.cell? ⟨w.heap.size + 1, 2, none⟩ = some (.bool false) := by rw [← hW]; simp
  have d3 : W.cell? ⟨w.heap.size + 1, 3, none⟩ = some (.string ⟨#[]⟩) := by rw [← hW]; simp
  have d4 : W.cell? ⟨w.heap.size + 1, 4, none⟩ = some (.string ⟨#[]⟩) := by rw [← hW]; simp
  have d5 : W.cell? ⟨w.heap.size + 1, 5, none⟩ = some (.int .i64 0) := by rw [← hW]; simp
  have fz : ∀ i, W.frozen? ⟨w.heap.size + 1, i, none⟩ = false := fun i => by rw [← hW]; simp
  have hzz : w.heap.size + 1 < W.heap.size := by rw [← hW]; simp
  rw [hW]
  clear hW
  go_region_held (fun u => u.cell? ⟨w.heap.size, 0, none⟩ = some (.int .i64 4) ∧ u.cell? ⟨w.heap.size, 1, none⟩ = some (.string n) ∧ u.cell? ⟨w.heap.size, 2, none⟩ = some (.bool f) ∧ u.cell? ⟨w.heap.size, 3, none⟩ = some (.string ⟨#[]⟩) ∧ u.cell? ⟨w.heap.size, 4, none⟩ = some (.string ⟨#[]⟩) ∧ u.cell? ⟨w.heap.size, 5, none⟩ = some (.int .i64 0)) (go_keep) (first | (go_at_call 142; refine (hwi _).mono ?_; rintro e w1 ⟨rfl, hw1⟩; have hb1 := Rs.bel1 (u := W.drew) (o := .cells #[.int .u8 (Pl.lowB c).toNat] 5) (by first | exact Or.inl hw1 | exact Or.inr hw1); clear hw1; obtain ⟨k0, k1, k2, k3, k4, k5⟩ := Tp.k6 hb1 (b := w.heap.size) ⟨c0, c1, c2, c3, c4, c5⟩; obtain ⟨m0, m1, m2, m3, m4, m5⟩ := Tp.k6 hb1 (b := w.heap.size + 1) ⟨d0, d1, d2, d3, d4, d5⟩; have fz1 := Tp.keepF hb1 (b := w.heap.size + 1) (by first | omega | (simp; omega)) (by first | exact fz | simpa using fz); have hz1 : w.heap.size + 1 < w1.heap.size := Nat.lt_of_lt_of_le hzz hb1.size; have HB1 := Lib.hid ((Rs.drewB HB.out).trans (hb1.mono (by first | exact HB.out.size | (simp; exact HB.out.size)))); clear hb1 hwi) | (go_at_call 140; refine (hat _).mono ?_; rintro e w2 ⟨rfl, hw2⟩; have hb2 := Rs.bel2 hw2; clear hw2; obtain ⟨x0, x1, x2, x3, x4, x5⟩ := Tp.k6 hb2 (b := w.heap.size) ⟨k0, k1, k2, k3, k4, k5⟩; obtain ⟨y0, y1, y2, y3, y4, y5⟩ := Tp.k6 hb2 (b := w.heap.size + 1) ⟨m0, m1, m2, m3, m4, m5⟩; have fz2 := Tp.keepF hb2 (b := w.heap.size + 1) (by first | omega | (simp; omega)) (by first | exact fz1 | simpa using fz1); have HB2 := Lib.hid (HB1.out.trans (hb2.mono HB1.out.size)); clear hb2 hat))
  go_wp2
  refine bodyPost_ret (v := .agg #[.int .i64 5, .string n, .bool f, .string (Ts.low c), .string ⟨#[]⟩, .int .i64 0]) (by simp [results, Tryz.results121, go_sem, *]) rfl ⟨Rs.agg (X := (⟨5, n, f, (Ts.low c), Ts.e, 0⟩ : Ts)) HR.out.symm, ?_⟩
  repeat (refine Below.setCell ?_ (by simp) _)
  exact HB2.out
set_option maxRecDepth 100000 in
set_option maxHeartbeats 2000000 in
theorem Rs.names_5 (n : ByteArray) (f : Bool) (a : ByteArray) (c : UInt8) (w : World) (ha : a.size ≤ 32) : Calls Tryz.prog 121 #[.agg #[.int .i64 5, .string n, .bool f, .string a, .string ⟨#[]⟩, .int .i64 0], .int .u8 c.toNat] w fun e w' => e = .returned (.agg #[.int .i64 ((⟨5, n, f, a, Ts.e, 0⟩ : Ts).step c).pl, .string ((⟨5, n, f, a, Ts.e, 0⟩ : Ts).step c).name, .bool ((⟨5, n, f, a, Ts.e, 0⟩ : Ts).step c).fin, .string ((⟨5, n, f, a, Ts.e, 0⟩ : Ts).step c).attr, .string ((⟨5, n, f, a, Ts.e, 0⟩ : Ts).step c).held, .int .i64 ((⟨5, n, f, a, Ts.e, 0⟩ : Ts).step c).read]) ∧ Below w.heap.size w w' := by
 by_cases h62 : c = 62
 ·
  have hB := Rs.nb h62 (by decide)
  have h47 : ¬ c = 47 := by rw [h62]; decide
  have HR : Hid ((⟨5, n, f, a, Ts.e, 0⟩ : Ts).step c = (⟨5, n, f, a, Ts.e, 0⟩ : Ts).closed) := (by unfold Hid; show Ts.attrName ((⟨5, n, f, a, Ts.e, 0⟩ : Ts).to 5) c = _; unfold Ts.attrName; rw [if_neg (by rw [hB]; decide), if_neg h47, if_pos h62]; rfl)
  have hbl := fun u => Rs.bl hB u
  have t47 := Tp.n47 h47
  have t62 := Tp.y62 h62
  have hcl := fun u => Rs.closed (⟨5, n, f, a, Ts.e, 0⟩ : Ts) u
  clear hB h47 h62
  generalize (⟨5, n, f, a, Ts.e, 0⟩ : Ts).closed = Z at *
  go_enter Tryz.func121, Tryz.ntmps121
  go_wp2_with (first | (go_at_call 144; refine (hbl _).mono ?_; rintro e w' ⟨rfl, rfl⟩) | (go_at_call 143; refine (hcl _).mono ?_; rintro e w' ⟨rfl, rfl⟩))
  refine bodyPost_ret (v := Ts.v Z) (by simp [results, Tryz.results121, go_sem, Ts.v]) rfl ⟨Rs.agg (X := Z) HR.out.symm, ?_⟩
  repeat' first | exact Below.refl _ _ | refine Below.drew ?_ | refine Below.alloc ?_ (by first | (simp; done) | (simp; omega) | omega) _
 by_cases h47 : c = 47
 ·
  have hB := Rs.nb h47 (by decide)
  have HR : Hid ((⟨5, n, f, a, Ts.e, 0⟩ : Ts).step c = (⟨12, n, f, Ts.e, Ts.e, 0⟩ : Ts)) := (by unfold Hid; show Ts.attrName ((⟨5, n, f, a, Ts.e, 0⟩ : Ts).to 5) c = _; unfold Ts.attrName; rw [if_neg (by rw [hB]; decide), if_pos h47]; rfl)
  have t62 := Tp.n62 h62
  have hbl := fun u => Rs.bl hB u
  have t47 := Tp.y47 h47
  have htg := fun u => Rs.tag 12 (⟨5, n, f, a, Ts.e, 0⟩ : Ts) u
  clear h62 hB h47
  go_enter Tryz.func121, Tryz.ntmps121
  go_wp2_with (first | (go_at_call 144; refine (hbl _).mono ?_; rintro e w' ⟨rfl, rfl⟩) | (go_at_call 141; refine (htg _).mono ?_; rintro e w' ⟨rfl, rfl⟩))
  refine bodyPost_ret (v := .agg #[.int .i64 12, .string n, .bool f, .string ⟨#[]⟩, .string ⟨#[]⟩, .int .i64 0]) (by simp [results, Tryz.results121, go_sem]) rfl ⟨Rs.agg (X := (⟨12, n, f, Ts.e, Ts.e, 0⟩ : Ts)) HR.out.symm, ?_⟩
  repeat' first | exact Below.refl _ _ | refine Below.drew ?_ | refine Below.alloc ?_ (by first | (simp; done) | (simp; omega) | omega) _
 cases hB : Ts.blank c with
 | true =>
  have HR : Hid ((⟨5, n, f, a, Ts.e, 0⟩ : Ts).step c = (⟨6, n, f, a, Ts.e, 0⟩ : Ts)) := (by unfold Hid; show Ts.attrName ((⟨5, n, f, a, Ts.e, 0⟩ : Ts).to 5) c = _; unfold Ts.attrName; rw [if_pos hB]; rfl)
  have t62 := Tp.n62 h62
  have t47 := Tp.n47 h47
  have hbl := fun u => Rs.bl hB u
  have hat := fun u => Rs.attr 6 (⟨5, n, f, a, Ts.e, 0⟩ : Ts) a u
  clear h62 h47 hB
  go_enter Tryz.func121, Tryz.ntmps121
  go_wp2_with (first | (go_at_call 144; refine (hbl _).mono ?_; rintro e w' ⟨rfl, rfl⟩) | (go_at_call 140; refine (hat _).mono ?_; rintro e w' ⟨rfl, rfl⟩))
  refine bodyPost_ret (v := .agg #[.int .i64 6, .string n, .bool f, .string a, .string ⟨#[]⟩, .int .i64 0]) (by simp [results, Tryz.results121, go_sem]) rfl ⟨Rs.agg (X := (⟨6, n, f, a, Ts.e, 0⟩ : Ts)) HR.out.symm, ?_⟩
  repeat' first | exact Below.refl _ _ | refine Below.drew ?_ | refine Below.alloc ?_ (by first | (simp; done) | (simp; omega) | omega) _
 | false =>
  by_cases h61 : c = 61
  ·
   have HR : Hid ((⟨5, n, f, a, Ts.e, 0⟩ : Ts).step c = (⟨7, n, f, a, Ts.e, 0⟩ : Ts)) := (by unfold Hid; show Ts.attrName ((⟨5, n, f, a, Ts.e, 0⟩ : Ts).to 5) c = _; unfold Ts.attrName; rw [if_neg (by rw [hB]; decide), if_neg h47, if_neg h62, if_pos h61]; rfl)
   have t62 := Tp.n62 h62
   have t47 := Tp.n47 h47
   have hbl := fun u => Rs.bl hB u
   have t61 := Tp.y61 h61
   have hat := fun u => Rs.attr 7 (⟨5, n, f, a, Ts.e, 0⟩ : Ts) a u
   clear h62 h47 hB h61
   go_enter Tryz.func121, Tryz.ntmps121
   go_wp2_with (first | (go_at_call 144; refine (hbl _).mono ?_; rintro e w' ⟨rfl, rfl⟩) | (go_at_call 140; refine (hat _).mono ?_; rintro e w' ⟨rfl, rfl⟩))
   refine bodyPost_ret (v := .agg #[.int .i64 7, .string n, .bool f, .string a, .string ⟨#[]⟩, .int .i64 0]) (by simp [results, Tryz.results121, go_sem]) rfl ⟨Rs.agg (X := (⟨7, n, f, a, Ts.e, 0⟩ : Ts)) HR.out.symm, ?_⟩
   repeat' first | exact Below.refl _ _ | refine Below.drew ?_ | refine Below.alloc ?_ (by first | (simp; done) | (simp; omega) | omega) _
  by_cases hz : a.size < 32
  ·
   have HR : Hid ((⟨5, n, f, a, Ts.e, 0⟩ : Ts).step c = (⟨5, n, f, (a ++ Ts.low c), Ts.e, 0⟩ : Ts)) := (by unfold Hid; show Ts.attrName ((⟨5, n, f, a, Ts.e, 0⟩ : Ts).to 5) c = _; unfold Ts.attrName; rw [if_neg (by rw [hB]; decide), if_neg h47, if_neg h62, if_neg h61]; show (⟨5, n, f, Ts.grown a c, Ts.e, 0⟩ : Ts) = _; rw [Rs.grownS a c hz])
   have t62 := Tp.n62 h62
   have t47 := Tp.n47 h47
   have hbl := fun u => Rs.bl hB u
   have t61 := Tp.n61 h61
   have hwi := fun u => Rs.withS a c u hz
   have hat := fun u => Rs.attr 5 (⟨5, n, f, a, Ts.e, 0⟩ : Ts) (a ++ Ts.low c) u
   have zl := Tp.low_size c
   clear hz
   clear h62 h47 hB h61
   go_enter Tryz.func121, Tryz.ntmps121
   go_wp2_with (first | (go_at_call 144; refine (hbl _).mono ?_; rintro e w' ⟨rfl, rfl⟩) | (go_at_call 142; refine (hwi _).mono ?_; rintro e w' ⟨rfl, rfl⟩) | (go_at_call 140; refine (hat _).mono ?_; rintro e w' ⟨rfl, rfl⟩))
   obtain ⟨W, hW⟩ : ∃ W, (w.alloc (.cells #[.int .i64 5, .string n, .bool f, .string a, .string ⟨#[]⟩, .int .i64 0] 76)).alloc (.cells #[.int .i64 0, .string ⟨#[]⟩, .bool false, .string ⟨#[]⟩, .string ⟨#[]⟩, .int .i64 0] 76) = W := ⟨_, rfl⟩
   have HB : Hid (Below w.heap.size w W) := Lib.hid (by rw [← hW]; exact ((Below.refl _ _).alloc (Nat.le_refl _) _).alloc (by simp) _)
   have c0 : W.cell? ⟨w.heap.size, 0, none⟩ = some (.int .i64 5) := by rw [← hW]; simp
   have c1 : W.cell? ⟨w.heap.size, 1, none⟩ = some (.string n) := by rw [← hW]; simp
   have c2 : W.cell? ⟨w.heap.size, 2, none⟩ = some (.bool f) := by rw [← hW]; simp
   have c3 : W.cell? ⟨w.heap.size, 3, none⟩ = some (.string a) := by rw [← hW]; simp
   have c4 : W.cell? ⟨w.heap.size, 4, none⟩ = some (.string ⟨#[]⟩) := by rw [← hW]; simp
   have c5 : W.cell? ⟨w.heap.size, 5, none⟩ = some (.int .i64 0) := by rw [← hW]; simp
   have d0 : W.cell? ⟨w.heap.size + 1, 0, none⟩ = some (.int .i64 0) := by rw [← hW]; simp
   have d1 : W.cell? ⟨w.heap.size + 1, 1, none⟩ = some (.string ⟨#[]⟩) := by rw [← hW]; simp
   have d2 : W.cell? ⟨w.heap.size + 1, 2, none⟩ = some (.bool false) := by rw [← hW]; simp
   have d3 : W.cell? ⟨w.heap.size + 1, 3, none⟩ = some (.string ⟨#[]⟩) := by rw [← hW]; simp
   have d4 : W.cell? ⟨w.heap.size + 1, 4, none⟩ = some (.string ⟨#[]⟩) := by rw [← hW]; simp
   have d5 : W.cell? ⟨w.heap.size + 1, 5, none⟩ = some (.int .i64 0) := by rw [← hW]; simp
   have fz : ∀ i, W.frozen? ⟨w.heap.size + 1, i, none⟩ = false := fun i => by rw [← hW]; simp
   have hzz : w.heap.size + 1 < W.heap.size := by rw [← hW]; simp
   rw [hW]
   clear hW
   go_region_held (fun u => u.cell? ⟨w.heap.size, 0, none⟩ = some (.int .i64 5) ∧ u.cell? ⟨w.heap.size, 1, none⟩ = some (.string n) ∧ u.cell? ⟨w.heap.size, 2, none⟩ = some (.bool f) ∧ u.cell? ⟨w.heap.size, 3, none⟩ = some (.string a) ∧ u.cell? ⟨w.heap.size, 4, none⟩ = some (.string ⟨#[]⟩) ∧ u.cell? ⟨w.heap.size, 5, none⟩ = some (.int .i64 0)) (go_keep) (first | (go_at_call 142; refine (hwi _).mono ?_; rintro e w1 ⟨rfl, hw1⟩; have hb1 := Rs.bel1 (u := W.drew) (o := .cells #[.int .u8 (Pl.lowB c).toNat] 5) (by first | exact Or.inl hw1 | exact Or.inr hw1); clear hw1; obtain ⟨k0, k1, k2, k3, k4, k5⟩ := Tp.k6 hb1 (b := w.heap.size) ⟨c0, c1, c2, c3, c4, c5⟩; obtain ⟨m0, m1, m2, m3, m4, m5⟩ := Tp.k6 hb1 (b := w.heap.size + 1) ⟨d0, d1, d2, d3, d4, d5⟩; have fz1 := Tp.keepF hb1 (b := w.heap.size + 1) (by first | omega | (simp; omega)) (by first | exact fz | simpa using fz); have hz1 : w.heap.size + 1 < w1.heap.size := Nat.lt_of_lt_of_le hzz hb1.size; have HB1 := Lib.hid ((Rs.drewB HB.out).trans (hb1.mono (by first | exact HB.out.size | (simp; exact HB.out.size)))); clear hb1 hwi) | (go_at_call 140; refine (hat _).mono ?_; rintro e w2 ⟨rfl, hw2⟩; have hb2 := Rs.bel2 hw2; clear hw2; obtain ⟨x0, x1, x2, x3, x4, x5⟩ := Tp.k6 hb2 (b := w.heap.size) ⟨k0, k1, k2, k3, k4, k5⟩; obtain ⟨y0, y1, y2, y3, y4, y5⟩ := Tp.k6 hb2 (b := w.heap.size + 1) ⟨m0, m1, m2, m3, m4, m5⟩; have fz2 := Tp.keepF hb2 (b := w.heap.size + 1) (by first | omega | (simp; omega)) (by first | exact fz1 | simpa using fz1); have HB2 := Lib.hid (HB1.out.trans (hb2.mono HB1.out.size)); clear hb2 hat))
   go_wp2
   refine bodyPost_ret (v := .agg #[.int .i64 5, .string n, .bool f, .string (a ++ Ts.low c), .string ⟨#[]⟩, .int .i64 0]) (by simp [results, Tryz.results121, go_sem, *]) rfl ⟨Rs.agg (X := (⟨5, n, f, (a ++ Ts.low c), Ts.e, 0⟩ : Ts)) HR.out.symm, ?_⟩
   repeat (refine Below.setCell ?_ (by simp) _)
   exact HB2.out
  have hz : a.size = 32 := by omega
  have HR : Hid ((⟨5, n, f, a, Ts.e, 0⟩ : Ts).step c = (⟨5, n, f, a, Ts.e, 0⟩ : Ts)) := (by unfold Hid; show Ts.attrName ((⟨5, n, f, a, Ts.e, 0⟩ : Ts).to 5) c = _; unfold Ts.attrName; rw [if_neg (by rw [hB]; decide), if_neg h47, if_neg h62, if_neg h61]; show (⟨5, n, f, Ts.grown a c, Ts.e, 0⟩ : Ts) = _; rw [Rs.grownL a c hz])
  have t62 := Tp.n62 h62
  have t47 := Tp.n47 h47
  have hbl := fun u => Rs.bl hB u
  have t61 := Tp.n61 h61
  have hwi := fun u => Rs.withL a c u hz
  have hat := fun u => Rs.attr 5 (⟨5, n, f, a, Ts.e, 0⟩ : Ts) a u
  clear hz
  clear h62 h47 hB h61
  go_enter Tryz.func121, Tryz.ntmps121
  go_wp2_with (first | (go_at_call 144; refine (hbl _).mono ?_; rintro e w' ⟨rfl, rfl⟩) | (go_at_call 142; refine (hwi _).mono ?_; rintro e w' ⟨rfl, rfl⟩) | (go_at_call 140; refine (hat _).mono ?_; rintro e w' ⟨rfl, rfl⟩))
  obtain ⟨W, hW⟩ : ∃ W, (w.alloc (.cells #[.int .i64 5, .string n, .bool f, .string a, .string ⟨#[]⟩, .int .i64 0] 76)).alloc (.cells #[.int .i64 0, .string ⟨#[]⟩, .bool false, .string ⟨#[]⟩, .string ⟨#[]⟩, .int .i64 0] 76) = W := ⟨_, rfl⟩
  have HB : Hid (Below w.heap.size w W) := Lib.hid (by rw [← hW]; exact ((Below.refl _ _).alloc (Nat.le_refl _) _).alloc (by simp) _)
  have c0 : W.cell? ⟨w.heap.size, 0, none⟩ = some (.int .i64 5) := by rw [← hW]; simp
  have c1 : W.cell? ⟨w.heap.size, 1, none⟩ = some (.string n) := by rw [← hW]; simp
  have c2 : W.cell? ⟨w.heap.size, 2, none⟩ = some (.bool f) := by rw [← hW]; simp
  have c3 : W.cell? ⟨w.heap.size, 3, none⟩ = some (.string a) := by rw [← hW]; simp
  have c4 : W.cell? ⟨w.heap.size, 4, none⟩ = some (.string ⟨#[]⟩) := by rw [← hW]; simp
  have c5 : W.cell? ⟨w.heap.size, 5, none⟩ = some (.int .i64 0) := by rw [← hW]; simp
  have d0 : W.cell? ⟨w.heap.size + 1, 0, none⟩ = some (.int .i64 0) := by rw [← hW]; simp
  have d1 : W.cell? ⟨w.heap.size + 1, 1, none⟩ = some (.string ⟨#[]⟩) := by rw [← hW]; simp
  have d2 : W.cell? ⟨w.heap.size + 1, 2, none⟩ = some (.bool false) := by rw [← hW]; simp
  have d3 : W.cell? ⟨w.heap.size + 1, 3, none⟩ = some (.string ⟨#[]⟩) := by rw [← hW]; simp
  have d4 : W.cell? ⟨w.heap.size + 1, 4, none⟩ = some (.string ⟨#[]⟩) := by rw [← hW]; simp
  have d5 : W.cell? ⟨w.heap.size + 1, 5, none⟩ = some (.int .i64 0) := by rw [← hW]; simp
  have fz : ∀ i, W.frozen? ⟨w.heap.size + 1, i, none⟩ = false := fun i => by rw [← hW]; simp
  have hzz : w.heap.size + 1 < W.heap.size := by rw [← hW]; simp
  rw [hW]
  clear hW
  go_region_held (fun u => u.cell? ⟨w.heap.size, 0, none⟩ = some (.int .i64 5) ∧ u.cell? ⟨w.heap.size, 1, none⟩ = some (.string n) ∧ u.cell? ⟨w.heap.size, 2, none⟩ = some (.bool f) ∧ u.cell? ⟨w.heap.size, 3, none⟩ = some (.string a) ∧ u.cell? ⟨w.heap.size, 4, none⟩ = some (.string ⟨#[]⟩) ∧ u.cell? ⟨w.heap.size, 5, none⟩ = some (.int .i64 0)) (go_keep) (first | (go_at_call 142; refine (hwi _).mono ?_; rintro e w1 ⟨rfl, hw1⟩; have hb1 := Rs.bel1 (u := W.drew) (o := .cells #[.int .u8 (Pl.lowB c).toNat] 5) (by first | exact Or.inl hw1 | exact Or.inr hw1); clear hw1; obtain ⟨k0, k1, k2, k3, k4, k5⟩ := Tp.k6 hb1 (b := w.heap.size) ⟨c0, c1, c2, c3, c4, c5⟩; obtain ⟨m0, m1, m2, m3, m4, m5⟩ := Tp.k6 hb1 (b := w.heap.size + 1) ⟨d0, d1, d2, d3, d4, d5⟩; have fz1 := Tp.keepF hb1 (b := w.heap.size + 1) (by first | omega | (simp; omega)) (by first | exact fz | simpa using fz); have hz1 : w.heap.size + 1 < w1.heap.size := Nat.lt_of_lt_of_le hzz hb1.size; have HB1 := Lib.hid ((Rs.drewB HB.out).trans (hb1.mono (by first | exact HB.out.size | (simp; exact HB.out.size)))); clear hb1 hwi) | (go_at_call 140; refine (hat _).mono ?_; rintro e w2 ⟨rfl, hw2⟩; have hb2 := Rs.bel2 hw2; clear hw2; obtain ⟨x0, x1, x2, x3, x4, x5⟩ := Tp.k6 hb2 (b := w.heap.size) ⟨k0, k1, k2, k3, k4, k5⟩; obtain ⟨y0, y1, y2, y3, y4, y5⟩ := Tp.k6 hb2 (b := w.heap.size + 1) ⟨m0, m1, m2, m3, m4, m5⟩; have fz2 := Tp.keepF hb2 (b := w.heap.size + 1) (by first | omega | (simp; omega)) (by first | exact fz1 | simpa using fz1); have HB2 := Lib.hid (HB1.out.trans (hb2.mono HB1.out.size)); clear hb2 hat))
  go_wp2
  refine bodyPost_ret (v := .agg #[.int .i64 5, .string n, .bool f, .string a, .string ⟨#[]⟩, .int .i64 0]) (by simp [results, Tryz.results121, go_sem, *]) rfl ⟨Rs.agg (X := (⟨5, n, f, a, Ts.e, 0⟩ : Ts)) HR.out.symm, ?_⟩
  repeat (refine Below.setCell ?_ (by simp) _)
  exact HB2.out
set_option maxRecDepth 100000 in
set_option maxHeartbeats 2000000 in
theorem Rs.names_6 (n : ByteArray) (f : Bool) (a : ByteArray) (c : UInt8) (w : World) : Calls Tryz.prog 121 #[.agg #[.int .i64 6, .string n, .bool f, .string a, .string ⟨#[]⟩, .int .i64 0], .int .u8 c.toNat] w fun e w' => e = .returned (.agg #[.int .i64 ((⟨6, n, f, a, Ts.e, 0⟩ : Ts).step c).pl, .string ((⟨6, n, f, a, Ts.e, 0⟩ : Ts).step c).name, .bool ((⟨6, n, f, a, Ts.e, 0⟩ : Ts).step c).fin, .string ((⟨6, n, f, a, Ts.e, 0⟩ : Ts).step c).attr, .string ((⟨6, n, f, a, Ts.e, 0⟩ : Ts).step c).held, .int .i64 ((⟨6, n, f, a, Ts.e, 0⟩ : Ts).step c).read]) ∧ Below w.heap.size w w' := by
 by_cases h62 : c = 62
 ·
  have hB := Rs.nb h62 (by decide)
  have h47 : ¬ c = 47 := by rw [h62]; decide
  have HR : Hid ((⟨6, n, f, a, Ts.e, 0⟩ : Ts).step c = (⟨6, n, f, a, Ts.e, 0⟩ : Ts).closed) := (by unfold Hid; show Ts.afterName ((⟨6, n, f, a, Ts.e, 0⟩ : Ts).to 6) c = _; unfold Ts.afterName; rw [if_neg (by rw [hB]; decide), if_neg h47, if_pos h62]; rfl)
  have hbl := fun u => Rs.bl hB u
  have t47 := Tp.n47 h47
  have t62 := Tp.y62 h62
  have hcl := fun u => Rs.closed (⟨6, n, f, a, Ts.e, 0⟩ : Ts) u
  clear hB h47 h62
  generalize (⟨6, n, f, a, Ts.e, 0⟩ : Ts).closed = Z at *
  go_enter Tryz.func121, Tryz.ntmps121
  go_wp2_with (first | (go_at_call 144; refine (hbl _).mono ?_; rintro e w' ⟨rfl, rfl⟩) | (go_at_call 143; refine (hcl _).mono ?_; rintro e w' ⟨rfl, rfl⟩))
  refine bodyPost_ret (v := Ts.v Z) (by simp [results, Tryz.results121, go_sem, Ts.v]) rfl ⟨Rs.agg (X := Z) HR.out.symm, ?_⟩
  repeat' first | exact Below.refl _ _ | refine Below.drew ?_ | refine Below.alloc ?_ (by first | (simp; done) | (simp; omega) | omega) _
 by_cases h47 : c = 47
 ·
  have hB := Rs.nb h47 (by decide)
  have HR : Hid ((⟨6, n, f, a, Ts.e, 0⟩ : Ts).step c = (⟨12, n, f, Ts.e, Ts.e, 0⟩ : Ts)) := (by unfold Hid; show Ts.afterName ((⟨6, n, f, a, Ts.e, 0⟩ : Ts).to 6) c = _; unfold Ts.afterName; rw [if_neg (by rw [hB]; decide), if_pos h47]; rfl)
  have t62 := Tp.n62 h62
  have hbl := fun u => Rs.bl hB u
  have t47 := Tp.y47 h47
  have htg := fun u => Rs.tag 12 (⟨6, n, f, a, Ts.e, 0⟩ : Ts) u
  clear h62 hB h47
  go_enter Tryz.func121, Tryz.ntmps121
  go_wp2_with (first | (go_at_call 144; refine (hbl _).mono ?_; rintro e w' ⟨rfl, rfl⟩) | (go_at_call 141; refine (htg _).mono ?_; rintro e w' ⟨rfl, rfl⟩))
  refine bodyPost_ret (v := .agg #[.int .i64 12, .string n, .bool f, .string ⟨#[]⟩, .string ⟨#[]⟩, .int .i64 0]) (by simp [results, Tryz.results121, go_sem]) rfl ⟨Rs.agg (X := (⟨12, n, f, Ts.e, Ts.e, 0⟩ : Ts)) HR.out.symm, ?_⟩
  repeat' first | exact Below.refl _ _ | refine Below.drew ?_ | refine Below.alloc ?_ (by first | (simp; done) | (simp; omega) | omega) _
 cases hB : Ts.blank c with
 | true =>
  have HR : Hid ((⟨6, n, f, a, Ts.e, 0⟩ : Ts).step c = (⟨6, n, f, a, Ts.e, 0⟩ : Ts)) := (by unfold Hid; show Ts.afterName ((⟨6, n, f, a, Ts.e, 0⟩ : Ts).to 6) c = _; unfold Ts.afterName; rw [if_pos hB]; rfl)
  have t62 := Tp.n62 h62
  have t47 := Tp.n47 h47
  have hbl := fun u => Rs.bl hB u
  have hat := fun u => Rs.attr 6 (⟨6, n, f, a, Ts.e, 0⟩ : Ts) a u
  clear h62 h47 hB
  go_enter Tryz.func121, Tryz.ntmps121
  go_wp2_with (first | (go_at_call 144; refine (hbl _).mono ?_; rintro e w' ⟨rfl, rfl⟩) | (go_at_call 140; refine (hat _).mono ?_; rintro e w' ⟨rfl, rfl⟩))
  refine bodyPost_ret (v := .agg #[.int .i64 6, .string n, .bool f, .string a, .string ⟨#[]⟩, .int .i64 0]) (by simp [results, Tryz.results121, go_sem]) rfl ⟨Rs.agg (X := (⟨6, n, f, a, Ts.e, 0⟩ : Ts)) HR.out.symm, ?_⟩
  repeat' first | exact Below.refl _ _ | refine Below.drew ?_ | refine Below.alloc ?_ (by first | (simp; done) | (simp; omega) | omega) _
 | false =>
  by_cases h61 : c = 61
  ·
   have HR : Hid ((⟨6, n, f, a, Ts.e, 0⟩ : Ts).step c = (⟨7, n, f, a, Ts.e, 0⟩ : Ts)) := (by unfold Hid; show Ts.afterName ((⟨6, n, f, a, Ts.e, 0⟩ : Ts).to 6) c = _; unfold Ts.afterName; rw [if_neg (by rw [hB]; decide), if_neg h47, if_neg h62, if_pos h61]; rfl)
   have t62 := Tp.n62 h62
   have t47 := Tp.n47 h47
   have hbl := fun u => Rs.bl hB u
   have t61 := Tp.y61 h61
   have hat := fun u => Rs.attr 7 (⟨6, n, f, a, Ts.e, 0⟩ : Ts) a u
   clear h62 h47 hB h61
   go_enter Tryz.func121, Tryz.ntmps121
   go_wp2_with (first | (go_at_call 144; refine (hbl _).mono ?_; rintro e w' ⟨rfl, rfl⟩) | (go_at_call 140; refine (hat _).mono ?_; rintro e w' ⟨rfl, rfl⟩))
   refine bodyPost_ret (v := .agg #[.int .i64 7, .string n, .bool f, .string a, .string ⟨#[]⟩, .int .i64 0]) (by simp [results, Tryz.results121, go_sem]) rfl ⟨Rs.agg (X := (⟨7, n, f, a, Ts.e, 0⟩ : Ts)) HR.out.symm, ?_⟩
   repeat' first | exact Below.refl _ _ | refine Below.drew ?_ | refine Below.alloc ?_ (by first | (simp; done) | (simp; omega) | omega) _
  have HR : Hid ((⟨6, n, f, a, Ts.e, 0⟩ : Ts).step c = (⟨5, n, f, (Ts.low c), Ts.e, 0⟩ : Ts)) := (by unfold Hid; show Ts.afterName ((⟨6, n, f, a, Ts.e, 0⟩ : Ts).to 6) c = _; unfold Ts.afterName; rw [if_neg (by rw [hB]; decide), if_neg h47, if_neg h62, if_neg h61]; rfl)
  have t62 := Tp.n62 h62
  have t47 := Tp.n47 h47
  have hbl := fun u => Rs.bl hB u
  have t61 := Tp.n61 h61
  have hwi := fun u => Rs.withS ⟨#[]⟩ c u (by decide)
  rw [Rs.emptyLow] at hwi
  have hat := fun u => Rs.attr 5 (⟨6, n, f, a, Ts.e, 0⟩ : Ts) (Ts.low c) u
  have zl := Tp.low_size c
  clear h62 h47 hB h61
  go_enter Tryz.func121, Tryz.ntmps121
  go_wp2_with (first | (go_at_call 144; refine (hbl _).mono ?_; rintro e w' ⟨rfl, rfl⟩) | (go_at_call 142; refine (hwi _).mono ?_; rintro e w' ⟨rfl, rfl⟩) | (go_at_call 140; refine (hat _).mono ?_; rintro e w' ⟨rfl, rfl⟩))
  obtain ⟨W, hW⟩ : ∃ W, (w.alloc (.cells #[.int .i64 6, .string n, .bool f, .string a, .string ⟨#[]⟩, .int .i64 0] 76)).alloc (.cells #[.int .i64 0, .string ⟨#[]⟩, .bool false, .string ⟨#[]⟩, .string ⟨#[]⟩, .int .i64 0] 76) = W := ⟨_, rfl⟩
  have HB : Hid (Below w.heap.size w W) := Lib.hid (by rw [← hW]; exact ((Below.refl _ _).alloc (Nat.le_refl _) _).alloc (by simp) _)
  have c0 : W.cell? ⟨w.heap.size, 0, none⟩ = some (.int .i64 6) := by rw [← hW]; simp
  have c1 : W.cell? ⟨w.heap.size, 1, none⟩ = some (.string n) := by rw [← hW]; simp
  have c2 : W.cell? ⟨w.heap.size, 2, none⟩ = some (.bool f) := by rw [← hW]; simp
  have c3 : W.cell? ⟨w.heap.size, 3, none⟩ = some (.string a) := by rw [← hW]; simp
  have c4 : W.cell? ⟨w.heap.size, 4, none⟩ = some (.string ⟨#[]⟩) := by rw [← hW]; simp
  have c5 : W.cell? ⟨w.heap.size, 5, none⟩ = some (.int .i64 0) := by rw [← hW]; simp
  have d0 : W.cell? ⟨w.heap.size + 1, 0, none⟩ = some (.int .i64 0) := by rw [← hW]; simp
  have d1 : W.cell? ⟨w.heap.size + 1, 1, none⟩ = some (.string ⟨#[]⟩) := by rw [← hW]; simp
  have d2 : W.cell? ⟨w.heap.size + 1, 2, none⟩ = some (.bool false) := by rw [← hW]; simp
  have d3 : W.cell? ⟨w.heap.size + 1, 3, none⟩ = some (.string ⟨#[]⟩) := by rw [← hW]; simp
  have d4 : W.cell? ⟨w.heap.size + 1, 4, none⟩ = some (.string ⟨#[]⟩) := by rw [← hW]; simp
  have d5 : W.cell? ⟨w.heap.size + 1, 5, none⟩ = some (.int .i64 0) := by rw [← hW]; simp
  have fz : ∀ i, W.frozen? ⟨w.heap.size + 1, i, none⟩ = false := fun i => by rw [← hW]; simp
  have hzz : w.heap.size + 1 < W.heap.size := by rw [← hW]; simp
  rw [hW]
  clear hW
  go_region_held (fun u => u.cell? ⟨w.heap.size, 0, none⟩ = some (.int .i64 6) ∧ u.cell? ⟨w.heap.size, 1, none⟩ = some (.string n) ∧ u.cell? ⟨w.heap.size, 2, none⟩ = some (.bool f) ∧ u.cell? ⟨w.heap.size, 3, none⟩ = some (.string a) ∧ u.cell? ⟨w.heap.size, 4, none⟩ = some (.string ⟨#[]⟩) ∧ u.cell? ⟨w.heap.size, 5, none⟩ = some (.int .i64 0)) (go_keep) (first | (go_at_call 142; refine (hwi _).mono ?_; rintro e w1 ⟨rfl, hw1⟩; have hb1 := Rs.bel1 (u := W.drew) (o := .cells #[.int .u8 (Pl.lowB c).toNat] 5) (by first | exact Or.inl hw1 | exact Or.inr hw1); clear hw1; obtain ⟨k0, k1, k2, k3, k4, k5⟩ := Tp.k6 hb1 (b := w.heap.size) ⟨c0, c1, c2, c3, c4, c5⟩; obtain ⟨m0, m1, m2, m3, m4, m5⟩ := Tp.k6 hb1 (b := w.heap.size + 1) ⟨d0, d1, d2, d3, d4, d5⟩; have fz1 := Tp.keepF hb1 (b := w.heap.size + 1) (by first | omega | (simp; omega)) (by first | exact fz | simpa using fz); have hz1 : w.heap.size + 1 < w1.heap.size := Nat.lt_of_lt_of_le hzz hb1.size; have HB1 := Lib.hid ((Rs.drewB HB.out).trans (hb1.mono (by first | exact HB.out.size | (simp; exact HB.out.size)))); clear hb1 hwi) | (go_at_call 140; refine (hat _).mono ?_; rintro e w2 ⟨rfl, hw2⟩; have hb2 := Rs.bel2 hw2; clear hw2; obtain ⟨x0, x1, x2, x3, x4, x5⟩ := Tp.k6 hb2 (b := w.heap.size) ⟨k0, k1, k2, k3, k4, k5⟩; obtain ⟨y0, y1, y2, y3, y4, y5⟩ := Tp.k6 hb2 (b := w.heap.size + 1) ⟨m0, m1, m2, m3, m4, m5⟩; have fz2 := Tp.keepF hb2 (b := w.heap.size + 1) (by first | omega | (simp; omega)) (by first | exact fz1 | simpa using fz1); have HB2 := Lib.hid (HB1.out.trans (hb2.mono HB1.out.size)); clear hb2 hat))
  go_wp2
  refine bodyPost_ret (v := .agg #[.int .i64 5, .string n, .bool f, .string (Ts.low c), .string ⟨#[]⟩, .int .i64 0]) (by simp [results, Tryz.results121, go_sem, *]) rfl ⟨Rs.agg (X := (⟨5, n, f, (Ts.low c), Ts.e, 0⟩ : Ts)) HR.out.symm, ?_⟩
  repeat (refine Below.setCell ?_ (by simp) _)
  exact HB2.out
set_option maxRecDepth 100000 in
set_option maxHeartbeats 2000000 in
theorem Rs.names_11 (n : ByteArray) (f : Bool) (c : UInt8) (w : World) : Calls Tryz.prog 121 #[.agg #[.int .i64 11, .string n, .bool f, .string ⟨#[]⟩, .string ⟨#[]⟩, .int .i64 0], .int .u8 c.toNat] w fun e w' => e = .returned (.agg #[.int .i64 ((⟨11, n, f, Ts.e, Ts.e, 0⟩ : Ts).step c).pl, .string ((⟨11, n, f, Ts.e, Ts.e, 0⟩ : Ts).step c).name, .bool ((⟨11, n, f, Ts.e, Ts.e, 0⟩ : Ts).step c).fin, .string ((⟨11, n, f, Ts.e, Ts.e, 0⟩ : Ts).step c).attr, .string ((⟨11, n, f, Ts.e, Ts.e, 0⟩ : Ts).step c).held, .int .i64 ((⟨11, n, f, Ts.e, Ts.e, 0⟩ : Ts).step c).read]) ∧ Below w.heap.size w w' := by
 by_cases h62 : c = 62
 ·
  have hB := Rs.nb h62 (by decide)
  have h47 : ¬ c = 47 := by rw [h62]; decide
  have HR : Hid ((⟨11, n, f, Ts.e, Ts.e, 0⟩ : Ts).step c = (⟨11, n, f, Ts.e, Ts.e, 0⟩ : Ts).closed) := (by unfold Hid; show Ts.afterValue ((⟨11, n, f, Ts.e, Ts.e, 0⟩ : Ts).to 11) c = _; unfold Ts.afterValue; rw [if_neg (by rw [hB]; decide), if_neg h47, if_pos h62]; rfl)
  have hbl := fun u => Rs.bl hB u
  have t47 := Tp.n47 h47
  have t62 := Tp.y62 h62
  have hcl := fun u => Rs.closed (⟨11, n, f, Ts.e, Ts.e, 0⟩ : Ts) u
  clear hB h47 h62
  generalize (⟨11, n, f, Ts.e, Ts.e, 0⟩ : Ts).closed = Z at *
  go_enter Tryz.func121, Tryz.ntmps121
  go_wp2_with (first | (go_at_call 144; refine (hbl _).mono ?_; rintro e w' ⟨rfl, rfl⟩) | (go_at_call 143; refine (hcl _).mono ?_; rintro e w' ⟨rfl, rfl⟩))
  refine bodyPost_ret (v := Ts.v Z) (by simp [results, Tryz.results121, go_sem, Ts.v]) rfl ⟨Rs.agg (X := Z) HR.out.symm, ?_⟩
  repeat' first | exact Below.refl _ _ | refine Below.drew ?_ | refine Below.alloc ?_ (by first | (simp; done) | (simp; omega) | omega) _
 by_cases h47 : c = 47
 ·
  have hB := Rs.nb h47 (by decide)
  have HR : Hid ((⟨11, n, f, Ts.e, Ts.e, 0⟩ : Ts).step c = (⟨12, n, f, Ts.e, Ts.e, 0⟩ : Ts)) := (by unfold Hid; show Ts.afterValue ((⟨11, n, f, Ts.e, Ts.e, 0⟩ : Ts).to 11) c = _; unfold Ts.afterValue; rw [if_neg (by rw [hB]; decide), if_pos h47]; rfl)
  have t62 := Tp.n62 h62
  have hbl := fun u => Rs.bl hB u
  have t47 := Tp.y47 h47
  have htg := fun u => Rs.tag 12 (⟨11, n, f, Ts.e, Ts.e, 0⟩ : Ts) u
  clear h62 hB h47
  go_enter Tryz.func121, Tryz.ntmps121
  go_wp2_with (first | (go_at_call 144; refine (hbl _).mono ?_; rintro e w' ⟨rfl, rfl⟩) | (go_at_call 141; refine (htg _).mono ?_; rintro e w' ⟨rfl, rfl⟩))
  refine bodyPost_ret (v := .agg #[.int .i64 12, .string n, .bool f, .string ⟨#[]⟩, .string ⟨#[]⟩, .int .i64 0]) (by simp [results, Tryz.results121, go_sem]) rfl ⟨Rs.agg (X := (⟨12, n, f, Ts.e, Ts.e, 0⟩ : Ts)) HR.out.symm, ?_⟩
  repeat' first | exact Below.refl _ _ | refine Below.drew ?_ | refine Below.alloc ?_ (by first | (simp; done) | (simp; omega) | omega) _
 cases hB : Ts.blank c with
 | true =>
  have HR : Hid ((⟨11, n, f, Ts.e, Ts.e, 0⟩ : Ts).step c = (⟨4, n, f, Ts.e, Ts.e, 0⟩ : Ts)) := (by unfold Hid; show Ts.afterValue ((⟨11, n, f, Ts.e, Ts.e, 0⟩ : Ts).to 11) c = _; unfold Ts.afterValue; rw [if_pos hB]; rfl)
  have t62 := Tp.n62 h62
  have t47 := Tp.n47 h47
  have hbl := fun u => Rs.bl hB u
  have htg := fun u => Rs.tag 4 (⟨11, n, f, Ts.e, Ts.e, 0⟩ : Ts) u
  clear h62 h47 hB
  go_enter Tryz.func121, Tryz.ntmps121
  go_wp2_with (first | (go_at_call 144; refine (hbl _).mono ?_; rintro e w' ⟨rfl, rfl⟩) | (go_at_call 141; refine (htg _).mono ?_; rintro e w' ⟨rfl, rfl⟩))
  refine bodyPost_ret (v := .agg #[.int .i64 4, .string n, .bool f, .string ⟨#[]⟩, .string ⟨#[]⟩, .int .i64 0]) (by simp [results, Tryz.results121, go_sem]) rfl ⟨Rs.agg (X := (⟨4, n, f, Ts.e, Ts.e, 0⟩ : Ts)) HR.out.symm, ?_⟩
  repeat' first | exact Below.refl _ _ | refine Below.drew ?_ | refine Below.alloc ?_ (by first | (simp; done) | (simp; omega) | omega) _
 | false =>
  by_cases h61 : c = 61
  ·
   have HR : Hid ((⟨11, n, f, Ts.e, Ts.e, 0⟩ : Ts).step c = (⟨5, n, f, (Ts.low c), Ts.e, 0⟩ : Ts)) := (by unfold Hid; show Ts.afterValue ((⟨11, n, f, Ts.e, Ts.e, 0⟩ : Ts).to 11) c = _; unfold Ts.afterValue; rw [if_neg (by rw [hB]; decide), if_neg h47, if_neg h62]; rfl)
   have t62 := Tp.n62 h62
   have t47 := Tp.n47 h47
   have hbl := fun u => Rs.bl hB u
   have t61 := Tp.y61 h61
   clear h61
   have hwi := fun u => Rs.withS ⟨#[]⟩ c u (by decide)
   rw [Rs.emptyLow] at hwi
   have hat := fun u => Rs.attr 5 (⟨11, n, f, Ts.e, Ts.e, 0⟩ : Ts) (Ts.low c) u
   have zl := Tp.low_size c
   clear h62 h47 hB
   go_enter Tryz.func121, Tryz.ntmps121
   go_wp2_with (first | (go_at_call 144; refine (hbl _).mono ?_; rintro e w' ⟨rfl, rfl⟩) | (go_at_call 142; refine (hwi _).mono ?_; rintro e w' ⟨rfl, rfl⟩) | (go_at_call 140; refine (hat _).mono ?_; rintro e w' ⟨rfl, rfl⟩))
   obtain ⟨W, hW⟩ : ∃ W, (w.alloc (.cells #[.int .i64 11, .string n, .bool f, .string ⟨#[]⟩, .string ⟨#[]⟩, .int .i64 0] 76)).alloc (.cells #[.int .i64 0, .string ⟨#[]⟩, .bool false, .string ⟨#[]⟩, .string ⟨#[]⟩, .int .i64 0] 76) = W := ⟨_, rfl⟩
   have HB : Hid (Below w.heap.size w W) := Lib.hid (by rw [← hW]; exact ((Below.refl _ _).alloc (Nat.le_refl _) _).alloc (by simp) _)
   have c0 : W.cell? ⟨w.heap.size, 0, none⟩ = some (.int .i64 11) := by rw [← hW]; simp
   have c1 : W.cell? ⟨w.heap.size, 1, none⟩ = some (.string n) := by rw [← hW]; simp
   have c2 : W.cell? ⟨w.heap.size, 2, none⟩ = some (.bool f) := by rw [← hW]; simp
   have c3 : W.cell? ⟨w.heap.size, 3, none⟩ = some (.string ⟨#[]⟩) := by rw [← hW]; simp
   have c4 : W.cell? ⟨w.heap.size, 4, none⟩ = some (.string ⟨#[]⟩) := by rw [← hW]; simp
   have c5 : W.cell? ⟨w.heap.size, 5, none⟩ = some (.int .i64 0) := by rw [← hW]; simp
   have d0 : W.cell? ⟨w.heap.size + 1, 0, none⟩ = some (.int .i64 0) := by rw [← hW]; simp
   have d1 : W.cell? ⟨w.heap.size + 1, 1, none⟩ = some (.string ⟨#[]⟩) := by rw [← hW]; simp
   have d2 : W.cell? ⟨w.heap.size + 1, 2, none⟩ = some (.bool false) := by rw [← hW]; simp
   have d3 : W.cell? ⟨w.heap.size + 1, 3, none⟩ = some (.string ⟨#[]⟩) := by rw [← hW]; simp
   have d4 : W.cell? ⟨w.heap.size + 1, 4, none⟩ = some (.string ⟨#[]⟩) := by rw [← hW]; simp
   have d5 : W.cell? ⟨w.heap.size + 1, 5, none⟩ = some (.int .i64 0) := by rw [← hW]; simp
   have fz : ∀ i, W.frozen? ⟨w.heap.size + 1, i, none⟩ = false := fun i => by rw [← hW]; simp
   have hzz : w.heap.size + 1 < W.heap.size := by rw [← hW]; simp
   rw [hW]
   clear hW
   go_region_held (fun u => u.cell? ⟨w.heap.size, 0, none⟩ = some (.int .i64 11) ∧ u.cell? ⟨w.heap.size, 1, none⟩ = some (.string n) ∧ u.cell? ⟨w.heap.size, 2, none⟩ = some (.bool f) ∧ u.cell? ⟨w.heap.size, 3, none⟩ = some (.string ⟨#[]⟩) ∧ u.cell? ⟨w.heap.size, 4, none⟩ = some (.string ⟨#[]⟩) ∧ u.cell? ⟨w.heap.size, 5, none⟩ = some (.int .i64 0)) (go_keep) (first | (go_at_call 142; refine (hwi _).mono ?_; rintro e w1 ⟨rfl, hw1⟩; have hb1 := Rs.bel1 (u := W.drew) (o := .cells #[.int .u8 (Pl.lowB c).toNat] 5) (by first | exact Or.inl hw1 | exact Or.inr hw1); clear hw1; obtain ⟨k0, k1, k2, k3, k4, k5⟩ := Tp.k6 hb1 (b := w.heap.size) ⟨c0, c1, c2, c3, c4, c5⟩; obtain ⟨m0, m1, m2, m3, m4, m5⟩ := Tp.k6 hb1 (b := w.heap.size + 1) ⟨d0, d1, d2, d3, d4, d5⟩; have fz1 := Tp.keepF hb1 (b := w.heap.size + 1) (by first | omega | (simp; omega)) (by first | exact fz | simpa using fz); have hz1 : w.heap.size + 1 < w1.heap.size := Nat.lt_of_lt_of_le hzz hb1.size; have HB1 := Lib.hid ((Rs.drewB HB.out).trans (hb1.mono (by first | exact HB.out.size | (simp; exact HB.out.size)))); clear hb1 hwi) | (go_at_call 140; refine (hat _).mono ?_; rintro e w2 ⟨rfl, hw2⟩; have hb2 := Rs.bel2 hw2; clear hw2; obtain ⟨x0, x1, x2, x3, x4, x5⟩ := Tp.k6 hb2 (b := w.heap.size) ⟨k0, k1, k2, k3, k4, k5⟩; obtain ⟨y0, y1, y2, y3, y4, y5⟩ := Tp.k6 hb2 (b := w.heap.size + 1) ⟨m0, m1, m2, m3, m4, m5⟩; have fz2 := Tp.keepF hb2 (b := w.heap.size + 1) (by first | omega | (simp; omega)) (by first | exact fz1 | simpa using fz1); have HB2 := Lib.hid (HB1.out.trans (hb2.mono HB1.out.size)); clear hb2 hat))
   go_wp2
   refine bodyPost_ret (v := .agg #[.int .i64 5, .string n, .bool f, .string (Ts.low c), .string ⟨#[]⟩, .int .i64 0]) (by simp [results, Tryz.results121, go_sem, *]) rfl ⟨Rs.agg (X := (⟨5, n, f, (Ts.low c), Ts.e, 0⟩ : Ts)) HR.out.symm, ?_⟩
   repeat (refine Below.setCell ?_ (by simp) _)
   exact HB2.out
  have HR : Hid ((⟨11, n, f, Ts.e, Ts.e, 0⟩ : Ts).step c = (⟨5, n, f, (Ts.low c), Ts.e, 0⟩ : Ts)) := (by unfold Hid; show Ts.afterValue ((⟨11, n, f, Ts.e, Ts.e, 0⟩ : Ts).to 11) c = _; unfold Ts.afterValue; rw [if_neg (by rw [hB]; decide), if_neg h47, if_neg h62]; rfl)
  have t62 := Tp.n62 h62
  have t47 := Tp.n47 h47
  have hbl := fun u => Rs.bl hB u
  have t61 := Tp.n61 h61
  clear h61
  have hwi := fun u => Rs.withS ⟨#[]⟩ c u (by decide)
  rw [Rs.emptyLow] at hwi
  have hat := fun u => Rs.attr 5 (⟨11, n, f, Ts.e, Ts.e, 0⟩ : Ts) (Ts.low c) u
  have zl := Tp.low_size c
  clear h62 h47 hB
  go_enter Tryz.func121, Tryz.ntmps121
  go_wp2_with (first | (go_at_call 144; refine (hbl _).mono ?_; rintro e w' ⟨rfl, rfl⟩) | (go_at_call 142; refine (hwi _).mono ?_; rintro e w' ⟨rfl, rfl⟩) | (go_at_call 140; refine (hat _).mono ?_; rintro e w' ⟨rfl, rfl⟩))
  obtain ⟨W, hW⟩ : ∃ W, (w.alloc (.cells #[.int .i64 11, .string n, .bool f, .string ⟨#[]⟩, .string ⟨#[]⟩, .int .i64 0] 76)).alloc (.cells #[.int .i64 0, .string ⟨#[]⟩, .bool false, .string ⟨#[]⟩, .string ⟨#[]⟩, .int .i64 0] 76) = W := ⟨_, rfl⟩
  have HB : Hid (Below w.heap.size w W) := Lib.hid (by rw [← hW]; exact ((Below.refl _ _).alloc (Nat.le_refl _) _).alloc (by simp) _)
  have c0 : W.cell? ⟨w.heap.size, 0, none⟩ = some (.int .i64 11) := by rw [← hW]; simp
  have c1 : W.cell? ⟨w.heap.size, 1, none⟩ = some (.string n) := by rw [← hW]; simp
  have c2 : W.cell? ⟨w.heap.size, 2, none⟩ = some (.bool f) := by rw [← hW]; simp
  have c3 : W.cell? ⟨w.heap.size, 3, none⟩ = some (.string ⟨#[]⟩) := by rw [← hW]; simp
  have c4 : W.cell? ⟨w.heap.size, 4, none⟩ = some (.string ⟨#[]⟩) := by rw [← hW]; simp
  have c5 : W.cell? ⟨w.heap.size, 5, none⟩ = some (.int .i64 0) := by rw [← hW]; simp
  have d0 : W.cell? ⟨w.heap.size + 1, 0, none⟩ = some (.int .i64 0) := by rw [← hW]; simp
  have d1 : W.cell? ⟨w.heap.size + 1, 1, none⟩ = some (.string ⟨#[]⟩) := by rw [← hW]; simp
  have d2 : W.cell? ⟨w.heap.size + 1, 2, none⟩ = some (.bool false) := by rw [← hW]; simp
  have d3 : W.cell? ⟨w.heap.size + 1, 3, none⟩ = some (.string ⟨#[]⟩) := by rw [← hW]; simp
  have d4 : W.cell? ⟨w.heap.size + 1, 4, none⟩ = some (.string ⟨#[]⟩) := by rw [← hW]; simp
  have d5 : W.cell? ⟨w.heap.size + 1, 5, none⟩ = some (.int .i64 0) := by rw [← hW]; simp
  have fz : ∀ i, W.frozen? ⟨w.heap.size + 1, i, none⟩ = false := fun i => by rw [← hW]; simp
  have hzz : w.heap.size + 1 < W.heap.size := by rw [← hW]; simp
  rw [hW]
  clear hW
  go_region_held (fun u => u.cell? ⟨w.heap.size, 0, none⟩ = some (.int .i64 11) ∧ u.cell? ⟨w.heap.size, 1, none⟩ = some (.string n) ∧ u.cell? ⟨w.heap.size, 2, none⟩ = some (.bool f) ∧ u.cell? ⟨w.heap.size, 3, none⟩ = some (.string ⟨#[]⟩) ∧ u.cell? ⟨w.heap.size, 4, none⟩ = some (.string ⟨#[]⟩) ∧ u.cell? ⟨w.heap.size, 5, none⟩ = some (.int .i64 0)) (go_keep) (first | (go_at_call 142; refine (hwi _).mono ?_; rintro e w1 ⟨rfl, hw1⟩; have hb1 := Rs.bel1 (u := W.drew) (o := .cells #[.int .u8 (Pl.lowB c).toNat] 5) (by first | exact Or.inl hw1 | exact Or.inr hw1); clear hw1; obtain ⟨k0, k1, k2, k3, k4, k5⟩ := Tp.k6 hb1 (b := w.heap.size) ⟨c0, c1, c2, c3, c4, c5⟩; obtain ⟨m0, m1, m2, m3, m4, m5⟩ := Tp.k6 hb1 (b := w.heap.size + 1) ⟨d0, d1, d2, d3, d4, d5⟩; have fz1 := Tp.keepF hb1 (b := w.heap.size + 1) (by first | omega | (simp; omega)) (by first | exact fz | simpa using fz); have hz1 : w.heap.size + 1 < w1.heap.size := Nat.lt_of_lt_of_le hzz hb1.size; have HB1 := Lib.hid ((Rs.drewB HB.out).trans (hb1.mono (by first | exact HB.out.size | (simp; exact HB.out.size)))); clear hb1 hwi) | (go_at_call 140; refine (hat _).mono ?_; rintro e w2 ⟨rfl, hw2⟩; have hb2 := Rs.bel2 hw2; clear hw2; obtain ⟨x0, x1, x2, x3, x4, x5⟩ := Tp.k6 hb2 (b := w.heap.size) ⟨k0, k1, k2, k3, k4, k5⟩; obtain ⟨y0, y1, y2, y3, y4, y5⟩ := Tp.k6 hb2 (b := w.heap.size + 1) ⟨m0, m1, m2, m3, m4, m5⟩; have fz2 := Tp.keepF hb2 (b := w.heap.size + 1) (by first | omega | (simp; omega)) (by first | exact fz1 | simpa using fz1); have HB2 := Lib.hid (HB1.out.trans (hb2.mono HB1.out.size)); clear hb2 hat))
  go_wp2
  refine bodyPost_ret (v := .agg #[.int .i64 5, .string n, .bool f, .string (Ts.low c), .string ⟨#[]⟩, .int .i64 0]) (by simp [results, Tryz.results121, go_sem, *]) rfl ⟨Rs.agg (X := (⟨5, n, f, (Ts.low c), Ts.e, 0⟩ : Ts)) HR.out.symm, ?_⟩
  repeat (refine Below.setCell ?_ (by simp) _)
  exact HB2.out
set_option maxRecDepth 100000 in
set_option maxHeartbeats 2000000 in
theorem Rs.names_12 (n : ByteArray) (f : Bool) (c : UInt8) (w : World) : Calls Tryz.prog 121 #[.agg #[.int .i64 12, .string n, .bool f, .string ⟨#[]⟩, .string ⟨#[]⟩, .int .i64 0], .int .u8 c.toNat] w fun e w' => e = .returned (.agg #[.int .i64 ((⟨12, n, f, Ts.e, Ts.e, 0⟩ : Ts).step c).pl, .string ((⟨12, n, f, Ts.e, Ts.e, 0⟩ : Ts).step c).name, .bool ((⟨12, n, f, Ts.e, Ts.e, 0⟩ : Ts).step c).fin, .string ((⟨12, n, f, Ts.e, Ts.e, 0⟩ : Ts).step c).attr, .string ((⟨12, n, f, Ts.e, Ts.e, 0⟩ : Ts).step c).held, .int .i64 ((⟨12, n, f, Ts.e, Ts.e, 0⟩ : Ts).step c).read]) ∧ Below w.heap.size w w' := by
 by_cases h62 : c = 62
 ·
  have hB := Rs.nb h62 (by decide)
  have h47 : ¬ c = 47 := by rw [h62]; decide
  have HR : Hid ((⟨12, n, f, Ts.e, Ts.e, 0⟩ : Ts).step c = (⟨12, n, f, Ts.e, Ts.e, 0⟩ : Ts).closed) := (by unfold Hid; show Ts.selfClose ((⟨12, n, f, Ts.e, Ts.e, 0⟩ : Ts).to 12) c = _; unfold Ts.selfClose; rw [if_pos h62]; rfl)
  have t62 := Tp.y62 h62
  have hcl := fun u => Rs.closed (⟨12, n, f, Ts.e, Ts.e, 0⟩ : Ts) u
  clear h62
  generalize (⟨12, n, f, Ts.e, Ts.e, 0⟩ : Ts).closed = Z at *
  go_enter Tryz.func121, Tryz.ntmps121
  go_wp2_with (first | (go_at_call 143; refine (hcl _).mono ?_; rintro e w' ⟨rfl, rfl⟩))
  refine bodyPost_ret (v := Ts.v Z) (by simp [results, Tryz.results121, go_sem, Ts.v]) rfl ⟨Rs.agg (X := Z) HR.out.symm, ?_⟩
  repeat' first | exact Below.refl _ _ | refine Below.drew ?_ | refine Below.alloc ?_ (by first | (simp; done) | (simp; omega) | omega) _
 by_cases h47 : c = 47
 ·
  have hB := Rs.nb h47 (by decide)
  have HR : Hid ((⟨12, n, f, Ts.e, Ts.e, 0⟩ : Ts).step c = (⟨12, n, f, Ts.e, Ts.e, 0⟩ : Ts)) := (by unfold Hid; show Ts.selfClose ((⟨12, n, f, Ts.e, Ts.e, 0⟩ : Ts).to 12) c = _; unfold Ts.selfClose; rw [if_neg h62, if_neg (by rw [hB]; decide), if_pos h47]; rfl)
  have t62 := Tp.n62 h62
  have hbl := fun u => Rs.bl hB u
  have t47 := Tp.y47 h47
  have htg := fun u => Rs.tag 12 (⟨12, n, f, Ts.e, Ts.e, 0⟩ : Ts) u
  clear h62 hB h47
  go_enter Tryz.func121, Tryz.ntmps121
  go_wp2_with (first | (go_at_call 144; refine (hbl _).mono ?_; rintro e w' ⟨rfl, rfl⟩) | (go_at_call 141; refine (htg _).mono ?_; rintro e w' ⟨rfl, rfl⟩))
  refine bodyPost_ret (v := .agg #[.int .i64 12, .string n, .bool f, .string ⟨#[]⟩, .string ⟨#[]⟩, .int .i64 0]) (by simp [results, Tryz.results121, go_sem]) rfl ⟨Rs.agg (X := (⟨12, n, f, Ts.e, Ts.e, 0⟩ : Ts)) HR.out.symm, ?_⟩
  repeat' first | exact Below.refl _ _ | refine Below.drew ?_ | refine Below.alloc ?_ (by first | (simp; done) | (simp; omega) | omega) _
 cases hB : Ts.blank c with
 | true =>
  have HR : Hid ((⟨12, n, f, Ts.e, Ts.e, 0⟩ : Ts).step c = (⟨4, n, f, Ts.e, Ts.e, 0⟩ : Ts)) := (by unfold Hid; show Ts.selfClose ((⟨12, n, f, Ts.e, Ts.e, 0⟩ : Ts).to 12) c = _; unfold Ts.selfClose; rw [if_neg h62, if_pos hB]; rfl)
  have t62 := Tp.n62 h62
  have t47 := Tp.n47 h47
  have hbl := fun u => Rs.bl hB u
  have htg := fun u => Rs.tag 4 (⟨12, n, f, Ts.e, Ts.e, 0⟩ : Ts) u
  clear h62 h47 hB
  go_enter Tryz.func121, Tryz.ntmps121
  go_wp2_with (first | (go_at_call 144; refine (hbl _).mono ?_; rintro e w' ⟨rfl, rfl⟩) | (go_at_call 141; refine (htg _).mono ?_; rintro e w' ⟨rfl, rfl⟩))
  refine bodyPost_ret (v := .agg #[.int .i64 4, .string n, .bool f, .string ⟨#[]⟩, .string ⟨#[]⟩, .int .i64 0]) (by simp [results, Tryz.results121, go_sem]) rfl ⟨Rs.agg (X := (⟨4, n, f, Ts.e, Ts.e, 0⟩ : Ts)) HR.out.symm, ?_⟩
  repeat' first | exact Below.refl _ _ | refine Below.drew ?_ | refine Below.alloc ?_ (by first | (simp; done) | (simp; omega) | omega) _
 | false =>
  by_cases h61 : c = 61
  ·
   have HR : Hid ((⟨12, n, f, Ts.e, Ts.e, 0⟩ : Ts).step c = (⟨5, n, f, (Ts.low c), Ts.e, 0⟩ : Ts)) := (by unfold Hid; show Ts.selfClose ((⟨12, n, f, Ts.e, Ts.e, 0⟩ : Ts).to 12) c = _; unfold Ts.selfClose; rw [if_neg h62, if_neg (by rw [hB]; decide), if_neg h47]; rfl)
   have t62 := Tp.n62 h62
   have t47 := Tp.n47 h47
   have hbl := fun u => Rs.bl hB u
   have t61 := Tp.y61 h61
   clear h61
   have hwi := fun u => Rs.withS ⟨#[]⟩ c u (by decide)
   rw [Rs.emptyLow] at hwi
   have hat := fun u => Rs.attr 5 (⟨12, n, f, Ts.e, Ts.e, 0⟩ : Ts) (Ts.low c) u
   have zl := Tp.low_size c
   clear h62 h47 hB
   go_enter Tryz.func121, Tryz.ntmps121
   go_wp2_with (first | (go_at_call 144; refine (hbl _).mono ?_; rintro e w' ⟨rfl, rfl⟩) | (go_at_call 142; refine (hwi _).mono ?_; rintro e w' ⟨rfl, rfl⟩) | (go_at_call 140; refine (hat _).mono ?_; rintro e w' ⟨rfl, rfl⟩))
   obtain ⟨W, hW⟩ : ∃ W, (w.alloc (.cells #[.int .i64 12, .string n, .bool f, .string ⟨#[]⟩, .string ⟨#[]⟩, .int .i64 0] 76)).alloc (.cells #[.int .i64 0, .string ⟨#[]⟩, .bool false, .string ⟨#[]⟩, .string ⟨#[]⟩, .int .i64 0] 76) = W := ⟨_, rfl⟩
   have HB : Hid (Below w.heap.size w W) := Lib.hid (by rw [← hW]; exact ((Below.refl _ _).alloc (Nat.le_refl _) _).alloc (by simp) _)
   have c0 : W.cell? ⟨w.heap.size, 0, none⟩ = some (.int .i64 12) := by rw [← hW]; simp
   have c1 : W.cell? ⟨w.heap.size, 1, none⟩ = some (.string n) := by rw [← hW]; simp
   have c2 : W.cell? ⟨w.heap.size, 2, none⟩ = some (.bool f) := by rw [← hW]; simp
   have c3 : W.cell? ⟨w.heap.size, 3, none⟩ = some (.string ⟨#[]⟩) := by rw [← hW]; simp
   have c4 : W.cell? ⟨w.heap.size, 4, none⟩ = some (.string ⟨#[]⟩) := by rw [← hW]; simp
   have c5 : W.cell? ⟨w.heap.size, 5, none⟩ = some (.int .i64 0) := by rw [← hW]; simp
   have d0 : W.cell? ⟨w.heap.size + 1, 0, none⟩ = some (.int .i64 0) := by rw [← hW]; simp
   have d1 : W.cell? ⟨w.heap.size + 1, 1, none⟩ = some (.string ⟨#[]⟩) := by rw [← hW]; simp
   have d2 : W.cell? ⟨w.heap.size + 1, 2, none⟩ = some (.bool false) := by rw [← hW]; simp
   have d3 : W.cell? ⟨w.heap.size + 1, 3, none⟩ = some (.string ⟨#[]⟩) := by rw [← hW]; simp
   have d4 : W.cell? ⟨w.heap.size + 1, 4, none⟩ = some (.string ⟨#[]⟩) := by rw [← hW]; simp
   have d5 : W.cell? ⟨w.heap.size + 1, 5, none⟩ = some (.int .i64 0) := by rw [← hW]; simp
   have fz : ∀ i, W.frozen? ⟨w.heap.size + 1, i, none⟩ = false := fun i => by rw [← hW]; simp
   have hzz : w.heap.size + 1 < W.heap.size := by rw [← hW]; simp
   rw [hW]
   clear hW
   go_region_held (fun u => u.cell? ⟨w.heap.size, 0, none⟩ = some (.int .i64 12) ∧ u.cell? ⟨w.heap.size, 1, none⟩ = some (.string n) ∧ u.cell? ⟨w.heap.size, 2, none⟩ = some (.bool f) ∧ u.cell? ⟨w.heap.size, 3, none⟩ = some (.string ⟨#[]⟩) ∧ u.cell? ⟨w.heap.size, 4, none⟩ = some (.string ⟨#[]⟩) ∧ u.cell? ⟨w.heap.size, 5, none⟩ = some (.int .i64 0)) (go_keep) (first | (go_at_call 142; refine (hwi _).mono ?_; rintro e w1 ⟨rfl, hw1⟩; have hb1 := Rs.bel1 (u := W.drew) (o := .cells #[.int .u8 (Pl.lowB c).toNat] 5) (by first | exact Or.inl hw1 | exact Or.inr hw1); clear hw1; obtain ⟨k0, k1, k2, k3, k4, k5⟩ := Tp.k6 hb1 (b := w.heap.size) ⟨c0, c1, c2, c3, c4, c5⟩; obtain ⟨m0, m1, m2, m3, m4, m5⟩ := Tp.k6 hb1 (b := w.heap.size + 1) ⟨d0, d1, d2, d3, d4, d5⟩; have fz1 := Tp.keepF hb1 (b := w.heap.size + 1) (by first | omega | (simp; omega)) (by first | exact fz | simpa using fz); have hz1 : w.heap.size + 1 < w1.heap.size := Nat.lt_of_lt_of_le hzz hb1.size; have HB1 := Lib.hid ((Rs.drewB HB.out).trans (hb1.mono (by first | exact HB.out.size | (simp; exact HB.out.size)))); clear hb1 hwi) | (go_at_call 140; refine (hat _).mono ?_; rintro e w2 ⟨rfl, hw2⟩; have hb2 := Rs.bel2 hw2; clear hw2; obtain ⟨x0, x1, x2, x3, x4, x5⟩ := Tp.k6 hb2 (b := w.heap.size) ⟨k0, k1, k2, k3, k4, k5⟩; obtain ⟨y0, y1, y2, y3, y4, y5⟩ := Tp.k6 hb2 (b := w.heap.size + 1) ⟨m0, m1, m2, m3, m4, m5⟩; have fz2 := Tp.keepF hb2 (b := w.heap.size + 1) (by first | omega | (simp; omega)) (by first | exact fz1 | simpa using fz1); have HB2 := Lib.hid (HB1.out.trans (hb2.mono HB1.out.size)); clear hb2 hat))
   go_wp2
   refine bodyPost_ret (v := .agg #[.int .i64 5, .string n, .bool f, .string (Ts.low c), .string ⟨#[]⟩, .int .i64 0]) (by simp [results, Tryz.results121, go_sem, *]) rfl ⟨Rs.agg (X := (⟨5, n, f, (Ts.low c), Ts.e, 0⟩ : Ts)) HR.out.symm, ?_⟩
   repeat (refine Below.setCell ?_ (by simp) _)
   exact HB2.out
  have HR : Hid ((⟨12, n, f, Ts.e, Ts.e, 0⟩ : Ts).step c = (⟨5, n, f, (Ts.low c), Ts.e, 0⟩ : Ts)) := (by unfold Hid; show Ts.selfClose ((⟨12, n, f, Ts.e, Ts.e, 0⟩ : Ts).to 12) c = _; unfold Ts.selfClose; rw [if_neg h62, if_neg (by rw [hB]; decide), if_neg h47]; rfl)
  have t62 := Tp.n62 h62
  have t47 := Tp.n47 h47
  have hbl := fun u => Rs.bl hB u
  have t61 := Tp.n61 h61
  clear h61
  have hwi := fun u => Rs.withS ⟨#[]⟩ c u (by decide)
  rw [Rs.emptyLow] at hwi
  have hat := fun u => Rs.attr 5 (⟨12, n, f, Ts.e, Ts.e, 0⟩ : Ts) (Ts.low c) u
  have zl := Tp.low_size c
  clear h62 h47 hB
  go_enter Tryz.func121, Tryz.ntmps121
  go_wp2_with (first | (go_at_call 144; refine (hbl _).mono ?_; rintro e w' ⟨rfl, rfl⟩) | (go_at_call 142; refine (hwi _).mono ?_; rintro e w' ⟨rfl, rfl⟩) | (go_at_call 140; refine (hat _).mono ?_; rintro e w' ⟨rfl, rfl⟩))
  obtain ⟨W, hW⟩ : ∃ W, (w.alloc (.cells #[.int .i64 12, .string n, .bool f, .string ⟨#[]⟩, .string ⟨#[]⟩, .int .i64 0] 76)).alloc (.cells #[.int .i64 0, .string ⟨#[]⟩, .bool false, .string ⟨#[]⟩, .string ⟨#[]⟩, .int .i64 0] 76) = W := ⟨_, rfl⟩
  have HB : Hid (Below w.heap.size w W) := Lib.hid (by rw [← hW]; exact ((Below.refl _ _).alloc (Nat.le_refl _) _).alloc (by simp) _)
  have c0 : W.cell? ⟨w.heap.size, 0, none⟩ = some (.int .i64 12) := by rw [← hW]; simp
  have c1 : W.cell? ⟨w.heap.size, 1, none⟩ = some (.string n) := by rw [← hW]; simp
  have c2 : W.cell? ⟨w.heap.size, 2, none⟩ = some (.bool f) := by rw [← hW]; simp
  have c3 : W.cell? ⟨w.heap.size, 3, none⟩ = some (.string ⟨#[]⟩) := by rw [← hW]; simp
  have c4 : W.cell? ⟨w.heap.size, 4, none⟩ = some (.string ⟨#[]⟩) := by rw [← hW]; simp
  have c5 : W.cell? ⟨w.heap.size, 5, none⟩ = some (.int .i64 0) := by rw [← hW]; simp
  have d0 : W.cell? ⟨w.heap.size + 1, 0, none⟩ = some (.int .i64 0) := by rw [← hW]; simp
  have d1 : W.cell? ⟨w.heap.size + 1, 1, none⟩ = some (.string ⟨#[]⟩) := by rw [← hW]; simp
  have d2 : W.cell? ⟨w.heap.size + 1, 2, none⟩ = some (.bool false) := by rw [← hW]; simp
  have d3 : W.cell? ⟨w.heap.size + 1, 3, none⟩ = some (.string ⟨#[]⟩) := by rw [← hW]; simp
  have d4 : W.cell? ⟨w.heap.size + 1, 4, none⟩ = some (.string ⟨#[]⟩) := by rw [← hW]; simp
  have d5 : W.cell? ⟨w.heap.size + 1, 5, none⟩ = some (.int .i64 0) := by rw [← hW]; simp
  have fz : ∀ i, W.frozen? ⟨w.heap.size + 1, i, none⟩ = false := fun i => by rw [← hW]; simp
  have hzz : w.heap.size + 1 < W.heap.size := by rw [← hW]; simp
  rw [hW]
  clear hW
  go_region_held (fun u => u.cell? ⟨w.heap.size, 0, none⟩ = some (.int .i64 12) ∧ u.cell? ⟨w.heap.size, 1, none⟩ = some (.string n) ∧ u.cell? ⟨w.heap.size, 2, none⟩ = some (.bool f) ∧ u.cell? ⟨w.heap.size, 3, none⟩ = some (.string ⟨#[]⟩) ∧ u.cell? ⟨w.heap.size, 4, none⟩ = some (.string ⟨#[]⟩) ∧ u.cell? ⟨w.heap.size, 5, none⟩ = some (.int .i64 0)) (go_keep) (first | (go_at_call 142; refine (hwi _).mono ?_; rintro e w1 ⟨rfl, hw1⟩; have hb1 := Rs.bel1 (u := W.drew) (o := .cells #[.int .u8 (Pl.lowB c).toNat] 5) (by first | exact Or.inl hw1 | exact Or.inr hw1); clear hw1; obtain ⟨k0, k1, k2, k3, k4, k5⟩ := Tp.k6 hb1 (b := w.heap.size) ⟨c0, c1, c2, c3, c4, c5⟩; obtain ⟨m0, m1, m2, m3, m4, m5⟩ := Tp.k6 hb1 (b := w.heap.size + 1) ⟨d0, d1, d2, d3, d4, d5⟩; have fz1 := Tp.keepF hb1 (b := w.heap.size + 1) (by first | omega | (simp; omega)) (by first | exact fz | simpa using fz); have hz1 : w.heap.size + 1 < w1.heap.size := Nat.lt_of_lt_of_le hzz hb1.size; have HB1 := Lib.hid ((Rs.drewB HB.out).trans (hb1.mono (by first | exact HB.out.size | (simp; exact HB.out.size)))); clear hb1 hwi) | (go_at_call 140; refine (hat _).mono ?_; rintro e w2 ⟨rfl, hw2⟩; have hb2 := Rs.bel2 hw2; clear hw2; obtain ⟨x0, x1, x2, x3, x4, x5⟩ := Tp.k6 hb2 (b := w.heap.size) ⟨k0, k1, k2, k3, k4, k5⟩; obtain ⟨y0, y1, y2, y3, y4, y5⟩ := Tp.k6 hb2 (b := w.heap.size + 1) ⟨m0, m1, m2, m3, m4, m5⟩; have fz2 := Tp.keepF hb2 (b := w.heap.size + 1) (by first | omega | (simp; omega)) (by first | exact fz1 | simpa using fz1); have HB2 := Lib.hid (HB1.out.trans (hb2.mono HB1.out.size)); clear hb2 hat))
  go_wp2
  refine bodyPost_ret (v := .agg #[.int .i64 5, .string n, .bool f, .string (Ts.low c), .string ⟨#[]⟩, .int .i64 0]) (by simp [results, Tryz.results121, go_sem, *]) rfl ⟨Rs.agg (X := (⟨5, n, f, (Ts.low c), Ts.e, 0⟩ : Ts)) HR.out.symm, ?_⟩
  repeat (refine Below.setCell ?_ (by simp) _)
  exact HB2.out
end Go.Proofs.YtblpkjlodncpeaaGreatDoor
