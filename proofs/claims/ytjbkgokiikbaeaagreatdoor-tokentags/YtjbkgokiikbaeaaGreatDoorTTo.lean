/-
  THE WALK of tok.to.
-/
import Derived.Test.YtjbkgokiikbaeaaGreatDoorTKit
namespace Go.Proofs.YtjbkgokiikbaeaaGreatDoor
open Go.RowKit
theorem Tp.ret {a b : Ts} (h : a = b) : Ending.returned (.agg #[.int .i64 a.pl, .string a.name, .bool a.fin, .string a.attr, .string a.held, .int .i64 a.read]) = .returned (.agg #[.int .i64 b.pl, .string b.name, .bool b.fin, .string b.attr, .string b.held, .int .i64 b.read]) := by rw [h]
theorem Tp.two (w : World) (o o' : Obj) : Below w.heap.size w ((w.alloc o).alloc o') := ((Below.refl _ _).alloc (Nat.le_refl _) _).alloc (by simp) _
theorem Tp.to (s : Ts) (a : Int) (w : World) : Calls Tryz.prog 67 #[.agg #[.int .i64 s.pl, .string s.name, .bool s.fin, .string s.attr, .string s.held, .int .i64 s.read], .int .i64 a] w fun e w' => e = .returned (.agg #[.int .i64 (s.to a).pl, .string (s.to a).name, .bool (s.to a).fin, .string (s.to a).attr, .string (s.to a).held, .int .i64 (s.to a).read]) ∧ Below w.heap.size w w' := by
  cases ht : Ts.inTag a
  all_goals
    by_cases g1 : a < 5
    all_goals
      by_cases g2 : 10 < a
      all_goals
        by_cases g3 : a < 19
        all_goals
          by_cases g4 : a = 22
          all_goals first | (exfalso; omega) | skip
  all_goals
    have H1 := Lib.hid g1
    have H2 := Lib.hid g2
    have H3 := Lib.hid g3
    have H4 := Lib.hid g4
    try (have d1 : decide (a < 5) = true := decide_eq_true g1)
    try (have d1 : decide (a < 5) = false := decide_eq_false g1)
    try (have d2 : decide (10 < a) = true := decide_eq_true g2)
    try (have d2 : decide (10 < a) = false := decide_eq_false g2)
    try (have d3 : decide (a < 19) = true := decide_eq_true g3)
    try (have d3 : decide (a < 19) = false := decide_eq_false g3)
    try (have d4 : (a != 22) = false := by simp [g4])
    try (have d4 : (a != 22) = true := by simp [g4])
    clear g4
    go_enter Tryz.func67, Tryz.ntmps67
    go_wp2_with (go_at_call 75; refine (Tp.inTag a _).mono ?_; rintro e w' ⟨rfl, rfl⟩)
    refine bodyPost_ret (v := .agg #[.int .i64 (s.to a).pl, .string (s.to a).name, .bool (s.to a).fin, .string (s.to a).attr, .string (s.to a).held, .int .i64 (s.to a).read]) ?_ rfl ⟨rfl, Tp.two _ _ _⟩
    have K1 := H1.out
    have K2 := H2.out
    have K3 := H3.out
    have K4 := H4.out
    have ha : Ts.hasAttr a = (!decide (a < 5) && !decide (10 < a)) := by unfold Ts.hasAttr; rw [Bool.eq_iff_iff]; simp
    have hh : decide (19 ≤ a) = !decide (a < 19) := by rw [Bool.eq_iff_iff]; simp
    clear K1 K2 H1 H2 H3 H4
    rw [d1, d2] at ha
    rw [d3] at hh
    simp only [Bool.not_true, Bool.not_false, Bool.and_true, Bool.and_false, decide_eq_true_eq, decide_eq_false_iff_not] at hh ha
    simp [results, Tryz.results67, go_sem, Ts.to, ht, ha, hh, K4, Ts.e] <;> first | (rw [K4] at ht; exact absurd ht (by decide)) | simp [Ts.inTag, Ts.hasAttr]
end Go.Proofs.YtjbkgokiikbaeaaGreatDoor
