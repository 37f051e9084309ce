/-
  THE WALK of stolelaw4.ValueReals.
-/
import Derived.Test.YtmiabkoodoekdaaDoorVAwake
import Derived.Test.YtmiabkoodoekdaaDoorReRef
namespace Go.Proofs.YtmiabkoodoekdaaDoor
open Go.RowKit

/-- a NaN's place is no number's -/
theorem Vx.rank_ne (a b : Nat) (ha : a < 18446744073709551616) (hb : b < 18446744073709551616) (ka : Re.kind a ≠ 0) (kb : Re.kind b = 0) : Re.rank a ≠ Re.rank b := by
  have h1 : Re.ef b = 2047 ∧ Re.fr b ≠ 0 := by
    unfold Re.kind at kb
    split at kb
    · next h => split at kb
                · cases kb
                · next g => exact ⟨h, g⟩
    · split at kb
      · cases kb
      · split at kb <;> cases kb
  have h2 : ¬ (Re.ef a = 2047 ∧ Re.fr a ≠ 0) := by
    rintro ⟨h, g⟩
    exact ka (by unfold Re.kind; rw [if_pos h, if_neg g])
  unfold Re.ef Re.fr at h1 h2
  unfold Re.rank
  intro h
  split at h <;> split at h <;> omega

set_option maxRecDepth 100000 in
set_option maxHeartbeats 8000000 in
theorem Vx.reals (a : Nat) (ha : a < 18446744073709551616) (b : Nat) (hb : b < 18446744073709551616) (c : Nat) (hc : c < 18446744073709551616) (w : World) (ht : Re.Tabs w) :
    Calls Tryd.prog 4 #[.int .u64 (a : Int), .int .u64 (b : Int), .int .u64 (c : Int)] w fun e w' => e = .returned (.bool true) ∧ Below w.heap.size w w' := by
  obtain ⟨X, HX⟩ : ∃ X, Hid ((Re.num a && Re.num b && decide (Re.rank a < Re.rank b)) = X) := ⟨_, rfl⟩
  obtain ⟨Y, HY⟩ : ∃ X, Hid ((Re.num b && Re.num a && decide (Re.rank b < Re.rank a)) = X) := ⟨_, rfl⟩
  obtain ⟨Z, HZ⟩ : ∃ X, Hid ((Re.num b && Re.num c && decide (Re.rank b < Re.rank c)) = X) := ⟨_, rfl⟩
  obtain ⟨V, HV⟩ : ∃ X, Hid ((Re.num a && Re.num c && decide (Re.rank a < Re.rank c)) = X) := ⟨_, rfl⟩
  obtain ⟨E, HE⟩ : ∃ X, Hid ((Re.num a && decide (Re.rank a = Re.rank b)) = X) := ⟨_, rfl⟩
  go_enter Tryd.func4, Tryd.ntmps4
  go_wp2_with fail
  refine (Vw.awake w ht).mono ?_
  rintro e w0 ⟨rfl, B⟩
  go_wp2_with fail
  refine (Vn.bits (a : Int) _).mono ?_
  rintro e w1 ⟨rfl, hb'⟩
  replace B := Vm.then B hb'
  clear hb'
  go_wp2_with fail
  refine (Vn.bits (b : Int) _).mono ?_
  rintro e w2 ⟨rfl, hb'⟩
  replace B := Vm.then B hb'
  clear hb'
  go_wp2_with fail
  refine (Vl.less (Vt.leaf 3 0 a ⟨#[]⟩) (Vt.leaf 3 0 b ⟨#[]⟩) _ _ _ (Vw.rLies a _ rfl ha _ _) (Vw.rLies b _ rfl hb _ _)).mono ?_
  rintro e w3 ⟨rfl, hb'⟩
  rw [Vw.real_less]
  replace B := Vm.then B hb'
  clear hb'
  rw [HX.out]
  go_wp2_with fail
  refine (Vn.bits (b : Int) _).mono ?_
  rintro e w4 ⟨rfl, hb'⟩
  replace B := Vm.then B hb'
  clear hb'
  go_wp2_with fail
  refine (Vn.bits (a : Int) _).mono ?_
  rintro e w5 ⟨rfl, hb'⟩
  replace B := Vm.then B hb'
  clear hb'
  go_wp2_with fail
  refine (Vl.less (Vt.leaf 3 0 b ⟨#[]⟩) (Vt.leaf 3 0 a ⟨#[]⟩) _ _ _ (Vw.rLies b _ rfl hb _ _) (Vw.rLies a _ rfl ha _ _)).mono ?_
  rintro e w6 ⟨rfl, hb'⟩
  rw [Vw.real_less]
  replace B := Vm.then B hb'
  clear hb'
  rw [HY.out]
  go_wp2_with fail
  refine (Vn.bits (b : Int) _).mono ?_
  rintro e w7 ⟨rfl, hb'⟩
  replace B := Vm.then B hb'
  clear hb'
  go_wp2_with fail
  refine (Vn.bits (c : Int) _).mono ?_
  rintro e w8 ⟨rfl, hb'⟩
  replace B := Vm.then B hb'
  clear hb'
  go_wp2_with fail
  refine (Vl.less (Vt.leaf 3 0 b ⟨#[]⟩) (Vt.leaf 3 0 c ⟨#[]⟩) _ _ _ (Vw.rLies b _ rfl hb _ _) (Vw.rLies c _ rfl hc _ _)).mono ?_
  rintro e w9 ⟨rfl, hb'⟩
  rw [Vw.real_less]
  replace B := Vm.then B hb'
  clear hb'
  rw [HZ.out]
  go_wp2_with fail
  refine (Vn.bits (a : Int) _).mono ?_
  rintro e w10 ⟨rfl, hb'⟩
  replace B := Vm.then B hb'
  clear hb'
  go_wp2_with fail
  refine (Vn.bits (c : Int) _).mono ?_
  rintro e w11 ⟨rfl, hb'⟩
  replace B := Vm.then B hb'
  clear hb'
  go_wp2_with fail
  refine (Vl.less (Vt.leaf 3 0 a ⟨#[]⟩) (Vt.leaf 3 0 c ⟨#[]⟩) _ _ _ (Vw.rLies a _ rfl ha _ _) (Vw.rLies c _ rfl hc _ _)).mono ?_
  rintro e w12 ⟨rfl, hb'⟩
  rw [Vw.real_less]
  replace B := Vm.then B hb'
  clear hb'
  rw [HV.out]
  go_wp2_with fail
  refine (Vn.errno 0 _).mono ?_
  rintro e w9 ⟨rfl, rfl⟩
  go_wp2_with fail
  refine (Vn.errno 0 _).mono ?_
  rintro e w9 ⟨rfl, rfl⟩
  go_wp2_with fail
  refine (Vn.errno 0 _).mono ?_
  rintro e w9 ⟨rfl, rfl⟩
  go_wp2_with fail
  refine (Vn.errno 0 _).mono ?_
  rintro e w9 ⟨rfl, rfl⟩
  by_cases ka : Re.kind a = 0
  · have HK := Lib.hid ka
    have nA : Re.num a = false := by unfold Re.num; rw [ka]; rfl
    have x0 : X = false := by rw [← HX.out, nA]; simp
    have y0 : Y = false := by rw [← HY.out, nA]; simp
    have e0 : E = false := by rw [← HE.out, nA]; simp
    subst x0 y0 e0
    clear ka nA HX HY HZ HV
    go_wp2_with fail
    refine (Rs.real a ha _).mono ?_
    rintro e w9 ⟨rfl, rfl⟩
    rw [HK.out]
    go_wp2_with fail
    refine (Vn.bits (a : Int) _).mono ?_
    rintro e w13 ⟨rfl, hb'⟩
    replace B := Vm.then B hb'
    clear hb'
    go_wp2_with fail
    refine (Vn.bits (b : Int) _).mono ?_
    rintro e w14 ⟨rfl, hb'⟩
    replace B := Vm.then B hb'
    clear hb'
    go_wp2_with fail
    refine (Va.same (Vt.leaf 3 0 a ⟨#[]⟩) (Vt.leaf 3 0 b ⟨#[]⟩) _ _ _ (Vw.rLies a _ rfl ha _ _) (Vw.rLies b _ rfl hb _ _)).mono ?_
    rintro e w15 ⟨rfl, hb'⟩
    rw [Vw.real_same]
    replace B := Vm.then B hb'
    clear hb'
    rw [HE.out]
    go_wp2_with fail
    refine (Vn.bits (a : Int) _).mono ?_
    rintro e w16 ⟨rfl, hb'⟩
    replace B := Vm.then B hb'
    clear hb'
    go_wp2_with fail
    refine (Vm.truth (Vt.leaf 3 0 a ⟨#[]⟩) _ _ (Vw.rLies a _ rfl ha _ _)).mono ?_
    rintro e w17 ⟨rfl, hb'⟩
    rw [Vw.real_truth, HK.out]
    replace B := Vm.then B hb'
    clear hb'
    go_wp2_with fail
    refine (Rs.real a ha _).mono ?_
    rintro e w9 ⟨rfl, rfl⟩
    rw [HK.out]
    go_wp2
    go_ret
    exact ⟨rfl, B⟩
  have nA : Re.num a = true := by unfold Re.num; rw [decide_eq_false ka]; rfl
  obtain ⟨K, hK⟩ : ∃ K, Re.kind a = K := ⟨_, rfl⟩
  have HK := Lib.hid hK
  rw [hK] at ka
  clear hK
  have d0 : ((K : Int) == 0) = false := beq_eq_false_iff_ne.2 (by omega)
  by_cases kb : Re.kind b = 0
  · have HKb := Lib.hid kb
    have nB : Re.num b = false := by unfold Re.num; rw [kb]; rfl
    have rb : Re.rank a ≠ Re.rank b := Vx.rank_ne a b ha hb (by rw [HK.out]; exact ka) kb
    have x0 : X = false := by rw [← HX.out, nB]; simp
    have y0 : Y = false := by rw [← HY.out, nB]; simp
    have e0 : E = false := by rw [← HE.out, decide_eq_false rb]; simp
    subst x0 y0 e0
    clear kb nA nB HX HY HZ HV rb
    by_cases k2 : K = 2
    · subst k2
      go_wp2_with fail
      refine (Rs.real a ha _).mono ?_
      rintro e w9 ⟨rfl, rfl⟩
      rw [HK.out]
      go_wp2_with fail
      refine (Rs.real b hb _).mono ?_
      rintro e w9 ⟨rfl, rfl⟩
      rw [HKb.out]
      go_wp2_with fail
      refine (Vn.bits (a : Int) _).mono ?_
      rintro e w18 ⟨rfl, hb'⟩
      replace B := Vm.then B hb'
      clear hb'
      go_wp2_with fail
      refine (Vn.bits (b : Int) _).mono ?_
      rintro e w19 ⟨rfl, hb'⟩
      replace B := Vm.then B hb'
      clear hb'
      go_wp2_with fail
      refine (Va.same (Vt.leaf 3 0 a ⟨#[]⟩) (Vt.leaf 3 0 b ⟨#[]⟩) _ _ _ (Vw.rLies a _ rfl ha _ _) (Vw.rLies b _ rfl hb _ _)).mono ?_
      rintro e w20 ⟨rfl, hb'⟩
      rw [Vw.real_same]
      replace B := Vm.then B hb'
      clear hb'
      rw [HE.out]
      go_wp2_with fail
      refine (Vn.bits (a : Int) _).mono ?_
      rintro e w21 ⟨rfl, hb'⟩
      replace B := Vm.then B hb'
      clear hb'
      go_wp2_with fail
      refine (Vm.truth (Vt.leaf 3 0 a ⟨#[]⟩) _ _ (Vw.rLies a _ rfl ha _ _)).mono ?_
      rintro e w22 ⟨rfl, hb'⟩
      rw [Vw.real_truth, HK.out]
      replace B := Vm.then B hb'
      clear hb'
      go_wp2_with fail
      refine (Rs.real a ha _).mono ?_
      rintro e w9 ⟨rfl, rfl⟩
      rw [HK.out]
      go_wp2_with fail
      refine (Rs.real a ha _).mono ?_
      rintro e w9 ⟨rfl, rfl⟩
      rw [HK.out]
      go_wp2
      go_ret
      refine ⟨?_, B⟩
      first | rfl | simp_all
    · have d2 : ((K : Int) == 2) = false := beq_eq_false_iff_ne.2 (by omega)
      go_wp2_with fail
      refine (Rs.real a ha _).mono ?_
      rintro e w9 ⟨rfl, rfl⟩
      rw [HK.out]
      go_wp2_with fail
      refine (Rs.real b hb _).mono ?_
      rintro e w9 ⟨rfl, rfl⟩
      rw [HKb.out]
      go_wp2_with fail
      refine (Vn.bits (a : Int) _).mono ?_
      rintro e w23 ⟨rfl, hb'⟩
      replace B := Vm.then B hb'
      clear hb'
      go_wp2_with fail
      refine (Vn.bits (b : Int) _).mono ?_
      rintro e w24 ⟨rfl, hb'⟩
      replace B := Vm.then B hb'
      clear hb'
      go_wp2_with fail
      refine (Va.same (Vt.leaf 3 0 a ⟨#[]⟩) (Vt.leaf 3 0 b ⟨#[]⟩) _ _ _ (Vw.rLies a _ rfl ha _ _) (Vw.rLies b _ rfl hb _ _)).mono ?_
      rintro e w25 ⟨rfl, hb'⟩
      rw [Vw.real_same]
      replace B := Vm.then B hb'
      clear hb'
      rw [HE.out]
      go_wp2_with fail
      refine (Vn.bits (a : Int) _).mono ?_
      rintro e w26 ⟨rfl, hb'⟩
      replace B := Vm.then B hb'
      clear hb'
      go_wp2_with fail
      refine (Vm.truth (Vt.leaf 3 0 a ⟨#[]⟩) _ _ (Vw.rLies a _ rfl ha _ _)).mono ?_
      rintro e w27 ⟨rfl, hb'⟩
      rw [Vw.real_truth, HK.out]
      replace B := Vm.then B hb'
      clear hb'
      go_wp2_with fail
      refine (Rs.real a ha _).mono ?_
      rintro e w9 ⟨rfl, rfl⟩
      rw [HK.out]
      go_wp2_with fail
      refine (Rs.real a ha _).mono ?_
      rintro e w9 ⟨rfl, rfl⟩
      rw [HK.out]
      go_wp2
      go_ret
      refine ⟨?_, B⟩
      first | rfl | simp_all
  have nB : Re.num b = true := by unfold Re.num; rw [decide_eq_false kb]; rfl
  obtain ⟨J, hJ⟩ : ∃ K, Re.kind b = K := ⟨_, rfl⟩
  have HKb := Lib.hid hJ
  rw [hJ] at kb
  clear hJ
  have d1 : ((J : Int) == 0) = false := beq_eq_false_iff_ne.2 (by omega)
  have t1 : Re.rank a < Re.rank b ∨ Re.rank b < Re.rank a ∨ Re.rank a = Re.rank b := by omega
  rcases t1 with t1 | t1 | t1
  · have x0 : X = true := by rw [← HX.out, nA, nB, decide_eq_true t1]; rfl
    have y0 : Y = false := by rw [← HY.out, decide_eq_false (show ¬ Re.rank b < Re.rank a by omega)]; simp
    have e0 : E = false := by rw [← HE.out, decide_eq_false (show ¬ Re.rank a = Re.rank b by omega)]; simp
    have v0 : Z = true → V = true := by
      intro hz
      rw [← HZ.out] at hz
      simp only [Bool.and_eq_true, decide_eq_true_eq] at hz
      rw [← HV.out, nA, hz.1.2, decide_eq_true (show Re.rank a < Re.rank c by omega)]
      rfl
    subst x0 y0 e0
    clear nA nB HX HY HZ HV t1
    cases Z
    · clear v0
      go_wp2_with fail
      refine (Rs.real a ha _).mono ?_
      rintro e w9 ⟨rfl, rfl⟩
      rw [HK.out]
      go_wp2_with fail
      refine (Rs.real b hb _).mono ?_
      rintro e w9 ⟨rfl, rfl⟩
      rw [HKb.out]
      go_wp2_with fail
      refine (Vn.bits (a : Int) _).mono ?_
      rintro e w28 ⟨rfl, hb'⟩
      replace B := Vm.then B hb'
      clear hb'
      go_wp2_with fail
      refine (Vn.bits (b : Int) _).mono ?_
      rintro e w29 ⟨rfl, hb'⟩
      replace B := Vm.then B hb'
      clear hb'
      go_wp2_with fail
      refine (Va.same (Vt.leaf 3 0 a ⟨#[]⟩) (Vt.leaf 3 0 b ⟨#[]⟩) _ _ _ (Vw.rLies a _ rfl ha _ _) (Vw.rLies b _ rfl hb _ _)).mono ?_
      rintro e w30 ⟨rfl, hb'⟩
      rw [Vw.real_same]
      replace B := Vm.then B hb'
      clear hb'
      rw [HE.out]
      go_wp2
      go_ret
      exact ⟨rfl, B⟩
    · have v1 := v0 rfl
      clear v0
      subst v1
      go_wp2_with fail
      refine (Rs.real a ha _).mono ?_
      rintro e w9 ⟨rfl, rfl⟩
      rw [HK.out]
      go_wp2_with fail
      refine (Rs.real b hb _).mono ?_
      rintro e w9 ⟨rfl, rfl⟩
      rw [HKb.out]
      go_wp2_with fail
      refine (Vn.bits (a : Int) _).mono ?_
      rintro e w31 ⟨rfl, hb'⟩
      replace B := Vm.then B hb'
      clear hb'
      go_wp2_with fail
      refine (Vn.bits (b : Int) _).mono ?_
      rintro e w32 ⟨rfl, hb'⟩
      replace B := Vm.then B hb'
      clear hb'
      go_wp2_with fail
      refine (Va.same (Vt.leaf 3 0 a ⟨#[]⟩) (Vt.leaf 3 0 b ⟨#[]⟩) _ _ _ (Vw.rLies a _ rfl ha _ _) (Vw.rLies b _ rfl hb _ _)).mono ?_
      rintro e w33 ⟨rfl, hb'⟩
      rw [Vw.real_same]
      replace B := Vm.then B hb'
      clear hb'
      rw [HE.out]
      go_wp2
      go_ret
      exact ⟨rfl, B⟩
  · have x0 : X = false := by rw [← HX.out, decide_eq_false (show ¬ Re.rank a < Re.rank b by omega)]; simp
    have y0 : Y = true := by rw [← HY.out, nA, nB, decide_eq_true t1]; rfl
    have e0 : E = false := by rw [← HE.out, decide_eq_false (show ¬ Re.rank a = Re.rank b by omega)]; simp
    subst x0 y0 e0
    clear nA nB HX HY HZ HV t1
    go_wp2_with fail
    refine (Rs.real a ha _).mono ?_
    rintro e w9 ⟨rfl, rfl⟩
    rw [HK.out]
    go_wp2_with fail
    refine (Rs.real b hb _).mono ?_
    rintro e w9 ⟨rfl, rfl⟩
    rw [HKb.out]
    go_wp2_with fail
    refine (Vn.bits (a : Int) _).mono ?_
    rintro e w34 ⟨rfl, hb'⟩
    replace B := Vm.then B hb'
    clear hb'
    go_wp2_with fail
    refine (Vn.bits (b : Int) _).mono ?_
    rintro e w35 ⟨rfl, hb'⟩
    replace B := Vm.then B hb'
    clear hb'
    go_wp2_with fail
    refine (Va.same (Vt.leaf 3 0 a ⟨#[]⟩) (Vt.leaf 3 0 b ⟨#[]⟩) _ _ _ (Vw.rLies a _ rfl ha _ _) (Vw.rLies b _ rfl hb _ _)).mono ?_
    rintro e w36 ⟨rfl, hb'⟩
    rw [Vw.real_same]
    replace B := Vm.then B hb'
    clear hb'
    rw [HE.out]
    go_wp2
    go_ret
    exact ⟨rfl, B⟩
  · have x0 : X = false := by rw [← HX.out, decide_eq_false (show ¬ Re.rank a < Re.rank b by omega)]; simp
    have y0 : Y = false := by rw [← HY.out, decide_eq_false (show ¬ Re.rank b < Re.rank a by omega)]; simp
    have e0 : E = true := by rw [← HE.out, nA, decide_eq_true t1]; rfl
    subst x0 y0 e0
    clear nA nB HX HY HZ HV t1
    go_wp2_with fail
    refine (Rs.real a ha _).mono ?_
    rintro e w9 ⟨rfl, rfl⟩
    rw [HK.out]
    go_wp2_with fail
    refine (Rs.real b hb _).mono ?_
    rintro e w9 ⟨rfl, rfl⟩
    rw [HKb.out]
    go_wp2_with fail
    refine (Vn.bits (a : Int) _).mono ?_
    rintro e w37 ⟨rfl, hb'⟩
    replace B := Vm.then B hb'
    clear hb'
    go_wp2_with fail
    refine (Vn.bits (b : Int) _).mono ?_
    rintro e w38 ⟨rfl, hb'⟩
    replace B := Vm.then B hb'
    clear hb'
    go_wp2_with fail
    refine (Va.same (Vt.leaf 3 0 a ⟨#[]⟩) (Vt.leaf 3 0 b ⟨#[]⟩) _ _ _ (Vw.rLies a _ rfl ha _ _) (Vw.rLies b _ rfl hb _ _)).mono ?_
    rintro e w39 ⟨rfl, hb'⟩
    rw [Vw.real_same]
    replace B := Vm.then B hb'
    clear hb'
    rw [HE.out]
    go_wp2
    go_ret
    exact ⟨rfl, B⟩
end Go.Proofs.YtmiabkoodoekdaaDoor
