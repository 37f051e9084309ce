/-
  THE WALKS of the landed isFormed, areFormed, areFew: pipe.May.
-/
import Derived.Test.YtjmobhohfcieoaaKArgMay
import Derived.Test.YtjmobhohfcieoaaIHeld
import Derived.Test.YtjmobhohfcieoaaIPipeMay
namespace Go.Proofs.Ytjmobhohfcieoaa
open Go.RowKit
/-- is a command such as words ask for? -/
def Kf.head (first : Bool) (c : Cm) : Bool := Pi.isFn c.fn || (c.fn.isEmpty && (first && decide (c.args.length = 1)))
def Kf.formed (first : Bool) (c : Cm) : Bool := Kf.head first c && c.args.all Pi.argMay
def Kf.row : Nat → List Cm → Bool
  | _, [] => true
  | i, c :: cs => Kf.formed (decide (i = 0)) c && Kf.row (i + 1) cs
def Kf.few (cs : List Cm) : Bool := cs.all (fun c => decide (c.args.length ≤ 8)) && decide (cs.length ≤ 8)
theorem Kf.row_step {cs : List Cm} {i : Nat} (h : i < cs.length) : Kf.row i (cs.drop i) = (Kf.formed (decide (i = 0)) cs[i] && Kf.row (i + 1) (cs.drop (i + 1))) := by
  rw [List.drop_eq_getElem_cons h]
  rfl
theorem Kf.few_step {cs : List Cm} {i : Nat} (h : i < cs.length) : (cs.drop i).all (fun c => decide (c.args.length ≤ 8)) = (decide (cs[i].args.length ≤ 8) && (cs.drop (i + 1)).all (fun c => decide (c.args.length ≤ 8))) := by
  rw [List.drop_eq_getElem_cons h, List.all_cons]
theorem Kf.row_may (cs : List Cm) : ∀ i, Pi.rowMay i cs = (cs.all (fun c => decide (c.args.length ≤ 8)) && Kf.row i cs) := by
  induction cs with
  | nil => intro i; rfl
  | cons c cs ih =>
    intro i
    rw [Pi.rowMay, ih, List.all_cons, Kf.row, Kf.formed, Kf.head, Pi.cmdMay]
    cases Pi.isFn c.fn <;> cases c.fn.isEmpty <;> cases decide (i = 0) <;> cases decide (c.args.length = 1) <;> cases decide (c.args.length ≤ 8) <;> cases c.args.all Pi.argMay <;> cases cs.all (fun c => decide (c.args.length ≤ 8)) <;> rfl
theorem Kf.may_is (cs : List Cm) : Pi.may cs = (Kf.few cs && (Kf.row 0 cs && decide (0 < cs.length))) := by
  unfold Pi.may Kf.few
  rw [Kf.row_may, show decide (1 ≤ cs.length) = decide (0 < cs.length) from rfl]
  cases cs.all (fun c => decide (c.args.length ≤ 8)) <;> cases Kf.row 0 cs <;> cases decide (0 < cs.length) <;> cases decide (cs.length ≤ 8) <;> rfl
set_option maxRecDepth 100000 in
set_option maxHeartbeats 4000000 in
theorem Kf.isFormed (c : Cm) (first : Bool) (a3 : Option Addr) (d3 : Nat) (R : Nat → Prop) (w : World) (hl : Dt.Lies w R (Ar.rows c.args) (.slice a3 c.args.length d3)) (hz : ∀ x ∈ c.args, x.name.length ≤ 4611686018427387904 ∧ ∀ t ∈ x.path, t.length ≤ 4611686018427387904) :
    Calls Try.prog 29 #[.agg #[.string ⟨c.fn.toArray⟩, .slice a3 c.args.length d3], .bool first] w fun e w' => e = .returned (.bool (Kf.formed first c)) ∧ Below w.heap.size w w' := by
  obtain ⟨a3', d3', e3, hd3, hm3, hx3⟩ := Ar.get hl
  injection e3 with e3 _ e4
  subst e3 e4
  have hm5 : c.args.length ≤ 9223372036854775807 := by unfold maxLen at hm3; omega
  have fn := fun u => Kf.fn ⟨c.fn.toArray⟩ u
  have efn : (⟨c.fn.toArray⟩ : ByteArray).data.toList = c.fn := rfl
  rw [efn] at fn
  have t1 := Pi.isEmpty_list ⟨c.fn.toArray⟩
  have t2 := Pi.beq_nil ⟨c.fn.toArray⟩
  rw [efn] at t1 t2
  have HX3 := Lib.hid hx3
  have HZ := Lib.hid hz
  obtain ⟨B, hB⟩ : ∃ B, Kf.formed first c = B := ⟨_, rfl⟩
  rw [hB]
  unfold Kf.formed at hB
  obtain ⟨C, hC⟩ : ∃ C, Kf.head first c = C := ⟨_, rfl⟩
  rw [hC] at hB
  have HB := Lib.hid hB
  have HC := Lib.hid hC
  clear hl hx3 hz hB hC efn hm3
  generalize (⟨c.fn.toArray⟩ : ByteArray) = T at *
  go_enter Try.func29, Try.ntmps29
  go_upto_region 1 with fail
  go_cut [25] from 7 to 26 (fun cv wx => cv = .bool (!C) ∧ wx = w.alloc (.cells #[.string T, .slice a3 c.args.length d3] 38))
  case first =>
    have hC := HC.out
    clear HC HB HX3 HZ
    unfold Kf.head at hC
    have e1 : ((c.args.length : Int) == 1) = decide (c.args.length = 1) := by by_cases q : c.args.length = 1 <;> simp [q]; omega
    generalize Pi.isFn c.fn = f1 at *
    generalize c.fn.isEmpty = f2 at *
    generalize decide (c.args.length = 1) = f4 at *
    cases f1 with
    | true =>
      subst hC
      go_wp2_with (go_at_call 38; refine (fn _).mono ?_; rintro e w1 ⟨rfl, hw⟩; have hw := hw.symm; subst hw)
      go_meet
      exact ⟨rfl, rfl⟩
    | false =>
      cases f2 with
      | false =>
        subst hC
        go_wp2_with (go_at_call 38; refine (fn _).mono ?_; rintro e w1 ⟨rfl, hw⟩; have hw := hw.symm; subst hw)
        go_meet
        exact ⟨rfl, rfl⟩
      | true =>
        cases first with
        | false =>
          subst hC
          go_wp2_with (go_at_call 38; refine (fn _).mono ?_; rintro e w1 ⟨rfl, hw⟩; have hw := hw.symm; subst hw)
          go_meet
          exact ⟨rfl, rfl⟩
        | true =>
          cases f4 <;> subst hC
          all_goals
            go_wp2_with (go_at_call 38; refine (fn _).mono ?_; rintro e w1 ⟨rfl, hw⟩; have hw := hw.symm; subst hw)
            go_meet
            exact ⟨rfl, rfl⟩
  case rest =>
    obtain ⟨rfl, hw⟩ := hcut
    have HW0 : Hid (Below w.heap.size w wc) := by rw [hw]; exact Pr.boxed _ _
    have hq : Bs.Box wc w.heap.size #[.string T, .slice a3 c.args.length d3] 38 := by rw [hw]; exact Bs.Box.new _ _ _ _ rfl
    have HQ := Lib.hid hq
    have q1 := hq.cell 1 rfl
    clear hq hw HC fn t1 t2
    cases C with
    | false =>
      have hB : false = B := HB.out
      subst hB
      clear HB HX3 HZ HQ
      go_wp2_with fail
      go_ret
      exact ⟨rfl, HW0.out⟩
    | true =>
      have HB2 : Hid (c.args.all Pi.argMay = B) := HB.out
      clear HB
      go_wp2_with fail
      go_loopw [29] (fun jv wr => ∃ j : Nat, j ≤ c.args.length ∧ jv = .int .i64 (j : Int) ∧ Hid ((c.args.drop j).all Pi.argMay = B) ∧ Hid (Below w.heap.size w wr)) (fun jv _ => c.args.length - (intOf jv).toNat)
      case atStart => exact ⟨0, Nat.zero_le _, rfl, HB2, HW0⟩
      case round =>
        clear HB2 HW0 HQ q1
        obtain ⟨j, hj, rfl, HJ, HV⟩ := hrel
        by_cases hjl : j < c.args.length
        · have dlj : decide ((j : Int) < (c.args.length : Int)) = true := decide_eq_true (by omega)
          obtain ⟨b3, o3, pv3, rfl, _, x0, x1, x2, x3, x4, hp3⟩ := HX3.out j c.args[j] (List.getElem?_eq_getElem hjl)
          have hstj := (Pi.all_arg hjl).symm.trans HJ.out
          have hzj := HZ.out c.args[j] (List.getElem_mem hjl)
          have x0 := Tp.keep HV.out x0
          have x1 := Tp.keep HV.out x1
          have x2 := Tp.keep HV.out x2
          have x3 := Tp.keep HV.out x3
          have x4 := Tp.keep HV.out x4
          have hjd : j < d3 := by omega
          have am := fun o => Kf.arg c.args[j] pv3 _ (wr.alloc o) ((hp3.later HV.out).boxed o) hzj.2 hzj.1
          obtain ⟨ap, dp, rfl, _, _, _⟩ := hp3
          generalize c.args[j] = z at *
          obtain ⟨q, hq⟩ : ∃ q, Pi.argMay z = q := ⟨_, rfl⟩
          rw [hq] at am hstj
          clear hzj hq HJ HX3 HZ
          cases q with
          | false =>
            have hB : false = B := hstj
            subst hB
            clear hstj
            go_wp2_with (go_at_call 39; refine (am _).mono ?_; rintro e w1 ⟨rfl, b1⟩; have B1 := Lib.hid ((HV.out.alloc HV.out.size _).trans (b1.mono (by simp; have := HV.out.size; omega))); clear b1 am)
            go_ret
            exact ⟨rfl, B1.out⟩
          | true =>
            have HSK : Hid ((c.args.drop (j + 1)).all Pi.argMay = B) := hstj
            clear hstj
            go_wp2_with (go_at_call 39; refine (am _).mono ?_; rintro e w1 ⟨rfl, b1⟩; have B1 := Lib.hid ((HV.out.alloc HV.out.size _).trans (b1.mono (by simp; have := HV.out.size; omega))); clear b1 am)
            go_roundw
            case rel => exact ⟨j + 1, by omega, by go_num, HSK, B1⟩
            case measure => simp [intOf]; omega
        · have ej : j = c.args.length := by omega
          subst ej
          have dlj : decide ((c.args.length : Int) < (c.args.length : Int)) = false := decide_eq_false (by omega)
          have hB : true = B := by
            rw [← HJ.out, List.drop_length]
            rfl
          subst hB
          clear HJ HX3 HZ
          go_wp2_with fail
          go_ret
          exact ⟨rfl, HV.out⟩
set_option maxRecDepth 100000 in
set_option maxHeartbeats 4000000 in
theorem Kf.areFormed (cs : List Cm) (v : Value) (R : Nat → Prop) (w : World) (h : Dt.Lies w R (Cm.rows cs) v) (hz : Cm.Fits cs) :
    Calls Try.prog 18 #[v] w fun e w' => e = .returned (.bool (Kf.row 0 cs && decide (0 < cs.length))) ∧ Below w.heap.size w w' := by
  obtain ⟨a, d, rfl, hd, hm, hx⟩ := Cm.get h
  obtain ⟨B, hB⟩ : ∃ B, (Kf.row 0 cs && decide (0 < cs.length)) = B := ⟨_, rfl⟩
  rw [hB]
  have HB := Lib.hid hB
  have HX := Lib.hid hx
  have HZ := Lib.hid hz
  have hml : cs.length ≤ 9223372036854775807 := by unfold maxLen at hm; omega
  clear hB hx hz h hm
  go_enter Try.func18, Try.ntmps18
  go_wp2_with fail
  go_loopw [7] (fun iv wr => ∃ i : Nat, i ≤ cs.length ∧ iv = .int .i64 (i : Int) ∧ Hid (Kf.row 0 cs = Kf.row i (cs.drop i)) ∧ Hid (Below w.heap.size w wr)) (fun iv _ => cs.length - (intOf iv).toNat)
  case atStart => exact ⟨0, Nat.zero_le _, rfl, by unfold Hid; rw [List.drop_zero], Below.refl _ _⟩
  case round =>
    obtain ⟨i, hi, rfl, HI, HW⟩ := hrel
    by_cases hlt : i < cs.length
    · have dlt : decide ((i : Int) < (cs.length : Int)) = true := decide_eq_true (by omega)
      obtain ⟨b, o, av, rfl, _, c0, c1, hl⟩ := HX.out i cs[i] (List.getElem?_eq_getElem hlt)
      have hst := HI.out.trans (Kf.row_step hlt)
      have hzc := HZ.out cs[i] (List.getElem_mem hlt)
      have c0 := Tp.keep HW.out c0
      have c1 := Tp.keep HW.out c1
      have hl := hl.later HW.out
      obtain ⟨a3, d3, rfl, _, _, _⟩ := Ar.get hl
      have hid : i < d := by omega
      have e0 : ((i : Int) == 0) = decide (i = 0) := by by_cases q : i = 0 <;> simp [q]
      have fo := fun o => Kf.isFormed cs[i] (decide (i = 0)) a3 d3 (fun _ => True) (wr.alloc o) (hl.later ((Below.refl _ _).alloc (Nat.le_refl _) o)) hzc
      generalize cs[i] = c at *
      generalize decide (i = 0) = fi at *
      obtain ⟨q, hq⟩ : ∃ q, Kf.formed fi c = q := ⟨_, rfl⟩
      rw [hq] at fo hst
      have HST := Lib.hid hst
      clear hq hst hl hzc HI HX HZ
      cases q with
      | false =>
        have hB : false = B := by
          rw [← HB.out, HST.out]
          rfl
        subst hB
        clear HST HB
        go_wp2_with (go_at_call 29; refine (fo _).mono ?_; rintro e w1 ⟨rfl, b1⟩; have B1 := Lib.hid ((HW.out.alloc HW.out.size _).trans (b1.mono (by simp; have := HW.out.size; omega))); clear b1 fo)
        go_ret
        exact ⟨rfl, B1.out⟩
      | true =>
        have HN : Hid (Kf.row 0 cs = Kf.row (i + 1) (cs.drop (i + 1))) := HST.out
        clear HST
        go_wp2_with (go_at_call 29; refine (fo _).mono ?_; rintro e w1 ⟨rfl, b1⟩; have B1 := Lib.hid ((HW.out.alloc HW.out.size _).trans (b1.mono (by simp; have := HW.out.size; omega))); clear b1 fo)
        go_roundw
        case rel => exact ⟨i + 1, by omega, by go_num, HN, B1⟩
        case measure => simp [intOf]; omega
    · have ei : i = cs.length := by omega
      subst ei
      have dlt : decide ((cs.length : Int) < (cs.length : Int)) = false := decide_eq_false (by omega)
      have e1 : decide ((0 : Int) < (cs.length : Int)) = B := by
        rw [← HB.out, HI.out, List.drop_length]
        show _ = (true && _)
        rw [Bool.true_and]
        exact decide_eq_decide.2 (by omega)
      have e2 : decide (0 < cs.length) = B := by rw [← e1]; exact decide_eq_decide.2 (by omega)
      clear HB HI HX HZ
      go_wp2_with fail
      go_ret
      exact ⟨by first | rfl | exact congrArg (fun b => Ending.returned (.bool b)) e1 | exact congrArg (fun b => Ending.returned (.bool b)) e2, HW.out⟩
set_option maxRecDepth 100000 in
set_option maxHeartbeats 4000000 in
theorem Kf.areFew (cs : List Cm) (v : Value) (R : Nat → Prop) (w : World) (h : Dt.Lies w R (Cm.rows cs) v) :
    Calls Try.prog 19 #[v] w fun e w' => e = .returned (.bool (Kf.few cs)) ∧ Below w.heap.size w w' := by
  obtain ⟨a, d, rfl, hd, hm, hx⟩ := Cm.get h
  obtain ⟨B, hB⟩ : ∃ B, Kf.few cs = B := ⟨_, rfl⟩
  rw [hB]
  unfold Kf.few at hB
  have HB := Lib.hid hB
  have HX := Lib.hid hx
  have hml : cs.length ≤ 9223372036854775807 := by unfold maxLen at hm; omega
  clear hB hx h hm
  go_enter Try.func19, Try.ntmps19
  go_wp2_with fail
  go_loopw [7] (fun iv wr => ∃ i : Nat, i ≤ cs.length ∧ iv = .int .i64 (i : Int) ∧ Hid (cs.all (fun c => decide (c.args.length ≤ 8)) = (cs.drop i).all (fun c => decide (c.args.length ≤ 8))) ∧ Hid (Below w.heap.size w wr)) (fun iv _ => cs.length - (intOf iv).toNat)
  case atStart => exact ⟨0, Nat.zero_le _, rfl, by unfold Hid; rw [List.drop_zero], Below.refl _ _⟩
  case round =>
    obtain ⟨i, hi, rfl, HI, HW⟩ := hrel
    by_cases hlt : i < cs.length
    · have dlt : decide ((i : Int) < (cs.length : Int)) = true := decide_eq_true (by omega)
      obtain ⟨b, o, av, rfl, _, c0, c1, hl⟩ := HX.out i cs[i] (List.getElem?_eq_getElem hlt)
      have hst := HI.out.trans (Kf.few_step hlt)
      have c0 := Tp.keep HW.out c0
      have c1 := Tp.keep HW.out c1
      obtain ⟨a3, d3, rfl, _, _, _⟩ := Ar.get hl
      have hid : i < d := by omega
      have e8 : decide ((8 : Int) < (cs[i].args.length : Int)) = !decide (cs[i].args.length ≤ 8) := by by_cases q : cs[i].args.length ≤ 8 <;> simp [q] <;> omega
      generalize cs[i] = c at *
      generalize decide (c.args.length ≤ 8) = q at *
      have HST := Lib.hid hst
      clear hst hl HI HX
      cases q with
      | false =>
        have hB : false = B := by
          rw [← HB.out, HST.out]
          rfl
        subst hB
        clear HST HB
        go_wp2_with fail
        go_ret
        exact ⟨rfl, (HW.out.alloc HW.out.size _)⟩
      | true =>
        have HN : Hid (cs.all (fun c => decide (c.args.length ≤ 8)) = (cs.drop (i + 1)).all (fun c => decide (c.args.length ≤ 8))) := HST.out
        clear HST
        go_wp2_with fail
        go_roundw
        case rel => exact ⟨i + 1, by omega, by go_num, HN, (HW.out.alloc HW.out.size _)⟩
        case measure => simp [intOf]; omega
    · have ei : i = cs.length := by omega
      subst ei
      have dlt : decide ((cs.length : Int) < (cs.length : Int)) = false := decide_eq_false (by omega)
      have e1 : decide ((cs.length : Int) ≤ 8) = B := by
        rw [← HB.out, HI.out, List.drop_length]
        show _ = (true && _)
        rw [Bool.true_and]
        exact decide_eq_decide.2 (by omega)
      have e2 : decide (cs.length ≤ 8) = B := by rw [← e1]; exact decide_eq_decide.2 (by omega)
      clear HB HI HX
      go_wp2_with fail
      go_ret
      exact ⟨by first | rfl | exact congrArg (fun b => Ending.returned (.bool b)) e1 | exact congrArg (fun b => Ending.returned (.bool b)) e2, HW.out⟩
set_option maxHeartbeats 1000000 in
theorem Kf.may (cs : List Cm) (v : Value) (R : Nat → Prop) (w : World) (h : Dt.Lies w R (Cm.rows cs) v) (hz : Cm.Fits cs) :
    Calls Try.prog 13 #[v] w fun e w' => e = .returned (.bool (Pi.may cs)) ∧ Below w.heap.size w w' := by
  have c1 := Kf.areFew cs v R w h
  have c2 := fun u (hb : Below w.heap.size w u) => Kf.areFormed cs v (fun _ => True) u (h.later hb) hz
  rw [Kf.may_is]
  generalize Kf.few cs = f1 at *
  generalize (Kf.row 0 cs && decide (0 < cs.length)) = f2 at *
  clear h hz
  cases f1 with
  | false =>
    go_enter Try.func13, Try.ntmps13
    go_wp2_with (go_at_call 19; refine c1.mono ?_; rintro e w1 ⟨rfl, hb⟩)
    go_ret
    exact ⟨rfl, hb⟩
  | true =>
    go_enter Try.func13, Try.ntmps13
    go_wp2_with (first | (go_at_call 19; refine c1.mono ?_; rintro e w1 ⟨rfl, hb⟩; have HB := Lib.hid hb; clear hb) | (go_at_call 18; refine (c2 _ HB.out).mono ?_; rintro e w2 ⟨rfl, hb2⟩))
    go_ret
    exact ⟨by simp, HB.out.trans (hb2.mono HB.out.size)⟩
end Go.Proofs.Ytjmobhohfcieoaa
