/-
  THE WALK of the reference's PipeMay.
-/
import Derived.Test.YtjmobhohfcieoaaIParse
namespace Go.Proofs.Ytjmobhohfcieoaa
open Go.RowKit
/-- an argument's five cells -/
theorem Ar.get {w : World} {R : Nat → Prop} {l : List Ar} {v : Value} (h : Dt.Lies w R (Ar.rows l) v) :
    ∃ a d, v = .slice a l.length d ∧ l.length ≤ d ∧ d ≤ maxLen ∧ ∀ i x, l[i]? = some x → ∃ b o pv, a = some ⟨b, o, none⟩ ∧ R b ∧ w.cell? ⟨b, o + i * 5, none⟩ = some (.int .i64 x.kind) ∧ w.cell? ⟨b, o + i * 5 + 1, none⟩ = some (.string ⟨x.name.toArray⟩) ∧ w.cell? ⟨b, o + i * 5 + 2, none⟩ = some pv ∧ w.cell? ⟨b, o + i * 5 + 3, none⟩ = some (.int .i64 x.num) ∧ w.cell? ⟨b, o + i * 5 + 4, none⟩ = some (.string ⟨x.text.toArray⟩) ∧ St.Lies w R x.path pv := by
  obtain ⟨a, d, e, h1, h2, hx⟩ := h.get (fun _ => rfl) (by decide)
  refine ⟨a, d, e, h1, h2, fun i x hi => ?_⟩
  obtain ⟨b, o, ea, hb, hc⟩ := hx i x hi
  obtain ⟨u0, c0, l0⟩ := hc 0 _ rfl
  obtain ⟨u1, c1, l1⟩ := hc 1 _ rfl
  obtain ⟨u2, c2, l2⟩ := hc 2 _ rfl
  obtain ⟨u3, c3, l3⟩ := hc 3 _ rfl
  obtain ⟨u4, c4, l4⟩ := hc 4 _ rfl
  unfold Dt.Lies at l0 l1 l3 l4
  subst l0 l1 l3 l4
  exact ⟨b, o, u2, ea, hb, c0, c1, c2, c3, c4, Dt.Lies.texts l2⟩
/-- a command's two cells -/
theorem Cm.get {w : World} {R : Nat → Prop} {l : List Cm} {v : Value} (h : Dt.Lies w R (Cm.rows l) v) :
    ∃ a d, v = .slice a l.length d ∧ l.length ≤ d ∧ d ≤ maxLen ∧ ∀ i x, l[i]? = some x → ∃ b o av, a = some ⟨b, o, none⟩ ∧ R b ∧ w.cell? ⟨b, o + i * 2, none⟩ = some (.string ⟨x.fn.toArray⟩) ∧ w.cell? ⟨b, o + i * 2 + 1, none⟩ = some av ∧ Dt.Lies w R (Ar.rows x.args) av := by
  obtain ⟨a, d, e, h1, h2, hx⟩ := h.get (fun _ => rfl) (by decide)
  refine ⟨a, d, e, h1, h2, fun i x hi => ?_⟩
  obtain ⟨b, o, ea, hb, hc⟩ := hx i x hi
  obtain ⟨u0, c0, l0⟩ := hc 0 _ rfl
  obtain ⟨u1, c1, l1⟩ := hc 1 _ rfl
  unfold Dt.Lies at l0
  subst l0
  exact ⟨b, o, u1, ea, hb, c0, c1, l1⟩
/-- texts that are not too great -/
def Cm.Fits (cs : List Cm) : Prop := ∀ c ∈ cs, ∀ x ∈ c.args, x.name.length ≤ 4611686018427387904 ∧ ∀ t ∈ x.path, t.length ≤ 4611686018427387904
theorem Pi.all_arg {l : List Ar} {i : Nat} (h : i < l.length) : (l.drop i).all Pi.argMay = (Pi.argMay l[i] && (l.drop (i + 1)).all Pi.argMay) := by rw [List.drop_eq_getElem_cons h, List.all_cons]
theorem Pi.row_step {cs : List Cm} {i : Nat} (h : i < cs.length) : Pi.rowMay i (cs.drop i) = (Pi.cmdMay i cs[i] && Pi.rowMay (i + 1) (cs.drop (i + 1))) := by
  rw [List.drop_eq_getElem_cons h]
  rfl
/-- the condition ahead of the arguments -/
def Pi.headBad (i : Nat) (c : Cm) : Bool := (!Pi.isFn c.fn && (!c.fn.isEmpty || (decide (0 < i) || !decide (c.args.length = 1)))) || decide (8 < c.args.length)
theorem Pi.cmd_head (i : Nat) (c : Cm) : Pi.cmdMay i c = (!Pi.headBad i c && c.args.all Pi.argMay) := by
  unfold Pi.cmdMay Pi.headBad
  rw [show decide (c.args.length ≤ 8) = !decide (8 < c.args.length) by by_cases h : 8 < c.args.length <;> simp [h]; omega, show decide (i = 0) = !decide (0 < i) by by_cases h : 0 < i <;> simp [h] <;> omega]
  cases Pi.isFn c.fn <;> cases c.fn.isEmpty <;> cases decide (0 < i) <;> cases decide (c.args.length = 1) <;> cases decide (8 < c.args.length) <;> cases c.args.all Pi.argMay <;> rfl
set_option maxRecDepth 100000 in
set_option maxHeartbeats 4000000 in
theorem Pr.may (cs : List Cm) (v : Value) (R : Nat → Prop) (w : World) (h : Dt.Lies w R (Cm.rows cs) v) (hn : cs.length ≤ 1048576) (hz : Cm.Fits cs) :
    Calls Try.prog 14 #[v] w fun e w' => e = .returned (.bool (Pi.may cs)) ∧ Below w.heap.size w w' := by
  obtain ⟨a, d, rfl, hd, hm, hx⟩ := Cm.get h
  obtain ⟨B, hB⟩ : ∃ B, Pi.may cs = B := ⟨_, rfl⟩
  rw [hB]
  have HB := Lib.hid hB
  have HX := Lib.hid hx
  have HZ := Lib.hid hz
  have hml : cs.length ≤ 9223372036854775807 := by omega
  clear hB hx hz h hm
  go_enter Try.func14, Try.ntmps14
  go_wp2_with fail
  go_loopw [3] (fun iv wr => ∃ i : Nat, i ≤ cs.length ∧ iv = .int .i64 (i : Int) ∧ Hid (Pi.rowMay 0 cs = Pi.rowMay i (cs.drop i)) ∧ Hid (Below w.heap.size w wr)) (fun iv _ => cs.length - (intOf iv).toNat)
  case atStart => exact ⟨0, Nat.zero_le _, rfl, by unfold Hid; rw [List.drop_zero], Below.refl _ _⟩
  case round =>
    obtain ⟨i, hi, rfl, HI, HW⟩ := hrel
    by_cases hlt : i < cs.length
    · have dlt : decide ((i : Int) < (cs.length : Int)) = true := decide_eq_true (by omega)
      obtain ⟨b, o, av, rfl, _, c0, c1, hl⟩ := HX.out i cs[i] (List.getElem?_eq_getElem hlt)
      have hst := HI.out.trans (Pi.row_step hlt)
      rw [Pi.cmd_head] at hst
      have hzc := HZ.out cs[i] (List.getElem_mem hlt)
      have k0 := c0
      have k1 := c1
      have c0 := Tp.keep HW.out c0
      have c1 := Tp.keep HW.out c1
      obtain ⟨a3, d3, rfl, hd3, hm3, hx3⟩ := Ar.get hl
      have hid : i < d := by omega
      have fn := fun u => Pr.fn ⟨cs[i].fn.toArray⟩ u
      have efn : (⟨cs[i].fn.toArray⟩ : ByteArray).data.toList = cs[i].fn := rfl
      rw [efn] at fn
      have t1 := Pi.isEmpty_list ⟨cs[i].fn.toArray⟩
      have t2 := Pi.beq_nil ⟨cs[i].fn.toArray⟩
      rw [efn] at t1 t2
      generalize cs[i] = c at *
      generalize (⟨c.fn.toArray⟩ : ByteArray) = T at *
      obtain ⟨C, hC⟩ : ∃ C, Pi.headBad i c = C := ⟨_, rfl⟩
      have HC := Lib.hid hC
      rw [hC] at hst
      have HST := Lib.hid hst
      have HX3 := Lib.hid hx3
      have hm5 : c.args.length ≤ 9223372036854775807 := by unfold maxLen at hm3; omega
      clear hC hst hl hx3 efn
      go_upto_region 4 with fail
      go_cut [47] from 5 to 67 (fun cv wx => cv = .bool C ∧ wx = wr)
      case first =>
        have hC := HC.out
        clear HC HST HI HX HX3 hzc
        unfold Pi.headBad at hC
        have e1 : ((c.args.length : Int) != 1) = !decide (c.args.length = 1) := by by_cases q : c.args.length = 1 <;> simp [q] <;> omega
        have e8 : decide ((8 : Int) < (c.args.length : Int)) = decide (8 < c.args.length) := by simp; omega
        generalize Pi.isFn c.fn = f1 at *
        generalize c.fn.isEmpty = f2 at *
        generalize decide (c.args.length = 1) = f4 at *
        generalize decide (8 < c.args.length) = f5 at *
        have t3 : (T.toList != []) = !f2 := by rw [bne, t2]
        rcases Nat.eq_zero_or_pos i with h0 | h0
        · subst h0
          simp only [Nat.zero_mul, Nat.add_zero] at c0 c1
          cases f1 <;> cases f2 <;> cases f4
          all_goals
            subst hC
            go_wp2_with (go_at_call 25; refine (fn _).mono ?_; rintro e w1 ⟨rfl, hw⟩; have hw := hw.symm; subst hw)
            go_meet
            exact ⟨rfl, rfl⟩
        · have e0 : decide ((0 : Int) < (i : Int)) = true := decide_eq_true (by omega)
          rw [decide_eq_true h0] at hC
          cases f1 <;> cases f2 <;> cases f4
          all_goals
            subst hC
            go_wp2_with (go_at_call 25; refine (fn _).mono ?_; rintro e w1 ⟨rfl, hw⟩; have hw := hw.symm; subst hw)
            go_meet
            exact ⟨rfl, rfl⟩
      case rest =>
        obtain ⟨rfl, hw⟩ := hcut
        subst hw
        clear HC HI fn t1 t2
        cases C with
        | true =>
          have hB : false = B := by
            rw [← HB.out, Pi.may, HST.out]
            rfl
          subst hB
          clear HST HB HX HX3
          go_wp2_with fail
          go_ret
          exact ⟨rfl, HW.out⟩
        | false =>
          have HST2 : Hid (Pi.rowMay 0 cs = (c.args.all Pi.argMay && Pi.rowMay (i + 1) (cs.drop (i + 1)))) := HST.out
          clear HST
          go_wp2_with fail
          go_loopw [4] (fun jv wr => ∃ j : Nat, j ≤ c.args.length ∧ jv = .int .i64 (j : Int) ∧ Hid (c.args.all Pi.argMay = (c.args.drop j).all Pi.argMay) ∧ Hid (Below w.heap.size w wr)) (fun jv _ => c.args.length - (intOf jv).toNat)
          case atStart => exact ⟨0, Nat.zero_le _, rfl, by unfold Hid; rw [List.drop_zero], HW⟩
          case round =>
            obtain ⟨j, hj, rfl, HJ, HV⟩ := hrel
            have c0 := Tp.keep HV.out k0
            have c1 := Tp.keep HV.out k1
            by_cases hjl : j < c.args.length
            · have dlj : decide ((j : Int) < (c.args.length : Int)) = true := decide_eq_true (by omega)
              obtain ⟨b3, o3, pv3, rfl, _, x0, x1, x2, x3, x4, hp3⟩ := HX3.out j c.args[j] (List.getElem?_eq_getElem hjl)
              have hstj := HJ.out.trans (Pi.all_arg hjl)
              have hzj := hzc c.args[j] (List.getElem_mem hjl)
              have x0 := Tp.keep HV.out x0
              have x1 := Tp.keep HV.out x1
              have x2 := Tp.keep HV.out x2
              have x3 := Tp.keep HV.out x3
              have x4 := Tp.keep HV.out x4
              have hjd : j < d3 := by omega
              have am := Pr.argMay c.args[j] pv3 _ wr (hp3.later HV.out) hzj.2 hzj.1
              obtain ⟨ap, dp, rfl, _, _, _⟩ := hp3
              generalize c.args[j] = z at *
              obtain ⟨q, hq⟩ : ∃ q, Pi.argMay z = q := ⟨_, rfl⟩
              rw [hq] at am hstj
              have HSJ := Lib.hid hstj
              clear hstj hzj hq HJ
              cases q with
              | false =>
                have hB : false = B := by
                  rw [← HB.out, Pi.may, HST2.out, HSJ.out]
                  rfl
                subst hB
                clear HSJ HST2 HB HX HX3
                go_wp2_with (go_at_call 26; refine am.mono ?_; rintro e w1 ⟨rfl, b1⟩; have B1 := Lib.hid (HV.out.trans (b1.mono HV.out.size)); clear b1 am)
                go_ret
                exact ⟨rfl, B1.out⟩
              | true =>
                have HSK : Hid (c.args.all Pi.argMay = (c.args.drop (j + 1)).all Pi.argMay) := HSJ.out
                clear HSJ
                go_wp2_with (go_at_call 26; refine am.mono ?_; rintro e w1 ⟨rfl, b1⟩; have B1 := Lib.hid (HV.out.trans (b1.mono HV.out.size)); clear b1 am)
                go_roundw
                case rel => exact ⟨j + 1, by omega, by go_num, HSK, B1⟩
                case measure => simp [intOf]; omega
            · have ej : j = c.args.length := by omega
              subst ej
              have dlj : decide ((c.args.length : Int) < (c.args.length : Int)) = false := decide_eq_false (by omega)
              have HSN : Hid (Pi.rowMay 0 cs = Pi.rowMay (i + 1) (cs.drop (i + 1))) := by
                unfold Hid
                rw [HST2.out, HJ.out, List.drop_length]
                rfl
              clear HST2 HJ HX3
              go_wp2_with fail
              go_roundw
              case rel => exact ⟨i + 1, by omega, by go_num, HSN, HV⟩
              case measure => simp [intOf]; omega
    · have ei : i = cs.length := by omega
      subst ei
      have dlt : decide ((cs.length : Int) < (cs.length : Int)) = false := decide_eq_false (by omega)
      have hB : (decide (1 ≤ cs.length) && decide (cs.length ≤ 8)) = B := by
        rw [← HB.out, Pi.may, HI.out, List.drop_length]
        rfl
      have e1 : decide ((1 : Int) ≤ (cs.length : Int)) = decide (1 ≤ cs.length) := by simp; omega
      have e8 : decide ((cs.length : Int) ≤ 8) = decide (cs.length ≤ 8) := by simp; omega
      generalize decide (1 ≤ cs.length) = f1 at *
      generalize decide (cs.length ≤ 8) = f2 at *
      clear HB HI HX
      cases f1 <;> cases f2
      all_goals
        subst hB
        go_wp2_with fail
        go_ret
        exact ⟨rfl, HW.out⟩
end Go.Proofs.Ytjmobhohfcieoaa
