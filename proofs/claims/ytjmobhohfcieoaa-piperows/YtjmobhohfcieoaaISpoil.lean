/-
  THE WALK of stolelaw0.SpoilPipe: texts become texts, numbers numbers, in the pipe's own blocks; nothing else turns.
-/
import Derived.Test.YtjmobhohfcieoaaIPipeMay
import Derived.Test.YtjmobhohfcieoaaGSpoil
import Derived.RegionTactic
namespace Go.Proofs.Ytjmobhohfcieoaa
open Go.RowKit
/-- a pipe as it is answered: few commands, arguments, names; texts of at most L bytes -/
def Cm.Few (cs : List Cm) (L : Nat) : Prop := cs.length ≤ 8 ∧ ∀ c ∈ cs, c.fn.length ≤ L ∧ c.args.length ≤ 8 ∧ ∀ x ∈ c.args, x.path.length ≤ 8 ∧ ∀ t ∈ x.path, t.length ≤ L
theorem Sw.Txts.of {w : World} {R : Nat → Prop} {ts : List (List UInt8)} {a : Option Addr} {n d L : Nat} (h : St.Lies w R ts (.slice a n d)) (hU : ∀ k, R k → Rm.Ub w k) (hL : ∀ t ∈ ts, t.length ≤ L) : Sw.Txts w R a n L := by
  obtain ⟨a', d', e, h1, h2, hx⟩ := h
  injection e with e1 e2 e3
  subst e1 e2
  intro j hj
  obtain ⟨b, o, ea, hb, c⟩ := hx j ts[j] (List.getElem?_eq_getElem hj)
  exact ⟨b, o, _, ea, hb, fun q => hU b hb q, c, by show ts[j].toArray.size ≤ L; rw [List.size_toArray]; exact hL _ (List.getElem_mem hj)⟩
theorem Sw.drew1 {R : Nat → Prop} {n : Nat} {w w1 : World} (h : Sw.Rel R n w w1) : Sw.Rel R n w w1.drew := ⟨h.os, h.tape, h.output, h.size, h.out, h.str, h.num, h.row, h.fz⟩
set_option maxRecDepth 100000 in
set_option maxHeartbeats 4000000 in
theorem Sy.pipeR (cs : List Cm) (v : Value) (R : Nat → Prop) (L n : Nat) (w wu : World) (h : Dt.Lies w R (Cm.rows cs) v) (hU : ∀ k, R k → Rm.Ub w k) (hz : Cm.Few cs L) (hL : L + n ≤ 1152921504606846976) (hr : Sw.Rel R n w wu) :
    Calls Try.prog 11 #[v] wu fun e w' => e = .returned (.tuple #[]) ∧ Sw.Rel R (n + 1000) w w' := by
  obtain ⟨a, d, rfl, hd, hm, hx⟩ := Cm.get h
  obtain ⟨hn, hz⟩ := hz
  have HX := Lib.hid hx
  have HZ := Lib.hid hz
  have HU := Lib.hid hU
  have HRR := Lib.hid hr
  clear hx hz h hm hU hr
  go_enter Try.func11, Try.ntmps11
  go_wp2_with fail
  go_loopw [2] (fun iv wr => ∃ i : Nat, i ≤ cs.length ∧ iv = .int .i64 (i : Int) ∧ Hid (Sw.Rel R (n + i * 65) w wr)) (fun iv _ => cs.length - (intOf iv).toNat)
  case atStart => exact ⟨0, Nat.zero_le _, rfl, by unfold Hid; rw [Nat.zero_mul]; exact HRR.out⟩
  case round =>
    obtain ⟨i, hi, rfl, HR⟩ := hrel
    by_cases hlt : i < cs.length
    · have dlt : decide ((i : Int) < (cs.length : Int)) = true := decide_eq_true (by omega)
      obtain ⟨b, o, av, rfl, hb, c0, c1, hl⟩ := HX.out i cs[i] (List.getElem?_eq_getElem hlt)
      have hzc := HZ.out cs[i] (List.getElem_mem hlt)
      obtain ⟨a3, d3, rfl, hd3, hm3, hx3⟩ := Ar.get hl
      have hid : i < d := by omega
      generalize cs[i] = c at *
      have HX3 := Lib.hid hx3
      have HZC := Lib.hid hzc.2.2
      have hac := hzc.2.1
      have hfl := hzc.1
      clear hx3 hl hzc hm3
      go_wp2_with fail
      go_loopw [3] (fun jv wr => ∃ j : Nat, j ≤ c.args.length ∧ jv = .int .i64 (j : Int) ∧ Hid (Sw.Rel R (n + i * 65 + j * 8) w wr)) (fun jv _ => c.args.length - (intOf jv).toNat)
      case atStart => exact ⟨0, Nat.zero_le _, rfl, HR⟩
      case round =>
        clear HR
        obtain ⟨j, hj, rfl, HR⟩ := hrel
        have k1 := HR.out.row _ _ _ _ _ c1
        by_cases hjl : j < c.args.length
        · have dlj : decide ((j : Int) < (c.args.length : Int)) = true := decide_eq_true (by omega)
          obtain ⟨b3, o3, pv3, rfl, hb3, x0, x1, x2, x3, x4, hp3⟩ := HX3.out j c.args[j] (List.getElem?_eq_getElem hjl)
          have hzp := HZC.out c.args[j] (List.getElem_mem hjl)
          obtain ⟨ap, dp, rfl, hdp, _, _⟩ := id hp3
          have tx := (Sw.Txts.of hp3 HU.out hzp.2).on HR.out
          generalize c.args[j] = z at *
          have hp8 := hzp.1
          have sp := Sw.texts R ap z.path.length dp _ wr tx (by omega) hdp (by omega)
          have y2 := HR.out.row _ _ _ _ _ x2
          have hjd : j < d3 := by omega
          clear hp3 tx hzp
          go_upto_region 7 with (go_at_call 24; refine sp.mono ?_; rintro e w1 ⟨rfl, q1⟩; have HQ := Lib.hid (HR.out.trans q1); clear q1 sp; have r1 := HQ.out.row _ _ _ _ _ c1; obtain ⟨y, r0⟩ := HQ.out.num _ _ _ x0; have rf : ∀ q, w1.frozen? ⟨b3, q, none⟩ = false := fun q => (HQ.out.fz _ _).trans (HU.out b3 hb3 q))
          clear k1 y2
          go_region
          all_goals go_wp2
          all_goals go_roundw
          all_goals first
            | exact ⟨j + 1, by omega, by go_num, Sw.drew1 ((HQ.out.trans (Sw.setN hb3 r0)).wide (by omega))⟩
            | (simp [intOf]; omega)
        · have ej : j = c.args.length := by omega
          have dlj : decide ((j : Int) < (c.args.length : Int)) = false := decide_eq_false (by omega)
          obtain ⟨s', k0, hs'⟩ := HR.out.str _ _ _ c0
          have hsf : (⟨c.fn.toArray⟩ : ByteArray).size = c.fn.length := by show c.fn.toArray.size = _; rw [List.size_toArray]
          have hsz : (s' ++ (⟨#[33]⟩ : ByteArray)).size = s'.size + 1 := by rw [ByteArray.size_append]; rfl
          obtain ⟨S, hS⟩ : ∃ S, s' ++ (⟨#[33]⟩ : ByteArray) = S := ⟨_, rfl⟩
          rw [hS] at hsz
          have HN := Lib.hid ((HR.out.trans (Sw.set (s' := S) hb k0 (by omega))).wide (m := n + (i + 1) * 65) (by omega))
          have rf : ∀ q, wr.frozen? ⟨b, q, none⟩ = false := fun q => (HR.out.fz _ _).trans (HU.out b hb q)
          have hzz : s'.size ≤ 4611686018428387904 := by omega
          clear hs' hsf hsz
          go_wp2_with fail
          go_roundw
          case rel => exact ⟨i + 1, by omega, by go_num, HN⟩
          case measure => simp [intOf]; omega
    · have ei : i = cs.length := by omega
      subst ei
      have dlt : decide ((cs.length : Int) < (cs.length : Int)) = false := decide_eq_false (by omega)
      go_wp2_with fail
      go_end0
      exact ⟨rfl, HR.out.wide (by omega)⟩
theorem Sy.pipe (cs : List Cm) (v : Value) (R : Nat → Prop) (L : Nat) (w : World) (h : Dt.Lies w R (Cm.rows cs) v) (hU : ∀ k, R k → Rm.Ub w k) (hz : Cm.Few cs L) (hL : L ≤ 1152921504606846976) :
    Calls Try.prog 11 #[v] w fun e w' => e = .returned (.tuple #[]) ∧ Sw.Rel R 1000 w w' :=
  (Sy.pipeR cs v R L 0 w w h hU hz hL (Sw.Rel.refl _ _)).mono fun _ _ h => ⟨h.1, h.2.wide (by omega)⟩
end Go.Proofs.Ytjmobhohfcieoaa
