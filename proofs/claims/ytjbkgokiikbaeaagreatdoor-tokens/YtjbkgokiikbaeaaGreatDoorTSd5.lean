/-
  THE WALK of the reference's byte: a comment of another kind ends.
-/
import Derived.Test.YtjbkgokiikbaeaaGreatDoorMTSd1toTSd2
import Derived.Test.YtjbkgokiikbaeaaGreatDoorMTRs9toTSc3
namespace Go.Proofs.YtjbkgokiikbaeaaGreatDoor
open Go.RowKit
set_option maxRecDepth 100000 in
set_option maxHeartbeats 8000000 in
theorem Sc.byteCom (P : ByteArray) (x : Rf) (i : Nat) (w : World) (g : Nat) (bv ov av : Value) (h : Sc.At w g P x bv ov av) (hf : Ts.Fit x.st) (hi : i < P.size) (hp : P.size ≤ 65536) (c : UInt8) (hc : P[i] = c) (N : Ts) (hN : x.st.step c = N) (_hE : ¬ ((x.st.pl = 22 ∧ N.pl = 0) ∨ (Rf.inTag x.st.pl ∧ ¬ Rf.inTag N.pl))) (_hV : ¬ Rf.inTag N.pl) (_hC : 13 ≤ x.st.pl ∧ x.st.pl ≤ 18 ∧ N.pl = 0) (h17 : ¬ x.st.pl = 17) (_h6 : x.hold + 2 ≤ i) (h0 : 0 ≤ x.hold) (hbl : x.buf.length ≤ 65536) (ho : x.out.length ≤ 1000000) (Z : Rf) (HZ : Hid (({ ({ x with st := N } : Rf).flush with out := ({ x with st := N } : Rf).flush.out ++ [⟨3, Ts.e, P.extract (x.hold.toNat + 2) i, [], false⟩], hold := -1 }) = Z)) :
    Calls Tryz.prog 34 #[.pointer (some ⟨g, 0, none⟩), .int .i64 (i : Int)] w fun e w' => e = .returned (.tuple #[]) ∧ ∃ bv' ov' av', Sc.At w' g P Z bv' ov' av' ∧ Sc.Kept w w' g bv ov av bv' ov' av' := by
  have HD3 : Hid (((x.st.pl == 22) = true ∧ (N.pl == 0) = false ∧ Ts.inTag x.st.pl = false) ∨ ((x.st.pl == 22) = false ∧ Ts.inTag x.st.pl = false) ∨ ((x.st.pl == 22) = false ∧ Ts.inTag x.st.pl = true ∧ Ts.inTag N.pl = true)) := by
    unfold Hid
    (try unfold Rf.inTag at *)
    (try unfold Rf.inText at *)
    simp only [beq_iff_eq, beq_eq_false_iff_ne, Ts.inTag, decide_eq_true_eq, decide_eq_false_iff_not, Bool.and_eq_true, Bool.and_eq_false_iff]
    omega
  have HD6 : Hid (Ts.inTag N.pl = false) := by
    unfold Hid
    (try unfold Rf.inTag at *)
    (try unfold Rf.inText at *)
    simp only [Ts.inTag, decide_eq_false_iff_not, Bool.and_eq_false_iff]
    omega
  have HD8 : Hid (decide ((13 : Int) ≤ x.st.pl) = true ∧ decide (x.st.pl ≤ 18) = true ∧ (N.pl == 0) = true) := by
    unfold Hid
    (try unfold Rf.inTag at *)
    (try unfold Rf.inText at *)
    simp only [beq_iff_eq, decide_eq_true_eq]
    omega
  have t17 : (x.st.pl == 17) = false := by exact beq_eq_false_iff_ne.2 h17
  obtain ⟨a, ha⟩ : ∃ a : Nat, x.hold = (a : Int) := ⟨x.hold.toNat, by omega⟩
  have HFL : Hid (({ x with st := N } : Rf).flush.out.length ≤ 1000001) := Nat.le_trans (Sc.flush_len ({ x with st := N } : Rf)) (by show x.out.length + 1 ≤ _; omega)
  have hfh : ({ x with st := N } : Rf).flush.hold = (a : Int) := by
    rw [← ha]
    unfold Rf.flush
    split <;> rfl
  have HFH := Lib.hid hfh
  have _h6' : a + 2 ≤ i := by omega
  have HT : Hid (P.extract (x.hold.toNat + 2) i = P.extract (a + 2) (i)) := by unfold Hid; rw [ha, Int.toNat_natCast]
  rw [HT.out] at HZ
  clear _hE _hV _hC h17 _h6 h0 ha HT hfh
  have c0 := h.box.cell 0 _ rfl
  have c1 := h.box.cell 1 _ rfl
  have c2 := h.box.cell 2 _ rfl
  have c3 := h.box.cell 3 _ rfl
  have c4 := h.box.cell 4 _ rfl
  have c5 := h.box.cell 5 _ rfl
  have c6 := h.box.cell 6 _ rfl
  have hst := fun u => Rs.step x.st hf c u
  simp only [hN] at hst
  have hcn : P[i].toNat = c.toNat := by rw [hc]
  clear hN
  have hlt := h.lt
  have n1 : w.heap.size ≠ g := by omega
  have n2 : g ≠ w.heap.size := by omega
  go_enter Tryz.func34, Tryz.ntmps34
  go_wp2_with fail
  obtain ⟨W, hW⟩ : ∃ W, w.alloc (.cells #[.int .i64 x.st.pl, .string x.st.name, .bool x.st.fin, .string x.st.attr, .string x.st.held, .int .i64 x.st.read] 23) = W := ⟨_, rfl⟩
  have hbW : Below w.heap.size w W := by rw [← hW]; exact (Below.refl _ _).alloc (Nat.le_refl _) _
  have hS : Sc.St W w.heap.size x.st := by rw [← hW]; exact Sc.six_cells _ _ _ _ _ _ _ _
  have k0 := hS 0 _ rfl
  have k1 := hS 1 _ rfl
  have k2 := hS 2 _ rfl
  have k3 := hS 3 _ rfl
  have k4 := hS 4 _ rfl
  have k5 := hS 5 _ rfl
  have y0 := Tp.keep hbW c0
  have hAW := h.on hbW
  rw [hW]
  clear hW c0 c1 c2 c3 c4 c5 c6
  have HAW := Lib.hid hAW
  have HKW := Lib.hid (Sc.Kept.of g bv ov av hbW)
  have HF := Lib.hid h.free
  have HS := Lib.hid hS
  clear h hS hbW hAW
  go_cut [] from 12 to 22 (fun wc => Hid (Sc.At wc g P { x with st := N } bv ov av ∧ Sc.Kept W wc g bv ov av bv ov av))
  case first =>
    go_region_with (go_at_call 9; refine (hst _).mono ?_; rintro e w1 ⟨rfl, hb1⟩; have hb1 := Sc.undrew hb1; have hA1 := HAW.out.on hb1; have e1 := hA1.box.cell 1 _ rfl; have e2 := hA1.box.cell 2 _ rfl; have e3 := hA1.box.cell 3 _ rfl; have e4 := hA1.box.cell 4 _ rfl; have e5 := hA1.box.cell 5 _ rfl; have e6 := hA1.box.cell 6 _ rfl; have ef := hA1.box.fz; have HA1 := Lib.hid hA1; have HB1 := Lib.hid hb1; clear hA1 hb1)
    all_goals (try go_wp2_with fail)
    all_goals go_meet
    all_goals exact Lib.hid ⟨(HA1.out.putSt N).1, (Sc.Kept.of g bv ov av HB1.out).trans (HA1.out.putSt N).2⟩
  case rest =>
    have hA := hcut.out.1
    have hK := HKW.out.trans hcut.out.2
    have hS2 := HS.out.kept hcut.out.2 HF.out
    clear k0 k1 k2 k3 k4 k5 y0 hst hf HAW HKW HS
    have k0 := hS2 0 _ rfl
    have k1 := hS2 1 _ rfl
    have k2 := hS2 2 _ rfl
    have k3 := hS2 3 _ rfl
    have k4 := hS2 4 _ rfl
    have k5 := hS2 5 _ rfl
    have x0 : wc.cell? ⟨g, 0, none⟩ = some (.string P) := hA.box.cell 0 _ rfl
    have x1 : wc.cell? ⟨g, 1, none⟩ = some (.int .i64 N.pl) := hA.box.cell 1 _ rfl
    have x7 : wc.cell? ⟨g, 7, none⟩ = some (.int .i64 x.hold) := hA.box.cell 7 _ rfl
    have ef := hA.box.fz
    have HA := Lib.hid hA
    have HK := Lib.hid hK
    clear hcut hA hK hS2
    generalize w.heap.size = gs at *
    go_upto_region 3 with fail
    go_cut [28] from 28 to 45 (fun s wx => s = .bool false ∧ wx = wc)
    case first =>
      rcases HD3.out with ⟨q0, q1, q2⟩ | ⟨q0, q1⟩ | ⟨q0, q1, q2⟩
      · have itag := fun u => Rs.inTag x.st.pl false q2 u
        go_wp2_with (go_at_call 20; (first | refine (itag _).mono ?_ | refine (ntag _).mono ?_); rintro e w' ⟨rfl, hw⟩; have hw := hw.symm; subst hw)
        go_meet
        exact ⟨rfl, rfl⟩
      · have itag := fun u => Rs.inTag x.st.pl false q1 u
        go_wp2_with (go_at_call 20; (first | refine (itag _).mono ?_ | refine (ntag _).mono ?_); rintro e w' ⟨rfl, hw⟩; have hw := hw.symm; subst hw)
        go_meet
        exact ⟨rfl, rfl⟩
      · have itag := fun u => Rs.inTag x.st.pl true q1 u
        have ntag := fun u => Rs.inTag N.pl true q2 u
        go_wp2_with (go_at_call 20; (first | refine (itag _).mono ?_ | refine (ntag _).mono ?_); rintro e w' ⟨rfl, hw⟩; have hw := hw.symm; subst hw)
        go_meet
        exact ⟨rfl, rfl⟩
    case rest =>
    clear HD3
    obtain ⟨rfl, rfl⟩ := hcut
    have ntag := fun u => Rs.inTag N.pl false HD6.out u
    go_upto_region 8 with ((go_at_call 20; refine (ntag _).mono ?_; rintro e w' ⟨rfl, hw⟩; have hw := hw.symm; subst hw))
    clear ntag
    go_cut [59] from 59 to 71 (fun s wx => s = .bool true ∧ wx = wc)
    case first =>
      rcases HD8.out with ⟨q0, q1, q2⟩
      · go_wp2_with fail
        go_meet
        exact ⟨rfl, rfl⟩
    case rest =>
    clear HD8
    obtain ⟨rfl, rfl⟩ := hcut
    have flu := Sc.flush P ({ x with st := N } : Rf) wc g bv ov av HA.out hbl ho
    have hw2 : IntKind.i64.wrap ((a : Int) + 2) = (a : Int) + 2 := by rw [IntKind.wrap_i64]; omega
    have hcut2 := Rm.text_cut P (a + 2) i (by omega) (by omega)
    rw [show ((a + 2 : Nat) : Int) = (a : Int) + 2 by omega] at hcut2
    clear x7
    generalize P.extract (a + 2) (i) = T at *
    generalize ({ x with st := N } : Rf).flush = Y at *
    go_upto_region 10 with (go_at_call 37; refine flu.mono ?_; rintro e w2 ⟨rfl, bv2, ov2, hA2, hK2⟩; have e0 := hA2.box.cell 0 _ rfl; have e7 := hA2.box.cell 7 _ rfl; rw [HFH.out] at e7; have kk := hK2.cell HF.out k0; have HF2 := Lib.hid (hK2.block gs (World.block_lt_of_cell? _ _ k0) HF.out).2; have ef2 := hA2.box.fz; have HA2 := Lib.hid hA2; have HK2 := Lib.hid hK2; clear flu hA2 hK2)
    go_quiet (fail)
    obtain ⟨V, _hV⟩ : ∃ V, w2.drewN nq = V := ⟨_, rfl⟩
    have HBV : Hid (Below w2.heap.size w2 V) := by unfold Hid; rw [← _hV]; exact Sc.drewN w2 nq
    rw [_hV]
    clear _hV
    have hA3 := HA2.out.on HBV.out
    have y0 := hA3.box.cell 0 _ rfl
    have y7 := hA3.box.cell 7 _ rfl
    rw [HFH.out] at y7
    have y10 := hA3.box.cell 10 _ rfl
    have yk := (Sc.Kept.of g bv2 ov2 av HBV.out).cell HF2.out kk
    have yf := hA3.box.fz
    have hlt := hA3.lt
    obtain ⟨xs, hx⟩ := id hA3.out
    obtain ⟨oa, od, rfl⟩ := Rm.form hx.1
    have HXS := Lib.hid hx
    have HA3 := Lib.hid hA3
    have HK3 := Lib.hid ((HK.out.trans HK2.out).trans (Sc.Kept.of g bv2 _ av HBV.out))
    have HN : Hid (Y.out.length + 1 ≤ maxLen ∧ (Y.out.length + 1) * 72 ≤ 140737488355328) := ⟨by have := HFL.out; unfold maxLen; omega, by have := HFL.out; omega⟩
    clear e0 e7 kk ef2 hx hA3 HA2 HK2 HBV
    go_wp2_with (at_builtin; refine Ro.push rfl _ _ 29 47 5 72 _ rfl Tryz.underlying29 Rm.infoT rfl (by decide) _ rfl (HXS.out.1.alloc _) V.heap.size (Rm.five ⟨3, Ts.e, T, [], false⟩ (.slice none 0 0)) rfl (Sc.five_cells V 3 ⟨#[]⟩ T false ⟨3, Ts.e, T, [], false⟩ ⟨rfl, rfl, rfl, rfl⟩) rfl (Sc.five_one _) HN.out.1 HN.out.2 (by simp; omega) ?_)
    intro v4 w4 R4 hg4 hf4
    obtain ⟨a4, d4, rfl⟩ := Rm.form R4
    have hq : Below V.heap.size V (V.alloc (.cells #[.int .i64 3, .string ⟨#[]⟩, .string T, .slice none 0 0, .bool false] 47)) := (Below.refl _ _).alloc (Nat.le_refl _) _
    obtain ⟨z1, z2⟩ := Sc.At.outPut (t := ⟨3, Ts.e, T, [], false⟩) HA3.out hq xs HXS.out rfl R4 hg4 (by simpa using hf4)
    have z3 := z1.set (x' := { Y with out := Y.out ++ [⟨3, Ts.e, T, [], false⟩], hold := -1 }) 7 (.int .i64 (-1)) (by decide) rfl rfl rfl rfl
    have B4 := HA3.out.box.on (w' := w4) ((hg4.block g (Nat.lt_of_lt_of_le hlt hq.size) (fun e => by have := (HXS.out.1.lt g e.symm).1; omega)).trans (hq.block g hlt))
    have d7 := B4.cell 7 _ rfl
    have d10 := B4.cell 10 _ rfl
    have df := B4.fz
    have HZ3 := Lib.hid z3
    have HKZ := Lib.hid ((HK3.out.trans z2).trans (Sc.Kept.set _ g 7 (.int .i64 (-1)) bv2 _ av))
    clear R4 hg4 hf4 hq z1 z2 z3 B4 y0 y7 y10 yk yf
    go_wp2
    go_end0
    exact ⟨rfl, _, _, _, by rw [← HZ.out]; exact HZ3.out, HKZ.out⟩
end Go.Proofs.YtjbkgokiikbaeaaGreatDoor
