/-
  THE WALK of the reference's byte: a comment ends by two dashes.
-/
import Derived.Test.YtblpkjlodncpeaaGreatDoorBTSd1toTSd5
import Derived.Test.YtblpkjlodncpeaaGreatDoorBTFittoRefTok
namespace Go.Proofs.YtblpkjlodncpeaaGreatDoor
open Go.RowKit
set_option maxRecDepth 100000 in
set_option maxHeartbeats 8000000 in
theorem Sc.byteCom17 (P : ByteArray) (x : Rf) (i : Nat) (w : World) (g : Nat) (bv ov av : Value) (h : Sc.At w g P x bv ov av) (hf : Ts.Fit x.st) (hi : i < P.size) (hp : P.size ≤ 65536) (c : UInt8) (hc : P[i] = c) (N : Ts) (hN : x.st.step c = N) (_hE : ¬ ((x.st.pl = 22 ∧ N.pl = 0) ∨ (Rf.inTag x.st.pl ∧ ¬ Rf.inTag N.pl))) (_hV : ¬ Rf.inTag N.pl) (_hC : 13 ≤ x.st.pl ∧ x.st.pl ≤ 18 ∧ N.pl = 0) (h17 : x.st.pl = 17) (_h6 : x.hold + 6 ≤ i) (h0 : 0 ≤ x.hold) (hbl : x.buf.length ≤ 65536) (ho : x.out.length ≤ 1000000) (Z : Rf) (HZ : Hid (({ ({ x with st := N } : Rf).flush with out := ({ x with st := N } : Rf).flush.out ++ [⟨3, Ts.e, P.extract (x.hold.toNat + 4) (i - 2), [], false⟩], hold := -1 }) = Z)) :
  Calls Tryz.prog 41 #[.pointer (some ⟨g, 0, none⟩), .int .i64 (i : Int)] w fun e w' => e = .returned (.tuple #[]) ∧ ∃ bv' ov' av', Sc.At w' g P Z bv' ov' av' ∧ Sc.Kept w w' g bv ov av bv' ov' av' := by
 have HD3 : Hid (((x.st.pl == 22) = true ∧ (N.pl == 0) = false ∧ Ts.inTag x.st.pl = false) ∨ ((x.st.pl == 22) = false ∧ Ts.inTag x.st.pl = false) ∨ ((x.st.pl == 22) = false ∧ Ts.inTag x.st.pl = true ∧ Ts.inTag N.pl = true)) := by
  unfold Hid
  (try unfold Rf.inTag at *)
  (try unfold Rf.inText at *)
  simp only [beq_iff_eq, beq_eq_false_iff_ne, Ts.inTag, decide_eq_true_eq, decide_eq_false_iff_not, Bool.and_eq_true, Bool.and_eq_false_iff]
  omega
 have HD6 : Hid (Ts.inTag N.pl = false) := by
  unfold Hid
  (try unfold Rf.inTag at *)
  (try unfold Rf.inText at *)
  simp only [Ts.inTag, decide_eq_false_iff_not, Bool.and_eq_false_iff]
  omega
 have HD8 : Hid (decide ((13 : Int) ≤ x.st.pl) = true ∧ decide (x.st.pl ≤ 18) = true ∧ (N.pl == 0) = true) := by
  unfold Hid
  (try unfold Rf.inTag at *)
  (try unfold Rf.inText at *)
  simp only [beq_iff_eq, decide_eq_true_eq]
  omega
 have t17 : (x.st.pl == 17) = true := by rw [h17]; rfl
 obtain ⟨a, ha⟩ : ∃ a : Nat, x.hold = (a : Int) := ⟨x.hold.toNat, by omega⟩
 have HFL : Hid (({ x with st := N } : Rf).flush.out.length ≤ 1000001) := Nat.le_trans (Sc.flush_len ({ x with st := N } : Rf)) (by show x.out.length + 1 ≤ _; omega)
 have hfh : ({ x with st := N } : Rf).flush.hold = (a : Int) := by
  rw [← ha]
  unfold Rf.flush
  split <;> rfl
 have HFH := Lib.hid hfh
 have _h6' : a + 6 ≤ i := by omega
 have HT : Hid (P.extract (x.hold.toNat + 4) (i - 2) = P.extract (a + 4) (i - 2)) := by unfold Hid; rw [ha, Int.toNat_natCast]
 rw [HT.out] at HZ
 clear _hE _hV _hC h17 _h6 h0 ha HT hfh
 have c0 := h.box.cell 0 _ rfl
 have c1 := h.box.cell 1 _ rfl
 have c2 := h.box.cell 2 _ rfl
 have c3 := h.box.cell 3 _ rfl
 have c4 := h.box.cell 4 _ rfl
 have c5 := h.box.cell 5 _ rfl
 have c6 := h.box.cell 6 _ rfl
 have hst := fun u => Rs.step x.st hf c u
 simp only [hN] at hst
 have hcn : P[i].toNat = c.toNat := by rw [hc]
 clear hN
 have hlt := h.lt
 have n1 : w.heap.size ≠ g := by omega
 have n2 : g ≠ w.heap.size := by omega
 go_enter Tryz.func41, Tryz.ntmps41
 go_wp2_with fail
 obtain ⟨W, hW⟩ : ∃ W, w.alloc (.cells #[.int .i64 x.st.pl, .string x.st.name, .bool x.st.fin, .string x.st.attr, .string x.st.held, .int .i64 x.st.read] 76) = W := ⟨_, rfl⟩
 have hbW : Below w.heap.size w W := by rw [← hW]; exact (Below.refl _ _).alloc (Nat.le_refl _) _
 have hS : Sc.St W w.heap.size x.st := by rw [← hW]; exact Sc.six_cells _ _ _ _ _ _ _ _
 have k0 := hS 0 _ rfl
 have k1 := hS 1 _ rfl
 have k2 := hS 2 _ rfl
 have k3 := hS 3 _ rfl
 have k4 := hS 4 _ rfl
 have k5 := hS 5 _ rfl
 have y0 := Tp.keep hbW c0
 have hAW := h.on hbW
 rw [hW]
 clear hW c0 c1 c2 c3 c4 c5 c6
 have HAW := Lib.hid hAW
 have HKW := Lib.hid (Sc.Kept.of g bv ov av hbW)
 have HF := Lib.hid h.free
 have HS := Lib.hid hS
 clear h hS hbW hAW
 go_cut [] from 12 to 22 (fun wc => Hid (Sc.At wc g P { x with st := N } bv ov av ∧ Sc.Kept W wc g bv ov av bv ov av))
 case first =>
  go_region_with (go_at_call 87; refine (hst _).mono ?_; rintro e w1 ⟨rfl, hb1⟩; have hb1 := Sc.undrew hb1; have hA1 := HAW.out.on hb1; have e1 := hA1.box.cell 1 _ rfl; have e2 := hA1.box.cell 2 _ rfl; have e3 := hA1.box.cell 3 _ rfl; have e4 := hA1.box.cell 4 _ rfl; have e5 := hA1.box.cell 5 _ rfl; have e6 := hA1.box.cell 6 _ rfl; have ef := hA1.box.fz; have HA1 := Lib.hid hA1; have HB1 := Lib.hid hb1; clear hA1 hb1)
  all_goals (try go_wp2_with fail)
  all_goals go_meet
  all_goals exact Lib.hid ⟨(HA1.out.putSt N).1, (Sc.Kept.of g bv ov av HB1.out).trans (HA1.out.putSt N).2⟩
 case rest =>
  have hA := hcut.out.1
  have hK := HKW.out.trans hcut.out.2
  have hS2 := HS.out.kept hcut.out.2 HF.out
  clear k0 k1 k2 k3 k4 k5 y0 hst hf HAW HKW HS
  have k0 := hS2 0 _ rfl
  have k1 := hS2 1 _ rfl
  have k2 := hS2 2 _ rfl
  have k3 := hS2 3 _ rfl
  have k4 := hS2 4 _ rfl
  have k5 := hS2 5 _ rfl
  have x0 : wc.cell? ⟨g, 0, none⟩ = some (.string P) := hA.box.cell 0 _ rfl
  have x1 : wc.cell? ⟨g, 1, none⟩ = some (.int .i64 N.pl) := hA.box.cell 1 _ rfl
  have x7 : wc.cell? ⟨g, 7, none⟩ = some (.int .i64 x.hold) := hA.box.cell 7 _ rfl
  have ef := hA.box.fz
  have HA := Lib.hid hA
  have HK := Lib.hid hK
  clear hcut hA hK hS2
  generalize w.heap.size = gs at *
  go_upto_region 3 with fail
  go_cut [28] from 28 to 45 (fun s wx => s = .bool false ∧ wx = wc)
  case first =>
   rcases HD3.out with ⟨q0, q1, q2⟩ | ⟨q0, q1⟩ | ⟨q0, q1, q2⟩
   ·
    have itag := fun u => Rs.inTag x.st.pl false q2 u
    go_wp2_with (go_at_call 88; (first | refine (itag _).mono ?_ | refine (ntag _).mono ?_); rintro e w' ⟨rfl, hw⟩; have hw := hw.symm; subst hw)
    go_meet
    exact ⟨rfl, rfl⟩
   ·
    have itag := fun u => Rs.inTag x.st.pl false q1 u
    go_wp2_with (go_at_call 88; (first | refine (itag _).mono ?_ | refine (ntag _).mono ?_); rintro e w' ⟨rfl, hw⟩; have hw := hw.symm; subst hw)
    go_meet
    exact ⟨rfl, rfl⟩
   ·
    have itag := fun u => Rs.inTag x.st.pl true q1 u
    have ntag := fun u => Rs.inTag N.pl true q2 u
    go_wp2_with (go_at_call 88; (first | refine (itag _).mono ?_ | refine (ntag _).mono ?_); rintro e w' ⟨rfl, hw⟩; have hw := hw.symm; subst hw)
    go_meet
    exact ⟨rfl, rfl⟩
  case rest =>
  clear HD3
  obtain ⟨rfl, rfl⟩ := hcut
  have ntag := fun u => Rs.inTag N.pl false HD6.out u
  go_upto_region 8 with ((go_at_call 88; refine (ntag _).mono ?_; rintro e w' ⟨rfl, hw⟩; have hw := hw.symm; subst hw))
  clear ntag
  go_cut [59] from 59 to 71 (fun s wx => s = .bool true ∧ wx = wc)
  case first =>
   rcases HD8.out with ⟨q0, q1, q2⟩
   ·
    go_wp2_with fail
    go_meet
    exact ⟨rfl, rfl⟩
  case rest =>
  clear HD8
  obtain ⟨rfl, rfl⟩ := hcut
  have flu := Sc.flush P ({ x with st := N } : Rf) wc g bv ov av HA.out hbl ho
  have hw2 : IntKind.i64.wrap ((a : Int) + 2) = (a : Int) + 2 := by rw [IntKind.wrap_i64]; omega
  have hcut2 := Rm.text_cut P (a + 2) i (by omega) (by omega)
  rw [show ((a + 2 : Nat) : Int) = (a : Int) + 2 by omega] at hcut2
  have hw4 : IntKind.i64.wrap ((a : Int) + 4) = (a : Int) + 4 := by rw [IntKind.wrap_i64]; omega
  have hwi : IntKind.i64.wrap ((i : Int) - 2) = (i : Int) - 2 := by rw [IntKind.wrap_i64]; omega
  have hcut4 := Rm.text_cut P (a + 4) (i - 2) (by omega) (by omega)
  rw [show ((a + 4 : Nat) : Int) = (a : Int) + 4 by omega, show ((i - 2 : Nat) : Int) = (i : Int) - 2 by omega] at hcut4
  clear x7
  generalize P.extract (a + 4) (i - 2) = T at *
  generalize P.extract (a + 2) i = T2 at *
  generalize ({ x with st := N } : Rf).flush = Y at *
  go_upto_region 10 with (go_at_call 44; refine flu.mono ?_; rintro e w2 ⟨rfl, bv2, ov2, hA2, hK2⟩; have e0 := hA2.box.cell 0 _ rfl; have e7 := hA2.box.cell 7 _ rfl; rw [HFH.out] at e7; have kk := hK2.cell HF.out k0; have HF2 := Lib.hid (hK2.block gs (World.block_lt_of_cell? _ _ k0) HF.out).2; have ef2 := hA2.box.fz; have HA2 := Lib.hid hA2; have HK2 := Lib.hid hK2; clear flu hA2 hK2)
  go_quiet (fail)
  obtain ⟨V0, hV0⟩ : ∃ V, w2.drewN nq = V := ⟨_, rfl⟩
  have HB0 : Hid (Below w2.heap.size w2 V0) := by unfold Hid; rw [← hV0]; exact Sc.drewN w2 nq
  rw [hV0]
  clear hV0 e0 e7 ef2
  have hA0 := HA2.out.on HB0.out
  have e0 := hA0.box.cell 0 _ rfl
  have e7 := hA0.box.cell 7 _ rfl
  rw [HFH.out] at e7
  have ef2 := hA0.box.fz
  have kk0 := (Sc.Kept.of g bv2 ov2 av HB0.out).cell HF2.out kk
  have HA20 := Lib.hid hA0
  have HK20 := Lib.hid (HK2.out.trans (Sc.Kept.of g bv2 ov2 av HB0.out))
  clear hA0 kk HA2 HK2 HB0
  go_upto_region 12 with fail
  go_quiet (fail)
  obtain ⟨V, _hV⟩ : ∃ V, V0.drewN nq = V := ⟨_, rfl⟩
  have HBV : Hid (Below V0.heap.size V0 V) := by unfold Hid; rw [← _hV]; exact Sc.drewN V0 nq
  rw [_hV]
  clear _hV
  have hA3 := HA20.out.on HBV.out
  have y0 := hA3.box.cell 0 _ rfl
  have y7 := hA3.box.cell 7 _ rfl
  rw [HFH.out] at y7
  have y10 := hA3.box.cell 10 _ rfl
  have yk := (Sc.Kept.of g bv2 ov2 av HBV.out).cell HF2.out kk0
  have yf := hA3.box.fz
  have hlt := hA3.lt
  obtain ⟨xs, hx⟩ := id hA3.out
  obtain ⟨oa, od, rfl⟩ := Rm.form hx.1
  have HXS := Lib.hid hx
  have HA3 := Lib.hid hA3
  have HK3 := Lib.hid ((HK.out.trans HK20.out).trans (Sc.Kept.of g bv2 _ av HBV.out))
  have HN : Hid (Y.out.length + 1 ≤ maxLen ∧ (Y.out.length + 1) * 72 ≤ 140737488355328) := ⟨by have := HFL.out; unfold maxLen; omega, by have := HFL.out; omega⟩
  clear e0 e7 kk0 ef2 hx hA3 HA20 HK20 HBV
  go_wp2_with (at_builtin; refine Ro.push rfl _ _ 55 84 5 72 _ rfl Tryz.underlying55 Rm.infoT rfl (by decide) _ rfl (HXS.out.1.alloc _) V.heap.size (Rm.five ⟨3, Ts.e, T, [], false⟩ (.slice none 0 0)) rfl (Sc.five_cells V 3 ⟨#[]⟩ T false ⟨3, Ts.e, T, [], false⟩ ⟨rfl, rfl, rfl, rfl⟩) rfl (Sc.five_one _) HN.out.1 HN.out.2 (by simp; omega) ?_)
  intro v4 w4 R4 hg4 hf4
  obtain ⟨a4, d4, rfl⟩ := Rm.form R4
  have hq : Below V.heap.size V (V.alloc (.cells #[.int .i64 3, .string ⟨#[]⟩, .string T, .slice none 0 0, .bool false] 84)) := (Below.refl _ _).alloc (Nat.le_refl _) _
  obtain ⟨z1, z2⟩ := Sc.At.outPut (t := ⟨3, Ts.e, T, [], false⟩) HA3.out hq xs HXS.out rfl R4 hg4 (by simpa using hf4)
  have z3 := z1.set (x' := { Y with out := Y.out ++ [⟨3, Ts.e, T, [], false⟩], hold := -1 }) 7 (.int .i64 (-1)) (by decide) rfl rfl rfl rfl
  have B4 := HA3.out.box.on (w' := w4) ((hg4.block g (Nat.lt_of_lt_of_le hlt hq.size) (fun e => by have := (HXS.out.1.lt g e.symm).1; omega)).trans (hq.block g hlt))
  have d7 := B4.cell 7 _ rfl
  have d10 := B4.cell 10 _ rfl
  have df := B4.fz
  have HZ3 := Lib.hid z3
  have HKZ := Lib.hid ((HK3.out.trans z2).trans (Sc.Kept.set _ g 7 (.int .i64 (-1)) bv2 _ av))
  clear R4 hg4 hf4 hq z1 z2 z3 B4 y0 y7 y10 yk yf
  go_wp2
  go_end0
  exact ⟨rfl, _, _, _, by rw [← HZ.out]; exact HZ3.out, HKZ.out⟩
set_option maxRecDepth 100000 in
set_option maxHeartbeats 8000000 in
theorem Sc.byteSkip (P : ByteArray) (x : Rf) (i : Nat) (w : World) (g : Nat) (bv ov av : Value) (h : Sc.At w g P x bv ov av) (hf : Ts.Fit x.st) (hi : i < P.size) (_hp : P.size ≤ 65536) (c : UInt8) (hc : P[i] = c) (N : Ts) (hN : x.st.step c = N) (_hE : ¬ ((x.st.pl = 22 ∧ N.pl = 0) ∨ (Rf.inTag x.st.pl ∧ ¬ Rf.inTag N.pl))) (_hV : ¬ Rf.inTag N.pl) (_hC : ¬ (13 ≤ x.st.pl ∧ x.st.pl ≤ 18 ∧ N.pl = 0)) (_hT : ¬ Rf.inText N.pl ∨ ¬ Rf.inText x.st.pl) (Z : Rf) (HZ : Hid ((({ x with st := N } : Rf)) = Z)) :
  Calls Tryz.prog 41 #[.pointer (some ⟨g, 0, none⟩), .int .i64 (i : Int)] w fun e w' => e = .returned (.tuple #[]) ∧ ∃ bv' ov' av', Sc.At w' g P Z bv' ov' av' ∧ Sc.Kept w w' g bv ov av bv' ov' av' := by
 have HD3 : Hid (((x.st.pl == 22) = true ∧ (N.pl == 0) = false ∧ Ts.inTag x.st.pl = false) ∨ ((x.st.pl == 22) = false ∧ Ts.inTag x.st.pl = false) ∨ ((x.st.pl == 22) = false ∧ Ts.inTag x.st.pl = true ∧ Ts.inTag N.pl = true)) := by
  unfold Hid
  (try unfold Rf.inTag at *)
  (try unfold Rf.inText at *)
  simp only [beq_iff_eq, beq_eq_false_iff_ne, Ts.inTag, decide_eq_true_eq, decide_eq_false_iff_not, Bool.and_eq_true, Bool.and_eq_false_iff]
  omega
 have HD6 : Hid (Ts.inTag N.pl = false) := by
  unfold Hid
  (try unfold Rf.inTag at *)
  (try unfold Rf.inText at *)
  simp only [Ts.inTag, decide_eq_false_iff_not, Bool.and_eq_false_iff]
  omega
 have HD8 : Hid (decide ((13 : Int) ≤ x.st.pl) = false ∨ (decide ((13 : Int) ≤ x.st.pl) = true ∧ decide (x.st.pl ≤ 18) = false) ∨ (decide ((13 : Int) ≤ x.st.pl) = true ∧ decide (x.st.pl ≤ 18) = true ∧ (N.pl == 0) = false)) := by
  unfold Hid
  (try unfold Rf.inTag at *)
  (try unfold Rf.inText at *)
  simp only [beq_eq_false_iff_ne, decide_eq_true_eq, decide_eq_false_iff_not]
  omega
 have HD15 : Hid ((decide (N.pl = 0) || decide (N.pl = 1) || decide (N.pl = 2) || decide ((19 : Int) ≤ N.pl)) = false ∨ ((decide (N.pl = 0) || decide (N.pl = 1) || decide (N.pl = 2) || decide ((19 : Int) ≤ N.pl)) = true ∧ (decide (x.st.pl = 0) || decide (x.st.pl = 1) || decide (x.st.pl = 2) || decide ((19 : Int) ≤ x.st.pl)) = false)) := by
  unfold Hid
  (try unfold Rf.inTag at *)
  (try unfold Rf.inText at *)
  simp only [decide_eq_true_eq, decide_eq_false_iff_not, Bool.or_eq_true, Bool.or_eq_false_iff]
  omega
 clear _hE _hV _hC _hT
 have c0 := h.box.cell 0 _ rfl
 have c1 := h.box.cell 1 _ rfl
 have c2 := h.box.cell 2 _ rfl
 have c3 := h.box.cell 3 _ rfl
 have c4 := h.box.cell 4 _ rfl
 have c5 := h.box.cell 5 _ rfl
 have c6 := h.box.cell 6 _ rfl
 have hst := fun u => Rs.step x.st hf c u
 simp only [hN] at hst
 have hcn : P[i].toNat = c.toNat := by rw [hc]
 clear hN
 have hlt := h.lt
 have n1 : w.heap.size ≠ g := by omega
 have n2 : g ≠ w.heap.size := by omega
 go_enter Tryz.func41, Tryz.ntmps41
 go_wp2_with fail
 obtain ⟨W, hW⟩ : ∃ W, w.alloc (.cells #[.int .i64 x.st.pl, .string x.st.name, .bool x.st.fin, .string x.st.attr, .string x.st.held, .int .i64 x.st.read] 76) = W := ⟨_, rfl⟩
 have hbW : Below w.heap.size w W := by rw [← hW]; exact (Below.refl _ _).alloc (Nat.le_refl _) _
 have hS : Sc.St W w.heap.size x.st := by rw [← hW]; exact Sc.six_cells _ _ _ _ _ _ _ _
 have k0 := hS 0 _ rfl
 have k1 := hS 1 _ rfl
 have k2 := hS 2 _ rfl
 have k3 := hS 3 _ rfl
 have k4 := hS 4 _ rfl
 have k5 := hS 5 _ rfl
 have y0 := Tp.keep hbW c0
 have hAW := h.on hbW
 rw [hW]
 clear hW c0 c1 c2 c3 c4 c5 c6
 have HAW := Lib.hid hAW
 have HKW := Lib.hid (Sc.Kept.of g bv ov av hbW)
 have HF := Lib.hid h.free
 have HS := Lib.hid hS
 clear h hS hbW hAW
 go_cut [] from 12 to 22 (fun wc => Hid (Sc.At wc g P { x with st := N } bv ov av ∧ Sc.Kept W wc g bv ov av bv ov av))
 case first =>
  go_region_with (go_at_call 87; refine (hst _).mono ?_; rintro e w1 ⟨rfl, hb1⟩; have hb1 := Sc.undrew hb1; have hA1 := HAW.out.on hb1; have e1 := hA1.box.cell 1 _ rfl; have e2 := hA1.box.cell 2 _ rfl; have e3 := hA1.box.cell 3 _ rfl; have e4 := hA1.box.cell 4 _ rfl; have e5 := hA1.box.cell 5 _ rfl; have e6 := hA1.box.cell 6 _ rfl; have ef := hA1.box.fz; have HA1 := Lib.hid hA1; have HB1 := Lib.hid hb1; clear hA1 hb1)
  all_goals (try go_wp2_with fail)
  all_goals go_meet
  all_goals exact Lib.hid ⟨(HA1.out.putSt N).1, (Sc.Kept.of g bv ov av HB1.out).trans (HA1.out.putSt N).2⟩
 case rest =>
  have hA := hcut.out.1
  have hK := HKW.out.trans hcut.out.2
  have hS2 := HS.out.kept hcut.out.2 HF.out
  clear k0 k1 k2 k3 k4 k5 y0 hst hf HAW HKW HS
  have k0 := hS2 0 _ rfl
  have k1 := hS2 1 _ rfl
  have k2 := hS2 2 _ rfl
  have k3 := hS2 3 _ rfl
  have k4 := hS2 4 _ rfl
  have k5 := hS2 5 _ rfl
  have x0 : wc.cell? ⟨g, 0, none⟩ = some (.string P) := hA.box.cell 0 _ rfl
  have x1 : wc.cell? ⟨g, 1, none⟩ = some (.int .i64 N.pl) := hA.box.cell 1 _ rfl
  have x7 : wc.cell? ⟨g, 7, none⟩ = some (.int .i64 x.hold) := hA.box.cell 7 _ rfl
  have ef := hA.box.fz
  have HA := Lib.hid hA
  have HK := Lib.hid hK
  clear hcut hA hK hS2
  generalize w.heap.size = gs at *
  go_upto_region 3 with fail
  go_cut [28] from 28 to 45 (fun s wx => s = .bool false ∧ wx = wc)
  case first =>
   rcases HD3.out with ⟨q0, q1, q2⟩ | ⟨q0, q1⟩ | ⟨q0, q1, q2⟩
   ·
    have itag := fun u => Rs.inTag x.st.pl false q2 u
    go_wp2_with (go_at_call 88; (first | refine (itag _).mono ?_ | refine (ntag _).mono ?_); rintro e w' ⟨rfl, hw⟩; have hw := hw.symm; subst hw)
    go_meet
    exact ⟨rfl, rfl⟩
   ·
    have itag := fun u => Rs.inTag x.st.pl false q1 u
    go_wp2_with (go_at_call 88; (first | refine (itag _).mono ?_ | refine (ntag _).mono ?_); rintro e w' ⟨rfl, hw⟩; have hw := hw.symm; subst hw)
    go_meet
    exact ⟨rfl, rfl⟩
   ·
    have itag := fun u => Rs.inTag x.st.pl true q1 u
    have ntag := fun u => Rs.inTag N.pl true q2 u
    go_wp2_with (go_at_call 88; (first | refine (itag _).mono ?_ | refine (ntag _).mono ?_); rintro e w' ⟨rfl, hw⟩; have hw := hw.symm; subst hw)
    go_meet
    exact ⟨rfl, rfl⟩
  case rest =>
  clear HD3
  obtain ⟨rfl, rfl⟩ := hcut
  have ntag := fun u => Rs.inTag N.pl false HD6.out u
  go_upto_region 8 with ((go_at_call 88; refine (ntag _).mono ?_; rintro e w' ⟨rfl, hw⟩; have hw := hw.symm; subst hw))
  clear ntag
  go_cut [59] from 59 to 71 (fun s wx => s = .bool false ∧ wx = wc)
  case first =>
   rcases HD8.out with q0 | ⟨q0, q1⟩ | ⟨q0, q1, q2⟩
   ·
    go_wp2_with fail
    go_meet
    exact ⟨rfl, rfl⟩
   ·
    go_wp2_with fail
    go_meet
    exact ⟨rfl, rfl⟩
   ·
    go_wp2_with fail
    go_meet
    exact ⟨rfl, rfl⟩
  case rest =>
  clear HD8
  obtain ⟨rfl, rfl⟩ := hcut
  go_upto_region 15 with fail
  go_cut [114] from 114 to 123 (fun s wx => s = .bool true ∧ wx = wc)
  case first =>
   rcases HD15.out with q0 | ⟨q0, q1⟩
   ·
    have ntxt := fun u => Rl.inText N.pl false q0 u
    clear q0
    go_wp2_with (first | (go_at_call_of 42 N.pl; refine (ntxt _).mono ?_; rintro e w' ⟨rfl, hw⟩; have hw := hw.symm; subst hw) | (go_at_call_of 42 x.st.pl; refine (itxt _).mono ?_; rintro e w' ⟨rfl, hw⟩; have hw := hw.symm; subst hw))
    go_meet
    exact ⟨rfl, rfl⟩
   ·
    have ntxt := fun u => Rl.inText N.pl true q0 u
    have itxt := fun u => Rl.inText x.st.pl false q1 u
    clear q0 q1
    go_wp2_with (first | (go_at_call_of 42 N.pl; refine (ntxt _).mono ?_; rintro e w' ⟨rfl, hw⟩; have hw := hw.symm; subst hw) | (go_at_call_of 42 x.st.pl; refine (itxt _).mono ?_; rintro e w' ⟨rfl, hw⟩; have hw := hw.symm; subst hw))
    go_meet
    exact ⟨rfl, rfl⟩
  case rest =>
  clear HD15
  obtain ⟨rfl, rfl⟩ := hcut
  clear x7
  go_wp2_with fail
  go_end0
  exact ⟨rfl, _, _, _, by rw [← HZ.out]; exact HA.out, HK.out⟩
set_option maxRecDepth 100000 in
set_option maxHeartbeats 8000000 in
theorem Sc.byteOpen (P : ByteArray) (x : Rf) (i : Nat) (w : World) (g : Nat) (bv ov av : Value) (h : Sc.At w g P x bv ov av) (hf : Ts.Fit x.st) (hi : i < P.size) (hp : P.size ≤ 65536) (c : UInt8) (hc : P[i] = c) (N : Ts) (hN : x.st.step c = N) (_hE : ¬ ((x.st.pl = 22 ∧ N.pl = 0) ∨ (Rf.inTag x.st.pl ∧ ¬ Rf.inTag N.pl))) (_hV : ¬ Rf.inTag N.pl) (_hC : ¬ (13 ≤ x.st.pl ∧ x.st.pl ≤ 18 ∧ N.pl = 0)) (_hT : Rf.inText N.pl ∧ Rf.inText x.st.pl) (_hO : N.pl = 1 ∨ N.pl = 20) (hbl : x.buf.length ≤ 65536) (hh : 0 ≤ x.hold → x.hold ≤ i) (Z : Rf) (HZ : Hid (({ (if 0 ≤ x.hold then ({ x with st := N } : Rf).adds P x.hold.toNat i else ({ x with st := N } : Rf)) with hold := (i : Int) }) = Z)) :
  Calls Tryz.prog 41 #[.pointer (some ⟨g, 0, none⟩), .int .i64 (i : Int)] w fun e w' => e = .returned (.tuple #[]) ∧ ∃ bv' ov' av', Sc.At w' g P Z bv' ov' av' ∧ Sc.Kept w w' g bv ov av bv' ov' av' := by
 have HD3 : Hid (((x.st.pl == 22) = true ∧ (N.pl == 0) = false ∧ Ts.inTag x.st.pl = false) ∨ ((x.st.pl == 22) = false ∧ Ts.inTag x.st.pl = false) ∨ ((x.st.pl == 22) = false ∧ Ts.inTag x.st.pl = true ∧ Ts.inTag N.pl = true)) := by
  unfold Hid
  (try unfold Rf.inTag at *)
  (try unfold Rf.inText at *)
  simp only [beq_iff_eq, beq_eq_false_iff_ne, Ts.inTag, decide_eq_true_eq, decide_eq_false_iff_not, Bool.and_eq_true, Bool.and_eq_false_iff]
  omega
 have HD6 : Hid (Ts.inTag N.pl = false) := by
  unfold Hid
  (try unfold Rf.inTag at *)
  (try unfold Rf.inText at *)
  simp only [Ts.inTag, decide_eq_false_iff_not, Bool.and_eq_false_iff]
  omega
 have HD8 : Hid (decide ((13 : Int) ≤ x.st.pl) = false ∨ (decide ((13 : Int) ≤ x.st.pl) = true ∧ decide (x.st.pl ≤ 18) = false) ∨ (decide ((13 : Int) ≤ x.st.pl) = true ∧ decide (x.st.pl ≤ 18) = true ∧ (N.pl == 0) = false)) := by
  unfold Hid
  (try unfold Rf.inTag at *)
  (try unfold Rf.inText at *)
  simp only [beq_eq_false_iff_ne, decide_eq_true_eq, decide_eq_false_iff_not]
  omega
 have HD15 : Hid ((decide (N.pl = 0) || decide (N.pl = 1) || decide (N.pl = 2) || decide ((19 : Int) ≤ N.pl)) = true ∧ (decide (x.st.pl = 0) || decide (x.st.pl = 1) || decide (x.st.pl = 2) || decide ((19 : Int) ≤ x.st.pl)) = true) := by
  unfold Hid
  (try unfold Rf.inTag at *)
  (try unfold Rf.inText at *)
  simp only [decide_eq_true_eq, Bool.or_eq_true]
  omega
 have HD16 : Hid ((N.pl == 1) = true ∨ ((N.pl == 1) = false ∧ (N.pl == 20) = true)) := by
  unfold Hid
  (try unfold Rf.inTag at *)
  (try unfold Rf.inText at *)
  simp only [beq_iff_eq, beq_eq_false_iff_ne]
  omega
 have HH := Lib.hid hh
 clear _hE _hV _hC _hT _hO hh
 have c0 := h.box.cell 0 _ rfl
 have c1 := h.box.cell 1 _ rfl
 have c2 := h.box.cell 2 _ rfl
 have c3 := h.box.cell 3 _ rfl
 have c4 := h.box.cell 4 _ rfl
 have c5 := h.box.cell 5 _ rfl
 have c6 := h.box.cell 6 _ rfl
 have hst := fun u => Rs.step x.st hf c u
 simp only [hN] at hst
 have hcn : P[i].toNat = c.toNat := by rw [hc]
 clear hN
 have hlt := h.lt
 have n1 : w.heap.size ≠ g := by omega
 have n2 : g ≠ w.heap.size := by omega
 go_enter Tryz.func41, Tryz.ntmps41
 go_wp2_with fail
 obtain ⟨W, hW⟩ : ∃ W, w.alloc (.cells #[.int .i64 x.st.pl, .string x.st.name, .bool x.st.fin, .string x.st.attr, .string x.st.held, .int .i64 x.st.read] 76) = W := ⟨_, rfl⟩
 have hbW : Below w.heap.size w W := by rw [← hW]; exact (Below.refl _ _).alloc (Nat.le_refl _) _
 have hS : Sc.St W w.heap.size x.st := by rw [← hW]; exact Sc.six_cells _ _ _ _ _ _ _ _
 have k0 := hS 0 _ rfl
 have k1 := hS 1 _ rfl
 have k2 := hS 2 _ rfl
 have k3 := hS 3 _ rfl
 have k4 := hS 4 _ rfl
 have k5 := hS 5 _ rfl
 have y0 := Tp.keep hbW c0
 have hAW := h.on hbW
 rw [hW]
 clear hW c0 c1 c2 c3 c4 c5 c6
 have HAW := Lib.hid hAW
 have HKW := Lib.hid (Sc.Kept.of g bv ov av hbW)
 have HF := Lib.hid h.free
 have HS := Lib.hid hS
 clear h hS hbW hAW
 go_cut [] from 12 to 22 (fun wc => Hid (Sc.At wc g P { x with st := N } bv ov av ∧ Sc.Kept W wc g bv ov av bv ov av))
 case first =>
  go_region_with (go_at_call 87; refine (hst _).mono ?_; rintro e w1 ⟨rfl, hb1⟩; have hb1 := Sc.undrew hb1; have hA1 := HAW.out.on hb1; have e1 := hA1.box.cell 1 _ rfl; have e2 := hA1.box.cell 2 _ rfl; have e3 := hA1.box.cell 3 _ rfl; have e4 := hA1.box.cell 4 _ rfl; have e5 := hA1.box.cell 5 _ rfl; have e6 := hA1.box.cell 6 _ rfl; have ef := hA1.box.fz; have HA1 := Lib.hid hA1; have HB1 := Lib.hid hb1; clear hA1 hb1)
  all_goals (try go_wp2_with fail)
  all_goals go_meet
  all_goals exact Lib.hid ⟨(HA1.out.putSt N).1, (Sc.Kept.of g bv ov av HB1.out).trans (HA1.out.putSt N).2⟩
 case rest =>
  have hA := hcut.out.1
  have hK := HKW.out.trans hcut.out.2
  have hS2 := HS.out.kept hcut.out.2 HF.out
  clear k0 k1 k2 k3 k4 k5 y0 hst hf HAW HKW HS
  have k0 := hS2 0 _ rfl
  have k1 := hS2 1 _ rfl
  have k2 := hS2 2 _ rfl
  have k3 := hS2 3 _ rfl
  have k4 := hS2 4 _ rfl
  have k5 := hS2 5 _ rfl
  have x0 : wc.cell? ⟨g, 0, none⟩ = some (.string P) := hA.box.cell 0 _ rfl
  have x1 : wc.cell? ⟨g, 1, none⟩ = some (.int .i64 N.pl) := hA.box.cell 1 _ rfl
  have x7 : wc.cell? ⟨g, 7, none⟩ = some (.int .i64 x.hold) := hA.box.cell 7 _ rfl
  have ef := hA.box.fz
  have HA := Lib.hid hA
  have HK := Lib.hid hK
  clear hcut hA hK hS2
  generalize w.heap.size = gs at *
  go_upto_region 3 with fail
  go_cut [28] from 28 to 45 (fun s wx => s = .bool false ∧ wx = wc)
  case first =>
   rcases HD3.out with ⟨q0, q1, q2⟩ | ⟨q0, q1⟩ | ⟨q0, q1, q2⟩
   ·
    have itag := fun u => Rs.inTag x.st.pl false q2 u
    go_wp2_with (go_at_call 88; (first | refine (itag _).mono ?_ | refine (ntag _).mono ?_); rintro e w' ⟨rfl, hw⟩; have hw := hw.symm; subst hw)
    go_meet
    exact ⟨rfl, rfl⟩
   ·
    have itag := fun u => Rs.inTag x.st.pl false q1 u
    go_wp2_with (go_at_call 88; (first | refine (itag _).mono ?_ | refine (ntag _).mono ?_); rintro e w' ⟨rfl, hw⟩; have hw := hw.symm; subst hw)
    go_meet
    exact ⟨rfl, rfl⟩
   ·
    have itag := fun u => Rs.inTag x.st.pl true q1 u
    have ntag := fun u => Rs.inTag N.pl true q2 u
    go_wp2_with (go_at_call 88; (first | refine (itag _).mono ?_ | refine (ntag _).mono ?_); rintro e w' ⟨rfl, hw⟩; have hw := hw.symm; subst hw)
    go_meet
    exact ⟨rfl, rfl⟩
  case rest =>
  clear HD3
  obtain ⟨rfl, rfl⟩ := hcut
  have ntag := fun u => Rs.inTag N.pl false HD6.out u
  go_upto_region 8 with ((go_at_call 88; refine (ntag _).mono ?_; rintro e w' ⟨rfl, hw⟩; have hw := hw.symm; subst hw))
  clear ntag
  go_cut [59] from 59 to 71 (fun s wx => s = .bool false ∧ wx = wc)
  case first =>
   rcases HD8.out with q0 | ⟨q0, q1⟩ | ⟨q0, q1, q2⟩
   ·
    go_wp2_with fail
    go_meet
    exact ⟨rfl, rfl⟩
   ·
    go_wp2_with fail
    go_meet
    exact ⟨rfl, rfl⟩
   ·
    go_wp2_with fail
    go_meet
    exact ⟨rfl, rfl⟩
  case rest =>
  clear HD8
  obtain ⟨rfl, rfl⟩ := hcut
  go_upto_region 15 with fail
  go_cut [114] from 114 to 123 (fun s wx => s = .bool false ∧ wx = wc)
  case first =>
   rcases HD15.out with ⟨q0, q1⟩
   ·
    have ntxt := fun u => Rl.inText N.pl true q0 u
    have itxt := fun u => Rl.inText x.st.pl true q1 u
    clear q0 q1
    go_wp2_with (first | (go_at_call_of 42 N.pl; refine (ntxt _).mono ?_; rintro e w' ⟨rfl, hw⟩; have hw := hw.symm; subst hw) | (go_at_call_of 42 x.st.pl; refine (itxt _).mono ?_; rintro e w' ⟨rfl, hw⟩; have hw := hw.symm; subst hw))
    go_meet
    exact ⟨rfl, rfl⟩
  case rest =>
  clear HD15
  obtain ⟨rfl, rfl⟩ := hcut
  go_upto_region 16 with fail
  go_cut [124] from 124 to 130 (fun s wx => s = .bool true ∧ wx = wc)
  case first =>
   rcases HD16.out with q0 | ⟨q0, q1⟩
   ·
    go_wp2_with fail
    go_meet
    exact ⟨rfl, rfl⟩
   ·
    go_wp2_with fail
    go_meet
    exact ⟨rfl, rfl⟩
  case rest =>
  clear HD16
  obtain ⟨rfl, rfl⟩ := hcut
  by_cases h0 : 0 ≤ x.hold
  ·
   have d0 : decide ((0 : Int) ≤ x.hold) = true := decide_eq_true h0
   obtain ⟨a, ha⟩ : ∃ a : Nat, x.hold = (a : Int) := ⟨x.hold.toNat, by omega⟩
   have HX : Hid ((if 0 ≤ x.hold then ({ x with st := N } : Rf).adds P x.hold.toNat i else ({ x with st := N } : Rf)) = ({ x with st := N } : Rf).adds P a i) := by unfold Hid; rw [if_pos h0, ha]; rfl
   have hai : a ≤ i := by have := HH.out h0; omega
   have add := Sc.adds P ({ x with st := N } : Rf) wc g bv ov av HA.out a i hai (by omega) hp hbl
   rw [ha] at x7 d0
   clear h0 HH ha
   go_wp2_with (go_at_call 43; refine add.mono ?_; rintro e w2 ⟨rfl, bv2, hA2, hK2⟩; have e7 := hA2.box.cell 7 _ rfl; have ef2 := hA2.box.fz; have hA3 := hA2.set (x' := { ({ x with st := N } : Rf).adds P a i with hold := (i : Int) }) 7 (.int .i64 (i : Int)) (by decide) rfl rfl rfl rfl; have HA3 := Lib.hid hA3; have HK3 := Lib.hid ((HK.out.trans hK2).trans (Sc.Kept.set _ g 7 (.int .i64 (i : Int)) bv2 ov av)); clear add hA2 hK2 hA3)
   go_end0
   exact ⟨rfl, _, _, _, by rw [← HZ.out, HX.out]; exact HA3.out, HK3.out⟩
  ·
   have d0 : decide ((0 : Int) ≤ x.hold) = false := decide_eq_false h0
   have HX : Hid ((if 0 ≤ x.hold then ({ x with st := N } : Rf).adds P x.hold.toNat i else ({ x with st := N } : Rf)) = ({ x with st := N } : Rf)) := by unfold Hid; rw [if_neg h0]
   have hA3 := HA.out.set (x' := { ({ x with st := N } : Rf) with hold := (i : Int) }) 7 (.int .i64 (i : Int)) (by decide) rfl rfl rfl rfl
   have HA3 := Lib.hid hA3
   have HK3 := Lib.hid (HK.out.trans (Sc.Kept.set _ g 7 (.int .i64 (i : Int)) bv ov av))
   clear hA3 h0 HH
   go_wp2_with fail
   go_end0
   exact ⟨rfl, _, _, _, by rw [← HZ.out, HX.out]; exact HA3.out, HK3.out⟩
set_option maxRecDepth 100000 in
set_option maxHeartbeats 8000000 in
theorem Sc.byteText (P : ByteArray) (x : Rf) (i : Nat) (w : World) (g : Nat) (bv ov av : Value) (h : Sc.At w g P x bv ov av) (hf : Ts.Fit x.st) (hi : i < P.size) (hp : P.size ≤ 65536) (c : UInt8) (hc : P[i] = c) (N : Ts) (hN : x.st.step c = N) (_hE : ¬ ((x.st.pl = 22 ∧ N.pl = 0) ∨ (Rf.inTag x.st.pl ∧ ¬ Rf.inTag N.pl))) (_hV : ¬ Rf.inTag N.pl) (_hC : ¬ (13 ≤ x.st.pl ∧ x.st.pl ≤ 18 ∧ N.pl = 0)) (_hT : Rf.inText N.pl ∧ Rf.inText x.st.pl) (_hO : ¬ (N.pl = 1 ∨ N.pl = 20)) (_hD : N.pl = 0 ∨ N.pl = 19) (hbl : x.buf.length ≤ 65536) (hh : 0 ≤ x.hold → x.hold ≤ i) (Z : Rf) (HZ : Hid (({ ({ x with st := N } : Rf).adds P (if 0 ≤ x.hold then x.hold.toNat else i) (i + 1) with hold := -1 }) = Z)) :
  Calls Tryz.prog 41 #[.pointer (some ⟨g, 0, none⟩), .int .i64 (i : Int)] w fun e w' => e = .returned (.tuple #[]) ∧ ∃ bv' ov' av', Sc.At w' g P Z bv' ov' av' ∧ Sc.Kept w w' g bv ov av bv' ov' av' := by
 have HD3 : Hid (((x.st.pl == 22) = true ∧ (N.pl == 0) = false ∧ Ts.inTag x.st.pl = false) ∨ ((x.st.pl == 22) = false ∧ Ts.inTag x.st.pl = false) ∨ ((x.st.pl == 22) = false ∧ Ts.inTag x.st.pl = true ∧ Ts.inTag N.pl = true)) := by
  unfold Hid
  (try unfold Rf.inTag at *)
  (try unfold Rf.inText at *)
  simp only [beq_iff_eq, beq_eq_false_iff_ne, Ts.inTag, decide_eq_true_eq, decide_eq_false_iff_not, Bool.and_eq_true, Bool.and_eq_false_iff]
  omega
 have HD6 : Hid (Ts.inTag N.pl = false) := by
  unfold Hid
  (try unfold Rf.inTag at *)
  (try unfold Rf.inText at *)
  simp only [Ts.inTag, decide_eq_false_iff_not, Bool.and_eq_false_iff]
  omega
 have HD8 : Hid (decide ((13 : Int) ≤ x.st.pl) = false ∨ (decide ((13 : Int) ≤ x.st.pl) = true ∧ decide (x.st.pl ≤ 18) = false) ∨ (decide ((13 : Int) ≤ x.st.pl) = true ∧ decide (x.st.pl ≤ 18) = true ∧ (N.pl == 0) = false)) := by
  unfold Hid
  (try unfold Rf.inTag at *)
  (try unfold Rf.inText at *)
  simp only [beq_eq_false_iff_ne, decide_eq_true_eq, decide_eq_false_iff_not]
  omega
 have HD15 : Hid ((decide (N.pl = 0) || decide (N.pl = 1) || decide (N.pl = 2) || decide ((19 : Int) ≤ N.pl)) = true ∧ (decide (x.st.pl = 0) || decide (x.st.pl = 1) || decide (x.st.pl = 2) || decide ((19 : Int) ≤ x.st.pl)) = true) := by
  unfold Hid
  (try unfold Rf.inTag at *)
  (try unfold Rf.inText at *)
  simp only [decide_eq_true_eq, Bool.or_eq_true]
  omega
 have HD16 : Hid ((N.pl == 1) = false ∧ (N.pl == 20) = false) := by
  unfold Hid
  (try unfold Rf.inTag at *)
  (try unfold Rf.inText at *)
  simp only [beq_eq_false_iff_ne]
  omega
 have HD20 : Hid ((N.pl == 0) = true ∨ ((N.pl == 0) = false ∧ (N.pl == 19) = true)) := by
  unfold Hid
  (try unfold Rf.inTag at *)
  (try unfold Rf.inText at *)
  simp only [beq_iff_eq, beq_eq_false_iff_ne]
  omega
 have HH := Lib.hid hh
 clear _hE _hV _hC _hT _hO _hD hh
 have c0 := h.box.cell 0 _ rfl
 have c1 := h.box.cell 1 _ rfl
 have c2 := h.box.cell 2 _ rfl
 have c3 := h.box.cell 3 _ rfl
 have c4 := h.box.cell 4 _ rfl
 have c5 := h.box.cell 5 _ rfl
 have c6 := h.box.cell 6 _ rfl
 have hst := fun u => Rs.step x.st hf c u
 simp only [hN] at hst
 have hcn : P[i].toNat = c.toNat := by rw [hc]
 clear hN
 have hlt := h.lt
 have n1 : w.heap.size ≠ g := by omega
 have n2 : g ≠ w.heap.size := by omega
 go_enter Tryz.func41, Tryz.ntmps41
 go_wp2_with fail
 obtain ⟨W, hW⟩ : ∃ W, w.alloc (.cells #[.int .i64 x.st.pl, .string x.st.name, .bool x.st.fin, .string x.st.attr, .string x.st.held, .int .i64 x.st.read] 76) = W := ⟨_, rfl⟩
 have hbW : Below w.heap.size w W := by rw [← hW]; exact (Below.refl _ _).alloc (Nat.le_refl _) _
 have hS : Sc.St W w.heap.size x.st := by rw [← hW]; exact Sc.six_cells _ _ _ _ _ _ _ _
 have k0 := hS 0 _ rfl
 have k1 := hS 1 _ rfl
 have k2 := hS 2 _ rfl
 have k3 := hS 3 _ rfl
 have k4 := hS 4 _ rfl
 have k5 := hS 5 _ rfl
 have y0 := Tp.keep hbW c0
 have hAW := h.on hbW
 rw [hW]
 clear hW c0 c1 c2 c3 c4 c5 c6
 have HAW := Lib.hid hAW
 have HKW := Lib.hid (Sc.Kept.of g bv ov av hbW)
 have HF := Lib.hid h.free
 have HS := Lib.hid hS
 clear h hS hbW hAW
 go_cut [] from 12 to 22 (fun wc => Hid (Sc.At wc g P { x with st := N } bv ov av ∧ Sc.Kept W wc g bv ov av bv ov av))
 case first =>
  go_region_with (go_at_call 87; refine (hst _).mono ?_; rintro e w1 ⟨rfl, hb1⟩; have hb1 := Sc.undrew hb1; have hA1 := HAW.out.on hb1; have e1 := hA1.box.cell 1 _ rfl; have e2 := hA1.box.cell 2 _ rfl; have e3 := hA1.box.cell 3 _ rfl; have e4 := hA1.box.cell 4 _ rfl; have e5 := hA1.box.cell 5 _ rfl; have e6 := hA1.box.cell 6 _ rfl; have ef := hA1.box.fz; have HA1 := Lib.hid hA1; have HB1 := Lib.hid hb1; clear hA1 hb1)
  all_goals (try go_wp2_with fail)
  all_goals go_meet
  all_goals exact Lib.hid ⟨(HA1.out.putSt N).1, (Sc.Kept.of g bv ov av HB1.out).trans (HA1.out.putSt N).2⟩
 case rest =>
  have hA := hcut.out.1
  have hK := HKW.out.trans hcut.out.2
  have hS2 := HS.out.kept hcut.out.2 HF.out
  clear k0 k1 k2 k3 k4 k5 y0 hst hf HAW HKW HS
  have k0 := hS2 0 _ rfl
  have k1 := hS2 1 _ rfl
  have k2 := hS2 2 _ rfl
  have k3 := hS2 3 _ rfl
  have k4 := hS2 4 _ rfl
  have k5 := hS2 5 _ rfl
  have x0 : wc.cell? ⟨g, 0, none⟩ = some (.string P) := hA.box.cell 0 _ rfl
  have x1 : wc.cell? ⟨g, 1, none⟩ = some (.int .i64 N.pl) := hA.box.cell 1 _ rfl
  have x7 : wc.cell? ⟨g, 7, none⟩ = some (.int .i64 x.hold) := hA.box.cell 7 _ rfl
  have ef := hA.box.fz
  have HA := Lib.hid hA
  have HK := Lib.hid hK
  clear hcut hA hK hS2
  generalize w.heap.size = gs at *
  go_upto_region 3 with fail
  go_cut [28] from 28 to 45 (fun s wx => s = .bool false ∧ wx = wc)
  case first =>
   rcases HD3.out with ⟨q0, q1, q2⟩ | ⟨q0, q1⟩ | ⟨q0, q1, q2⟩
   ·
    have itag := fun u => Rs.inTag x.st.pl false q2 u
    go_wp2_with (go_at_call 88; (first | refine (itag _).mono ?_ | refine (ntag _).mono ?_); rintro e w' ⟨rfl, hw⟩; have hw := hw.symm; subst hw)
    go_meet
    exact ⟨rfl, rfl⟩
   ·
    have itag := fun u => Rs.inTag x.st.pl false q1 u
    go_wp2_with (go_at_call 88; (first | refine (itag _).mono ?_ | refine (ntag _).mono ?_); rintro e w' ⟨rfl, hw⟩; have hw := hw.symm; subst hw)
    go_meet
    exact ⟨rfl, rfl⟩
   ·
    have itag := fun u => Rs.inTag x.st.pl true q1 u
    have ntag := fun u => Rs.inTag N.pl true q2 u
    go_wp2_with (go_at_call 88; (first | refine (itag _).mono ?_ | refine (ntag _).mono ?_); rintro e w' ⟨rfl, hw⟩; have hw := hw.symm; subst hw)
    go_meet
    exact ⟨rfl, rfl⟩
  case rest =>
  clear HD3
  obtain ⟨rfl, rfl⟩ := hcut
  have ntag := fun u => Rs.inTag N.pl false HD6.out u
  go_upto_region 8 with ((go_at_call 88; refine (ntag _).mono ?_; rintro e w' ⟨rfl, hw⟩; have hw := hw.symm; subst hw))
  clear ntag
  go_cut [59] from 59 to 71 (fun s wx => s = .bool false ∧ wx = wc)
  case first =>
   rcases HD8.out with q0 | ⟨q0, q1⟩ | ⟨q0, q1, q2⟩
   ·
    go_wp2_with fail
    go_meet
    exact ⟨rfl, rfl⟩
   ·
    go_wp2_with fail
    go_meet
    exact ⟨rfl, rfl⟩
   ·
    go_wp2_with fail
    go_meet
    exact ⟨rfl, rfl⟩
  case rest =>
  clear HD8
  obtain ⟨rfl, rfl⟩ := hcut
  go_upto_region 15 with fail
  go_cut [114] from 114 to 123 (fun s wx => s = .bool false ∧ wx = wc)
  case first =>
   rcases HD15.out with ⟨q0, q1⟩
   ·
    have ntxt := fun u => Rl.inText N.pl true q0 u
    have itxt := fun u => Rl.inText x.st.pl true q1 u
    clear q0 q1
    go_wp2_with (first | (go_at_call_of 42 N.pl; refine (ntxt _).mono ?_; rintro e w' ⟨rfl, hw⟩; have hw := hw.symm; subst hw) | (go_at_call_of 42 x.st.pl; refine (itxt _).mono ?_; rintro e w' ⟨rfl, hw⟩; have hw := hw.symm; subst hw))
    go_meet
    exact ⟨rfl, rfl⟩
  case rest =>
  clear HD15
  obtain ⟨rfl, rfl⟩ := hcut
  go_upto_region 16 with fail
  go_cut [124] from 124 to 130 (fun s wx => s = .bool false ∧ wx = wc)
  case first =>
   rcases HD16.out with ⟨q0, q1⟩
   ·
    go_wp2_with fail
    go_meet
    exact ⟨rfl, rfl⟩
  case rest =>
  clear HD16
  obtain ⟨rfl, rfl⟩ := hcut
  go_upto_region 20 with fail
  go_cut [147] from 147 to 153 (fun s wx => s = .bool true ∧ wx = wc)
  case first =>
   rcases HD20.out with q0 | ⟨q0, q1⟩
   ·
    go_wp2_with fail
    go_meet
    exact ⟨rfl, rfl⟩
   ·
    go_wp2_with fail
    go_meet
    exact ⟨rfl, rfl⟩
  case rest =>
  clear HD20
  obtain ⟨rfl, rfl⟩ := hcut
  have hw1 : IntKind.i64.wrap ((i : Int) + 1) = (i : Int) + 1 := by rw [IntKind.wrap_i64]; omega
  by_cases h0 : 0 ≤ x.hold
  ·
   have d0 : decide ((0 : Int) ≤ x.hold) = true := decide_eq_true h0
   obtain ⟨a, ha⟩ : ∃ a : Nat, x.hold = (a : Int) := ⟨x.hold.toNat, by omega⟩
   have HX : Hid ((if 0 ≤ x.hold then x.hold.toNat else i) = a) := by unfold Hid; rw [if_pos h0, ha]; rfl
   have hai : a ≤ i := by have := HH.out h0; omega
   have add := Sc.adds P ({ x with st := N } : Rf) wc g bv ov av HA.out a (i + 1) (by omega) (by omega) hp hbl
   rw [show ((i + 1 : Nat) : Int) = (i : Int) + 1 by omega] at add
   rw [ha] at x7 d0
   clear h0 HH ha
   go_wp2_with (go_at_call 43; refine add.mono ?_; rintro e w2 ⟨rfl, bv2, hA2, hK2⟩; have e7 := hA2.box.cell 7 _ rfl; have ef2 := hA2.box.fz; have hA3 := hA2.set (x' := { ({ x with st := N } : Rf).adds P a (i + 1) with hold := -1 }) 7 (.int .i64 (-1)) (by decide) rfl rfl rfl rfl; have HA3 := Lib.hid hA3; have HK3 := Lib.hid ((HK.out.trans hK2).trans (Sc.Kept.set _ g 7 (.int .i64 (-1)) bv2 ov av)); clear add hA2 hK2 hA3)
   go_end0
   exact ⟨rfl, _, _, _, by rw [← HZ.out, HX.out]; exact HA3.out, HK3.out⟩
  ·
   have d0 : decide ((0 : Int) ≤ x.hold) = false := decide_eq_false h0
   have HX : Hid ((if 0 ≤ x.hold then x.hold.toNat else i) = i) := by unfold Hid; rw [if_neg h0]
   have add := Sc.adds P ({ x with st := N } : Rf) wc g bv ov av HA.out i (i + 1) (by omega) (by omega) hp hbl
   rw [show ((i + 1 : Nat) : Int) = (i : Int) + 1 by omega] at add
   clear h0 HH
   go_wp2_with (go_at_call 43; refine add.mono ?_; rintro e w2 ⟨rfl, bv2, hA2, hK2⟩; have e7 := hA2.box.cell 7 _ rfl; have ef2 := hA2.box.fz; have hA3 := hA2.set (x' := { ({ x with st := N } : Rf).adds P i (i + 1) with hold := -1 }) 7 (.int .i64 (-1)) (by decide) rfl rfl rfl rfl; have HA3 := Lib.hid hA3; have HK3 := Lib.hid ((HK.out.trans hK2).trans (Sc.Kept.set _ g 7 (.int .i64 (-1)) bv2 ov av)); clear add hA2 hK2 hA3)
   go_end0
   exact ⟨rfl, _, _, _, by rw [← HZ.out, HX.out]; exact HA3.out, HK3.out⟩
end Go.Proofs.YtblpkjlodncpeaaGreatDoor
