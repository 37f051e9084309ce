/-
  THE WALK of the reference's byte: a tag ends.
-/
import Derived.Test.YtjbkgokiikbaeaaGreatDoorMTSd1toTSd2
import Derived.Test.YtjbkgokiikbaeaaGreatDoorMTRs9toTSc3
namespace Go.Proofs.YtjbkgokiikbaeaaGreatDoor
open Go.RowKit
set_option maxRecDepth 100000 in
set_option maxHeartbeats 8000000 in
theorem Sc.byteEmit (P : ByteArray) (x : Rf) (i : Nat) (w : World) (g : Nat) (bv ov av : Value) (h : Sc.At w g P x bv ov av) (hf : Ts.Fit x.st) (hi : i < P.size) (_hp : P.size ≤ 65536) (c : UInt8) (hc : P[i] = c) (N : Ts) (hN : x.st.step c = N) (_hE : (x.st.pl = 22 ∧ N.pl = 0) ∨ (Rf.inTag x.st.pl ∧ ¬ Rf.inTag N.pl)) (hl : x.pv.size ≤ 65536) (ha : x.attrs.length ≤ 32) (hbl : x.buf.length ≤ 65536) (ho : x.out.length ≤ 1000000) (Z : Rf) (HZ : Hid (({ ({ x with st := N } : Rf).emit x.st with hold := -1 }) = Z)) :
    Calls Tryz.prog 34 #[.pointer (some ⟨g, 0, none⟩), .int .i64 (i : Int)] w fun e w' => e = .returned (.tuple #[]) ∧ ∃ bv' ov' av', Sc.At w' g P Z bv' ov' av' ∧ Sc.Kept w w' g bv ov av bv' ov' av' := by
  have HD3 : Hid (((x.st.pl == 22) = true ∧ (N.pl == 0) = true) ∨ ((x.st.pl == 22) = false ∧ Ts.inTag x.st.pl = true ∧ Ts.inTag N.pl = false)) := by
    unfold Hid
    (try unfold Rf.inTag at *)
    (try unfold Rf.inText at *)
    simp only [beq_iff_eq, beq_eq_false_iff_ne, Ts.inTag, decide_eq_true_eq, decide_eq_false_iff_not, Bool.and_eq_true, Bool.and_eq_false_iff]
    omega
  clear _hE
  have c0 := h.box.cell 0 _ rfl
  have c1 := h.box.cell 1 _ rfl
  have c2 := h.box.cell 2 _ rfl
  have c3 := h.box.cell 3 _ rfl
  have c4 := h.box.cell 4 _ rfl
  have c5 := h.box.cell 5 _ rfl
  have c6 := h.box.cell 6 _ rfl
  have hst := fun u => Rs.step x.st hf c u
  simp only [hN] at hst
  have hcn : P[i].toNat = c.toNat := by rw [hc]
  clear hN
  have hlt := h.lt
  have n1 : w.heap.size ≠ g := by omega
  have n2 : g ≠ w.heap.size := by omega
  go_enter Tryz.func34, Tryz.ntmps34
  go_wp2_with fail
  obtain ⟨W, hW⟩ : ∃ W, w.alloc (.cells #[.int .i64 x.st.pl, .string x.st.name, .bool x.st.fin, .string x.st.attr, .string x.st.held, .int .i64 x.st.read] 23) = W := ⟨_, rfl⟩
  have hbW : Below w.heap.size w W := by rw [← hW]; exact (Below.refl _ _).alloc (Nat.le_refl _) _
  have hS : Sc.St W w.heap.size x.st := by rw [← hW]; exact Sc.six_cells _ _ _ _ _ _ _ _
  have k0 := hS 0 _ rfl
  have k1 := hS 1 _ rfl
  have k2 := hS 2 _ rfl
  have k3 := hS 3 _ rfl
  have k4 := hS 4 _ rfl
  have k5 := hS 5 _ rfl
  have y0 := Tp.keep hbW c0
  have hAW := h.on hbW
  rw [hW]
  clear hW c0 c1 c2 c3 c4 c5 c6
  have HAW := Lib.hid hAW
  have HKW := Lib.hid (Sc.Kept.of g bv ov av hbW)
  have HF := Lib.hid h.free
  have HS := Lib.hid hS
  clear h hS hbW hAW
  go_cut [] from 12 to 22 (fun wc => Hid (Sc.At wc g P { x with st := N } bv ov av ∧ Sc.Kept W wc g bv ov av bv ov av))
  case first =>
    go_region_with (go_at_call 9; refine (hst _).mono ?_; rintro e w1 ⟨rfl, hb1⟩; have hb1 := Sc.undrew hb1; have hA1 := HAW.out.on hb1; have e1 := hA1.box.cell 1 _ rfl; have e2 := hA1.box.cell 2 _ rfl; have e3 := hA1.box.cell 3 _ rfl; have e4 := hA1.box.cell 4 _ rfl; have e5 := hA1.box.cell 5 _ rfl; have e6 := hA1.box.cell 6 _ rfl; have ef := hA1.box.fz; have HA1 := Lib.hid hA1; have HB1 := Lib.hid hb1; clear hA1 hb1)
    all_goals (try go_wp2_with fail)
    all_goals go_meet
    all_goals exact Lib.hid ⟨(HA1.out.putSt N).1, (Sc.Kept.of g bv ov av HB1.out).trans (HA1.out.putSt N).2⟩
  case rest =>
    have hA := hcut.out.1
    have hK := HKW.out.trans hcut.out.2
    have hS2 := HS.out.kept hcut.out.2 HF.out
    clear k0 k1 k2 k3 k4 k5 y0 hst hf HAW HKW HS
    have k0 := hS2 0 _ rfl
    have k1 := hS2 1 _ rfl
    have k2 := hS2 2 _ rfl
    have k3 := hS2 3 _ rfl
    have k4 := hS2 4 _ rfl
    have k5 := hS2 5 _ rfl
    have x0 : wc.cell? ⟨g, 0, none⟩ = some (.string P) := hA.box.cell 0 _ rfl
    have x1 : wc.cell? ⟨g, 1, none⟩ = some (.int .i64 N.pl) := hA.box.cell 1 _ rfl
    have x7 : wc.cell? ⟨g, 7, none⟩ = some (.int .i64 x.hold) := hA.box.cell 7 _ rfl
    have ef := hA.box.fz
    have HA := Lib.hid hA
    have HK := Lib.hid hK
    clear hcut hA hK hS2
    generalize w.heap.size = gs at *
    have emi := Sc.emit P ({ x with st := N } : Rf) x.st wc g bv ov av HA.out hl ha hbl ho
    go_upto_region 3 with fail
    go_cut [28] from 28 to 45 (fun s wx => s = .bool true ∧ wx = wc)
    case first =>
      rcases HD3.out with ⟨q0, q1⟩ | ⟨q0, q1, q2⟩
      · go_wp2_with (go_at_call 20; (first | refine (itag _).mono ?_ | refine (ntag _).mono ?_); rintro e w' ⟨rfl, hw⟩; have hw := hw.symm; subst hw)
        go_meet
        exact ⟨rfl, rfl⟩
      · have itag := fun u => Rs.inTag x.st.pl true q1 u
        have ntag := fun u => Rs.inTag N.pl false q2 u
        go_wp2_with (go_at_call 20; (first | refine (itag _).mono ?_ | refine (ntag _).mono ?_); rintro e w' ⟨rfl, hw⟩; have hw := hw.symm; subst hw)
        go_meet
        exact ⟨rfl, rfl⟩
    case rest =>
    clear HD3
    obtain ⟨rfl, rfl⟩ := hcut
    clear x7
    go_wp2_with (go_at_call 82; refine emi.mono ?_; rintro e w2 ⟨rfl, bv2, ov2, av2, hA2, hK2⟩; have e7 := hA2.box.cell 7 _ rfl; have ef2 := hA2.box.fz; have hA3 := hA2.set (x' := { ({ x with st := N } : Rf).emit x.st with hold := -1 }) 7 (.int .i64 (-1)) (by decide) rfl rfl rfl rfl; have HA3 := Lib.hid hA3; have HK3 := Lib.hid ((HK.out.trans hK2).trans (Sc.Kept.set _ g 7 (.int .i64 (-1)) bv2 ov2 av2)); clear emi hA2 hK2 hA3)
    go_end0
    exact ⟨rfl, _, _, _, by rw [← HZ.out]; exact HA3.out, HK3.out⟩
end Go.Proofs.YtjbkgokiikbaeaaGreatDoor
