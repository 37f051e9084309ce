/-
  THE WALK of stoleref5.Tokens.
-/
import Derived.Test.YtjbkgokiikbaeaaGreatDoorMTSe1toTSdB
import Derived.Test.YtjbkgokiikbaeaaGreatDoorMTPretoTAwake
namespace Go.Proofs.YtjbkgokiikbaeaaGreatDoor
open Go.RowKit
theorem Sc.Kept.below {w wr w' : World} {g : Nat} {P : ByteArray} {x : Rf} {bv ov av bv' ov' av' : Value} (hK : Sc.Kept wr w' g bv ov av bv' ov' av') (hA : Sc.At wr g P x bv ov av) (hb : Below w.heap.size w wr) (hg : w.heap.size ≤ g) : Below w.heap.size w w' :=
  ⟨hK.os.trans hb.os, hK.tape.trans hb.tape, hK.output.trans hb.output, Nat.le_trans hb.size hK.size, fun k hk => (hK.block k (Nat.lt_of_lt_of_le hk hb.size) ⟨by omega, fun e => by have := (hA.buf.lt k e).1; omega, fun e => by have := (hA.ovLt e).1; omega, fun e => by have := (hA.attrs.lt k e).1; omega⟩).1.trans (hb.block k hk)⟩
theorem Rk.long (page : ByteArray) (w : World) (h : 65536 < page.size) (hs : page.size ≤ maxLen) : Calls Tryz.prog 12 #[.string page] w fun e w' => e = .returned (.tuple #[.slice none 0 0, .int .i64 500]) ∧ w' = w := by
  unfold maxLen at hs
  have t : decide ((65536 : Int) < (page.size : Int)) = true := decide_eq_true (by omega)
  go_enter Tryz.func12, Tryz.ntmps12
  go_wp2
  go_ret2
  exact ⟨rfl, rfl⟩
theorem Sc.laid (W : World) (P : ByteArray) : Sc.At (W.alloc (.cells #[.string P, .int .i64 0, .string ⟨#[]⟩, .bool false, .string ⟨#[]⟩, .string ⟨#[]⟩, .int .i64 0, .int .i64 (-1), .slice none 0 0, .bool false, .slice none 0 0, .slice none 0 0, .bool false, .string ⟨#[]⟩, .string ⟨#[]⟩] 67)) W.heap.size P Rf.start (.slice none 0 0) (.slice none 0 0) (.slice none 0 0) := by
  have hb := heap_alloc_new W (.cells #[.string P, .int .i64 0, .string ⟨#[]⟩, .bool false, .string ⟨#[]⟩, .string ⟨#[]⟩, .int .i64 0, .int .i64 (-1), .slice none 0 0, .bool false, .slice none 0 0, .slice none 0 0, .bool false, .string ⟨#[]⟩, .string ⟨#[]⟩] 67)
  refine ⟨⟨fun i v hv => ?_, fun i => ?_⟩, World.ownsRow_nil _ _ _ _, Sc.Toks.nil _ _ _, World.ownsRow_nil _ _ _ _, (fun _ e => by cases e), (fun _ e => by cases e), (fun _ e => by cases e)⟩
  · unfold World.cell?
    rw [hb]
    simpa [Sc.cells, Rf.start, Ts.start, Ts.e] using hv
  · unfold World.frozen?
    rw [hb]
    simp
set_option maxRecDepth 100000 in
set_option maxHeartbeats 4000000 in
theorem Rk.short (page : ByteArray) (w : World) (h : page.size ≤ 65536) :
    Calls Tryz.prog 12 #[.string page] w fun e w' => ∃ v, e = .returned (.tuple #[v, .int .i64 0]) ∧ Tk.Lies w' (fun k => w.heap.size ≤ k ∧ k < w'.heap.size) (Rd.tokens page) v ∧ Below w.heap.size w w' := by
  have t : decide ((65536 : Int) < (page.size : Int)) = false := decide_eq_false (by omega)
  have hlin := fun u => Rl.lines page u (by omega)
  have HTok : Hid (Rd.tokens page = Rf.done (Rd.page page) (Rf.run (Rd.page page) Rf.start 0 (Rd.page page).data.toList)) := by
    unfold Hid
    rw [← Rf.tokens_eq]
    unfold Rf.tokens
    rw [show (Rd.page page).data.toList = Rd.lines page.data.toList by unfold Rd.page; exact List.toList_toArray]
  have hPs : (Rd.page page).size ≤ 65536 := by
    have := Li.lines_len page.data.toList
    rw [Wk.len_data] at this
    rw [← Wk.len_data, show (Rd.page page).data.toList = Rd.lines page.data.toList by unfold Rd.page; exact List.toList_toArray]
    omega
  generalize Rd.page page = P at *
  generalize Rd.tokens page = TS at *
  go_enter Tryz.func12, Tryz.ntmps12
  go_wp2_with (first | (go_at_call 33; refine (hlin _).mono ?_; rintro e w1 ⟨rfl, hb1⟩; clear hlin))
  have hA0 := Sc.laid w1 P
  obtain ⟨W, hW⟩ : ∃ W, w1.alloc (.cells #[.string P, .int .i64 0, .string ⟨#[]⟩, .bool false, .string ⟨#[]⟩, .string ⟨#[]⟩, .int .i64 0, .int .i64 (-1), .slice none 0 0, .bool false, .slice none 0 0, .slice none 0 0, .bool false, .string ⟨#[]⟩, .string ⟨#[]⟩] 67) = W := ⟨_, rfl⟩
  have hbW : Below w.heap.size w W := by rw [← hW]; exact hb1.alloc hb1.size _
  rw [hW] at hA0
  rw [hW]
  have hgw : w.heap.size ≤ w1.heap.size := hb1.size
  generalize w1.heap.size = g at *
  have HA0 := Lib.hid hA0
  have HB0 := Lib.hid hbW
  clear hW hA0 hbW hb1 h
  go_loopw [5] (fun i wr => ∃ (k : Nat) (bv ov av : Value), k ≤ P.size ∧ i = .int .i64 (k : Int) ∧ Hid (Sc.At wr g P (Rf.run P Rf.start 0 (P.data.toList.take k)) bv ov av) ∧ Hid (Below w.heap.size w wr)) (fun i _ => P.size - (intOf i).toNat)
  case atStart => exact ⟨0, _, _, _, Nat.zero_le _, rfl, HA0.out, HB0.out⟩
  case round =>
    clear HA0 HB0
    obtain ⟨k, bv, ov, av, hk, rfl, HA, HB⟩ := hrel
    have hlen : (P.data.toList.take k).length = k := by rw [List.length_take, Wk.len_data]; omega
    have hSm := Rf.Sm.run (P := P) (P.data.toList.take k) Rf.Sm.start Ts.Fit.start (by omega)
    have hSim := Rf.Sim.run (P := P) (P.data.toList.take k) (Rf.Sim.start P) (by omega)
    rw [hlen, Nat.zero_add] at hSm hSim
    have x0 := HA.out.box.cell 0 _ rfl
    by_cases hlt : k < P.size
    · have d1 : decide ((k : Int) < (P.size : Int)) = true := decide_eq_true (by omega)
      have HR : Hid (Rf.run P Rf.start 0 (P.data.toList.take (k + 1)) = Rf.byte P (Rf.run P Rf.start 0 (P.data.toList.take k)) k P[k]) := by
        unfold Hid
        have e : P.data.toList.take (k + 1) = P.data.toList.take k ++ [P[k]] := by
          rw [List.take_succ_eq_append_getElem (by rw [Wk.len_data]; exact hlt)]; rfl
        rw [e, Rf.run_snoc, hlen, Nat.zero_add]
      have by1 := Sc.byte P (Rf.run P Rf.start 0 (P.data.toList.take k)) k wr g bv ov av HA.out hSm.2 hSm.1 hlt hPs P[k] rfl (fun a b c => hSim.cm P[k] a b c)
      rw [← HR.out] at by1
      clear HR hSm hSim hlen
      go_wp2_with (go_at_call 34; refine by1.mono ?_; rintro e w4 ⟨rfl, bv4, ov4, av4, hA4, hK4⟩; clear by1)
      go_roundw
      case rel => exact ⟨k + 1, bv4, ov4, av4, by omega, by go_num, hA4, hK4.below HA.out HB.out hgw⟩
      case measure => simp [intOf]; omega
    · have hke : k = P.size := by omega
      subst hke
      have d1 : decide ((P.size : Int) < (P.size : Int)) = false := decide_eq_false (by omega)
      rw [show P.data.toList.take P.size = P.data.toList by rw [← Wk.len_data]; exact List.take_length] at HA hSm hSim
      clear hSim hlen x0
      generalize Rf.run P Rf.start 0 P.data.toList = x at *
      have x0 := HA.out.box.cell 0 _ rfl
      have x1 := HA.out.box.cell 1 _ rfl
      have x7 := HA.out.box.cell 7 _ rfl
      have hbl : x.buf.length ≤ 65536 := by have := hSm.1.buf; omega
      have hou : x.out.length ≤ 1000000 := by have := hSm.1.out; omega
      have htxt := fun u => Rl.inText x.st.pl _ rfl u
      by_cases hc : 0 ≤ x.hold ∧ Rf.inText x.st.pl
      · have d0 : decide ((0 : Int) ≤ x.hold) = true := decide_eq_true hc.1
        have hT : (decide (x.st.pl = 0) || decide (x.st.pl = 1) || decide (x.st.pl = 2) || decide ((19 : Int) ≤ x.st.pl)) = true := by
          have := hc.2
          unfold Rf.inText at this
          simp only [Bool.or_eq_true, decide_eq_true_eq]
          omega
        simp only [hT] at htxt
        obtain ⟨a, ha⟩ : ∃ a : Nat, x.hold = (a : Int) := ⟨x.hold.toNat, by omega⟩
        have HT : Hid (TS = (x.adds P a P.size).flush.out) := by unfold Hid; rw [HTok.out]; unfold Rf.done; rw [if_pos hc, ha]; rfl
        have add := fun u bv2 => fun (hu : Sc.At u g P x bv2 ov av) => Sc.adds P x u g bv2 ov av hu a P.size (by have := (hSm.1.hold hc.1).1; omega) (Nat.le_refl _) hPs hbl
        have HBL : Hid ((x.adds P a P.size).buf.length ≤ 65536) := by
          unfold Hid
          show (x.buf ++ Rf.sl P a P.size).length ≤ 65536
          rw [List.length_append, Rf.sl_len P a P.size (Nat.le_refl _)]
          have := hSm.1.hold hc.1
          omega
        rw [ha] at x7 d0
        clear hSm hc hT HTok ha
        go_upto_region 9 with (first | (go_at_call 35; refine (htxt _).mono ?_; rintro e w' ⟨rfl, hw⟩; have hw := hw.symm; subst hw))
        have HD : Hid (Below wr.heap.size wr wr.drew) := (Below.refl _ _).drew
        have add2 := add wr.drew bv (HA.out.on HD.out)
        clear add
        go_cut [] from 38 to 48 (fun wx => Hid (∃ bv2, Sc.At wx g P (x.adds P a P.size) bv2 ov av ∧ Sc.Kept wr wx g bv ov av bv2 ov av))
        case first =>
          go_region_with (go_at_call 36; refine add2.mono ?_; rintro e w2 ⟨rfl, bv2, hA2, hK2⟩; have HK2 := Lib.hid ((Sc.Kept.of g bv ov av HD.out).trans hK2); have HA2 := Lib.hid hA2; clear hA2 hK2)
          all_goals (try go_wp2_with fail)
          all_goals go_meet
          all_goals exact Lib.hid ⟨bv2, HA2.out, HK2.out⟩
        case rest =>
          obtain ⟨bv2, hA2, hK2⟩ := hcut.out
          have flu := Sc.flush P (x.adds P a P.size) wc g bv2 ov av hA2 HBL.out hou
          have HK2 := Lib.hid hK2
          clear hcut hA2 hK2 add2 htxt x0 x1 x7
          go_wp2_with (first | (go_at_call 37; refine flu.mono ?_; rintro e w5 ⟨rfl, bv5, ov5, hA5, hK5⟩; have y10 := hA5.box.cell 10 _ rfl; have HA5 := Lib.hid hA5; have HK5 := Lib.hid hK5; clear hA5 hK5 flu))
          go_ret2
          refine ⟨ov5, rfl, ?_, (HK2.out.trans HK5.out).below HA.out HB.out hgw⟩
          rw [HT.out]
          exact HA5.out.out.lies.on fun k hk => ⟨⟨by omega, hk.2⟩, rfl⟩
      · have HT : Hid (TS = x.flush.out) := by unfold Hid; rw [HTok.out]; unfold Rf.done; rw [if_neg hc]
        have flu := Sc.flush P x wr g bv ov av HA.out hbl hou
        have hd : decide ((0 : Int) ≤ x.hold) = false ∨ (decide ((0 : Int) ≤ x.hold) = true ∧ (decide (x.st.pl = 0) || decide (x.st.pl = 1) || decide (x.st.pl = 2) || decide ((19 : Int) ≤ x.st.pl)) = false) := by
          unfold Rf.inText at hc
          simp only [Bool.or_eq_false_iff, decide_eq_true_eq, decide_eq_false_iff_not]
          omega
        clear hSm hc HTok
        rcases hd with d0 | ⟨d0, d2⟩
        all_goals
          (try simp only [d2] at htxt)
          go_wp2_with (first | (go_at_call 35; refine (htxt _).mono ?_; rintro e w' ⟨rfl, hw⟩; have hw := hw.symm; subst hw) | (go_at_call 37; refine flu.mono ?_; rintro e w5 ⟨rfl, bv5, ov5, hA5, hK5⟩; have y10 := hA5.box.cell 10 _ rfl; have HA5 := Lib.hid hA5; have HK5 := Lib.hid hK5; clear hA5 hK5 flu))
          go_ret2
          refine ⟨ov5, rfl, ?_, HK5.out.below HA.out HB.out hgw⟩
          rw [HT.out]
          exact HA5.out.out.lies.on fun k hk => ⟨⟨by omega, hk.2⟩, rfl⟩
end Go.Proofs.YtjbkgokiikbaeaaGreatDoor
