/-
  THE WALK of tok.Tokens, whole.
-/
import Derived.Test.YtjbkgokiikbaeaaGreatDoorTTok
namespace Go.Proofs.YtjbkgokiikbaeaaGreatDoor
open Go.RowKit
theorem Rm.Kept.below {w wr w' : World} {g : Nat} {P : ByteArray} {r : Rd} {tv av tv' av' : Value} (hK : Rm.Kept wr w' g tv av tv' av') (hA : Rm.At wr g P r tv av) (hb : Below w.heap.size w wr) (hg : w.heap.size ≤ g) : Below w.heap.size w w' :=
  ⟨hK.os.trans hb.os, hK.tape.trans hb.tape, hK.output.trans hb.output, Nat.le_trans hb.size hK.size, fun k hk => (hK.block k (Nat.lt_of_lt_of_le hk hb.size) ⟨by omega, fun e => by have := (hA.tvLt e).1; omega, fun e => by have := (hA.avLt e).1; omega⟩).1.trans (hb.block k hk)⟩
theorem Tk.long (page : ByteArray) (w : World) (h : 65536 < page.size) (hs : page.size ≤ maxLen) : Calls Tryz.prog 11 #[.string page] w fun e w' => e = .returned (.tuple #[.slice none 0 0, .int .i64 500]) ∧ w' = w := by
  unfold maxLen at hs
  have t : decide ((65536 : Int) < (page.size : Int)) = true := decide_eq_true (by omega)
  go_enter Tryz.func11, Tryz.ntmps11
  go_wp2
  go_ret2
  exact ⟨rfl, rfl⟩
set_option maxHeartbeats 4000000 in
theorem Tk.short (page : ByteArray) (m : Int) (w : World) (h : page.size ≤ 65536) (hm : w.cell? ⟨0, 0, none⟩ = some (.int .i64 m)) :
    Calls Tryz.prog 11 #[.string page] w fun e w' => ∃ v, e = .returned (.tuple #[v, .int .i64 0]) ∧ Tk.Lies w' (fun k => w.heap.size ≤ k ∧ k < w'.heap.size) (Rd.tokens page) v ∧ Below w.heap.size w w' := by
  have t : decide ((65536 : Int) < (page.size : Int)) = false := decide_eq_false (by omega)
  have hone := Tp.oneLineEnd page m w h hm
  have HTok : Hid (Rd.tokens page = Rd.done (Rd.page page) (Rd.run (Rd.page page) Rd.start 0 (Rd.page page).data.toList)) := by
    unfold Hid Rd.tokens
    rw [show (Rd.page page).data.toList = Rd.lines page.data.toList by unfold Rd.page; exact List.toList_toArray]
  have hPs : (Rd.page page).size ≤ 65536 := by
    have := Li.lines_len page.data.toList
    rw [Wk.len_data] at this
    rw [← Wk.len_data, show (Rd.page page).data.toList = Rd.lines page.data.toList by unfold Rd.page; exact List.toList_toArray]
    omega
  generalize Rd.page page = P at *
  generalize Rd.tokens page = TS at *
  clear hm h
  go_enter Tryz.func11, Tryz.ntmps11
  go_wp2_with (first | (go_at_call 29; refine hone.mono ?_; rintro e w1 ⟨rfl, hb1⟩; clear hone) | (go_at_call 22; refine (Tp.steppers _).mono ?_; rintro e w2 ⟨B, C, rfl, hB, hC, hB0, hC0, h34, h39, hb2⟩) | (go_at_call 10; refine (Tp.Start _).mono ?_; rintro e w3 ⟨rfl, hb3⟩) | refine Vm.stop 13 ?_)
  have b2 : Below w.heap.size w w2 := hb1.trans (hb2.mono hb1.size)
  have b3 : Below w.heap.size w w3 := b2.trans (hb3.mono b2.size)
  have k34 := Tp.keep hb3 h34
  have k39 := Tp.keep hb3 h39
  have hs3 := hb3.size
  clear h34 h39 hb1 hb2 hb3 b2
  refine ⟨?_⟩
  refine wpList_buildTo rfl 62 _ rfl (some 13) rfl (Rm.cells P B C) (by kernel_rfl) ?_
  go_wp2_with (refine Vm.stopS 62 ?_)
  refine ⟨?_⟩
  obtain ⟨W, hW⟩ : ∃ W, w3.alloc (.cells Rm.zeros 62) = W := ⟨_, rfl⟩
  have hsz : W.heap.size = w3.heap.size + 1 := by rw [← hW]; simp
  have hbW : Below w3.heap.size w3 W := by rw [← hW]; exact (Below.refl _ _).alloc (Nat.le_refl _) _
  have hnew : W.heap[w3.heap.size]? = some (.cells Rm.zeros 62) := by rw [← hW]; exact heap_alloc_new w3 _
  have hth : W.there w3.heap.size 0 36 := Tp.there W w3.heap.size Rm.zeros 62 hnew 0 36 (by decide)
  have hz : ∀ i, W.frozen? ⟨w3.heap.size, i, none⟩ = false := fun i => by unfold World.frozen?; rw [hnew]; simp
  have hA0 := Rm.At.laid (W := W) (g := w3.heap.size) (B := B) (C := C) (P := P) (by omega) hth hz (by omega) (by omega) (Tp.keep hbW k34) (Tp.keep hbW k39)
  have hb4 := Tp.setCells (B := w.heap.size) (a := w) w3.heap.size b3.size (Rm.cells P B C).toList 0 W (b3.trans (hbW.mono b3.size))
  unfold Rm.zeros at hW
  rw [hW]
  refine wpList_store_mid rfl 62 _ _ rfl w3.heap.size 0 (Rm.cells P B C) rfl rfl hth Rm.infoR (Rm.cells_one _ _ _) ?_
  generalize W.setCells w3.heap.size 0 (Rm.cells P B C).toList = V at *
  have hgw : w.heap.size ≤ w3.heap.size := b3.size
  generalize w3.heap.size = g at *
  clear hW hth hz hnew hbW k34 k39 hB hC hB0 hC0 b3 hs3 hsz
  have z0 := hA0.box.page
  have HA0 := Lib.hid hA0
  have HB4 := Lib.hid hb4
  clear hA0 hb4
  go_wp2
  go_loopw [17] (fun i wr => ∃ (k : Nat) (tv av : Value), k ≤ P.size ∧ i = .int .i64 (k : Int) ∧ Hid (Rm.At wr g P (Rd.run P Rd.start 0 (P.data.toList.take k)) tv av) ∧ Hid (Below w.heap.size w wr)) (fun i _ => P.size - (intOf i).toNat)
  case atStart => exact ⟨0, _, _, Nat.zero_le _, rfl, HA0.out, HB4.out⟩
  case round =>
    clear HA0 HB4 z0
    obtain ⟨k, tv, av, hk, rfl, HA, HB⟩ := hrel
    have hlen : (P.data.toList.take k).length = k := by rw [List.length_take, Wk.len_data]; omega
    have hOk := Rd.Ok.run (P := P) (P.data.toList.take k) Rd.Ok.start
    rw [hlen, Nat.zero_add] at hOk
    by_cases hlt : k < P.size
    · have HR : Hid (Rd.run P Rd.start 0 (P.data.toList.take (k + 1)) = Rd.read P (Rd.run P Rd.start 0 (P.data.toList.take k)) k P[k]) := by
        unfold Hid
        have e : P.data.toList.take (k + 1) = P.data.toList.take k ++ [P[k]] := by
          rw [List.take_succ_eq_append_getElem (by rw [Wk.len_data]; exact hlt)]; rfl
        rw [e, Rd.run_snoc, hlen, Nat.zero_add]
      obtain ⟨RR, hRR⟩ : ∃ RR, Rd.run P Rd.start 0 (P.data.toList.take (k + 1)) = RR := ⟨_, rfl⟩
      have HRR := Lib.hid hRR
      rw [hRR] at HR
      clear hRR
      generalize Rd.run P Rd.start 0 (P.data.toList.take k) = r at *
      obtain ⟨q, hq⟩ : ∃ q : Nat, r.st.pl = (q : Int) := ⟨r.st.pl.toNat, by have := hOk.lo; omega⟩
      have hnx := Ts.step_next r.st P[k] q hq (by have := hOk.hi; omega)
      have hrd := Rm.read r k P[k] (r.st.step P[k]) _ wr g P tv av HA.out hPs hlt rfl ⟨by have := hOk.small.1; unfold maxLen; omega, by have := hOk.small.2.1; unfold maxLen; omega, by have := hOk.small.2.2; unfold maxLen; omega⟩ rfl rfl (fun hc => by have := hOk.tx q hq hnx rfl hc; omega) (fun h1 h2 h3 => hOk.cm q hq hnx rfl h1 h2 h3) hOk.value (fun h1 h2 => hOk.taken (by omega) (by omega) h2) hOk.attrs (by have := hOk.toks; omega)
      rw [← HR.out] at hrd
      clear hnx hq hOk HR
      go_wp2_with (go_at_call 30; refine hrd.mono ?_; rintro e w4 ⟨rfl, tv4, av4, hA4, hK4⟩; clear hrd)
      go_roundw
      case rel => exact ⟨k + 1, tv4, av4, by omega, by go_num, by unfold Hid; rw [HRR.out]; exact hA4, hK4.below HA.out HB.out hgw⟩
      case measure => simp [intOf]; omega
    · have hke : k = P.size := by omega
      subst hke
      rw [show P.data.toList.take P.size = P.data.toList by rw [← Wk.len_data]; exact List.take_length] at HA hOk
      generalize Rd.run P Rd.start 0 P.data.toList = r at *
      have x0 := HA.out.box.page
      have x24 := HA.out.box.s0
      have x28 := HA.out.box.s4
      have x30 := HA.out.box.toks
      have htx := hOk.text
      have htk := hOk.toks
      cases lw : Rd.loose r.st.pl with
      | true =>
        have HT : Hid (TS = (Rd.tellText P r P.size r.st.held).toks) := by unfold Hid; rw [HTok.out]; unfold Rd.done; rw [if_pos lw]
        have htt := Rm.tellText r P.size r.st.held wr g P tv av HA.out hPs htx (Nat.le_refl _) (by omega)
        clear hOk HTok
        go_wp2_with (first | (go_at_call 31; refine (Tp.isLoose _ _).mono ?_; rintro e w' ⟨rfl, rfl⟩) | (go_at_call 32; refine htt.mono ?_; rintro e w5 ⟨rfl, tv5, av5, hA5, hK5⟩; have y30 := hA5.box.toks; have HA5 := Lib.hid hA5; have HK5 := Lib.hid hK5; clear hA5 hK5 htt))
        go_ret2
        refine ⟨tv5, rfl, ?_, HK5.out.below HA.out HB.out hgw⟩
        rw [HT.out]
        exact HA5.out.toks.lies.on fun k hk => ⟨⟨by omega, hk.2⟩, rfl⟩
      | false =>
        have HT : Hid (TS = r.toks) := by unfold Hid; rw [HTok.out]; unfold Rd.done; rw [if_neg (by rw [lw]; decide)]
        clear hOk HTok
        go_wp2_with (first | (go_at_call 31; refine (Tp.isLoose _ _).mono ?_; rintro e w' ⟨rfl, rfl⟩))
        go_ret2
        refine ⟨tv, rfl, ?_, HB.out⟩
        rw [HT.out]
        exact HA.out.toks.lies.on fun k hk => ⟨⟨by omega, hk.2⟩, rfl⟩
end Go.Proofs.YtjbkgokiikbaeaaGreatDoor
