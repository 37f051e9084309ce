/-
  THE WALK of stoleref13.Parse.
-/
import Derived.Test.YtjppobeomocgbaaGreatDoorTMRows
import Derived.Test.YtjppobeomocgbaaGreatDoorTLRef4
import Derived.Test.YtjppobeomocgbaaGreatDoorTNPiecetoNSim
import Derived.Test.YtjppobeomocgbaaGreatDoorTLActtoLProg
import Derived.Test.YtjppobeomocgbaaGreatDoorTMSametoMRow1
import Derived.Test.YtjppobeomocgbaaGreatDoorTMNesttoNPlain
import Derived.Test.YtjppobeomocgbaaGreatDoorTGKittoLRef1
namespace Go.Proofs.YtjppobeomocgbaaGreatDoor
open Go.RowKit
theorem Tm.split_ok (s : ByteArray) : (∀ p ∈ (Lx.split s).1, p.act = true → p.text.length ≤ 65536) ∧ (Lx.split s).1.length ≤ 1048576 := by
  have h0 : (∀ p ∈ ([] : List Pc), p.act = true → p.text.length ≤ 65536) ∧ ([] : List Pc).length ≤ 1048576 := ⟨fun p hp => (by cases hp), by decide⟩
  unfold Lx.split
  split
  · exact h0
  · unfold Lx.all
    split
    · exact h0
    · unfold Lx.limits
      split
      · exact h0
      · rename_i hl
        split
        · exact h0
        · refine ⟨fun p hp ha => ?_, by dsimp only; omega⟩
          by_cases hq : 256 < p.text.length
          · exact absurd (List.any_eq_true.2 ⟨p, hp, by rw [ha, decide_eq_true hq]; rfl⟩) hl
          · omega
set_option maxRecDepth 100000 in
set_option maxHeartbeats 4000000 in
theorem Tr.parse (s : ByteArray) (w : World) : Calls Tryz.prog 9 #[.string s] w fun e w' => ∃ v, e = .returned (.tuple #[v, .int .i64 (Tm.parse s).2]) ∧ Dt.Lies w' (Tr.L w.heap.size w') (It.rows (Tm.parse s).1) v ∧ Below w.heap.size w w' := by
  have sp := Lr.split s w
  obtain ⟨hps, hpl⟩ := Tm.split_ok s
  obtain ⟨R, hR⟩ : ∃ R, Tm.parse s = R := ⟨_, rfl⟩
  rw [hR]
  unfold Tm.parse at hR
  dsimp only at hR
  obtain ⟨S, hS⟩ : ∃ S, Lx.split s = S := ⟨_, rfl⟩
  rw [hS] at sp hps hpl hR
  obtain ⟨ps, E⟩ := S
  dsimp only at sp hps hpl hR
  have HPS := Lib.hid hps
  clear hS hps
  by_cases hE : E = 0
  · subst hE
    rw [if_neg (by decide)] at hR
    obtain ⟨G, hG⟩ : ∃ G, Tm.rows ps (ps.length + 1) 0 false 0 [] = G := ⟨_, rfl⟩
    rw [hG] at hR
    have HG := Lib.hid hG
    have HR := Lib.hid hR
    clear hG hR
    go_enter Tryz.func9, Tryz.ntmps9
    go_upto_region 5 with (go_at_call 18; refine sp.mono ?_; rintro e w1 ⟨v, rfl, hl, hb⟩; obtain ⟨pa, pd, hv, _, _, _⟩ := id hl; subst hv; have HL1 := Lib.hid hl; have HB1 := Lib.hid hb; clear hl hb sp)
    have HA2 : Hid (Tr.At (w1.alloc (.cells #[.slice pa ps.length pd, .int .i64 0, .int .i64 0] 64)) w1.heap.size (.slice pa ps.length pd) 0 0) := Bs.Box.new _ _ _ _ rfl
    have HP2 : Hid (Pc.Lies (w1.alloc (.cells #[.slice pa ps.length pd, .int .i64 0, .int .i64 0] 64)) (fun k => k < (w1.alloc (.cells #[.slice pa ps.length pd, .int .i64 0, .int .i64 0] 64)).heap.size ∧ k ≠ w1.heap.size) ps (.slice pa ps.length pd)) := HL1.out.on fun k hk => ⟨⟨by have := hk.2; simp; omega, by have := hk.2; omega⟩, Below.heap_alloc _ _ _ hk.2⟩
    have HB2 : Hid (Below w.heap.size w (w1.alloc (.cells #[.slice pa ps.length pd, .int .i64 0, .int .i64 0] 64))) := HB1.out.alloc HB1.out.size _
    have hg : w.heap.size ≤ w1.heap.size := HB1.out.size
    clear HL1 HB1
    generalize w1.alloc (.cells #[.slice pa ps.length pd, .int .i64 0, .int .i64 0] 64) = w2 at *
    generalize w1.heap.size = g at *
    have rw1 := Tr.rows ps g (.slice pa ps.length pd) HPS.out hpl (ps.length + 1) 0 false 0 w2 (by decide) (Nat.zero_le _) (by omega) HA2.out HP2.out
    rw [HG.out] at rw1
    clear HG HP2 HA2
    go_upto_region 6 with (go_at_call 19; refine rw1.mono ?_; rintro e w3 ⟨⟨a, n, d, t, rfl, kk, er, ok⟩⟩; have HK3 := Lib.hid (kk.below HB2.out hg (Nat.le_refl _)); have HZ3 := Lib.hid HB2.out.size; have ER := Lib.hid er; have OK := Lib.hid ok; clear kk er ok rw1)
    cases G with
    | error x =>
      obtain ⟨hx, j, a3⟩ := ER.out x rfl
      have c2 := a3.c2
      have x2 : (x != 0) = true := bne_iff_ne.2 hx
      have hRR : ([], x) = R := HR.out
      subst hRR
      clear a3 hx ER OK HR
      go_wp2_with fail
      go_quiet (fail)
      go_wp2
      go_ret2
      exact ⟨_, rfl, Dt.Lies.nil _ _ _ _, ⟨HK3.out.os, HK3.out.tape, HK3.out.output, HK3.out.size, HK3.out.block⟩⟩
    | ok q =>
      obtain ⟨out, tag, j⟩ := q
      obtain ⟨rfl, ht, _, _, a3, l3⟩ := OK.out out tag j rfl
      have c2 := a3.c2
      have HL3 := Lib.hid l3
      clear a3 l3 ER OK
      match tag, ht with
      | 0, _ =>
        rw [show Tr.tag 0 = ⟨#[]⟩ from rfl]
        have hRR : (out, 0) = R := HR.out
        subst hRR
        clear HR
        go_wp2_with fail
        go_ret2
        exact ⟨_, rfl, Tr.lies_lo HL3.out HZ3.out, HK3.out⟩
      | 1, _ =>
        rw [show Tr.tag 1 = ⟨#[101, 108, 115, 101]⟩ from rfl]
        have hRR : ([], 1601) = R := HR.out
        subst hRR
        clear HR
        go_wp2_with fail
        go_ret2
        exact ⟨_, rfl, Dt.Lies.nil _ _ _ _, HK3.out⟩
      | 2, _ =>
        rw [show Tr.tag 2 = ⟨#[101, 110, 100]⟩ from rfl]
        have hRR : ([], 1600) = R := HR.out
        subst hRR
        clear HR
        go_wp2_with fail
        go_ret2
        exact ⟨_, rfl, Dt.Lies.nil _ _ _ _, HK3.out⟩
  · have hE2 : (E != 0) = true := bne_iff_ne.2 hE
    rw [if_pos hE] at hR
    subst hR
    clear hE
    go_enter Tryz.func9, Tryz.ntmps9
    go_wp2_with (go_at_call 18; refine sp.mono ?_; rintro e w1 ⟨v, rfl, _, hb⟩; have HB1 := Lib.hid hb; clear hb sp)
    go_ret2
    exact ⟨_, rfl, Dt.Lies.nil _ _ _ _, HB1.out⟩
end Go.Proofs.YtjppobeomocgbaaGreatDoor
/-
  tmpl.Parse: THE CONTRACT, of the landed program.
-/
namespace Go.Proofs.YtjppobeomocgbaaGreatDoor
open Go.RowKit
/-- what the program reads of package variables -/
structure Mp.T (w : World) : Prop where
  lp : Lp.T w
theorem Mp.T.on {w w' : World} (h : Mp.T w) (hb : Below w.heap.size w w') : Mp.T w' := ⟨h.lp.on hb⟩
theorem Mp.short (s : ByteArray) : (∀ p ∈ (Lx.split s).1, p.act = true → p.text.length ≤ 256) ∧ (Lx.split s).1.length ≤ 1048575 := by
  have h0 : (∀ p ∈ ([] : List Pc), p.act = true → p.text.length ≤ 256) ∧ ([] : List Pc).length ≤ 1048575 := ⟨fun p hp => (by cases hp), by decide⟩
  unfold Lx.split
  split
  · exact h0
  · unfold Lx.all
    split
    · exact h0
    · unfold Lx.limits
      split
      · exact h0
      · rename_i hl
        split
        · exact h0
        · refine ⟨fun p hp ha => ?_, by dsimp only; omega⟩
          by_cases hq : 256 < p.text.length
          · exact absurd (List.any_eq_true.2 ⟨p, hp, by rw [ha, decide_eq_true hq]; rfl⟩) hl
          · omega
theorem Mp.start (w : World) : Ml.Is w.heap.size (w.alloc (.cells #[.slice none 0 0, .slice none 0 0] 56)) w.heap.size ⟨[], []⟩ := by
  refine ⟨fun _ => 0, .slice none 0 0, .slice none 0 0, [], Bs.Box.new w _ _ _ rfl, rfl, Nat.le_refl _, Ml.Row.nil _ _ _ _, World.ownsRow_nil _ _ _ _, fun b hb => (by cases hb), fun i b hi => (by cases hi), Nat.zero_le _⟩
theorem Mp.fin_ok (s : Mz.St) : (s.op = [] → Mz.fin (.ok s) = (s.items, 0)) ∧ (¬ s.op = [] → Mz.fin (.ok s) = ([], 1600)) := ⟨fun h => if_pos h, fun h => if_neg h⟩
theorem Mp.go_at {ps : List Pc} {j : Nat} {s : Mz.St} (h : j < ps.length) : Mz.go (ps.drop j) s = Mz.next (s.piece ps[j]) (ps.drop (j + 1)) := by
  rw [List.drop_eq_getElem_cons h]
  rfl
set_option maxRecDepth 100000 in
set_option maxHeartbeats 8000000 in
theorem Mp.parse (s : ByteArray) (w : World) (hT : Mp.T w) : Calls Tryz.prog 8 #[.string s] w fun e w' => ∃ v, e = .returned (.tuple #[v, .int .i64 (Tm.parse s).2]) ∧ Dt.Lies w' (Tr.L w.heap.size w') (It.rows (Tm.parse s).1) v ∧ Below w.heap.size w w' := by
  have sp := Lp.split s w hT.lp
  obtain ⟨hps, hpl⟩ := Mp.short s
  obtain ⟨R, hR⟩ : ∃ R, Tm.parse s = R := ⟨_, rfl⟩
  rw [hR]
  unfold Tm.parse at hR
  dsimp only at hR
  obtain ⟨S, hS⟩ : ∃ S, Lx.split s = S := ⟨_, rfl⟩
  rw [hS] at sp hps hpl hR
  obtain ⟨ps, E⟩ := S
  dsimp only at sp hps hpl hR
  have HPS := Lib.hid hps
  clear hS hps hT
  by_cases hE : E = 0
  · subst hE
    rw [if_neg (by decide), ← Mz.parse] at hR
    have HR := Lib.hid hR
    clear hR
    go_enter Tryz.func8, Tryz.ntmps8
    go_upto_region 5 with (go_at_call 16; refine sp.mono ?_; rintro e w1 ⟨v, rfl, hl, hb⟩; obtain ⟨pa, pd, hv, hl1, hl2, hl3⟩ := hl; subst hv; have HL1 := Lib.hid hl3; have HB1 := Lib.hid hb; clear hl3 hb sp)
    have hpm : ps.length ≤ 9223372036854775807 := by omega
    have HI := Lib.hid (Mp.start w1)
    have HB2 : Hid (Below w1.heap.size w1 (w1.alloc (.cells #[.slice none 0 0, .slice none 0 0] 56))) := (Below.refl _ _).alloc (Nat.le_refl _) _
    generalize w1.alloc (.cells #[.slice none 0 0, .slice none 0 0] 56) = w2 at *
    go_wp2
    go_loopw [20] (fun i wr => ∃ (j : Nat) (st : Mz.St), j ≤ ps.length ∧ i = .int .i64 (j : Int) ∧ Hid (Below w1.heap.size w1 wr) ∧ Hid (Ml.Is w1.heap.size wr w1.heap.size st) ∧ Hid (st.Few j) ∧ Hid (Mz.fin (Mz.go (ps.drop j) st) = R)) (fun i _ => ps.length - (intOf i).toNat)
    case atStart => exact ⟨0, ⟨[], []⟩, Nat.zero_le _, rfl, HB2, HI, ⟨Nat.zero_le _, fun b hb => (by cases hb)⟩, by rw [List.drop_zero]; exact HR.out⟩
    case round =>
      obtain ⟨j, st, hj, rfl, HB, HS, HF, HG⟩ := hrel
      by_cases hlt : j < ps.length
      · have hg := List.getElem?_eq_getElem hlt
        obtain ⟨b1, o1, rfl, hb1, c0, c1, c2⟩ := HL1.out j ps[j] hg
        have c0 := Tp.keep HB.out c0
        have c1 := Tp.keep HB.out c1
        have c2 := Tp.keep HB.out c2
        have dlt : decide ((j : Int) < (ps.length : Int)) = true := decide_eq_true (by omega)
        have hgo := Mp.go_at (s := st) hlt
        have hfz : ∀ t, st.piece ps[j] = .ok t → t.Few (j + 1) := fun t e => Mz.piece_few HF.out e
        have HA : Hid (∀ u : World, Below wr.heap.size wr u → Calls Tryz.prog 17 #[.pointer (some ⟨w1.heap.size, 0, none⟩), .agg #[.bool ps[j].act, .string ⟨ps[j].text.toArray⟩, .int .i64 (ps[j].loc : Int)]] u (Ml.Out w1.heap.size u w1.heap.size (st.piece ps[j]))) := fun u hb => Ml.piece ps[j] (HS.out.on hb) (Nat.le_trans HB.out.size hb.size) (HF.out.mono (by omega)) fun ha => HPS.out _ (List.getElem_mem hlt) ha
        have hG := HG.out
        rw [hgo] at hG
        clear hg hgo HG HS HF
        generalize st.piece ps[j] = Z at *
        generalize ps[j] = p at *
        obtain ⟨pact, ptext, ploc⟩ := p
        simp only at c0 c1 c2 HA
        generalize (⟨ptext.toArray⟩ : ByteArray) = T at *
        have HB3 : Hid (Below wr.heap.size wr (wr.alloc (.cells #[.bool pact, .string T, .int .i64 (ploc : Int)] 58))) := (Below.refl _ _).alloc (Nat.le_refl _) _
        have hc := HA.out _ HB3.out
        cases Z with
        | error c =>
          have hR : ([], c) = R := hG
          subst hR
          clear hG hfz HA
          go_wp2_with (go_at_call 17; refine hc.mono ?_; rintro e w4 ⟨b4, he, n4, i4⟩; have he : e = .returned (.int .i64 c) := he; subst he; have hcn : (c != 0) = true := bne_iff_ne.2 (n4 c rfl); have HB4 := Lib.hid ((HB.out.trans (HB3.out.mono HB.out.size)).trans b4); clear b4 n4 i4 hc)
          go_ret2
          exact ⟨_, rfl, Dt.Lies.nil _ _ _ _, HB1.out.trans (HB4.out.mono HB1.out.size)⟩
        | ok t =>
          have HG2 : Hid (Mz.fin (Mz.go (ps.drop (j + 1)) t) = R) := hG
          have HF2 : Hid (t.Few (j + 1)) := hfz t rfl
          clear hG hfz HA
          go_wp2_with (go_at_call 17; refine hc.mono ?_; rintro e w4 ⟨b4, he, n4, i4⟩; have he : e = .returned (.int .i64 0) := he; subst he; have HB4 := Lib.hid ((HB.out.trans (HB3.out.mono HB.out.size)).trans b4); have HI4 := Lib.hid (i4 t rfl); clear b4 n4 i4 hc)
          go_roundw
          case rel => exact ⟨j + 1, t, by omega, by go_num, HB4, HI4, HF2, HG2⟩
          case measure => simp [intOf]; omega
      · have e : j = ps.length := by omega
        subst e
        have dlt : decide ((ps.length : Int) < (ps.length : Int)) = false := decide_eq_false (by omega)
        have hG := HG.out
        rw [List.drop_length] at hG
        have hG : Mz.fin (.ok st) = R := hG
        obtain ⟨own, iv, ov, xs, hA⟩ := HS.out
        have g0 : wr.cell? ⟨w1.heap.size, 0, none⟩ = some iv := hA.box.cell 0 rfl
        have g1 : wr.cell? ⟨w1.heap.size, 1, none⟩ = some ov := hA.box.cell 1 rfl
        have hli := hA.items.lies
        have hdp := hA.deep
        obtain ⟨⟨ia, id, rfl⟩, oa, od, rfl⟩ := hA.form
        by_cases ho : st.op = []
        · have hR : (st.items, 0) = R := ((Mp.fin_ok st).1 ho).symm.trans hG
          subst hR
          rw [ho] at g1
          have HLI : Hid (Dt.Lies wr (Tr.L w.heap.size wr) (It.rows st.items) (.slice ia st.items.length id)) := hli.on fun b hb => ⟨⟨Nat.le_trans HB1.out.size hb.1, hb.2.1, hb.2.2.2⟩, rfl⟩
          clear hG HG HS HF hA hli ho
          go_wp2
          go_ret2
          exact ⟨_, rfl, HLI.out, HB1.out.trans (HB.out.mono HB1.out.size)⟩
        · have hR : ([], 1600) = R := ((Mp.fin_ok st).2 ho).symm.trans hG
          subst hR
          have d1 : 0 < st.op.length := List.length_pos_iff.2 ho
          clear hG HG HS HF hA hli ho
          go_wp2
          go_ret2
          exact ⟨_, rfl, Dt.Lies.nil _ _ _ _, HB1.out.trans (HB.out.mono HB1.out.size)⟩
  · have hE2 : (E != 0) = true := bne_iff_ne.2 hE
    rw [if_pos hE] at hR
    subst hR
    clear hE
    go_enter Tryz.func8, Tryz.ntmps8
    go_wp2_with (go_at_call 16; refine sp.mono ?_; rintro e w1 ⟨v, rfl, _, hb⟩; have HB1 := Lib.hid hb; clear hb sp)
    go_ret2
    exact ⟨_, rfl, Dt.Lies.nil _ _ _ _, HB1.out⟩
end Go.Proofs.YtjppobeomocgbaaGreatDoor
/-
  stolelaw16.awake.
-/
namespace Go.Proofs.YtjppobeomocgbaaGreatDoor
open Go.RowKit
def Mw.s1 : ByteArray := ⟨#[97, 123, 123, 114, 97, 110, 103, 101, 32, 46, 125, 125, 123, 123, 46, 125, 125, 123, 123, 98, 114, 101, 97, 107, 125, 125, 123, 123, 101, 108, 115, 101, 125, 125, 98, 123, 123, 101, 110, 100, 125, 125, 123, 123, 36, 120, 32, 58, 61, 32, 49, 125, 125, 123, 123, 116, 101, 109, 112, 108, 97, 116, 101, 32, 34, 116, 34, 32, 46, 125, 125]⟩
def Mw.want : List It := [.mk 0 [97] [] [] [], .mk 5 [] Mh.dot [Mh.hole, .mk 7 [] [] [] []] [.mk 0 [98] [] [] []], .mk 2 [120] [⟨[], [⟨2, [], [], 1, []⟩]⟩] [] [], .mk 6 [116] Mh.dot [] []]
theorem Mw.p1 : Tm.parse Mw.s1 = (Mw.want, 0) := by kernel_rfl
theorem Mw.p2 : (Tm.parse ⟨#[123, 123, 105, 102, 32, 46, 125, 125]⟩).2 = 1600 := by kernel_rfl
theorem Mw.p3 : (Tm.parse ⟨#[123, 123, 101, 108, 115, 101, 125, 125]⟩).2 = 1601 := by kernel_rfl
theorem Mw.p4 : (Tm.parse ⟨#[123, 123, 98, 114, 101, 97, 107, 125, 125]⟩).2 = 1602 := by kernel_rfl
theorem Mw.p5 : (Tm.parse ⟨#[123, 123, 125, 125]⟩).2 = 1604 := by kernel_rfl
/-- the five blocks that 'want' lays -/
def Mw.lay (w : World) (g g7 : Nat) : World := ((((w.alloc (.cells #[.int .i64 1, .string ⟨#[]⟩, .slice (some ⟨g7, 0, none⟩) 1 1, .slice none 0 0, .slice none 0 0, .int .i64 7, .string ⟨#[]⟩, .slice none 0 0, .slice none 0 0, .slice none 0 0] 37)).alloc (.cells #[.int .i64 0, .string ⟨#[98]⟩, .slice none 0 0, .slice none 0 0, .slice none 0 0] 37)).alloc (.cells #[.int .i64 2, .string ⟨#[]⟩, .slice none 0 0, .int .i64 1, .string ⟨#[]⟩] 43)).alloc (.cells #[.string ⟨#[]⟩, .slice (some ⟨w.heap.size + 1 + 1, 0, none⟩) 1 1] 46)).alloc (.cells #[.int .i64 0, .string ⟨#[97]⟩, .slice none 0 0, .slice none 0 0, .slice none 0 0, .int .i64 5, .string ⟨#[]⟩, .slice (some ⟨g, 0, none⟩) 1 1, .slice (some ⟨w.heap.size, 0, none⟩) 2 2, .slice (some ⟨w.heap.size + 1, 0, none⟩) 1 1, .int .i64 2, .string ⟨#[120]⟩, .slice (some ⟨w.heap.size + 1 + 1 + 1, 0, none⟩) 1 1, .slice none 0 0, .slice none 0 0, .int .i64 6, .string ⟨#[116]⟩, .slice (some ⟨g, 0, none⟩) 1 1, .slice none 0 0, .slice none 0 0] 37)
theorem Mw.below (w : World) (g g7 : Nat) : Below w.heap.size w (Mw.lay w g g7) := (Iw.b4 w _ _ _ _).alloc (by simp; omega) _
theorem Mw.lies (w : World) (g g7 : Nat) (h : Dt.Lies w (fun _ => True) (Cm.rows Mh.dot) (.slice (some ⟨g, 0, none⟩) 1 1)) (h7 : Dt.Lies w (fun _ => True) (Cm.rows Mh.dot) (.slice (some ⟨g7, 0, none⟩) 1 1)) : Dt.Lies (Mw.lay w g g7) (fun _ => True) (It.rows Mw.want) (.slice (some ⟨w.heap.size + 1 + 1 + 1 + 1, 0, none⟩) 4 4) := by
  have k := h.later (Mw.below w g g7)
  have k7 := h7.later (Mw.below w g g7)
  have x0 : Dt.Lies (Mw.lay w g g7) (fun _ => True) (It.rows [Mh.hole, .mk 7 [] [] [] []]) (.slice (some ⟨w.heap.size, 0, none⟩) 2 2) := by
    unfold Mw.lay
    refine Dt.lit [Mh.hole, .mk 7 [] [] [] []] 2 (((((Bs.Box.new w _ _ _ rfl).alloc _).alloc _).alloc _).alloc _) rfl (by decide) trivial It.dt_len ?_
    simp only [Mh.hole, List.flatMap_cons, List.flatMap_nil, It.dt_mk, List.cons_append, List.nil_append]
    unfold Mw.lay at k7
    exact ⟨Dt.i, Dt.s, k7, Dt.n, Dt.n, Dt.i, Dt.s, Dt.n, Dt.n, Dt.n, trivial⟩
  have x1 : Dt.Lies (Mw.lay w g g7) (fun _ => True) (It.rows [.mk 0 [98] [] [] []]) (.slice (some ⟨w.heap.size + 1, 0, none⟩) 1 1) := by
    unfold Mw.lay
    refine Dt.lit [It.mk 0 [98] [] [] []] 1 (cs := #[.int .i64 0, .string ⟨#[98]⟩, .slice none 0 0, .slice none 0 0, .slice none 0 0]) (ty := 37) ((((Bs.Box.new _ _ _ _ ?_).alloc _).alloc _).alloc _) rfl (by decide) trivial It.dt_len ?_
    · simp
    simp only [List.flatMap_cons, List.flatMap_nil, It.dt_mk, List.cons_append, List.nil_append]
    exact ⟨Dt.i, Dt.s, Dt.n, Dt.n, Dt.n, trivial⟩
  have x3 : Dt.Lies (Mw.lay w g g7) (fun _ => True) (Cm.rows [⟨[], [⟨2, [], [], 1, []⟩]⟩]) (.slice (some ⟨w.heap.size + 1 + 1 + 1, 0, none⟩) 1 1) := by
    unfold Mw.lay
    exact Dt.lit [_] 1 ((Bs.Box.new _ _ _ _ (by simp)).alloc _) rfl (by decide) trivial (fun _ => rfl) ⟨Dt.s, Dt.lit [_] 1 (cs := #[.int .i64 2, .string ⟨#[]⟩, .slice none 0 0, .int .i64 1, .string ⟨#[]⟩]) (ty := 43) (((Bs.Box.new _ _ _ _ (by simp)).alloc _).alloc _) rfl (by decide) trivial (fun _ => rfl) ⟨Dt.i, Dt.s, Dt.n, Dt.i, Dt.s, trivial⟩, trivial⟩
  unfold Mw.lay at k x0 x1 x3 ⊢
  refine Dt.lit Mw.want 4 (Bs.Box.new _ _ _ _ (by simp)) rfl (by decide) trivial It.dt_len ?_
  simp only [Mw.want, List.flatMap_cons, List.flatMap_nil, It.dt_mk, List.cons_append, List.nil_append]
  exact ⟨Dt.i, Dt.s, Dt.n, Dt.n, Dt.n, Dt.i, Dt.s, k, x0, x1, Dt.i, Dt.s, x3, Dt.n, Dt.n, Dt.i, Dt.s, k, Dt.n, Dt.n, trivial⟩
theorem Mw.field (g : Nat) (u : World) : (Instr.field 37 (.agg #[.int .i64 1, .string ⟨#[]⟩, .slice (some ⟨g, 0, none⟩) 1 1, .slice none 0 0, .slice none 0 0]) 2).run Tryz.prog u = .ok (.slice (some ⟨g, 0, none⟩) 1 1) u := by kernel_rfl
set_option maxRecDepth 100000 in
set_option maxHeartbeats 2000000 in
theorem Mw.awake (w : World) (hT : Mp.T w) : Calls Tryz.prog 13 #[] w fun e w' => e = .returned (.bool true) ∧ Below w.heap.size w w' := by
  have c1 := fun u (h : Mp.T u) => Mp.parse Mw.s1 u h
  have c2 := fun u (h : Mp.T u) => Mp.parse ⟨#[123, 123, 105, 102, 32, 46, 125, 125]⟩ u h
  have c3 := fun u (h : Mp.T u) => Mp.parse ⟨#[123, 123, 101, 108, 115, 101, 125, 125]⟩ u h
  have c4 := fun u (h : Mp.T u) => Mp.parse ⟨#[123, 123, 98, 114, 101, 97, 107, 125, 125]⟩ u h
  have c5 := fun u (h : Mp.T u) => Mp.parse ⟨#[123, 123, 125, 125]⟩ u h
  rw [Mw.p1] at c1
  rw [Mw.p2] at c2
  rw [Mw.p3] at c3
  rw [Mw.p4] at c4
  rw [Mw.p5] at c5
  have nm := fun x u => Iw.num x u
  have hf := fun g u => Mw.field g u
  have HT := Lib.hid hT
  clear hT
  unfold Mw.s1 at c1
  go_enter Tryz.func13, Tryz.ntmps13
  go_wp2_with (first
    | (go_at_call 8; with_reducible refine Calls.mono (c1 _ HT.out) ?_; rintro e w1 ⟨v1, rfl, l1, b1⟩; have HL1 := Lib.hid l1; have HB1 := Lib.hid b1; clear l1 b1 c1)
    | (go_at_call 8; with_reducible refine Calls.mono (c2 _ (HT.out.on HB1.out)) ?_; rintro e w2 ⟨v2, rfl, _, b2⟩; have HL2 := Lib.hid (HL1.out.later b2); have HB2 := Lib.hid (Wk.below_step HB1.out b2); clear b2 c2 HL1)
    | (go_at_call 8; with_reducible refine Calls.mono (c3 _ (HT.out.on HB2.out)) ?_; rintro e w3 ⟨v3, rfl, _, b3⟩; have HL3 := Lib.hid (HL2.out.later b3); have HB3 := Lib.hid (Wk.below_step HB2.out b3); clear b3 c3 HL2)
    | (go_at_call 8; with_reducible refine Calls.mono (c4 _ (HT.out.on HB3.out)) ?_; rintro e w4 ⟨v4, rfl, _, b4⟩; have HL4 := Lib.hid (HL3.out.later b4); have HB4 := Lib.hid (Wk.below_step HB3.out b4); clear b4 c4 HL3)
    | (go_at_call 8; with_reducible refine Calls.mono (c5 _ (HT.out.on HB4.out)) ?_; rintro e w5 ⟨v5, rfl, _, b5⟩; have HL5 := Lib.hid (HL4.out.later b5); have HB5 := Lib.hid (Wk.below_step HB4.out b5); clear b5 c5 HL4)
    | (go_at_call 15; refine (Mh.hole_ok _).mono ?_; rintro e w6 ⟨g, he, l6, b6⟩; unfold Mh.val at he; subst he; have HD6 := Lib.hid l6; have HL6 := Lib.hid (HL5.out.later b6); have HB6 := Lib.hid (Wk.below_step HB5.out b6); clear l6 b6 HL5)
    | (go_at_call 15; refine (Mh.hole_ok _).mono ?_; rintro e w7 ⟨g7, he, l7, b7⟩; unfold Mh.val at he; subst he; have HE7 := Lib.hid l7; have HD7 := Lib.hid (HD6.out.later b7); have HL7 := Lib.hid (HL6.out.later b7); have HB7 := Lib.hid (Wk.below_step HB6.out b7); clear l7 b7 HL6 HD6)
    | (go_at_call 10; have zb := Mw.below w7 g g7; have zl := Mw.lies w7 g g7 HD7.out HE7.out; unfold Mw.lay at zb zl; with_reducible refine Calls.mono (Sa.items _ Mw.want (Nat.le_refl _) _ _ (fun _ => True) (fun _ => True) _ (HL7.out.later zb) zl) ?_; rintro e w8 ⟨rfl, b8⟩; have HB8 := Lib.hid (Wk.below_step (Wk.below_step HB7.out zb) b8); clear b8 HL7 HD7 HE7 zb zl)
    | (go_at_call 11; refine (nm _ _).mono ?_; rintro e w9 ⟨rfl, hw⟩; have hw := hw.symm; subst hw))
  go_ret
  exact ⟨rfl, HB8.out⟩
end Go.Proofs.YtjppobeomocgbaaGreatDoor
/-
  THE ROW OF ITEMS that a law gathers; hole, its parts in blocks of their own.
-/
namespace Go.Proofs.YtjppobeomocgbaaGreatDoor
open Go.RowKit
/-- whole numbers in a row -/
abbrev Dt.ints (ks : List Int) : Dt := Dt.rows 1 (fun x => [Dt.int .i64 x]) ks
theorem Dt.Lies.ints {w : World} {R : Nat → Prop} {ks : List Int} {v : Value} (h : Dt.Lies w R (Dt.ints ks) v) : ∃ a d, v = .slice a ks.length d ∧ ks.length ≤ d ∧ d ≤ maxLen ∧ ∀ i x, ks[i]? = some x → ∃ b o, a = some ⟨b, o, none⟩ ∧ w.cell? ⟨b, o + i, none⟩ = some (.int .i64 x) := by
  obtain ⟨a, d, e, h1, h2, hx⟩ := h.get (fun _ => rfl) (by decide)
  refine ⟨a, d, e, h1, h2, fun i x hi => ?_⟩
  obtain ⟨b, o, ea, hb, hc⟩ := hx i x hi
  obtain ⟨u, c, hl⟩ := hc 0 _ rfl
  unfold Dt.Lies at hl
  subst hl
  exact ⟨b, o, ea, by rw [Nat.mul_one, Nat.add_zero] at c; exact c⟩
abbrev Mr.Own (base : Nat) (l : List It) (w : World) (v : Value) (xs : List Value) : Prop := Gr.Own base (fun _ => False) 37 5 l.length (l.flatMap It.dt) w v xs
theorem Mr.Own.lies {base : Nat} {l : List It} {w : World} {v : Value} {xs : List Value} (h : Mr.Own base l w v xs) : Dt.Lies w (fun _ => True) (It.rows l) v := (Gr.Own.lies h).on fun _ _ => ⟨trivial, rfl⟩
theorem Mr.pushed {W w7 : World} {l : List It} {x : It} {five : List Value} {B : Nat} {a : Option Addr} {d : Nat} {xs : List Value} {v7 : Value} (ho : Mr.Own B l W (.slice a l.length d) xs) (hB : B ≤ W.heap.size) (hf5 : Dt.fits W (Gr.R B (fun _ => False) W (.slice a l.length d)) (It.dt x) five)
    (R7 : w7.ownsRow B 37 5 v7 (l.length + 1) (xs ++ five)) (hg : (W.alloc (.cells five.toArray 37)).grownBy w7 (Value.slice a l.length d).ownBlock) (hf : v7.ownBlock = (Value.slice a l.length d).ownBlock ∨ v7.ownBlock = some (W.alloc (.cells five.toArray 37)).heap.size) :
    ∃ a' d' xs', v7 = .slice a' (l.length + 1) d' ∧ Hid (Mr.Own B (l ++ [x]) w7 (.slice a' (l.length + 1) d') xs') ∧ Below B W w7 := by
  have h7 := ho.push ((Below.refl _ _).alloc (Nat.le_refl _) _) (nd := It.dt x) (It.dt_len x) (fun i y hy => Dt.fits_get _ _ hf5 i y hy) R7 hg hf
  obtain ⟨a', d', rfl⟩ := Gr.form R7
  have e : (l ++ [x]).flatMap It.dt = l.flatMap It.dt ++ It.dt x := by rw [List.flatMap_append]; simp
  refine ⟨a', d', _, rfl, by unfold Hid Mr.Own; rw [e, List.length_append]; exact h7, ?_⟩
  exact ((Below.refl B W).alloc hB _).grown hg (by simp; omega) (fun k e => (ho.own.lt k e).1)
/-- a block of one's own behind the row -/
theorem Mr.new {w W : World} {B g : Nat} {v : Value} {n : Nat} {xs : List Value} {cs : Array Value} {ty : TypeId} (ho : w.ownsRow B 37 5 v n xs) (hB : B ≤ w.heap.size) (hg : w.heap.size ≤ g) (hb : Bs.Box W g cs ty) : Gr.R B (fun _ => False) W v g :=
  ⟨by omega, hb.lt, fun e => by have := (ho.lt g e).2; omega, fun q => q, fun o => hb.frozen o⟩
theorem Mh.lies2 (w : World) : Dt.Lies (Mh.lay w) (fun b => w.heap.size ≤ b ∧ b < (Mh.lay w).heap.size ∧ Rm.Ub (Mh.lay w) b) (Cm.rows Mh.dot) (.slice (some ⟨w.heap.size + 1 + 1, 0, none⟩) 1 1) := by
  have b2 : Bs.Box (Mh.lay w) (w.heap.size + 1 + 1) #[.string ⟨#[]⟩, .slice (some ⟨w.heap.size + 1, 0, none⟩) 1 1] 46 := Bs.Box.new _ _ _ _ (by simp)
  have b1 : Bs.Box (Mh.lay w) (w.heap.size + 1) #[.int .i64 0, .string ⟨#[]⟩, .slice none 0 0, .int .i64 0, .string ⟨#[]⟩] 43 := (Bs.Box.new _ _ _ _ (by simp)).alloc _
  exact Dt.lit Mh.dot 1 b2 rfl (by decide) ⟨by omega, b2.lt, fun o => b2.frozen o⟩ (fun _ => rfl) ⟨Dt.s, Dt.lit [_] 1 b1 rfl (by decide) ⟨by omega, b1.lt, fun o => b1.frozen o⟩ (fun _ => rfl) ⟨Dt.i, Dt.s, Dt.n, Dt.i, Dt.s, trivial⟩, trivial⟩
theorem Mh.hole2 (w : World) : Calls Tryz.prog 15 #[] w fun e w' => ∃ g, e = .returned (Mh.val g) ∧ Dt.Lies w' (fun b => w.heap.size ≤ b ∧ b < w'.heap.size ∧ Rm.Ub w' b) (Cm.rows Mh.dot) (.slice (some ⟨g, 0, none⟩) 1 1) ∧ Below w.heap.size w w' := by
  go_enter Tryz.func15, Tryz.ntmps15
  go_wp2_with fail
  obtain ⟨z0, z1, z2, z3, z4, -⟩ := Tr.cells5 (Mh.box0 w)
  have hb := Mh.below w
  have hl := Mh.lies2 w
  unfold Mh.lay at z0 z1 z2 z3 z4 hb hl
  refine bodyPost_ret (v := Mh.val (w.heap.size + 1 + 1)) (by simp [Mh.val, results, Tryz.results15, go_sem, z0, z1, z2, z3, z4]) rfl ?_
  exact ⟨_, rfl, hl, hb⟩
theorem Mr.str {T : ByteArray} {t : List UInt8} (h : T.data.toList = t) : T = ⟨t.toArray⟩ := by
  subst h
  rw [Array.toArray_toList]
theorem Mr.fitText (W : World) (R : Nat → Prop) (k : Int) {t : List UInt8} {T : ByteArray} (hT : T.data.toList = t) : Dt.fits W R (It.dt (.mk k t [] [] [])) (It.five k T (.slice none 0 0) (.slice none 0 0) (.slice none 0 0)) := by
  rw [It.dt_mk, Mr.str hT]
  exact ⟨Dt.i, Dt.s, Dt.n, Dt.n, Dt.n, trivial⟩
/-- an argument and a command of it, laid behind a row -/
def Mr.lay (w : World) (k m : Int) (Q : ByteArray) : World := (w.alloc (.cells #[.int .i64 k, .string ⟨#[]⟩, .slice none 0 0, .int .i64 m, .string Q] 43)).alloc (.cells #[.string ⟨#[]⟩, .slice (some ⟨w.heap.size, 0, none⟩) 1 1] 46)
theorem Mr.fitPipe {w : World} {B : Nat} {v : Value} {n : Nat} {xs : List Value} (ho : w.ownsRow B 37 5 v n xs) (hB : B ≤ w.heap.size) (k k2 m : Int) {t q : List UInt8} {T Q : ByteArray} (hT : T.data.toList = t) (hQ : Q.data.toList = q) : Dt.fits (Mr.lay w k2 m Q) (Gr.R B (fun _ => False) (Mr.lay w k2 m Q) v) (It.dt (.mk k t [⟨[], [⟨k2, [], [], m, q⟩]⟩] [] [])) (It.five k T (.slice (some ⟨w.heap.size + 1, 0, none⟩) 1 1) (.slice none 0 0) (.slice none 0 0)) := by
  have b1 : Bs.Box (Mr.lay w k2 m Q) w.heap.size #[.int .i64 k2, .string ⟨#[]⟩, .slice none 0 0, .int .i64 m, .string Q] 43 := (Bs.Box.new _ _ _ _ rfl).alloc _
  have b2 : Bs.Box (Mr.lay w k2 m Q) (w.heap.size + 1) #[.string ⟨#[]⟩, .slice (some ⟨w.heap.size, 0, none⟩) 1 1] 46 := Bs.Box.new _ _ _ _ (by simp)
  rw [Mr.str hQ] at *
  rw [It.dt_mk, Mr.str hT]
  exact ⟨Dt.i, Dt.s, Dt.lit [_] 1 b2 rfl (by decide) (Mr.new ho hB (by omega) b2) (fun _ => rfl) ⟨Dt.s, Dt.lit [_] 1 b1 rfl (by decide) (Mr.new ho hB (Nat.le_refl _) b1) (fun _ => rfl) ⟨Dt.i, Dt.s, Dt.n, Dt.i, Dt.s, trivial⟩, trivial⟩, Dt.n, Dt.n, trivial⟩
theorem Mr.fitIf {w w2 : World} {B : Nat} {v : Value} {n : Nat} {xs : List Value} {g : Nat} (ho : w.ownsRow B 37 5 v n xs) (hB : B ≤ w.heap.size) (hl : Dt.Lies w2 (fun b => w.heap.size ≤ b ∧ b < w2.heap.size ∧ Rm.Ub w2 b) (Cm.rows Mh.dot) (.slice (some ⟨g, 0, none⟩) 1 1)) : Dt.fits w2 (Gr.R B (fun _ => False) w2 v) (It.dt (.mk 3 [] Mh.dot [] [])) (It.five 3 ⟨#[]⟩ (.slice (some ⟨g, 0, none⟩) 1 1) (.slice none 0 0) (.slice none 0 0)) := by
  rw [It.dt_mk]
  exact ⟨Dt.i, Dt.s, hl.on fun b hb => ⟨⟨by omega, hb.2.1, fun e => by have := (ho.lt b e).2; have := hb.1; omega, fun q => q, hb.2.2⟩, rfl⟩, Dt.n, Dt.n, trivial⟩
theorem Mr.lay_below (w : World) (k m : Int) (Q : ByteArray) : Below w.heap.size w (Mr.lay w k m Q) := Iw.b2 w _ _
theorem Mr.cells2 (w : World) (A B : Obj) (vs : List Value) (ty : TypeId) : ∀ (j : Nat) (u : Value), vs[j]? = some u → (((w.alloc A).alloc B).alloc (.cells vs.toArray ty)).cell? ⟨w.heap.size + 1 + 1, j, none⟩ = some u := by
  intro j u h
  have := Gr.cells ((w.alloc A).alloc B) vs ty j u h
  simpa using this
end Go.Proofs.YtjppobeomocgbaaGreatDoor
/-
  Low bits of an int; texts put together; a byte of a text cut out.
-/
namespace Go.Proofs.YtjppobeomocgbaaGreatDoor
open Go.RowKit
theorem Lb.and (n : Nat) (hn : n ≤ 62) (x : Int) : Go.bits .and .i64 x ((2 ^ n - 1 : Nat) : Int) = x % ((2 ^ n : Nat) : Int) := by
  have h2 : 2 ^ n ≤ 2 ^ 62 := Nat.pow_le_pow_right (by decide) hn
  have h1 : 0 < 2 ^ n := Nat.two_pow_pos n
  have hm : (BitVec.ofInt 64 ((2 ^ n - 1 : Nat) : Int)).toNat = 2 ^ n - 1 := by
    rw [BitVec.ofInt_natCast, BitVec.toNat_ofNat, Nat.mod_eq_of_lt]
    omega
  have key : (BitVec.ofInt 64 x &&& BitVec.ofInt 64 ((2 ^ n - 1 : Nat) : Int)).toNat = (x % ((2 ^ 64 : Nat) : Int)).toNat % 2 ^ n := by
    rw [BitVec.toNat_and, BitVec.toNat_ofInt, hm, Nat.and_two_pow_sub_one_eq_mod]
  show IntKind.i64.wrap ((BitVec.ofInt 64 x &&& BitVec.ofInt 64 ((2 ^ n - 1 : Nat) : Int)).toNat : Nat) = _
  have hlt : (x % ((2 ^ 64 : Nat) : Int)).toNat % 2 ^ n < 2 ^ n := Nat.mod_lt _ h1
  have hdvd : ((2 ^ n : Nat) : Int) ∣ ((2 ^ 64 : Nat) : Int) := Int.natCast_dvd_natCast.2 (Nat.pow_dvd_pow 2 (by omega))
  rw [key, IntKind.wrap_i64]
  have e : (((x % ((2 ^ 64 : Nat) : Int)).toNat % 2 ^ n : Nat) : Int) = x % ((2 ^ n : Nat) : Int) := by
    rw [Int.natCast_emod, Int.toNat_of_nonneg (Int.emod_nonneg _ (by decide)), Int.emod_emod_of_dvd _ hdvd]
  rw [e]
  have h3 := Int.emod_lt_of_pos x (b := ((2 ^ n : Nat) : Int)) (by omega)
  have h4 := Int.emod_nonneg x (b := ((2 ^ n : Nat) : Int)) (by omega)
  omega
theorem Lb.and7 (x : Int) : Go.bits .and .i64 x 7 = x % 8 := Lb.and 3 (by decide) x
end Go.Proofs.YtjppobeomocgbaaGreatDoor
