/-
  THE WALK of the reference's Get.
-/
import Derived.Test.YtggfemdnoccmeaaDoorVCount
import Derived.BigQuiet
namespace Go.Proofs.YtggfemdnoccmeaaDoor
open Go.RowKit

/-- the last of the first j keys that is x; -1: none is -/
def Vg.at (ks : Nat → ByteArray) (x : List UInt8) : Nat → Int
  | 0 => -1
  | j + 1 => if (ks j).toList = x then (j : Int) else Vg.at ks x j
theorem Vg.at_pos (ks : Nat → ByteArray) (x : List UInt8) : ∀ m, (Vg.at ks x m = -1 ∧ Vt.pos ks x m = none) ∨ ∃ I : Nat, Vg.at ks x m = (I : Int) ∧ I < m ∧ Vt.pos ks x m = some I
  | 0 => .inl ⟨rfl, rfl⟩
  | m + 1 => by
    by_cases h : (ks m).toList = x
    · exact .inr ⟨m, by rw [Vg.at, if_pos h], by omega, by rw [Vt.pos, if_pos h]⟩
    · rw [Vg.at, if_neg h, Vt.pos, if_neg h]
      rcases Vg.at_pos ks x m with h' | ⟨I, h1, h2, h3⟩
      · exact .inl h'
      · exact .inr ⟨I, h1, by omega, h3⟩
theorem Vg.at_le (ks : Nat → ByteArray) (x : List UInt8) (m : Nat) : -1 ≤ Vg.at ks x m ∧ Vg.at ks x m < m := by
  rcases Vg.at_pos ks x m with ⟨h, _⟩ | ⟨I, h1, h2, h3⟩ <;> omega

set_option maxRecDepth 100000 in
set_option maxHeartbeats 8000000 in
theorem Rv.get (t : Vt) (v : Value) (L : Nat) (p : Nat → ByteArray) (ap : Option Addr) (dp : Nat) (w : World) (h : t.Lies w (· < w.heap.size) v) (hp : Vt.Keys w (· < w.heap.size) L p ap dp) :
    Calls Tryd.prog 11 #[v, .slice ap L dp] w fun e w' => ∃ v', e = .returned (.tuple #[v', .int .i64 (t.get L p).2]) ∧ (t.get L p).1.Lies w' (· < w'.heap.size) v' ∧ Below w.heap.size w w' := by
  obtain ⟨k, x, b, s, ai, n, c, ak, m, d, rfl⟩ := h.form
  have H := Lib.hid h
  clear h
  have HG : Hid (t.get L p = if 8 < L ∨ t.may = false then (Vt.zero, 400) else match Vt.getTo t p L with | .error e => (Vt.zero, e) | .ok u => (u, 0)) := rfl
  have HF : Hid (t.may = true → t.fit) := Vt.fit_of t 1 1024
  generalize hz : t.get L p = Z at *
  clear hz
  go_enter Tryd.func11, Tryd.ntmps11
  go_wp2_with fail
  refine (Rv.may t _ _ ((H.out.alloc _).alloc _)).mono ?_
  rintro e w1 ⟨rfl, hw⟩
  have R1 := (Vm.box hw)
  have B1 := (Vm.box (Vm.behind hw))
  have hb1 := Vm.behind2 hw
  have hs1 : w.heap.size + 2 ≤ w1.heap.size := by have := hw.size; simp at this; omega
  simp only [World.size_alloc] at R1
  clear hw
  generalize hM : t.may = M at *
  cases M with
  | false =>
    have HZ2 : Hid (Z = (Vt.zero, 400)) := by have := HG.out; rw [if_pos (.inr rfl)] at this; exact this
    clear HG HF hM
    obtain ⟨r0, r1, r2, r3, r4, r5⟩ := R1.cells
    have f0 := R1.frozen
    have HR := Lib.hid R1
    clear R1 B1
    go_wp2
    have WR := Vm.set6 w1 (w.heap.size + 1) 0 (.int .i64 0) (.int .i64 0) (.int .u64 0) (.string ⟨#[]⟩) (.slice none 0 0) (.slice none 0 0)
    have BX : Vm.Box _ (w.heap.size + 1) (.int .i64 0) (.int .i64 0) (.int .u64 0) (.string ⟨#[]⟩) (.slice none 0 0) (.slice none 0 0) := ⟨Vm.set6_row HR.out.all 0 (.int .i64 0) (.int .i64 0) (.int .u64 0) (.string ⟨#[]⟩) (.slice none 0 0) (.slice none 0 0)⟩
    simp only [Nat.zero_add] at WR BX
    generalize ((((((w1.setCell ⟨w.heap.size + 1, 0, none⟩ (.int .i64 0)).setCell ⟨w.heap.size + 1, 1, none⟩ (.int .i64 0)).setCell ⟨w.heap.size + 1, 2, none⟩ (.int .u64 0)).setCell ⟨w.heap.size + 1, 3, none⟩ (.string ⟨#[]⟩)).setCell ⟨w.heap.size + 1, 4, none⟩ (.slice none 0 0)).setCell ⟨w.heap.size + 1, 5, none⟩ (.slice none 0 0)) = WF at *
    obtain ⟨q0, q1, q2, q3, q4, q5⟩ := BX.cells
    refine bodyPost_ret (v := .tuple #[.agg #[.int .i64 0, .int .i64 0, .int .u64 0, .string ⟨#[]⟩, .slice none 0 0, .slice none 0 0], .int .i64 400]) (by simp [results, Tryd.results11, go_sem, q0, q1, q2, q3, q4, q5]) rfl ?_
    have hbF := WR.below hb1 (show w.heap.size ≤ w.heap.size + 1 by omega)
    rw [HZ2.out]
    exact ⟨_, rfl, (Vt.leaf_lies 0 0 0 ⟨#[]⟩ (by decide) _ _), hbF⟩
  | true =>
    by_cases h8 : 8 < L
    · have h8' : decide ((8 : Int) < (L : Int)) = true := decide_eq_true (by omega)
      have HZ2 : Hid (Z = (Vt.zero, 400)) := by have := HG.out; rw [if_pos (.inl h8)] at this; exact this
      clear HG HF hM
      obtain ⟨r0, r1, r2, r3, r4, r5⟩ := R1.cells
      have f0 := R1.frozen
      have HR := Lib.hid R1
      clear R1 B1
      go_wp2
      have WR := Vm.set6 w1 (w.heap.size + 1) 0 (.int .i64 0) (.int .i64 0) (.int .u64 0) (.string ⟨#[]⟩) (.slice none 0 0) (.slice none 0 0)
      have BX : Vm.Box _ (w.heap.size + 1) (.int .i64 0) (.int .i64 0) (.int .u64 0) (.string ⟨#[]⟩) (.slice none 0 0) (.slice none 0 0) := ⟨Vm.set6_row HR.out.all 0 (.int .i64 0) (.int .i64 0) (.int .u64 0) (.string ⟨#[]⟩) (.slice none 0 0) (.slice none 0 0)⟩
      simp only [Nat.zero_add] at WR BX
      generalize ((((((w1.setCell ⟨w.heap.size + 1, 0, none⟩ (.int .i64 0)).setCell ⟨w.heap.size + 1, 1, none⟩ (.int .i64 0)).setCell ⟨w.heap.size + 1, 2, none⟩ (.int .u64 0)).setCell ⟨w.heap.size + 1, 3, none⟩ (.string ⟨#[]⟩)).setCell ⟨w.heap.size + 1, 4, none⟩ (.slice none 0 0)).setCell ⟨w.heap.size + 1, 5, none⟩ (.slice none 0 0)) = WF at *
      obtain ⟨q0, q1, q2, q3, q4, q5⟩ := BX.cells
      refine bodyPost_ret (v := .tuple #[.agg #[.int .i64 0, .int .i64 0, .int .u64 0, .string ⟨#[]⟩, .slice none 0 0, .slice none 0 0], .int .i64 400]) (by simp [results, Tryd.results11, go_sem, q0, q1, q2, q3, q4, q5]) rfl ?_
      have hbF := WR.below hb1 (show w.heap.size ≤ w.heap.size + 1 by omega)
      rw [HZ2.out]
      exact ⟨_, rfl, (Vt.leaf_lies 0 0 0 ⟨#[]⟩ (by decide) _ _), hbF⟩
    have h8' : decide ((8 : Int) < (L : Int)) = false := decide_eq_false (by omega)
    have hfit := HF.out rfl
    have HZ : Hid (Z = match Vt.getTo t p L with | .error e => (Vt.zero, e) | .ok u => (u, 0)) := by
      have := HG.out
      rw [if_neg (by rintro (h | h); omega; cases h)] at this
      exact this
    clear HG HF hM
    have hl8 : L ≤ 8 := by omega
    have LI := Lib.hid H.out
    have HFT := Lib.hid hfit
    have HB1 := Lib.hid B1
    have HR1 := Lib.hid R1
    clear hfit B1 R1
    go_wp2_with fail
    go_loopw [6] (fun ix wr => ∃ (i : Nat) (u : Vt) (k x : Int) (b : Nat) (s : ByteArray) (ai : Option Addr) (n c : Nat) (ak : Option Addr) (m d : Nat), i ≤ L ∧ ix = .int .i64 i ∧ Below w.heap.size w wr ∧ w.heap.size + 2 ≤ wr.heap.size ∧ Vm.Box wr w.heap.size (.int .i64 k) (.int .i64 x) (.int .u64 (b : Int)) (.string s) (.slice ai n c) (.slice ak m d) ∧ Vm.Box wr (w.heap.size + 1) (.int .i64 0) (.int .i64 0) (.int .u64 0) (.string ⟨#[]⟩) (.slice none 0 0) (.slice none 0 0) ∧ u.Lies w (· < w.heap.size) (.agg #[.int .i64 k, .int .i64 x, .int .u64 (b : Int), .string s, .slice ai n c, .slice ak m d]) ∧ Hid (u.fit ∧ Vt.getTo t p i = .ok u)) (fun ix _ => L - (intOf ix).toNat)
    case atStart => exact ⟨0, t, k, x, b, s, ai, n, c, ak, m, d, Nat.zero_le _, by go_num, hb1, hs1, HB1.out, HR1.out, LI.out, HFT.out, rfl⟩
    case round =>
      clear HB1 HR1 LI HFT
      obtain ⟨i, u, k, x, b, s, ai, n, c, ak, m, d, hiL, rfl, hbr, hsr, hB, hR, hl, HU⟩ := hrel
      obtain ⟨c0, c1, c2, c3, c4, c5⟩ := hB.cells
      obtain ⟨r0, r1, r2, r3, r4, r5⟩ := hR.cells
      have f0 := hR.frozen
      have g0 := hB.frozen
      have HB := Lib.hid hB
      have HR := Lib.hid hR
      have HL := Lib.hid hl
      clear hB hR hl
      by_cases hlt : i < L
      · obtain ⟨bp, op, rfl, hbp, hcp⟩ := hp.cell i hlt
        have hpd : i < dp := Nat.lt_of_lt_of_le hlt hp.le
        replace hcp := Vt.cell_on (hbr.block bp hbp) hcp
        obtain ⟨it, ks, rfl⟩ := HL.out.root
        have HS : Hid (Vt.getTo t p (i + 1) = (Vt.mk k x b s n it m ks).under (p i).toList) := by unfold Hid; rw [Vt.getTo, HU.out.2]
        generalize hX : p i = X at *
        clear hX
        by_cases k6 : k = 6
        · subst k6
          obtain ⟨hn64, hmn, hok⟩ := Vt.formed6 HU.out.1.1
          have HMN := Lib.hid hmn
          have hm64 : m ≤ 64 := by omega
          clear hmn hok
          have HKR := Lib.hid ((HL.out.on' hbr).keys).1
          have hkd := HKR.out.le
          clear c0 c1 c2 c3 c4 r0 r1 r2 r3 r4 r5 f0 g0
          have k60 := HB.out.cells.1
          obtain ⟨wq, hwq⟩ : ∃ wq, wq = wr := ⟨wr, rfl⟩
          subst hwq
          go_wp2_with fail
          go_loopw [7, 8] (fun aa kk w5 => ∃ j : Nat, j ≤ m ∧ kk = .int .i64 (j : Int) ∧ aa = .int .i64 (Vg.at ks X.toList j) ∧ Below wq.heap.size wq w5) (fun _ kk _ => m - (intOf kk).toNat)
          case atStart => exact ⟨0, Nat.zero_le _, by go_num, by simp [Vg.at], Below.refl _ _⟩
          case round =>
            obtain ⟨j, hjm, rfl, rfl, hb5⟩ := hrel
            have hat := Vg.at_le ks X.toList j
            replace c5 := (HB.out.on HB.out.lt hb5).cells.2.2.2.2.2
            clear k60
            by_cases hj : j < m
            · obtain ⟨bk, ok, rfl, hbk, hck⟩ := HKR.out.cell j hj
              replace hck := Vt.cell_on (hb5.block bk hbk) hck
              replace hcp := Vt.cell_on (hb5.block bp (by have := hbr.size; omega)) hcp
              have hjd : j < d := by omega
              have HN : Hid (Vg.at ks X.toList (j + 1) = if (ks j).toList = X.toList then (j : Int) else Vg.at ks X.toList j) := rfl
              generalize Vg.at ks X.toList j = A at *
              generalize ks j = Y at *
              cases hq : (Y.toList == X.toList) with
              | true =>
                have HN2 : Hid (Vg.at ks X.toList (j + 1) = (j : Int)) := by have := HN.out; rw [if_pos (beq_iff_eq.1 hq)] at this; exact this
                clear HN
                go_wp2_with fail
                go_quiet (fail)
                go_wp2
                refine ⟨⟨j + 1, hj, by go_num, by rw [HN2.out], Vm.drewN hb5 _⟩, ?_⟩
                simp [intOf]
                omega
              | false =>
                have HN2 : Hid (Vg.at ks X.toList (j + 1) = A) := by have := HN.out; rw [if_neg (beq_eq_false_iff_ne.1 hq)] at this; exact this
                clear HN
                go_wp2_with fail
                go_quiet (fail)
                go_wp2
                refine ⟨⟨j + 1, hj, by go_num, by rw [HN2.out], Vm.drewN hb5 _⟩, ?_⟩
                simp [intOf]
                omega
            · have e : j = m := by omega
              subst e
              have hbr5 := Vm.then hbr hb5
              have HR5 := Lib.hid (HR.out.on HR.out.lt hb5)
              have HB5 := Lib.hid (HB.out.on HB.out.lt hb5)
              have hs5 : wq.heap.size ≤ wr.heap.size := hb5.size
              rcases Vg.at_pos ks X.toList j with ⟨ha, hpos⟩ | ⟨I, ha, hI, hpos⟩
              · have HZ2 : Hid (Z = (Vt.zero, 401)) := by
                  have h1 : Vt.getTo t p (i + 1) = .error 401 := by rw [HS.out, Vt.under, if_pos rfl, hpos]
                  have h2 := HZ.out
                  rw [Vt.getTo_err h1 L hlt] at h2
                  exact h2
                rw [ha] at hat ⊢
                obtain ⟨r0, r1, r2, r3, r4, r5⟩ := HR5.out.cells
                have f0 := HR5.out.frozen
                clear HZ ha hpos
                go_wp2
                have WR := Vm.set6 wr (w.heap.size + 1) 0 (.int .i64 0) (.int .i64 0) (.int .u64 0) (.string ⟨#[]⟩) (.slice none 0 0) (.slice none 0 0)
                have BX : Vm.Box _ (w.heap.size + 1) (.int .i64 0) (.int .i64 0) (.int .u64 0) (.string ⟨#[]⟩) (.slice none 0 0) (.slice none 0 0) := ⟨Vm.set6_row HR5.out.all 0 (.int .i64 0) (.int .i64 0) (.int .u64 0) (.string ⟨#[]⟩) (.slice none 0 0) (.slice none 0 0)⟩
                simp only [Nat.zero_add] at WR BX
                generalize ((((((wr.setCell ⟨w.heap.size + 1, 0, none⟩ (.int .i64 0)).setCell ⟨w.heap.size + 1, 1, none⟩ (.int .i64 0)).setCell ⟨w.heap.size + 1, 2, none⟩ (.int .u64 0)).setCell ⟨w.heap.size + 1, 3, none⟩ (.string ⟨#[]⟩)).setCell ⟨w.heap.size + 1, 4, none⟩ (.slice none 0 0)).setCell ⟨w.heap.size + 1, 5, none⟩ (.slice none 0 0)) = WF at *
                obtain ⟨q0, q1, q2, q3, q4, q5⟩ := BX.cells
                refine bodyPost_ret (v := .tuple #[.agg #[.int .i64 0, .int .i64 0, .int .u64 0, .string ⟨#[]⟩, .slice none 0 0, .slice none 0 0], .int .i64 401]) (by simp [results, Tryd.results11, go_sem, q0, q1, q2, q3, q4, q5]) rfl ?_
                have hbF := WR.below hbr5 (show w.heap.size ≤ w.heap.size + 1 by omega)
                rw [HZ2.out]
                exact ⟨_, rfl, (Vt.leaf_lies 0 0 0 ⟨#[]⟩ (by decide) _ _), hbF⟩
              · have HGT : Hid (Vt.getTo t p (i + 1) = .ok (it I)) := by
                  unfold Hid
                  rw [HS.out, Vt.under, if_pos rfl, hpos]
                have hIn : I < n := by have := HMN.out; omega
                have HIF : Hid (it I).fit := HU.out.1.2 I hIn
                obtain ⟨bi, oi, v0, v1, v2, v3, v4, v5, rfl, hbi, y0, y1, y2, y3, y4, y5, hli⟩ := (HL.out.keys).2.2 I hIn
                have hIc : I < c := Nat.lt_of_lt_of_le hIn (HL.out.keys).2.1.1
                obtain ⟨k', x', b', s', ai', n', c', ak', m', d', rfl, rfl, rfl, rfl, rfl, rfl⟩ := hli.cells
                have hbl := hbr5.block bi hbi
                replace y0 := Vt.cell_on hbl y0
                replace y1 := Vt.cell_on hbl y1
                replace y2 := Vt.cell_on hbl y2
                replace y3 := Vt.cell_on hbl y3
                replace y4 := Vt.cell_on hbl y4
                replace y5 := Vt.cell_on hbl y5
                have HLI := Lib.hid hli
                rw [ha] at hat ⊢
                have dI : decide ((I : Int) < 0) = false := decide_eq_false (by omega)
                clear hli hbl HKR ha hpos
                obtain ⟨c0, c1, c2, c3, c4, c5⟩ := HB5.out.cells
                have g0 := HB5.out.frozen
                go_wp2
                have WR := Vm.set6 wr w.heap.size 0 (.int .i64 k') (.int .i64 x') (.int .u64 (b' : Int)) (.string s') (.slice ai' n' c') (.slice ak' m' d')
                have BX : Vm.Box _ w.heap.size (.int .i64 k') (.int .i64 x') (.int .u64 (b' : Int)) (.string s') (.slice ai' n' c') (.slice ak' m' d') := ⟨Vm.set6_row HB5.out.all 0 (.int .i64 k') (.int .i64 x') (.int .u64 (b' : Int)) (.string s') (.slice ai' n' c') (.slice ak' m' d')⟩
                simp only [Nat.zero_add] at WR BX
                refine ⟨⟨i + 1, it I, k', x', b', s', ai', n', c', ak', m', d', hlt, by go_num, WR.below hbr5 (Nat.le_refl _), by rw [WR.size]; omega, BX, ⟨(WR.block _ (by omega)).trans HR5.out.all⟩, HLI.out, HIF.out, HGT.out⟩, ?_⟩
                simp [intOf]
                omega
        · have e6 : (k == 6) = false := beq_eq_false_iff_ne.2 k6
          have HZ2 : Hid (Z = (Vt.zero, 402)) := by
            have h1 : Vt.getTo t p (i + 1) = .error 402 := by rw [HS.out, Vt.under, if_neg k6]
            have h2 := HZ.out
            rw [Vt.getTo_err h1 L hlt] at h2
            exact h2
          clear HZ
          go_wp2
          have WR := Vm.set6 wr (w.heap.size + 1) 0 (.int .i64 0) (.int .i64 0) (.int .u64 0) (.string ⟨#[]⟩) (.slice none 0 0) (.slice none 0 0)
          have BX : Vm.Box _ (w.heap.size + 1) (.int .i64 0) (.int .i64 0) (.int .u64 0) (.string ⟨#[]⟩) (.slice none 0 0) (.slice none 0 0) := ⟨Vm.set6_row HR.out.all 0 (.int .i64 0) (.int .i64 0) (.int .u64 0) (.string ⟨#[]⟩) (.slice none 0 0) (.slice none 0 0)⟩
          simp only [Nat.zero_add] at WR BX
          generalize ((((((wr.setCell ⟨w.heap.size + 1, 0, none⟩ (.int .i64 0)).setCell ⟨w.heap.size + 1, 1, none⟩ (.int .i64 0)).setCell ⟨w.heap.size + 1, 2, none⟩ (.int .u64 0)).setCell ⟨w.heap.size + 1, 3, none⟩ (.string ⟨#[]⟩)).setCell ⟨w.heap.size + 1, 4, none⟩ (.slice none 0 0)).setCell ⟨w.heap.size + 1, 5, none⟩ (.slice none 0 0)) = WF at *
          obtain ⟨q0, q1, q2, q3, q4, q5⟩ := BX.cells
          refine bodyPost_ret (v := .tuple #[.agg #[.int .i64 0, .int .i64 0, .int .u64 0, .string ⟨#[]⟩, .slice none 0 0, .slice none 0 0], .int .i64 402]) (by simp [results, Tryd.results11, go_sem, q0, q1, q2, q3, q4, q5]) rfl ?_
          have hbF := WR.below hbr (show w.heap.size ≤ w.heap.size + 1 by omega)
          rw [HZ2.out]
          exact ⟨_, rfl, (Vt.leaf_lies 0 0 0 ⟨#[]⟩ (by decide) _ _), hbF⟩
      · have e : i = L := by omega
        subst e
        have HZ2 : Hid (Z = (u, 0)) := by have h2 := HZ.out; rw [HU.out.2] at h2; exact h2
        clear HZ HU
        go_wp2
        have WR := Vm.set6 wr (w.heap.size + 1) 0 (.int .i64 k) (.int .i64 x) (.int .u64 (b : Int)) (.string s) (.slice ai n c) (.slice ak m d)
        have BX : Vm.Box _ (w.heap.size + 1) (.int .i64 k) (.int .i64 x) (.int .u64 (b : Int)) (.string s) (.slice ai n c) (.slice ak m d) := ⟨Vm.set6_row HR.out.all 0 (.int .i64 k) (.int .i64 x) (.int .u64 (b : Int)) (.string s) (.slice ai n c) (.slice ak m d)⟩
        simp only [Nat.zero_add] at WR BX
        generalize ((((((wr.setCell ⟨w.heap.size + 1, 0, none⟩ (.int .i64 k)).setCell ⟨w.heap.size + 1, 1, none⟩ (.int .i64 x)).setCell ⟨w.heap.size + 1, 2, none⟩ (.int .u64 (b : Int))).setCell ⟨w.heap.size + 1, 3, none⟩ (.string s)).setCell ⟨w.heap.size + 1, 4, none⟩ (.slice ai n c)).setCell ⟨w.heap.size + 1, 5, none⟩ (.slice ak m d)) = WF at *
        obtain ⟨q0, q1, q2, q3, q4, q5⟩ := BX.cells
        refine bodyPost_ret (v := .tuple #[.agg #[.int .i64 k, .int .i64 x, .int .u64 (b : Int), .string s, .slice ai n c, .slice ak m d], .int .i64 0]) (by simp [results, Tryd.results11, go_sem, q0, q1, q2, q3, q4, q5]) rfl ?_
        have hbF := WR.below hbr (show w.heap.size ≤ w.heap.size + 1 by omega)
        rw [HZ2.out]
        exact ⟨_, rfl, HL.out.on' hbF, hbF⟩
end Go.Proofs.YtggfemdnoccmeaaDoor
