/-
  THE WALK of stolelaw0.CopyValue.
-/
import Derived.Test.YtggfemdnoccmeaaDoorVCopyT
import Derived.Test.YtggfemdnoccmeaaDoorVPlain2
namespace Go.Proofs.YtggfemdnoccmeaaDoor
open Go.RowKit

/-- each list of the tree lies below 2^47 bytes -/
def Vt.sized : Vt → Prop
  | .nil => True
  | .mk _ _ _ _ n it m _ => n * 88 ≤ 140737488355328 ∧ m * 16 ≤ 140737488355328 ∧ ∀ i, i < n → (it i).sized
theorem Vr.Row.ne' {Q : Nat → Prop} {base : Nat} {it : Nat → Vt} {n : Nat} {w : World} {v : Value} (h : Vr.Row Q base it n w v) {k : Nat} (hk : w.heap.size ≤ k) : v.ownBlock ≠ some k := by
  obtain ⟨xs, ho, _⟩ := h.all
  intro e
  have := (ho.lt k e).2
  omega
/-- what the copy's root holds -/
theorem Cv.root (d : Nat) (k x : Int) (b : Nat) (s : ByteArray) (n : Nat) (it : Nat → Vt) (m : Nat) (ks : Nat → ByteArray) : Vt.cut d (.mk k x b s n it m ks) = .mk k x b s (if d = 0 then 0 else n) (fun i => if d = 0 then .nil else Vt.cut (d - 1) (it i)) m ks := by
  cases d with
  | zero => rfl
  | succ d => rfl

set_option maxRecDepth 100000 in
set_option maxHeartbeats 8000000 in
theorem Cv.copy : ∀ (t : Vt), t.sized → ∀ (e : Nat) (v : Value) (w : World), e ≤ 40 → t.Lies w (· < w.heap.size) v →
    Calls Tryd.prog 4 #[v, .int .i64 (e : Int)] w fun r w' => ∃ v', r = .returned v' ∧ (Vt.cut e t).Lies w' (fun k => w.heap.size ≤ k ∧ k < w'.heap.size) v' ∧ Below w.heap.size w w' := by
  intro t
  induction t with
  | nil => intro _ e v w _ h; exact h.elim
  | mk k x b s n it m ks ih =>
    intro ht e v w he h
    have H := Lib.hid h
    obtain ⟨ai, c, ak, d, rfl, hb, hn, hc, hk, hi⟩ := h
    obtain ⟨ht1, ht2, ht3⟩ := ht
    have HI : Hid (∀ i, (it i).sized → ∀ (e : Nat) (v : Value) (w : World), e ≤ 40 → (it i).Lies w (· < w.heap.size) v →
      Calls Tryd.prog 4 #[v, .int .i64 (e : Int)] w fun r w' => ∃ v', r = .returned v' ∧ (Vt.cut e (it i)).Lies w' (fun k => w.heap.size ≤ k ∧ k < w'.heap.size) v' ∧ Below w.heap.size w w') := ih
    have HK := Lib.hid hk
    have HT3 := Lib.hid ht3
    have HRT := Lib.hid (Cv.root e k x b s n it m ks)
    clear ih hk hi ht3
    have hmk : ∀ o o' o'' o3, Hid (∀ j u, (Vc.texts m ks)[j]? = some u → ∃ ad, ak = some ad ∧ ((((w.alloc o).alloc o').alloc o'').alloc o3).cell? (ad.add j) = some u) := fun o o' o'' o3 => Vc.texts_cell HK.out (((((Below.refl _ _).alloc (Nat.le_refl _) o).alloc (by simp) o').alloc (by simp; omega) o'').alloc (by simp; omega) o3)
    go_enter Tryd.func4, Tryd.ntmps4
    go_wp2_with (at_builtin; refine Vc.append' rfl _ _ rfl (w.heap.size + 3) (w.heap.size + 3) rfl (by have := Vc.empty (((w.alloc (.cells #[.int .i64 k, .int .i64 x, .int .u64 (b : Int), .string s, .slice ai n c, .slice ak m d] 26)).alloc (.cells #[.int .i64 0, .int .i64 0, .int .u64 0, .string ⟨#[]⟩, .slice none 0 0, .slice none 0 0] 26)).alloc (.cells #[.int .i64 k, .int .i64 x, .int .u64 (b : Int), .string s, .slice ai n c, .slice ak m d] 26)) (w.heap.size + 3) (by simp); simpa using this) m ks ak d rfl (hmk _ _ _ _).out ht2 (by simp) ?_)
    intro v1 w1 hown1 hgr1
    obtain ⟨a1, d1, rfl, hK1⟩ := Vc.keysOf hown1
    have hkeep : ∀ q, q < w.heap.size + 3 → w1.heap[q]? = (((w.alloc (.cells #[.int .i64 k, .int .i64 x, .int .u64 (b : Int), .string s, .slice ai n c, .slice ak m d] 26)).alloc (.cells #[.int .i64 0, .int .i64 0, .int .u64 0, .string ⟨#[]⟩, .slice none 0 0, .slice none 0 0] 26)).alloc (.cells #[.int .i64 k, .int .i64 x, .int .u64 (b : Int), .string s, .slice ai n c, .slice ak m d] 26)).heap[q]? := fun q hq => by
      rw [hgr1.block q (by simp; omega) (fun e => by have := Option.some.inj e; omega), Below.heap_alloc _ _ _ (by simp; omega)]
    have hb1 : Below w.heap.size w w1 := ((((((Below.refl w.heap.size w).alloc (Nat.le_refl _) (.cells #[.int .i64 k, .int .i64 x, .int .u64 (b : Int), .string s, .slice ai n c, .slice ak m d] 26)).alloc (by simp) (.cells #[.int .i64 0, .int .i64 0, .int .u64 0, .string ⟨#[]⟩, .slice none 0 0, .slice none 0 0] 26)).alloc (by simp; omega) (.cells #[.int .i64 k, .int .i64 x, .int .u64 (b : Int), .string s, .slice ai n c, .slice ak m d] 26)).alloc (by simp; omega) (.cells #[] 9))).grown hgr1 (by simp; omega) (fun k hk => by cases hk; omega)
    have hs1 : w.heap.size + 4 ≤ w1.heap.size := by have := hgr1.size; simp at this; omega
    have BA : Vm.Box w1 w.heap.size (.int .i64 k) (.int .i64 x) (.int .u64 (b : Int)) (.string s) (.slice ai n c) (.slice ak m d) := ⟨(hkeep _ (by omega)).trans (((Vm.Has.new w (.cells #[.int .i64 k, .int .i64 x, .int .u64 (b : Int), .string s, .slice ai n c, .slice ak m d] 26) _ rfl).alloc _).alloc _)⟩
    have BR : Vm.Box w1 (w.heap.size + 1) (.int .i64 0) (.int .i64 0) (.int .u64 0) (.string ⟨#[]⟩) (.slice none 0 0) (.slice none 0 0) := ⟨(hkeep _ (by omega)).trans ((Vm.Has.new (w.alloc (.cells #[.int .i64 k, .int .i64 x, .int .u64 (b : Int), .string s, .slice ai n c, .slice ak m d] 26)) (.cells #[.int .i64 0, .int .i64 0, .int .u64 0, .string ⟨#[]⟩, .slice none 0 0, .slice none 0 0] 26) _ (by simp)).alloc _)⟩
    have BB : Vm.Box w1 (w.heap.size + 1 + 1) (.int .i64 k) (.int .i64 x) (.int .u64 (b : Int)) (.string s) (.slice ai n c) (.slice ak m d) := ⟨(hkeep _ (by omega)).trans (Vm.Has.new ((w.alloc (.cells #[.int .i64 k, .int .i64 x, .int .u64 (b : Int), .string s, .slice ai n c, .slice ak m d] 26)).alloc (.cells #[.int .i64 0, .int .i64 0, .int .u64 0, .string ⟨#[]⟩, .slice none 0 0, .slice none 0 0] 26)) (.cells #[.int .i64 k, .int .i64 x, .int .u64 (b : Int), .string s, .slice ai n c, .slice ak m d] 26) _ (by simp))⟩
    clear hkeep hown1 hgr1 hmk
    have c5 := BB.cells.2.2.2.2.2
    have c4 := BB.cells.2.2.2.2.1
    have ff := fun i => BB.frozen i
    have HBA := Lib.hid BA
    have HBR := Lib.hid BR
    have HBB := Lib.hid BB
    have HK1 := Lib.hid hK1
    clear BA BR BB hK1
    go_wp2_with fail
    clear c5 c4 ff
    have BA := ((HBA.out.other (show w.heap.size ≠ w.heap.size + 1 + 1 by omega) 5 (.slice a1 m d1)).other (show w.heap.size ≠ w.heap.size + 1 + 1 by omega) 4 (.slice none 0 0))
    have BR := ((HBR.out.other (show w.heap.size + 1 ≠ w.heap.size + 1 + 1 by omega) 5 (.slice a1 m d1)).other (show w.heap.size + 1 ≠ w.heap.size + 1 + 1 by omega) 4 (.slice none 0 0))
    have BB := (HBB.out.set5 (.slice a1 m d1)).set4 (.slice none 0 0)
    have hbW := (hb1.setCell (p := ⟨w.heap.size + 1 + 1, 5, none⟩) (by simp; omega) (.slice a1 m d1)).setCell (p := ⟨w.heap.size + 1 + 1, 4, none⟩) (by simp; omega) (.slice none 0 0)
    have KW : Vt.Keys ((w1.setCell ⟨w.heap.size + 1 + 1, 5, none⟩ (.slice a1 m d1)).setCell ⟨w.heap.size + 1 + 1, 4, none⟩ (.slice none 0 0)) (fun q => w.heap.size + 3 ≤ q ∧ q < w1.heap.size) m ks a1 d1 := HK1.out.on fun q hq => ⟨hq, by rw [Below.heap_setCell _ _ _ _ (by simp; omega), Below.heap_setCell _ _ _ _ (by simp; omega)]⟩
    have hsW : ((w1.setCell ⟨w.heap.size + 1 + 1, 5, none⟩ (.slice a1 m d1)).setCell ⟨w.heap.size + 1 + 1, 4, none⟩ (.slice none 0 0)).heap.size = w1.heap.size := by simp
    generalize (w1.setCell ⟨w.heap.size + 1 + 1, 5, none⟩ (.slice a1 m d1)).setCell ⟨w.heap.size + 1 + 1, 4, none⟩ (.slice none 0 0) = W at *
    have hgB : w.heap.size + 1 + 1 < W.heap.size := by omega
    have HQB : Hid (¬ W.heap.size ≤ w.heap.size + 1 + 1) := by unfold Hid; omega
    have hnm : n ≤ 9223372036854775807 := by omega
    clear HBA HBR HBB
    have HBA := Lib.hid BA
    have HBR := Lib.hid BR
    have HKW := Lib.hid KW
    have HBW := Lib.hid hbW
    clear BA BR KW hbW hb1 HK1
    go_loopw [6] (fun ix wr => ∃ j : Nat, (j ≤ n ∧ (e = 0 → j = 0)) ∧ ix = .int .i64 (j : Int) ∧ Vr.Lo W wr (w.heap.size + 1 + 1) ∧ ∃ ai2 c2, Vm.Box wr (w.heap.size + 1 + 1) (.int .i64 k) (.int .i64 x) (.int .u64 (b : Int)) (.string s) (.slice ai2 j c2) (.slice a1 m d1) ∧ Vr.Row (fun q => W.heap.size ≤ q) W.heap.size (fun i => if e = 0 then .nil else Vt.cut (e - 1) (it i)) j wr (.slice ai2 j c2)) (fun ix _ => n - (intOf ix).toNat)
    case atStart => exact ⟨0, ⟨Nat.zero_le _, fun _ => rfl⟩, by go_num, Vr.Lo.refl _ _, _, _, BB, Vr.Row.nil _ _ _ _⟩
    case round =>
      obtain ⟨j, ⟨hjn, hje⟩, rfl, hL, ai2, c2, hB, hRow⟩ := hrel
      clear BB
      have BA : Vm.Box wr w.heap.size _ _ _ _ _ _ := ⟨(hL.block _ (by omega) (by omega)).trans HBA.out.all⟩
      have BR : Vm.Box wr (w.heap.size + 1) _ _ _ _ _ _ := ⟨(hL.block _ (by omega) (by omega)).trans HBR.out.all⟩
      have hbr := hL.below HBW.out (show w.heap.size ≤ w.heap.size + 1 + 1 by omega)
      have c4 := BA.cells.2.2.2.2.1
      by_cases hgo : j < n ∧ 0 < e
      · obtain ⟨hlt, hpos⟩ := hgo
        have dj : decide ((j : Int) < (n : Int)) = true := decide_eq_true (by omega)
        have de : decide ((0 : Int) < (e : Int)) = true := decide_eq_true (by omega)
        obtain ⟨E, hE, hE1⟩ : ∃ E : Nat, (e : Int) - 1 = (E : Int) ∧ E = e - 1 := ⟨e - 1, by omega, rfl⟩
        have hEw : IntKind.i64.wrap (E : Int) = E := by rw [IntKind.wrap_i64]; omega
        have HE1 := Lib.hid hE1
        have HE40 : Hid (E ≤ 40) := by unfold Hid; omega
        obtain ⟨bi, oi, v0, v1, v2, v3, v4, v5, rfl, hbi, y0, y1, y2, y3, y4, y5, hli0⟩ := (H.out.keys).2.2 j hlt
        have hli := hli0.on' hbr
        have hbl := hbr.block bi hbi
        replace y0 := Vt.cell_on hbl y0
        replace y1 := Vt.cell_on hbl y1
        replace y2 := Vt.cell_on hbl y2
        replace y3 := Vt.cell_on hbl y3
        replace y4 := Vt.cell_on hbl y4
        replace y5 := Vt.cell_on hbl y5
        clear hli0 hbl
        have hjc : j < c := Nat.lt_of_lt_of_le hlt hn
        obtain ⟨k', x', b', s', ai', n', c', ak', m', d', rfl, rfl, rfl, rfl, rfl, rfl⟩ := hli.cells
        have HLI := Lib.hid hli.drew
        have HMJ := Lib.hid (HT3.out j hlt)
        have HN0 : Hid (¬ e = 0) := by unfold Hid; omega
        have z4 := hB.cells.2.2.2.2.1
        have HB := Lib.hid hB
        have HRow := Lib.hid hRow
        have HL := Lib.hid hL
        have hn1 : (j + 1) * 88 ≤ 140737488355328 := by omega
        have HN1 := Lib.hid hn1
        clear hn1 hli hB hRow hL hbr hE1 BA BR hje hpos ht1 ht2 hs1
        go_wp2_with fail
        have nB1 : w.heap.size + 1 + 1 ≠ w.heap.size := by omega
        have nB2 : w.heap.size + 1 + 1 ≠ bi := by omega
        go_region_law (first | (refine Vr.step_push rfl (.tmp 26) (.tmp 35) rfl (.slice ai2 j c2) (by simp [Act.eval]) (HR3.out.alloc hgB HQB.out _) w3.heap.size k3 x3 b3 s3 ai3 n3 c3 ak3 m3 d3 (by simp [Act.eval]) (Vm.Has.new w3 _ _ rfl) (HLC3.out _) HN1.out (by have := HL3.out.size; simp; omega) ?_; intro v' w4 R4 hb4; obtain ⟨a4, d4, rfl, _, _⟩ := R4.form; have B4 : Vm.Box w4 (w.heap.size + 1 + 1) _ _ _ _ _ _ := ⟨(hb4.block (w.heap.size + 1 + 1) hgB).trans (HB3.out.alloc HB3.out.lt _).all⟩; have cc4 := B4.cells.2.2.2.2.1; have f4 := B4.frozen 4; have HB4 := Lib.hid B4; have HR4 := Lib.hid R4; have HL4 := Lib.hid hb4; clear B4 R4 hb4) | (rw [if_pos (by simp [Region.wanted])]; go_simp; go_at_call 4; refine (HI.out j HMJ.out E _ _ HE40.out HLI.out).mono ?_; rintro r w3 ⟨v', rfl, hl3, hb'⟩; obtain ⟨k3, x3, b3, s3, ai3, n3, c3, ak3, m3, d3, rfl⟩ := hl3.form; replace hb' := Vs.back hb'; have B3 := HB.out.on HB.out.lt hb'; have R3 := HRow.out.then hgB HQB.out hb'; have L3 := HL.out.on hb'; have c3z := B3.cells.2.2.2.2.1; have c3a := fun o => (B3.alloc B3.lt o).cells.2.2.2.2.1; have HLC3 : Hid (∀ o, (if e = 0 then Vt.nil else Vt.cut (e - 1) (it j)).Lies (w3.alloc o) (fun q => W.heap.size ≤ q ∧ q < (w3.alloc o).heap.size ∧ (Value.slice ai2 j c2).ownBlock ≠ some q) (.agg #[.int .i64 k3, .int .i64 x3, .int .u64 (b3 : Int), .string s3, .slice ai3 n3 c3, .slice ak3 m3 d3])) := (fun o => by rw [if_neg HN0.out, ← HE1.out]; exact hl3.on fun q hq => ⟨⟨Nat.le_trans HL.out.size hq.1, by simp; omega, HRow.out.ne' hq.1⟩, Below.heap_alloc _ _ _ hq.2⟩); have HB3 := Lib.hid B3; have HR3 := Lib.hid R3; have HL3 := Lib.hid L3; clear B3 R3 L3 hb' hl3))
        all_goals go_wp2
        all_goals refine ⟨⟨j + 1, ⟨hlt, fun h0 => absurd h0 HN0.out⟩, by go_num, ((HL3.out.alloc _).low HL4.out).set 4 _, _, _, HB4.out.set4 _, HR4.out.set hgB HQB.out 4 _⟩, ?_⟩
        all_goals simp [intOf]
        all_goals omega
      · have hj : j = (if e = 0 then 0 else n) := by
          split
          · next h0 => exact hje h0
          · omega
        have hLies : (Vt.cut e (.mk k x b s n it m ks)).Lies wr (fun q => (w.heap.size ≤ q ∧ q < wr.heap.size) ∧ q ≠ w.heap.size + 1) (.agg #[.int .i64 k, .int .i64 x, .int .u64 (b : Int), .string s, .slice ai2 j c2, .slice a1 m d1]) := by
          rw [HRT.out, ← hj]
          exact hRow.lies (fun q h1 h2 => ⟨⟨by omega, h2⟩, by omega⟩) (fun q h1 h2 => ⟨⟨by omega, h2⟩, by omega⟩) k x b s hb m ks a1 d1 (HKW.out.on fun q hq => ⟨⟨⟨by omega, by have := hL.size; omega⟩, by omega⟩, hL.block q (by omega) (by omega)⟩)
        obtain ⟨z0, z1, z2, z3, z4, z5⟩ := hB.cells
        obtain ⟨r0, r1, r2, r3, r4, r5⟩ := BR.cells
        have f0 := BR.frozen
        have HR := Lib.hid BR
        have HLI := Lib.hid hLies
        have hjl' : ¬ j < n ∨ ¬ 0 < e := by omega
        clear hLies hRow hB BR BA hL hj hgo hje
        by_cases hjl : j < n
        · have dj : decide ((j : Int) < (n : Int)) = true := decide_eq_true (by omega)
          have de : decide ((0 : Int) < (e : Int)) = false := decide_eq_false (by omega)
          go_wp2
          have WR := Vm.set6 wr (w.heap.size + 1) 0 (.int .i64 k) (.int .i64 x) (.int .u64 (b : Int)) (.string s) (.slice ai2 j c2) (.slice a1 m d1)
          have BX : Vm.Box _ (w.heap.size + 1) (.int .i64 k) (.int .i64 x) (.int .u64 (b : Int)) (.string s) (.slice ai2 j c2) (.slice a1 m d1) := ⟨Vm.set6_row HR.out.all 0 (.int .i64 k) (.int .i64 x) (.int .u64 (b : Int)) (.string s) (.slice ai2 j c2) (.slice a1 m d1)⟩
          simp only [Nat.zero_add] at WR BX
          generalize ((((((wr.setCell ⟨w.heap.size + 1, 0, none⟩ (.int .i64 k)).setCell ⟨w.heap.size + 1, 1, none⟩ (.int .i64 x)).setCell ⟨w.heap.size + 1, 2, none⟩ (.int .u64 (b : Int))).setCell ⟨w.heap.size + 1, 3, none⟩ (.string s)).setCell ⟨w.heap.size + 1, 4, none⟩ (.slice ai2 j c2)).setCell ⟨w.heap.size + 1, 5, none⟩ (.slice a1 m d1)) = WF at *
          obtain ⟨q0, q1, q2, q3, q4, q5⟩ := BX.cells
          refine bodyPost_ret (v := .agg #[.int .i64 k, .int .i64 x, .int .u64 (b : Int), .string s, .slice ai2 j c2, .slice a1 m d1]) (by simp [results, Tryd.results4, go_sem, q0, q1, q2, q3, q4, q5]) rfl ?_
          exact ⟨_, rfl, HLI.out.on fun q hq => ⟨⟨hq.1.1, by rw [WR.size]; exact hq.1.2⟩, WR.block q hq.2⟩, WR.below hbr (by omega)⟩
        · have dj : decide ((j : Int) < (n : Int)) = false := decide_eq_false (by omega)
          go_wp2
          have WR := Vm.set6 wr (w.heap.size + 1) 0 (.int .i64 k) (.int .i64 x) (.int .u64 (b : Int)) (.string s) (.slice ai2 j c2) (.slice a1 m d1)
          have BX : Vm.Box _ (w.heap.size + 1) (.int .i64 k) (.int .i64 x) (.int .u64 (b : Int)) (.string s) (.slice ai2 j c2) (.slice a1 m d1) := ⟨Vm.set6_row HR.out.all 0 (.int .i64 k) (.int .i64 x) (.int .u64 (b : Int)) (.string s) (.slice ai2 j c2) (.slice a1 m d1)⟩
          simp only [Nat.zero_add] at WR BX
          generalize ((((((wr.setCell ⟨w.heap.size + 1, 0, none⟩ (.int .i64 k)).setCell ⟨w.heap.size + 1, 1, none⟩ (.int .i64 x)).setCell ⟨w.heap.size + 1, 2, none⟩ (.int .u64 (b : Int))).setCell ⟨w.heap.size + 1, 3, none⟩ (.string s)).setCell ⟨w.heap.size + 1, 4, none⟩ (.slice ai2 j c2)).setCell ⟨w.heap.size + 1, 5, none⟩ (.slice a1 m d1)) = WF at *
          obtain ⟨q0, q1, q2, q3, q4, q5⟩ := BX.cells
          refine bodyPost_ret (v := .agg #[.int .i64 k, .int .i64 x, .int .u64 (b : Int), .string s, .slice ai2 j c2, .slice a1 m d1]) (by simp [results, Tryd.results4, go_sem, q0, q1, q2, q3, q4, q5]) rfl ?_
          exact ⟨_, rfl, HLI.out.on fun q hq => ⟨⟨hq.1.1, by rw [WR.size]; exact hq.1.2⟩, WR.block q hq.2⟩, WR.below hbr (by omega)⟩
end Go.Proofs.YtggfemdnoccmeaaDoor
