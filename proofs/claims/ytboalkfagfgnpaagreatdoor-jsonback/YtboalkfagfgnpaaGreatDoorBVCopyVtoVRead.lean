/-
  THE WALK of stolelaw0.CopyValue.
-/
import Derived.Test.YtboalkfagfgnpaaGreatDoorBVRowtoVCopyT
import Derived.Test.YtboalkfagfgnpaaGreatDoorBVPlain2
import Derived.Test.YtboalkfagfgnpaaGreatDoorBReNumtoFrame10
import Derived.Deep.Strs
import Derived.ChangeOld
namespace Go.Proofs.YtboalkfagfgnpaaGreatDoor
open Go.RowKit

/-- no list of the tree is of more than a million -/
def Vt.modest : Vt → Prop
  | .nil => True
  | .mk _ _ _ _ n it m _ => n ≤ 1048576 ∧ m ≤ 1048576 ∧ ∀ i, i < n → (it i).modest
theorem Vr.Row.ne' {Q : Nat → Prop} {base : Nat} {it : Nat → Vt} {n : Nat} {w : World} {v : Value} (h : Vr.Row Q base it n w v) {k : Nat} (hk : w.heap.size ≤ k) : v.ownBlock ≠ some k := by
  obtain ⟨xs, ho, _⟩ := h.all
  intro e
  have := (ho.lt k e).2
  omega
/-- what the copy's root holds -/
theorem Cv.root (d : Nat) (k x : Int) (b : Nat) (s : ByteArray) (n : Nat) (it : Nat → Vt) (m : Nat) (ks : Nat → ByteArray) : Vt.cut d (.mk k x b s n it m ks) = .mk k x b s (if d = 0 then 0 else n) (fun i => if d = 0 then .nil else Vt.cut (d - 1) (it i)) m ks := by
  cases d with
  | zero => rfl
  | succ d => rfl

set_option maxRecDepth 100000 in
set_option maxHeartbeats 8000000 in
theorem Cv.copy : ∀ (t : Vt), t.modest → ∀ (e : Nat) (v : Value) (w : World), e ≤ 40 → t.Lies w (· < w.heap.size) v →
    Calls Tryz.prog 5 #[v, .int .i64 (e : Int)] w fun r w' => ∃ v', r = .returned v' ∧ (Vt.cut e t).Lies w' (fun k => w.heap.size ≤ k ∧ k < w'.heap.size) v' ∧ Below w.heap.size w w' := by
  intro t
  induction t with
  | nil => intro _ e v w _ h; exact h.elim
  | mk k x b s n it m ks ih =>
    intro ht e v w he h
    have H := Lib.hid h
    obtain ⟨ai, c, ak, d, rfl, hb, hn, hc, hk, hi⟩ := h
    obtain ⟨ht1, ht2, ht3⟩ := ht
    have HI : Hid (∀ i, (it i).modest → ∀ (e : Nat) (v : Value) (w : World), e ≤ 40 → (it i).Lies w (· < w.heap.size) v →
      Calls Tryz.prog 5 #[v, .int .i64 (e : Int)] w fun r w' => ∃ v', r = .returned v' ∧ (Vt.cut e (it i)).Lies w' (fun k => w.heap.size ≤ k ∧ k < w'.heap.size) v' ∧ Below w.heap.size w w') := ih
    have HK := Lib.hid hk
    have HT3 := Lib.hid ht3
    have HRT := Lib.hid (Cv.root e k x b s n it m ks)
    clear ih hk hi ht3
    have hmk : ∀ o o' o'' o3, Hid (∀ j u, (Vc.texts m ks)[j]? = some u → ∃ ad, ak = some ad ∧ ((((w.alloc o).alloc o').alloc o'').alloc o3).cell? (ad.add j) = some u) := fun o o' o'' o3 => Vc.texts_cell HK.out (((((Below.refl _ _).alloc (Nat.le_refl _) o).alloc (by simp) o').alloc (by simp; omega) o'').alloc (by simp; omega) o3)
    go_enter Tryz.func5, Tryz.ntmps5
    go_wp2_with (at_builtin; refine Vc.append' rfl _ _ rfl (w.heap.size + 3) (w.heap.size + 3) rfl (by have := Vc.empty (((w.alloc (.cells #[.int .i64 k, .int .i64 x, .int .u64 (b : Int), .string s, .slice ai n c, .slice ak m d] 26)).alloc (.cells #[.int .i64 0, .int .i64 0, .int .u64 0, .string ⟨#[]⟩, .slice none 0 0, .slice none 0 0] 26)).alloc (.cells #[.int .i64 k, .int .i64 x, .int .u64 (b : Int), .string s, .slice ai n c, .slice ak m d] 26)) (w.heap.size + 3) (by simp); simpa using this) m ks ak d rfl (hmk _ _ _ _).out ht2 (by simp) ?_)
    intro v1 w1 hown1 hgr1
    obtain ⟨a1, d1, rfl, hK1⟩ := Vc.keysOf hown1
    have hkeep : ∀ q, q < w.heap.size + 3 → w1.heap[q]? = (((w.alloc (.cells #[.int .i64 k, .int .i64 x, .int .u64 (b : Int), .string s, .slice ai n c, .slice ak m d] 26)).alloc (.cells #[.int .i64 0, .int .i64 0, .int .u64 0, .string ⟨#[]⟩, .slice none 0 0, .slice none 0 0] 26)).alloc (.cells #[.int .i64 k, .int .i64 x, .int .u64 (b : Int), .string s, .slice ai n c, .slice ak m d] 26)).heap[q]? := fun q hq => by
      rw [hgr1.block q (by simp; omega) (fun e => by have := Option.some.inj e; omega), Below.heap_alloc _ _ _ (by simp; omega)]
    have hb1 : Below w.heap.size w w1 := ((((((Below.refl w.heap.size w).alloc (Nat.le_refl _) (.cells #[.int .i64 k, .int .i64 x, .int .u64 (b : Int), .string s, .slice ai n c, .slice ak m d] 26)).alloc (by simp) (.cells #[.int .i64 0, .int .i64 0, .int .u64 0, .string ⟨#[]⟩, .slice none 0 0, .slice none 0 0] 26)).alloc (by simp; omega) (.cells #[.int .i64 k, .int .i64 x, .int .u64 (b : Int), .string s, .slice ai n c, .slice ak m d] 26)).alloc (by simp; omega) (.cells #[] 9))).grown hgr1 (by simp; omega) (fun k hk => by cases hk; omega)
    have hs1 : w.heap.size + 4 ≤ w1.heap.size := by have := hgr1.size; simp at this; omega
    have BA : Vm.Box w1 w.heap.size (.int .i64 k) (.int .i64 x) (.int .u64 (b : Int)) (.string s) (.slice ai n c) (.slice ak m d) := ⟨(hkeep _ (by omega)).trans (((Vm.Has.new w (.cells #[.int .i64 k, .int .i64 x, .int .u64 (b : Int), .string s, .slice ai n c, .slice ak m d] 26) _ rfl).alloc _).alloc _)⟩
    have BR : Vm.Box w1 (w.heap.size + 1) (.int .i64 0) (.int .i64 0) (.int .u64 0) (.string ⟨#[]⟩) (.slice none 0 0) (.slice none 0 0) := ⟨(hkeep _ (by omega)).trans ((Vm.Has.new (w.alloc (.cells #[.int .i64 k, .int .i64 x, .int .u64 (b : Int), .string s, .slice ai n c, .slice ak m d] 26)) (.cells #[.int .i64 0, .int .i64 0, .int .u64 0, .string ⟨#[]⟩, .slice none 0 0, .slice none 0 0] 26) _ (by simp)).alloc _)⟩
    have BB : Vm.Box w1 (w.heap.size + 1 + 1) (.int .i64 k) (.int .i64 x) (.int .u64 (b : Int)) (.string s) (.slice ai n c) (.slice ak m d) := ⟨(hkeep _ (by omega)).trans (Vm.Has.new ((w.alloc (.cells #[.int .i64 k, .int .i64 x, .int .u64 (b : Int), .string s, .slice ai n c, .slice ak m d] 26)).alloc (.cells #[.int .i64 0, .int .i64 0, .int .u64 0, .string ⟨#[]⟩, .slice none 0 0, .slice none 0 0] 26)) (.cells #[.int .i64 k, .int .i64 x, .int .u64 (b : Int), .string s, .slice ai n c, .slice ak m d] 26) _ (by simp))⟩
    clear hkeep hown1 hgr1 hmk
    have c5 := BB.cells.2.2.2.2.2
    have c4 := BB.cells.2.2.2.2.1
    have ff := fun i => BB.frozen i
    have HBA := Lib.hid BA
    have HBR := Lib.hid BR
    have HBB := Lib.hid BB
    have HK1 := Lib.hid hK1
    clear BA BR BB hK1
    go_wp2_with fail
    clear c5 c4 ff
    have BA := ((HBA.out.other (show w.heap.size ≠ w.heap.size + 1 + 1 by omega) 5 (.slice a1 m d1)).other (show w.heap.size ≠ w.heap.size + 1 + 1 by omega) 4 (.slice none 0 0))
    have BR := ((HBR.out.other (show w.heap.size + 1 ≠ w.heap.size + 1 + 1 by omega) 5 (.slice a1 m d1)).other (show w.heap.size + 1 ≠ w.heap.size + 1 + 1 by omega) 4 (.slice none 0 0))
    have BB := (HBB.out.set5 (.slice a1 m d1)).set4 (.slice none 0 0)
    have hbW := (hb1.setCell (p := ⟨w.heap.size + 1 + 1, 5, none⟩) (by simp; omega) (.slice a1 m d1)).setCell (p := ⟨w.heap.size + 1 + 1, 4, none⟩) (by simp; omega) (.slice none 0 0)
    have KW : Vt.Keys ((w1.setCell ⟨w.heap.size + 1 + 1, 5, none⟩ (.slice a1 m d1)).setCell ⟨w.heap.size + 1 + 1, 4, none⟩ (.slice none 0 0)) (fun q => w.heap.size + 3 ≤ q ∧ q < w1.heap.size) m ks a1 d1 := HK1.out.on fun q hq => ⟨hq, by rw [Below.heap_setCell _ _ _ _ (by simp; omega), Below.heap_setCell _ _ _ _ (by simp; omega)]⟩
    have hsW : ((w1.setCell ⟨w.heap.size + 1 + 1, 5, none⟩ (.slice a1 m d1)).setCell ⟨w.heap.size + 1 + 1, 4, none⟩ (.slice none 0 0)).heap.size = w1.heap.size := by simp
    generalize (w1.setCell ⟨w.heap.size + 1 + 1, 5, none⟩ (.slice a1 m d1)).setCell ⟨w.heap.size + 1 + 1, 4, none⟩ (.slice none 0 0) = W at *
    have hgB : w.heap.size + 1 + 1 < W.heap.size := by omega
    have HQB : Hid (¬ W.heap.size ≤ w.heap.size + 1 + 1) := by unfold Hid; omega
    have hnm : n ≤ 9223372036854775807 := by omega
    clear HBA HBR HBB
    have HBA := Lib.hid BA
    have HBR := Lib.hid BR
    have HKW := Lib.hid KW
    have HBW := Lib.hid hbW
    clear BA BR KW hbW hb1 HK1
    go_loopw [6] (fun ix wr => ∃ j : Nat, (j ≤ n ∧ (e = 0 → j = 0)) ∧ ix = .int .i64 (j : Int) ∧ Vr.Lo W wr (w.heap.size + 1 + 1) ∧ ∃ ai2 c2, Vm.Box wr (w.heap.size + 1 + 1) (.int .i64 k) (.int .i64 x) (.int .u64 (b : Int)) (.string s) (.slice ai2 j c2) (.slice a1 m d1) ∧ Vr.Row (fun q => W.heap.size ≤ q) W.heap.size (fun i => if e = 0 then .nil else Vt.cut (e - 1) (it i)) j wr (.slice ai2 j c2)) (fun ix _ => n - (intOf ix).toNat)
    case atStart => exact ⟨0, ⟨Nat.zero_le _, fun _ => rfl⟩, by go_num, Vr.Lo.refl _ _, _, _, BB, Vr.Row.nil _ _ _ _⟩
    case round =>
      obtain ⟨j, ⟨hjn, hje⟩, rfl, hL, ai2, c2, hB, hRow⟩ := hrel
      clear BB
      have BA : Vm.Box wr w.heap.size _ _ _ _ _ _ := ⟨(hL.block _ (by omega) (by omega)).trans HBA.out.all⟩
      have BR : Vm.Box wr (w.heap.size + 1) _ _ _ _ _ _ := ⟨(hL.block _ (by omega) (by omega)).trans HBR.out.all⟩
      have hbr := hL.below HBW.out (show w.heap.size ≤ w.heap.size + 1 + 1 by omega)
      have c4 := BA.cells.2.2.2.2.1
      by_cases hgo : j < n ∧ 0 < e
      · obtain ⟨hlt, hpos⟩ := hgo
        have dj : decide ((j : Int) < (n : Int)) = true := decide_eq_true (by omega)
        have de : decide ((0 : Int) < (e : Int)) = true := decide_eq_true (by omega)
        obtain ⟨E, hE, hE1⟩ : ∃ E : Nat, (e : Int) - 1 = (E : Int) ∧ E = e - 1 := ⟨e - 1, by omega, rfl⟩
        have hEw : IntKind.i64.wrap (E : Int) = E := by rw [IntKind.wrap_i64]; omega
        have HE1 := Lib.hid hE1
        have HE40 : Hid (E ≤ 40) := by unfold Hid; omega
        obtain ⟨bi, oi, v0, v1, v2, v3, v4, v5, rfl, hbi, y0, y1, y2, y3, y4, y5, hli0⟩ := (H.out.keys).2.2 j hlt
        have hli := hli0.on' hbr
        have hbl := hbr.block bi hbi
        replace y0 := Vt.cell_on hbl y0
        replace y1 := Vt.cell_on hbl y1
        replace y2 := Vt.cell_on hbl y2
        replace y3 := Vt.cell_on hbl y3
        replace y4 := Vt.cell_on hbl y4
        replace y5 := Vt.cell_on hbl y5
        clear hli0 hbl
        have hjc : j < c := Nat.lt_of_lt_of_le hlt hn
        obtain ⟨k', x', b', s', ai', n', c', ak', m', d', rfl, rfl, rfl, rfl, rfl, rfl⟩ := hli.cells
        have HLI := Lib.hid hli.drew
        have HMJ := Lib.hid (HT3.out j hlt)
        have HN0 : Hid (¬ e = 0) := by unfold Hid; omega
        have z4 := hB.cells.2.2.2.2.1
        have HB := Lib.hid hB
        have HRow := Lib.hid hRow
        have HL := Lib.hid hL
        have hn1 : (j + 1) * 88 ≤ 140737488355328 := by omega
        have HN1 := Lib.hid hn1
        clear hn1 hli hB hRow hL hbr hE1 BA BR hje hpos ht1 ht2 hs1
        go_wp2_with fail
        have nB1 : w.heap.size + 1 + 1 ≠ w.heap.size := by omega
        have nB2 : w.heap.size + 1 + 1 ≠ bi := by omega
        go_region_law (first | (refine Vr.step_push rfl (.tmp 26) (.tmp 35) rfl (.slice ai2 j c2) (by simp [Act.eval]) (HR3.out.alloc hgB HQB.out _) w3.heap.size k3 x3 b3 s3 ai3 n3 c3 ak3 m3 d3 (by simp [Act.eval]) (Vm.Has.new w3 _ _ rfl) (HLC3.out _) HN1.out (by have := HL3.out.size; simp; omega) ?_; intro v' w4 R4 hb4; obtain ⟨a4, d4, rfl, _, _⟩ := R4.form; have B4 : Vm.Box w4 (w.heap.size + 1 + 1) _ _ _ _ _ _ := ⟨(hb4.block (w.heap.size + 1 + 1) hgB).trans (HB3.out.alloc HB3.out.lt _).all⟩; have cc4 := B4.cells.2.2.2.2.1; have f4 := B4.frozen 4; have HB4 := Lib.hid B4; have HR4 := Lib.hid R4; have HL4 := Lib.hid hb4; clear B4 R4 hb4) | (rw [if_pos (by simp [Region.wanted])]; go_simp; go_at_call 5; refine (HI.out j HMJ.out E _ _ HE40.out HLI.out).mono ?_; rintro r w3 ⟨v', rfl, hl3, hb'⟩; obtain ⟨k3, x3, b3, s3, ai3, n3, c3, ak3, m3, d3, rfl⟩ := hl3.form; replace hb' := Vs.back hb'; have B3 := HB.out.on HB.out.lt hb'; have R3 := HRow.out.then hgB HQB.out hb'; have L3 := HL.out.on hb'; have c3z := B3.cells.2.2.2.2.1; have c3a := fun o => (B3.alloc B3.lt o).cells.2.2.2.2.1; have HLC3 : Hid (∀ o, (if e = 0 then Vt.nil else Vt.cut (e - 1) (it j)).Lies (w3.alloc o) (fun q => W.heap.size ≤ q ∧ q < (w3.alloc o).heap.size ∧ (Value.slice ai2 j c2).ownBlock ≠ some q) (.agg #[.int .i64 k3, .int .i64 x3, .int .u64 (b3 : Int), .string s3, .slice ai3 n3 c3, .slice ak3 m3 d3])) := (fun o => by rw [if_neg HN0.out, ← HE1.out]; exact hl3.on fun q hq => ⟨⟨Nat.le_trans HL.out.size hq.1, by simp; omega, HRow.out.ne' hq.1⟩, Below.heap_alloc _ _ _ hq.2⟩); have HB3 := Lib.hid B3; have HR3 := Lib.hid R3; have HL3 := Lib.hid L3; clear B3 R3 L3 hb' hl3))
        all_goals go_wp2
        all_goals refine ⟨⟨j + 1, ⟨hlt, fun h0 => absurd h0 HN0.out⟩, by go_num, ((HL3.out.alloc _).low HL4.out).set 4 _, _, _, HB4.out.set4 _, HR4.out.set hgB HQB.out 4 _⟩, ?_⟩
        all_goals simp [intOf]
        all_goals omega
      · have hj : j = (if e = 0 then 0 else n) := by
          split
          · next h0 => exact hje h0
          · omega
        have hLies : (Vt.cut e (.mk k x b s n it m ks)).Lies wr (fun q => (w.heap.size ≤ q ∧ q < wr.heap.size) ∧ q ≠ w.heap.size + 1) (.agg #[.int .i64 k, .int .i64 x, .int .u64 (b : Int), .string s, .slice ai2 j c2, .slice a1 m d1]) := by
          rw [HRT.out, ← hj]
          exact hRow.lies (fun q h1 h2 => ⟨⟨by omega, h2⟩, by omega⟩) (fun q h1 h2 => ⟨⟨by omega, h2⟩, by omega⟩) k x b s hb m ks a1 d1 (HKW.out.on fun q hq => ⟨⟨⟨by omega, by have := hL.size; omega⟩, by omega⟩, hL.block q (by omega) (by omega)⟩)
        obtain ⟨z0, z1, z2, z3, z4, z5⟩ := hB.cells
        obtain ⟨r0, r1, r2, r3, r4, r5⟩ := BR.cells
        have f0 := BR.frozen
        have HR := Lib.hid BR
        have HLI := Lib.hid hLies
        have hjl' : ¬ j < n ∨ ¬ 0 < e := by omega
        clear hLies hRow hB BR BA hL hj hgo hje
        by_cases hjl : j < n
        · have dj : decide ((j : Int) < (n : Int)) = true := decide_eq_true (by omega)
          have de : decide ((0 : Int) < (e : Int)) = false := decide_eq_false (by omega)
          go_wp2
          have WR := Vm.set6 wr (w.heap.size + 1) 0 (.int .i64 k) (.int .i64 x) (.int .u64 (b : Int)) (.string s) (.slice ai2 j c2) (.slice a1 m d1)
          have BX : Vm.Box _ (w.heap.size + 1) (.int .i64 k) (.int .i64 x) (.int .u64 (b : Int)) (.string s) (.slice ai2 j c2) (.slice a1 m d1) := ⟨Vm.set6_row HR.out.all 0 (.int .i64 k) (.int .i64 x) (.int .u64 (b : Int)) (.string s) (.slice ai2 j c2) (.slice a1 m d1)⟩
          simp only [Nat.zero_add] at WR BX
          generalize ((((((wr.setCell ⟨w.heap.size + 1, 0, none⟩ (.int .i64 k)).setCell ⟨w.heap.size + 1, 1, none⟩ (.int .i64 x)).setCell ⟨w.heap.size + 1, 2, none⟩ (.int .u64 (b : Int))).setCell ⟨w.heap.size + 1, 3, none⟩ (.string s)).setCell ⟨w.heap.size + 1, 4, none⟩ (.slice ai2 j c2)).setCell ⟨w.heap.size + 1, 5, none⟩ (.slice a1 m d1)) = WF at *
          obtain ⟨q0, q1, q2, q3, q4, q5⟩ := BX.cells
          refine bodyPost_ret (v := .agg #[.int .i64 k, .int .i64 x, .int .u64 (b : Int), .string s, .slice ai2 j c2, .slice a1 m d1]) (by simp [results, Tryz.results5, go_sem, q0, q1, q2, q3, q4, q5]) rfl ?_
          exact ⟨_, rfl, HLI.out.on fun q hq => ⟨⟨hq.1.1, by rw [WR.size]; exact hq.1.2⟩, WR.block q hq.2⟩, WR.below hbr (by omega)⟩
        · have dj : decide ((j : Int) < (n : Int)) = false := decide_eq_false (by omega)
          go_wp2
          have WR := Vm.set6 wr (w.heap.size + 1) 0 (.int .i64 k) (.int .i64 x) (.int .u64 (b : Int)) (.string s) (.slice ai2 j c2) (.slice a1 m d1)
          have BX : Vm.Box _ (w.heap.size + 1) (.int .i64 k) (.int .i64 x) (.int .u64 (b : Int)) (.string s) (.slice ai2 j c2) (.slice a1 m d1) := ⟨Vm.set6_row HR.out.all 0 (.int .i64 k) (.int .i64 x) (.int .u64 (b : Int)) (.string s) (.slice ai2 j c2) (.slice a1 m d1)⟩
          simp only [Nat.zero_add] at WR BX
          generalize ((((((wr.setCell ⟨w.heap.size + 1, 0, none⟩ (.int .i64 k)).setCell ⟨w.heap.size + 1, 1, none⟩ (.int .i64 x)).setCell ⟨w.heap.size + 1, 2, none⟩ (.int .u64 (b : Int))).setCell ⟨w.heap.size + 1, 3, none⟩ (.string s)).setCell ⟨w.heap.size + 1, 4, none⟩ (.slice ai2 j c2)).setCell ⟨w.heap.size + 1, 5, none⟩ (.slice a1 m d1)) = WF at *
          obtain ⟨q0, q1, q2, q3, q4, q5⟩ := BX.cells
          refine bodyPost_ret (v := .agg #[.int .i64 k, .int .i64 x, .int .u64 (b : Int), .string s, .slice ai2 j c2, .slice a1 m d1]) (by simp [results, Tryz.results5, go_sem, q0, q1, q2, q3, q4, q5]) rfl ?_
          exact ⟨_, rfl, HLI.out.on fun q hq => ⟨⟨hq.1.1, by rw [WR.size]; exact hq.1.2⟩, WR.block q hq.2⟩, WR.below hbr (by omega)⟩
end Go.Proofs.YtboalkfagfgnpaaGreatDoor
/-
  THE ROW's READING OF A VALUE IS A TREE THAT LIES IN MEMORY; if its bulk is small, no list of it is long.
-/
namespace Go.Proofs.YtboalkfagfgnpaaGreatDoor
open Go.ChangeShapes Go.WideShapes Go.ChangeAt Go.RowKit

theorem Rd.pos {H : Type} (d : DataW H) : 1 ≤ Rows.uptoBulk d := by
  cases d with
  | lit l => cases l <;> simp [Rows.uptoBulk]
  | _ => simp [Rows.uptoBulk]
theorem Rd.part {H : Type} : ∀ (l : List (DataW H)) (i : Nat) (d : DataW H), l[i]? = some d → Rows.uptoBulk d ≤ Rows.uptoBulkAll l
  | [], i, d, h => by simp at h
  | x :: r, 0, d, h => by simp at h; subst h; simp [Rows.uptoBulkAll]
  | x :: r, i + 1, d, h => by
    have := Rd.part r i d (by simpa using h)
    simp only [Rows.uptoBulkAll]
    omega
theorem Rd.len {H : Type} : ∀ (l : List (DataW H)), l.length ≤ Rows.uptoBulkAll l
  | [] => by simp
  | x :: r => by
    have := Rd.len r
    have := Rd.pos x
    simp only [Rows.uptoBulkAll, List.length_cons]
    omega
theorem Rd.one3 : Tryz.prog.cellsOf 3 = 1 := by kernel_rfl
theorem Rd.one22 : Tryz.prog.cellsOf 22 = 1 := by kernel_rfl
theorem Rd.one9 : Tryz.prog.cellsOf 9 = 1 := by kernel_rfl
theorem Rd.one23 : Tryz.prog.cellsOf 23 = 1 := by kernel_rfl
theorem Rd.one24 : Tryz.prog.cellsOf 24 = 1 := by kernel_rfl
theorem Rd.six : Tryz.prog.cellsOf 26 = 6 := by kernel_rfl

/-- a row of texts -/
theorem Rd.keys {H : Type} {enc : TypeId × Value → H} {W : World} {base : Nat} {spare : Nat → Bool} {held : Bool} {fuel : Nat} {v : Value} {x : DataW H × List MemPlace} (h : DataW.trod enc Tryz.prog W base spare held fuel 24 [v] = some x) :
    ∃ (m : Nat) (ks : Nat → ByteArray) (ak : Option Addr) (d : Nat), v = .slice ak m d ∧ Vt.Keys W (· < W.heap.size) m ks ak d ∧ m ≤ Rows.uptoBulk x.1 := by
  rcases Deep.open_strs Tryz.underlying24 Tryz.underlying9 Rd.one9 h with ⟨hc, rfl⟩ | ⟨a, len, cap, m, Sx, hc, hb, hl, hm, hmm, rfl, hx⟩
  · simp at hc
    exact ⟨0, fun _ => ⟨#[]⟩, none, 0, hc, ⟨Nat.le_refl _, by decide, fun j hj => absurd hj (by omega)⟩, Nat.zero_le _⟩
  · simp at hc
    have hlm : len ≤ m := by rw [hmm]; split <;> omega
    refine ⟨len, Sx, some a, cap, hc, ⟨hl, hm, fun j hj => ?_⟩, ?_⟩
    · obtain ⟨b, o, spot⟩ := a
      have hcell := (hx j (by omega)).1
      have hspot : spot = none := by simpa [Addr.add] using World.cell?_spot (hx 0 (by omega)).1
      subst hspot
      rw [Vc.add] at hcell
      exact ⟨b, o, rfl, Vt.cell_lt hcell, hcell⟩
    · have := Rd.len ((List.range len).map fun i => (DataW.lit (.string (Sx i).data.toList) : DataW H))
      simp only [List.length_map, List.length_range] at this
      simp only [Rows.uptoBulk]
      omega

set_option maxRecDepth 100000 in
theorem Rd.value {H : Type} {enc : TypeId × Value → H} {W : World} {base : Nat} {spare : Nat → Bool} {held : Bool} : ∀ (fuel : Nat) (cs : List Value) (x : DataW H × List MemPlace), DataW.trod enc Tryz.prog W base spare held fuel 26 cs = some x →
    ∃ t : Vt, t.Lies W (· < W.heap.size) (.agg cs.toArray) ∧ (Rows.uptoBulk x.1 ≤ 1048576 → t.modest) := by
  intro fuel
  induction fuel using Nat.strongRecOn with
  | _ fuel ih =>
    intro cs x h
    obtain ⟨xs, n, rfl, rfl, hl, hlen, hf⟩ := DataW.trod_struct Tryz.underlying26 h
    rw [Rd.six] at hl
    match cs, hl with
    | [v0, v1, v2, v3, v4, v5], _ =>
    match xs, hlen with
    | [y0, y1, y2, y3, y4, y5], _ =>
      have g0 : DataW.trod enc Tryz.prog W base spare held n 3 [v0] = some y0 := by simpa [Rd.one3] using hf 0 _ rfl
      have g1 : DataW.trod enc Tryz.prog W base spare held n 3 [v1] = some y1 := by simpa [Rd.one3] using hf 1 _ rfl
      have g2 : DataW.trod enc Tryz.prog W base spare held n 22 [v2] = some y2 := by simpa [Rd.one22] using hf 2 _ rfl
      have g3 : DataW.trod enc Tryz.prog W base spare held n 9 [v3] = some y3 := by simpa [Rd.one9] using hf 3 _ rfl
      have g4 : DataW.trod enc Tryz.prog W base spare held n 23 [v4] = some y4 := by simpa [Rd.one23] using hf 4 _ rfl
      have g5 : DataW.trod enc Tryz.prog W base spare held n 24 [v5] = some y5 := by simpa [Rd.one24] using hf 5 _ rfl
      obtain ⟨k, e0, _, _⟩ := DataW.trod_int Tryz.underlying3 g0
      obtain ⟨z, e1, _, _⟩ := DataW.trod_int Tryz.underlying3 g1
      obtain ⟨bb, e2, _, hb⟩ := DataW.trod_int Tryz.underlying22 g2
      obtain ⟨s, e3, _, _⟩ := DataW.trod_string Tryz.underlying9 g3
      obtain ⟨m, ks, ak, dk, e5, hK, hKb⟩ := Rd.keys g5
      obtain ⟨b, rfl, hbl⟩ := Fr.u64 hb
      simp only [List.cons.injEq, and_true] at e0 e1 e2 e3
      subst e0 e1 e2 e3 e5
      have hall : Rows.uptoBulk (DataW.agg (List.map (fun x => x.fst) [y0, y1, y2, y3, y4, y5])) = Rows.uptoBulk y0.1 + (Rows.uptoBulk y1.1 + (Rows.uptoBulk y2.1 + (Rows.uptoBulk y3.1 + (Rows.uptoBulk y4.1 + (Rows.uptoBulk y5.1 + 0))))) + 1 := by simp [Rows.uptoBulk, Rows.uptoBulkAll]
      rw [hall]
      rcases DataW.trod_slice Tryz.underlying23 g4 with ⟨e4, _⟩ | ⟨a, len, cap, elems, rest, n', rfl, e4, hx4, _, hlc, hcm, hel, hget, _, _⟩
      · simp only [List.cons.injEq, and_true] at e4
        subst e4
        exact ⟨.mk k z b s 0 (fun _ => .nil) m ks, ⟨none, 0, ak, dk, rfl, hbl, Nat.le_refl _, by decide, hK, fun i hi => absurd hi (by omega)⟩, fun hbk => ⟨by omega, by omega, fun i hi => absurd hi (by omega)⟩⟩
      · simp only [List.cons.injEq, and_true] at e4
        subst e4
        have spot0 : 0 < len → a.spot = none := by
          intro h0
          have hg := hget 0 h0
          rw [Rd.six, List.getElem?_eq_getElem (by omega)] at hg
          cases hcs : W.cells? base (a.add (0 * 6)) 6 with
          | none => rw [hcs] at hg; cases hg
          | some cs' =>
            obtain ⟨_, hl6, hcell⟩ := World.cells?_some hcs
            match cs', hl6 with
            | [v0, v1, v2, v3, v4, v5], _ => simpa [Addr.add] using World.cell?_spot (hcell 0 (by decide))
        have each : ∀ i, i < len → ∃ (t : Vt) (v0 v1 v2 v3 v4 v5 : Value) (b o : Nat), a = ⟨b, o, none⟩ ∧ b < W.heap.size ∧ W.cell? ⟨b, o + i * 6, none⟩ = some v0 ∧ W.cell? ⟨b, o + i * 6 + 1, none⟩ = some v1 ∧ W.cell? ⟨b, o + i * 6 + 2, none⟩ = some v2 ∧ W.cell? ⟨b, o + i * 6 + 3, none⟩ = some v3 ∧ W.cell? ⟨b, o + i * 6 + 4, none⟩ = some v4 ∧ W.cell? ⟨b, o + i * 6 + 5, none⟩ = some v5 ∧ t.Lies W (· < W.heap.size) (.agg #[v0, v1, v2, v3, v4, v5]) ∧ (Rows.uptoBulk y4.1 ≤ 1048576 → t.modest) := by
          intro i hi
          have hg := hget i hi
          rw [Rd.six, List.getElem?_eq_getElem (by omega)] at hg
          cases hcs : W.cells? base (a.add (i * 6)) 6 with
          | none => rw [hcs] at hg; cases hg
          | some cs' =>
            rw [hcs] at hg
            obtain ⟨t, ht, htm⟩ := ih n' (by omega) cs' _ hg
            obtain ⟨_, hl6, hcell⟩ := World.cells?_some hcs
            match cs', hl6 with
            | [v0, v1, v2, v3, v4, v5], _ =>
              obtain ⟨b, o, spot⟩ := a
              have hspot : spot = none := spot0 (by omega)
              subst hspot
              have hc : ∀ r, r < 6 → W.cell? ⟨b, o + i * 6 + r, none⟩ = [v0, v1, v2, v3, v4, v5][r]? := fun r hr => by
                have := hcell r hr
                rw [Vc.add, Vc.add] at this
                exact this
              refine ⟨t, v0, v1, v2, v3, v4, v5, b, o, rfl, ?_, hc 0 (by decide), hc 1 (by decide), hc 2 (by decide), hc 3 (by decide), hc 4 (by decide), hc 5 (by decide), ht, fun hbk => htm ?_⟩
              · exact Vt.cell_lt (hc 0 (by decide))
              · have hp := Rd.part (elems.map (fun x => x.fst)) i (elems[i]'(by omega)).1 (by rw [List.getElem?_map, List.getElem?_eq_getElem (by omega)]; rfl)
                rw [hx4] at hbk
                simp only [Rows.uptoBulk] at hbk
                omega
        refine ⟨.mk k z b s len (fun i => if hi : i < len then Classical.choose (each i hi) else .nil) m ks, ⟨some a, cap, ak, dk, rfl, hbl, hlc, hcm, hK, fun i hi => ?_⟩, fun hbk => ⟨?_, by omega, fun i hi => ?_⟩⟩
        · obtain ⟨v0, v1, v2, v3, v4, v5, b', o', e, hb', c0, c1, c2, c3, c4, c5, hl, _⟩ := Classical.choose_spec (each i hi)
          refine ⟨b', o', v0, v1, v2, v3, v4, v5, by rw [e], hb', c0, c1, c2, c3, c4, c5, ?_⟩
          dsimp only
          rw [dif_pos hi]
          exact hl
        · have h1 := Rd.len (elems.map (fun x => x.fst))
          rw [List.length_map, hel] at h1
          have h2 : Rows.uptoBulk y4.1 = Rows.uptoBulkAll (elems.map (fun x => x.fst)) + Rows.uptoBulkAll (rest.map (fun x => x.fst)) + 1 := by rw [hx4]; simp [Rows.uptoBulk]
          omega
        · dsimp only
          rw [dif_pos hi]
          obtain ⟨v0, v1, v2, v3, v4, v5, b', o', e, hb', c0, c1, c2, c3, c4, c5, hl, hmd⟩ := Classical.choose_spec (each i hi)
          exact hmd (by omega)
end Go.Proofs.YtboalkfagfgnpaaGreatDoor
