/-
  THE WALK of stolelaw0.CopyValue at lists of any size that a machine holds.
-/
import Derived.Test.YtboalkfagfgnpaaGreatDoorCVPlain2toVRead
import Derived.Test.YtboalkfagfgnpaaGreatDoorCShelftoSign
namespace Go.Proofs.YtboalkfagfgnpaaGreatDoor
open Go.RowKit

/-- each list of the tree lies below 2^47 bytes -/
def Vt.sized : Vt → Prop
  | .nil => True
  | .mk _ _ _ _ n it m _ => n * 88 ≤ 140737488355328 ∧ m * 16 ≤ 140737488355328 ∧ ∀ i, i < n → (it i).sized
/-- 'append([]string{}, xs...)': the texts of xs, in a row of its own -/
theorem Vc.appendW {w : World} {ops : Array Oper} {rest : List Oper} {o : Oper} {a : Act} {Q : Exit → Act → World → Prop} (hgd : o.guard = none) (s x : Operand)
    (ho : o.op = .call { callee := .builtin .append, args := #[s, x], argTypes := #[24, 24] })
    (base g : Nat) (hs : a.eval s = .slice (some ⟨g, 0, none⟩) 0 0) (hown : w.ownsRow base 9 1 (.slice (some ⟨g, 0, none⟩) 0 0) 0 [])
    (m : Nat) (ks : Nat → ByteArray) (ak : Option Addr) (d : Nat) (hx : a.eval x = .slice ak m d) (hk : ∀ j u, (Vc.texts m ks)[j]? = some u → ∃ ad, ak = some ad ∧ w.cell? (ad.add j) = some u)
    (hm : m * 16 ≤ 140737488355328) (hbase : base ≤ w.heap.size)
    (h : ∀ v' w', w'.ownsRow base 9 1 v' m (Vc.texts m ks) → w.grownBy w' (some g) → wpList Tryz.prog ops Q rest (a.put o.dst v') w') : wpList Tryz.prog ops Q (o :: rest) a w := by
  obtain ⟨iS, hiS, hzS, hsS, hbS⟩ := info_parts Vc.infoS
  by_cases h0 : m = 0
  · subst h0
    refine wpList_plain hgd fun K hK => ?_
    have hrun := Vc.run0' Tryz.prog w 24 o.type 9 iS Tryz.underlying24 hiS g ak d
    have h2 := h (.slice (some ⟨g, 0, none⟩) 0 0) w hown ⟨rfl, rfl, rfl, Nat.le_refl _, fun _ _ _ => rfl⟩
    unfold Oper.wp
    simp [execOp, ho, resolve, invoke, builtin, hs, hx, hrun, Result.andThen]
    exact hK _ _ h2
  · have hp : 0 < (Vc.texts m ks).length := by rw [Vc.texts_length]; omega
    obtain ⟨ad, rfl, _⟩ := hk 0 _ (List.getElem?_eq_getElem hp)
    refine wpList_append_own _ hgd s x 24 ho base 9 iS _ 1 16 Tryz.underlying24 hiS hzS hsS hbS rfl (by decide) (.slice (some ⟨g, 0, none⟩) 0 0) 0 [] hs hown ad m d (Vc.texts m ks) hx (Vc.texts_length m ks) (fun j u hj => ?_) (Vc.texts_one m ks) (by unfold maxLen; omega) (by omega) hbase (fun v' w' r gr _ => ?_)
    · obtain ⟨ad', e', hc⟩ := hk j u hj
      cases e'
      exact hc
    · rw [Nat.zero_add, List.nil_append] at r
      exact h v' w' r gr

set_option maxRecDepth 100000 in
set_option maxHeartbeats 8000000 in
theorem Cv.copyW : ∀ (t : Vt), t.sized → ∀ (e : Nat) (v : Value) (w : World), e ≤ 40 → t.Lies w (· < w.heap.size) v →
    Calls Tryz.prog 5 #[v, .int .i64 (e : Int)] w fun r w' => ∃ v', r = .returned v' ∧ (Vt.cut e t).Lies w' (fun k => w.heap.size ≤ k ∧ k < w'.heap.size) v' ∧ Below w.heap.size w w' := by
  intro t
  induction t with
  | nil => intro _ e v w _ h; exact h.elim
  | mk k x b s n it m ks ih =>
    intro ht e v w he h
    have H := Lib.hid h
    obtain ⟨ai, c, ak, d, rfl, hb, hn, hc, hk, hi⟩ := h
    obtain ⟨ht1, ht2, ht3⟩ := ht
    have HI : Hid (∀ i, (it i).sized → ∀ (e : Nat) (v : Value) (w : World), e ≤ 40 → (it i).Lies w (· < w.heap.size) v →
      Calls Tryz.prog 5 #[v, .int .i64 (e : Int)] w fun r w' => ∃ v', r = .returned v' ∧ (Vt.cut e (it i)).Lies w' (fun k => w.heap.size ≤ k ∧ k < w'.heap.size) v' ∧ Below w.heap.size w w') := ih
    have HK := Lib.hid hk
    have HT3 := Lib.hid ht3
    have HRT := Lib.hid (Cv.root e k x b s n it m ks)
    clear ih hk hi ht3
    have hmk : ∀ o o' o'' o3, Hid (∀ j u, (Vc.texts m ks)[j]? = some u → ∃ ad, ak = some ad ∧ ((((w.alloc o).alloc o').alloc o'').alloc o3).cell? (ad.add j) = some u) := fun o o' o'' o3 => Vc.texts_cell HK.out (((((Below.refl _ _).alloc (Nat.le_refl _) o).alloc (by simp) o').alloc (by simp; omega) o'').alloc (by simp; omega) o3)
    go_enter Tryz.func5, Tryz.ntmps5
    go_wp2_with (at_builtin; refine Vc.appendW rfl _ _ rfl (w.heap.size + 3) (w.heap.size + 3) rfl (by have := Vc.empty (((w.alloc (.cells #[.int .i64 k, .int .i64 x, .int .u64 (b : Int), .string s, .slice ai n c, .slice ak m d] 26)).alloc (.cells #[.int .i64 0, .int .i64 0, .int .u64 0, .string ⟨#[]⟩, .slice none 0 0, .slice none 0 0] 26)).alloc (.cells #[.int .i64 k, .int .i64 x, .int .u64 (b : Int), .string s, .slice ai n c, .slice ak m d] 26)) (w.heap.size + 3) (by simp); simpa using this) m ks ak d rfl (hmk _ _ _ _).out ht2 (by simp) ?_)
    intro v1 w1 hown1 hgr1
    obtain ⟨a1, d1, rfl, hK1⟩ := Vc.keysOf hown1
    have hkeep : ∀ q, q < w.heap.size + 3 → w1.heap[q]? = (((w.alloc (.cells #[.int .i64 k, .int .i64 x, .int .u64 (b : Int), .string s, .slice ai n c, .slice ak m d] 26)).alloc (.cells #[.int .i64 0, .int .i64 0, .int .u64 0, .string ⟨#[]⟩, .slice none 0 0, .slice none 0 0] 26)).alloc (.cells #[.int .i64 k, .int .i64 x, .int .u64 (b : Int), .string s, .slice ai n c, .slice ak m d] 26)).heap[q]? := fun q hq => by
      rw [hgr1.block q (by simp; omega) (fun e => by have := Option.some.inj e; omega), Below.heap_alloc _ _ _ (by simp; omega)]
    have hb1 : Below w.heap.size w w1 := ((((((Below.refl w.heap.size w).alloc (Nat.le_refl _) (.cells #[.int .i64 k, .int .i64 x, .int .u64 (b : Int), .string s, .slice ai n c, .slice ak m d] 26)).alloc (by simp) (.cells #[.int .i64 0, .int .i64 0, .int .u64 0, .string ⟨#[]⟩, .slice none 0 0, .slice none 0 0] 26)).alloc (by simp; omega) (.cells #[.int .i64 k, .int .i64 x, .int .u64 (b : Int), .string s, .slice ai n c, .slice ak m d] 26)).alloc (by simp; omega) (.cells #[] 9))).grown hgr1 (by simp; omega) (fun k hk => by cases hk; omega)
    have hs1 : w.heap.size + 4 ≤ w1.heap.size := by have := hgr1.size; simp at this; omega
    have BA : Vm.Box w1 w.heap.size (.int .i64 k) (.int .i64 x) (.int .u64 (b : Int)) (.string s) (.slice ai n c) (.slice ak m d) := ⟨(hkeep _ (by omega)).trans (((Vm.Has.new w (.cells #[.int .i64 k, .int .i64 x, .int .u64 (b : Int), .string s, .slice ai n c, .slice ak m d] 26) _ rfl).alloc _).alloc _)⟩
    have BR : Vm.Box w1 (w.heap.size + 1) (.int .i64 0) (.int .i64 0) (.int .u64 0) (.string ⟨#[]⟩) (.slice none 0 0) (.slice none 0 0) := ⟨(hkeep _ (by omega)).trans ((Vm.Has.new (w.alloc (.cells #[.int .i64 k, .int .i64 x, .int .u64 (b : Int), .string s, .slice ai n c, .slice ak m d] 26)) (.cells #[.int .i64 0, .int .i64 0, .int .u64 0, .string ⟨#[]⟩, .slice none 0 0, .slice none 0 0] 26) _ (by simp)).alloc _)⟩
    have BB : Vm.Box w1 (w.heap.size + 1 + 1) (.int .i64 k) (.int .i64 x) (.int .u64 (b : Int)) (.string s) (.slice ai n c) (.slice ak m d) := ⟨(hkeep _ (by omega)).trans (Vm.Has.new ((w.alloc (.cells #[.int .i64 k, .int .i64 x, .int .u64 (b : Int), .string s, .slice ai n c, .slice ak m d] 26)).alloc (.cells #[.int .i64 0, .int .i64 0, .int .u64 0, .string ⟨#[]⟩, .slice none 0 0, .slice none 0 0] 26)) (.cells #[.int .i64 k, .int .i64 x, .int .u64 (b : Int), .string s, .slice ai n c, .slice ak m d] 26) _ (by simp))⟩
    clear hkeep hown1 hgr1 hmk
    have c5 := BB.cells.2.2.2.2.2
    have c4 := BB.cells.2.2.2.2.1
    have ff := fun i => BB.frozen i
    have HBA := Lib.hid BA
    have HBR := Lib.hid BR
    have HBB := Lib.hid BB
    have HK1 := Lib.hid hK1
    clear BA BR BB hK1
    go_wp2_with fail
    clear c5 c4 ff
    have BA := ((HBA.out.other (show w.heap.size ≠ w.heap.size + 1 + 1 by omega) 5 (.slice a1 m d1)).other (show w.heap.size ≠ w.heap.size + 1 + 1 by omega) 4 (.slice none 0 0))
    have BR := ((HBR.out.other (show w.heap.size + 1 ≠ w.heap.size + 1 + 1 by omega) 5 (.slice a1 m d1)).other (show w.heap.size + 1 ≠ w.heap.size + 1 + 1 by omega) 4 (.slice none 0 0))
    have BB := (HBB.out.set5 (.slice a1 m d1)).set4 (.slice none 0 0)
    have hbW := (hb1.setCell (p := ⟨w.heap.size + 1 + 1, 5, none⟩) (by simp; omega) (.slice a1 m d1)).setCell (p := ⟨w.heap.size + 1 + 1, 4, none⟩) (by simp; omega) (.slice none 0 0)
    have KW : Vt.Keys ((w1.setCell ⟨w.heap.size + 1 + 1, 5, none⟩ (.slice a1 m d1)).setCell ⟨w.heap.size + 1 + 1, 4, none⟩ (.slice none 0 0)) (fun q => w.heap.size + 3 ≤ q ∧ q < w1.heap.size) m ks a1 d1 := HK1.out.on fun q hq => ⟨hq, by rw [Below.heap_setCell _ _ _ _ (by simp; omega), Below.heap_setCell _ _ _ _ (by simp; omega)]⟩
    have hsW : ((w1.setCell ⟨w.heap.size + 1 + 1, 5, none⟩ (.slice a1 m d1)).setCell ⟨w.heap.size + 1 + 1, 4, none⟩ (.slice none 0 0)).heap.size = w1.heap.size := by simp
    generalize (w1.setCell ⟨w.heap.size + 1 + 1, 5, none⟩ (.slice a1 m d1)).setCell ⟨w.heap.size + 1 + 1, 4, none⟩ (.slice none 0 0) = W at *
    have hgB : w.heap.size + 1 + 1 < W.heap.size := by omega
    have HQB : Hid (¬ W.heap.size ≤ w.heap.size + 1 + 1) := by unfold Hid; omega
    have hnm : n ≤ 9223372036854775807 := by omega
    clear HBA HBR HBB
    have HBA := Lib.hid BA
    have HBR := Lib.hid BR
    have HKW := Lib.hid KW
    have HBW := Lib.hid hbW
    clear BA BR KW hbW hb1 HK1
    go_loopw [6] (fun ix wr => ∃ j : Nat, (j ≤ n ∧ (e = 0 → j = 0)) ∧ ix = .int .i64 (j : Int) ∧ Vr.Lo W wr (w.heap.size + 1 + 1) ∧ ∃ ai2 c2, Vm.Box wr (w.heap.size + 1 + 1) (.int .i64 k) (.int .i64 x) (.int .u64 (b : Int)) (.string s) (.slice ai2 j c2) (.slice a1 m d1) ∧ Vr.Row (fun q => W.heap.size ≤ q) W.heap.size (fun i => if e = 0 then .nil else Vt.cut (e - 1) (it i)) j wr (.slice ai2 j c2)) (fun ix _ => n - (intOf ix).toNat)
    case atStart => exact ⟨0, ⟨Nat.zero_le _, fun _ => rfl⟩, by go_num, Vr.Lo.refl _ _, _, _, BB, Vr.Row.nil _ _ _ _⟩
    case round =>
      obtain ⟨j, ⟨hjn, hje⟩, rfl, hL, ai2, c2, hB, hRow⟩ := hrel
      clear BB
      have BA : Vm.Box wr w.heap.size _ _ _ _ _ _ := ⟨(hL.block _ (by omega) (by omega)).trans HBA.out.all⟩
      have BR : Vm.Box wr (w.heap.size + 1) _ _ _ _ _ _ := ⟨(hL.block _ (by omega) (by omega)).trans HBR.out.all⟩
      have hbr := hL.below HBW.out (show w.heap.size ≤ w.heap.size + 1 + 1 by omega)
      have c4 := BA.cells.2.2.2.2.1
      by_cases hgo : j < n ∧ 0 < e
      · obtain ⟨hlt, hpos⟩ := hgo
        have dj : decide ((j : Int) < (n : Int)) = true := decide_eq_true (by omega)
        have de : decide ((0 : Int) < (e : Int)) = true := decide_eq_true (by omega)
        obtain ⟨E, hE, hE1⟩ : ∃ E : Nat, (e : Int) - 1 = (E : Int) ∧ E = e - 1 := ⟨e - 1, by omega, rfl⟩
        have hEw : IntKind.i64.wrap (E : Int) = E := by rw [IntKind.wrap_i64]; omega
        have HE1 := Lib.hid hE1
        have HE40 : Hid (E ≤ 40) := by unfold Hid; omega
        obtain ⟨bi, oi, v0, v1, v2, v3, v4, v5, rfl, hbi, y0, y1, y2, y3, y4, y5, hli0⟩ := (H.out.keys).2.2 j hlt
        have hli := hli0.on' hbr
        have hbl := hbr.block bi hbi
        replace y0 := Vt.cell_on hbl y0
        replace y1 := Vt.cell_on hbl y1
        replace y2 := Vt.cell_on hbl y2
        replace y3 := Vt.cell_on hbl y3
        replace y4 := Vt.cell_on hbl y4
        replace y5 := Vt.cell_on hbl y5
        clear hli0 hbl
        have hjc : j < c := Nat.lt_of_lt_of_le hlt hn
        obtain ⟨k', x', b', s', ai', n', c', ak', m', d', rfl, rfl, rfl, rfl, rfl, rfl⟩ := hli.cells
        have HLI := Lib.hid hli.drew
        have HMJ := Lib.hid (HT3.out j hlt)
        have HN0 : Hid (¬ e = 0) := by unfold Hid; omega
        have z4 := hB.cells.2.2.2.2.1
        have HB := Lib.hid hB
        have HRow := Lib.hid hRow
        have HL := Lib.hid hL
        have hn1 : (j + 1) * 88 ≤ 140737488355328 := by omega
        have HN1 := Lib.hid hn1
        clear hn1 hli hB hRow hL hbr hE1 BA BR hje hpos ht1 ht2 hs1
        go_wp2_with fail
        have nB1 : w.heap.size + 1 + 1 ≠ w.heap.size := by omega
        have nB2 : w.heap.size + 1 + 1 ≠ bi := by omega
        go_region_law (first | (refine Vr.step_push rfl (.tmp 26) (.tmp 35) rfl (.slice ai2 j c2) (by simp [Act.eval]) (HR3.out.alloc hgB HQB.out _) w3.heap.size k3 x3 b3 s3 ai3 n3 c3 ak3 m3 d3 (by simp [Act.eval]) (Vm.Has.new w3 _ _ rfl) (HLC3.out _) HN1.out (by have := HL3.out.size; simp; omega) ?_; intro v' w4 R4 hb4; obtain ⟨a4, d4, rfl, _, _⟩ := R4.form; have B4 : Vm.Box w4 (w.heap.size + 1 + 1) _ _ _ _ _ _ := ⟨(hb4.block (w.heap.size + 1 + 1) hgB).trans (HB3.out.alloc HB3.out.lt _).all⟩; have cc4 := B4.cells.2.2.2.2.1; have f4 := B4.frozen 4; have HB4 := Lib.hid B4; have HR4 := Lib.hid R4; have HL4 := Lib.hid hb4; clear B4 R4 hb4) | (rw [if_pos (by simp [Region.wanted])]; go_simp; go_at_call 5; refine (HI.out j HMJ.out E _ _ HE40.out HLI.out).mono ?_; rintro r w3 ⟨v', rfl, hl3, hb'⟩; obtain ⟨k3, x3, b3, s3, ai3, n3, c3, ak3, m3, d3, rfl⟩ := hl3.form; replace hb' := Vs.back hb'; have B3 := HB.out.on HB.out.lt hb'; have R3 := HRow.out.then hgB HQB.out hb'; have L3 := HL.out.on hb'; have c3z := B3.cells.2.2.2.2.1; have c3a := fun o => (B3.alloc B3.lt o).cells.2.2.2.2.1; have HLC3 : Hid (∀ o, (if e = 0 then Vt.nil else Vt.cut (e - 1) (it j)).Lies (w3.alloc o) (fun q => W.heap.size ≤ q ∧ q < (w3.alloc o).heap.size ∧ (Value.slice ai2 j c2).ownBlock ≠ some q) (.agg #[.int .i64 k3, .int .i64 x3, .int .u64 (b3 : Int), .string s3, .slice ai3 n3 c3, .slice ak3 m3 d3])) := (fun o => by rw [if_neg HN0.out, ← HE1.out]; exact hl3.on fun q hq => ⟨⟨Nat.le_trans HL.out.size hq.1, by simp; omega, HRow.out.ne' hq.1⟩, Below.heap_alloc _ _ _ hq.2⟩); have HB3 := Lib.hid B3; have HR3 := Lib.hid R3; have HL3 := Lib.hid L3; clear B3 R3 L3 hb' hl3))
        all_goals go_wp2
        all_goals refine ⟨⟨j + 1, ⟨hlt, fun h0 => absurd h0 HN0.out⟩, by go_num, ((HL3.out.alloc _).low HL4.out).set 4 _, _, _, HB4.out.set4 _, HR4.out.set hgB HQB.out 4 _⟩, ?_⟩
        all_goals simp [intOf]
        all_goals omega
      · have hj : j = (if e = 0 then 0 else n) := by
          split
          · next h0 => exact hje h0
          · omega
        have hLies : (Vt.cut e (.mk k x b s n it m ks)).Lies wr (fun q => (w.heap.size ≤ q ∧ q < wr.heap.size) ∧ q ≠ w.heap.size + 1) (.agg #[.int .i64 k, .int .i64 x, .int .u64 (b : Int), .string s, .slice ai2 j c2, .slice a1 m d1]) := by
          rw [HRT.out, ← hj]
          exact hRow.lies (fun q h1 h2 => ⟨⟨by omega, h2⟩, by omega⟩) (fun q h1 h2 => ⟨⟨by omega, h2⟩, by omega⟩) k x b s hb m ks a1 d1 (HKW.out.on fun q hq => ⟨⟨⟨by omega, by have := hL.size; omega⟩, by omega⟩, hL.block q (by omega) (by omega)⟩)
        obtain ⟨z0, z1, z2, z3, z4, z5⟩ := hB.cells
        obtain ⟨r0, r1, r2, r3, r4, r5⟩ := BR.cells
        have f0 := BR.frozen
        have HR := Lib.hid BR
        have HLI := Lib.hid hLies
        have hjl' : ¬ j < n ∨ ¬ 0 < e := by omega
        clear hLies hRow hB BR BA hL hj hgo hje
        by_cases hjl : j < n
        · have dj : decide ((j : Int) < (n : Int)) = true := decide_eq_true (by omega)
          have de : decide ((0 : Int) < (e : Int)) = false := decide_eq_false (by omega)
          go_wp2
          have WR := Vm.set6 wr (w.heap.size + 1) 0 (.int .i64 k) (.int .i64 x) (.int .u64 (b : Int)) (.string s) (.slice ai2 j c2) (.slice a1 m d1)
          have BX : Vm.Box _ (w.heap.size + 1) (.int .i64 k) (.int .i64 x) (.int .u64 (b : Int)) (.string s) (.slice ai2 j c2) (.slice a1 m d1) := ⟨Vm.set6_row HR.out.all 0 (.int .i64 k) (.int .i64 x) (.int .u64 (b : Int)) (.string s) (.slice ai2 j c2) (.slice a1 m d1)⟩
          simp only [Nat.zero_add] at WR BX
          generalize ((((((wr.setCell ⟨w.heap.size + 1, 0, none⟩ (.int .i64 k)).setCell ⟨w.heap.size + 1, 1, none⟩ (.int .i64 x)).setCell ⟨w.heap.size + 1, 2, none⟩ (.int .u64 (b : Int))).setCell ⟨w.heap.size + 1, 3, none⟩ (.string s)).setCell ⟨w.heap.size + 1, 4, none⟩ (.slice ai2 j c2)).setCell ⟨w.heap.size + 1, 5, none⟩ (.slice a1 m d1)) = WF at *
          obtain ⟨q0, q1, q2, q3, q4, q5⟩ := BX.cells
          refine bodyPost_ret (v := .agg #[.int .i64 k, .int .i64 x, .int .u64 (b : Int), .string s, .slice ai2 j c2, .slice a1 m d1]) (by simp [results, Tryz.results5, go_sem, q0, q1, q2, q3, q4, q5]) rfl ?_
          exact ⟨_, rfl, HLI.out.on fun q hq => ⟨⟨hq.1.1, by rw [WR.size]; exact hq.1.2⟩, WR.block q hq.2⟩, WR.below hbr (by omega)⟩
        · have dj : decide ((j : Int) < (n : Int)) = false := decide_eq_false (by omega)
          go_wp2
          have WR := Vm.set6 wr (w.heap.size + 1) 0 (.int .i64 k) (.int .i64 x) (.int .u64 (b : Int)) (.string s) (.slice ai2 j c2) (.slice a1 m d1)
          have BX : Vm.Box _ (w.heap.size + 1) (.int .i64 k) (.int .i64 x) (.int .u64 (b : Int)) (.string s) (.slice ai2 j c2) (.slice a1 m d1) := ⟨Vm.set6_row HR.out.all 0 (.int .i64 k) (.int .i64 x) (.int .u64 (b : Int)) (.string s) (.slice ai2 j c2) (.slice a1 m d1)⟩
          simp only [Nat.zero_add] at WR BX
          generalize ((((((wr.setCell ⟨w.heap.size + 1, 0, none⟩ (.int .i64 k)).setCell ⟨w.heap.size + 1, 1, none⟩ (.int .i64 x)).setCell ⟨w.heap.size + 1, 2, none⟩ (.int .u64 (b : Int))).setCell ⟨w.heap.size + 1, 3, none⟩ (.string s)).setCell ⟨w.heap.size + 1, 4, none⟩ (.slice ai2 j c2)).setCell ⟨w.heap.size + 1, 5, none⟩ (.slice a1 m d1)) = WF at *
          obtain ⟨q0, q1, q2, q3, q4, q5⟩ := BX.cells
          refine bodyPost_ret (v := .agg #[.int .i64 k, .int .i64 x, .int .u64 (b : Int), .string s, .slice ai2 j c2, .slice a1 m d1]) (by simp [results, Tryz.results5, go_sem, q0, q1, q2, q3, q4, q5]) rfl ?_
          exact ⟨_, rfl, HLI.out.on fun q hq => ⟨⟨hq.1.1, by rw [WR.size]; exact hq.1.2⟩, WR.block q hq.2⟩, WR.below hbr (by omega)⟩
end Go.Proofs.YtboalkfagfgnpaaGreatDoor
/-
  THE ROW's READING OF A VALUE IS A TREE THAT LIES IN MEMORY; if each list that is met lies within the form's reach, each of the tree's is below 2^47 bytes.
-/
namespace Go.Proofs.YtboalkfagfgnpaaGreatDoor
open Go.ChangeShapes Go.WideShapes Go.ChangeAt Go.RowKit
theorem Rd.bytesS : Tryz.prog.bytesOf 9 = 16 := by kernel_rfl
theorem Rd.bytesV : Tryz.prog.bytesOf 26 = 88 := by kernel_rfl
theorem Rd.wSlice {H : Type} {P : Program} {t e : TypeId} (ht : P.underlying t = some (.slice e)) (elems spare : List (DataW H)) : (elems.length + spare.length) * P.bytesOf e ∈ (DataW.slice elems spare).weights P t := by
  rw [DataW.weights, ht]
  exact List.mem_cons_self
theorem Rd.wAll {H : Type} {P : Program} {e : TypeId} : ∀ (l : List (DataW H)) (d : DataW H), d ∈ l → ∀ q ∈ d.weights P e, q ∈ DataW.weightsAll P e l
  | [], d, h => by cases h
  | x :: r, d, h => by
    intro q hq
    rw [DataW.weightsAll]
    rcases List.mem_cons.1 h with rfl | h
    · exact List.mem_append_left _ hq
    · exact List.mem_append_right _ (Rd.wAll r d h q hq)
theorem Rd.wElem {H : Type} {P : Program} {t e : TypeId} (ht : P.underlying t = some (.slice e)) (elems spare : List (DataW H)) (d : DataW H) (hd : d ∈ elems) : ∀ q ∈ d.weights P e, q ∈ (DataW.slice elems spare).weights P t := by
  intro q hq
  rw [DataW.weights, ht]
  exact List.mem_cons_of_mem _ (List.mem_append_left _ (Rd.wAll elems d hd q hq))
theorem Rd.wItems {H : Type} (a0 a1 a2 a3 a4 a5 : DataW H × List MemPlace) : ∀ q, (q ∈ a4.1.weights Tryz.prog 23 ∨ q ∈ a5.1.weights Tryz.prog 24) → q ∈ (DataW.agg (List.map (fun x => x.fst) [a0, a1, a2, a3, a4, a5])).weights Tryz.prog 26 := by
  intro q hq
  rw [DataW.weights, Tryz.underlying26]
  simp only [List.map_cons, List.map_nil, DataW.weightsEach, List.mem_append]
  rcases hq with hq | hq
  · exact .inr (.inr (.inr (.inr (.inl hq))))
  · exact .inr (.inr (.inr (.inr (.inr (.inl hq)))))
/-- a row of texts -/
theorem Rd.keysW {H : Type} {enc : TypeId × Value → H} {W : World} {base : Nat} {spare : Nat → Bool} {held : Bool} {fuel : Nat} {v : Value} {x : DataW H × List MemPlace} (h : DataW.trod enc Tryz.prog W base spare held fuel 24 [v] = some x) :
    ∃ (m : Nat) (ks : Nat → ByteArray) (ak : Option Addr) (d : Nat), v = .slice ak m d ∧ Vt.Keys W (· < W.heap.size) m ks ak d ∧ ((∀ q ∈ x.1.weights Tryz.prog 24, q ≤ reachBytes) → m * 16 ≤ 140737488355328) := by
  rcases Deep.open_strs Tryz.underlying24 Tryz.underlying9 Rd.one9 h with ⟨hc, rfl⟩ | ⟨a, len, cap, m, Sx, hc, hb, hl, hm, hmm, rfl, hx⟩
  · simp at hc
    exact ⟨0, fun _ => ⟨#[]⟩, none, 0, hc, ⟨Nat.le_refl _, by decide, fun j hj => absurd hj (by omega)⟩, fun _ => by omega⟩
  · simp at hc
    have hlm : len ≤ m := by rw [hmm]; split <;> omega
    refine ⟨len, Sx, some a, cap, hc, ⟨hl, hm, fun j hj => ?_⟩, ?_⟩
    · obtain ⟨b, o, spot⟩ := a
      have hcell := (hx j (by omega)).1
      have hspot : spot = none := by simpa [Addr.add] using World.cell?_spot (hx 0 (by omega)).1
      subst hspot
      rw [Vc.add] at hcell
      exact ⟨b, o, rfl, Vt.cell_lt hcell, hcell⟩
    · intro hq
      have h1 := hq _ (Rd.wSlice Tryz.underlying24 _ _)
      simp only [List.length_map, List.length_range] at h1
      have h2 : Tryz.prog.bytesOf 9 = 16 := Rd.bytesS
      rw [h2] at h1
      unfold reachBytes at h1
      omega
set_option maxRecDepth 100000 in
theorem Rd.valueW {H : Type} {enc : TypeId × Value → H} {W : World} {base : Nat} {spare : Nat → Bool} {held : Bool} : ∀ (fuel : Nat) (cs : List Value) (x : DataW H × List MemPlace), DataW.trod enc Tryz.prog W base spare held fuel 26 cs = some x →
    ∃ t : Vt, t.Lies W (· < W.heap.size) (.agg cs.toArray) ∧ ((∀ q ∈ x.1.weights Tryz.prog 26, q ≤ reachBytes) → t.sized) := by
  intro fuel
  induction fuel using Nat.strongRecOn with
  | _ fuel ih =>
    intro cs x h
    obtain ⟨xs, n, rfl, rfl, hl, hlen, hf⟩ := DataW.trod_struct Tryz.underlying26 h
    rw [Rd.six] at hl
    match cs, hl with
    | [v0, v1, v2, v3, v4, v5], _ =>
    match xs, hlen with
    | [y0, y1, y2, y3, y4, y5], _ =>
      have g0 : DataW.trod enc Tryz.prog W base spare held n 3 [v0] = some y0 := by simpa [Rd.one3] using hf 0 _ rfl
      have g1 : DataW.trod enc Tryz.prog W base spare held n 3 [v1] = some y1 := by simpa [Rd.one3] using hf 1 _ rfl
      have g2 : DataW.trod enc Tryz.prog W base spare held n 22 [v2] = some y2 := by simpa [Rd.one22] using hf 2 _ rfl
      have g3 : DataW.trod enc Tryz.prog W base spare held n 9 [v3] = some y3 := by simpa [Rd.one9] using hf 3 _ rfl
      have g4 : DataW.trod enc Tryz.prog W base spare held n 23 [v4] = some y4 := by simpa [Rd.one23] using hf 4 _ rfl
      have g5 : DataW.trod enc Tryz.prog W base spare held n 24 [v5] = some y5 := by simpa [Rd.one24] using hf 5 _ rfl
      obtain ⟨k, e0, _, _⟩ := DataW.trod_int Tryz.underlying3 g0
      obtain ⟨z, e1, _, _⟩ := DataW.trod_int Tryz.underlying3 g1
      obtain ⟨bb, e2, _, hb⟩ := DataW.trod_int Tryz.underlying22 g2
      obtain ⟨s, e3, _, _⟩ := DataW.trod_string Tryz.underlying9 g3
      obtain ⟨m, ks, ak, dk, e5, hK, hKb⟩ := Rd.keysW g5
      obtain ⟨b, rfl, hbl⟩ := Fr.u64 hb
      simp only [List.cons.injEq, and_true] at e0 e1 e2 e3
      subst e0 e1 e2 e3 e5
      have hw4 : (∀ q ∈ (DataW.agg (List.map (fun x => x.fst) [y0, y1, y2, y3, y4, y5])).weights Tryz.prog 26, q ≤ reachBytes) → ∀ q ∈ y4.1.weights Tryz.prog 23, q ≤ reachBytes := fun h q hq => h q (Rd.wItems _ _ _ _ _ _ q (.inl hq))
      have hw5 : (∀ q ∈ (DataW.agg (List.map (fun x => x.fst) [y0, y1, y2, y3, y4, y5])).weights Tryz.prog 26, q ≤ reachBytes) → ∀ q ∈ y5.1.weights Tryz.prog 24, q ≤ reachBytes := fun h q hq => h q (Rd.wItems _ _ _ _ _ _ q (.inr hq))
      rcases DataW.trod_slice Tryz.underlying23 g4 with ⟨e4, _⟩ | ⟨a, len, cap, elems, rest, n', rfl, e4, hx4, _, hlc, hcm, hel, hget, _, _⟩
      · simp only [List.cons.injEq, and_true] at e4
        subst e4
        exact ⟨.mk k z b s 0 (fun _ => .nil) m ks, ⟨none, 0, ak, dk, rfl, hbl, Nat.le_refl _, by decide, hK, fun i hi => absurd hi (by omega)⟩, fun hbk => ⟨by omega, hKb (hw5 hbk), fun i hi => absurd hi (by omega)⟩⟩
      · simp only [List.cons.injEq, and_true] at e4
        subst e4
        have spot0 : 0 < len → a.spot = none := by
          intro h0
          have hg := hget 0 h0
          rw [Rd.six, List.getElem?_eq_getElem (by omega)] at hg
          cases hcs : W.cells? base (a.add (0 * 6)) 6 with
          | none => rw [hcs] at hg; cases hg
          | some cs' =>
            obtain ⟨_, hl6, hcell⟩ := World.cells?_some hcs
            match cs', hl6 with
            | [v0, v1, v2, v3, v4, v5], _ => simpa [Addr.add] using World.cell?_spot (hcell 0 (by decide))
        have each : ∀ i, i < len → ∃ (t : Vt) (v0 v1 v2 v3 v4 v5 : Value) (b o : Nat), a = ⟨b, o, none⟩ ∧ b < W.heap.size ∧ W.cell? ⟨b, o + i * 6, none⟩ = some v0 ∧ W.cell? ⟨b, o + i * 6 + 1, none⟩ = some v1 ∧ W.cell? ⟨b, o + i * 6 + 2, none⟩ = some v2 ∧ W.cell? ⟨b, o + i * 6 + 3, none⟩ = some v3 ∧ W.cell? ⟨b, o + i * 6 + 4, none⟩ = some v4 ∧ W.cell? ⟨b, o + i * 6 + 5, none⟩ = some v5 ∧ t.Lies W (· < W.heap.size) (.agg #[v0, v1, v2, v3, v4, v5]) ∧ ((∀ q ∈ y4.1.weights Tryz.prog 23, q ≤ reachBytes) → t.sized) := by
          intro i hi
          have hg := hget i hi
          rw [Rd.six, List.getElem?_eq_getElem (by omega)] at hg
          cases hcs : W.cells? base (a.add (i * 6)) 6 with
          | none => rw [hcs] at hg; cases hg
          | some cs' =>
            rw [hcs] at hg
            obtain ⟨t, ht, htm⟩ := ih n' (by omega) cs' _ hg
            obtain ⟨_, hl6, hcell⟩ := World.cells?_some hcs
            match cs', hl6 with
            | [v0, v1, v2, v3, v4, v5], _ =>
              obtain ⟨b, o, spot⟩ := a
              have hspot : spot = none := spot0 (by omega)
              subst hspot
              have hc : ∀ r, r < 6 → W.cell? ⟨b, o + i * 6 + r, none⟩ = [v0, v1, v2, v3, v4, v5][r]? := fun r hr => by
                have := hcell r hr
                rw [Vc.add, Vc.add] at this
                exact this
              refine ⟨t, v0, v1, v2, v3, v4, v5, b, o, rfl, ?_, hc 0 (by decide), hc 1 (by decide), hc 2 (by decide), hc 3 (by decide), hc 4 (by decide), hc 5 (by decide), ht, fun hbk => htm ?_⟩
              · exact Vt.cell_lt (hc 0 (by decide))
              · intro q hq
                rw [hx4] at hbk
                exact hbk q (Rd.wElem Tryz.underlying23 _ _ _ (List.mem_map.2 ⟨_, List.getElem_mem (by omega), rfl⟩) q hq)
        refine ⟨.mk k z b s len (fun i => if hi : i < len then Classical.choose (each i hi) else .nil) m ks, ⟨some a, cap, ak, dk, rfl, hbl, hlc, hcm, hK, fun i hi => ?_⟩, fun hbk => ⟨?_, hKb (hw5 hbk), fun i hi => ?_⟩⟩
        · obtain ⟨v0, v1, v2, v3, v4, v5, b', o', e, hb', c0, c1, c2, c3, c4, c5, hl, _⟩ := Classical.choose_spec (each i hi)
          refine ⟨b', o', v0, v1, v2, v3, v4, v5, by rw [e], hb', c0, c1, c2, c3, c4, c5, ?_⟩
          dsimp only
          rw [dif_pos hi]
          exact hl
        · have h0 := hw4 hbk
          rw [hx4] at h0
          have h1 := h0 _ (Rd.wSlice Tryz.underlying23 _ _)
          have h2 : Tryz.prog.bytesOf 26 = 88 := Rd.bytesV
          rw [List.length_map, hel, h2] at h1
          unfold reachBytes at h1
          omega
        · dsimp only
          rw [dif_pos hi]
          obtain ⟨v0, v1, v2, v3, v4, v5, b', o', e, hb', c0, c1, c2, c3, c4, c5, hl, hmd⟩ := Classical.choose_spec (each i hi)
          exact hmd (hw4 hbk)
end Go.Proofs.YtboalkfagfgnpaaGreatDoor
/-
  PLAIN LISTS OF BYTES, no program: what refs.Encode and refs.Decode give, as functions on lists of bytes, and the laws among them that the statements of layer 2 ask.
-/
namespace Go.Proofs.YtboalkfagfgnpaaGreatDoor.Pl

/-! ### Encode -/
def encB (c : UInt8) : List UInt8 :=
  if c = 38 then [38, 97, 109, 112, 59] else if c = 60 then [38, 108, 116, 59] else if c = 62 then [38, 103, 116, 59]
  else if c = 34 then [38, 113, 117, 111, 116, 59] else if c = 39 then [38, 35, 51, 57, 59] else if c = 13 then [38, 35, 49, 51, 59] else [c]
def encS (l : List UInt8) : List UInt8 := l.flatMap encB
def encL (l : List UInt8) : List UInt8 := encS (normL l)
/-! ### Decode -/
/-- a digit of sixteen; 16: it is none -/
def dig (c : UInt8) : Nat :=
  if 48 ≤ c.toNat ∧ c.toNat ≤ 57 then c.toNat - 48 else if 97 ≤ c.toNat ∧ c.toNat ≤ 102 then c.toNat - 87 else if 65 ≤ c.toNat ∧ c.toNat ≤ 70 then c.toNat - 55 else 16
/-- a number's sign -/
def runeL (x : Nat) : List UInt8 :=
  if x = 0 ∨ (55296 ≤ x ∧ x ≤ 57343) ∨ 1114111 < x then fffd
  else if x < 128 then [UInt8.ofNat x]
  else if x < 2048 then [UInt8.ofNat (192 + x / 64), UInt8.ofNat (128 + x % 64)]
  else if x < 65536 then [UInt8.ofNat (224 + x / 4096), UInt8.ofNat (128 + x / 64 % 64), UInt8.ofNat (128 + x % 64)]
  else [UInt8.ofNat (240 + x / 262144), UInt8.ofNat (128 + x / 4096 % 64), UInt8.ofNat (128 + x / 64 % 64), UInt8.ofNat (128 + x % 64)]
theorem runeL_len (x : Nat) : (runeL x).length ≤ 4 := by
  unfold runeL; repeat' split
  all_goals simp [fffd]
/-- digits, at most m, from the place i on: the number, the place behind them -/
def scan (base : Nat) : Nat → List UInt8 → Nat → Nat → Nat × Nat
  | 0, _, x, i => (x, i)
  | _ + 1, [], x, i => (x, i)
  | m + 1, c :: r, x, i => if dig c < base then scan base m r (x * base + dig c) (i + 1) else (x, i)
/-- a reference by number whose digits begin at a place -/
def numL (l : List UInt8) (start base most : Nat) : List UInt8 × Nat :=
  let p := scan base most (l.drop start) 0 start
  if p.2 = start ∨ l[p.2]? ≠ some 59 then ([], 0) else (runeL p.1, p.2 + 1)
def names : List (List UInt8 × List UInt8) :=
  [([97, 109, 112, 59], [38]), ([108, 116, 59], [60]), ([103, 116, 59], [62]), ([113, 117, 111, 116, 59], [34]), ([97, 112, 111, 115, 59], [39]), ([110, 98, 115, 112, 59], [194, 160]), ([99, 111, 112, 121, 59], [194, 169])]
def pre (p l : List UInt8) : Bool := p.isPrefixOf l
def nameL : List (List UInt8 × List UInt8) → List UInt8 → List UInt8 × Nat
  | [], _ => ([], 0)
  | n :: ns, l => if pre n.1 l then (n.2, n.1.length) else nameL ns l
def refL (l : List UInt8) : List UInt8 × Nat :=
  if pre [35, 120] l || pre [35, 88] l then numL l 2 16 6 else if pre [35] l then numL l 1 10 7 else nameL names l
def decF : Nat → List UInt8 → List UInt8
  | 0, _ => []
  | _ + 1, [] => []
  | f + 1, c :: r => if c = 38 ∧ (refL r).2 ≠ 0 then (refL r).1 ++ decF f (r.drop (refL r).2) else c :: decF f r
def decL (l : List UInt8) : List UInt8 := decF l.length l

theorem pre_iff (p l : List UInt8) : pre p l = true ↔ ∃ r, l = p ++ r := by
  unfold pre
  rw [List.isPrefixOf_iff_prefix]
  exact ⟨fun ⟨r, h⟩ => ⟨r, h.symm⟩, fun ⟨r, h⟩ => ⟨r, h.symm⟩⟩
/-! ### what is encoded may be -/
theorem sgn_one (c : UInt8) (r : List UInt8) (h0 : c ≠ 0) (h1 : c.toNat < 128) : sgn (c :: r) = 1 := by
  have hc : c.toNat ≠ 0 := fun h => h0 (UInt8.toNat_inj.1 h)
  show sgnN _ c.toNat _ _ _ = 1
  unfold sgnN
  rw [if_neg hc, if_pos h1]
theorem may_ascii : ∀ (b r : List UInt8), (∀ c ∈ b, c ≠ 0 ∧ c.toNat < 128) → mayL (b ++ r) = mayL r := by
  intro b
  induction b with
  | nil => intro r _; rfl
  | cons c b ih =>
    intro r h
    obtain ⟨h0, h1⟩ := h c (by simp)
    have e := sgn_one c (b ++ r) h0 h1
    rw [List.cons_append, mayL_sign _ (by rw [e]; decide), e]
    exact ih r (fun d hd => h d (by simp [hd]))
/-- a sign is one low byte, or high bytes -/
theorem sgnN_parts (n b0 b1 b2 b3 k : Nat) (h : sgnN n b0 b1 b2 b3 = k) (hk : k ≠ 0) : (k = 1 ∧ b0 ≠ 0 ∧ b0 < 128) ∨ (128 ≤ b0 ∧ (1 < k → 128 ≤ b1) ∧ (2 < k → 128 ≤ b2) ∧ (3 < k → 128 ≤ b3) ∧ 1 < k) := by
  unfold sgnN at h
  repeat' split at h
  all_goals subst h
  all_goals omega
theorem nb_get (l : List UInt8) (i : Nat) (c : UInt8) (h : l[i]? = some c) : nb l i = c.toNat := by
  simp [nb, List.getD_eq_getElem?_getD, h]
theorem sgn_parts (l : List UInt8) (h : sgn l ≠ 0) : (∃ c, l.take (sgn l) = [c] ∧ c ≠ 0 ∧ c.toNat < 128) ∨ (∀ c ∈ l.take (sgn l), 128 ≤ c.toNat) := by
  have hle := sgn_le l
  have h4 := sgn_le_four l
  rcases sgnN_parts l.length (nb l 0) (nb l 1) (nb l 2) (nb l 3) (sgn l) rfl h with ⟨h1, h0, h2⟩ | ⟨g0, g1, g2, g3, g4⟩
  · cases l with
    | nil => exact absurd rfl (ne_nil_of_sgn h)
    | cons c r =>
      refine .inl ⟨c, by rw [h1]; rfl, ?_, h2⟩
      rintro rfl
      exact h0 rfl
  · refine .inr fun c hc => ?_
    obtain ⟨i, hi⟩ := List.mem_iff_getElem?.1 hc
    rw [List.getElem?_take] at hi
    split at hi
    · rename_i hlt
      have e := nb_get l i c hi
      have : i = 0 ∨ i = 1 ∨ i = 2 ∨ i = 3 := by omega
      rcases this with rfl | rfl | rfl | rfl
      all_goals (rw [← e])
      · exact g0
      · exact g1 (by omega)
      · exact g2 (by omega)
      · exact g3 (by omega)
    · cases hi
/-! ### no sign that could end a text -/
def ends (c : UInt8) : Prop := c = 60 ∨ c = 62 ∨ c = 34 ∨ c = 39 ∨ c = 13 ∨ c = 0
end Go.Proofs.YtboalkfagfgnpaaGreatDoor.Pl
