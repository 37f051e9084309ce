/-
  THE WALKS of lex's tell, cutTrimMark, beyond.
-/
import Derived.Test.YtfcmcmokmhklhaaDoorLCur
import Derived.Test.YtfcmcmokmhklhaaDoorLRef3
import Derived.Deep.RegionLaw
namespace Go.Proofs.YtfcmcmokmhklhaaDoor
open Go.RowKit
theorem Sq.Kept.below {w w' : World} {g : Nat} (h : Sq.Kept w w' g) (hg : g ≤ w.heap.size) : Below g w w' := ⟨h.os, h.tape, h.output, h.size, fun k hk => h.block k (by omega) (by omega)⟩
/-- the pieces so far, in a row of their own behind the splitter -/
def Sq.Row (w : World) (g : Nat) (v : Value) (ps : List Pc) : Prop := w.ownsRow (g + 1) 33 3 v ps.length (Pc.cells ps)
theorem Rm.form {w : World} {base : Nat} {e : TypeId} {size n : Nat} {v : Value} {xs : List Value} (h : w.ownsRow base e size v n xs) : ∃ a d, v = .slice a n d := by
  rcases h.2 with ⟨rfl, rfl⟩ | ⟨g, cap, cur, rfl, _⟩
  · exact ⟨_, _, rfl⟩
  · exact ⟨_, _, rfl⟩
theorem Sq.Row.form {w : World} {g : Nat} {v : Value} {ps : List Pc} (h : Sq.Row w g v ps) : ∃ a d, v = .slice a ps.length d := Rm.form h
theorem Sq.Row.on {w w' : World} {g : Nat} {v : Value} {ps : List Pc} (h : Sq.Row w g v ps) (hk : Sq.Kept w w' g) : Sq.Row w' g v ps := Rm.own_on h fun k e => hk.block k (h.lt k e).2 (by have := (h.lt k e).1; omega)
set_option maxRecDepth 100000 in
set_option maxHeartbeats 4000000 in
theorem Sq.tell (a : Bool) (T : ByteArray) (k : Nat) (ps : List Pc) (g : Nat) (s : ByteArray) (i : Nat) (v : Value) (o : Int) (t : Bool) (w : World) (h : Sq.At w g s i v o t) (hr : Sq.Row w g v ps) (hn : ps.length ≤ 65536) (hz : T.size ≤ 65536) :
    Calls Tryd.prog 33 #[.pointer (some ⟨g, 0, none⟩), .agg #[.bool a, .string T, .int .i64 (k : Int)]] w fun e w' => ∃ v', e = .returned (.tuple #[]) ∧ Sq.At w' g s i v' o t ∧ Sq.Row w' g v' (ps ++ [⟨a, T.data.toList, k⟩]) ∧ Below g w w' := by
  have hlt : g < w.heap.size := Bs.Box.lt h
  have cl := fun u => Tp.clone T u (by omega)
  obtain ⟨aa, ad, rfl⟩ := hr.form
  have H := Lib.hid h
  have HR := Lib.hid hr
  have HX : Hid (Bs.Box (w.alloc (.cells #[.bool a, .string T, .int .i64 (k : Int)] 33)) w.heap.size #[.bool a, .string T, .int .i64 (k : Int)] 33) := Bs.Box.new w _ _ _ rfl
  have HB := Lib.hid ((Below.refl w.heap.size w).alloc (Nat.le_refl _) (.cells #[.bool a, .string T, .int .i64 (k : Int)] 33))
  have n1 : w.heap.size ≠ g := by omega
  clear h hr
  go_enter Tryd.func33, Tryd.ntmps33
  go_wp2_with (go_at_call 50; refine (cl _).mono ?_; rintro e w1 ⟨rfl, b1⟩; have X1 := Lib.hid (HX.out.on b1 (by simp)); have B1 := Lib.hid (Wk.below_step HB.out b1); clear b1 cl HX HB; have x1 := X1.out.cell 1 rfl; have fx := X1.out.frozen)
  have n2 : g ≠ w.heap.size := by omega
  have X2 : Hid (Bs.Box (w1.setCell ⟨w.heap.size, 1, none⟩ (.string T)) w.heap.size #[.bool a, .string T, .int .i64 (k : Int)] 33) := X1.out.set 1 _
  have B2 := Lib.hid (B1.out.setCell (p := ⟨w.heap.size, 1, none⟩) (Nat.le_refl _) (.string T))
  generalize w1.setCell ⟨w.heap.size, 1, none⟩ (.string T) = W at *
  have H2 := Lib.hid (H.out.then B2.out)
  have K2 := Lib.hid (Sq.Kept.of g B2.out)
  have R2 := Lib.hid (HR.out.on K2.out)
  have hW : w.heap.size ≤ W.heap.size := B2.out.size
  have x0 : W.cell? ⟨w.heap.size, 0, none⟩ = some (.bool a) := X2.out.cell 0 rfl
  have x1' : W.cell? ⟨w.heap.size, 1, none⟩ = some (.string T) := X2.out.cell 1 rfl
  have x2 : W.cell? ⟨w.heap.size, 2, none⟩ = some (.int .i64 (k : Int)) := X2.out.cell 2 rfl
  have c2 := H2.out.c2
  have hgW : g < W.heap.size := by omega
  have c2' : ∀ o', (W.alloc o').cell? ⟨g, 2, none⟩ = some (.slice aa ps.length ad) := fun o' => (World.cell?_alloc_lt _ _ _ hgW).trans c2
  have HN : Hid (ps.length + 1 ≤ maxLen ∧ (ps.length + 1) * 32 ≤ 140737488355328) := ⟨by unfold maxLen; omega, by omega⟩
  clear x1 fx X1 B1 HR H
  go_region_law (first | (refine Ro.step_push rfl (.tmp 12) (.tmp 14) 22 33 3 32 _ rfl Tryd.underlying22 Lm.info rfl (by decide) (.slice aa ps.length ad) (by simp [Act.eval]) (R2.out.alloc _) W.heap.size (Pc.three ⟨a, T.data.toList, k⟩) (by simp [Act.eval]) (Lm.cell3 W a T k) rfl (Pc.three_one _) HN.out.1 HN.out.2 (by first | omega | (simp; omega)) ?_; intro v' w4 R4 hg4 hf4; obtain ⟨a4, d4, rfl⟩ := Rm.form R4; have HR4 := Lib.hid R4; have HG4 := Lib.hid hg4; have B4 : Below g W w4 := (((Below.refl g W).drew).alloc (Nat.le_of_lt hgW) _).grown hg4 (by first | omega | (simp; omega)) (fun k' e => by have := (R2.out.lt k' e).1; omega); have HB4 := Lib.hid B4; have A4 : Sq.At w4 g s i (.slice aa ps.length ad) o t := ((hg4.block g (by first | omega | (simp; omega)) (fun e => by have := (R2.out.lt g e.symm).1; omega)).trans (Below.heap_alloc _ _ _ (by first | omega | (simp; omega)))).trans H2.out; have HA4 := Lib.hid A4; have f4 := A4.fz; have d2 := A4.c2; clear R4 hg4 hf4 B4 A4))
  all_goals go_wp2
  all_goals go_end0
  all_goals
    refine ⟨.slice a4 (ps.length + 1) d4, rfl, HA4.out.set2 _, ?_, ?_⟩
    · have h5 := Rm.own_on HR4.out (w' := w4.setCell ⟨g, 2, none⟩ (.slice a4 (ps.length + 1) d4)) (fun k' hk => Below.heap_setCell _ _ _ _ (by have := (HR4.out.lt k' hk).1; show k' ≠ g; omega))
      unfold Sq.Row
      rw [Pc.cells_snoc, List.length_append]
      exact h5
    · exact ((B2.out.mono (by omega)).trans HB4.out).setCell (Nat.le_refl _) _
theorem Lq.suffix (l : List UInt8) (c d : UInt8) : Lib.hasSuffix (l ++ [c]) [d] = decide (c = d) := by
  unfold Lib.hasSuffix List.isSuffixOf
  rw [List.reverse_append, List.reverse_singleton, List.reverse_singleton, List.singleton_append]
  simp only [List.isPrefixOf, Bool.and_true]
  rw [Bool.eq_iff_iff]
  simp only [beq_iff_eq, decide_eq_true_eq]
  exact ⟨Eq.symm, Eq.symm⟩
theorem Lq.trim_end (l : List UInt8) (c d : UInt8) (h : c = d) : Lib.trimSuffix (l ++ [c]) [d] = l := by
  unfold Lib.trimSuffix
  rw [Lq.suffix, decide_eq_true h, if_pos rfl, List.length_append]
  simp
/-- what is left of an action without the sign at its end, and whether it is a trim mark's -/
theorem Lq.trims (t : List UInt8) : Lx.trims t = (Lib.hasSuffix t [45] && decide (¬ Lx.right (Lib.trimSuffix t [45]) = Lib.trimSuffix t [45])) ∧ (Lx.trims t = true → t.take (t.length - 1) = Lib.trimSuffix t [45]) := by
  rcases List.eq_nil_or_concat t with rfl | ⟨l, c, rfl⟩
  · exact ⟨rfl, fun h => by cases h⟩
  · rw [List.concat_eq_append, Lq.suffix]
    unfold Lx.trims
    have e1 : (l ++ [c]).length = l.length + 1 := by simp
    rw [e1, Nat.add_sub_cancel]
    have e2 : (l ++ [c])[l.length]? = some c := by rw [List.getElem?_append_right (Nat.le_refl _), Nat.sub_self]; rfl
    rw [e2]
    by_cases h : c = 45
    · rw [Lq.trim_end _ _ _ h, decide_eq_true h, decide_eq_true (congrArg some h), Bool.and_true, Bool.true_and]
      refine ⟨?_, fun _ => by simp⟩
      rcases List.eq_nil_or_concat l with rfl | ⟨m, d, rfl⟩
      · rfl
      · rw [List.concat_eq_append]
        have e3 : (m ++ [d]).length = m.length + 1 := by simp
        rw [e3, decide_eq_true (by omega), Bool.true_and, show m.length + 1 + 1 - 2 = m.length by omega, List.getD_eq_getElem?_getD, List.append_assoc, List.getElem?_append_right (Nat.le_refl _), Nat.sub_self, Lx.right_snoc]
        show Lx.blank d = _
        cases hb : Lx.blank d with
        | true =>
          rw [if_pos rfl]
          have hl := Lx.right_len m
          have hne : ¬ Lx.right m = m ++ [d] := fun e => by have := congrArg List.length e; rw [e3] at this; omega
          simp [hne]
        | false =>
          rw [if_neg (by decide)]
          simp
    · have h2 : ¬ some c = some (45 : UInt8) := fun e => h (Option.some.inj e)
      rw [decide_eq_false h, decide_eq_false h2]
      simp
/-- U is the action T without its trim mark -/
def Lq.Cut (T U : ByteArray) (tr : Bool) : Prop := U.data.toList = if tr = true then T.data.toList.take (T.data.toList.length - 1) else T.data.toList
set_option maxHeartbeats 2000000 in
theorem Sq.cutTrim (T : ByteArray) (w : World) (hz : T.size ≤ 65536) :
    Calls Tryd.prog 37 #[.string T] w fun e w' => ∃ U : ByteArray, e = .returned (.tuple #[.string U, .bool (Lx.trims T.data.toList)]) ∧ Lq.Cut T U (Lx.trims T.data.toList) ∧ Below w.heap.size w w' := by
  obtain ⟨h1, h2⟩ := Lq.trims T.data.toList
  have k1 := fun u => Sh.strings_CutSuffix T ⟨#[45]⟩ u (by omega)
  have hs1 : (⟨#[45]⟩ : ByteArray).data.toList = [45] := rfl
  rw [hs1] at k1
  have hl : (Lib.trimSuffix T.data.toList [45]).length ≤ T.data.toList.length := by
    unfold Lib.trimSuffix
    split
    · rw [List.length_take]; omega
    · exact Nat.le_refl _
  rw [Wk.len_data T] at hl
  obtain ⟨B, hB⟩ : ∃ B : ByteArray, B = ⟨(Lib.trimSuffix T.data.toList [45]).toArray⟩ := ⟨_, rfl⟩
  have hBd : B.data.toList = Lib.trimSuffix T.data.toList [45] := by rw [hB]
  rw [← hB] at k1
  rw [← hBd] at h1 h2 hl
  rw [Wk.len_data] at hl
  have k2 := fun u => Sh.strings_TrimRight B ⟨#[9, 10, 32]⟩ u (by omega) (by decide) (Go.Proofs.ascii_of_all (by decide))
  rw [show Lib.trimRightS B.data.toList (⟨#[9, 10, 32]⟩ : ByteArray).data.toList = Lx.right B.data.toList from Ll.right _] at k2
  generalize Lib.hasSuffix T.data.toList [45] = hs at *
  obtain ⟨C, hC⟩ : ∃ C : ByteArray, C = ⟨(Lx.right B.data.toList).toArray⟩ := ⟨_, rfl⟩
  have hCd : C.data.toList = Lx.right B.data.toList := by rw [hC]
  rw [← hC] at k2
  rw [← hCd] at h1
  have hCB : C.data.toList = B.data.toList ↔ C = B := ⟨fun e => WideShapes.bytes_inj e, fun e => by rw [e]⟩
  clear hBd hB hC hCd hs1 hl
  obtain ⟨tr, htr⟩ : ∃ tr, Lx.trims T.data.toList = tr := ⟨_, rfl⟩
  rw [htr] at h1 h2 ⊢
  clear htr
  cases hs with
  | false =>
    have e1 : tr = false := by rw [h1]; rfl
    subst e1
    clear h1 h2 hCB k2
    go_enter Tryd.func37, Tryd.ntmps37
    go_wp2_with (go_at_call 53; refine (k1 _).mono ?_; rintro e w1 ⟨rfl, hw⟩; have hw := hw.symm; subst hw)
    go_ret2
    exact ⟨T, rfl, by unfold Lq.Cut; rw [if_neg (by decide)], Below.refl _ _⟩
  | true =>
    by_cases hcb : C = B
    · have e0 := hCB.2 hcb
      have e1 : tr = false := by rw [h1]; simp [e0]
      have q1 : C.toList = B.toList := by rw [hcb]
      have q2 : (C.toList == B.toList) = true := by rw [hcb]; simp
      subst e1
      clear h1 h2 hCB e0
      go_enter Tryd.func37, Tryd.ntmps37
      go_wp2_with (first | (go_at_call 53; refine (k1 _).mono ?_; rintro e w1 ⟨rfl, hw⟩; have hw := hw.symm; subst hw) | (go_at_call 32; refine (k2 _).mono ?_; rintro e w2 ⟨rfl, b2⟩; have B2 := Lib.hid b2; clear b2))
      go_ret2
      exact ⟨T, rfl, by unfold Lq.Cut; rw [if_neg (by decide)], B2.out⟩
    · have e0 : ¬ C.data.toList = B.data.toList := fun q => hcb (hCB.1 q)
      have e1 : tr = true := by rw [h1]; simp [e0]
      subst e1
      have q1 : ¬ C.toList = B.toList := fun e => hcb (hCB.1 (by rw [← ByteArray.toList_eq, ← ByteArray.toList_eq]; exact e))
      have q2 : (C.toList == B.toList) = false := beq_eq_false_iff_ne.2 q1
      have HU := Lib.hid (h2 rfl)
      clear h1 h2 hCB hcb e0
      go_enter Tryd.func37, Tryd.ntmps37
      go_wp2_with (first | (go_at_call 53; refine (k1 _).mono ?_; rintro e w1 ⟨rfl, hw⟩; have hw := hw.symm; subst hw) | (go_at_call 32; refine (k2 _).mono ?_; rintro e w2 ⟨rfl, b2⟩; have B2 := Lib.hid b2; clear b2))
      go_ret2
      exact ⟨B, rfl, by unfold Lq.Cut; rw [if_pos rfl]; exact HU.out.symm, B2.out⟩
/-- what beyond answers -/
def Lx.beyond (ps : List Pc) : Int := if Lx.long ps = true then 1301 else if 1024 < ps.length then 1302 else 0
set_option maxRecDepth 100000 in
set_option maxHeartbeats 2000000 in
theorem Sq.beyond (ps : List Pc) (v : Value) (R : Nat → Prop) (w : World) (h : Pc.Lies w R ps v) :
    Calls Tryd.prog 19 #[v] w fun e w' => e = .returned (.int .i64 (Lx.beyond ps)) ∧ Below w.heap.size w w' := by
  obtain ⟨E, hE⟩ : ∃ E, Lx.beyond ps = E := ⟨_, rfl⟩
  rw [hE]
  have HE := Lib.hid hE
  clear hE
  obtain ⟨a1, d1, rfl, l1, m1, x1⟩ := h
  have hm : ps.length ≤ 9223372036854775807 := by unfold maxLen at m1; omega
  have X1 := Lib.hid x1
  clear x1
  go_enter Tryd.func19, Tryd.ntmps19
  go_wp2
  go_loopw [7] (fun i wr => ∃ j : Nat, j ≤ ps.length ∧ i = .int .i64 (j : Int) ∧ Hid (Lx.long (ps.take j) = false) ∧ Hid (Below w.heap.size w wr)) (fun i _ => ps.length - (intOf i).toNat)
  case atStart => exact ⟨0, Nat.zero_le _, rfl, rfl, Below.refl _ _⟩
  case round =>
    obtain ⟨j, hj, rfl, HL, HB⟩ := hrel
    by_cases hlt : j < ps.length
    · have hg := List.getElem?_eq_getElem hlt
      obtain ⟨b1, o1, rfl, hb1, c0, c1, c2⟩ := X1.out j ps[j] hg
      have c0 := Tp.keep HB.out c0
      have c1 := Tp.keep HB.out c1
      have c2 := Tp.keep HB.out c2
      have HG := Lib.hid hg
      have dlt : decide ((j : Int) < (ps.length : Int)) = true := decide_eq_true (by omega)
      clear hg
      generalize ps[j] = y at *
      have hd1 : j < d1 := by omega
      have zt : (⟨y.text.toArray⟩ : ByteArray).size = y.text.length := by rw [← Wk.len_data]
      have HZ := Lib.hid zt
      cases ha : y.act with
      | false =>
        have HL2 : Hid (Lx.long (ps.take (j + 1)) = false) := Lx.long_take HG.out HL.out (by rw [ha]; rfl)
        rw [ha] at c0
        generalize hT : (⟨y.text.toArray⟩ : ByteArray) = T at *
        have HB2 := Lib.hid (HB.out.alloc HB.out.size (.cells #[.bool false, .string T, .int .i64 (y.loc : Int)] 33))
        clear HG HL zt ha HZ hT
        go_wp2
        go_roundw
        case rel => exact ⟨j + 1, by omega, by go_num, HL2, HB2⟩
        case measure => simp [intOf]; omega
      | true =>
        rw [ha] at c0
        generalize hT : (⟨y.text.toArray⟩ : ByteArray) = T at *
        have HB2 := Lib.hid (HB.out.alloc HB.out.size (.cells #[.bool true, .string T, .int .i64 (y.loc : Int)] 33))
        by_cases h2 : 256 < y.text.length
        · have d2 : decide ((256 : Int) < (T.size : Int)) = true := decide_eq_true (by omega)
          have d2n : decide (256 < T.size) = true := decide_eq_true (by omega)
          have hl : Lx.long ps = true := Lx.long_at HG.out (by rw [ha, decide_eq_true h2]; rfl)
          have hE : 1301 = E := by rw [← HE.out]; unfold Lx.beyond; rw [if_pos hl]
          subst hE
          clear HG HL zt ha hl HE h2 hT HZ
          go_wp2
          go_ret
          exact ⟨rfl, HB2.out⟩
        · have d2 : decide ((256 : Int) < (T.size : Int)) = false := decide_eq_false (by omega)
          have d2n : decide (256 < T.size) = false := decide_eq_false (by omega)
          have HL2 : Hid (Lx.long (ps.take (j + 1)) = false) := Lx.long_take HG.out HL.out (by rw [ha, decide_eq_false h2]; rfl)
          clear HG HL zt ha h2 hT HZ
          go_wp2
          go_roundw
          case rel => exact ⟨j + 1, by omega, by go_num, HL2, HB2⟩
          case measure => simp [intOf]; omega
    · have e : j = ps.length := by omega
      subst e
      have dlt : decide ((ps.length : Int) < (ps.length : Int)) = false := decide_eq_false (by omega)
      have hl := HL.out
      rw [List.take_length] at hl
      by_cases h2 : 1024 < ps.length
      · have d2 : decide ((1024 : Int) < (ps.length : Int)) = true := decide_eq_true (by omega)
        have hE : 1302 = E := by rw [← HE.out]; unfold Lx.beyond; rw [if_neg (by rw [hl]; decide), if_pos h2]
        subst hE
        clear HL HE hl
        go_wp2
        go_ret
        exact ⟨rfl, HB.out⟩
      · have d2 : decide ((1024 : Int) < (ps.length : Int)) = false := decide_eq_false (by omega)
        have hE : 0 = E := by rw [← HE.out]; unfold Lx.beyond; rw [if_neg (by rw [hl]; decide), if_neg h2]
        subst hE
        clear HL HE hl
        go_wp2
        go_ret
        exact ⟨rfl, HB.out⟩
end Go.Proofs.YtfcmcmokmhklhaaDoor
