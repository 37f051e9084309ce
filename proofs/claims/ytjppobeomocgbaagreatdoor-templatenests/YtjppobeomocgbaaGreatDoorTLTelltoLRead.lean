/-
  THE WALKS of lex's tell, cutTrimMark, beyond.
-/
import Derived.Test.YtjppobeomocgbaaGreatDoorTLCur
import Derived.Test.YtjppobeomocgbaaGreatDoorTLRef3
import Derived.Deep.RegionLaw
import Derived.Test.YtjppobeomocgbaaGreatDoorTLScan
import Derived.Deep.Cut
namespace Go.Proofs.YtjppobeomocgbaaGreatDoor
open Go.RowKit
theorem Sq.Kept.below {w w' : World} {g : Nat} (h : Sq.Kept w w' g) (hg : g ≤ w.heap.size) : Below g w w' := ⟨h.os, h.tape, h.output, h.size, fun k hk => h.block k (by omega) (by omega)⟩
/-- the pieces so far, in a row of their own behind the splitter -/
def Sq.Row (w : World) (g : Nat) (v : Value) (ps : List Pc) : Prop := w.ownsRow (g + 1) 58 3 v ps.length (Pc.cells ps)
theorem Rm.form {w : World} {base : Nat} {e : TypeId} {size n : Nat} {v : Value} {xs : List Value} (h : w.ownsRow base e size v n xs) : ∃ a d, v = .slice a n d := by
  rcases h.2 with ⟨rfl, rfl⟩ | ⟨g, cap, cur, rfl, _⟩
  · exact ⟨_, _, rfl⟩
  · exact ⟨_, _, rfl⟩
theorem Sq.Row.form {w : World} {g : Nat} {v : Value} {ps : List Pc} (h : Sq.Row w g v ps) : ∃ a d, v = .slice a ps.length d := Rm.form h
theorem Sq.Row.on {w w' : World} {g : Nat} {v : Value} {ps : List Pc} (h : Sq.Row w g v ps) (hk : Sq.Kept w w' g) : Sq.Row w' g v ps := Rm.own_on h fun k e => hk.block k (h.lt k e).2 (by have := (h.lt k e).1; omega)
set_option maxRecDepth 100000 in
set_option maxHeartbeats 4000000 in
theorem Sq.tell (a : Bool) (T : ByteArray) (k : Nat) (ps : List Pc) (g : Nat) (s : ByteArray) (i : Nat) (v : Value) (o : Int) (t : Bool) (w : World) (h : Sq.At w g s i v o t) (hr : Sq.Row w g v ps) (hn : ps.length ≤ 65536) (hz : T.size ≤ 65536) :
    Calls Tryz.prog 46 #[.pointer (some ⟨g, 0, none⟩), .agg #[.bool a, .string T, .int .i64 (k : Int)]] w fun e w' => ∃ v', e = .returned (.tuple #[]) ∧ Sq.At w' g s i v' o t ∧ Sq.Row w' g v' (ps ++ [⟨a, T.data.toList, k⟩]) ∧ Below g w w' := by
  have hlt : g < w.heap.size := Bs.Box.lt h
  have cl := fun u => Tp.clone T u (by omega)
  obtain ⟨aa, ad, rfl⟩ := hr.form
  have H := Lib.hid h
  have HR := Lib.hid hr
  have HX : Hid (Bs.Box (w.alloc (.cells #[.bool a, .string T, .int .i64 (k : Int)] 58)) w.heap.size #[.bool a, .string T, .int .i64 (k : Int)] 58) := Bs.Box.new w _ _ _ rfl
  have HB := Lib.hid ((Below.refl w.heap.size w).alloc (Nat.le_refl _) (.cells #[.bool a, .string T, .int .i64 (k : Int)] 58))
  have n1 : w.heap.size ≠ g := by omega
  clear h hr
  go_enter Tryz.func46, Tryz.ntmps46
  go_wp2_with (go_at_call 75; refine (cl _).mono ?_; rintro e w1 ⟨rfl, b1⟩; have X1 := Lib.hid (HX.out.on b1 (by simp)); have B1 := Lib.hid (Wk.below_step HB.out b1); clear b1 cl HX HB; have x1 := X1.out.cell 1 rfl; have fx := X1.out.frozen)
  have n2 : g ≠ w.heap.size := by omega
  have X2 : Hid (Bs.Box (w1.setCell ⟨w.heap.size, 1, none⟩ (.string T)) w.heap.size #[.bool a, .string T, .int .i64 (k : Int)] 58) := X1.out.set 1 _
  have B2 := Lib.hid (B1.out.setCell (p := ⟨w.heap.size, 1, none⟩) (Nat.le_refl _) (.string T))
  generalize w1.setCell ⟨w.heap.size, 1, none⟩ (.string T) = W at *
  have H2 := Lib.hid (H.out.then B2.out)
  have K2 := Lib.hid (Sq.Kept.of g B2.out)
  have R2 := Lib.hid (HR.out.on K2.out)
  have hW : w.heap.size ≤ W.heap.size := B2.out.size
  have x0 : W.cell? ⟨w.heap.size, 0, none⟩ = some (.bool a) := X2.out.cell 0 rfl
  have x1' : W.cell? ⟨w.heap.size, 1, none⟩ = some (.string T) := X2.out.cell 1 rfl
  have x2 : W.cell? ⟨w.heap.size, 2, none⟩ = some (.int .i64 (k : Int)) := X2.out.cell 2 rfl
  have c2 := H2.out.c2
  have hgW : g < W.heap.size := by omega
  have c2' : ∀ o', (W.alloc o').cell? ⟨g, 2, none⟩ = some (.slice aa ps.length ad) := fun o' => (World.cell?_alloc_lt _ _ _ hgW).trans c2
  have HN : Hid (ps.length + 1 ≤ maxLen ∧ (ps.length + 1) * 32 ≤ 140737488355328) := ⟨by unfold maxLen; omega, by omega⟩
  clear x1 fx X1 B1 HR H
  go_region_law (first | (refine Ro.step_push rfl (.tmp 12) (.tmp 14) 49 58 3 32 _ rfl Tryz.underlying49 Lm.info rfl (by decide) (.slice aa ps.length ad) (by simp [Act.eval]) (R2.out.alloc _) W.heap.size (Pc.three ⟨a, T.data.toList, k⟩) (by simp [Act.eval]) (Lm.cell3 W a T k) rfl (Pc.three_one _) HN.out.1 HN.out.2 (by first | omega | (simp; omega)) ?_; intro v' w4 R4 hg4 hf4; obtain ⟨a4, d4, rfl⟩ := Rm.form R4; have HR4 := Lib.hid R4; have HG4 := Lib.hid hg4; have B4 : Below g W w4 := (((Below.refl g W).drew).alloc (Nat.le_of_lt hgW) _).grown hg4 (by first | omega | (simp; omega)) (fun k' e => by have := (R2.out.lt k' e).1; omega); have HB4 := Lib.hid B4; have A4 : Sq.At w4 g s i (.slice aa ps.length ad) o t := ((hg4.block g (by first | omega | (simp; omega)) (fun e => by have := (R2.out.lt g e.symm).1; omega)).trans (Below.heap_alloc _ _ _ (by first | omega | (simp; omega)))).trans H2.out; have HA4 := Lib.hid A4; have f4 := A4.fz; have d2 := A4.c2; clear R4 hg4 hf4 B4 A4))
  all_goals go_wp2
  all_goals go_end0
  all_goals
    refine ⟨.slice a4 (ps.length + 1) d4, rfl, HA4.out.set2 _, ?_, ?_⟩
    · have h5 := Rm.own_on HR4.out (w' := w4.setCell ⟨g, 2, none⟩ (.slice a4 (ps.length + 1) d4)) (fun k' hk => Below.heap_setCell _ _ _ _ (by have := (HR4.out.lt k' hk).1; show k' ≠ g; omega))
      unfold Sq.Row
      rw [Pc.cells_snoc, List.length_append]
      exact h5
    · exact ((B2.out.mono (by omega)).trans HB4.out).setCell (Nat.le_refl _) _
theorem Lq.suffix (l : List UInt8) (c d : UInt8) : Lib.hasSuffix (l ++ [c]) [d] = decide (c = d) := by
  unfold Lib.hasSuffix List.isSuffixOf
  rw [List.reverse_append, List.reverse_singleton, List.reverse_singleton, List.singleton_append]
  simp only [List.isPrefixOf, Bool.and_true]
  rw [Bool.eq_iff_iff]
  simp only [beq_iff_eq, decide_eq_true_eq]
  exact ⟨Eq.symm, Eq.symm⟩
theorem Lq.trim_end (l : List UInt8) (c d : UInt8) (h : c = d) : Lib.trimSuffix (l ++ [c]) [d] = l := by
  unfold Lib.trimSuffix
  rw [Lq.suffix, decide_eq_true h, if_pos rfl, List.length_append]
  simp
/-- what is left of an action without the sign at its end, and whether it is a trim mark's -/
theorem Lq.trims (t : List UInt8) : Lx.trims t = (Lib.hasSuffix t [45] && decide (¬ Lx.right (Lib.trimSuffix t [45]) = Lib.trimSuffix t [45])) ∧ (Lx.trims t = true → t.take (t.length - 1) = Lib.trimSuffix t [45]) := by
  rcases List.eq_nil_or_concat t with rfl | ⟨l, c, rfl⟩
  · exact ⟨rfl, fun h => by cases h⟩
  · rw [List.concat_eq_append, Lq.suffix]
    unfold Lx.trims
    have e1 : (l ++ [c]).length = l.length + 1 := by simp
    rw [e1, Nat.add_sub_cancel]
    have e2 : (l ++ [c])[l.length]? = some c := by rw [List.getElem?_append_right (Nat.le_refl _), Nat.sub_self]; rfl
    rw [e2]
    by_cases h : c = 45
    · rw [Lq.trim_end _ _ _ h, decide_eq_true h, decide_eq_true (congrArg some h), Bool.and_true, Bool.true_and]
      refine ⟨?_, fun _ => by simp⟩
      rcases List.eq_nil_or_concat l with rfl | ⟨m, d, rfl⟩
      · rfl
      · rw [List.concat_eq_append]
        have e3 : (m ++ [d]).length = m.length + 1 := by simp
        rw [e3, decide_eq_true (by omega), Bool.true_and, show m.length + 1 + 1 - 2 = m.length by omega, List.getD_eq_getElem?_getD, List.append_assoc, List.getElem?_append_right (Nat.le_refl _), Nat.sub_self, Lx.right_snoc]
        show Lx.blank d = _
        cases hb : Lx.blank d with
        | true =>
          rw [if_pos rfl]
          have hl := Lx.right_len m
          have hne : ¬ Lx.right m = m ++ [d] := fun e => by have := congrArg List.length e; rw [e3] at this; omega
          simp [hne]
        | false =>
          rw [if_neg (by decide)]
          simp
    · have h2 : ¬ some c = some (45 : UInt8) := fun e => h (Option.some.inj e)
      rw [decide_eq_false h, decide_eq_false h2]
      simp
/-- U is the action T without its trim mark -/
def Lq.Cut (T U : ByteArray) (tr : Bool) : Prop := U.data.toList = if tr = true then T.data.toList.take (T.data.toList.length - 1) else T.data.toList
set_option maxHeartbeats 2000000 in
theorem Sq.cutTrim (T : ByteArray) (w : World) (hz : T.size ≤ 65536) :
    Calls Tryz.prog 50 #[.string T] w fun e w' => ∃ U : ByteArray, e = .returned (.tuple #[.string U, .bool (Lx.trims T.data.toList)]) ∧ Lq.Cut T U (Lx.trims T.data.toList) ∧ Below w.heap.size w w' := by
  obtain ⟨h1, h2⟩ := Lq.trims T.data.toList
  have k1 := fun u => Sh.strings_CutSuffix T ⟨#[45]⟩ u (by omega)
  have hs1 : (⟨#[45]⟩ : ByteArray).data.toList = [45] := rfl
  rw [hs1] at k1
  have hl : (Lib.trimSuffix T.data.toList [45]).length ≤ T.data.toList.length := by
    unfold Lib.trimSuffix
    split
    · rw [List.length_take]; omega
    · exact Nat.le_refl _
  rw [Wk.len_data T] at hl
  obtain ⟨B, hB⟩ : ∃ B : ByteArray, B = ⟨(Lib.trimSuffix T.data.toList [45]).toArray⟩ := ⟨_, rfl⟩
  have hBd : B.data.toList = Lib.trimSuffix T.data.toList [45] := by rw [hB]
  rw [← hB] at k1
  rw [← hBd] at h1 h2 hl
  rw [Wk.len_data] at hl
  have k2 := fun u => Sh.strings_TrimRight B ⟨#[9, 10, 32]⟩ u (by omega) (by decide) (Go.Proofs.ascii_of_all (by decide))
  rw [show Lib.trimRightS B.data.toList (⟨#[9, 10, 32]⟩ : ByteArray).data.toList = Lx.right B.data.toList from Ll.right _] at k2
  generalize Lib.hasSuffix T.data.toList [45] = hs at *
  obtain ⟨C, hC⟩ : ∃ C : ByteArray, C = ⟨(Lx.right B.data.toList).toArray⟩ := ⟨_, rfl⟩
  have hCd : C.data.toList = Lx.right B.data.toList := by rw [hC]
  rw [← hC] at k2
  rw [← hCd] at h1
  have hCB : C.data.toList = B.data.toList ↔ C = B := ⟨fun e => WideShapes.bytes_inj e, fun e => by rw [e]⟩
  clear hBd hB hC hCd hs1 hl
  obtain ⟨tr, htr⟩ : ∃ tr, Lx.trims T.data.toList = tr := ⟨_, rfl⟩
  rw [htr] at h1 h2 ⊢
  clear htr
  cases hs with
  | false =>
    have e1 : tr = false := by rw [h1]; rfl
    subst e1
    clear h1 h2 hCB k2
    go_enter Tryz.func50, Tryz.ntmps50
    go_wp2_with (go_at_call 78; refine (k1 _).mono ?_; rintro e w1 ⟨rfl, hw⟩; have hw := hw.symm; subst hw)
    go_ret2
    exact ⟨T, rfl, by unfold Lq.Cut; rw [if_neg (by decide)], Below.refl _ _⟩
  | true =>
    by_cases hcb : C = B
    · have e0 := hCB.2 hcb
      have e1 : tr = false := by rw [h1]; simp [e0]
      have q1 : C.toList = B.toList := by rw [hcb]
      have q2 : (C.toList == B.toList) = true := by rw [hcb]; simp
      subst e1
      clear h1 h2 hCB e0
      go_enter Tryz.func50, Tryz.ntmps50
      go_wp2_with (first | (go_at_call 78; refine (k1 _).mono ?_; rintro e w1 ⟨rfl, hw⟩; have hw := hw.symm; subst hw) | (go_at_call 45; refine (k2 _).mono ?_; rintro e w2 ⟨rfl, b2⟩; have B2 := Lib.hid b2; clear b2))
      go_ret2
      exact ⟨T, rfl, by unfold Lq.Cut; rw [if_neg (by decide)], B2.out⟩
    · have e0 : ¬ C.data.toList = B.data.toList := fun q => hcb (hCB.1 q)
      have e1 : tr = true := by rw [h1]; simp [e0]
      subst e1
      have q1 : ¬ C.toList = B.toList := fun e => hcb (hCB.1 (by rw [← ByteArray.toList_eq, ← ByteArray.toList_eq]; exact e))
      have q2 : (C.toList == B.toList) = false := beq_eq_false_iff_ne.2 q1
      have HU := Lib.hid (h2 rfl)
      clear h1 h2 hCB hcb e0
      go_enter Tryz.func50, Tryz.ntmps50
      go_wp2_with (first | (go_at_call 78; refine (k1 _).mono ?_; rintro e w1 ⟨rfl, hw⟩; have hw := hw.symm; subst hw) | (go_at_call 45; refine (k2 _).mono ?_; rintro e w2 ⟨rfl, b2⟩; have B2 := Lib.hid b2; clear b2))
      go_ret2
      exact ⟨B, rfl, by unfold Lq.Cut; rw [if_pos rfl]; exact HU.out.symm, B2.out⟩
/-- what beyond answers -/
def Lx.beyond (ps : List Pc) : Int := if Lx.long ps = true then 1301 else if 1024 < ps.length then 1302 else 0
set_option maxRecDepth 100000 in
set_option maxHeartbeats 2000000 in
theorem Sq.beyond (ps : List Pc) (v : Value) (R : Nat → Prop) (w : World) (h : Pc.Lies w R ps v) :
    Calls Tryz.prog 25 #[v] w fun e w' => e = .returned (.int .i64 (Lx.beyond ps)) ∧ Below w.heap.size w w' := by
  obtain ⟨E, hE⟩ : ∃ E, Lx.beyond ps = E := ⟨_, rfl⟩
  rw [hE]
  have HE := Lib.hid hE
  clear hE
  obtain ⟨a1, d1, rfl, l1, m1, x1⟩ := h
  have hm : ps.length ≤ 9223372036854775807 := by unfold maxLen at m1; omega
  have X1 := Lib.hid x1
  clear x1
  go_enter Tryz.func25, Tryz.ntmps25
  go_wp2
  go_loopw [7] (fun i wr => ∃ j : Nat, j ≤ ps.length ∧ i = .int .i64 (j : Int) ∧ Hid (Lx.long (ps.take j) = false) ∧ Hid (Below w.heap.size w wr)) (fun i _ => ps.length - (intOf i).toNat)
  case atStart => exact ⟨0, Nat.zero_le _, rfl, rfl, Below.refl _ _⟩
  case round =>
    obtain ⟨j, hj, rfl, HL, HB⟩ := hrel
    by_cases hlt : j < ps.length
    · have hg := List.getElem?_eq_getElem hlt
      obtain ⟨b1, o1, rfl, hb1, c0, c1, c2⟩ := X1.out j ps[j] hg
      have c0 := Tp.keep HB.out c0
      have c1 := Tp.keep HB.out c1
      have c2 := Tp.keep HB.out c2
      have HG := Lib.hid hg
      have dlt : decide ((j : Int) < (ps.length : Int)) = true := decide_eq_true (by omega)
      clear hg
      generalize ps[j] = y at *
      have hd1 : j < d1 := by omega
      have zt : (⟨y.text.toArray⟩ : ByteArray).size = y.text.length := by rw [← Wk.len_data]
      have HZ := Lib.hid zt
      cases ha : y.act with
      | false =>
        have HL2 : Hid (Lx.long (ps.take (j + 1)) = false) := Lx.long_take HG.out HL.out (by rw [ha]; rfl)
        rw [ha] at c0
        generalize hT : (⟨y.text.toArray⟩ : ByteArray) = T at *
        have HB2 := Lib.hid (HB.out.alloc HB.out.size (.cells #[.bool false, .string T, .int .i64 (y.loc : Int)] 58))
        clear HG HL zt ha HZ hT
        go_wp2
        go_roundw
        case rel => exact ⟨j + 1, by omega, by go_num, HL2, HB2⟩
        case measure => simp [intOf]; omega
      | true =>
        rw [ha] at c0
        generalize hT : (⟨y.text.toArray⟩ : ByteArray) = T at *
        have HB2 := Lib.hid (HB.out.alloc HB.out.size (.cells #[.bool true, .string T, .int .i64 (y.loc : Int)] 58))
        by_cases h2 : 256 < y.text.length
        · have d2 : decide ((256 : Int) < (T.size : Int)) = true := decide_eq_true (by omega)
          have d2n : decide (256 < T.size) = true := decide_eq_true (by omega)
          have hl : Lx.long ps = true := Lx.long_at HG.out (by rw [ha, decide_eq_true h2]; rfl)
          have hE : 1301 = E := by rw [← HE.out]; unfold Lx.beyond; rw [if_pos hl]
          subst hE
          clear HG HL zt ha hl HE h2 hT HZ
          go_wp2
          go_ret
          exact ⟨rfl, HB2.out⟩
        · have d2 : decide ((256 : Int) < (T.size : Int)) = false := decide_eq_false (by omega)
          have d2n : decide (256 < T.size) = false := decide_eq_false (by omega)
          have HL2 : Hid (Lx.long (ps.take (j + 1)) = false) := Lx.long_take HG.out HL.out (by rw [ha, decide_eq_false h2]; rfl)
          clear HG HL zt ha h2 hT HZ
          go_wp2
          go_roundw
          case rel => exact ⟨j + 1, by omega, by go_num, HL2, HB2⟩
          case measure => simp [intOf]; omega
    · have e : j = ps.length := by omega
      subst e
      have dlt : decide ((ps.length : Int) < (ps.length : Int)) = false := decide_eq_false (by omega)
      have hl := HL.out
      rw [List.take_length] at hl
      by_cases h2 : 1024 < ps.length
      · have d2 : decide ((1024 : Int) < (ps.length : Int)) = true := decide_eq_true (by omega)
        have hE : 1302 = E := by rw [← HE.out]; unfold Lx.beyond; rw [if_neg (by rw [hl]; decide), if_pos h2]
        subst hE
        clear HL HE hl
        go_wp2
        go_ret
        exact ⟨rfl, HB.out⟩
      · have d2 : decide ((1024 : Int) < (ps.length : Int)) = false := decide_eq_false (by omega)
        have hE : 0 = E := by rw [← HE.out]; unfold Lx.beyond; rw [if_neg (by rw [hl]; decide), if_neg h2]
        subst hE
        clear HL HE hl
        go_wp2
        go_ret
        exact ⟨rfl, HB.out⟩
end Go.Proofs.YtjppobeomocgbaaGreatDoor
/-
  THE WALKS of lex's readText and readAction.
-/
namespace Go.Proofs.YtjppobeomocgbaaGreatDoor
open Go.RowKit
theorem Sq.M.then {w w' : World} {g : Nat} (h : Sq.M w g) (hb : Below g w w') (hg : 0 < g) : Sq.M w' g := by
  obtain ⟨h1, m, hm⟩ := h
  exact ⟨h1, m, (World.cell?_of_block (a := ⟨0, 0, none⟩) (hb.block _ hg)).trans hm⟩
theorem Sq.M.lt {w : World} {g : Nat} (h : Sq.M w g) : 0 < g := by have := h.1; omega
/-- a text, trimmed or not -/
def Lq.base (t : Bool) (l : List UInt8) : List UInt8 := if t = true then Lx.left l else l
def Lq.cut (m : Bool) (l : List UInt8) : List UInt8 := if m = true then Lx.right l else l
theorem Lq.one0 (k : Nat) : Lx.one [] k = [] := rfl
theorem Lq.one1 {T : List UInt8} (h : ¬ T = []) (k : Nat) : Lx.one T k = [⟨false, T, k⟩] := by unfold Lx.one; rw [if_neg h]
structure Sq.At2 (w w' : World) (g : Nat) (s : ByteArray) (i : Nat) (v : Value) (o : Int) (t : Bool) (ps : List Pc) : Prop where
  at' : Sq.At w' g s i v o t
  row : Sq.Row w' g v ps
  low : Below g w w'
theorem Sq.At2.keep {w w1 w2 : World} {g : Nat} {s : ByteArray} {i j : Nat} {v : Value} {o o' : Int} {t t' : Bool} {ps : List Pc} (h : Sq.At2 w w1 g s i v o t ps) (ha : Sq.At w2 g s j v o' t') (hk : Sq.Kept w1 w2 g) : Sq.At2 w w2 g s j v o' t' ps :=
  ⟨ha, h.row.on hk, h.low.trans (hk.below (Nat.le_of_lt (Bs.Box.lt h.at')))⟩
theorem Sq.At2.then {w w1 w2 : World} {g : Nat} {s : ByteArray} {i : Nat} {v : Value} {o : Int} {t : Bool} {ps : List Pc} (h : Sq.At2 w w1 g s i v o t ps) (hb : Below w1.heap.size w1 w2) : Sq.At2 w w2 g s i v o t ps :=
  h.keep (h.at'.then hb) (Sq.Kept.of g hb)
set_option maxRecDepth 100000 in
set_option maxHeartbeats 4000000 in
theorem Sq.readText (ps : List Pc) (g : Nat) (s : ByteArray) (p : Nat) (v : Value) (o : Int) (t : Bool) (w : World) (h : Sq.At w g s p v o t) (hr : Sq.Row w g v ps) (hM : Sq.M w g) (hp : p ≤ s.size) (hs : s.size ≤ 65536) (hn : ps.length ≤ 65536) (I : Nat) (m : Bool) (T : List UInt8) (hI : Lx.text p (s.data.toList.drop p) = I) (hm : Lx.mark s.data.toList (I + 2) = m) (hT : Lq.cut m (Lq.base t ((s.data.toList.drop p).take (I - p))) = T) :
    Calls Tryz.prog 23 #[.pointer (some ⟨g, 0, none⟩)] w fun e w' => ∃ v', e = .returned (.bool (decide (I < s.size))) ∧ Sq.At2 w w' g s (if I < s.size then (if m = true then I + 4 else I + 2) else I) v' (I : Int) t (ps ++ Lx.one T p) := by
  obtain ⟨B, hB⟩ : ∃ B, decide (I < s.size) = B := ⟨_, rfl⟩
  obtain ⟨q, hq⟩ : ∃ q, (if I < s.size then (if m = true then I + 4 else I + 2) else I) = q := ⟨_, rfl⟩
  obtain ⟨ps2, hps⟩ : ∃ ps2, ps ++ Lx.one T p = ps2 := ⟨_, rfl⟩
  rw [hB, hq, hps]
  have HB := Lib.hid hB
  have HQ := Lib.hid hq
  have HPS := Lib.hid hps
  clear hB hq hps
  have hIp := Lx.text_ge (s.data.toList.drop p) p
  rw [List.length_drop, Wk.len_data, hI] at hIp
  have hI2 : I ≤ s.size := by omega
  have u1 := Sq.upTo ⟨#[123, 123]⟩ I g s p v o t w h hM hIp.1 hI2 hs (by rw [← hI]; exact Ll.cut_text _ _)
  have hU : (s.extract p I).data.toList = (s.data.toList.drop p).take (I - p) := Lib.extract_data s p I
  have hUz : (s.extract p I).size ≤ 65536 := by rw [← Wk.len_data, hU, List.length_take, List.length_drop, Wk.len_data]; omega
  rw [← hU] at hT
  have op : ∀ (hl : I < s.size), Lx.two s.data.toList I 123 123 = true := fun hl => Lx.text_open hI (by rw [Wk.len_data]; exact hp) (by rw [Wk.len_data]; exact hl)
  generalize s.extract p I = U at *
  have c1 := h.c1
  have HA := Lib.hid (show Sq.At2 w w g s p v o t ps from ⟨h, hr, Below.refl _ _⟩)
  have HM := Lib.hid hM
  have HT := Lib.hid hT
  have HP := Lib.hid op
  clear hU hI hM hr h hT op
  go_enter Tryz.func23, Tryz.ntmps23
  go_upto_if 18 with (go_at_call 41; refine u1.mono ?_; rintro e w1 ⟨rfl, a1, b1⟩; have H1 := Lib.hid (HA.out.keep a1 b1); clear a1 b1 u1; have c4 := H1.out.at'.c4)
  go_cut [4] from 15 (fun u wx => ∃ U2 : ByteArray, u = .string U2 ∧ U2.size ≤ 65536 ∧ Hid (U2.data.toList = Lq.base t U.data.toList) ∧ Hid (Sq.At2 w wx g s I v o t ps))
  case first =>
    clear HT HP
    cases t with
    | false =>
      go_wp2_with fail
      go_meet
      exact ⟨U, rfl, hUz, rfl, H1⟩
    | true =>
      have k1 := fun u => Sh.strings_TrimLeft U ⟨#[9, 10, 32]⟩ u (by decide) (Go.Proofs.ascii_of_all (by decide))
      rw [show Lib.trimLeftS U.data.toList (⟨#[9, 10, 32]⟩ : ByteArray).data.toList = Lx.left U.data.toList from Ll.left _] at k1
      have hl := Lx.left_len U.data.toList
      rw [Wk.len_data] at hl
      go_wp2_with (go_at_call 42; refine (k1 _).mono ?_; rintro e w2 ⟨rfl, b2⟩; have H2 := Lib.hid (H1.out.then b2); clear b2)
      go_meet
      exact ⟨⟨(Lx.left U.data.toList).toArray⟩, rfl, by rw [← Wk.len_data]; show (Lx.left U.data.toList).toArray.toList.length ≤ _; rw [List.toList_toArray]; omega, rfl, H2⟩
  case rest =>
    clear H1 c4 c1
    obtain ⟨U2, rfl, hU2, HU2, H1⟩ := hcut
    have hT2 := HT.out
    rw [← HU2.out] at hT2
    have c1 := H1.out.at'.c1
    have c3 := H1.out.at'.c3
    have f := H1.out.at'.fz
    have hgw : g < wc.heap.size := Bs.Box.lt H1.out.at'
    have H2 : Hid (Sq.At2 w (wc.setCell ⟨g, 3, none⟩ (.int .i64 (I : Int))) g s I v (I : Int) t ps) := H1.out.keep (H1.out.at'.set3 _) ((Sq.Kept.refl _ _).set _ _)
    clear HT HU2 H1
    by_cases hl : I < s.size
    · have s1 := fun u q => Sq.skip2T 123 123 g s I v (I : Int) t u q hI2 hs (HP.out hl)
      have hl2 := Lx.two_lt (HP.out hl)
      rw [Wk.len_data] at hl2
      have m1 := fun u q => Sq.trimMark g s (I + 2) v (I : Int) t u q hl2 hs
      rw [hm] at m1
      have hB := HB.out
      rw [decide_eq_true hl] at hB
      subst hB
      have hq := HQ.out
      rw [if_pos hl] at hq
      clear HB HQ
      cases m with
      | true =>
        rw [if_pos rfl] at hq
        subst hq
        have hT3 : Lx.right U2.data.toList = T := hT2
        have k2 := fun u => Sh.strings_TrimRight U2 ⟨#[9, 10, 32]⟩ u (by omega) (by decide) (Go.Proofs.ascii_of_all (by decide))
        rw [show Lib.trimRightS U2.data.toList (⟨#[9, 10, 32]⟩ : ByteArray).data.toList = Lx.right U2.data.toList from Ll.right _, hT3] at k2
        have hz3 : T.length ≤ 65536 := by rw [← hT3]; have := Lx.right_len U2.data.toList; rw [Wk.len_data] at this; omega
        clear hT2 hT3 HP hl hm
        by_cases hT0 : T = []
        · subst hT0
          have n0 : (⟨([] : List UInt8).toArray⟩ : ByteArray).toList = [] := by rw [ByteArray.toList_eq]
          have n1 : (⟨([] : List UInt8).toArray⟩ : ByteArray).toList.isEmpty = true := by rw [n0]; rfl
          have n2 : ((⟨([] : List UInt8).toArray⟩ : ByteArray).toList != []) = false := by rw [n0]; rfl
          have n3 : ((⟨([] : List UInt8).toArray⟩ : ByteArray).toList == []) = true := by rw [n0]; rfl
          have hps := HPS.out
          rw [Lq.one0, List.append_nil] at hps
          subst hps
          generalize (⟨([] : List UInt8).toArray⟩ : ByteArray) = E at *
          go_wp2_with (first | (go_at_call 43; refine (s1 _ H2.out.at').mono ?_; rintro e w3 ⟨rfl, a3, b3⟩; have H3 := Lib.hid (H2.out.keep a3 b3); clear a3 b3 s1 H2) | (go_at_call 44; refine (m1 _ H3.out.at').mono ?_; rintro e w4 ⟨rfl, a4, b4⟩; have H4 := Lib.hid (H3.out.keep a4 b4); clear a4 b4 m1 H3) | (go_at_call 45; refine (k2 _).mono ?_; rintro e w5 ⟨rfl, b5⟩; have H5 := Lib.hid (H4.out.then b5); clear b5 k2 H4))
          go_ret
          exact ⟨v, rfl, H5.out⟩
        · have n0 : ¬ (⟨T.toArray⟩ : ByteArray).toList = [] := by rw [ByteArray.toList_eq]; exact hT0
          have n1 : (⟨T.toArray⟩ : ByteArray).toList.isEmpty = false := List.isEmpty_eq_false_iff.2 n0
          have n2 : ((⟨T.toArray⟩ : ByteArray).toList != []) = true := by simpa using n0
          have n3 : ((⟨T.toArray⟩ : ByteArray).toList == []) = false := by simpa using n0
          have tl := fun (i' : Nat) u q r => Sq.tell false ⟨T.toArray⟩ p ps g s i' v (I : Int) t u q r hn (by rw [← Wk.len_data]; exact hz3)
          rw [show (⟨T.toArray⟩ : ByteArray).data.toList = T from rfl] at tl
          have hps := HPS.out
          rw [Lq.one1 hT0] at hps
          subst hps
          clear HPS
          generalize (⟨T.toArray⟩ : ByteArray) = E at *
          go_wp2_with (first | (go_at_call 43; refine (s1 _ H2.out.at').mono ?_; rintro e w3 ⟨rfl, a3, b3⟩; have H3 := Lib.hid (H2.out.keep a3 b3); clear a3 b3 s1 H2) | (go_at_call 44; refine (m1 _ H3.out.at').mono ?_; rintro e w4 ⟨rfl, a4, b4⟩; have H4 := Lib.hid (H3.out.keep a4 b4); clear a4 b4 m1 H3) | (go_at_call 45; refine (k2 _).mono ?_; rintro e w5 ⟨rfl, b5⟩; have H5 := Lib.hid (H4.out.then b5); clear b5 k2 H4) | (go_at_call 46; refine (tl _ _ H5.out.at' H5.out.row).mono ?_; rintro e w6 ⟨v6, rfl, a6, r6, b6⟩; have H6 := Lib.hid (show Sq.At2 w w6 g s _ v6 (I : Int) t (ps ++ [⟨false, T, p⟩]) from ⟨a6, r6, H5.out.low.trans b6⟩); clear a6 r6 b6))
          go_ret
          exact ⟨v6, rfl, H6.out⟩
      | false =>
        rw [if_neg (by decide)] at hq
        subst hq
        have hT3 : U2.data.toList = T := hT2
        have hz3 : T.length ≤ 65536 := by rw [← hT3, Wk.len_data]; exact hU2
        have hU3 : U2 = ⟨T.toArray⟩ := WideShapes.bytes_inj (by rw [hT3])
        subst hU3
        clear hT2 hT3 HP hl hm
        by_cases hT0 : T = []
        · subst hT0
          have n0 : (⟨([] : List UInt8).toArray⟩ : ByteArray).toList = [] := by rw [ByteArray.toList_eq]
          have n1 : (⟨([] : List UInt8).toArray⟩ : ByteArray).toList.isEmpty = true := by rw [n0]; rfl
          have n2 : ((⟨([] : List UInt8).toArray⟩ : ByteArray).toList != []) = false := by rw [n0]; rfl
          have n3 : ((⟨([] : List UInt8).toArray⟩ : ByteArray).toList == []) = true := by rw [n0]; rfl
          have hps := HPS.out
          rw [Lq.one0, List.append_nil] at hps
          subst hps
          generalize (⟨([] : List UInt8).toArray⟩ : ByteArray) = E at *
          go_wp2_with (first | (go_at_call 43; refine (s1 _ H2.out.at').mono ?_; rintro e w3 ⟨rfl, a3, b3⟩; have H3 := Lib.hid (H2.out.keep a3 b3); clear a3 b3 s1 H2) | (go_at_call 44; refine (m1 _ H3.out.at').mono ?_; rintro e w4 ⟨rfl, a4, b4⟩; have H4 := Lib.hid (H3.out.keep a4 b4); clear a4 b4 m1 H3))
          go_ret
          exact ⟨v, rfl, H4.out⟩
        · have n0 : ¬ (⟨T.toArray⟩ : ByteArray).toList = [] := by rw [ByteArray.toList_eq]; exact hT0
          have n1 : (⟨T.toArray⟩ : ByteArray).toList.isEmpty = false := List.isEmpty_eq_false_iff.2 n0
          have n2 : ((⟨T.toArray⟩ : ByteArray).toList != []) = true := by simpa using n0
          have n3 : ((⟨T.toArray⟩ : ByteArray).toList == []) = false := by simpa using n0
          have tl := fun (i' : Nat) u q r => Sq.tell false ⟨T.toArray⟩ p ps g s i' v (I : Int) t u q r hn (by rw [← Wk.len_data]; exact hz3)
          rw [show (⟨T.toArray⟩ : ByteArray).data.toList = T from rfl] at tl
          have hps := HPS.out
          rw [Lq.one1 hT0] at hps
          subst hps
          clear HPS
          generalize (⟨T.toArray⟩ : ByteArray) = E at *
          go_wp2_with (first | (go_at_call 43; refine (s1 _ H2.out.at').mono ?_; rintro e w3 ⟨rfl, a3, b3⟩; have H3 := Lib.hid (H2.out.keep a3 b3); clear a3 b3 s1 H2) | (go_at_call 44; refine (m1 _ H3.out.at').mono ?_; rintro e w4 ⟨rfl, a4, b4⟩; have H4 := Lib.hid (H3.out.keep a4 b4); clear a4 b4 m1 H3) | (go_at_call 46; refine (tl _ _ H4.out.at' H4.out.row).mono ?_; rintro e w6 ⟨v6, rfl, a6, r6, b6⟩; have H6 := Lib.hid (show Sq.At2 w w6 g s _ v6 (I : Int) t (ps ++ [⟨false, T, p⟩]) from ⟨a6, r6, H4.out.low.trans b6⟩); clear a6 r6 b6))
          go_ret
          exact ⟨v6, rfl, H6.out⟩
    · have hI3 : I = s.size := by omega
      have s1 := fun u q => Sq.skip2F 123 123 g s I v (I : Int) t u q hI2 hs (Lx.two_false (by omega) _ _)
      have hm2 : m = false := by rw [← hm, Lx.mark_eq, dif_neg (by omega)]
      subst hm2
      have hB := HB.out
      rw [decide_eq_false hl] at hB
      subst hB
      have hq := HQ.out
      rw [if_neg hl] at hq
      subst hq
      clear HB HQ
      have hT3 : U2.data.toList = T := hT2
      have hz3 : T.length ≤ 65536 := by rw [← hT3, Wk.len_data]; exact hU2
      have hU3 : U2 = ⟨T.toArray⟩ := WideShapes.bytes_inj (by rw [hT3])
      subst hU3
      clear hT2 hT3 HP hm hI3 hl
      by_cases hT0 : T = []
      · subst hT0
        have n0 : (⟨([] : List UInt8).toArray⟩ : ByteArray).toList = [] := by rw [ByteArray.toList_eq]
        have n1 : (⟨([] : List UInt8).toArray⟩ : ByteArray).toList.isEmpty = true := by rw [n0]; rfl
        have n2 : ((⟨([] : List UInt8).toArray⟩ : ByteArray).toList != []) = false := by rw [n0]; rfl
        have n3 : ((⟨([] : List UInt8).toArray⟩ : ByteArray).toList == []) = true := by rw [n0]; rfl
        have hps := HPS.out
        rw [Lq.one0, List.append_nil] at hps
        subst hps
        generalize (⟨([] : List UInt8).toArray⟩ : ByteArray) = E at *
        go_wp2_with (first | (go_at_call 43; refine (s1 _ H2.out.at').mono ?_; rintro e w3 ⟨rfl, a3, b3⟩; have H3 := Lib.hid (H2.out.keep a3 b3); clear a3 b3 s1 H2))
        go_ret
        exact ⟨v, rfl, H3.out⟩
      · have n0 : ¬ (⟨T.toArray⟩ : ByteArray).toList = [] := by rw [ByteArray.toList_eq]; exact hT0
        have n1 : (⟨T.toArray⟩ : ByteArray).toList.isEmpty = false := List.isEmpty_eq_false_iff.2 n0
        have n2 : ((⟨T.toArray⟩ : ByteArray).toList != []) = true := by simpa using n0
        have n3 : ((⟨T.toArray⟩ : ByteArray).toList == []) = false := by simpa using n0
        have tl := fun (i' : Nat) u q r => Sq.tell false ⟨T.toArray⟩ p ps g s i' v (I : Int) t u q r hn (by rw [← Wk.len_data]; exact hz3)
        rw [show (⟨T.toArray⟩ : ByteArray).data.toList = T from rfl] at tl
        have hps := HPS.out
        rw [Lq.one1 hT0] at hps
        subst hps
        clear HPS
        generalize (⟨T.toArray⟩ : ByteArray) = E at *
        go_wp2_with (first | (go_at_call 43; refine (s1 _ H2.out.at').mono ?_; rintro e w3 ⟨rfl, a3, b3⟩; have H3 := Lib.hid (H2.out.keep a3 b3); clear a3 b3 s1 H2) | (go_at_call 46; refine (tl _ _ H3.out.at' H3.out.row).mono ?_; rintro e w6 ⟨v6, rfl, a6, r6, b6⟩; have H6 := Lib.hid (show Sq.At2 w w6 g s _ v6 (I : Int) t (ps ++ [⟨false, T, p⟩]) from ⟨a6, r6, H3.out.low.trans b6⟩); clear a6 r6 b6))
        go_ret
        exact ⟨v6, rfl, H6.out⟩
end Go.Proofs.YtjppobeomocgbaaGreatDoor
