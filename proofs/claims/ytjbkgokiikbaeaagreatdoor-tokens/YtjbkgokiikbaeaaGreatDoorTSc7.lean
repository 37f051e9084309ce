/-
  THE WALK of the reference's commit.
-/
import Derived.Test.YtjbkgokiikbaeaaGreatDoorMTSc4toTSc6
namespace Go.Proofs.YtjbkgokiikbaeaaGreatDoor
open Go.RowKit
theorem Sc.drewN (w : World) (n : Nat) : Below w.heap.size w (w.drewN n) := ⟨rfl, rfl, rfl, Nat.le_refl _, fun _ _ => rfl⟩
theorem Sc.drewN2 (w : World) (n m : Nat) : Below w.heap.size w ((w.drewN n).drewN m) := ⟨rfl, rfl, rfl, Nat.le_refl _, fun _ _ => rfl⟩
theorem Sc.undrew {V w1 : World} (h : Below V.drew.heap.size V.drew w1) : Below V.heap.size V w1 := ⟨h.os, h.tape, h.output, h.size, h.block⟩
theorem Sc.toList_ne {a b : ByteArray} (h : ¬ a = b) : (a.toList == b.toList) = false := by
  refine beq_eq_false_iff_ne.2 (fun e => h ?_)
  rw [ByteArray.toList_eq, ByteArray.toList_eq] at e
  apply ByteArray.ext
  exact Array.toList_inj.1 e
theorem Sc.any_true {l : List (ByteArray × ByteArray)} {n : ByteArray} {j : Nat} (hj : j < l.length) (h : l[j].1 = n) : l.any (fun a => decide (a.1 = n)) = true := List.any_eq_true.2 ⟨l[j], List.getElem_mem hj, decide_eq_true h⟩
theorem Sc.any_false {l : List (ByteArray × ByteArray)} {n : ByteArray} (h : ∀ i (hi : i < l.length), ¬ l[i].1 = n) : ¬ l.any (fun a => decide (a.1 = n)) = true := by
  intro q
  obtain ⟨y, hy, hz⟩ := List.any_eq_true.1 q
  obtain ⟨i, hi, rfl⟩ := List.getElem_of_mem hy
  exact h i hi (of_decide_eq_true hz)
set_option maxRecDepth 100000 in
set_option maxHeartbeats 8000000 in
theorem Sc.commit (P : ByteArray) (x : Rf) (w : World) (g : Nat) (bv ov av : Value) (h : Sc.At w g P x bv ov av) (hl : x.pv.size ≤ 65536) (ha : x.attrs.length ≤ 32) :
    Calls Tryz.prog 106 #[.pointer (some ⟨g, 0, none⟩)] w fun e w' => e = .returned (.tuple #[]) ∧ ∃ av', Sc.At w' g P x.commit bv ov av' ∧ Sc.Kept w w' g bv ov av bv ov av' := by
  cases hh : x.has with
  | false =>
    have HX : Hid (x.commit = x) := by unfold Hid Rf.commit; rw [if_neg (by rw [hh]; decide)]
    have c12 := h.box.cell 12 _ rfl
    rw [hh] at c12
    have HA := Lib.hid h
    clear h hl ha hh
    go_enter Tryz.func106, Tryz.ntmps106
    go_wp2
    refine bodyPost_ret (v := .tuple #[]) (by simp [results, Tryz.results106, go_sem]) rfl ⟨rfl, _, ?_, Sc.Kept.refl _ _ _ _ _⟩
    rw [HX.out]
    exact HA.out
  | true =>
    obtain ⟨aa, ad, rfl⟩ := Rm.form h.attrs
    have c12 := h.box.cell 12 _ rfl
    rw [hh] at c12
    have fz := h.box.fz
    have hA1 := h.set (x' := { x with has := false }) 12 (.bool false) (by decide) rfl rfl rfl rfl
    have hK1 := Sc.Kept.set w g 12 (.bool false) bv ov (.slice aa x.attrs.length ad)
    obtain ⟨W, hW⟩ : ∃ W, w.setCell ⟨g, 12, none⟩ (.bool false) = W := ⟨_, rfl⟩
    rw [hW] at hA1 hK1
    have e11 := hA1.box.cell 11 _ rfl
    have e13 := hA1.box.cell 13 _ rfl
    have e14 := hA1.box.cell 14 _ rfl
    have ef := hA1.box.fz
    have hlW := hA1.lt
    have hli := Ak.Lies.own hA1.attrs
    obtain ⟨aa', ad', eq1, l1, m1, x1⟩ := hli
    injection eq1 with q1 q2 q3
    subst q1 q3
    have X1 := Lib.hid x1
    have HA1 := Lib.hid hA1
    have HK1 := Lib.hid hK1
    have HH := Lib.hid hh
    have hde := fun u => Rt.decode x.pv u (by omega)
    clear h hA1 hK1 x1 q2 m1 hh
    have hm : x.attrs.length ≤ ad := l1
    go_enter Tryz.func106, Tryz.ntmps106
    go_wp2
    try rw [hW]
    clear hW c12 fz
    go_loopw [2] (fun i wr => ∃ j n : Nat, j ≤ x.attrs.length ∧ i = .int .i64 (j : Int) ∧ wr = W.drewN n ∧ Hid (∀ i (_ : i < j) (hi : i < x.attrs.length), ¬ x.attrs[i].1 = x.pn)) (fun i _ => x.attrs.length - (intOf i).toNat)
    case atStart => exact ⟨0, 0, Nat.zero_le _, rfl, rfl, fun i h => absurd h (Nat.not_lt_zero _)⟩
    case round =>
      obtain ⟨j, n, hj, rfl, rfl, HJ⟩ := hrel
      by_cases hlt : j < x.attrs.length
      · obtain ⟨b1, o1, rfl, _, c1, c1'⟩ := X1.out j x.attrs[j] (List.getElem?_eq_getElem hlt)
        have hd1 : j < ad := by omega
        by_cases he : x.attrs[j].1 = x.pn
        · have te : (x.attrs[j].1.toList == x.pn.toList) = true := by rw [he]; simp
          have HX : Hid (x.commit = { x with has := false }) := by unfold Hid Rf.commit; rw [if_pos HH.out, if_pos (Sc.any_true hlt he)]
          clear HJ he c1'
          generalize x.attrs[j].1 = y at *
          go_wp2_with fail
          go_quiet (fail)
          go_wp2
          refine bodyPost_ret (v := .tuple #[]) (by simp [results, Tryz.results106, go_sem]) rfl ⟨rfl, _, ?_, HK1.out.trans (Sc.Kept.of _ _ _ _ (Sc.drewN2 _ _ _))⟩
          rw [HX.out]
          exact HA1.out.on (Sc.drewN2 _ _ _)
        · have te : (x.attrs[j].1.toList == x.pn.toList) = false := Sc.toList_ne he
          have HJ2 : Hid (∀ i (_ : i < j + 1) (hi : i < x.attrs.length), ¬ x.attrs[i].1 = x.pn) := fun i hi hl => by
            by_cases e : i = j
            · subst e; exact he
            · exact HJ.out i (by omega) hl
          clear HJ he c1'
          generalize x.attrs[j].1 = y at *
          go_wp2_with fail
          go_quiet (fail)
          go_wp2
          go_roundw
          case rel => exact ⟨j + 1, _, by omega, by go_num, rfl, HJ2⟩
          case measure => simp [intOf]; omega
      · have hjl : j = x.attrs.length := by omega
        have hno := Sc.any_false (l := x.attrs) (n := x.pn) (fun i hi => HJ.out i (by omega) hi)
        by_cases h32 : x.attrs.length < 32
        · have t32 : decide ((x.attrs.length : Int) < 32) = true := decide_eq_true (by omega)
          have HX : Hid (x.commit = { ({ x with has := false } : Rf) with attrs := x.attrs ++ [(x.pn, Rd.dec x.pv)] }) := by unfold Hid Rf.commit; rw [if_pos HH.out, if_neg hno, if_pos h32]
          have hde2 : ∀ u, Calls Tryz.prog 85 #[.string x.pv] u fun e w' => e = .returned (.string (Rd.dec x.pv)) ∧ Below u.heap.size u w' := hde
          have HN : Hid (x.attrs.length + 1 ≤ maxLen ∧ (x.attrs.length + 1) * 32 ≤ 140737488355328) := ⟨by unfold maxLen; omega, by omega⟩
          have HO := Lib.hid HA1.out.attrs
          generalize Rd.dec x.pv = D at *
          clear HJ hno hde hjl
          have HA2 := Lib.hid (HA1.out.on (Sc.drewN W n))
          have HK2 := Lib.hid (HK1.out.trans (Sc.Kept.of g bv ov (.slice aa x.attrs.length ad) (Sc.drewN W n)))
          go_wp2_with fail
          generalize W.drewN n = V at *
          have f11 := HA2.out.box.cell 11 _ rfl
          have f13 := HA2.out.box.cell 13 _ rfl
          have f14 := HA2.out.box.cell 14 _ rfl
          have ff := HA2.out.box.fz
          have hlV := HA2.out.lt
          clear e11 e13 e14 ef X1 HO HA1 HK1
          have HO := Lib.hid HA2.out.attrs
          go_region_law (first | (refine Ro.step_push rfl (.tmp 44) (.tmp 57) 41 45 2 32 _ rfl Tryz.underlying41 Rm.infoA rfl (by decide) (.slice aa x.attrs.length ad) (by rfl) (HO1.out.alloc _) w1.heap.size (Ak.cells [(x.pn, D)]) (by rfl) (Sc.two_cells _ x.pn D _ rfl) rfl (Ak.cells_one _) HN.out.1 HN.out.2 (by first | omega | (simp; omega)) ?_; intro v4 w4 R4 hg4 hf4; obtain ⟨a4, d4, rfl⟩ := Rm.form R4; have hq := HB1.out.alloc HB1.out.size (.cells #[.string x.pn, .string D] 45); obtain ⟨z1, z2⟩ := Sc.At.attrPut (n := x.pn) (v := D) HA2.out hq R4 hg4 (by simpa using hf4); have B4 := HA2.out.box.on (w' := w4) ((hg4.block g (Nat.lt_of_lt_of_le hlV hq.size) (fun e => by have := (HO.out.lt g e.symm).1; omega)).trans (hq.block g hlV)); have d11 := B4.cell 11 _ rfl; have df := B4.fz; have HZ := Lib.hid z1; have HZK := Lib.hid z2; clear R4 hg4 hf4 hq z1 z2 B4) | (rw [if_pos (by simp [Region.wanted])]; go_simp; go_at_call 85; refine (hde2 _).mono ?_; rintro e w1 ⟨rfl, hb1⟩; have hb1 := Sc.undrew hb1; have k11 := Tp.keep hb1 f11; have k13 := Tp.keep hb1 f13; have k14 := Tp.keep hb1 f14; have hs1 := hb1.size; have hg1 : g < w1.heap.size := Nat.lt_of_lt_of_le hlV hs1; have k11' : ∀ o, (w1.alloc o).cell? ⟨g, 11, none⟩ = some (.slice aa x.attrs.length ad) := fun o => (World.cell?_alloc_lt _ _ _ hg1).trans k11; have k13' : ∀ o, (w1.alloc o).cell? ⟨g, 13, none⟩ = some (.string x.pn) := fun o => (World.cell?_alloc_lt _ _ _ hg1).trans k13; have HO1 := Lib.hid (Rm.own_on HO.out (fun k hk => hb1.block k (HO.out.lt k hk).2)); have HB1 := Lib.hid hb1; clear hb1))
          all_goals go_wp2
          all_goals go_end0
          all_goals exact ⟨rfl, _, by rw [HX.out]; exact HZ.out, HK2.out.trans HZK.out⟩
        · have t32 : decide ((x.attrs.length : Int) < 32) = false := decide_eq_false (by omega)
          have HX : Hid (x.commit = { x with has := false }) := by unfold Hid Rf.commit; rw [if_pos HH.out, if_neg hno, if_neg h32]
          clear HJ hno hde hjl
          go_wp2
          go_end0
          exact ⟨rfl, _, by rw [HX.out]; exact HA1.out.on (Sc.drewN _ _), HK1.out.trans (Sc.Kept.of _ _ _ _ (Sc.drewN _ _))⟩
end Go.Proofs.YtjbkgokiikbaeaaGreatDoor
