/-
  THE WALK of the reference's cursor.word.
-/
import Derived.Test.YtjppobeomocgbaaGreatDoorTOTexttoOPath
namespace Go.Proofs.YtjppobeomocgbaaGreatDoor
open Go.RowKit
/-- path behind an error: nothing -/
theorem Cu.path1 (s : ByteArray) (i g : Nat) (w : World) (h : Cu.At w g s i 1400) : Calls Tryz.prog 92 #[.pointer (some ⟨g, 0, none⟩)] w fun e w' => e = .returned (.slice none 0 0) ∧ ∃ n, w' = w.drewN n := by
  have c0 := h.c0
  have c1 := h.c1
  have c2 := h.c2
  clear h
  go_enter Tryz.func92, Tryz.ntmps92
  go_wp2_with fail
  go_loopw [3] (fun v wr => v = .slice none 0 0 ∧ wr = w) (fun _ _ => 0)
  case atStart => exact ⟨rfl, rfl⟩
  case round =>
    obtain ⟨rfl, hw⟩ := hrel
    have hw := hw.symm
    subst hw
    go_upto_region 2 with fail
    go_quiet (fail)
    go_wp2
    go_ret
    exact ⟨rfl, _, rfl⟩
/-- what word answers -/
structure Cu.WOut (w : World) (g : Nat) (s : ByteArray) (i : Nat) (e : Ending) (w' : World) : Prop where
  all : ∃ (k : Nat) (t : ByteArray) (v : Value) (m : Int) (j : Nat) (x : Int), e = .returned (.agg #[.int .i64 (k : Int), .string t, v, .int .i64 m]) ∧ (∃ a n d, v = .slice a n d) ∧ i ≤ j ∧ j ≤ s.size ∧ Cu.At w' g s j x ∧ Cu.Kept w w' g ∧ ((x = 0 ∧ ∃ ts, Wx.word s.data.toList i = .ok (⟨k, t.data.toList, ts, m⟩, j) ∧ St.Lies w' (fun b => w.heap.size ≤ b ∧ b < w'.heap.size ∧ Rm.Ub w' b) ts v) ∨ ((x == 0) = false ∧ Wx.word s.data.toList i = .error x))
/-- the word's own variable, written -/
def Cu.four (w : World) (r : Nat) (v0 v1 v2 v3 : Value) : World := (((w.setCell ⟨r, 0, none⟩ v0).setCell ⟨r, 1, none⟩ v1).setCell ⟨r, 2, none⟩ v2).setCell ⟨r, 3, none⟩ v3
theorem Cu.four_block (w : World) (r : Nat) (v0 v1 v2 v3 : Value) {k : Nat} (h : k ≠ r) : (Cu.four w r v0 v1 v2 v3).heap[k]? = w.heap[k]? := by
  unfold Cu.four
  rw [Below.heap_setCell _ _ _ _ h, Below.heap_setCell _ _ _ _ h, Below.heap_setCell _ _ _ _ h, Below.heap_setCell _ _ _ _ h]
theorem Cu.four_size (w : World) (r : Nat) (v0 v1 v2 v3 : Value) : (Cu.four w r v0 v1 v2 v3).heap.size = w.heap.size := by
  unfold Cu.four
  simp
theorem Cu.four_at {w : World} {r g : Nat} {v0 v1 v2 v3 : Value} {s : ByteArray} {j : Nat} {x : Int} (h : Cu.At w g s j x) (hr : g < r) : Cu.At (Cu.four w r v0 v1 v2 v3) g s j x := (Cu.four_block w r v0 v1 v2 v3 (Nat.ne_of_lt hr)).trans h
theorem Cu.four_kept {w0 w : World} {r g : Nat} {v0 v1 v2 v3 : Value} (h : Cu.Kept w0 w g) (hr : w0.heap.size ≤ r) : Cu.Kept w0 (Cu.four w r v0 v1 v2 v3) g :=
  ⟨h.os, h.tape, h.output, by rw [Cu.four_size]; exact h.size, fun k hk hg => (Cu.four_block w r v0 v1 v2 v3 (by omega)).trans (h.block k hk hg)⟩
theorem Cu.four_lies {w : World} {r B B2 : Nat} {v0 v1 v2 v3 v : Value} {ts : List (List UInt8)} (h : St.Lies w (fun b => B2 ≤ b ∧ b < w.heap.size ∧ Rm.Ub w b) ts v) (hr : r < B2) (hB : B ≤ B2) : St.Lies (Cu.four w r v0 v1 v2 v3) (fun b => B ≤ b ∧ b < (Cu.four w r v0 v1 v2 v3).heap.size ∧ Rm.Ub (Cu.four w r v0 v1 v2 v3) b) ts v :=
  h.on fun k hk => by
    have e := Cu.four_block w r v0 v1 v2 v3 (k := k) (by omega)
    exact ⟨⟨by omega, by rw [Cu.four_size]; exact hk.2.1, hk.2.2.on e⟩, e⟩
set_option maxRecDepth 100000 in
set_option maxHeartbeats 4000000 in
theorem Cu.word (s : ByteArray) (i g : Nat) (w : World) (h : Cu.At w g s i 0) (hi : i < s.size) (hs : s.size ≤ 4398046511104) :
    Calls Tryz.prog 60 #[.pointer (some ⟨g, 0, none⟩)] w fun e w' => Cu.WOut w g s i e w' := by
  have hg := Bs.Box.lt h
  have H := Lib.hid h
  clear h
  have HC : Hid (s.data.toList.getD i 0 = s[i]) := by unfold Hid; rw [List.getD_eq_getElem?_getD, Wx.get hi]; rfl
  obtain ⟨WW, hWW⟩ : ∃ WW, Wx.word s.data.toList i = WW := ⟨_, rfl⟩
  have HW := Lib.hid hWW
  unfold Wx.word at hWW
  simp only [HC.out] at hWW
  have HQ := Lib.hid hWW
  clear hWW HC
  go_enter Tryz.func60, Tryz.ntmps60
  go_upto_region 1 with fail
  have HX : Hid (Bs.Box (w.alloc (.cells #[.int .i64 0, .string ⟨#[]⟩, .slice none 0 0, .int .i64 0] 91)) w.heap.size #[.int .i64 0, .string ⟨#[]⟩, .slice none 0 0, .int .i64 0] 91) := Bs.Box.new _ _ _ _ rfl
  have HA := Lib.hid (H.out.then ((Below.refl w.heap.size w).alloc (Nat.le_refl _) (.cells #[.int .i64 0, .string ⟨#[]⟩, .slice none 0 0, .int .i64 0] 91)))
  have HK := Lib.hid ((Cu.Kept.refl w g).alloc (.cells #[.int .i64 0, .string ⟨#[]⟩, .slice none 0 0, .int .i64 0] 91))
  clear H
  generalize w.alloc (.cells #[.int .i64 0, .string ⟨#[]⟩, .slice none 0 0, .int .i64 0] 91) = w1 at *
  have c0 := HA.out.c0
  have c1 := HA.out.c1
  go_quiet (fail)
  replace HX : Hid (Bs.Box (w1.drewN nq) w.heap.size #[.int .i64 0, .string ⟨#[]⟩, .slice none 0 0, .int .i64 0] 91) := HX
  replace HA := Lib.hid (HA.out.drewN nq)
  replace HK := Lib.hid (HK.out.drewN nq)
  clear c0 c1
  generalize w1.drewN nq = w2 at *
  have hr2 : w.heap.size < w2.heap.size := HX.out.lt
  obtain ⟨r, hr⟩ : ∃ r, w.heap.size = r := ⟨_, rfl⟩
  have HRR := Lib.hid hr
  rw [hr] at HX hr2
  have hgr : g < r := by omega
  have c0 := HA.out.c0
  have c1 := HA.out.c1
  have c2 := HA.out.c2
  have f := HA.out.fz
  have x0 : w2.cell? ⟨r, 0, none⟩ = some (.int .i64 0) := HX.out.cell 0 rfl
  have x1 : w2.cell? ⟨r, 1, none⟩ = some (.string ⟨#[]⟩) := HX.out.cell 1 rfl
  have x2 : w2.cell? ⟨r, 2, none⟩ = some (.slice none 0 0) := HX.out.cell 2 rfl
  have x3 : w2.cell? ⟨r, 3, none⟩ = some (.int .i64 0) := HX.out.cell 3 rfl
  have xf := fun q => HX.out.frozen q
  have hne : ¬ g = r := by omega
  have hne2 : ¬ r = g := by omega
  have hrw : w.heap.size ≤ r := by omega
  rw [hr]
  clear hr

  by_cases h124 : s[i] = 124
  · have t124 : ((s[i].toNat : Int) == 124) = true := Tp.eq_true (d := 124) h124
    have hq := HQ.out
    rw [if_pos h124] at hq
    have HWW := Lib.hid (HW.out.trans hq.symm)
    clear hq HQ HW h124
    have HAs := Lib.hid (HA.out.set1 (i + 1))
    have HKs := Lib.hid (HK.out.set 1 (.int .i64 ((i + 1 : Nat) : Int)))
    have HXs : Hid (Bs.Box (w2.setCell ⟨g, 1, none⟩ (.int .i64 ((i + 1 : Nat) : Int))) r #[.int .i64 0, .string ⟨#[]⟩, .slice none 0 0, .int .i64 0] 91) := (Below.heap_setCell _ _ _ _ hne2).trans HX.out
    rw [show ((i + 1 : Nat) : Int) = (i : Int) + 1 by omega] at HAs HKs HXs
    go_upto_region 4 with fail
    generalize w2.setCell ⟨g, 1, none⟩ (.int .i64 ((i : Int) + 1)) = w3 at *
    obtain ⟨k, hk⟩ : ∃ k, i + 1 = k := ⟨_, rfl⟩
    rw [hk] at HAs
    have hki : i < k := by omega
    have hks : k ≤ s.size := by omega
    have HKI := Lib.hid hk
    clear hk
    clear c0 c1 c2 f x0 x1 x2 x3 xf
    have c0 := HAs.out.c0
    have c1 := HAs.out.c1
    have c2 := HAs.out.c2
    have f := HAs.out.fz
    have x0 : w3.cell? ⟨r, 0, none⟩ = some (.int .i64 0) := HXs.out.cell 0 rfl
    have x1 : w3.cell? ⟨r, 1, none⟩ = some (.string ⟨#[]⟩) := HXs.out.cell 1 rfl
    have x2 : w3.cell? ⟨r, 2, none⟩ = some (.slice none 0 0) := HXs.out.cell 2 rfl
    have x3 : w3.cell? ⟨r, 3, none⟩ = some (.int .i64 0) := HXs.out.cell 3 rfl
    have xf := fun q => HXs.out.frozen q
    rw [HKI.out] at HWW
    go_wp2_with fail
    refine bodyPost_ret (v := .agg #[.int .i64 5, .string ⟨#[]⟩, (.slice none 0 0), .int .i64 0]) (by simp [results, Tryz.results60, go_sem, x0, x1, x2, x3]) rfl ?_
    exact ⟨5, ⟨#[]⟩, (.slice none 0 0), 0, k, 0, rfl, ⟨_, _, _, rfl⟩, by omega, by omega, Cu.four_at HAs.out hgr, Cu.four_kept HKs.out hrw, .inl ⟨rfl, [], HWW.out, St.Lies.nil _ _⟩⟩
  · have t124 : ((s[i].toNat : Int) == 124) = false := Tp.eq_false (d := 124) h124
    rw [if_neg h124] at HQ
    obtain ⟨B, hB⟩ : ∃ B, decide (s[i] = 58 ∧ s.data.toList[i + 1]? = some 61) = B := ⟨_, rfl⟩
    have HBB := Lib.hid hB
    clear hB
    go_upto_region 5 with fail
    go_cut [25] from 26 to 53 (fun cv wx => cv = .bool B ∧ ∃ n, wx = w2.drewN n)
    case first =>
      have hB := HBB.out
      clear HBB HQ HW HK HX
      by_cases h58 : s[i] = 58
      · have t58 : ((s[i].toNat : Int) == 58) = true := Tp.eq_true (d := 58) h58
        obtain ⟨k, hk⟩ : ∃ k, i + 1 = k := ⟨_, rfl⟩
        have ek : (i : Int) + 1 = (k : Int) := by omega
        rw [hk] at hB
        by_cases hlt : k < s.size
        · have d1 : decide ((k : Int) < (s.size : Int)) = true := decide_eq_true (by omega)
          rw [Wx.get hlt] at hB
          by_cases h61 : s[k] = 61
          · have t61 : ((s[k].toNat : Int) == 61) = true := Tp.eq_true (d := 61) h61
            have hB2 : true = B := by rw [← hB]; exact (decide_eq_true ⟨h58, by rw [h61]⟩).symm
            subst hB2
            clear hB h61 h58 hk h124
            go_quiet (fail)
            go_wp2
            go_meet
            exact ⟨rfl, _, rfl⟩
          · have t61 : ((s[k].toNat : Int) == 61) = false := Tp.eq_false (d := 61) h61
            have hB2 : false = B := by rw [← hB]; exact (decide_eq_false (fun q => h61 (Option.some.inj q.2))).symm
            subst hB2
            clear hB h61 h58 hk h124
            go_quiet (fail)
            go_wp2
            go_meet
            exact ⟨rfl, _, rfl⟩
        · have d1 : decide ((k : Int) < (s.size : Int)) = false := decide_eq_false (by omega)
          have hB2 : false = B := by rw [← hB]; exact (decide_eq_false (fun q => by rw [List.getElem?_eq_none (by rw [Wk.len_data]; omega)] at q; cases q.2)).symm
          subst hB2
          clear hB h58 hk h124
          go_quiet (fail)
          go_wp2
          go_meet
          exact ⟨rfl, _, rfl⟩
      · have t58 : ((s[i].toNat : Int) == 58) = false := Tp.eq_false (d := 58) h58
        have hB2 : false = B := by rw [← hB]; exact (decide_eq_false (fun q => h58 q.1)).symm
        subst hB2
        clear hB h58 h124
        go_quiet (fail)
        go_wp2
        go_meet
        exact ⟨rfl, _, rfl⟩
    case rest =>
      obtain ⟨rfl, nn, hw⟩ := hcut
      have HX3 : Hid (Bs.Box (w2.drewN nn) r #[.int .i64 0, .string ⟨#[]⟩, .slice none 0 0, .int .i64 0] 91) := HX
      have HA3 := Lib.hid (HA.out.drewN nn)
      have HK3 := Lib.hid (HK.out.drewN nn)
      have hr3 : r < (w2.drewN nn).heap.size := HX3.out.lt
      rw [← hw] at HA3 HK3 HX3 hr3
      clear hw HA HK HX hr2
      generalize wc = wb at *
      clear c0 c1 c2 f x0 x1 x2 x3 xf
      have c0 := HA3.out.c0
      have c1 := HA3.out.c1
      have c2 := HA3.out.c2
      have f := HA3.out.fz
      have x0 : wb.cell? ⟨r, 0, none⟩ = some (.int .i64 0) := HX3.out.cell 0 rfl
      have x1 : wb.cell? ⟨r, 1, none⟩ = some (.string ⟨#[]⟩) := HX3.out.cell 1 rfl
      have x2 : wb.cell? ⟨r, 2, none⟩ = some (.slice none 0 0) := HX3.out.cell 2 rfl
      have x3 : wb.cell? ⟨r, 3, none⟩ = some (.int .i64 0) := HX3.out.cell 3 rfl
      have xf := fun q => HX3.out.frozen q
      cases B with
      | true =>
        have hb := HBB.out
        rw [decide_eq_true_eq] at hb
        have hq := HQ.out
        rw [if_pos hb] at hq
        have HWW := Lib.hid (HW.out.trans hq.symm)
        have hb2 : i + 2 ≤ s.size := by have := (List.getElem?_eq_some_iff.1 hb.2).1; rw [Wk.len_data] at this; omega
        clear hq HQ HW hb HBB h124
        have HA3s := Lib.hid (HA3.out.set1 (i + 2))
        have HK3s := Lib.hid (HK3.out.set 1 (.int .i64 ((i + 2 : Nat) : Int)))
        have HX3s : Hid (Bs.Box (wb.setCell ⟨g, 1, none⟩ (.int .i64 ((i + 2 : Nat) : Int))) r #[.int .i64 0, .string ⟨#[]⟩, .slice none 0 0, .int .i64 0] 91) := (Below.heap_setCell _ _ _ _ hne2).trans HX3.out
        rw [show ((i + 2 : Nat) : Int) = (i : Int) + 2 by omega] at HA3s HK3s HX3s
        go_upto_region 7 with fail
        generalize wb.setCell ⟨g, 1, none⟩ (.int .i64 ((i : Int) + 2)) = w4 at *
        obtain ⟨k, hk⟩ : ∃ k, i + 2 = k := ⟨_, rfl⟩
        rw [hk] at HA3s
        have hki : i < k := by omega
        have hks : k ≤ s.size := by omega
        have HKI := Lib.hid hk
        clear hk
        clear c0 c1 c2 f x0 x1 x2 x3 xf
        have c0 := HA3s.out.c0
        have c1 := HA3s.out.c1
        have c2 := HA3s.out.c2
        have f := HA3s.out.fz
        have x0 : w4.cell? ⟨r, 0, none⟩ = some (.int .i64 0) := HX3s.out.cell 0 rfl
        have x1 : w4.cell? ⟨r, 1, none⟩ = some (.string ⟨#[]⟩) := HX3s.out.cell 1 rfl
        have x2 : w4.cell? ⟨r, 2, none⟩ = some (.slice none 0 0) := HX3s.out.cell 2 rfl
        have x3 : w4.cell? ⟨r, 3, none⟩ = some (.int .i64 0) := HX3s.out.cell 3 rfl
        have xf := fun q => HX3s.out.frozen q
        rw [HKI.out] at HWW
        go_wp2_with fail
        refine bodyPost_ret (v := .agg #[.int .i64 6, .string ⟨#[]⟩, (.slice none 0 0), .int .i64 0]) (by simp [results, Tryz.results60, go_sem, x0, x1, x2, x3]) rfl ?_
        exact ⟨6, ⟨#[]⟩, (.slice none 0 0), 0, k, 0, rfl, ⟨_, _, _, rfl⟩, by omega, by omega, Cu.four_at HA3s.out hgr, Cu.four_kept HK3s.out hrw, .inl ⟨rfl, [], HWW.out, St.Lies.nil _ _⟩⟩
      | false =>
        have hb := HBB.out
        rw [decide_eq_false_iff_not] at hb
        rw [if_neg hb] at HQ
        clear hb HBB h124
        by_cases h34 : s[i] = 34
        · have t34 : ((s[i].toNat : Int) == 34) = true := Tp.eq_true (d := 34) h34
          rw [if_pos h34] at HQ
          clear h34
          have HA3s := Lib.hid (HA3.out.set1 (i + 1))
          have HK3s := Lib.hid (HK3.out.set 1 (.int .i64 ((i + 1 : Nat) : Int)))
          have HX3s : Hid (Bs.Box (wb.setCell ⟨g, 1, none⟩ (.int .i64 ((i + 1 : Nat) : Int))) r #[.int .i64 0, .string ⟨#[]⟩, .slice none 0 0, .int .i64 0] 91) := (Below.heap_setCell _ _ _ _ hne2).trans HX3.out
          rw [show ((i + 1 : Nat) : Int) = (i : Int) + 1 by omega] at HA3s HK3s HX3s
          go_upto_region 10 with fail
          generalize wb.setCell ⟨g, 1, none⟩ (.int .i64 ((i : Int) + 1)) = w4 at *
          obtain ⟨k, hk⟩ : ∃ k, i + 1 = k := ⟨_, rfl⟩
          rw [hk] at HA3s
          have hki : i < k := by omega
          have hks : k ≤ s.size := by omega
          have HKI := Lib.hid hk
          clear hk
          clear c0 c1 c2 f x0 x1 x2 x3 xf
          have c0 := HA3s.out.c0
          have c1 := HA3s.out.c1
          have c2 := HA3s.out.c2
          have f := HA3s.out.fz
          have x0 : w4.cell? ⟨r, 0, none⟩ = some (.int .i64 0) := HX3s.out.cell 0 rfl
          have x1 : w4.cell? ⟨r, 1, none⟩ = some (.string ⟨#[]⟩) := HX3s.out.cell 1 rfl
          have x2 : w4.cell? ⟨r, 2, none⟩ = some (.slice none 0 0) := HX3s.out.cell 2 rfl
          have x3 : w4.cell? ⟨r, 3, none⟩ = some (.int .i64 0) := HX3s.out.cell 3 rfl
          have xf := fun q => HX3s.out.frozen q
          rw [HKI.out] at HQ
          have hr4 : r < w4.heap.size := HX3s.out.lt
          have tx := Cu.text s k g w4 HA3s.out hks (by omega)
          go_wp2_with (go_at_call 89; refine tx.mono ?_; rintro e w5 ⟨⟨tl, j, y, rfl, hkj, hjs, a5, k5, hc5⟩⟩; have HA5 := Lib.hid a5; have HK5 := Lib.hid (HK3s.out.trans k5); have HX5 : Hid (Bs.Box w5 r #[.int .i64 0, .string ⟨#[]⟩, .slice none 0 0, .int .i64 0] 91) := (k5.block r hr4 hne2).trans HX3s.out; clear a5 k5 tx; clear c0 c1 c2 f x0 x1 x2 x3 xf; have c0 := HA5.out.c0; have c1 := HA5.out.c1; have c2 := HA5.out.c2; have f := HA5.out.fz; have x0 : w5.cell? ⟨r, 0, none⟩ = some (.int .i64 0) := HX5.out.cell 0 rfl; have x1 : w5.cell? ⟨r, 1, none⟩ = some (.string ⟨#[]⟩) := HX5.out.cell 1 rfl; have x2 : w5.cell? ⟨r, 2, none⟩ = some (.slice none 0 0) := HX5.out.cell 2 rfl; have x3 : w5.cell? ⟨r, 3, none⟩ = some (.int .i64 0) := HX5.out.cell 3 rfl; have xf := fun q => HX5.out.frozen q; have HRES : Hid (∀ (W : World) (R : Nat → Prop), (y = 0 ∧ ∃ ts, Wx.word s.data.toList i = .ok (⟨4, (⟨tl.toArray⟩ : ByteArray).data.toList, ts, 0⟩, j) ∧ St.Lies W R ts (.slice none 0 0)) ∨ ((y == 0) = false ∧ Wx.word s.data.toList i = .error y)) := (fun W R => by rcases hc5 with ⟨rfl, h5⟩ | ⟨rfl, h5⟩; exact .inl ⟨rfl, [], by rw [HW.out, ← HQ.out, h5]; rfl, St.Lies.nil _ _⟩; exact .inr ⟨rfl, by rw [HW.out, ← HQ.out, h5]; rfl⟩); clear hc5)
          refine bodyPost_ret (v := .agg #[.int .i64 4, .string ⟨tl.toArray⟩, (.slice none 0 0), .int .i64 0]) (by simp [results, Tryz.results60, go_sem, x0, x1, x2, x3]) rfl ?_
          exact ⟨4, ⟨tl.toArray⟩, (.slice none 0 0), 0, j, y, rfl, ⟨_, _, _, rfl⟩, by omega, by omega, Cu.four_at HA5.out hgr, Cu.four_kept HK5.out hrw, HRES.out _ _⟩
        · have t34 : ((s[i].toNat : Int) == 34) = false := Tp.eq_false (d := 34) h34
          rw [if_neg h34] at HQ
          clear h34
          have dg := fun u => Rt.digit s[i] u
          by_cases h45 : s[i] = 45
          · have t45 : ((s[i].toNat : Int) == 45) = true := Tp.eq_true (d := 45) h45
            rw [if_pos (.inl h45)] at HQ
            clear h45 dg
            have it := Cu.int s i g wb HA3.out hi (by omega)
            go_wp2_with (go_at_call 91; refine it.mono ?_; rintro e w5 ⟨rv, j, y, rfl, hkj, hjs, a5, k5, hc5⟩; have HA5 := Lib.hid a5; have HK5 := Lib.hid (HK3.out.trans k5); have HX5 : Hid (Bs.Box w5 r #[.int .i64 0, .string ⟨#[]⟩, .slice none 0 0, .int .i64 0] 91) := (k5.block r hr3 hne2).trans HX3.out; clear a5 k5 it; clear c0 c1 c2 f x0 x1 x2 x3 xf; have c0 := HA5.out.c0; have c1 := HA5.out.c1; have c2 := HA5.out.c2; have f := HA5.out.fz; have x0 : w5.cell? ⟨r, 0, none⟩ = some (.int .i64 0) := HX5.out.cell 0 rfl; have x1 : w5.cell? ⟨r, 1, none⟩ = some (.string ⟨#[]⟩) := HX5.out.cell 1 rfl; have x2 : w5.cell? ⟨r, 2, none⟩ = some (.slice none 0 0) := HX5.out.cell 2 rfl; have x3 : w5.cell? ⟨r, 3, none⟩ = some (.int .i64 0) := HX5.out.cell 3 rfl; have xf := fun q => HX5.out.frozen q; have HRES : Hid (∀ (W : World) (R : Nat → Prop), (y = 0 ∧ ∃ ts, Wx.word s.data.toList i = .ok (⟨3, (⟨#[]⟩ : ByteArray).data.toList, ts, rv⟩, j) ∧ St.Lies W R ts (.slice none 0 0)) ∨ ((y == 0) = false ∧ Wx.word s.data.toList i = .error y)) := (fun W R => by rcases hc5 with ⟨rfl, h5⟩ | ⟨rfl, h5⟩; exact .inl ⟨rfl, [], by rw [HW.out, ← HQ.out, h5]; rfl, St.Lies.nil _ _⟩; exact .inr ⟨rfl, by rw [HW.out, ← HQ.out, h5]; rfl⟩); clear hc5)
            refine bodyPost_ret (v := .agg #[.int .i64 3, .string ⟨#[]⟩, (.slice none 0 0), .int .i64 rv]) (by simp [results, Tryz.results60, go_sem, x0, x1, x2, x3]) rfl ?_
            exact ⟨3, ⟨#[]⟩, (.slice none 0 0), rv, j, y, rfl, ⟨_, _, _, rfl⟩, by omega, by omega, Cu.four_at HA5.out hgr, Cu.four_kept HK5.out hrw, HRES.out _ _⟩
          · have t45 : ((s[i].toNat : Int) == 45) = false := Tp.eq_false (d := 45) h45
            cases hdg : Pl.digit s[i] with
            | true =>
              rw [if_pos (.inr hdg)] at HQ
              rw [hdg] at dg
              clear h45 hdg
              have it := Cu.int s i g wb HA3.out hi (by omega)
              go_wp2_with (first | (go_at_call 90; refine (dg _).mono ?_; rintro e w9 ⟨rfl, hw⟩; have hw := hw.symm; subst hw) | (go_at_call 91; refine it.mono ?_; rintro e w5 ⟨rv, j, y, rfl, hkj, hjs, a5, k5, hc5⟩; have HA5 := Lib.hid a5; have HK5 := Lib.hid (HK3.out.trans k5); have HX5 : Hid (Bs.Box w5 r #[.int .i64 0, .string ⟨#[]⟩, .slice none 0 0, .int .i64 0] 91) := (k5.block r hr3 hne2).trans HX3.out; clear a5 k5 it; clear c0 c1 c2 f x0 x1 x2 x3 xf; have c0 := HA5.out.c0; have c1 := HA5.out.c1; have c2 := HA5.out.c2; have f := HA5.out.fz; have x0 : w5.cell? ⟨r, 0, none⟩ = some (.int .i64 0) := HX5.out.cell 0 rfl; have x1 : w5.cell? ⟨r, 1, none⟩ = some (.string ⟨#[]⟩) := HX5.out.cell 1 rfl; have x2 : w5.cell? ⟨r, 2, none⟩ = some (.slice none 0 0) := HX5.out.cell 2 rfl; have x3 : w5.cell? ⟨r, 3, none⟩ = some (.int .i64 0) := HX5.out.cell 3 rfl; have xf := fun q => HX5.out.frozen q; have HRES : Hid (∀ (W : World) (R : Nat → Prop), (y = 0 ∧ ∃ ts, Wx.word s.data.toList i = .ok (⟨3, (⟨#[]⟩ : ByteArray).data.toList, ts, rv⟩, j) ∧ St.Lies W R ts (.slice none 0 0)) ∨ ((y == 0) = false ∧ Wx.word s.data.toList i = .error y)) := (fun W R => by rcases hc5 with ⟨rfl, h5⟩ | ⟨rfl, h5⟩; exact .inl ⟨rfl, [], by rw [HW.out, ← HQ.out, h5]; rfl, St.Lies.nil _ _⟩; exact .inr ⟨rfl, by rw [HW.out, ← HQ.out, h5]; rfl⟩); clear hc5))
              refine bodyPost_ret (v := .agg #[.int .i64 3, .string ⟨#[]⟩, (.slice none 0 0), .int .i64 rv]) (by simp [results, Tryz.results60, go_sem, x0, x1, x2, x3]) rfl ?_
              exact ⟨3, ⟨#[]⟩, (.slice none 0 0), rv, j, y, rfl, ⟨_, _, _, rfl⟩, by omega, by omega, Cu.four_at HA5.out hgr, Cu.four_kept HK5.out hrw, HRES.out _ _⟩
            | false =>
              rw [if_neg (fun q => q.elim h45 (fun z => by rw [hdg] at z; cases z))] at HQ
              rw [hdg] at dg
              clear h45 hdg
              by_cases h46 : s[i] = 46
              · have t46 : ((s[i].toNat : Int) == 46) = true := Tp.eq_true (d := 46) h46
                rw [if_pos h46] at HQ
                clear h46
                obtain ⟨B, hB⟩ : ∃ B, decide (i + 1 < s.data.toList.length ∧ Lx.blank (s.data.toList.getD (i + 1) 0) = false ∧ s.data.toList.getD (i + 1) 0 ≠ 124) = B := ⟨_, rfl⟩
                have HBB := Lib.hid hB
                clear hB
                go_upto_region 14 with (go_at_call 90; refine (dg _).mono ?_; rintro e w9 ⟨rfl, hw⟩; have hw := hw.symm; subst hw)
                go_cut [126] from 89 to 126 (fun cv wx => cv = .bool B ∧ ∃ n, wx = wb.drewN n)
                case first =>
                  have hB := HBB.out
                  clear HBB HQ HW HK3 HX3 dg
                  obtain ⟨k, hk⟩ : ∃ k, i + 1 = k := ⟨_, rfl⟩
                  have ek : (i : Int) + 1 = (k : Int) := by omega
                  rw [hk, Wk.len_data] at hB
                  clear hk
                  by_cases hlt : k < s.size
                  · have d1 : decide ((k : Int) < (s.size : Int)) = true := decide_eq_true (by omega)
                    have bl := fun u => Lr.blank s[k] u
                    rw [show s.data.toList.getD k 0 = s[k] by rw [List.getD_eq_getElem?_getD, Wx.get hlt]; rfl] at hB
                    cases hb : Lx.blank s[k] with
                    | true =>
                      have hB2 : false = B := by rw [← hB]; exact (decide_eq_false (fun q => by rw [hb] at q; cases q.2.1)).symm
                      rw [hb] at bl
                      subst hB2
                      clear hB hb
                      go_quiet ((go_at_call 31; exact Calls.quiet_of_same (bl _)))
                      go_wp2
                      go_meet
                      exact ⟨rfl, _, rfl⟩
                    | false =>
                      rw [hb] at bl
                      by_cases h124 : s[k] = 124
                      · have u124 : ((s[k].toNat : Int) == 124) = true := Tp.eq_true (d := 124) h124
                        have u124b : ((s[k].toNat : Int) != 124) = false := by rw [bne, u124]; rfl
                        have hB2 : false = B := by rw [← hB]; exact (decide_eq_false (fun q => q.2.2 h124)).symm
                        subst hB2
                        clear hB hb h124
                        go_quiet ((go_at_call 31; exact Calls.quiet_of_same (bl _)))
                        go_wp2
                        go_meet
                        exact ⟨rfl, _, rfl⟩
                      · have u124 : ((s[k].toNat : Int) == 124) = false := Tp.eq_false (d := 124) h124
                        have u124b : ((s[k].toNat : Int) != 124) = true := by rw [bne, u124]; rfl
                        have hB2 : true = B := by rw [← hB]; exact (decide_eq_true ⟨hlt, hb, h124⟩).symm
                        subst hB2
                        clear hB hb h124
                        go_quiet ((go_at_call 31; exact Calls.quiet_of_same (bl _)))
                        go_wp2
                        go_meet
                        exact ⟨rfl, _, rfl⟩
                  · have d1 : decide ((k : Int) < (s.size : Int)) = false := decide_eq_false (by omega)
                    have hB2 : false = B := by rw [← hB]; exact (decide_eq_false (fun q => hlt q.1)).symm
                    subst hB2
                    clear hB
                    go_quiet (fail)
                    go_wp2
                    go_meet
                    exact ⟨rfl, _, rfl⟩
                case rest =>
                  obtain ⟨rfl, n2, hw⟩ := hcut
                  have HX4 : Hid (Bs.Box (wb.drewN n2) r #[.int .i64 0, .string ⟨#[]⟩, .slice none 0 0, .int .i64 0] 91) := HX3
                  have HA4 := Lib.hid (HA3.out.drewN n2)
                  have HK4 := Lib.hid (HK3.out.drewN n2)
                  have hr4 : r < (wb.drewN n2).heap.size := HX4.out.lt
                  rw [← hw] at HA4 HK4 HX4 hr4
                  clear hw HA3 HK3 HX3 hr3
                  generalize wc = wd at *
                  clear c0 c1 c2 f x0 x1 x2 x3 xf
                  have c0 := HA4.out.c0
                  have c1 := HA4.out.c1
                  have c2 := HA4.out.c2
                  have f := HA4.out.fz
                  have x0 : wd.cell? ⟨r, 0, none⟩ = some (.int .i64 0) := HX4.out.cell 0 rfl
                  have x1 : wd.cell? ⟨r, 1, none⟩ = some (.string ⟨#[]⟩) := HX4.out.cell 1 rfl
                  have x2 : wd.cell? ⟨r, 2, none⟩ = some (.slice none 0 0) := HX4.out.cell 2 rfl
                  have x3 : wd.cell? ⟨r, 3, none⟩ = some (.int .i64 0) := HX4.out.cell 3 rfl
                  have xf := fun q => HX4.out.frozen q
                  cases B with
                  | true =>
                    have hb := HBB.out
                    rw [decide_eq_true_eq] at hb
                    rw [if_pos hb] at HQ
                    clear hb HBB dg
                    have pt := Cu.path s i g wd HA4.out (by omega) hs
                    go_wp2_with (go_at_call 92; refine pt.mono ?_; rintro e w5 ⟨⟨v5, j, y, rfl, ⟨va, vn, vd, rfl⟩, hkj, hjs, a5, k5, hc5⟩⟩; have HA5 := Lib.hid a5; have HK5 := Lib.hid (HK4.out.trans k5); have HX5 : Hid (Bs.Box w5 r #[.int .i64 0, .string ⟨#[]⟩, .slice none 0 0, .int .i64 0] 91) := (k5.block r hr4 hne2).trans HX4.out; clear a5 k5 pt; clear c0 c1 c2 f x0 x1 x2 x3 xf; have c0 := HA5.out.c0; have c1 := HA5.out.c1; have c2 := HA5.out.c2; have f := HA5.out.fz; have x0 : w5.cell? ⟨r, 0, none⟩ = some (.int .i64 0) := HX5.out.cell 0 rfl; have x1 : w5.cell? ⟨r, 1, none⟩ = some (.string ⟨#[]⟩) := HX5.out.cell 1 rfl; have x2 : w5.cell? ⟨r, 2, none⟩ = some (.slice none 0 0) := HX5.out.cell 2 rfl; have x3 : w5.cell? ⟨r, 3, none⟩ = some (.int .i64 0) := HX5.out.cell 3 rfl; have xf := fun q => HX5.out.frozen q; have HRES : Hid (∀ a b c d, (y = 0 ∧ ∃ ts, Wx.word s.data.toList i = .ok (⟨1, (⟨#[]⟩ : ByteArray).data.toList, ts, 0⟩, j) ∧ St.Lies (Cu.four w5 r a b c d) (fun q => w.heap.size ≤ q ∧ q < (Cu.four w5 r a b c d).heap.size ∧ Rm.Ub (Cu.four w5 r a b c d) q) ts (.slice va vn vd)) ∨ ((y == 0) = false ∧ Wx.word s.data.toList i = .error y)) := (fun a b c d => by rcases hc5 with ⟨rfl, ts, h5, l5⟩ | ⟨rfl, h5⟩; exact .inl ⟨rfl, ts, by rw [HW.out, ← HQ.out, h5]; rfl, Cu.four_lies l5 hr4 (by omega)⟩; exact .inr ⟨rfl, by rw [HW.out, ← HQ.out, h5]; rfl⟩); clear hc5)
                    refine bodyPost_ret (v := .agg #[.int .i64 1, .string ⟨#[]⟩, (.slice va vn vd), .int .i64 0]) (by simp [results, Tryz.results60, go_sem, x0, x1, x2, x3]) rfl ?_
                    exact ⟨1, ⟨#[]⟩, (.slice va vn vd), 0, j, y, rfl, ⟨_, _, _, rfl⟩, by omega, by omega, Cu.four_at HA5.out hgr, Cu.four_kept HK5.out hrw, HRES.out _ _ _ _⟩
                  | false =>
                    have hb := HBB.out
                    rw [decide_eq_false_iff_not] at hb
                    have hq := HQ.out
                    rw [if_neg hb] at hq
                    have HWW := Lib.hid (HW.out.trans hq.symm)
                    clear hq HQ HW hb HBB dg
                    have HA4s := Lib.hid (HA4.out.set1 (i + 1))
                    have HK4s := Lib.hid (HK4.out.set 1 (.int .i64 ((i + 1 : Nat) : Int)))
                    have HX4s : Hid (Bs.Box (wd.setCell ⟨g, 1, none⟩ (.int .i64 ((i + 1 : Nat) : Int))) r #[.int .i64 0, .string ⟨#[]⟩, .slice none 0 0, .int .i64 0] 91) := (Below.heap_setCell _ _ _ _ hne2).trans HX4.out
                    rw [show ((i + 1 : Nat) : Int) = (i : Int) + 1 by omega] at HA4s HK4s HX4s
                    go_upto_region 17 with fail
                    generalize wd.setCell ⟨g, 1, none⟩ (.int .i64 ((i : Int) + 1)) = w6 at *
                    obtain ⟨k, hk⟩ : ∃ k, i + 1 = k := ⟨_, rfl⟩
                    rw [hk] at HA4s
                    have hki : i < k := by omega
                    have hks : k ≤ s.size := by omega
                    have HKI := Lib.hid hk
                    clear hk
                    clear c0 c1 c2 f x0 x1 x2 x3 xf
                    have c0 := HA4s.out.c0
                    have c1 := HA4s.out.c1
                    have c2 := HA4s.out.c2
                    have f := HA4s.out.fz
                    have x0 : w6.cell? ⟨r, 0, none⟩ = some (.int .i64 0) := HX4s.out.cell 0 rfl
                    have x1 : w6.cell? ⟨r, 1, none⟩ = some (.string ⟨#[]⟩) := HX4s.out.cell 1 rfl
                    have x2 : w6.cell? ⟨r, 2, none⟩ = some (.slice none 0 0) := HX4s.out.cell 2 rfl
                    have x3 : w6.cell? ⟨r, 3, none⟩ = some (.int .i64 0) := HX4s.out.cell 3 rfl
                    have xf := fun q => HX4s.out.frozen q
                    rw [HKI.out] at HWW
                    go_wp2_with fail
                    refine bodyPost_ret (v := .agg #[.int .i64 1, .string ⟨#[]⟩, (.slice none 0 0), .int .i64 0]) (by simp [results, Tryz.results60, go_sem, x0, x1, x2, x3]) rfl ?_
                    exact ⟨1, ⟨#[]⟩, (.slice none 0 0), 0, k, 0, rfl, ⟨_, _, _, rfl⟩, by omega, by omega, Cu.four_at HA4s.out hgr, Cu.four_kept HK4s.out hrw, .inl ⟨rfl, [], HWW.out, St.Lies.nil _ _⟩⟩
              · have t46 : ((s[i].toNat : Int) == 46) = false := Tp.eq_false (d := 46) h46
                rw [if_neg h46] at HQ
                clear h46
                by_cases h36 : s[i] = 36
                · have t36 : ((s[i].toNat : Int) == 36) = true := Tp.eq_true (d := 36) h36
                  rw [if_pos h36] at HQ
                  clear h36
                  go_upto_region 19 with (go_at_call 90; refine (dg _).mono ?_; rintro e w9 ⟨rfl, hw⟩; have hw := hw.symm; subst hw)
                  have HA3s := Lib.hid (HA3.out.set1 (i + 1))
                  have HK3s := Lib.hid (HK3.out.set 1 (.int .i64 ((i + 1 : Nat) : Int)))
                  have HX3s : Hid (Bs.Box (wb.setCell ⟨g, 1, none⟩ (.int .i64 ((i + 1 : Nat) : Int))) r #[.int .i64 0, .string ⟨#[]⟩, .slice none 0 0, .int .i64 0] 91) := (Below.heap_setCell _ _ _ _ hne2).trans HX3.out
                  rw [show ((i + 1 : Nat) : Int) = (i : Int) + 1 by omega] at HA3s HK3s HX3s
                  go_upto_region 20 with fail
                  generalize wb.setCell ⟨g, 1, none⟩ (.int .i64 ((i : Int) + 1)) = w4 at *
                  obtain ⟨k, hk⟩ : ∃ k, i + 1 = k := ⟨_, rfl⟩
                  rw [hk] at HA3s
                  have hki : i < k := by omega
                  have hks : k ≤ s.size := by omega
                  have HKI := Lib.hid hk
                  clear hk
                  clear c0 c1 c2 f x0 x1 x2 x3 xf
                  have c0 := HA3s.out.c0
                  have c1 := HA3s.out.c1
                  have c2 := HA3s.out.c2
                  have f := HA3s.out.fz
                  have x0 : w4.cell? ⟨r, 0, none⟩ = some (.int .i64 0) := HX3s.out.cell 0 rfl
                  have x1 : w4.cell? ⟨r, 1, none⟩ = some (.string ⟨#[]⟩) := HX3s.out.cell 1 rfl
                  have x2 : w4.cell? ⟨r, 2, none⟩ = some (.slice none 0 0) := HX3s.out.cell 2 rfl
                  have x3 : w4.cell? ⟨r, 3, none⟩ = some (.int .i64 0) := HX3s.out.cell 3 rfl
                  have xf := fun q => HX3s.out.frozen q
                  rw [HKI.out] at HQ
                  have hr4 : r < w4.heap.size := HX3s.out.lt
                  have nm := Cu.name s k g w4 HA3s.out hks (by omega)
                  go_upto_region 21 with (go_at_call 93; refine nm.mono ?_; rintro e w5 ⟨t, j, y, rfl, hkj, hjs, a5, k5, hc5⟩; have HA5 := Lib.hid a5; have HK5 := Lib.hid (HK3s.out.trans k5); have HX5 : Hid (Bs.Box w5 r #[.int .i64 0, .string ⟨#[]⟩, .slice none 0 0, .int .i64 0] 91) := (k5.block r hr4 hne2).trans HX3s.out; clear a5 k5 nm; clear c0 c1 c2 f x0 x1 x2 x3 xf; have c0 := HA5.out.c0; have c1 := HA5.out.c1; have c2 := HA5.out.c2; have f := HA5.out.fz; have x0 : w5.cell? ⟨r, 0, none⟩ = some (.int .i64 0) := HX5.out.cell 0 rfl; have x1 : w5.cell? ⟨r, 1, none⟩ = some (.string ⟨#[]⟩) := HX5.out.cell 1 rfl; have x2 : w5.cell? ⟨r, 2, none⟩ = some (.slice none 0 0) := HX5.out.cell 2 rfl; have x3 : w5.cell? ⟨r, 3, none⟩ = some (.int .i64 0) := HX5.out.cell 3 rfl; have xf := fun q => HX5.out.frozen q; have HC5 := Lib.hid hc5; clear hc5)
                  have hr5 : r < w5.heap.size := HX5.out.lt
                  rcases HC5.out with ⟨rfl, h5⟩ | ⟨rfl, h5⟩
                  · have pt := Cu.path s j g w5 HA5.out hjs hs
                    have HQ2 : Hid ((Wx.or (Wx.path s.data.toList j) 1400).map (fun r => ((⟨2, t.data.toList, r.1, 0⟩ : Wo), r.2)) = WW) := by have q := HQ.out; rw [h5] at q; exact q
                    clear HQ HC5 h5
                    go_wp2_with (go_at_call 92; refine pt.mono ?_; rintro e w6 ⟨⟨v5, j2, y2, rfl, ⟨va, vn, vd, rfl⟩, hkj2, hjs2, a5, k5, hc5⟩⟩; have HA6 := Lib.hid a5; have HK6 := Lib.hid (HK5.out.trans k5); have HX6 : Hid (Bs.Box w6 r #[.int .i64 0, .string ⟨#[]⟩, .slice none 0 0, .int .i64 0] 91) := (k5.block r hr5 hne2).trans HX5.out; clear a5 k5 pt; clear c0 c1 c2 f x0 x1 x2 x3 xf; have c0 := HA6.out.c0; have c1 := HA6.out.c1; have c2 := HA6.out.c2; have f := HA6.out.fz; have x0 : w6.cell? ⟨r, 0, none⟩ = some (.int .i64 0) := HX6.out.cell 0 rfl; have x1 : w6.cell? ⟨r, 1, none⟩ = some (.string ⟨#[]⟩) := HX6.out.cell 1 rfl; have x2 : w6.cell? ⟨r, 2, none⟩ = some (.slice none 0 0) := HX6.out.cell 2 rfl; have x3 : w6.cell? ⟨r, 3, none⟩ = some (.int .i64 0) := HX6.out.cell 3 rfl; have xf := fun q => HX6.out.frozen q; have HRES : Hid (∀ a b c d, (y2 = 0 ∧ ∃ ts, Wx.word s.data.toList i = .ok (⟨2, (t : ByteArray).data.toList, ts, 0⟩, j2) ∧ St.Lies (Cu.four w6 r a b c d) (fun q => w.heap.size ≤ q ∧ q < (Cu.four w6 r a b c d).heap.size ∧ Rm.Ub (Cu.four w6 r a b c d) q) ts (.slice va vn vd)) ∨ ((y2 == 0) = false ∧ Wx.word s.data.toList i = .error y2)) := (fun a b c d => by rcases hc5 with ⟨rfl, ts, h5, l5⟩ | ⟨rfl, h5⟩; exact .inl ⟨rfl, ts, by rw [HW.out, ← HQ2.out, h5]; rfl, Cu.four_lies l5 hr5 (by omega)⟩; exact .inr ⟨rfl, by rw [HW.out, ← HQ2.out, h5]; rfl⟩); clear hc5)
                    refine bodyPost_ret (v := .agg #[.int .i64 2, .string t, (.slice va vn vd), .int .i64 0]) (by simp [results, Tryz.results60, go_sem, x0, x1, x2, x3]) rfl ?_
                    exact ⟨2, t, (.slice va vn vd), 0, j2, y2, rfl, ⟨_, _, _, rfl⟩, by omega, by omega, Cu.four_at HA6.out hgr, Cu.four_kept HK6.out hrw, HRES.out _ _ _ _⟩
                  · have pt := Cu.path1 s j g w5 HA5.out
                    have HWW : Hid (Wx.word s.data.toList i = .error 1400) := by unfold Hid; rw [HW.out, ← HQ.out, h5]
                    clear HQ HC5 h5 HW
                    go_wp2_with (go_at_call 92; refine pt.mono ?_; rintro e w6 ⟨rfl, n6, hw6⟩; have HA6 := Lib.hid (HA5.out.drewN n6); have HK6 := Lib.hid (HK5.out.drewN n6); have HX6 : Hid (Bs.Box (w5.drewN n6) r #[.int .i64 0, .string ⟨#[]⟩, .slice none 0 0, .int .i64 0] 91) := HX5; rw [← hw6] at HA6 HK6 HX6; clear pt hw6; clear c0 c1 c2 f x0 x1 x2 x3 xf; have c0 := HA6.out.c0; have c1 := HA6.out.c1; have c2 := HA6.out.c2; have f := HA6.out.fz; have x0 : w6.cell? ⟨r, 0, none⟩ = some (.int .i64 0) := HX6.out.cell 0 rfl; have x1 : w6.cell? ⟨r, 1, none⟩ = some (.string ⟨#[]⟩) := HX6.out.cell 1 rfl; have x2 : w6.cell? ⟨r, 2, none⟩ = some (.slice none 0 0) := HX6.out.cell 2 rfl; have x3 : w6.cell? ⟨r, 3, none⟩ = some (.int .i64 0) := HX6.out.cell 3 rfl; have xf := fun q => HX6.out.frozen q)
                    refine bodyPost_ret (v := .agg #[.int .i64 2, .string t, (.slice none 0 0), .int .i64 0]) (by simp [results, Tryz.results60, go_sem, x0, x1, x2, x3]) rfl ?_
                    exact ⟨2, t, (.slice none 0 0), 0, j, 1400, rfl, ⟨_, _, _, rfl⟩, by omega, by omega, Cu.four_at HA6.out hgr, Cu.four_kept HK6.out hrw, .inr ⟨rfl, HWW.out⟩⟩
                · have t36 : ((s[i].toNat : Int) == 36) = false := Tp.eq_false (d := 36) h36
                  rw [if_neg h36] at HQ
                  clear h36
                  have nm := Cu.name s i g wb HA3.out (by omega) (by omega)
                  go_wp2_with (first | (go_at_call 90; refine (dg _).mono ?_; rintro e w9 ⟨rfl, hw⟩; have hw := hw.symm; subst hw) | (go_at_call 93; refine nm.mono ?_; rintro e w5 ⟨t, j, y, rfl, hkj, hjs, a5, k5, hc5⟩; have HA5 := Lib.hid a5; have HK5 := Lib.hid (HK3.out.trans k5); have HX5 : Hid (Bs.Box w5 r #[.int .i64 0, .string ⟨#[]⟩, .slice none 0 0, .int .i64 0] 91) := (k5.block r hr3 hne2).trans HX3.out; clear a5 k5 nm; clear c0 c1 c2 f x0 x1 x2 x3 xf; have c0 := HA5.out.c0; have c1 := HA5.out.c1; have c2 := HA5.out.c2; have f := HA5.out.fz; have x0 : w5.cell? ⟨r, 0, none⟩ = some (.int .i64 0) := HX5.out.cell 0 rfl; have x1 : w5.cell? ⟨r, 1, none⟩ = some (.string ⟨#[]⟩) := HX5.out.cell 1 rfl; have x2 : w5.cell? ⟨r, 2, none⟩ = some (.slice none 0 0) := HX5.out.cell 2 rfl; have x3 : w5.cell? ⟨r, 3, none⟩ = some (.int .i64 0) := HX5.out.cell 3 rfl; have xf := fun q => HX5.out.frozen q; have HRES : Hid (∀ (W : World) (R : Nat → Prop), (y = 0 ∧ ∃ ts, Wx.word s.data.toList i = .ok (⟨0, (t : ByteArray).data.toList, ts, 0⟩, j) ∧ St.Lies W R ts (.slice none 0 0)) ∨ ((y == 0) = false ∧ Wx.word s.data.toList i = .error y)) := (fun W R => by rcases hc5 with ⟨rfl, h5⟩ | ⟨rfl, h5⟩; exact .inl ⟨rfl, [], by rw [HW.out, ← HQ.out, h5]; rfl, St.Lies.nil _ _⟩; exact .inr ⟨rfl, by rw [HW.out, ← HQ.out, h5]; rfl⟩); clear hc5))
                  refine bodyPost_ret (v := .agg #[.int .i64 0, .string t, (.slice none 0 0), .int .i64 0]) (by simp [results, Tryz.results60, go_sem, x0, x1, x2, x3]) rfl ?_
                  exact ⟨0, t, (.slice none 0 0), 0, j, y, rfl, ⟨_, _, _, rfl⟩, by omega, by omega, Cu.four_at HA5.out hgr, Cu.four_kept HK5.out hrw, HRES.out _ _⟩
end Go.Proofs.YtjppobeomocgbaaGreatDoor
