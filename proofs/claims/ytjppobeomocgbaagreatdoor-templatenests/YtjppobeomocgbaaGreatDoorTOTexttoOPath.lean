/-
  THE WALK of the reference's cursor.text.
-/
import Derived.Test.YtjppobeomocgbaaGreatDoorTONametoOInt
import Derived.Test.YtjppobeomocgbaaGreatDoorTOPlaintoIArgMay
namespace Go.Proofs.YtjppobeomocgbaaGreatDoor
open Go.RowKit
/-- the cursor, and a row of bytes of one's own -/
structure Cu.Row (w wr : World) (g : Nat) (s : ByteArray) (j : Nat) (v : Value) (acc : List UInt8) : Prop where
  at_ : Cu.At wr g s j 0
  kept : Cu.Kept w wr g
  own : wr.ownsRow w.heap.size 5 1 v acc.length (Lib.byteCells acc)
  lt : g < w.heap.size
theorem Cu.Row.drewN {w wr : World} {g : Nat} {s : ByteArray} {j : Nat} {v : Value} {acc : List UInt8} (h : Cu.Row w wr g s j v acc) (n : Nat) : Cu.Row w (wr.drewN n) g s j v acc := ⟨h.at_.drewN n, h.kept.drewN n, Rm.own_on h.own (fun _ _ => rfl), h.lt⟩
theorem Cu.Row.set1 {w wr : World} {g : Nat} {s : ByteArray} {j : Nat} {v : Value} {acc : List UInt8} (h : Cu.Row w wr g s j v acc) (q : Nat) : Cu.Row w (wr.setCell ⟨g, 1, none⟩ (.int .i64 (q : Int))) g s q v acc :=
  ⟨h.at_.set1 q, h.kept.set _ _, Rm.own_on h.own (fun k hk => Below.heap_setCell _ _ _ _ (fun e => by have h1 := (h.own.lt k hk).1; have h2 := h.lt; rw [e] at h1; exact absurd h1 (Nat.not_le.2 h2))), h.lt⟩
theorem Cu.Row.push {w wr w4 : World} {g : Nat} {s : ByteArray} {j : Nat} {v v4 : Value} {acc : List UInt8} {c : UInt8} {o : Obj} (h : Cu.Row w wr g s j v acc) (R4 : w4.ownsRow w.heap.size 5 1 v4 (acc.length + 1) (Lib.byteCells acc ++ [.int .u8 (c.toNat : Int)])) (hg : (wr.alloc o).grownBy w4 v.ownBlock) : Cu.Row w w4 g s j v4 (acc ++ [c]) := by
  have hsz := h.kept.size
  have hblk : ∀ k, k < wr.heap.size → v.ownBlock ≠ some k → w4.heap[k]? = wr.heap[k]? := fun k hk hne => (hg.block k (by simp; omega) (fun e => hne e.symm)).trans (Below.heap_alloc _ _ _ hk)
  have hgw : v.ownBlock ≠ some g := fun e => by have := (h.own.lt g e).1; have := h.lt; omega
  refine ⟨?_, ⟨hg.os.trans h.kept.os, hg.tape.trans h.kept.tape, hg.output.trans h.kept.output, ?_, fun k hk hne => ?_⟩, ?_, h.lt⟩
  · exact (hblk g (by have := h.lt; omega) hgw).trans h.at_
  · have := hg.size
    simp at this
    omega
  · exact (hblk k (by omega) (fun e => by have := (h.own.lt k e).1; omega)).trans (h.kept.block k hk hne)
  · rw [List.length_append, show Lib.byteCells (acc ++ [c]) = Lib.byteCells acc ++ [.int .u8 (c.toNat : Int)] by simp [Lib.byteCells]]
    exact R4
/-- what a reader of the cursor answers: V r, and the cursor behind it; or an error -/
structure Cu.Out {α : Type} (V : α → Value) (w : World) (g : Nat) (s : ByteArray) (i : Nat) (O : Option (α × Nat)) (err : Int) (e : Ending) (w' : World) : Prop where
  all : ∃ (r : α) (j : Nat) (x : Int), e = .returned (V r) ∧ i ≤ j ∧ j ≤ s.size ∧ Cu.At w' g s j x ∧ Cu.Kept w w' g ∧ ((x = 0 ∧ O = some (r, j)) ∨ (x = err ∧ O = none))
theorem Wx.text_end {s : ByteArray} {i : Nat} (b : Bool) (acc : List UInt8) (h : s.size ≤ i) : Wx.text b i (s.data.toList.drop i) acc = none := by
  rw [Wx.drop_none h]
  cases b <;> rfl
theorem Wx.text_step {s : ByteArray} {i : Nat} (acc : List UInt8) (h : i < s.size) : Wx.text false i (s.data.toList.drop i) acc = if s[i] = 34 then some (acc, i + 1) else if s[i] = 92 then Wx.text true (i + 1) (s.data.toList.drop (i + 1)) acc else Wx.text false (i + 1) (s.data.toList.drop (i + 1)) (acc ++ [s[i]]) := by
  rw [Rl.drop s i h]
  rfl
theorem Wx.text_esc {s : ByteArray} {i : Nat} (acc : List UInt8) (h : i < s.size) : Wx.text true i (s.data.toList.drop i) acc = if s[i] = 34 ∨ s[i] = 92 then Wx.text false (i + 1) (s.data.toList.drop (i + 1)) (acc ++ [s[i]]) else if s[i] = 110 then Wx.text false (i + 1) (s.data.toList.drop (i + 1)) (acc ++ [10]) else if s[i] = 116 then Wx.text false (i + 1) (s.data.toList.drop (i + 1)) (acc ++ [9]) else none := by
  rw [Rl.drop s i h]
  rfl
set_option maxRecDepth 100000 in
set_option maxHeartbeats 4000000 in
theorem Cu.text (s : ByteArray) (i g : Nat) (w : World) (h : Cu.At w g s i 0) (hi : i ≤ s.size) (hs : s.size ≤ 70368744177664) :
    Calls Tryz.prog 89 #[.pointer (some ⟨g, 0, none⟩)] w fun e w' => Cu.Out (fun t : List UInt8 => .string ⟨t.toArray⟩) w g s i (Wx.text false i (s.data.toList.drop i) []) 1401 e w' := by
  have H := Lib.hid h
  have hg := Bs.Box.lt h
  clear h
  obtain ⟨O, hO⟩ : ∃ O, Wx.text false i (s.data.toList.drop i) [] = O := ⟨_, rfl⟩
  rw [hO]
  have HO := Lib.hid hO
  clear hO
  go_enter Tryz.func89, Tryz.ntmps89
  go_wp2_with fail
  go_loopw [3] (fun v wr => ∃ (j : Nat) (acc : List UInt8), i ≤ j ∧ j ≤ s.size ∧ acc.length ≤ j ∧ Hid (Cu.Row w wr g s j v acc) ∧ Hid (Wx.text false j (s.data.toList.drop j) acc = O)) (fun _ wr => s.size - (intOf ((wr.cell? ⟨g, 1, none⟩).getD undef)).toNat)
  case atStart => exact ⟨i, [], Nat.le_refl _, hi, Nat.zero_le _, ⟨H.out, Cu.Kept.refl _ _, World.ownsRow_nil _ _ _ _, hg⟩, HO⟩
  case round =>
    clear HO H
    obtain ⟨j, acc, hij, hj, hacc, HR, HO⟩ := hrel
    have c0 := HR.out.at_.c0
    have c1 := HR.out.at_.c1
    have f := HR.out.at_.fz
    have HM : Hid ((intOf ((wr.cell? ⟨g, 1, none⟩).getD undef)).toNat = j) := by unfold Hid; rw [c1]; rfl
    by_cases hlt : j < s.size
    · have d1 : decide ((j : Int) < (s.size : Int)) = true := decide_eq_true (by omega)
      go_upto_region 2 with fail
      go_quiet (fail)
      have HRq := Lib.hid (HR.out.drewN nq)
      clear HR c0 c1 f
      generalize wr.drewN nq = wq at *
      have c0 := HRq.out.at_.c0
      have c1 := HRq.out.at_.c1
      have f := HRq.out.at_.fz
      go_upto_region 3 with fail
      go_quiet (fail)
      have HS := Lib.hid (Wx.text_step acc hlt)
      rw [HO.out] at HS
      have HR1 := Lib.hid (HRq.out.drewN nq)
      clear HRq c0 c1 f
      generalize wq.drewN nq = wp at *
      have c0 := HR1.out.at_.c0
      have c1 := HR1.out.at_.c1
      have f := HR1.out.at_.fz
      have HR2 := Lib.hid (HR1.out.set1 (j + 1))
      rw [show ((j + 1 : Nat) : Int) = (j : Int) + 1 by omega] at HR2
      clear HO HR1
      go_upto_region 5 with fail
      generalize wp.setCell ⟨g, 1, none⟩ (.int .i64 ((j : Int) + 1)) = w2 at *
      by_cases h34 : s[j] = 34
      · have t34 : ((s[j].toNat : Int) == 34) = true := Tp.eq_true (d := 34) h34
        have hO : some (acc, j + 1) = O := by rw [HS.out, if_pos h34]
        subst hO
        have hconv := Dm.conv HR2.out.own
        clear HS h34 HM
        go_wp2_with fail
        go_ret
        exact ⟨acc, j + 1, 0, rfl, by omega, by omega, HR2.out.at_, HR2.out.kept, .inl ⟨rfl, rfl⟩⟩
      · have t34 : ((s[j].toNat : Int) == 34) = false := Tp.eq_false (d := 34) h34
        by_cases h92 : s[j] = 92
        · have t92 : ((s[j].toNat : Int) == 92) = true := Tp.eq_true (d := 92) h92
          have HT : Hid (O = Wx.text true (j + 1) (s.data.toList.drop (j + 1)) acc) := by unfold Hid; rw [HS.out, if_neg h34, if_pos h92]
          clear HS h34 h92
          obtain ⟨k, hk⟩ : ∃ k, j + 1 = k := ⟨_, rfl⟩
          have hjk : j < k := by omega
          have hjk2 : k ≤ j + 1 := by omega
          rw [hk] at HR2 HT
          clear hk
          have c0 := HR2.out.at_.c0
          have c1 := HR2.out.at_.c1
          have f := HR2.out.at_.fz
          by_cases hl1 : k < s.size
          · have d2 : decide ((s.size : Int) ≤ (k : Int)) = false := decide_eq_false (by omega)
            have HU := Lib.hid (Wx.text_esc acc hl1)
            rw [← HT.out] at HU
            clear HT
            go_upto_region 9 with fail
            go_quiet (fail)
            have HRq := Lib.hid (HR2.out.drewN nq)
            clear HR2 c0 c1 f
            generalize w2.drewN nq = wq2 at *
            have c0 := HRq.out.at_.c0
            have c1 := HRq.out.at_.c1
            have f := HRq.out.at_.fz
            go_upto_region 10 with fail
            go_quiet (fail)
            have HRp := Lib.hid (HRq.out.drewN nq)
            clear HRq c0 c1 f
            generalize wq2.drewN nq = wp2 at *
            have c0 := HRp.out.at_.c0
            have c1 := HRp.out.at_.c1
            have f := HRp.out.at_.fz
            have HR3 := Lib.hid (HRp.out.set1 (k + 1))
            rw [show ((k + 1 : Nat) : Int) = (k : Int) + 1 by omega] at HR3
            clear HRp
            go_upto_region 12 with fail
            generalize wp2.setCell ⟨g, 1, none⟩ (.int .i64 ((k : Int) + 1)) = w3 at *
            clear c0 c1 f
            by_cases g34 : s[k] = 34
            · have u34 : ((s[k].toNat : Int) == 34) = true := Tp.eq_true (d := 34) g34
              have HS3 : Hid (Wx.text false (k + 1) (s.data.toList.drop (k + 1)) (acc ++ [s[k]]) = O) := by unfold Hid; rw [HU.out, if_pos (.inl g34)]
              clear HU g34
              go_wp2_with (at_builtin; refine Ro.push rfl _ _ 70 5 1 1 _ rfl Tryz.underlying70 Rl.info rfl (by decide) _ rfl (HR3.out.own.alloc _) w3.heap.size [.int .u8 (s[k].toNat : Int)] rfl (Rl.cell1 w3 (s[k].toNat : Int)) rfl (Rl.ones _) (by unfold maxLen; omega) (by omega) (by have := HR3.out.kept.size; simp; omega) ?_)
              intro v4 w4 R4 hg4 _
              have HR4 : Hid (Cu.Row w w4 g s (k + 1) v4 (acc ++ [s[k]])) := HR3.out.push (c := s[k]) R4 hg4
              clear R4 hg4
              go_wp2_with fail
              go_roundw
              case rel => exact ⟨k + 1, acc ++ [s[k]], by omega, by omega, by simp; omega, HR4, HS3⟩
              case measure => rw [HM.out, HR4.out.at_.c1]; simp [intOf]; omega
            · have u34 : ((s[k].toNat : Int) == 34) = false := Tp.eq_false (d := 34) g34
              by_cases g92 : s[k] = 92
              · have u92 : ((s[k].toNat : Int) == 92) = true := Tp.eq_true (d := 92) g92
                have HS3 : Hid (Wx.text false (k + 1) (s.data.toList.drop (k + 1)) (acc ++ [s[k]]) = O) := by unfold Hid; rw [HU.out, if_pos (.inr g92)]
                clear HU g34 g92
                go_wp2_with (at_builtin; refine Ro.push rfl _ _ 70 5 1 1 _ rfl Tryz.underlying70 Rl.info rfl (by decide) _ rfl (HR3.out.own.alloc _) w3.heap.size [.int .u8 (s[k].toNat : Int)] rfl (Rl.cell1 w3 (s[k].toNat : Int)) rfl (Rl.ones _) (by unfold maxLen; omega) (by omega) (by have := HR3.out.kept.size; simp; omega) ?_)
                intro v4 w4 R4 hg4 _
                have HR4 : Hid (Cu.Row w w4 g s (k + 1) v4 (acc ++ [s[k]])) := HR3.out.push (c := s[k]) R4 hg4
                clear R4 hg4
                go_wp2_with fail
                go_roundw
                case rel => exact ⟨k + 1, acc ++ [s[k]], by omega, by omega, by simp; omega, HR4, HS3⟩
                case measure => rw [HM.out, HR4.out.at_.c1]; simp [intOf]; omega
              · have u92 : ((s[k].toNat : Int) == 92) = false := Tp.eq_false (d := 92) g92
                rw [if_neg (fun q => q.elim g34 g92)] at HU
                by_cases g110 : s[k] = 110
                · have u110 : ((s[k].toNat : Int) == 110) = true := Tp.eq_true (d := 110) g110
                  have HS3 : Hid (Wx.text false (k + 1) (s.data.toList.drop (k + 1)) (acc ++ [10]) = O) := by unfold Hid; rw [HU.out, if_pos g110]
                  clear HU g34 g92 g110
                  go_wp2_with (at_builtin; refine Ro.push rfl _ _ 70 5 1 1 _ rfl Tryz.underlying70 Rl.info rfl (by decide) _ rfl (HR3.out.own.alloc _) w3.heap.size [.int .u8 10] rfl (Rl.cell1 w3 10) rfl (Rl.ones _) (by unfold maxLen; omega) (by omega) (by have := HR3.out.kept.size; simp; omega) ?_)
                  intro v4 w4 R4 hg4 _
                  have HR4 : Hid (Cu.Row w w4 g s (k + 1) v4 (acc ++ [10])) := HR3.out.push (c := 10) R4 hg4
                  clear R4 hg4
                  go_wp2_with fail
                  go_roundw
                  case rel => exact ⟨k + 1, acc ++ [10], by omega, by omega, by simp; omega, HR4, HS3⟩
                  case measure => rw [HM.out, HR4.out.at_.c1]; simp [intOf]; omega
                · have u110 : ((s[k].toNat : Int) == 110) = false := Tp.eq_false (d := 110) g110
                  rw [if_neg g110] at HU
                  by_cases g116 : s[k] = 116
                  · have u116 : ((s[k].toNat : Int) == 116) = true := Tp.eq_true (d := 116) g116
                    have HS3 : Hid (Wx.text false (k + 1) (s.data.toList.drop (k + 1)) (acc ++ [9]) = O) := by unfold Hid; rw [HU.out, if_pos g116]
                    clear HU g34 g92 g110 g116
                    go_wp2_with (at_builtin; refine Ro.push rfl _ _ 70 5 1 1 _ rfl Tryz.underlying70 Rl.info rfl (by decide) _ rfl (HR3.out.own.alloc _) w3.heap.size [.int .u8 9] rfl (Rl.cell1 w3 9) rfl (Rl.ones _) (by unfold maxLen; omega) (by omega) (by have := HR3.out.kept.size; simp; omega) ?_)
                    intro v4 w4 R4 hg4 _
                    have HR4 : Hid (Cu.Row w w4 g s (k + 1) v4 (acc ++ [9])) := HR3.out.push (c := 9) R4 hg4
                    clear R4 hg4
                    go_wp2_with fail
                    go_roundw
                    case rel => exact ⟨k + 1, acc ++ [9], by omega, by omega, by simp; omega, HR4, HS3⟩
                    case measure => rw [HM.out, HR4.out.at_.c1]; simp [intOf]; omega
                  · have u116 : ((s[k].toNat : Int) == 116) = false := Tp.eq_false (d := 116) g116
                    have hO : none = O := by rw [HU.out, if_neg g116]
                    subst hO
                    have fl := fun u q => Cu.fail 1401 g s (k + 1) u q
                    clear HU g34 g92 g110 g116 HM
                    go_wp2_with (go_at_call 61; refine (fl _ HR3.out.at_).mono ?_; rintro e w5 ⟨rfl, a5, k5⟩; have HA5 := Lib.hid a5; have HK5 := Lib.hid (HR3.out.kept.trans k5); clear a5 k5 fl)
                    go_ret
                    exact ⟨[], k + 1, 1401, rfl, by omega, by omega, HA5.out, HK5.out, .inr ⟨rfl, rfl⟩⟩
          · have d2 : decide ((s.size : Int) ≤ (k : Int)) = true := decide_eq_true (by omega)
            have hO : none = O := by rw [HT.out, Wx.text_end _ _ (by omega)]
            subst hO
            have fl := fun u q => Cu.fail 1401 g s k u q
            clear HT HM
            go_upto_region 9 with fail
            go_quiet (fail)
            have HRq := Lib.hid (HR2.out.drewN nq)
            clear HR2 c0 c1 f
            generalize w2.drewN nq = wq2 at *
            go_wp2_with (go_at_call 61; refine (fl _ HRq.out.at_).mono ?_; rintro e w5 ⟨rfl, a5, k5⟩; have HA5 := Lib.hid a5; have HK5 := Lib.hid (HRq.out.kept.trans k5); clear a5 k5 fl)
            go_ret
            exact ⟨[], k, 1401, rfl, by omega, by omega, HA5.out, HK5.out, .inr ⟨rfl, rfl⟩⟩
        · have t92 : ((s[j].toNat : Int) == 92) = false := Tp.eq_false (d := 92) h92
          have HS2 : Hid (Wx.text false (j + 1) (s.data.toList.drop (j + 1)) (acc ++ [s[j]]) = O) := by unfold Hid; rw [HS.out, if_neg h34, if_neg h92]
          clear HS h34 h92
          go_wp2_with (at_builtin; refine Ro.push rfl _ _ 70 5 1 1 _ rfl Tryz.underlying70 Rl.info rfl (by decide) _ rfl (HR2.out.own.alloc _) w2.heap.size [.int .u8 (s[j].toNat : Int)] rfl (Rl.cell1 w2 (s[j].toNat : Int)) rfl (Rl.ones _) (by unfold maxLen; omega) (by omega) (by have := HR2.out.kept.size; simp; omega) ?_)
          intro v4 w4 R4 hg4 _
          have HR4 : Hid (Cu.Row w w4 g s (j + 1) v4 (acc ++ [s[j]])) := HR2.out.push (c := s[j]) R4 hg4
          clear R4 hg4
          go_wp2_with fail
          go_roundw
          case rel => exact ⟨j + 1, acc ++ [s[j]], by omega, by omega, by simp; omega, HR4, HS2⟩
          case measure => rw [HM.out, HR4.out.at_.c1]; simp [intOf]; omega
    · have d1 : decide ((j : Int) < (s.size : Int)) = false := decide_eq_false (by omega)
      have hO : none = O := by rw [← HO.out, Wx.text_end _ _ (by omega)]
      subst hO
      have fl := fun u q => Cu.fail 1401 g s j u q
      clear HO HM
      go_upto_region 2 with fail
      go_quiet (fail)
      have HR2 := Lib.hid (HR.out.drewN nq)
      go_wp2_with (go_at_call 61; refine (fl _ HR2.out.at_).mono ?_; rintro e w5 ⟨rfl, a5, k5⟩; have HA5 := Lib.hid a5; have HK5 := Lib.hid (HR2.out.kept.trans k5); clear a5 k5 fl)
      go_ret
      exact ⟨[], j, 1401, rfl, hij, hj, HA5.out, HK5.out, .inr ⟨rfl, rfl⟩⟩
end Go.Proofs.YtjppobeomocgbaaGreatDoor
/-
  The walk of the reference's cursor.path.
-/
namespace Go.Proofs.YtjppobeomocgbaaGreatDoor
open Go.RowKit
/-- the cursor, and a row of texts of one's own -/
structure Cu.Txt (w wr : World) (g : Nat) (s : ByteArray) (j : Nat) (x : Int) (v : Value) (ts : List (List UInt8)) : Prop where
  at_ : Cu.At wr g s j x
  kept : Cu.Kept w wr g
  own : wr.ownsRow w.heap.size 9 1 v ts.length (St.cells ts)
  lt : g < w.heap.size
theorem Cu.Txt.drewN {w wr : World} {g : Nat} {s : ByteArray} {j : Nat} {x : Int} {v : Value} {ts : List (List UInt8)} (h : Cu.Txt w wr g s j x v ts) (n : Nat) : Cu.Txt w (wr.drewN n) g s j x v ts := ⟨h.at_.drewN n, h.kept.drewN n, Rm.own_on h.own (fun _ _ => rfl), h.lt⟩
theorem Cu.Txt.set1 {w wr : World} {g : Nat} {s : ByteArray} {j : Nat} {x : Int} {v : Value} {ts : List (List UInt8)} (h : Cu.Txt w wr g s j x v ts) (q : Nat) : Cu.Txt w (wr.setCell ⟨g, 1, none⟩ (.int .i64 (q : Int))) g s q x v ts :=
  ⟨h.at_.set1 q, h.kept.set _ _, Rm.own_on h.own (fun k hk => Below.heap_setCell _ _ _ _ (fun e => by have h1 := (h.own.lt k hk).1; have h2 := h.lt; rw [e] at h1; exact absurd h1 (Nat.not_le.2 h2))), h.lt⟩
/-- behind a reader of the cursor -/
theorem Cu.Txt.then {w wr w' : World} {g : Nat} {s : ByteArray} {j : Nat} {x : Int} {v : Value} {ts : List (List UInt8)} (h : Cu.Txt w wr g s j x v ts) {q : Nat} {y : Int} (ha : Cu.At w' g s q y) (hk : Cu.Kept wr w' g) : Cu.Txt w w' g s q y v ts :=
  ⟨ha, h.kept.trans hk, Rm.own_on h.own (fun k hk' => hk.block k (h.own.lt k hk').2 (fun e => by have := (h.own.lt k hk').1; have := h.lt; omega)), h.lt⟩
theorem Cu.Txt.push {w wr w4 : World} {g : Nat} {s : ByteArray} {j : Nat} {x : Int} {v v4 : Value} {ts : List (List UInt8)} {t : ByteArray} {o : Obj} (h : Cu.Txt w wr g s j x v ts) (R4 : w4.ownsRow w.heap.size 9 1 v4 (ts.length + 1) (St.cells ts ++ [.string t])) (hg : (wr.alloc o).grownBy w4 v.ownBlock) : Cu.Txt w w4 g s j x v4 (ts ++ [t.data.toList]) := by
  have hsz := h.kept.size
  have hblk : ∀ k, k < wr.heap.size → v.ownBlock ≠ some k → w4.heap[k]? = wr.heap[k]? := fun k hk hne => (hg.block k (by simp; omega) (fun e => hne e.symm)).trans (Below.heap_alloc _ _ _ hk)
  have hgw : v.ownBlock ≠ some g := fun e => by have := (h.own.lt g e).1; have := h.lt; omega
  refine ⟨?_, ⟨hg.os.trans h.kept.os, hg.tape.trans h.kept.tape, hg.output.trans h.kept.output, ?_, fun k hk hne => ?_⟩, ?_, h.lt⟩
  · exact (hblk g (by have := h.lt; omega) hgw).trans h.at_
  · have := hg.size
    simp at this
    omega
  · exact (hblk k (by omega) (fun e => by have := (h.own.lt k e).1; omega)).trans (h.kept.block k hk hne)
  · rw [List.length_append, St.cells_snoc]
    exact R4
/-- what path answers -/
structure Cu.POut (w : World) (g : Nat) (s : ByteArray) (i : Nat) (e : Ending) (w' : World) : Prop where
  all : ∃ (v : Value) (j : Nat) (x : Int), e = .returned v ∧ (∃ a n d, v = .slice a n d) ∧ i ≤ j ∧ j ≤ s.size ∧ Cu.At w' g s j x ∧ Cu.Kept w w' g ∧ ((x = 0 ∧ ∃ ts, Wx.path s.data.toList i = some (ts, j) ∧ St.Lies w' (fun k => w.heap.size ≤ k ∧ k < w'.heap.size ∧ Rm.Ub w' k) ts v) ∨ (x = 1400 ∧ Wx.path s.data.toList i = none))
theorem Wx.names_dot {S : List UInt8} {n j : Nat} {out : List (List UInt8)} (hn : 0 < n) (h : S[j]? = some 46) : Wx.names n S j out = match Wx.name S (j + 1) with | none => none | some (t, q) => Wx.names (n - 1) S q (out ++ [t]) := by
  obtain ⟨n, rfl⟩ : ∃ m, n = m + 1 := ⟨n - 1, by omega⟩
  conv => lhs; unfold Wx.names
  rw [if_pos h]
  rfl
theorem Wx.names_end {S : List UInt8} {n j : Nat} {out : List (List UInt8)} (h : S[j]? ≠ some 46) : Wx.names n S j out = some (out, j) := by
  cases n with
  | zero => rfl
  | succ n =>
    unfold Wx.names
    rw [if_neg h]
/-- where the loop of path stands -/
def Wx.Here (S : List UInt8) (i n j : Nat) (x : Int) (ts : List (List UInt8)) : Prop := (x = 0 ∧ Wx.names n S j ts = Wx.names (S.length + 1) S i []) ∨ (x = 1400 ∧ Wx.names (S.length + 1) S i [] = none)
set_option maxRecDepth 100000 in
set_option maxHeartbeats 4000000 in
theorem Cu.path (s : ByteArray) (i g : Nat) (w : World) (h : Cu.At w g s i 0) (hi : i ≤ s.size) (hs : s.size ≤ 4398046511104) :
    Calls Tryz.prog 92 #[.pointer (some ⟨g, 0, none⟩)] w fun e w' => Cu.POut w g s i e w' := by
  have H := Lib.hid h
  have hg := Bs.Box.lt h
  clear h
  go_enter Tryz.func92, Tryz.ntmps92
  go_wp2_with fail
  go_loopw [3] (fun v wr => ∃ (j n : Nat) (x : Int) (ts : List (List UInt8)), i ≤ j ∧ j ≤ s.size ∧ s.size < j + n ∧ ts.length ≤ j ∧ Hid (Cu.Txt w wr g s j x v ts) ∧ Hid (Wx.Here s.data.toList i n j x ts)) (fun _ wr => s.size - (intOf ((wr.cell? ⟨g, 1, none⟩).getD undef)).toNat)
  case atStart => exact ⟨i, s.size + 1, 0, [], Nat.le_refl _, hi, by omega, Nat.zero_le _, ⟨H.out, Cu.Kept.refl _ _, World.ownsRow_nil _ _ _ _, hg⟩, .inl ⟨rfl, by rw [Wk.len_data]⟩⟩
  case round =>
    clear H
    obtain ⟨j, n, x, ts, hij, hj, hn, hts, HR, HH⟩ := hrel
    have c0 := HR.out.at_.c0
    have c1 := HR.out.at_.c1
    have c2 := HR.out.at_.c2
    have f := HR.out.at_.fz
    have HM : Hid ((intOf ((wr.cell? ⟨g, 1, none⟩).getD undef)).toNat = j) := by unfold Hid; rw [c1]; rfl
    obtain ⟨B, hB⟩ : ∃ B, (decide (x = 0) && decide (s.data.toList[j]? = some 46)) = B := ⟨_, rfl⟩
    have HBB := Lib.hid hB
    clear hB
    go_upto_region 2 with fail
    go_cut [32] from 4 to 44 (fun cv wx => cv = .bool B ∧ ∃ n, wx = wr.drewN n)
    case first =>
      have hB := HBB.out
      have hx := HH.out
      clear HBB HH HR HM
      rcases hx with ⟨rfl, -⟩ | ⟨rfl, -⟩
      · by_cases hlt : j < s.size
        · have d1 : decide ((j : Int) < (s.size : Int)) = true := decide_eq_true (by omega)
          rw [Wx.get hlt] at hB
          by_cases h46 : s[j] = 46
          · have t46 : ((s[j].toNat : Int) == 46) = true := Tp.eq_true (d := 46) h46
            have hB2 : true = B := by rw [← hB, h46]; rfl
            subst hB2
            clear hB h46
            go_quiet (fail)
            go_wp2
            go_meet
            exact ⟨rfl, _, rfl⟩
          · have t46 : ((s[j].toNat : Int) == 46) = false := Tp.eq_false (d := 46) h46
            have hB2 : false = B := by rw [← hB, decide_eq_false (p := some s[j] = some 46) (fun q => h46 (Option.some.inj q)), Bool.and_false]
            subst hB2
            clear hB h46
            go_quiet (fail)
            go_wp2
            go_meet
            exact ⟨rfl, _, rfl⟩
        · have d1 : decide ((j : Int) < (s.size : Int)) = false := decide_eq_false (by omega)
          have hB2 : false = B := by rw [← hB, List.getElem?_eq_none (by rw [Wk.len_data]; omega)]; rfl
          subst hB2
          clear hB
          go_quiet (fail)
          go_wp2
          go_meet
          exact ⟨rfl, _, rfl⟩
      · have hB2 : false = B := by rw [← hB]; rfl
        subst hB2
        clear hB
        go_quiet (fail)
        go_wp2
        go_meet
        exact ⟨rfl, _, rfl⟩
    case rest =>
      obtain ⟨rfl, m, hw⟩ := hcut
      have HR2 := Lib.hid (HR.out.drewN m)
      rw [← hw] at HR2
      clear hw c0 c1 c2 f HR
      have c0 := HR2.out.at_.c0
      have c1 := HR2.out.at_.c1
      have c2 := HR2.out.at_.c2
      have f := HR2.out.at_.fz
      cases B with
      | true =>
        have hx0 : x = 0 := by
          have := HBB.out
          simp only [Bool.and_eq_true, decide_eq_true_eq] at this
          exact this.1
        have h46 : s.data.toList[j]? = some 46 := by
          have := HBB.out
          simp only [Bool.and_eq_true, decide_eq_true_eq] at this
          exact this.2
        have hlt : j < s.size := by
          have := (List.getElem?_eq_some_iff.1 h46).1
          rw [Wk.len_data] at this
          exact this
        subst hx0
        have HD : Hid (Wx.names (s.data.toList.length + 1) s.data.toList i [] = match Wx.name s.data.toList (j + 1) with | none => none | some (t, q) => Wx.names (n - 1) s.data.toList q (ts ++ [t])) := by
          rcases HH.out with ⟨-, h1⟩ | ⟨h1, -⟩
          · unfold Hid
            rw [← h1]
            exact Wx.names_dot (by omega) h46
          · cases h1
        obtain ⟨k, hk⟩ : ∃ k, j + 1 = k := ⟨_, rfl⟩
        have hjk : j < k := by omega
        have hjk2 : k ≤ j + 1 := by omega
        have HR3 := Lib.hid (HR2.out.set1 (j + 1))
        rw [show ((j + 1 : Nat) : Int) = (j : Int) + 1 by omega, hk] at HR3
        rw [hk] at HD
        clear hk HBB HH h46
        go_upto_region 4 with fail
        generalize wc.setCell ⟨g, 1, none⟩ (.int .i64 ((j : Int) + 1)) = w3 at *
        have nm := Cu.name s k g w3 HR3.out.at_ (by omega) (by omega)
        clear c0 c1 c2 f HR2
        go_wp2_with (first | (go_at_call 93; refine nm.mono ?_; rintro e w5 ⟨t, q, y, rfl, hkq, hqs, a5, k5, hcase⟩; have HR5 := Lib.hid (HR3.out.then a5 k5); have HC5 := Lib.hid hcase; clear a5 k5 hcase nm HR3) | (at_builtin; refine Ro.push rfl _ _ 33 9 1 16 _ rfl Tryz.underlying33 St.info rfl (by decide) _ rfl (HR5.out.own.alloc _) w5.heap.size [.string t] rfl (St.cell1 w5 t) rfl (St.ones _) (by unfold maxLen; omega) (by omega) (by have := HR5.out.kept.size; simp; omega) ?_; intro v6 w6 R6 hg6 _; have HR6 : Hid (Cu.Txt w w6 g s q y v6 (ts ++ [t.data.toList])) := HR5.out.push (t := t) R6 hg6; clear R6 hg6))
        have HH6 : Hid (Wx.Here s.data.toList i (n - 1) q y (ts ++ [t.data.toList])) := by
          rcases HC5.out with ⟨h1, h2⟩ | ⟨h1, h2⟩
          · exact .inl ⟨h1, by rw [HD.out, h2]⟩
          · exact .inr ⟨h1, by rw [HD.out, h2]⟩
        clear HC5 HD HR5
        go_roundw
        case rel => exact ⟨q, n - 1, y, ts ++ [t.data.toList], by omega, hqs, by omega, by simp; omega, HR6, HH6⟩
        case measure => rw [HM.out, HR6.out.at_.c1]; simp [intOf]; omega
      | false =>
        clear HM
        obtain ⟨av, dv, hv⟩ : ∃ a d, u3 = .slice a ts.length d := by
          rcases HR2.out.own.2 with ⟨rfl, h0⟩ | ⟨gg, cap, cur, rfl, _⟩
          · exact ⟨none, 0, by rw [h0]⟩
          · exact ⟨_, _, rfl⟩
        subst hv
        have HF := Lib.hid (St.Lies.own HR2.out.own)
        by_cases h8 : 8 < ts.length
        · have d8 : decide ((8 : Int) < (ts.length : Int)) = true := decide_eq_true (by omega)
          have d8n : decide (8 < ts.length) = true := decide_eq_true h8
          rcases HH.out with ⟨rfl, h1⟩ | ⟨rfl, h1⟩
          · have HP : Hid (Wx.path s.data.toList i = none) := by
              have hb := HBB.out
              rw [decide_eq_true rfl, Bool.true_and, decide_eq_false_iff_not] at hb
              unfold Hid Wx.path
              rw [← h1, Wx.names_end hb]
              simp only
              rw [if_pos h8]
            have fl := fun u q => Cu.fail 1400 g s j u q
            clear HBB HH h1
            go_wp2_with (go_at_call 61; refine (fl _ HR2.out.at_).mono ?_; rintro e w5 ⟨rfl, a5, k5⟩; have HA5 := Lib.hid a5; have HK5 := Lib.hid (HR2.out.kept.trans k5); clear a5 k5 fl)
            go_ret
            exact ⟨_, j, 1400, rfl, ⟨_, _, _, rfl⟩, hij, hj, HA5.out, HK5.out, .inr ⟨rfl, HP.out⟩⟩
          · have HP : Hid (Wx.path s.data.toList i = none) := by unfold Hid Wx.path; rw [h1]
            have fl := fun u q => Cu.fail2 1400 1400 rfl g s j u q
            clear HBB HH h1
            go_wp2_with (go_at_call 61; refine (fl _ HR2.out.at_).mono ?_; rintro e w5 ⟨rfl, hw⟩; have hw := hw.symm; subst hw)
            go_ret
            exact ⟨_, j, 1400, rfl, ⟨_, _, _, rfl⟩, hij, hj, HR2.out.at_, HR2.out.kept, .inr ⟨rfl, HP.out⟩⟩
        · have d8 : decide ((8 : Int) < (ts.length : Int)) = false := decide_eq_false (by omega)
          have d8n : decide (8 < ts.length) = false := decide_eq_false h8
          have HX : Hid ((x = 0 ∧ ∃ ts', Wx.path s.data.toList i = some (ts', j) ∧ St.Lies wc (fun k => w.heap.size ≤ k ∧ k < wc.heap.size ∧ Rm.Ub wc k) ts' (.slice av ts.length dv)) ∨ (x = 1400 ∧ Wx.path s.data.toList i = none)) := by
            rcases HH.out with ⟨rfl, h1⟩ | ⟨rfl, h1⟩
            · have hb := HBB.out
              rw [decide_eq_true rfl, Bool.true_and, decide_eq_false_iff_not] at hb
              refine .inl ⟨rfl, ts, ?_, HF.out⟩
              unfold Wx.path
              rw [← h1, Wx.names_end hb]
              simp only
              rw [if_neg h8]
            · exact .inr ⟨rfl, by unfold Wx.path; rw [h1]⟩
          clear HBB HH
          go_wp2_with fail
          go_ret
          exact ⟨_, j, x, rfl, ⟨_, _, _, rfl⟩, hij, hj, HR2.out.at_, HR2.out.kept, HX.out⟩
end Go.Proofs.YtjppobeomocgbaaGreatDoor
