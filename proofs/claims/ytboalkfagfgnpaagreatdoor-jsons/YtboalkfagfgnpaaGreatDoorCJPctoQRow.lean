/-
  THE WALK of the reference's reader: escaped.
-/
import Derived.Test.YtboalkfagfgnpaaGreatDoorCJPatoRDig
import Derived.Test.YtboalkfagfgnpaaGreatDoorCRefNormtoRRune
import Derived.Test.YtboalkfagfgnpaaGreatDoorCRToktoQPlain
import Derived.Laws.AppendOwn
import Derived.Lib.Hide
import Derived.Laws.OwnMore
import Derived.Deep.RegionLaw
namespace Go.Proofs.YtboalkfagfgnpaaGreatDoor
open Go.RowKit
/-- what a reading function that gives bytes does -/
def Jp.BOut (o : Option (List UInt8 × List UInt8)) (w : World) (g : Nat) (T : ByteArray) (e : Ending) (w' : World) : Prop :=
  ∃ v b, e = .returned v ∧ w'.ownsRow w.heap.size 5 1 v b.length (Lib.byteCells b) ∧ b.length ≤ 4 ∧ w.grownBy w' (some g) ∧ match o with
  | none => ∃ r, Jp.Rd w' g T r true
  | some (b', r) => b = b' ∧ Jp.Rd w' g T r false
theorem Jp.lit (W : World) (B : Nat) (hB : B = W.heap.size) (x : UInt8) (y : Int) (hy : y = (x.toNat : Int)) : (W.alloc (.cells #[.int .u8 y] 5)).ownsRow B 5 1 (.slice (some ⟨B, 0, none⟩) 1 1) ([x] : List UInt8).length (Lib.byteCells [x]) := by
  subst hB hy
  exact Ru.fin W #[.int .u8 (x.toNat : Int)] [x] 1 rfl (by decide) rfl
theorem Jp.row_mono {w : World} {B B' : Nat} {ty : TypeId} {sz : Nat} {v : Value} {n : Nat} {xs : List Value} (h : w.ownsRow B ty sz v n xs) (hB : B' ≤ B) : w.ownsRow B' ty sz v n xs := by
  refine ⟨h.1, ?_⟩
  rcases h.2 with q | ⟨g, cap, cur, e, hb, rest⟩
  · exact .inl q
  · exact .inr ⟨g, cap, cur, e, Nat.le_trans hB hb, rest⟩
theorem Jp.grown_alloc (w : World) (o : Obj) (g : Option Nat) : w.grownBy (w.alloc o) g := World.grownBy_alloc w o g
theorem Jp.rune_len (x : Nat) : (Pl.runeL x).length ≤ 4 := Pl.runeL_len x
set_option maxRecDepth 100000 in
set_option maxHeartbeats 4000000 in
theorem Jp.esc34 (c : UInt8) (r : List UInt8) (hc : c = 34) (g : Nat) (T : ByteArray) (w : World) (h : Jp.Rd w g T (c :: r) false) :
    Calls Tryz.prog 76 #[.pointer (some ⟨g, 0, none⟩)] w (Jp.BOut (some ([34], r)) w g T) := by
  obtain ⟨i, h1, h2, h3, hB⟩ := h
  have c0 : w.cell? ⟨g, 0, none⟩ = some (.string T) := hB.cell 0 rfl
  have c1 : w.cell? ⟨g, 1, none⟩ = some (.int .i64 (i : Int)) := hB.cell 1 rfl
  have f1 := hB.frozen 1
  have f2 := hB.frozen 2
  have c2 : w.cell? ⟨g, 2, none⟩ = some (.bool false) := hB.cell 2 rfl
  have HB := Lib.hid hB
  obtain ⟨hlt, he, hr⟩ := Jr.at_byte h2
  have HRR := Lib.hid hr
  have d1 : decide ((T.size : Int) ≤ (i : Int)) = false := decide_eq_false (by omega)
  have d1n : decide (T.size ≤ i) = false := decide_eq_false (by omega)
  have HW1 : Hid (∀ n, Jp.Rd ((w.drewN n).setCell ⟨g, 1, none⟩ (.int .i64 ((i : Int) + 1))) g T r false) := fun n => Jp.Rd.step1 h3 HB.out (Jr.grown_drewN _ _) hlt HRR.out.symm
  have hgw := hB.lt
  clear hB h2 hr
  have e34 : ((T[i].toNat : Int) == 34) = true := by rw [he]; exact beq_iff_eq.2 (by rw [hc]; rfl)
  have HE := Lib.hid he
  have HC := Lib.hid hc
  clear he hc
  go_enter Tryz.func76, Tryz.ntmps76
  go_wp2_with fail
  go_quiet (fail)
  go_wp2
  go_quiet (fail)
  go_wp2
  go_ret
  exact ⟨_, [34], rfl, Jp.lit _ _ (by simp) 34 _ (by rw [HE.out, HC.out]), by decide, Jr.grown_trans (Jr.grown_trans (Jr.grown_some (Jr.grown_drewN _ _) _) (Jr.grown_set _ _ _ _)) (Jp.grown_alloc _ _ _), rfl, (HW1.out _).on (Jp.grown_alloc _ _ _)⟩
set_option maxRecDepth 100000 in
set_option maxHeartbeats 4000000 in
theorem Jp.esc92 (c : UInt8) (r : List UInt8) (hn34 : c ≠ 34) (hc : c = 92) (g : Nat) (T : ByteArray) (w : World) (h : Jp.Rd w g T (c :: r) false) :
    Calls Tryz.prog 76 #[.pointer (some ⟨g, 0, none⟩)] w (Jp.BOut (some ([92], r)) w g T) := by
  obtain ⟨i, h1, h2, h3, hB⟩ := h
  have c0 : w.cell? ⟨g, 0, none⟩ = some (.string T) := hB.cell 0 rfl
  have c1 : w.cell? ⟨g, 1, none⟩ = some (.int .i64 (i : Int)) := hB.cell 1 rfl
  have f1 := hB.frozen 1
  have f2 := hB.frozen 2
  have c2 : w.cell? ⟨g, 2, none⟩ = some (.bool false) := hB.cell 2 rfl
  have HB := Lib.hid hB
  obtain ⟨hlt, he, hr⟩ := Jr.at_byte h2
  have HRR := Lib.hid hr
  have d1 : decide ((T.size : Int) ≤ (i : Int)) = false := decide_eq_false (by omega)
  have d1n : decide (T.size ≤ i) = false := decide_eq_false (by omega)
  have HW1 : Hid (∀ n, Jp.Rd ((w.drewN n).setCell ⟨g, 1, none⟩ (.int .i64 ((i : Int) + 1))) g T r false) := fun n => Jp.Rd.step1 h3 HB.out (Jr.grown_drewN _ _) hlt HRR.out.symm
  have hgw := hB.lt
  clear hB h2 hr
  have e34 : ((T[i].toNat : Int) == 34) = false := by rw [he]; exact (Jr.eq_dec c 34).trans (decide_eq_false hn34)
  have e92 : ((T[i].toNat : Int) == 92) = true := by rw [he]; exact beq_iff_eq.2 (by rw [hc]; rfl)
  have HE := Lib.hid he
  have HC := Lib.hid hc
  clear he hc hn34
  go_enter Tryz.func76, Tryz.ntmps76
  go_wp2_with fail
  go_quiet (fail)
  go_wp2
  go_quiet (fail)
  go_wp2
  go_ret
  exact ⟨_, [92], rfl, Jp.lit _ _ (by simp) 92 _ (by rw [HE.out, HC.out]), by decide, Jr.grown_trans (Jr.grown_trans (Jr.grown_some (Jr.grown_drewN _ _) _) (Jr.grown_set _ _ _ _)) (Jp.grown_alloc _ _ _), rfl, (HW1.out _).on (Jp.grown_alloc _ _ _)⟩
set_option maxRecDepth 100000 in
set_option maxHeartbeats 4000000 in
theorem Jp.esc47 (c : UInt8) (r : List UInt8) (hn34 : c ≠ 34) (hn92 : c ≠ 92) (hc : c = 47) (g : Nat) (T : ByteArray) (w : World) (h : Jp.Rd w g T (c :: r) false) :
    Calls Tryz.prog 76 #[.pointer (some ⟨g, 0, none⟩)] w (Jp.BOut (some ([47], r)) w g T) := by
  obtain ⟨i, h1, h2, h3, hB⟩ := h
  have c0 : w.cell? ⟨g, 0, none⟩ = some (.string T) := hB.cell 0 rfl
  have c1 : w.cell? ⟨g, 1, none⟩ = some (.int .i64 (i : Int)) := hB.cell 1 rfl
  have f1 := hB.frozen 1
  have f2 := hB.frozen 2
  have c2 : w.cell? ⟨g, 2, none⟩ = some (.bool false) := hB.cell 2 rfl
  have HB := Lib.hid hB
  obtain ⟨hlt, he, hr⟩ := Jr.at_byte h2
  have HRR := Lib.hid hr
  have d1 : decide ((T.size : Int) ≤ (i : Int)) = false := decide_eq_false (by omega)
  have d1n : decide (T.size ≤ i) = false := decide_eq_false (by omega)
  have HW1 : Hid (∀ n, Jp.Rd ((w.drewN n).setCell ⟨g, 1, none⟩ (.int .i64 ((i : Int) + 1))) g T r false) := fun n => Jp.Rd.step1 h3 HB.out (Jr.grown_drewN _ _) hlt HRR.out.symm
  have hgw := hB.lt
  clear hB h2 hr
  have e34 : ((T[i].toNat : Int) == 34) = false := by rw [he]; exact (Jr.eq_dec c 34).trans (decide_eq_false hn34)
  have e92 : ((T[i].toNat : Int) == 92) = false := by rw [he]; exact (Jr.eq_dec c 92).trans (decide_eq_false hn92)
  have e47 : ((T[i].toNat : Int) == 47) = true := by rw [he]; exact beq_iff_eq.2 (by rw [hc]; rfl)
  have HE := Lib.hid he
  have HC := Lib.hid hc
  clear he hc hn34 hn92
  go_enter Tryz.func76, Tryz.ntmps76
  go_wp2_with fail
  go_quiet (fail)
  go_wp2
  go_quiet (fail)
  go_wp2
  go_ret
  exact ⟨_, [47], rfl, Jp.lit _ _ (by simp) 47 _ (by rw [HE.out, HC.out]), by decide, Jr.grown_trans (Jr.grown_trans (Jr.grown_some (Jr.grown_drewN _ _) _) (Jr.grown_set _ _ _ _)) (Jp.grown_alloc _ _ _), rfl, (HW1.out _).on (Jp.grown_alloc _ _ _)⟩
set_option maxRecDepth 100000 in
set_option maxHeartbeats 4000000 in
theorem Jp.esc98 (c : UInt8) (r : List UInt8) (hn34 : c ≠ 34) (hn92 : c ≠ 92) (hn47 : c ≠ 47) (hc : c = 98) (g : Nat) (T : ByteArray) (w : World) (h : Jp.Rd w g T (c :: r) false) :
    Calls Tryz.prog 76 #[.pointer (some ⟨g, 0, none⟩)] w (Jp.BOut (some ([8], r)) w g T) := by
  obtain ⟨i, h1, h2, h3, hB⟩ := h
  have c0 : w.cell? ⟨g, 0, none⟩ = some (.string T) := hB.cell 0 rfl
  have c1 : w.cell? ⟨g, 1, none⟩ = some (.int .i64 (i : Int)) := hB.cell 1 rfl
  have f1 := hB.frozen 1
  have f2 := hB.frozen 2
  have c2 : w.cell? ⟨g, 2, none⟩ = some (.bool false) := hB.cell 2 rfl
  have HB := Lib.hid hB
  obtain ⟨hlt, he, hr⟩ := Jr.at_byte h2
  have HRR := Lib.hid hr
  have d1 : decide ((T.size : Int) ≤ (i : Int)) = false := decide_eq_false (by omega)
  have d1n : decide (T.size ≤ i) = false := decide_eq_false (by omega)
  have HW1 : Hid (∀ n, Jp.Rd ((w.drewN n).setCell ⟨g, 1, none⟩ (.int .i64 ((i : Int) + 1))) g T r false) := fun n => Jp.Rd.step1 h3 HB.out (Jr.grown_drewN _ _) hlt HRR.out.symm
  have hgw := hB.lt
  clear hB h2 hr
  have e34 : ((T[i].toNat : Int) == 34) = false := by rw [he]; exact (Jr.eq_dec c 34).trans (decide_eq_false hn34)
  have e92 : ((T[i].toNat : Int) == 92) = false := by rw [he]; exact (Jr.eq_dec c 92).trans (decide_eq_false hn92)
  have e47 : ((T[i].toNat : Int) == 47) = false := by rw [he]; exact (Jr.eq_dec c 47).trans (decide_eq_false hn47)
  have e98 : ((T[i].toNat : Int) == 98) = true := by rw [he]; exact beq_iff_eq.2 (by rw [hc]; rfl)
  have HE := Lib.hid he
  have HC := Lib.hid hc
  clear he hc hn34 hn92 hn47
  go_enter Tryz.func76, Tryz.ntmps76
  go_wp2_with fail
  go_quiet (fail)
  go_wp2
  go_quiet (fail)
  go_wp2
  go_ret
  exact ⟨_, [8], rfl, Jp.lit _ _ (by simp) 8 _ rfl, by decide, Jr.grown_trans (Jr.grown_trans (Jr.grown_some (Jr.grown_drewN _ _) _) (Jr.grown_set _ _ _ _)) (Jp.grown_alloc _ _ _), rfl, (HW1.out _).on (Jp.grown_alloc _ _ _)⟩
set_option maxRecDepth 100000 in
set_option maxHeartbeats 4000000 in
theorem Jp.esc102 (c : UInt8) (r : List UInt8) (hn34 : c ≠ 34) (hn92 : c ≠ 92) (hn47 : c ≠ 47) (hn98 : c ≠ 98) (hc : c = 102) (g : Nat) (T : ByteArray) (w : World) (h : Jp.Rd w g T (c :: r) false) :
    Calls Tryz.prog 76 #[.pointer (some ⟨g, 0, none⟩)] w (Jp.BOut (some ([12], r)) w g T) := by
  obtain ⟨i, h1, h2, h3, hB⟩ := h
  have c0 : w.cell? ⟨g, 0, none⟩ = some (.string T) := hB.cell 0 rfl
  have c1 : w.cell? ⟨g, 1, none⟩ = some (.int .i64 (i : Int)) := hB.cell 1 rfl
  have f1 := hB.frozen 1
  have f2 := hB.frozen 2
  have c2 : w.cell? ⟨g, 2, none⟩ = some (.bool false) := hB.cell 2 rfl
  have HB := Lib.hid hB
  obtain ⟨hlt, he, hr⟩ := Jr.at_byte h2
  have HRR := Lib.hid hr
  have d1 : decide ((T.size : Int) ≤ (i : Int)) = false := decide_eq_false (by omega)
  have d1n : decide (T.size ≤ i) = false := decide_eq_false (by omega)
  have HW1 : Hid (∀ n, Jp.Rd ((w.drewN n).setCell ⟨g, 1, none⟩ (.int .i64 ((i : Int) + 1))) g T r false) := fun n => Jp.Rd.step1 h3 HB.out (Jr.grown_drewN _ _) hlt HRR.out.symm
  have hgw := hB.lt
  clear hB h2 hr
  have e34 : ((T[i].toNat : Int) == 34) = false := by rw [he]; exact (Jr.eq_dec c 34).trans (decide_eq_false hn34)
  have e92 : ((T[i].toNat : Int) == 92) = false := by rw [he]; exact (Jr.eq_dec c 92).trans (decide_eq_false hn92)
  have e47 : ((T[i].toNat : Int) == 47) = false := by rw [he]; exact (Jr.eq_dec c 47).trans (decide_eq_false hn47)
  have e98 : ((T[i].toNat : Int) == 98) = false := by rw [he]; exact (Jr.eq_dec c 98).trans (decide_eq_false hn98)
  have e102 : ((T[i].toNat : Int) == 102) = true := by rw [he]; exact beq_iff_eq.2 (by rw [hc]; rfl)
  have HE := Lib.hid he
  have HC := Lib.hid hc
  clear he hc hn34 hn92 hn47 hn98
  go_enter Tryz.func76, Tryz.ntmps76
  go_wp2_with fail
  go_quiet (fail)
  go_wp2
  go_quiet (fail)
  go_wp2
  go_ret
  exact ⟨_, [12], rfl, Jp.lit _ _ (by simp) 12 _ rfl, by decide, Jr.grown_trans (Jr.grown_trans (Jr.grown_some (Jr.grown_drewN _ _) _) (Jr.grown_set _ _ _ _)) (Jp.grown_alloc _ _ _), rfl, (HW1.out _).on (Jp.grown_alloc _ _ _)⟩
set_option maxRecDepth 100000 in
set_option maxHeartbeats 4000000 in
theorem Jp.esc110 (c : UInt8) (r : List UInt8) (hn34 : c ≠ 34) (hn92 : c ≠ 92) (hn47 : c ≠ 47) (hn98 : c ≠ 98) (hn102 : c ≠ 102) (hc : c = 110) (g : Nat) (T : ByteArray) (w : World) (h : Jp.Rd w g T (c :: r) false) :
    Calls Tryz.prog 76 #[.pointer (some ⟨g, 0, none⟩)] w (Jp.BOut (some ([10], r)) w g T) := by
  obtain ⟨i, h1, h2, h3, hB⟩ := h
  have c0 : w.cell? ⟨g, 0, none⟩ = some (.string T) := hB.cell 0 rfl
  have c1 : w.cell? ⟨g, 1, none⟩ = some (.int .i64 (i : Int)) := hB.cell 1 rfl
  have f1 := hB.frozen 1
  have f2 := hB.frozen 2
  have c2 : w.cell? ⟨g, 2, none⟩ = some (.bool false) := hB.cell 2 rfl
  have HB := Lib.hid hB
  obtain ⟨hlt, he, hr⟩ := Jr.at_byte h2
  have HRR := Lib.hid hr
  have d1 : decide ((T.size : Int) ≤ (i : Int)) = false := decide_eq_false (by omega)
  have d1n : decide (T.size ≤ i) = false := decide_eq_false (by omega)
  have HW1 : Hid (∀ n, Jp.Rd ((w.drewN n).setCell ⟨g, 1, none⟩ (.int .i64 ((i : Int) + 1))) g T r false) := fun n => Jp.Rd.step1 h3 HB.out (Jr.grown_drewN _ _) hlt HRR.out.symm
  have hgw := hB.lt
  clear hB h2 hr
  have e34 : ((T[i].toNat : Int) == 34) = false := by rw [he]; exact (Jr.eq_dec c 34).trans (decide_eq_false hn34)
  have e92 : ((T[i].toNat : Int) == 92) = false := by rw [he]; exact (Jr.eq_dec c 92).trans (decide_eq_false hn92)
  have e47 : ((T[i].toNat : Int) == 47) = false := by rw [he]; exact (Jr.eq_dec c 47).trans (decide_eq_false hn47)
  have e98 : ((T[i].toNat : Int) == 98) = false := by rw [he]; exact (Jr.eq_dec c 98).trans (decide_eq_false hn98)
  have e102 : ((T[i].toNat : Int) == 102) = false := by rw [he]; exact (Jr.eq_dec c 102).trans (decide_eq_false hn102)
  have e110 : ((T[i].toNat : Int) == 110) = true := by rw [he]; exact beq_iff_eq.2 (by rw [hc]; rfl)
  have HE := Lib.hid he
  have HC := Lib.hid hc
  clear he hc hn34 hn92 hn47 hn98 hn102
  go_enter Tryz.func76, Tryz.ntmps76
  go_wp2_with fail
  go_quiet (fail)
  go_wp2
  go_quiet (fail)
  go_wp2
  go_ret
  exact ⟨_, [10], rfl, Jp.lit _ _ (by simp) 10 _ rfl, by decide, Jr.grown_trans (Jr.grown_trans (Jr.grown_some (Jr.grown_drewN _ _) _) (Jr.grown_set _ _ _ _)) (Jp.grown_alloc _ _ _), rfl, (HW1.out _).on (Jp.grown_alloc _ _ _)⟩
set_option maxRecDepth 100000 in
set_option maxHeartbeats 4000000 in
theorem Jp.esc114 (c : UInt8) (r : List UInt8) (hn34 : c ≠ 34) (hn92 : c ≠ 92) (hn47 : c ≠ 47) (hn98 : c ≠ 98) (hn102 : c ≠ 102) (hn110 : c ≠ 110) (hc : c = 114) (g : Nat) (T : ByteArray) (w : World) (h : Jp.Rd w g T (c :: r) false) :
    Calls Tryz.prog 76 #[.pointer (some ⟨g, 0, none⟩)] w (Jp.BOut (some ([13], r)) w g T) := by
  obtain ⟨i, h1, h2, h3, hB⟩ := h
  have c0 : w.cell? ⟨g, 0, none⟩ = some (.string T) := hB.cell 0 rfl
  have c1 : w.cell? ⟨g, 1, none⟩ = some (.int .i64 (i : Int)) := hB.cell 1 rfl
  have f1 := hB.frozen 1
  have f2 := hB.frozen 2
  have c2 : w.cell? ⟨g, 2, none⟩ = some (.bool false) := hB.cell 2 rfl
  have HB := Lib.hid hB
  obtain ⟨hlt, he, hr⟩ := Jr.at_byte h2
  have HRR := Lib.hid hr
  have d1 : decide ((T.size : Int) ≤ (i : Int)) = false := decide_eq_false (by omega)
  have d1n : decide (T.size ≤ i) = false := decide_eq_false (by omega)
  have HW1 : Hid (∀ n, Jp.Rd ((w.drewN n).setCell ⟨g, 1, none⟩ (.int .i64 ((i : Int) + 1))) g T r false) := fun n => Jp.Rd.step1 h3 HB.out (Jr.grown_drewN _ _) hlt HRR.out.symm
  have hgw := hB.lt
  clear hB h2 hr
  have e34 : ((T[i].toNat : Int) == 34) = false := by rw [he]; exact (Jr.eq_dec c 34).trans (decide_eq_false hn34)
  have e92 : ((T[i].toNat : Int) == 92) = false := by rw [he]; exact (Jr.eq_dec c 92).trans (decide_eq_false hn92)
  have e47 : ((T[i].toNat : Int) == 47) = false := by rw [he]; exact (Jr.eq_dec c 47).trans (decide_eq_false hn47)
  have e98 : ((T[i].toNat : Int) == 98) = false := by rw [he]; exact (Jr.eq_dec c 98).trans (decide_eq_false hn98)
  have e102 : ((T[i].toNat : Int) == 102) = false := by rw [he]; exact (Jr.eq_dec c 102).trans (decide_eq_false hn102)
  have e110 : ((T[i].toNat : Int) == 110) = false := by rw [he]; exact (Jr.eq_dec c 110).trans (decide_eq_false hn110)
  have e114 : ((T[i].toNat : Int) == 114) = true := by rw [he]; exact beq_iff_eq.2 (by rw [hc]; rfl)
  have HE := Lib.hid he
  have HC := Lib.hid hc
  clear he hc hn34 hn92 hn47 hn98 hn102 hn110
  go_enter Tryz.func76, Tryz.ntmps76
  go_wp2_with fail
  go_quiet (fail)
  go_wp2
  go_quiet (fail)
  go_wp2
  go_ret
  exact ⟨_, [13], rfl, Jp.lit _ _ (by simp) 13 _ rfl, by decide, Jr.grown_trans (Jr.grown_trans (Jr.grown_some (Jr.grown_drewN _ _) _) (Jr.grown_set _ _ _ _)) (Jp.grown_alloc _ _ _), rfl, (HW1.out _).on (Jp.grown_alloc _ _ _)⟩
set_option maxRecDepth 100000 in
set_option maxHeartbeats 4000000 in
theorem Jp.esc116 (c : UInt8) (r : List UInt8) (hn34 : c ≠ 34) (hn92 : c ≠ 92) (hn47 : c ≠ 47) (hn98 : c ≠ 98) (hn102 : c ≠ 102) (hn110 : c ≠ 110) (hn114 : c ≠ 114) (hc : c = 116) (g : Nat) (T : ByteArray) (w : World) (h : Jp.Rd w g T (c :: r) false) :
    Calls Tryz.prog 76 #[.pointer (some ⟨g, 0, none⟩)] w (Jp.BOut (some ([9], r)) w g T) := by
  obtain ⟨i, h1, h2, h3, hB⟩ := h
  have c0 : w.cell? ⟨g, 0, none⟩ = some (.string T) := hB.cell 0 rfl
  have c1 : w.cell? ⟨g, 1, none⟩ = some (.int .i64 (i : Int)) := hB.cell 1 rfl
  have f1 := hB.frozen 1
  have f2 := hB.frozen 2
  have c2 : w.cell? ⟨g, 2, none⟩ = some (.bool false) := hB.cell 2 rfl
  have HB := Lib.hid hB
  obtain ⟨hlt, he, hr⟩ := Jr.at_byte h2
  have HRR := Lib.hid hr
  have d1 : decide ((T.size : Int) ≤ (i : Int)) = false := decide_eq_false (by omega)
  have d1n : decide (T.size ≤ i) = false := decide_eq_false (by omega)
  have HW1 : Hid (∀ n, Jp.Rd ((w.drewN n).setCell ⟨g, 1, none⟩ (.int .i64 ((i : Int) + 1))) g T r false) := fun n => Jp.Rd.step1 h3 HB.out (Jr.grown_drewN _ _) hlt HRR.out.symm
  have hgw := hB.lt
  clear hB h2 hr
  have e34 : ((T[i].toNat : Int) == 34) = false := by rw [he]; exact (Jr.eq_dec c 34).trans (decide_eq_false hn34)
  have e92 : ((T[i].toNat : Int) == 92) = false := by rw [he]; exact (Jr.eq_dec c 92).trans (decide_eq_false hn92)
  have e47 : ((T[i].toNat : Int) == 47) = false := by rw [he]; exact (Jr.eq_dec c 47).trans (decide_eq_false hn47)
  have e98 : ((T[i].toNat : Int) == 98) = false := by rw [he]; exact (Jr.eq_dec c 98).trans (decide_eq_false hn98)
  have e102 : ((T[i].toNat : Int) == 102) = false := by rw [he]; exact (Jr.eq_dec c 102).trans (decide_eq_false hn102)
  have e110 : ((T[i].toNat : Int) == 110) = false := by rw [he]; exact (Jr.eq_dec c 110).trans (decide_eq_false hn110)
  have e114 : ((T[i].toNat : Int) == 114) = false := by rw [he]; exact (Jr.eq_dec c 114).trans (decide_eq_false hn114)
  have e116 : ((T[i].toNat : Int) == 116) = true := by rw [he]; exact beq_iff_eq.2 (by rw [hc]; rfl)
  have HE := Lib.hid he
  have HC := Lib.hid hc
  clear he hc hn34 hn92 hn47 hn98 hn102 hn110 hn114
  go_enter Tryz.func76, Tryz.ntmps76
  go_wp2_with fail
  go_quiet (fail)
  go_wp2
  go_quiet (fail)
  go_wp2
  go_ret
  exact ⟨_, [9], rfl, Jp.lit _ _ (by simp) 9 _ rfl, by decide, Jr.grown_trans (Jr.grown_trans (Jr.grown_some (Jr.grown_drewN _ _) _) (Jr.grown_set _ _ _ _)) (Jp.grown_alloc _ _ _), rfl, (HW1.out _).on (Jp.grown_alloc _ _ _)⟩
set_option maxRecDepth 100000 in
set_option maxHeartbeats 4000000 in
theorem Jp.escN (c : UInt8) (r : List UInt8) (hn34 : c ≠ 34) (hn92 : c ≠ 92) (hn47 : c ≠ 47) (hn98 : c ≠ 98) (hn102 : c ≠ 102) (hn110 : c ≠ 110) (hn114 : c ≠ 114) (hn116 : c ≠ 116) (hn117 : c ≠ 117) (g : Nat) (T : ByteArray) (w : World) (h : Jp.Rd w g T (c :: r) false) :
    Calls Tryz.prog 76 #[.pointer (some ⟨g, 0, none⟩)] w (Jp.BOut (none) w g T) := by
  obtain ⟨i, h1, h2, h3, hB⟩ := h
  have c0 : w.cell? ⟨g, 0, none⟩ = some (.string T) := hB.cell 0 rfl
  have c1 : w.cell? ⟨g, 1, none⟩ = some (.int .i64 (i : Int)) := hB.cell 1 rfl
  have f1 := hB.frozen 1
  have f2 := hB.frozen 2
  have c2 : w.cell? ⟨g, 2, none⟩ = some (.bool false) := hB.cell 2 rfl
  have HB := Lib.hid hB
  obtain ⟨hlt, he, hr⟩ := Jr.at_byte h2
  have HRR := Lib.hid hr
  have d1 : decide ((T.size : Int) ≤ (i : Int)) = false := decide_eq_false (by omega)
  have d1n : decide (T.size ≤ i) = false := decide_eq_false (by omega)
  have HW1 : Hid (∀ n, Jp.Rd ((w.drewN n).setCell ⟨g, 1, none⟩ (.int .i64 ((i : Int) + 1))) g T r false) := fun n => Jp.Rd.step1 h3 HB.out (Jr.grown_drewN _ _) hlt HRR.out.symm
  have hgw := hB.lt
  clear hB h2 hr
  have e34 : ((T[i].toNat : Int) == 34) = false := by rw [he]; exact (Jr.eq_dec c 34).trans (decide_eq_false hn34)
  have e92 : ((T[i].toNat : Int) == 92) = false := by rw [he]; exact (Jr.eq_dec c 92).trans (decide_eq_false hn92)
  have e47 : ((T[i].toNat : Int) == 47) = false := by rw [he]; exact (Jr.eq_dec c 47).trans (decide_eq_false hn47)
  have e98 : ((T[i].toNat : Int) == 98) = false := by rw [he]; exact (Jr.eq_dec c 98).trans (decide_eq_false hn98)
  have e102 : ((T[i].toNat : Int) == 102) = false := by rw [he]; exact (Jr.eq_dec c 102).trans (decide_eq_false hn102)
  have e110 : ((T[i].toNat : Int) == 110) = false := by rw [he]; exact (Jr.eq_dec c 110).trans (decide_eq_false hn110)
  have e114 : ((T[i].toNat : Int) == 114) = false := by rw [he]; exact (Jr.eq_dec c 114).trans (decide_eq_false hn114)
  have e116 : ((T[i].toNat : Int) == 116) = false := by rw [he]; exact (Jr.eq_dec c 116).trans (decide_eq_false hn116)
  have e117 : ((T[i].toNat : Int) == 117) = false := by rw [he]; exact (Jr.eq_dec c 117).trans (decide_eq_false hn117)
  clear he hn34 hn92 hn47 hn98 hn102 hn110 hn114 hn116 hn117
  go_enter Tryz.func76, Tryz.ntmps76
  go_wp2_with fail
  go_quiet (fail)
  go_wp2
  go_quiet (fail)
  go_wp2
  go_ret
  exact ⟨_, [], rfl, World.ownsRow_nil _ _ _ _, by decide, Jr.grown_trans (Jr.grown_trans (Jr.grown_some (Jr.grown_drewN _ _) _) (Jr.grown_set _ _ _ _)) (Jr.grown_set _ _ _ _), r, (HW1.out _).spoil⟩
end Go.Proofs.YtboalkfagfgnpaaGreatDoor
/-
  A ROW OF BYTES OF ONE'S OWN THAT GROWS by some bytes at a time.
-/
namespace Go.Proofs.YtboalkfagfgnpaaGreatDoor
open Go.RowKit
theorem Rb.info : (Tryz.prog.info? 5).map (fun i => (i.zero, i.size, i.bytes)) = some (some (.int .u8 0), 1, 1) := by kernel_rfl
theorem Rb.new (W : World) (arr : Array Value) (t : TypeId) (g : Nat) (h : g = W.heap.size) : ∀ (j : Nat) (u : Value), arr.toList[j]? = some u → (W.alloc (.cells arr t)).cell? ((⟨g, 0, none⟩ : Addr).add j) = some u := by
  subst h
  intro j u hj
  rw [Addr.add_lit, Nat.zero_add]
  unfold World.cell?
  rw [show (W.alloc (.cells arr t)).heap[W.heap.size]? = some _ from heap_alloc_new W _]
  simpa using hj
theorem Rb.wp {w : World} {o : Oper} {a : Act} {K : Act → World → Prop} {Z : Exit → Act → World → Prop} (s x : Operand)
    (ho : o.op = .call { callee := .builtin .append, args := #[s, x], argTypes := #[44, 44] })
    {base : Nat} {acc : List UInt8} (v : Value) (hs : a.eval s = v) (hown : w.ownsRow base 5 1 v acc.length (Lib.byteCells acc)) (g1 : Nat) (news : List UInt8) (k : Nat) (hk : news.length = k)
    (hx : a.eval x = .slice (some ⟨g1, 0, none⟩) k k) (hg1 : ∀ (j : Nat) (u : Value), (Lib.byteCells news)[j]? = some u → w.cell? ((⟨g1, 0, none⟩ : Addr).add j) = some u)
    (hn : acc.length + k ≤ 140737488355328) (hbase : base ≤ w.heap.size)
    (h : ∀ v' w', w'.ownsRow base 5 1 v' (acc ++ news).length (Lib.byteCells (acc ++ news)) → w.grownBy w' v.ownBlock → K (a.put o.dst v') w') : o.wp Tryz.prog a w K Z := by
  obtain ⟨iV, hiV, hzV, hsV, hbV⟩ := info_parts Rb.info
  have hone : ∀ u ∈ Lib.byteCells news, u.oneCell' = true := by
    intro u hu
    simp only [Lib.byteCells, List.mem_map] at hu
    obtain ⟨b, _, rfl⟩ := hu
    rfl
  have hl : (Lib.byteCells news).length = k * 1 := by rw [Lib.byteCells_length, hk, Nat.mul_one]
  obtain ⟨v', w', hr, h2, h3, h4⟩ := run_append_own (P := Tryz.prog) w base 44 o.type 5 iV _ 1 1 Tryz.underlying44 hiV hzV hsV hbV rfl (by decide) v acc.length (Lib.byteCells acc) hown ⟨g1, 0, none⟩ k k (Lib.byteCells news) hl hg1 hone (by unfold maxLen; omega) (by omega) hbase
  unfold Oper.wp execOp
  simp only [ho, resolve, invoke, builtin, Sem.run_bind, Sem.run_pure, Result.andThen_ok, List.map_toArray, List.map_cons, List.map_nil, hs, hx, hr]
  refine h v' w' ?_ h3
  rw [List.length_append, hk]
  have e : Lib.byteCells (acc ++ news) = Lib.byteCells acc ++ Lib.byteCells news := by simp [Lib.byteCells]
  rw [e]
  exact h2
theorem Rb.push {w : World} {ops : Array Oper} {rest : List Oper} {o : Oper} {a : Act} {Z : Exit → Act → World → Prop} (hgd : o.guard = none) (s x : Operand)
    (ho : o.op = .call { callee := .builtin .append, args := #[s, x], argTypes := #[44, 44] })
    {base : Nat} {acc : List UInt8} (v : Value) (hs : a.eval s = v) (hown : w.ownsRow base 5 1 v acc.length (Lib.byteCells acc)) (g1 : Nat) (news : List UInt8) (k : Nat) (hk : news.length = k)
    (hx : a.eval x = .slice (some ⟨g1, 0, none⟩) k k) (hg1 : ∀ (j : Nat) (u : Value), (Lib.byteCells news)[j]? = some u → w.cell? ((⟨g1, 0, none⟩ : Addr).add j) = some u)
    (hn : acc.length + k ≤ 140737488355328) (hbase : base ≤ w.heap.size)
    (h : ∀ v' w', w'.ownsRow base 5 1 v' (acc ++ news).length (Lib.byteCells (acc ++ news)) → w.grownBy w' v.ownBlock → wpList Tryz.prog ops Z rest (a.put o.dst v') w') : wpList Tryz.prog ops Z (o :: rest) a w :=
  wpList_plain hgd fun _ hK => Rb.wp s x ho v hs hown g1 news k hk hx hg1 hn hbase fun v' w' h2 h3 => hK _ _ (h v' w' h2 h3)
theorem Rb.step {w : World} {ops : Array Oper} {o : Oper} {a : Act} {K : Act → World → Prop} {E : Prop} {Z : Exit → Act → World → Prop} (hgd : o.guard = none) (s x : Operand)
    (ho : o.op = .call { callee := .builtin .append, args := #[s, x], argTypes := #[44, 44] })
    {base : Nat} {acc : List UInt8} (v : Value) (hs : a.eval s = v) (hown : w.ownsRow base 5 1 v acc.length (Lib.byteCells acc)) (g1 : Nat) (news : List UInt8) (k : Nat) (hk : news.length = k)
    (hx : a.eval x = .slice (some ⟨g1, 0, none⟩) k k) (hg1 : ∀ (j : Nat) (u : Value), (Lib.byteCells news)[j]? = some u → w.cell? ((⟨g1, 0, none⟩ : Addr).add j) = some u)
    (hn : acc.length + k ≤ 140737488355328) (hbase : base ≤ w.heap.size)
    (h : ∀ v' w', w'.ownsRow base 5 1 v' (acc ++ news).length (Lib.byteCells (acc ++ news)) → w.grownBy w' v.ownBlock → K (a.put o.dst v') w') : if Region.wanted o (yielded ops a.tmps) = true then Oper.wp Tryz.prog o a w K Z else E := by
  rw [if_pos (by simp [Region.wanted, hgd])]
  exact Rb.wp s x ho v hs hown g1 news k hk hx hg1 hn hbase h
theorem Rb.form {w : World} {base n : Nat} {v : Value} {xs : List Value} (h : w.ownsRow base 5 1 v n xs) : ∃ a d, v = .slice a n d := by
  rcases h.2 with ⟨rfl, rfl⟩ | ⟨g, cap, cur, rfl, _⟩
  · exact ⟨_, _, rfl⟩
  · exact ⟨_, _, rfl⟩
set_option maxRecDepth 100000 in
theorem Qr.in (c : UInt8) (S : ByteArray) (w : World) (hS : S.size ≤ 4611686018427387904) :
    Calls Tryz.prog 97 #[.int .u8 c.toNat, .string S] w fun e w' => e = .returned (.bool (S.data.toList.contains c)) ∧ w' = w := by
  obtain ⟨b, hb⟩ : ∃ b, S.data.toList.contains c = b := ⟨_, rfl⟩
  rw [hb]
  have HB := Lib.hid hb
  clear hb
  go_enter Tryz.func97, Tryz.ntmps97
  go_wp2_with fail
  go_loopw [5] (fun ix wr => ∃ i : Nat, i ≤ S.size ∧ ix = .int .i64 (i : Int) ∧ Hid ((S.data.toList.take i).contains c = false) ∧ wr = w) (fun ix _ => S.size - (intOf ix).toNat)
  case atStart => exact ⟨0, Nat.zero_le _, rfl, rfl, rfl⟩
  case round =>
    obtain ⟨i, hi, rfl, HC, hw⟩ := hrel
    have hw := hw.symm
    subst hw
    by_cases hlt : i < S.size
    · have d1 : decide ((i : Int) < (S.size : Int)) = true := decide_eq_true (by omega)
      have hl : i < S.data.toList.length := by rw [Wk.len_data]; exact hlt
      have hg : S.data.toList[i] = S[i] := by simp [ByteArray.getElem_eq_getElem_data]
      have HT : Hid ((S.data.toList.take (i + 1)).contains c = ((S.data.toList.take i).contains c || decide (c = S[i]))) := by
        unfold Hid
        rw [List.take_succ_eq_append_getElem hl, hg]
        simp [List.contains_eq_mem]
      by_cases hc : S[i] = c
      · have t1 : ((S[i].toNat : Int) == (c.toNat : Int)) = true := by rw [hc]; simp
        have HR : Hid (S.data.toList.contains c = true) := by
          unfold Hid
          rw [List.contains_iff_mem, ← hc, ← hg]
          exact List.getElem_mem hl
        have hbt : b = true := HB.out.symm.trans HR.out
        subst hbt
        clear hc hg
        go_wp2
        go_ret
        exact ⟨rfl, rfl⟩
      · have t1 : ((S[i].toNat : Int) == (c.toNat : Int)) = false := beq_eq_false_iff_ne.2 fun q => hc (UInt8.toNat_inj.1 (by omega))
        have HN : Hid ((S.data.toList.take (i + 1)).contains c = false) := by
          unfold Hid
          rw [HT.out, HC.out]
          simp
          exact fun q => hc q.symm
        clear hc hg
        go_wp2
        go_roundw
        case rel => exact ⟨i + 1, by omega, by go_num, HN, by first | rfl | trivial⟩
        case measure => simp [intOf]; omega
    · have e : i = S.size := by omega
      subst e
      have d1 : decide ((S.size : Int) < (S.size : Int)) = false := decide_eq_false (by omega)
      have HR : Hid (S.data.toList.contains c = false) := by
        have := HC.out
        rw [List.take_of_length_le (by rw [Wk.len_data]; exact Nat.le_refl _)] at this
        exact this
      have hbf : b = false := HB.out.symm.trans HR.out
      subst hbf
      go_wp2
      go_ret
      exact ⟨rfl, rfl⟩
end Go.Proofs.YtboalkfagfgnpaaGreatDoor
