/-
  THE WALK of the reference's reader: escaped, behind a 'u'; whole.
-/
import Derived.Test.YtboalkfagfgnpaaGreatDoorCJPctoQRow
namespace Go.Proofs.YtboalkfagfgnpaaGreatDoor
open Go.RowKit
theorem Jp.Rd.grown {w w' : World} {g : Nat} {T : ByteArray} {l : List UInt8} {bad : Bool} (h : Jp.Rd w g T l bad) (hb : Below w.heap.size w w') : Jp.Rd w' g T l bad := h.on (Jr.grown_below hb)
set_option maxRecDepth 100000 in
set_option maxHeartbeats 4000000 in
theorem Jp.uni0 (c : UInt8) (r : List UInt8) (hn34 : c ≠ 34) (hn92 : c ≠ 92) (hn47 : c ≠ 47) (hn98 : c ≠ 98) (hn102 : c ≠ 102) (hn110 : c ≠ 110) (hn114 : c ≠ 114) (hn116 : c ≠ 116) (hc : c = 117) (h4 : Js.four r = none) (g : Nat) (T : ByteArray) (w : World) (h : Jp.Rd w g T (c :: r) false) :
    Calls Tryz.prog 76 #[.pointer (some ⟨g, 0, none⟩)] w (Jp.BOut (none) w g T) := by
  obtain ⟨i, h1, h2, h3, hB⟩ := h
  have c0 : w.cell? ⟨g, 0, none⟩ = some (.string T) := hB.cell 0 rfl
  have c1 : w.cell? ⟨g, 1, none⟩ = some (.int .i64 (i : Int)) := hB.cell 1 rfl
  have f1 := hB.frozen 1
  have f2 := hB.frozen 2
  have c2 : w.cell? ⟨g, 2, none⟩ = some (.bool false) := hB.cell 2 rfl
  have HB := Lib.hid hB
  obtain ⟨hlt, he, hr⟩ := Jr.at_byte h2
  have HRR := Lib.hid hr
  have d1 : decide ((T.size : Int) ≤ (i : Int)) = false := decide_eq_false (by omega)
  have d1n : decide (T.size ≤ i) = false := decide_eq_false (by omega)
  have HW1 : Hid (∀ n, Jp.Rd ((w.drewN n).setCell ⟨g, 1, none⟩ (.int .i64 ((i : Int) + 1))) g T r false) := fun n => Jp.Rd.step1 h3 HB.out (Jr.grown_drewN _ _) hlt HRR.out.symm
  have hgw := hB.lt
  clear hB h2 hr
  have e34 : ((T[i].toNat : Int) == 34) = false := by rw [he]; exact (Jr.eq_dec c 34).trans (decide_eq_false hn34)
  have e92 : ((T[i].toNat : Int) == 92) = false := by rw [he]; exact (Jr.eq_dec c 92).trans (decide_eq_false hn92)
  have e47 : ((T[i].toNat : Int) == 47) = false := by rw [he]; exact (Jr.eq_dec c 47).trans (decide_eq_false hn47)
  have e98 : ((T[i].toNat : Int) == 98) = false := by rw [he]; exact (Jr.eq_dec c 98).trans (decide_eq_false hn98)
  have e102 : ((T[i].toNat : Int) == 102) = false := by rw [he]; exact (Jr.eq_dec c 102).trans (decide_eq_false hn102)
  have e110 : ((T[i].toNat : Int) == 110) = false := by rw [he]; exact (Jr.eq_dec c 110).trans (decide_eq_false hn110)
  have e114 : ((T[i].toNat : Int) == 114) = false := by rw [he]; exact (Jr.eq_dec c 114).trans (decide_eq_false hn114)
  have e116 : ((T[i].toNat : Int) == 116) = false := by rw [he]; exact (Jr.eq_dec c 116).trans (decide_eq_false hn116)
  have e117 : ((T[i].toNat : Int) == 117) = true := by rw [he]; exact beq_iff_eq.2 (by rw [hc]; rfl)
  clear he hc hn34 hn92 hn47 hn98 hn102 hn110 hn114 hn116
  have HG1 : Hid (∀ n, w.grownBy ((w.drewN n).setCell ⟨g, 1, none⟩ (.int .i64 ((i : Int) + 1))) (some g)) := fun n => Jr.grown_trans (Jr.grown_some (Jr.grown_drewN _ _) _) (Jr.grown_set _ _ _ _)
  have u1 := fun u q => Jp.four r false g T u q
  rw [h4] at u1
  clear h4
  go_enter Tryz.func76, Tryz.ntmps76
  go_wp2_with fail
  go_quiet (fail)
  go_wp2
  go_quiet (fail)
  go_wp2_with (first | (go_at_call 106; refine (u1 _ (HW1.out _)).mono ?_; rintro e w1 ⟨b1, rfl, r9, q1⟩; have HB1 := Lib.hid (Jr.grown_trans (HG1.out _) b1); have HR1 := Lib.hid q1; clear b1 q1 u1))
  go_ret
  exact ⟨_, [0], rfl, Jp.row_mono (Jp.lit _ _ rfl 0 _ rfl) HB1.out.size, by decide, Jr.grown_trans HB1.out (Jp.grown_alloc _ _ _), r9, HR1.out.on (Jp.grown_alloc _ _ _)⟩
set_option maxRecDepth 100000 in
set_option maxHeartbeats 4000000 in
theorem Jp.uni1 (c : UInt8) (r : List UInt8) (hn34 : c ≠ 34) (hn92 : c ≠ 92) (hn47 : c ≠ 47) (hn98 : c ≠ 98) (hn102 : c ≠ 102) (hn110 : c ≠ 110) (hn114 : c ≠ 114) (hn116 : c ≠ 116) (hc : c = 117) (x : Nat) (r1 : List UInt8) (h4 : Js.four r = some (x, r1)) (hx0 : x = 0) (g : Nat) (T : ByteArray) (w : World) (h : Jp.Rd w g T (c :: r) false) :
    Calls Tryz.prog 76 #[.pointer (some ⟨g, 0, none⟩)] w (Jp.BOut (some ([0], r1)) w g T) := by
  obtain ⟨i, h1, h2, h3, hB⟩ := h
  have c0 : w.cell? ⟨g, 0, none⟩ = some (.string T) := hB.cell 0 rfl
  have c1 : w.cell? ⟨g, 1, none⟩ = some (.int .i64 (i : Int)) := hB.cell 1 rfl
  have f1 := hB.frozen 1
  have f2 := hB.frozen 2
  have c2 : w.cell? ⟨g, 2, none⟩ = some (.bool false) := hB.cell 2 rfl
  have HB := Lib.hid hB
  obtain ⟨hlt, he, hr⟩ := Jr.at_byte h2
  have HRR := Lib.hid hr
  have d1 : decide ((T.size : Int) ≤ (i : Int)) = false := decide_eq_false (by omega)
  have d1n : decide (T.size ≤ i) = false := decide_eq_false (by omega)
  have HW1 : Hid (∀ n, Jp.Rd ((w.drewN n).setCell ⟨g, 1, none⟩ (.int .i64 ((i : Int) + 1))) g T r false) := fun n => Jp.Rd.step1 h3 HB.out (Jr.grown_drewN _ _) hlt HRR.out.symm
  have hgw := hB.lt
  clear hB h2 hr
  have e34 : ((T[i].toNat : Int) == 34) = false := by rw [he]; exact (Jr.eq_dec c 34).trans (decide_eq_false hn34)
  have e92 : ((T[i].toNat : Int) == 92) = false := by rw [he]; exact (Jr.eq_dec c 92).trans (decide_eq_false hn92)
  have e47 : ((T[i].toNat : Int) == 47) = false := by rw [he]; exact (Jr.eq_dec c 47).trans (decide_eq_false hn47)
  have e98 : ((T[i].toNat : Int) == 98) = false := by rw [he]; exact (Jr.eq_dec c 98).trans (decide_eq_false hn98)
  have e102 : ((T[i].toNat : Int) == 102) = false := by rw [he]; exact (Jr.eq_dec c 102).trans (decide_eq_false hn102)
  have e110 : ((T[i].toNat : Int) == 110) = false := by rw [he]; exact (Jr.eq_dec c 110).trans (decide_eq_false hn110)
  have e114 : ((T[i].toNat : Int) == 114) = false := by rw [he]; exact (Jr.eq_dec c 114).trans (decide_eq_false hn114)
  have e116 : ((T[i].toNat : Int) == 116) = false := by rw [he]; exact (Jr.eq_dec c 116).trans (decide_eq_false hn116)
  have e117 : ((T[i].toNat : Int) == 117) = true := by rw [he]; exact beq_iff_eq.2 (by rw [hc]; rfl)
  clear he hc hn34 hn92 hn47 hn98 hn102 hn110 hn114 hn116
  have HG1 : Hid (∀ n, w.grownBy ((w.drewN n).setCell ⟨g, 1, none⟩ (.int .i64 ((i : Int) + 1))) (some g)) := fun n => Jr.grown_trans (Jr.grown_some (Jr.grown_drewN _ _) _) (Jr.grown_set _ _ _ _)
  have u1 := fun u q => Jp.four r false g T u q
  have hx := (Js.four_len h4).2.1
  rw [h4] at u1
  clear h4
  subst hx0
  go_enter Tryz.func76, Tryz.ntmps76
  go_wp2_with fail
  go_quiet (fail)
  go_wp2
  go_quiet (fail)
  go_wp2_with (first | (go_at_call 106; refine (u1 _ (HW1.out _)).mono ?_; rintro e w1 ⟨b1, rfl, q1⟩; have HB1 := Lib.hid (Jr.grown_trans (HG1.out _) b1); have HR1 := Lib.hid q1; clear b1 q1 u1))
  go_ret
  exact ⟨_, [0], rfl, Jp.row_mono (Jp.lit _ _ rfl 0 _ rfl) HB1.out.size, by decide, Jr.grown_trans HB1.out (Jp.grown_alloc _ _ _), rfl, HR1.out.on (Jp.grown_alloc _ _ _)⟩
set_option maxRecDepth 100000 in
set_option maxHeartbeats 4000000 in
theorem Jp.uni2 (c : UInt8) (r : List UInt8) (hn34 : c ≠ 34) (hn92 : c ≠ 92) (hn47 : c ≠ 47) (hn98 : c ≠ 98) (hn102 : c ≠ 102) (hn110 : c ≠ 110) (hn114 : c ≠ 114) (hn116 : c ≠ 116) (hc : c = 117) (x : Nat) (r1 : List UInt8) (h4 : Js.four r = some (x, r1)) (hx0 : x ≠ 0) (hxs : x < 55296 ∨ 57343 < x) (g : Nat) (T : ByteArray) (w : World) (h : Jp.Rd w g T (c :: r) false) :
    Calls Tryz.prog 76 #[.pointer (some ⟨g, 0, none⟩)] w (Jp.BOut (some (Pl.runeL x, r1)) w g T) := by
  obtain ⟨i, h1, h2, h3, hB⟩ := h
  have c0 : w.cell? ⟨g, 0, none⟩ = some (.string T) := hB.cell 0 rfl
  have c1 : w.cell? ⟨g, 1, none⟩ = some (.int .i64 (i : Int)) := hB.cell 1 rfl
  have f1 := hB.frozen 1
  have f2 := hB.frozen 2
  have c2 : w.cell? ⟨g, 2, none⟩ = some (.bool false) := hB.cell 2 rfl
  have HB := Lib.hid hB
  obtain ⟨hlt, he, hr⟩ := Jr.at_byte h2
  have HRR := Lib.hid hr
  have d1 : decide ((T.size : Int) ≤ (i : Int)) = false := decide_eq_false (by omega)
  have d1n : decide (T.size ≤ i) = false := decide_eq_false (by omega)
  have HW1 : Hid (∀ n, Jp.Rd ((w.drewN n).setCell ⟨g, 1, none⟩ (.int .i64 ((i : Int) + 1))) g T r false) := fun n => Jp.Rd.step1 h3 HB.out (Jr.grown_drewN _ _) hlt HRR.out.symm
  have hgw := hB.lt
  clear hB h2 hr
  have e34 : ((T[i].toNat : Int) == 34) = false := by rw [he]; exact (Jr.eq_dec c 34).trans (decide_eq_false hn34)
  have e92 : ((T[i].toNat : Int) == 92) = false := by rw [he]; exact (Jr.eq_dec c 92).trans (decide_eq_false hn92)
  have e47 : ((T[i].toNat : Int) == 47) = false := by rw [he]; exact (Jr.eq_dec c 47).trans (decide_eq_false hn47)
  have e98 : ((T[i].toNat : Int) == 98) = false := by rw [he]; exact (Jr.eq_dec c 98).trans (decide_eq_false hn98)
  have e102 : ((T[i].toNat : Int) == 102) = false := by rw [he]; exact (Jr.eq_dec c 102).trans (decide_eq_false hn102)
  have e110 : ((T[i].toNat : Int) == 110) = false := by rw [he]; exact (Jr.eq_dec c 110).trans (decide_eq_false hn110)
  have e114 : ((T[i].toNat : Int) == 114) = false := by rw [he]; exact (Jr.eq_dec c 114).trans (decide_eq_false hn114)
  have e116 : ((T[i].toNat : Int) == 116) = false := by rw [he]; exact (Jr.eq_dec c 116).trans (decide_eq_false hn116)
  have e117 : ((T[i].toNat : Int) == 117) = true := by rw [he]; exact beq_iff_eq.2 (by rw [hc]; rfl)
  clear he hc hn34 hn92 hn47 hn98 hn102 hn110 hn114 hn116
  have HG1 : Hid (∀ n, w.grownBy ((w.drewN n).setCell ⟨g, 1, none⟩ (.int .i64 ((i : Int) + 1))) (some g)) := fun n => Jr.grown_trans (Jr.grown_some (Jr.grown_drewN _ _) _) (Jr.grown_set _ _ _ _)
  have u1 := fun u q => Jp.four r false g T u q
  have hx := (Js.four_len h4).2.1
  rw [h4] at u1
  clear h4
  have ru := fun u => Ru.rune x u
  have HL4 := Lib.hid (Jp.rune_len x)
  generalize Pl.runeL x = L at *
  have x0 : ((x : Int) == 0) = false := beq_eq_false_iff_ne.2 (by omega)
  have g1 : decide ((55296 : Int) ≤ (x : Int)) = decide (57343 < x) := by by_cases q : 57343 < x; rw [decide_eq_true q]; exact decide_eq_true (by omega); rw [decide_eq_false q]; exact decide_eq_false (by omega)
  have g2 : 57343 < x → decide ((x : Int) ≤ 56319) = false := fun q => decide_eq_false (by omega)
  have g3 : 57343 < x → decide ((x : Int) ≤ 57343) = false := fun q => decide_eq_false (by omega)
  by_cases q : 57343 < x
  case' pos => (rw [decide_eq_true q] at g1; replace g2 := g2 q; replace g3 := g3 q)
  case' neg => (rw [decide_eq_false q] at g1; clear g2 g3)
  all_goals clear q hxs hx0
  all_goals (go_enter Tryz.func76, Tryz.ntmps76)
  all_goals go_wp2_with fail
  all_goals go_quiet (fail)
  all_goals go_wp2
  all_goals go_quiet (fail)
  all_goals go_wp2_with (first | (go_at_call 106; refine (u1 _ (HW1.out _)).mono ?_; rintro e w1 ⟨b1, rfl, q1⟩; have HB1 := Lib.hid (Jr.grown_trans (HG1.out _) b1); have HR1 := Lib.hid q1; clear b1 q1 u1) | (go_at_call 107; refine (ru _).mono ?_; rintro e w4 ⟨v4, rfl, R4, b4⟩; obtain ⟨a4, d4, rfl⟩ := Rb.form R4; have HR4 := Lib.hid R4; have HB4 := Lib.hid b4; clear R4 b4 ru))
  all_goals go_ret
  all_goals exact ⟨_, L, rfl, Jp.row_mono HR4.out HB1.out.size, HL4.out, Jr.grown_trans HB1.out (Jr.grown_some (Jr.grown_below HB4.out) _), rfl, HR1.out.grown HB4.out⟩
set_option maxRecDepth 100000 in
set_option maxHeartbeats 4000000 in
theorem Jp.uni3 (c : UInt8) (r : List UInt8) (hn34 : c ≠ 34) (hn92 : c ≠ 92) (hn47 : c ≠ 47) (hn98 : c ≠ 98) (hn102 : c ≠ 102) (hn110 : c ≠ 110) (hn114 : c ≠ 114) (hn116 : c ≠ 116) (hc : c = 117) (x : Nat) (r1 : List UInt8) (h4 : Js.four r = some (x, r1)) (hx0 : 56320 ≤ x ∧ x ≤ 57343) (g : Nat) (T : ByteArray) (w : World) (h : Jp.Rd w g T (c :: r) false) :
    Calls Tryz.prog 76 #[.pointer (some ⟨g, 0, none⟩)] w (Jp.BOut (none) w g T) := by
  obtain ⟨i, h1, h2, h3, hB⟩ := h
  have c0 : w.cell? ⟨g, 0, none⟩ = some (.string T) := hB.cell 0 rfl
  have c1 : w.cell? ⟨g, 1, none⟩ = some (.int .i64 (i : Int)) := hB.cell 1 rfl
  have f1 := hB.frozen 1
  have f2 := hB.frozen 2
  have c2 : w.cell? ⟨g, 2, none⟩ = some (.bool false) := hB.cell 2 rfl
  have HB := Lib.hid hB
  obtain ⟨hlt, he, hr⟩ := Jr.at_byte h2
  have HRR := Lib.hid hr
  have d1 : decide ((T.size : Int) ≤ (i : Int)) = false := decide_eq_false (by omega)
  have d1n : decide (T.size ≤ i) = false := decide_eq_false (by omega)
  have HW1 : Hid (∀ n, Jp.Rd ((w.drewN n).setCell ⟨g, 1, none⟩ (.int .i64 ((i : Int) + 1))) g T r false) := fun n => Jp.Rd.step1 h3 HB.out (Jr.grown_drewN _ _) hlt HRR.out.symm
  have hgw := hB.lt
  clear hB h2 hr
  have e34 : ((T[i].toNat : Int) == 34) = false := by rw [he]; exact (Jr.eq_dec c 34).trans (decide_eq_false hn34)
  have e92 : ((T[i].toNat : Int) == 92) = false := by rw [he]; exact (Jr.eq_dec c 92).trans (decide_eq_false hn92)
  have e47 : ((T[i].toNat : Int) == 47) = false := by rw [he]; exact (Jr.eq_dec c 47).trans (decide_eq_false hn47)
  have e98 : ((T[i].toNat : Int) == 98) = false := by rw [he]; exact (Jr.eq_dec c 98).trans (decide_eq_false hn98)
  have e102 : ((T[i].toNat : Int) == 102) = false := by rw [he]; exact (Jr.eq_dec c 102).trans (decide_eq_false hn102)
  have e110 : ((T[i].toNat : Int) == 110) = false := by rw [he]; exact (Jr.eq_dec c 110).trans (decide_eq_false hn110)
  have e114 : ((T[i].toNat : Int) == 114) = false := by rw [he]; exact (Jr.eq_dec c 114).trans (decide_eq_false hn114)
  have e116 : ((T[i].toNat : Int) == 116) = false := by rw [he]; exact (Jr.eq_dec c 116).trans (decide_eq_false hn116)
  have e117 : ((T[i].toNat : Int) == 117) = true := by rw [he]; exact beq_iff_eq.2 (by rw [hc]; rfl)
  clear he hc hn34 hn92 hn47 hn98 hn102 hn110 hn114 hn116
  have HG1 : Hid (∀ n, w.grownBy ((w.drewN n).setCell ⟨g, 1, none⟩ (.int .i64 ((i : Int) + 1))) (some g)) := fun n => Jr.grown_trans (Jr.grown_some (Jr.grown_drewN _ _) _) (Jr.grown_set _ _ _ _)
  have u1 := fun u q => Jp.four r false g T u q
  have hx := (Js.four_len h4).2.1
  rw [h4] at u1
  clear h4
  have ru := fun u => Ru.rune x u
  have HL4 := Lib.hid (Jp.rune_len x)
  generalize Pl.runeL x = L at *
  have x0 : ((x : Int) == 0) = false := beq_eq_false_iff_ne.2 (by omega)
  have g1 : decide ((55296 : Int) ≤ (x : Int)) = true := decide_eq_true (by omega)
  have g3 : decide ((x : Int) ≤ 57343) = true := decide_eq_true (by omega)
  have g2 : decide ((x : Int) ≤ 56319) = false := decide_eq_false (by omega)
  go_enter Tryz.func76, Tryz.ntmps76
  go_wp2_with fail
  go_quiet (fail)
  go_wp2
  go_quiet (fail)
  go_wp2_with (first | (go_at_call 106; refine (u1 _ (HW1.out _)).mono ?_; rintro e w1 ⟨b1, rfl, q1⟩; have HB1 := Lib.hid (Jr.grown_trans (HG1.out _) b1); have HR1 := Lib.hid q1; obtain ⟨i1, p1, p2, p3, p4⟩ := HR1.out; have k0 := p4.frozen 2; have k2 := p4.cell 2 (v := .bool false) rfl; have HBX := Lib.hid p4; clear p1 p2 p3 p4; clear b1 q1 u1) | (go_at_call 107; refine (ru _).mono ?_; rintro e w4 ⟨v4, rfl, R4, b4⟩; obtain ⟨a4, d4, rfl⟩ := Rb.form R4; have HR4 := Lib.hid R4; have HB4 := Lib.hid b4; clear R4 b4 ru))
  go_ret
  exact ⟨_, L, rfl, Jp.row_mono HR4.out (Nat.le_trans HB1.out.size (by simp)), HL4.out, Jr.grown_trans (Jr.grown_trans HB1.out (Jr.grown_set _ _ _ _)) (Jr.grown_some (Jr.grown_below HB4.out) _), _, Jp.Rd.grown HR1.out.spoil HB4.out⟩
set_option maxRecDepth 100000 in
set_option maxHeartbeats 4000000 in
theorem Jp.uni4 (c : UInt8) (r : List UInt8) (hn34 : c ≠ 34) (hn92 : c ≠ 92) (hn47 : c ≠ 47) (hn98 : c ≠ 98) (hn102 : c ≠ 102) (hn110 : c ≠ 110) (hn114 : c ≠ 114) (hn116 : c ≠ 116) (hc : c = 117) (x : Nat) (r1 : List UInt8) (h4 : Js.four r = some (x, r1)) (hx0 : 55296 ≤ x ∧ x ≤ 56319) (hp : Pl.pre [92, 117] r1 = false) (g : Nat) (T : ByteArray) (w : World) (h : Jp.Rd w g T (c :: r) false) :
    Calls Tryz.prog 76 #[.pointer (some ⟨g, 0, none⟩)] w (Jp.BOut (none) w g T) := by
  obtain ⟨i, h1, h2, h3, hB⟩ := h
  have c0 : w.cell? ⟨g, 0, none⟩ = some (.string T) := hB.cell 0 rfl
  have c1 : w.cell? ⟨g, 1, none⟩ = some (.int .i64 (i : Int)) := hB.cell 1 rfl
  have f1 := hB.frozen 1
  have f2 := hB.frozen 2
  have c2 : w.cell? ⟨g, 2, none⟩ = some (.bool false) := hB.cell 2 rfl
  have HB := Lib.hid hB
  obtain ⟨hlt, he, hr⟩ := Jr.at_byte h2
  have HRR := Lib.hid hr
  have d1 : decide ((T.size : Int) ≤ (i : Int)) = false := decide_eq_false (by omega)
  have d1n : decide (T.size ≤ i) = false := decide_eq_false (by omega)
  have HW1 : Hid (∀ n, Jp.Rd ((w.drewN n).setCell ⟨g, 1, none⟩ (.int .i64 ((i : Int) + 1))) g T r false) := fun n => Jp.Rd.step1 h3 HB.out (Jr.grown_drewN _ _) hlt HRR.out.symm
  have hgw := hB.lt
  clear hB h2 hr
  have e34 : ((T[i].toNat : Int) == 34) = false := by rw [he]; exact (Jr.eq_dec c 34).trans (decide_eq_false hn34)
  have e92 : ((T[i].toNat : Int) == 92) = false := by rw [he]; exact (Jr.eq_dec c 92).trans (decide_eq_false hn92)
  have e47 : ((T[i].toNat : Int) == 47) = false := by rw [he]; exact (Jr.eq_dec c 47).trans (decide_eq_false hn47)
  have e98 : ((T[i].toNat : Int) == 98) = false := by rw [he]; exact (Jr.eq_dec c 98).trans (decide_eq_false hn98)
  have e102 : ((T[i].toNat : Int) == 102) = false := by rw [he]; exact (Jr.eq_dec c 102).trans (decide_eq_false hn102)
  have e110 : ((T[i].toNat : Int) == 110) = false := by rw [he]; exact (Jr.eq_dec c 110).trans (decide_eq_false hn110)
  have e114 : ((T[i].toNat : Int) == 114) = false := by rw [he]; exact (Jr.eq_dec c 114).trans (decide_eq_false hn114)
  have e116 : ((T[i].toNat : Int) == 116) = false := by rw [he]; exact (Jr.eq_dec c 116).trans (decide_eq_false hn116)
  have e117 : ((T[i].toNat : Int) == 117) = true := by rw [he]; exact beq_iff_eq.2 (by rw [hc]; rfl)
  clear he hc hn34 hn92 hn47 hn98 hn102 hn110 hn114 hn116
  have HG1 : Hid (∀ n, w.grownBy ((w.drewN n).setCell ⟨g, 1, none⟩ (.int .i64 ((i : Int) + 1))) (some g)) := fun n => Jr.grown_trans (Jr.grown_some (Jr.grown_drewN _ _) _) (Jr.grown_set _ _ _ _)
  have u1 := fun u q => Jp.four r false g T u q
  have hx := (Js.four_len h4).2.1
  rw [h4] at u1
  clear h4
  have ru := fun u => Ru.rune x u
  have HL4 := Lib.hid (Jp.rune_len x)
  generalize Pl.runeL x = L at *
  have x0 : ((x : Int) == 0) = false := beq_eq_false_iff_ne.2 (by omega)
  have g1 : decide ((55296 : Int) ≤ (x : Int)) = true := decide_eq_true (by omega)
  have g3 : decide ((x : Int) ≤ 57343) = true := decide_eq_true (by omega)
  have g2 : decide ((x : Int) ≤ 56319) = true := decide_eq_true (by omega)
  have wd : ∀ u, Jp.Rd u g T r1 false → Calls Tryz.prog 51 #[.pointer (some ⟨g, 0, none⟩), .string ⟨#[92, 117]⟩] u fun e w' => e = .returned (.bool false) ∧ u.grownBy w' (some g) ∧ Jp.Rd w' g T r1 false := fun u q => (Jp.word ⟨#[92, 117]⟩ (by decide) r1 false g T u q).mono fun e w' ⟨a, b, c⟩ => ⟨by rw [show Pl.pre (⟨#[92, 117]⟩ : ByteArray).data.toList r1 = false from hp] at a; exact a, b, by rw [if_neg (by rw [show Pl.pre (⟨#[92, 117]⟩ : ByteArray).data.toList r1 = false from hp]; exact Bool.false_ne_true)] at c; exact c⟩
  clear hp
  go_enter Tryz.func76, Tryz.ntmps76
  go_wp2_with fail
  go_quiet (fail)
  go_wp2
  go_quiet (fail)
  go_wp2_with (first | (go_at_call 106; refine (u1 _ (HW1.out _)).mono ?_; rintro e w1 ⟨b1, rfl, q1⟩; have HB1 := Lib.hid (Jr.grown_trans (HG1.out _) b1); have HR1 := Lib.hid q1; obtain ⟨i1, p1, p2, p3, p4⟩ := HR1.out; have k0 := p4.frozen 2; have k2 := p4.cell 2 (v := .bool false) rfl; have HBX := Lib.hid p4; clear p1 p2 p3 p4; clear b1 q1 u1) | (go_at_call 51; refine (wd _ HR1.out).mono ?_; rintro e w2 ⟨rfl, b2, q2⟩; have HB2 := Lib.hid (Jr.grown_trans HB1.out b2); have HR2 := Lib.hid q2; obtain ⟨i1, p1, p2, p3, p4⟩ := HR2.out; have k0 := p4.frozen 2; have k2 := p4.cell 2 (v := .bool false) rfl; have HBX := Lib.hid p4; clear p1 p2 p3 p4; clear b2 q2 wd) | (go_at_call 107; refine (ru _).mono ?_; rintro e w4 ⟨v4, rfl, R4, b4⟩; obtain ⟨a4, d4, rfl⟩ := Rb.form R4; have HR4 := Lib.hid R4; have HB4 := Lib.hid b4; clear R4 b4 ru))
  go_ret
  exact ⟨_, L, rfl, Jp.row_mono HR4.out (Nat.le_trans HB2.out.size (by simp)), HL4.out, Jr.grown_trans (Jr.grown_trans HB2.out (Jr.grown_set _ _ _ _)) (Jr.grown_some (Jr.grown_below HB4.out) _), _, Jp.Rd.grown HR2.out.spoil HB4.out⟩
set_option maxRecDepth 100000 in
set_option maxHeartbeats 4000000 in
theorem Jp.uni5 (c : UInt8) (r : List UInt8) (hn34 : c ≠ 34) (hn92 : c ≠ 92) (hn47 : c ≠ 47) (hn98 : c ≠ 98) (hn102 : c ≠ 102) (hn110 : c ≠ 110) (hn114 : c ≠ 114) (hn116 : c ≠ 116) (hc : c = 117) (x : Nat) (r1 : List UInt8) (h4 : Js.four r = some (x, r1)) (hx0 : 55296 ≤ x ∧ x ≤ 56319) (hp : Pl.pre [92, 117] r1 = true) (h5 : Js.four (r1.drop 2) = none) (g : Nat) (T : ByteArray) (w : World) (h : Jp.Rd w g T (c :: r) false) :
    Calls Tryz.prog 76 #[.pointer (some ⟨g, 0, none⟩)] w (Jp.BOut (none) w g T) := by
  obtain ⟨i, h1, h2, h3, hB⟩ := h
  have c0 : w.cell? ⟨g, 0, none⟩ = some (.string T) := hB.cell 0 rfl
  have c1 : w.cell? ⟨g, 1, none⟩ = some (.int .i64 (i : Int)) := hB.cell 1 rfl
  have f1 := hB.frozen 1
  have f2 := hB.frozen 2
  have c2 : w.cell? ⟨g, 2, none⟩ = some (.bool false) := hB.cell 2 rfl
  have HB := Lib.hid hB
  obtain ⟨hlt, he, hr⟩ := Jr.at_byte h2
  have HRR := Lib.hid hr
  have d1 : decide ((T.size : Int) ≤ (i : Int)) = false := decide_eq_false (by omega)
  have d1n : decide (T.size ≤ i) = false := decide_eq_false (by omega)
  have HW1 : Hid (∀ n, Jp.Rd ((w.drewN n).setCell ⟨g, 1, none⟩ (.int .i64 ((i : Int) + 1))) g T r false) := fun n => Jp.Rd.step1 h3 HB.out (Jr.grown_drewN _ _) hlt HRR.out.symm
  have hgw := hB.lt
  clear hB h2 hr
  have e34 : ((T[i].toNat : Int) == 34) = false := by rw [he]; exact (Jr.eq_dec c 34).trans (decide_eq_false hn34)
  have e92 : ((T[i].toNat : Int) == 92) = false := by rw [he]; exact (Jr.eq_dec c 92).trans (decide_eq_false hn92)
  have e47 : ((T[i].toNat : Int) == 47) = false := by rw [he]; exact (Jr.eq_dec c 47).trans (decide_eq_false hn47)
  have e98 : ((T[i].toNat : Int) == 98) = false := by rw [he]; exact (Jr.eq_dec c 98).trans (decide_eq_false hn98)
  have e102 : ((T[i].toNat : Int) == 102) = false := by rw [he]; exact (Jr.eq_dec c 102).trans (decide_eq_false hn102)
  have e110 : ((T[i].toNat : Int) == 110) = false := by rw [he]; exact (Jr.eq_dec c 110).trans (decide_eq_false hn110)
  have e114 : ((T[i].toNat : Int) == 114) = false := by rw [he]; exact (Jr.eq_dec c 114).trans (decide_eq_false hn114)
  have e116 : ((T[i].toNat : Int) == 116) = false := by rw [he]; exact (Jr.eq_dec c 116).trans (decide_eq_false hn116)
  have e117 : ((T[i].toNat : Int) == 117) = true := by rw [he]; exact beq_iff_eq.2 (by rw [hc]; rfl)
  clear he hc hn34 hn92 hn47 hn98 hn102 hn110 hn114 hn116
  have HG1 : Hid (∀ n, w.grownBy ((w.drewN n).setCell ⟨g, 1, none⟩ (.int .i64 ((i : Int) + 1))) (some g)) := fun n => Jr.grown_trans (Jr.grown_some (Jr.grown_drewN _ _) _) (Jr.grown_set _ _ _ _)
  have u1 := fun u q => Jp.four r false g T u q
  have hx := (Js.four_len h4).2.1
  rw [h4] at u1
  clear h4
  have ru := fun u => Ru.rune x u
  have HL4 := Lib.hid (Jp.rune_len x)
  generalize Pl.runeL x = L at *
  have x0 : ((x : Int) == 0) = false := beq_eq_false_iff_ne.2 (by omega)
  have g1 : decide ((55296 : Int) ≤ (x : Int)) = true := decide_eq_true (by omega)
  have g3 : decide ((x : Int) ≤ 57343) = true := decide_eq_true (by omega)
  have g2 : decide ((x : Int) ≤ 56319) = true := decide_eq_true (by omega)
  have wd : ∀ u, Jp.Rd u g T r1 false → Calls Tryz.prog 51 #[.pointer (some ⟨g, 0, none⟩), .string ⟨#[92, 117]⟩] u fun e w' => e = .returned (.bool true) ∧ u.grownBy w' (some g) ∧ Jp.Rd w' g T (r1.drop 2) false := fun u q => (Jp.word ⟨#[92, 117]⟩ (by decide) r1 false g T u q).mono fun e w' ⟨a, b, c⟩ => ⟨by rw [show Pl.pre (⟨#[92, 117]⟩ : ByteArray).data.toList r1 = true from hp] at a; exact a, b, by rw [if_pos hp] at c; exact c⟩
  clear hp
  have u2 := fun u q => Jp.four (r1.drop 2) false g T u q
  rw [h5] at u2
  clear h5
  go_enter Tryz.func76, Tryz.ntmps76
  go_wp2_with fail
  go_quiet (fail)
  go_wp2
  go_quiet (fail)
  go_wp2_with (first | (go_at_call 106; refine (u1 _ (HW1.out _)).mono ?_; rintro e w1 ⟨b1, rfl, q1⟩; have HB1 := Lib.hid (Jr.grown_trans (HG1.out _) b1); have HR1 := Lib.hid q1; obtain ⟨i1, p1, p2, p3, p4⟩ := HR1.out; have k0 := p4.frozen 2; have k2 := p4.cell 2 (v := .bool false) rfl; have HBX := Lib.hid p4; clear p1 p2 p3 p4; clear b1 q1 u1) | (go_at_call 51; refine (wd _ HR1.out).mono ?_; rintro e w2 ⟨rfl, b2, q2⟩; have HB2 := Lib.hid (Jr.grown_trans HB1.out b2); have HR2 := Lib.hid q2; obtain ⟨i1, p1, p2, p3, p4⟩ := HR2.out; have k0 := p4.frozen 2; have k2 := p4.cell 2 (v := .bool false) rfl; have HBX := Lib.hid p4; clear p1 p2 p3 p4; clear b2 q2 wd) | (go_at_call 106; refine (u2 _ HR2.out).mono ?_; rintro e w3 ⟨b3, rfl, r8, q3⟩; have HB3 := Lib.hid (Jr.grown_trans HB2.out b3); have HR3 := Lib.hid q3; obtain ⟨i1, p1, p2, p3, p4⟩ := HR3.out; have k0 := p4.frozen 2; have k2 := p4.cell 2 (v := .bool true) rfl; have HBX := Lib.hid p4; clear p1 p2 p3 p4; clear b3 q3 u2) | (go_at_call 107; refine (ru _).mono ?_; rintro e w4 ⟨v4, rfl, R4, b4⟩; obtain ⟨a4, d4, rfl⟩ := Rb.form R4; have HR4 := Lib.hid R4; have HB4 := Lib.hid b4; clear R4 b4 ru))
  go_ret
  exact ⟨_, L, rfl, Jp.row_mono HR4.out (Nat.le_trans HB3.out.size (by simp)), HL4.out, Jr.grown_trans (Jr.grown_trans (Jr.grown_trans HB3.out (Jr.grown_set _ _ _ _)) (Jr.grown_set _ _ _ _)) (Jr.grown_some (Jr.grown_below HB4.out) _), _, Jp.Rd.grown HR3.out.spoil.spoil HB4.out⟩
set_option maxRecDepth 100000 in
set_option maxHeartbeats 4000000 in
theorem Jp.uni6 (c : UInt8) (r : List UInt8) (hn34 : c ≠ 34) (hn92 : c ≠ 92) (hn47 : c ≠ 47) (hn98 : c ≠ 98) (hn102 : c ≠ 102) (hn110 : c ≠ 110) (hn114 : c ≠ 114) (hn116 : c ≠ 116) (hc : c = 117) (x : Nat) (r1 : List UInt8) (h4 : Js.four r = some (x, r1)) (hx0 : 55296 ≤ x ∧ x ≤ 56319) (hp : Pl.pre [92, 117] r1 = true) (y : Nat) (r3 : List UInt8) (h5 : Js.four (r1.drop 2) = some (y, r3)) (hy0 : y < 56320) (g : Nat) (T : ByteArray) (w : World) (h : Jp.Rd w g T (c :: r) false) :
    Calls Tryz.prog 76 #[.pointer (some ⟨g, 0, none⟩)] w (Jp.BOut (none) w g T) := by
  obtain ⟨i, h1, h2, h3, hB⟩ := h
  have c0 : w.cell? ⟨g, 0, none⟩ = some (.string T) := hB.cell 0 rfl
  have c1 : w.cell? ⟨g, 1, none⟩ = some (.int .i64 (i : Int)) := hB.cell 1 rfl
  have f1 := hB.frozen 1
  have f2 := hB.frozen 2
  have c2 : w.cell? ⟨g, 2, none⟩ = some (.bool false) := hB.cell 2 rfl
  have HB := Lib.hid hB
  obtain ⟨hlt, he, hr⟩ := Jr.at_byte h2
  have HRR := Lib.hid hr
  have d1 : decide ((T.size : Int) ≤ (i : Int)) = false := decide_eq_false (by omega)
  have d1n : decide (T.size ≤ i) = false := decide_eq_false (by omega)
  have HW1 : Hid (∀ n, Jp.Rd ((w.drewN n).setCell ⟨g, 1, none⟩ (.int .i64 ((i : Int) + 1))) g T r false) := fun n => Jp.Rd.step1 h3 HB.out (Jr.grown_drewN _ _) hlt HRR.out.symm
  have hgw := hB.lt
  clear hB h2 hr
  have e34 : ((T[i].toNat : Int) == 34) = false := by rw [he]; exact (Jr.eq_dec c 34).trans (decide_eq_false hn34)
  have e92 : ((T[i].toNat : Int) == 92) = false := by rw [he]; exact (Jr.eq_dec c 92).trans (decide_eq_false hn92)
  have e47 : ((T[i].toNat : Int) == 47) = false := by rw [he]; exact (Jr.eq_dec c 47).trans (decide_eq_false hn47)
  have e98 : ((T[i].toNat : Int) == 98) = false := by rw [he]; exact (Jr.eq_dec c 98).trans (decide_eq_false hn98)
  have e102 : ((T[i].toNat : Int) == 102) = false := by rw [he]; exact (Jr.eq_dec c 102).trans (decide_eq_false hn102)
  have e110 : ((T[i].toNat : Int) == 110) = false := by rw [he]; exact (Jr.eq_dec c 110).trans (decide_eq_false hn110)
  have e114 : ((T[i].toNat : Int) == 114) = false := by rw [he]; exact (Jr.eq_dec c 114).trans (decide_eq_false hn114)
  have e116 : ((T[i].toNat : Int) == 116) = false := by rw [he]; exact (Jr.eq_dec c 116).trans (decide_eq_false hn116)
  have e117 : ((T[i].toNat : Int) == 117) = true := by rw [he]; exact beq_iff_eq.2 (by rw [hc]; rfl)
  clear he hc hn34 hn92 hn47 hn98 hn102 hn110 hn114 hn116
  have HG1 : Hid (∀ n, w.grownBy ((w.drewN n).setCell ⟨g, 1, none⟩ (.int .i64 ((i : Int) + 1))) (some g)) := fun n => Jr.grown_trans (Jr.grown_some (Jr.grown_drewN _ _) _) (Jr.grown_set _ _ _ _)
  have u1 := fun u q => Jp.four r false g T u q
  have hx := (Js.four_len h4).2.1
  rw [h4] at u1
  clear h4
  have ru := fun u => Ru.rune x u
  have HL4 := Lib.hid (Jp.rune_len x)
  generalize Pl.runeL x = L at *
  have x0 : ((x : Int) == 0) = false := beq_eq_false_iff_ne.2 (by omega)
  have g1 : decide ((55296 : Int) ≤ (x : Int)) = true := decide_eq_true (by omega)
  have g3 : decide ((x : Int) ≤ 57343) = true := decide_eq_true (by omega)
  have g2 : decide ((x : Int) ≤ 56319) = true := decide_eq_true (by omega)
  have wd : ∀ u, Jp.Rd u g T r1 false → Calls Tryz.prog 51 #[.pointer (some ⟨g, 0, none⟩), .string ⟨#[92, 117]⟩] u fun e w' => e = .returned (.bool true) ∧ u.grownBy w' (some g) ∧ Jp.Rd w' g T (r1.drop 2) false := fun u q => (Jp.word ⟨#[92, 117]⟩ (by decide) r1 false g T u q).mono fun e w' ⟨a, b, c⟩ => ⟨by rw [show Pl.pre (⟨#[92, 117]⟩ : ByteArray).data.toList r1 = true from hp] at a; exact a, b, by rw [if_pos hp] at c; exact c⟩
  clear hp
  have u2 := fun u q => Jp.four (r1.drop 2) false g T u q
  rw [h5] at u2
  have hy := (Js.four_len h5).2.1
  clear h5
  have t1 : decide ((56320 : Int) ≤ (y : Int)) = false := decide_eq_false (by omega)
  go_enter Tryz.func76, Tryz.ntmps76
  go_wp2_with fail
  go_quiet (fail)
  go_wp2
  go_quiet (fail)
  go_wp2_with (first | (go_at_call 106; refine (u1 _ (HW1.out _)).mono ?_; rintro e w1 ⟨b1, rfl, q1⟩; have HB1 := Lib.hid (Jr.grown_trans (HG1.out _) b1); have HR1 := Lib.hid q1; obtain ⟨i1, p1, p2, p3, p4⟩ := HR1.out; have k0 := p4.frozen 2; have k2 := p4.cell 2 (v := .bool false) rfl; have HBX := Lib.hid p4; clear p1 p2 p3 p4; clear b1 q1 u1) | (go_at_call 51; refine (wd _ HR1.out).mono ?_; rintro e w2 ⟨rfl, b2, q2⟩; have HB2 := Lib.hid (Jr.grown_trans HB1.out b2); have HR2 := Lib.hid q2; obtain ⟨i1, p1, p2, p3, p4⟩ := HR2.out; have k0 := p4.frozen 2; have k2 := p4.cell 2 (v := .bool false) rfl; have HBX := Lib.hid p4; clear p1 p2 p3 p4; clear b2 q2 wd) | (go_at_call 106; refine (u2 _ HR2.out).mono ?_; rintro e w3 ⟨b3, rfl, q3⟩; have HB3 := Lib.hid (Jr.grown_trans HB2.out b3); have HR3 := Lib.hid q3; obtain ⟨i1, p1, p2, p3, p4⟩ := HR3.out; have k0 := p4.frozen 2; have k2 := p4.cell 2 (v := .bool false) rfl; have HBX := Lib.hid p4; clear p1 p2 p3 p4; clear b3 q3 u2) | (go_at_call 107; refine (ru _).mono ?_; rintro e w4 ⟨v4, rfl, R4, b4⟩; obtain ⟨a4, d4, rfl⟩ := Rb.form R4; have HR4 := Lib.hid R4; have HB4 := Lib.hid b4; clear R4 b4 ru))
  go_ret
  exact ⟨_, L, rfl, Jp.row_mono HR4.out (Nat.le_trans HB3.out.size (by simp)), HL4.out, Jr.grown_trans (Jr.grown_trans (Jr.grown_trans HB3.out (Jr.grown_set _ _ _ _)) (Jr.grown_set _ _ _ _)) (Jr.grown_some (Jr.grown_below HB4.out) _), _, Jp.Rd.grown HR3.out.spoil.spoil HB4.out⟩
set_option maxRecDepth 100000 in
set_option maxHeartbeats 4000000 in
theorem Jp.uni7 (c : UInt8) (r : List UInt8) (hn34 : c ≠ 34) (hn92 : c ≠ 92) (hn47 : c ≠ 47) (hn98 : c ≠ 98) (hn102 : c ≠ 102) (hn110 : c ≠ 110) (hn114 : c ≠ 114) (hn116 : c ≠ 116) (hc : c = 117) (x : Nat) (r1 : List UInt8) (h4 : Js.four r = some (x, r1)) (hx0 : 55296 ≤ x ∧ x ≤ 56319) (hp : Pl.pre [92, 117] r1 = true) (y : Nat) (r3 : List UInt8) (h5 : Js.four (r1.drop 2) = some (y, r3)) (hy0 : 57343 < y) (g : Nat) (T : ByteArray) (w : World) (h : Jp.Rd w g T (c :: r) false) :
    Calls Tryz.prog 76 #[.pointer (some ⟨g, 0, none⟩)] w (Jp.BOut (none) w g T) := by
  obtain ⟨i, h1, h2, h3, hB⟩ := h
  have c0 : w.cell? ⟨g, 0, none⟩ = some (.string T) := hB.cell 0 rfl
  have c1 : w.cell? ⟨g, 1, none⟩ = some (.int .i64 (i : Int)) := hB.cell 1 rfl
  have f1 := hB.frozen 1
  have f2 := hB.frozen 2
  have c2 : w.cell? ⟨g, 2, none⟩ = some (.bool false) := hB.cell 2 rfl
  have HB := Lib.hid hB
  obtain ⟨hlt, he, hr⟩ := Jr.at_byte h2
  have HRR := Lib.hid hr
  have d1 : decide ((T.size : Int) ≤ (i : Int)) = false := decide_eq_false (by omega)
  have d1n : decide (T.size ≤ i) = false := decide_eq_false (by omega)
  have HW1 : Hid (∀ n, Jp.Rd ((w.drewN n).setCell ⟨g, 1, none⟩ (.int .i64 ((i : Int) + 1))) g T r false) := fun n => Jp.Rd.step1 h3 HB.out (Jr.grown_drewN _ _) hlt HRR.out.symm
  have hgw := hB.lt
  clear hB h2 hr
  have e34 : ((T[i].toNat : Int) == 34) = false := by rw [he]; exact (Jr.eq_dec c 34).trans (decide_eq_false hn34)
  have e92 : ((T[i].toNat : Int) == 92) = false := by rw [he]; exact (Jr.eq_dec c 92).trans (decide_eq_false hn92)
  have e47 : ((T[i].toNat : Int) == 47) = false := by rw [he]; exact (Jr.eq_dec c 47).trans (decide_eq_false hn47)
  have e98 : ((T[i].toNat : Int) == 98) = false := by rw [he]; exact (Jr.eq_dec c 98).trans (decide_eq_false hn98)
  have e102 : ((T[i].toNat : Int) == 102) = false := by rw [he]; exact (Jr.eq_dec c 102).trans (decide_eq_false hn102)
  have e110 : ((T[i].toNat : Int) == 110) = false := by rw [he]; exact (Jr.eq_dec c 110).trans (decide_eq_false hn110)
  have e114 : ((T[i].toNat : Int) == 114) = false := by rw [he]; exact (Jr.eq_dec c 114).trans (decide_eq_false hn114)
  have e116 : ((T[i].toNat : Int) == 116) = false := by rw [he]; exact (Jr.eq_dec c 116).trans (decide_eq_false hn116)
  have e117 : ((T[i].toNat : Int) == 117) = true := by rw [he]; exact beq_iff_eq.2 (by rw [hc]; rfl)
  clear he hc hn34 hn92 hn47 hn98 hn102 hn110 hn114 hn116
  have HG1 : Hid (∀ n, w.grownBy ((w.drewN n).setCell ⟨g, 1, none⟩ (.int .i64 ((i : Int) + 1))) (some g)) := fun n => Jr.grown_trans (Jr.grown_some (Jr.grown_drewN _ _) _) (Jr.grown_set _ _ _ _)
  have u1 := fun u q => Jp.four r false g T u q
  have hx := (Js.four_len h4).2.1
  rw [h4] at u1
  clear h4
  have ru := fun u => Ru.rune x u
  have HL4 := Lib.hid (Jp.rune_len x)
  generalize Pl.runeL x = L at *
  have x0 : ((x : Int) == 0) = false := beq_eq_false_iff_ne.2 (by omega)
  have g1 : decide ((55296 : Int) ≤ (x : Int)) = true := decide_eq_true (by omega)
  have g3 : decide ((x : Int) ≤ 57343) = true := decide_eq_true (by omega)
  have g2 : decide ((x : Int) ≤ 56319) = true := decide_eq_true (by omega)
  have wd : ∀ u, Jp.Rd u g T r1 false → Calls Tryz.prog 51 #[.pointer (some ⟨g, 0, none⟩), .string ⟨#[92, 117]⟩] u fun e w' => e = .returned (.bool true) ∧ u.grownBy w' (some g) ∧ Jp.Rd w' g T (r1.drop 2) false := fun u q => (Jp.word ⟨#[92, 117]⟩ (by decide) r1 false g T u q).mono fun e w' ⟨a, b, c⟩ => ⟨by rw [show Pl.pre (⟨#[92, 117]⟩ : ByteArray).data.toList r1 = true from hp] at a; exact a, b, by rw [if_pos hp] at c; exact c⟩
  clear hp
  have u2 := fun u q => Jp.four (r1.drop 2) false g T u q
  rw [h5] at u2
  have hy := (Js.four_len h5).2.1
  clear h5
  have t1 : decide ((56320 : Int) ≤ (y : Int)) = true := decide_eq_true (by omega)
  have t2 : decide ((y : Int) ≤ 57343) = false := decide_eq_false (by omega)
  go_enter Tryz.func76, Tryz.ntmps76
  go_wp2_with fail
  go_quiet (fail)
  go_wp2
  go_quiet (fail)
  go_wp2_with (first | (go_at_call 106; refine (u1 _ (HW1.out _)).mono ?_; rintro e w1 ⟨b1, rfl, q1⟩; have HB1 := Lib.hid (Jr.grown_trans (HG1.out _) b1); have HR1 := Lib.hid q1; obtain ⟨i1, p1, p2, p3, p4⟩ := HR1.out; have k0 := p4.frozen 2; have k2 := p4.cell 2 (v := .bool false) rfl; have HBX := Lib.hid p4; clear p1 p2 p3 p4; clear b1 q1 u1) | (go_at_call 51; refine (wd _ HR1.out).mono ?_; rintro e w2 ⟨rfl, b2, q2⟩; have HB2 := Lib.hid (Jr.grown_trans HB1.out b2); have HR2 := Lib.hid q2; obtain ⟨i1, p1, p2, p3, p4⟩ := HR2.out; have k0 := p4.frozen 2; have k2 := p4.cell 2 (v := .bool false) rfl; have HBX := Lib.hid p4; clear p1 p2 p3 p4; clear b2 q2 wd) | (go_at_call 106; refine (u2 _ HR2.out).mono ?_; rintro e w3 ⟨b3, rfl, q3⟩; have HB3 := Lib.hid (Jr.grown_trans HB2.out b3); have HR3 := Lib.hid q3; obtain ⟨i1, p1, p2, p3, p4⟩ := HR3.out; have k0 := p4.frozen 2; have k2 := p4.cell 2 (v := .bool false) rfl; have HBX := Lib.hid p4; clear p1 p2 p3 p4; clear b3 q3 u2) | (go_at_call 107; refine (ru _).mono ?_; rintro e w4 ⟨v4, rfl, R4, b4⟩; obtain ⟨a4, d4, rfl⟩ := Rb.form R4; have HR4 := Lib.hid R4; have HB4 := Lib.hid b4; clear R4 b4 ru))
  go_ret
  exact ⟨_, L, rfl, Jp.row_mono HR4.out (Nat.le_trans HB3.out.size (by simp)), HL4.out, Jr.grown_trans (Jr.grown_trans (Jr.grown_trans HB3.out (Jr.grown_set _ _ _ _)) (Jr.grown_set _ _ _ _)) (Jr.grown_some (Jr.grown_below HB4.out) _), _, Jp.Rd.grown HR3.out.spoil.spoil HB4.out⟩
set_option maxRecDepth 100000 in
set_option maxHeartbeats 4000000 in
theorem Jp.uni8 (c : UInt8) (r : List UInt8) (hn34 : c ≠ 34) (hn92 : c ≠ 92) (hn47 : c ≠ 47) (hn98 : c ≠ 98) (hn102 : c ≠ 102) (hn110 : c ≠ 110) (hn114 : c ≠ 114) (hn116 : c ≠ 116) (hc : c = 117) (x : Nat) (r1 : List UInt8) (h4 : Js.four r = some (x, r1)) (hx0 : 55296 ≤ x ∧ x ≤ 56319) (hp : Pl.pre [92, 117] r1 = true) (y : Nat) (r3 : List UInt8) (h5 : Js.four (r1.drop 2) = some (y, r3)) (hy0 : 56320 ≤ y ∧ y ≤ 57343) (g : Nat) (T : ByteArray) (w : World) (h : Jp.Rd w g T (c :: r) false) :
    Calls Tryz.prog 76 #[.pointer (some ⟨g, 0, none⟩)] w (Jp.BOut (some (Pl.runeL (65536 + (x - 55296) * 1024 + (y - 56320)), r3)) w g T) := by
  obtain ⟨i, h1, h2, h3, hB⟩ := h
  have c0 : w.cell? ⟨g, 0, none⟩ = some (.string T) := hB.cell 0 rfl
  have c1 : w.cell? ⟨g, 1, none⟩ = some (.int .i64 (i : Int)) := hB.cell 1 rfl
  have f1 := hB.frozen 1
  have f2 := hB.frozen 2
  have c2 : w.cell? ⟨g, 2, none⟩ = some (.bool false) := hB.cell 2 rfl
  have HB := Lib.hid hB
  obtain ⟨hlt, he, hr⟩ := Jr.at_byte h2
  have HRR := Lib.hid hr
  have d1 : decide ((T.size : Int) ≤ (i : Int)) = false := decide_eq_false (by omega)
  have d1n : decide (T.size ≤ i) = false := decide_eq_false (by omega)
  have HW1 : Hid (∀ n, Jp.Rd ((w.drewN n).setCell ⟨g, 1, none⟩ (.int .i64 ((i : Int) + 1))) g T r false) := fun n => Jp.Rd.step1 h3 HB.out (Jr.grown_drewN _ _) hlt HRR.out.symm
  have hgw := hB.lt
  clear hB h2 hr
  have e34 : ((T[i].toNat : Int) == 34) = false := by rw [he]; exact (Jr.eq_dec c 34).trans (decide_eq_false hn34)
  have e92 : ((T[i].toNat : Int) == 92) = false := by rw [he]; exact (Jr.eq_dec c 92).trans (decide_eq_false hn92)
  have e47 : ((T[i].toNat : Int) == 47) = false := by rw [he]; exact (Jr.eq_dec c 47).trans (decide_eq_false hn47)
  have e98 : ((T[i].toNat : Int) == 98) = false := by rw [he]; exact (Jr.eq_dec c 98).trans (decide_eq_false hn98)
  have e102 : ((T[i].toNat : Int) == 102) = false := by rw [he]; exact (Jr.eq_dec c 102).trans (decide_eq_false hn102)
  have e110 : ((T[i].toNat : Int) == 110) = false := by rw [he]; exact (Jr.eq_dec c 110).trans (decide_eq_false hn110)
  have e114 : ((T[i].toNat : Int) == 114) = false := by rw [he]; exact (Jr.eq_dec c 114).trans (decide_eq_false hn114)
  have e116 : ((T[i].toNat : Int) == 116) = false := by rw [he]; exact (Jr.eq_dec c 116).trans (decide_eq_false hn116)
  have e117 : ((T[i].toNat : Int) == 117) = true := by rw [he]; exact beq_iff_eq.2 (by rw [hc]; rfl)
  clear he hc hn34 hn92 hn47 hn98 hn102 hn110 hn114 hn116
  have HG1 : Hid (∀ n, w.grownBy ((w.drewN n).setCell ⟨g, 1, none⟩ (.int .i64 ((i : Int) + 1))) (some g)) := fun n => Jr.grown_trans (Jr.grown_some (Jr.grown_drewN _ _) _) (Jr.grown_set _ _ _ _)
  have u1 := fun u q => Jp.four r false g T u q
  have hx := (Js.four_len h4).2.1
  rw [h4] at u1
  clear h4
  have ru := fun u => Ru.rune (65536 + (x - 55296) * 1024 + (y - 56320)) u
  have HL4 := Lib.hid (Jp.rune_len (65536 + (x - 55296) * 1024 + (y - 56320)))
  generalize Pl.runeL (65536 + (x - 55296) * 1024 + (y - 56320)) = L at *
  have eN : ((65536 + (x - 55296) * 1024 + (y - 56320) : Nat) : Int) = 65536 + ((x : Int) - 55296) * 1024 + (y : Int) - 56320 := by omega
  rw [eN] at ru
  clear eN
  have x0 : ((x : Int) == 0) = false := beq_eq_false_iff_ne.2 (by omega)
  have g1 : decide ((55296 : Int) ≤ (x : Int)) = true := decide_eq_true (by omega)
  have g2 : decide ((x : Int) ≤ 56319) = true := decide_eq_true (by omega)
  have wd : ∀ u, Jp.Rd u g T r1 false → Calls Tryz.prog 51 #[.pointer (some ⟨g, 0, none⟩), .string ⟨#[92, 117]⟩] u fun e w' => e = .returned (.bool true) ∧ u.grownBy w' (some g) ∧ Jp.Rd w' g T (r1.drop 2) false := fun u q => (Jp.word ⟨#[92, 117]⟩ (by decide) r1 false g T u q).mono fun e w' ⟨a, b, c⟩ => ⟨by rw [show Pl.pre (⟨#[92, 117]⟩ : ByteArray).data.toList r1 = true from hp] at a; exact a, b, by rw [if_pos hp] at c; exact c⟩
  clear hp
  have u2 := fun u q => Jp.four (r1.drop 2) false g T u q
  rw [h5] at u2
  have hy := (Js.four_len h5).2.1
  clear h5
  obtain ⟨hxa, hxb⟩ := hx0
  obtain ⟨hya, hyb⟩ := hy0
  have t1 : decide ((56320 : Int) ≤ (y : Int)) = true := decide_eq_true (by omega)
  have t2 : decide ((y : Int) ≤ 57343) = true := decide_eq_true (by omega)
  go_enter Tryz.func76, Tryz.ntmps76
  go_wp2_with fail
  go_quiet (fail)
  go_wp2
  go_quiet (fail)
  go_wp2_with (first | (go_at_call 106; refine (u1 _ (HW1.out _)).mono ?_; rintro e w1 ⟨b1, rfl, q1⟩; have HB1 := Lib.hid (Jr.grown_trans (HG1.out _) b1); have HR1 := Lib.hid q1; clear b1 q1 u1) | (go_at_call 51; refine (wd _ HR1.out).mono ?_; rintro e w2 ⟨rfl, b2, q2⟩; have HB2 := Lib.hid (Jr.grown_trans HB1.out b2); have HR2 := Lib.hid q2; clear b2 q2 wd) | (go_at_call 106; refine (u2 _ HR2.out).mono ?_; rintro e w3 ⟨b3, rfl, q3⟩; have HB3 := Lib.hid (Jr.grown_trans HB2.out b3); have HR3 := Lib.hid q3; clear b3 q3 u2) | (go_at_call 107; refine (ru _).mono ?_; rintro e w4 ⟨v4, rfl, R4, b4⟩; obtain ⟨a4, d4, rfl⟩ := Rb.form R4; have HR4 := Lib.hid R4; have HB4 := Lib.hid b4; clear R4 b4 ru))
  go_ret
  exact ⟨_, L, rfl, Jp.row_mono HR4.out HB3.out.size, HL4.out, Jr.grown_trans HB3.out (Jr.grown_some (Jr.grown_below HB4.out) _), rfl, HR3.out.grown HB4.out⟩
theorem Jp.escaped_end (g : Nat) (T : ByteArray) (w : World) (h : Jp.Rd w g T [] false) :
    Calls Tryz.prog 76 #[.pointer (some ⟨g, 0, none⟩)] w (Jp.BOut none w g T) := by
  have HR := Lib.hid h
  obtain ⟨i, h1, h2, h3, hB⟩ := h
  have c0 : w.cell? ⟨g, 0, none⟩ = some (.string T) := hB.cell 0 rfl
  have c1 : w.cell? ⟨g, 1, none⟩ = some (.int .i64 (i : Int)) := hB.cell 1 rfl
  have f2 := hB.frozen 2
  have c2 : w.cell? ⟨g, 2, none⟩ = some (.bool false) := hB.cell 2 rfl
  have e := Jr.at_end h1 h2
  have d1 : decide ((T.size : Int) ≤ (i : Int)) = true := decide_eq_true (by omega)
  have d1n : decide (T.size ≤ i) = true := decide_eq_true (by omega)
  clear hB h2 e
  go_enter Tryz.func76, Tryz.ntmps76
  go_wp2_with fail
  go_quiet (fail)
  go_wp2
  go_ret
  exact ⟨_, [], rfl, World.ownsRow_nil _ _ _ _, by decide, Jr.grown_trans (Jr.grown_some (Jr.grown_drewN _ _) _) (Jr.grown_set _ _ _ _), _, (HR.out.on (Jr.grown_drewN _ _)).spoil⟩
theorem Jp.escaped (l : List UInt8) (g : Nat) (T : ByteArray) (w : World) (h : Jp.Rd w g T l false) :
    Calls Tryz.prog 76 #[.pointer (some ⟨g, 0, none⟩)] w (Jp.BOut (Js.escaped l) w g T) := by
  cases l with
  | nil => exact Jp.escaped_end g T w h
  | cons c r =>
    rw [Js.escaped]
    by_cases h34 : c = 34
    · rw [if_pos (.inl h34), h34]
      exact Jp.esc34 c r h34 g T w h
    by_cases h92 : c = 92
    · rw [if_pos (.inr (.inl h92)), h92]
      exact Jp.esc92 c r h34 h92 g T w h
    by_cases h47 : c = 47
    · rw [if_pos (.inr (.inr h47)), h47]
      exact Jp.esc47 c r h34 h92 h47 g T w h
    rw [if_neg (by simp [h34, h92, h47])]
    by_cases h98 : c = 98
    · rw [if_pos h98]
      exact Jp.esc98 c r h34 h92 h47 h98 g T w h
    rw [if_neg h98]
    by_cases h102 : c = 102
    · rw [if_pos h102]
      exact Jp.esc102 c r h34 h92 h47 h98 h102 g T w h
    rw [if_neg h102]
    by_cases h110 : c = 110
    · rw [if_pos h110]
      exact Jp.esc110 c r h34 h92 h47 h98 h102 h110 g T w h
    rw [if_neg h110]
    by_cases h114 : c = 114
    · rw [if_pos h114]
      exact Jp.esc114 c r h34 h92 h47 h98 h102 h110 h114 g T w h
    rw [if_neg h114]
    by_cases h116 : c = 116
    · rw [if_pos h116]
      exact Jp.esc116 c r h34 h92 h47 h98 h102 h110 h114 h116 g T w h
    rw [if_neg h116]
    by_cases h117 : c = 117
    · rw [if_pos h117, Js.uni]
      cases h4 : Js.four r with
      | none => exact Jp.uni0 c r h34 h92 h47 h98 h102 h110 h114 h116 h117 h4 g T w h
      | some q =>
        obtain ⟨x, r1⟩ := q
        simp only
        by_cases hh : 55296 ≤ x ∧ x ≤ 56319
        · rw [if_pos hh]
          by_cases hp : Pl.pre [92, 117] r1 = true
          · obtain ⟨r2, rfl⟩ := (Pl.pre_iff _ _).1 hp
            show Calls Tryz.prog 76 #[.pointer (some ⟨g, 0, none⟩)] w (Jp.BOut (if (92 : UInt8) = 92 ∧ (117 : UInt8) = 117 then _ else none) w g T)
            rw [if_pos ⟨rfl, rfl⟩, show ([] : List UInt8).append r2 = r2 from rfl]
            cases h5 : Js.four r2 with
            | none => exact Jp.uni5 c r h34 h92 h47 h98 h102 h110 h114 h116 h117 x _ h4 hh hp h5 g T w h
            | some q =>
              obtain ⟨y, r3⟩ := q
              simp only
              by_cases hy : 56320 ≤ y ∧ y ≤ 57343
              · rw [if_pos hy]
                exact Jp.uni8 c r h34 h92 h47 h98 h102 h110 h114 h116 h117 x _ h4 hh hp y r3 h5 hy g T w h
              · rw [if_neg hy]
                by_cases hy1 : y < 56320
                · exact Jp.uni6 c r h34 h92 h47 h98 h102 h110 h114 h116 h117 x _ h4 hh hp y r3 h5 hy1 g T w h
                · exact Jp.uni7 c r h34 h92 h47 h98 h102 h110 h114 h116 h117 x _ h4 hh hp y r3 h5 (by omega) g T w h
          · have key := Jp.uni4 c r h34 h92 h47 h98 h102 h110 h114 h116 h117 x r1 h4 hh (Bool.eq_false_iff.2 hp) g T w h
            match r1, hp with
            | [], _ => exact key
            | [a], _ => exact key
            | a :: b :: r2, hp =>
              have hab : ¬ (a = 92 ∧ b = 117) := fun ⟨q1, q2⟩ => hp ((Pl.pre_iff _ _).2 ⟨r2, by rw [q1, q2]; rfl⟩)
              show Calls Tryz.prog 76 #[.pointer (some ⟨g, 0, none⟩)] w (Jp.BOut (if a = 92 ∧ b = 117 then _ else none) w g T)
              rw [if_neg hab]
              exact key
        · rw [if_neg hh]
          by_cases hl : 56320 ≤ x ∧ x ≤ 57343
          · rw [if_pos hl]
            exact Jp.uni3 c r h34 h92 h47 h98 h102 h110 h114 h116 h117 x r1 h4 hl g T w h
          · rw [if_neg hl]
            by_cases hx0 : x = 0
            · rw [if_pos hx0]
              exact Jp.uni1 c r h34 h92 h47 h98 h102 h110 h114 h116 h117 x r1 h4 hx0 g T w h
            · rw [if_neg hx0]
              exact Jp.uni2 c r h34 h92 h47 h98 h102 h110 h114 h116 h117 x r1 h4 hx0 (by omega) g T w h
    · rw [if_neg h117]
      exact Jp.escN c r h34 h92 h47 h98 h102 h110 h114 h116 h117 g T w h
end Go.Proofs.YtboalkfagfgnpaaGreatDoor
