/-
  THE WALK of stolelaw13.SplitTrims: it returns true.
-/
import Derived.Test.YtfcmcmokmhklhaaDoorLAw
import Derived.Test.YtfcmcmokmhklhaaDoorLTrim
import Derived.Test.YtfcmcmokmhklhaaDoorLBlk
import Derived.Deep.CutBlock
namespace Go.Proofs.YtfcmcmokmhklhaaDoor
open Go.RowKit
set_option maxRecDepth 100000 in
set_option maxHeartbeats 4000000 in
theorem Law.splitTrimsLR (x y : Int) (w : World) (hT : Lp.T w) : Calls Tryd.prog 5 #[.int .i64 x, .int .i64 y, .bool true, .bool true] w fun e w' => e = .returned (.bool true) ∧ Below w.heap.size w w' := by
  have aw := fun u h => Lw.awake u h
  have HT := Lib.hid hT
  have nm := fun x u => Lw.num x u
  have bl1 := fun u => Lb.blanks x u
  have bl2 := fun u => Lb.blanks y u
  clear hT
  go_enter Tryd.func5, Tryd.ntmps5
  go_upto_region 5 with (first | (go_at_call 12; refine (aw _ HT.out).mono ?_; rintro e w1 ⟨rfl, b1⟩; have HB1 := Lib.hid b1; clear b1 aw) | (go_at_call 13; refine (bl1 _).mono ?_; rintro e w2 ⟨A, rfl, zA, hA, b2⟩; have HA := Lib.hid hA; have HB2 := Lib.hid (Wk.below_step HB1.out b2); clear b2 bl1 hA) | (go_at_call 13; refine (bl2 _).mono ?_; rintro e w3 ⟨B, rfl, zB, hB, b3⟩; have HC := Lib.hid hB; have HB3 := Lib.hid (Wk.below_step HB2.out b3); clear b3 bl2 hB))
  have sz : ∀ a b : ByteArray, (a ++ b).size = a.size + b.size := fun a b => ByteArray.size_append
  have k117 : (⟨#[117]⟩ : ByteArray).size = 1 := rfl
  have k118 : (⟨#[118]⟩ : ByteArray).size = 1 := rfl
  have k46 : (⟨#[46, 122]⟩ : ByteArray).size = 2 := rfl
  have kop : (⟨#[123, 123, 45, 32]⟩ : ByteArray).size = 4 := rfl
  have ken : (⟨#[32, 45, 125, 125]⟩ : ByteArray).size = 4 := rfl
  have HZ : Hid ((⟨#[117]⟩ ++ A ++ ⟨#[123, 123, 45, 32]⟩ ++ ⟨#[46, 122]⟩ ++ ⟨#[32, 45, 125, 125]⟩ ++ B ++ ⟨#[118]⟩).size ≤ 65536) := by unfold Hid; simp only [sz, k117, k118, k46, kop, ken]; omega
  obtain ⟨SS, hSS⟩ : ∃ SS : ByteArray, SS = (⟨#[117]⟩ ++ A ++ ⟨#[123, 123, 45, 32]⟩ ++ ⟨#[46, 122]⟩ ++ ⟨#[32, 45, 125, 125]⟩ ++ B ++ ⟨#[118]⟩) := ⟨_, rfl⟩
  obtain ⟨q, hq⟩ := Lt.split A B true true SS ⟨#[117]⟩ ⟨#[118]⟩ HA.out HC.out (by rw [hSS]; exact HZ.out) (by rw [hSS]; simp) (by simp) (by simp)
  rw [hSS] at hq
  clear hSS
  have c1 := fun u h => Lp.split (⟨#[117]⟩ ++ A ++ ⟨#[123, 123, 45, 32]⟩ ++ ⟨#[46, 122]⟩ ++ ⟨#[32, 45, 125, 125]⟩ ++ B ++ ⟨#[118]⟩) u h
  rw [hq] at c1
  clear hq HA HC HZ
  go_wp2_with (first | (go_at_call 8; refine (c1 _ (HT.out.on HB3.out)).mono ?_; rintro e w4 ⟨v4, rfl, l4, b4⟩; obtain ⟨a4, q4, rfl, zq4, -, x4⟩ := l4; obtain ⟨g4, o4, rfl, -, y0, y1, y2⟩ := x4 0 _ rfl; obtain ⟨g5, o5, e5, -, y3, y4, y5⟩ := x4 1 _ rfl; obtain ⟨g6, o6, e6, -, y6, y7, y8⟩ := x4 2 _ rfl; injection e5 with e5; injection e5 with e5a e5b; subst e5a; subst e5b; injection e6 with e6; injection e6 with e6a e6b; subst e6a; subst e6b; replace y1 : w4.cell? ⟨g4, o4 + 1, none⟩ = some (.string ⟨#[117]⟩) := y1; replace y3 : w4.cell? ⟨g4, o4 + 3, none⟩ = some (.bool true) := y3; replace y4 : w4.cell? ⟨g4, o4 + 3 + 1, none⟩ = some (.string ⟨#[46, 122]⟩) := y4; replace y5 : w4.cell? ⟨g4, o4 + 3 + 2, none⟩ = some (.int .i64 ((1 + A.size : Nat) : Int)) := y5; replace y6 : w4.cell? ⟨g4, o4 + 6, none⟩ = some (.bool false) := y6; replace y7 : w4.cell? ⟨g4, o4 + 6 + 1, none⟩ = some (.string ⟨#[118]⟩) := y7; have zq : 3 ≤ q4 := zq4; have HB4 := Lib.hid (Wk.below_step HB3.out b4); clear b4 c1 x4 y0 y2 y8 zq4) | (go_at_call 11; refine (nm _ _).mono ?_; rintro e w' ⟨rfl, hw⟩; have hw := hw.symm; subst hw))
  go_ret
  exact ⟨rfl, HB4.out⟩
set_option maxRecDepth 100000 in
set_option maxHeartbeats 4000000 in
theorem Law.splitTrimsL (x y : Int) (w : World) (hT : Lp.T w) : Calls Tryd.prog 5 #[.int .i64 x, .int .i64 y, .bool true, .bool false] w fun e w' => e = .returned (.bool true) ∧ Below w.heap.size w w' := by
  have aw := fun u h => Lw.awake u h
  have HT := Lib.hid hT
  have nm := fun x u => Lw.num x u
  have bl1 := fun u => Lb.blanks x u
  have bl2 := fun u => Lb.blanks y u
  clear hT
  go_enter Tryd.func5, Tryd.ntmps5
  go_upto_region 5 with (first | (go_at_call 12; refine (aw _ HT.out).mono ?_; rintro e w1 ⟨rfl, b1⟩; have HB1 := Lib.hid b1; clear b1 aw) | (go_at_call 13; refine (bl1 _).mono ?_; rintro e w2 ⟨A, rfl, zA, hA, b2⟩; have HA := Lib.hid hA; have HB2 := Lib.hid (Wk.below_step HB1.out b2); clear b2 bl1 hA) | (go_at_call 13; refine (bl2 _).mono ?_; rintro e w3 ⟨B, rfl, zB, hB, b3⟩; have HC := Lib.hid hB; have HB3 := Lib.hid (Wk.below_step HB2.out b3); clear b3 bl2 hB))
  have sz : ∀ a b : ByteArray, (a ++ b).size = a.size + b.size := fun a b => ByteArray.size_append
  have k117 : (⟨#[117]⟩ : ByteArray).size = 1 := rfl
  have k118 : (⟨#[118]⟩ : ByteArray).size = 1 := rfl
  have k46 : (⟨#[46, 122]⟩ : ByteArray).size = 2 := rfl
  have kop : (⟨#[123, 123, 45, 32]⟩ : ByteArray).size = 4 := rfl
  have ken : (⟨#[125, 125]⟩ : ByteArray).size = 2 := rfl
  have HZ : Hid ((⟨#[117]⟩ ++ A ++ ⟨#[123, 123, 45, 32]⟩ ++ ⟨#[46, 122]⟩ ++ ⟨#[125, 125]⟩ ++ B ++ ⟨#[118]⟩).size ≤ 65536) := by unfold Hid; simp only [sz, k117, k118, k46, kop, ken]; omega
  obtain ⟨SS, hSS⟩ : ∃ SS : ByteArray, SS = (⟨#[117]⟩ ++ A ++ ⟨#[123, 123, 45, 32]⟩ ++ ⟨#[46, 122]⟩ ++ ⟨#[125, 125]⟩ ++ B ++ ⟨#[118]⟩) := ⟨_, rfl⟩
  obtain ⟨q, hq⟩ := Lt.split A B true false SS ⟨#[117]⟩ (B ++ ⟨#[118]⟩) HA.out HC.out (by rw [hSS]; exact HZ.out) (by rw [hSS]; simp) (by simp) (by simp)
  rw [hSS] at hq
  clear hSS
  have c1 := fun u h => Lp.split (⟨#[117]⟩ ++ A ++ ⟨#[123, 123, 45, 32]⟩ ++ ⟨#[46, 122]⟩ ++ ⟨#[125, 125]⟩ ++ B ++ ⟨#[118]⟩) u h
  rw [hq] at c1
  clear hq HA HC HZ
  go_wp2_with (first | (go_at_call 8; refine (c1 _ (HT.out.on HB3.out)).mono ?_; rintro e w4 ⟨v4, rfl, l4, b4⟩; obtain ⟨a4, q4, rfl, zq4, -, x4⟩ := l4; obtain ⟨g4, o4, rfl, -, y0, y1, y2⟩ := x4 0 _ rfl; obtain ⟨g5, o5, e5, -, y3, y4, y5⟩ := x4 1 _ rfl; obtain ⟨g6, o6, e6, -, y6, y7, y8⟩ := x4 2 _ rfl; injection e5 with e5; injection e5 with e5a e5b; subst e5a; subst e5b; injection e6 with e6; injection e6 with e6a e6b; subst e6a; subst e6b; replace y1 : w4.cell? ⟨g4, o4 + 1, none⟩ = some (.string ⟨#[117]⟩) := y1; replace y3 : w4.cell? ⟨g4, o4 + 3, none⟩ = some (.bool true) := y3; replace y4 : w4.cell? ⟨g4, o4 + 3 + 1, none⟩ = some (.string ⟨#[46, 122]⟩) := y4; replace y5 : w4.cell? ⟨g4, o4 + 3 + 2, none⟩ = some (.int .i64 ((1 + A.size : Nat) : Int)) := y5; replace y6 : w4.cell? ⟨g4, o4 + 6, none⟩ = some (.bool false) := y6; replace y7 : w4.cell? ⟨g4, o4 + 6 + 1, none⟩ = some (.string (B ++ ⟨#[118]⟩)) := y7; have zq : 3 ≤ q4 := zq4; have HB4 := Lib.hid (Wk.below_step HB3.out b4); clear b4 c1 x4 y0 y2 y8 zq4) | (go_at_call 11; refine (nm _ _).mono ?_; rintro e w' ⟨rfl, hw⟩; have hw := hw.symm; subst hw))
  go_ret
  exact ⟨rfl, HB4.out⟩
set_option maxRecDepth 100000 in
set_option maxHeartbeats 4000000 in
theorem Law.splitTrimsR (x y : Int) (w : World) (hT : Lp.T w) : Calls Tryd.prog 5 #[.int .i64 x, .int .i64 y, .bool false, .bool true] w fun e w' => e = .returned (.bool true) ∧ Below w.heap.size w w' := by
  have aw := fun u h => Lw.awake u h
  have HT := Lib.hid hT
  have nm := fun x u => Lw.num x u
  have bl1 := fun u => Lb.blanks x u
  have bl2 := fun u => Lb.blanks y u
  clear hT
  go_enter Tryd.func5, Tryd.ntmps5
  go_upto_region 5 with (first | (go_at_call 12; refine (aw _ HT.out).mono ?_; rintro e w1 ⟨rfl, b1⟩; have HB1 := Lib.hid b1; clear b1 aw) | (go_at_call 13; refine (bl1 _).mono ?_; rintro e w2 ⟨A, rfl, zA, hA, b2⟩; have HA := Lib.hid hA; have HB2 := Lib.hid (Wk.below_step HB1.out b2); clear b2 bl1 hA) | (go_at_call 13; refine (bl2 _).mono ?_; rintro e w3 ⟨B, rfl, zB, hB, b3⟩; have HC := Lib.hid hB; have HB3 := Lib.hid (Wk.below_step HB2.out b3); clear b3 bl2 hB))
  have sz : ∀ a b : ByteArray, (a ++ b).size = a.size + b.size := fun a b => ByteArray.size_append
  have k117 : (⟨#[117]⟩ : ByteArray).size = 1 := rfl
  have k118 : (⟨#[118]⟩ : ByteArray).size = 1 := rfl
  have k46 : (⟨#[46, 122]⟩ : ByteArray).size = 2 := rfl
  have kop : (⟨#[123, 123]⟩ : ByteArray).size = 2 := rfl
  have ken : (⟨#[32, 45, 125, 125]⟩ : ByteArray).size = 4 := rfl
  have HZ : Hid ((⟨#[117]⟩ ++ A ++ ⟨#[123, 123]⟩ ++ ⟨#[46, 122]⟩ ++ ⟨#[32, 45, 125, 125]⟩ ++ B ++ ⟨#[118]⟩).size ≤ 65536) := by unfold Hid; simp only [sz, k117, k118, k46, kop, ken]; omega
  obtain ⟨SS, hSS⟩ : ∃ SS : ByteArray, SS = (⟨#[117]⟩ ++ A ++ ⟨#[123, 123]⟩ ++ ⟨#[46, 122]⟩ ++ ⟨#[32, 45, 125, 125]⟩ ++ B ++ ⟨#[118]⟩) := ⟨_, rfl⟩
  obtain ⟨q, hq⟩ := Lt.split A B false true SS (⟨#[117]⟩ ++ A) ⟨#[118]⟩ HA.out HC.out (by rw [hSS]; exact HZ.out) (by rw [hSS]; simp) (by simp) (by simp)
  rw [hSS] at hq
  clear hSS
  have c1 := fun u h => Lp.split (⟨#[117]⟩ ++ A ++ ⟨#[123, 123]⟩ ++ ⟨#[46, 122]⟩ ++ ⟨#[32, 45, 125, 125]⟩ ++ B ++ ⟨#[118]⟩) u h
  rw [hq] at c1
  clear hq HA HC HZ
  go_wp2_with (first | (go_at_call 8; refine (c1 _ (HT.out.on HB3.out)).mono ?_; rintro e w4 ⟨v4, rfl, l4, b4⟩; obtain ⟨a4, q4, rfl, zq4, -, x4⟩ := l4; obtain ⟨g4, o4, rfl, -, y0, y1, y2⟩ := x4 0 _ rfl; obtain ⟨g5, o5, e5, -, y3, y4, y5⟩ := x4 1 _ rfl; obtain ⟨g6, o6, e6, -, y6, y7, y8⟩ := x4 2 _ rfl; injection e5 with e5; injection e5 with e5a e5b; subst e5a; subst e5b; injection e6 with e6; injection e6 with e6a e6b; subst e6a; subst e6b; replace y1 : w4.cell? ⟨g4, o4 + 1, none⟩ = some (.string (⟨#[117]⟩ ++ A)) := y1; replace y3 : w4.cell? ⟨g4, o4 + 3, none⟩ = some (.bool true) := y3; replace y4 : w4.cell? ⟨g4, o4 + 3 + 1, none⟩ = some (.string ⟨#[46, 122]⟩) := y4; replace y5 : w4.cell? ⟨g4, o4 + 3 + 2, none⟩ = some (.int .i64 ((1 + A.size : Nat) : Int)) := y5; replace y6 : w4.cell? ⟨g4, o4 + 6, none⟩ = some (.bool false) := y6; replace y7 : w4.cell? ⟨g4, o4 + 6 + 1, none⟩ = some (.string ⟨#[118]⟩) := y7; have zq : 3 ≤ q4 := zq4; have HB4 := Lib.hid (Wk.below_step HB3.out b4); clear b4 c1 x4 y0 y2 y8 zq4) | (go_at_call 11; refine (nm _ _).mono ?_; rintro e w' ⟨rfl, hw⟩; have hw := hw.symm; subst hw))
  go_ret
  exact ⟨rfl, HB4.out⟩
set_option maxRecDepth 100000 in
set_option maxHeartbeats 4000000 in
theorem Law.splitTrims0 (x y : Int) (w : World) (hT : Lp.T w) : Calls Tryd.prog 5 #[.int .i64 x, .int .i64 y, .bool false, .bool false] w fun e w' => e = .returned (.bool true) ∧ Below w.heap.size w w' := by
  have aw := fun u h => Lw.awake u h
  have HT := Lib.hid hT
  have nm := fun x u => Lw.num x u
  have bl1 := fun u => Lb.blanks x u
  have bl2 := fun u => Lb.blanks y u
  clear hT
  go_enter Tryd.func5, Tryd.ntmps5
  go_upto_region 5 with (first | (go_at_call 12; refine (aw _ HT.out).mono ?_; rintro e w1 ⟨rfl, b1⟩; have HB1 := Lib.hid b1; clear b1 aw) | (go_at_call 13; refine (bl1 _).mono ?_; rintro e w2 ⟨A, rfl, zA, hA, b2⟩; have HA := Lib.hid hA; have HB2 := Lib.hid (Wk.below_step HB1.out b2); clear b2 bl1 hA) | (go_at_call 13; refine (bl2 _).mono ?_; rintro e w3 ⟨B, rfl, zB, hB, b3⟩; have HC := Lib.hid hB; have HB3 := Lib.hid (Wk.below_step HB2.out b3); clear b3 bl2 hB))
  have sz : ∀ a b : ByteArray, (a ++ b).size = a.size + b.size := fun a b => ByteArray.size_append
  have k117 : (⟨#[117]⟩ : ByteArray).size = 1 := rfl
  have k118 : (⟨#[118]⟩ : ByteArray).size = 1 := rfl
  have k46 : (⟨#[46, 122]⟩ : ByteArray).size = 2 := rfl
  have kop : (⟨#[123, 123]⟩ : ByteArray).size = 2 := rfl
  have ken : (⟨#[125, 125]⟩ : ByteArray).size = 2 := rfl
  have HZ : Hid ((⟨#[117]⟩ ++ A ++ ⟨#[123, 123]⟩ ++ ⟨#[46, 122]⟩ ++ ⟨#[125, 125]⟩ ++ B ++ ⟨#[118]⟩).size ≤ 65536) := by unfold Hid; simp only [sz, k117, k118, k46, kop, ken]; omega
  obtain ⟨SS, hSS⟩ : ∃ SS : ByteArray, SS = (⟨#[117]⟩ ++ A ++ ⟨#[123, 123]⟩ ++ ⟨#[46, 122]⟩ ++ ⟨#[125, 125]⟩ ++ B ++ ⟨#[118]⟩) := ⟨_, rfl⟩
  obtain ⟨q, hq⟩ := Lt.split A B false false SS (⟨#[117]⟩ ++ A) (B ++ ⟨#[118]⟩) HA.out HC.out (by rw [hSS]; exact HZ.out) (by rw [hSS]; simp) (by simp) (by simp)
  rw [hSS] at hq
  clear hSS
  have c1 := fun u h => Lp.split (⟨#[117]⟩ ++ A ++ ⟨#[123, 123]⟩ ++ ⟨#[46, 122]⟩ ++ ⟨#[125, 125]⟩ ++ B ++ ⟨#[118]⟩) u h
  rw [hq] at c1
  clear hq HA HC HZ
  go_wp2_with (first | (go_at_call 8; refine (c1 _ (HT.out.on HB3.out)).mono ?_; rintro e w4 ⟨v4, rfl, l4, b4⟩; obtain ⟨a4, q4, rfl, zq4, -, x4⟩ := l4; obtain ⟨g4, o4, rfl, -, y0, y1, y2⟩ := x4 0 _ rfl; obtain ⟨g5, o5, e5, -, y3, y4, y5⟩ := x4 1 _ rfl; obtain ⟨g6, o6, e6, -, y6, y7, y8⟩ := x4 2 _ rfl; injection e5 with e5; injection e5 with e5a e5b; subst e5a; subst e5b; injection e6 with e6; injection e6 with e6a e6b; subst e6a; subst e6b; replace y1 : w4.cell? ⟨g4, o4 + 1, none⟩ = some (.string (⟨#[117]⟩ ++ A)) := y1; replace y3 : w4.cell? ⟨g4, o4 + 3, none⟩ = some (.bool true) := y3; replace y4 : w4.cell? ⟨g4, o4 + 3 + 1, none⟩ = some (.string ⟨#[46, 122]⟩) := y4; replace y5 : w4.cell? ⟨g4, o4 + 3 + 2, none⟩ = some (.int .i64 ((1 + A.size : Nat) : Int)) := y5; replace y6 : w4.cell? ⟨g4, o4 + 6, none⟩ = some (.bool false) := y6; replace y7 : w4.cell? ⟨g4, o4 + 6 + 1, none⟩ = some (.string (B ++ ⟨#[118]⟩)) := y7; have zq : 3 ≤ q4 := zq4; have HB4 := Lib.hid (Wk.below_step HB3.out b4); clear b4 c1 x4 y0 y2 y8 zq4) | (go_at_call 11; refine (nm _ _).mono ?_; rintro e w' ⟨rfl, hw⟩; have hw := hw.symm; subst hw))
  go_ret
  exact ⟨rfl, HB4.out⟩
theorem Law.splitTrims (x y : Int) (l r : Bool) (w : World) (hT : Lp.T w) : Calls Tryd.prog 5 #[.int .i64 x, .int .i64 y, .bool l, .bool r] w fun e w' => e = .returned (.bool true) ∧ Below w.heap.size w w' := by
  cases l <;> cases r
  · exact Law.splitTrims0 x y w hT
  · exact Law.splitTrimsR x y w hT
  · exact Law.splitTrimsL x y w hT
  · exact Law.splitTrimsLR x y w hT
end Go.Proofs.YtfcmcmokmhklhaaDoor
