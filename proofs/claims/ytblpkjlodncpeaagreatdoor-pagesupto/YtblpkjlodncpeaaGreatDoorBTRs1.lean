/-
  THE WALKS of the reference's small functions of a state: Blank, Letter, Elem, with, tag, attr, closed.
-/
import Derived.Test.YtblpkjlodncpeaaGreatDoorBTLowtoTRowA
import Derived.Test.YtblpkjlodncpeaaGreatDoorBRToktoRKit5
namespace Go.Proofs.YtblpkjlodncpeaaGreatDoor
open Go.RowKit
theorem Rs.blank (c : UInt8) (w : World) : Calls Tryz.prog 144 #[.int .u8 c.toNat] w fun e w' => e = .returned (.bool (Ts.blank c)) ∧ w' = w := by
 unfold Ts.blank
 by_cases h0 : c = 9
 ·
  have t0 : ((c.toNat : Int) == 9) = true := Tp.eq_true h0
  go_enter Tryz.func144, Tryz.ntmps144
  go_wp2
  go_ret
  simp [h0]
 have t0 : ((c.toNat : Int) == 9) = false := Tp.eq_false h0
 by_cases h1 : c = 10
 ·
  have t1 : ((c.toNat : Int) == 10) = true := Tp.eq_true h1
  go_enter Tryz.func144, Tryz.ntmps144
  go_wp2
  go_ret
  simp [h1]
 have t1 : ((c.toNat : Int) == 10) = false := Tp.eq_false h1
 by_cases h2 : c = 12
 ·
  have t2 : ((c.toNat : Int) == 12) = true := Tp.eq_true h2
  go_enter Tryz.func144, Tryz.ntmps144
  go_wp2
  go_ret
  simp [h2]
 have t2 : ((c.toNat : Int) == 12) = false := Tp.eq_false h2
 by_cases h3 : c = 13
 ·
  have t3 : ((c.toNat : Int) == 13) = true := Tp.eq_true h3
  go_enter Tryz.func144, Tryz.ntmps144
  go_wp2
  go_ret
  simp [h3]
 have t3 : ((c.toNat : Int) == 13) = false := Tp.eq_false h3
 by_cases h4 : c = 32
 ·
  have t4 : ((c.toNat : Int) == 32) = true := Tp.eq_true h4
  go_enter Tryz.func144, Tryz.ntmps144
  go_wp2
  go_ret
  simp [h4]
 have t4 : ((c.toNat : Int) == 32) = false := Tp.eq_false h4
 go_enter Tryz.func144, Tryz.ntmps144
 go_wp2
 go_ret
 simp [h0, h1, h2, h3, h4]
theorem Rs.elem (n : ByteArray) (w : World) : Calls Tryz.prog 91 #[.string n] w fun e w' => e = .returned (.int .i64 (Ts.kind n)) ∧ w' = w := by
 have hk : ∀ v : Int, Ts.kind n = v → Ending.returned (.int .i64 v) = .returned (.int .i64 (Ts.kind n)) := fun v h => by rw [h]
 have HK := Lib.hid hk
 clear hk
 by_cases h0 : n.toList = [98, 114]
 ·
  have t0 : (n.toList == [98, 114]) = true := by rw [h0]; rfl
  have H := Lib.hid h0
  clear h0
  go_enter Tryz.func91, Tryz.ntmps91
  go_wp2
  go_ret
  exact ⟨HK.out 1 (by unfold Ts.kind; rw [← ByteArray.toList_eq, H.out]; rfl), rfl⟩
 by_cases h1 : n.toList = [105, 109, 103]
 ·
  have t1 : (n.toList == [105, 109, 103]) = true := by rw [h1]; rfl
  have t0 : (n.toList == [98, 114]) = false := beq_eq_false_iff_ne.2 h0
  have H := Lib.hid h1
  clear h0 h1
  go_enter Tryz.func91, Tryz.ntmps91
  go_wp2
  go_ret
  exact ⟨HK.out 1 (by unfold Ts.kind; rw [← ByteArray.toList_eq, H.out]; rfl), rfl⟩
 by_cases h2 : n.toList = [105, 110, 112, 117, 116]
 ·
  have t2 : (n.toList == [105, 110, 112, 117, 116]) = true := by rw [h2]; rfl
  have t0 : (n.toList == [98, 114]) = false := beq_eq_false_iff_ne.2 h0
  have t1 : (n.toList == [105, 109, 103]) = false := beq_eq_false_iff_ne.2 h1
  have H := Lib.hid h2
  clear h0 h1 h2
  go_enter Tryz.func91, Tryz.ntmps91
  go_wp2
  go_ret
  exact ⟨HK.out 1 (by unfold Ts.kind; rw [← ByteArray.toList_eq, H.out]; rfl), rfl⟩
 by_cases h3 : n.toList = [104, 114]
 ·
  have t3 : (n.toList == [104, 114]) = true := by rw [h3]; rfl
  have t0 : (n.toList == [98, 114]) = false := beq_eq_false_iff_ne.2 h0
  have t1 : (n.toList == [105, 109, 103]) = false := beq_eq_false_iff_ne.2 h1
  have t2 : (n.toList == [105, 110, 112, 117, 116]) = false := beq_eq_false_iff_ne.2 h2
  have H := Lib.hid h3
  clear h0 h1 h2 h3
  go_enter Tryz.func91, Tryz.ntmps91
  go_wp2
  go_ret
  exact ⟨HK.out 1 (by unfold Ts.kind; rw [← ByteArray.toList_eq, H.out]; rfl), rfl⟩
 by_cases h4 : n.toList = [109, 101, 116, 97]
 ·
  have t4 : (n.toList == [109, 101, 116, 97]) = true := by rw [h4]; rfl
  have t0 : (n.toList == [98, 114]) = false := beq_eq_false_iff_ne.2 h0
  have t1 : (n.toList == [105, 109, 103]) = false := beq_eq_false_iff_ne.2 h1
  have t2 : (n.toList == [105, 110, 112, 117, 116]) = false := beq_eq_false_iff_ne.2 h2
  have t3 : (n.toList == [104, 114]) = false := beq_eq_false_iff_ne.2 h3
  have H := Lib.hid h4
  clear h0 h1 h2 h3 h4
  go_enter Tryz.func91, Tryz.ntmps91
  go_wp2
  go_ret
  exact ⟨HK.out 1 (by unfold Ts.kind; rw [← ByteArray.toList_eq, H.out]; rfl), rfl⟩
 by_cases h5 : n.toList = [108, 105, 110, 107]
 ·
  have t5 : (n.toList == [108, 105, 110, 107]) = true := by rw [h5]; rfl
  have t0 : (n.toList == [98, 114]) = false := beq_eq_false_iff_ne.2 h0
  have t1 : (n.toList == [105, 109, 103]) = false := beq_eq_false_iff_ne.2 h1
  have t2 : (n.toList == [105, 110, 112, 117, 116]) = false := beq_eq_false_iff_ne.2 h2
  have t3 : (n.toList == [104, 114]) = false := beq_eq_false_iff_ne.2 h3
  have t4 : (n.toList == [109, 101, 116, 97]) = false := beq_eq_false_iff_ne.2 h4
  have H := Lib.hid h5
  clear h0 h1 h2 h3 h4 h5
  go_enter Tryz.func91, Tryz.ntmps91
  go_wp2
  go_ret
  exact ⟨HK.out 1 (by unfold Ts.kind; rw [← ByteArray.toList_eq, H.out]; rfl), rfl⟩
 by_cases h6 : n.toList = [116, 105, 116, 108, 101]
 ·
  have t6 : (n.toList == [116, 105, 116, 108, 101]) = true := by rw [h6]; rfl
  have t0 : (n.toList == [98, 114]) = false := beq_eq_false_iff_ne.2 h0
  have t1 : (n.toList == [105, 109, 103]) = false := beq_eq_false_iff_ne.2 h1
  have t2 : (n.toList == [105, 110, 112, 117, 116]) = false := beq_eq_false_iff_ne.2 h2
  have t3 : (n.toList == [104, 114]) = false := beq_eq_false_iff_ne.2 h3
  have t4 : (n.toList == [109, 101, 116, 97]) = false := beq_eq_false_iff_ne.2 h4
  have t5 : (n.toList == [108, 105, 110, 107]) = false := beq_eq_false_iff_ne.2 h5
  have H := Lib.hid h6
  clear h0 h1 h2 h3 h4 h5 h6
  go_enter Tryz.func91, Tryz.ntmps91
  go_wp2
  go_ret
  exact ⟨HK.out 2 (by unfold Ts.kind; rw [← ByteArray.toList_eq, H.out]; rfl), rfl⟩
 by_cases h7 : n.toList = [116, 101, 120, 116, 97, 114, 101, 97]
 ·
  have t7 : (n.toList == [116, 101, 120, 116, 97, 114, 101, 97]) = true := by rw [h7]; rfl
  have t0 : (n.toList == [98, 114]) = false := beq_eq_false_iff_ne.2 h0
  have t1 : (n.toList == [105, 109, 103]) = false := beq_eq_false_iff_ne.2 h1
  have t2 : (n.toList == [105, 110, 112, 117, 116]) = false := beq_eq_false_iff_ne.2 h2
  have t3 : (n.toList == [104, 114]) = false := beq_eq_false_iff_ne.2 h3
  have t4 : (n.toList == [109, 101, 116, 97]) = false := beq_eq_false_iff_ne.2 h4
  have t5 : (n.toList == [108, 105, 110, 107]) = false := beq_eq_false_iff_ne.2 h5
  have t6 : (n.toList == [116, 105, 116, 108, 101]) = false := beq_eq_false_iff_ne.2 h6
  have H := Lib.hid h7
  clear h0 h1 h2 h3 h4 h5 h6 h7
  go_enter Tryz.func91, Tryz.ntmps91
  go_wp2
  go_ret
  exact ⟨HK.out 2 (by unfold Ts.kind; rw [← ByteArray.toList_eq, H.out]; rfl), rfl⟩
 by_cases h8 : n.toList = [115, 99, 114, 105, 112, 116]
 ·
  have t8 : (n.toList == [115, 99, 114, 105, 112, 116]) = true := by rw [h8]; rfl
  have t0 : (n.toList == [98, 114]) = false := beq_eq_false_iff_ne.2 h0
  have t1 : (n.toList == [105, 109, 103]) = false := beq_eq_false_iff_ne.2 h1
  have t2 : (n.toList == [105, 110, 112, 117, 116]) = false := beq_eq_false_iff_ne.2 h2
  have t3 : (n.toList == [104, 114]) = false := beq_eq_false_iff_ne.2 h3
  have t4 : (n.toList == [109, 101, 116, 97]) = false := beq_eq_false_iff_ne.2 h4
  have t5 : (n.toList == [108, 105, 110, 107]) = false := beq_eq_false_iff_ne.2 h5
  have t6 : (n.toList == [116, 105, 116, 108, 101]) = false := beq_eq_false_iff_ne.2 h6
  have t7 : (n.toList == [116, 101, 120, 116, 97, 114, 101, 97]) = false := beq_eq_false_iff_ne.2 h7
  have H := Lib.hid h8
  clear h0 h1 h2 h3 h4 h5 h6 h7 h8
  go_enter Tryz.func91, Tryz.ntmps91
  go_wp2
  go_ret
  exact ⟨HK.out 3 (by unfold Ts.kind; rw [← ByteArray.toList_eq, H.out]; rfl), rfl⟩
 by_cases h9 : n.toList = [115, 116, 121, 108, 101]
 ·
  have t9 : (n.toList == [115, 116, 121, 108, 101]) = true := by rw [h9]; rfl
  have t0 : (n.toList == [98, 114]) = false := beq_eq_false_iff_ne.2 h0
  have t1 : (n.toList == [105, 109, 103]) = false := beq_eq_false_iff_ne.2 h1
  have t2 : (n.toList == [105, 110, 112, 117, 116]) = false := beq_eq_false_iff_ne.2 h2
  have t3 : (n.toList == [104, 114]) = false := beq_eq_false_iff_ne.2 h3
  have t4 : (n.toList == [109, 101, 116, 97]) = false := beq_eq_false_iff_ne.2 h4
  have t5 : (n.toList == [108, 105, 110, 107]) = false := beq_eq_false_iff_ne.2 h5
  have t6 : (n.toList == [116, 105, 116, 108, 101]) = false := beq_eq_false_iff_ne.2 h6
  have t7 : (n.toList == [116, 101, 120, 116, 97, 114, 101, 97]) = false := beq_eq_false_iff_ne.2 h7
  have t8 : (n.toList == [115, 99, 114, 105, 112, 116]) = false := beq_eq_false_iff_ne.2 h8
  have H := Lib.hid h9
  clear h0 h1 h2 h3 h4 h5 h6 h7 h8 h9
  go_enter Tryz.func91, Tryz.ntmps91
  go_wp2
  go_ret
  exact ⟨HK.out 4 (by unfold Ts.kind; rw [← ByteArray.toList_eq, H.out]; rfl), rfl⟩
 have t0 : (n.toList == [98, 114]) = false := beq_eq_false_iff_ne.2 h0
 have t1 : (n.toList == [105, 109, 103]) = false := beq_eq_false_iff_ne.2 h1
 have t2 : (n.toList == [105, 110, 112, 117, 116]) = false := beq_eq_false_iff_ne.2 h2
 have t3 : (n.toList == [104, 114]) = false := beq_eq_false_iff_ne.2 h3
 have t4 : (n.toList == [109, 101, 116, 97]) = false := beq_eq_false_iff_ne.2 h4
 have t5 : (n.toList == [108, 105, 110, 107]) = false := beq_eq_false_iff_ne.2 h5
 have t6 : (n.toList == [116, 105, 116, 108, 101]) = false := beq_eq_false_iff_ne.2 h6
 have t7 : (n.toList == [116, 101, 120, 116, 97, 114, 101, 97]) = false := beq_eq_false_iff_ne.2 h7
 have t8 : (n.toList == [115, 99, 114, 105, 112, 116]) = false := beq_eq_false_iff_ne.2 h8
 have t9 : (n.toList == [115, 116, 121, 108, 101]) = false := beq_eq_false_iff_ne.2 h9
 have H : Hid (¬ n.toList = [98, 114] ∧ ¬ n.toList = [105, 109, 103] ∧ ¬ n.toList = [105, 110, 112, 117, 116] ∧ ¬ n.toList = [104, 114] ∧ ¬ n.toList = [109, 101, 116, 97] ∧ ¬ n.toList = [108, 105, 110, 107] ∧ ¬ n.toList = [116, 105, 116, 108, 101] ∧ ¬ n.toList = [116, 101, 120, 116, 97, 114, 101, 97] ∧ ¬ n.toList = [115, 99, 114, 105, 112, 116] ∧ ¬ n.toList = [115, 116, 121, 108, 101]) := ⟨h0, h1, h2, h3, h4, h5, h6, h7, h8, h9⟩
 clear h0 h1 h2 h3 h4 h5 h6 h7 h8 h9
 go_enter Tryz.func91, Tryz.ntmps91
 go_wp2
 go_ret
 obtain ⟨k0, k1, k2, k3, k4, k5, k6, k7, k8, k9⟩ := H.out
 exact ⟨HK.out 0 (by unfold Ts.kind; rw [← ByteArray.toList_eq]; simp only [k0, k1, k2, k3, k4, k5, k6, k7, k8, k9, or_self, if_false]), rfl⟩
theorem Rs.letter (c : UInt8) (w : World) : Calls Tryz.prog 126 #[.int .u8 c.toNat] w fun e w' => e = .returned (.bool (Ts.letter c)) ∧ w' = w := by
 have hl := fun u => Sz.low c u
 have hn := Pl.lowB_toNat c
 have HL : Hid (Ts.letter c = (decide (97 ≤ (Pl.lowB c).toNat) && decide ((Pl.lowB c).toNat ≤ 122))) := by
  unfold Hid Ts.letter
  rw [hn]
  have hc := c.toNat_lt
  rw [Bool.eq_iff_iff]
  simp
  split <;> omega
 clear hn
 generalize (Pl.lowB c).toNat = m at *
 by_cases h1 : 97 ≤ m
 ·
  have t1 : decide ((97 : Int) ≤ (m : Int)) = true := decide_eq_true (by omega)
  by_cases h2 : m ≤ 122
  ·
   have t2 : decide ((m : Int) ≤ 122) = true := decide_eq_true (by omega)
   go_enter Tryz.func126, Tryz.ntmps126
   go_wp2_with (go_at_call 145; refine (hl _).mono ?_; rintro e w' ⟨rfl, rfl⟩)
   go_ret
   exact ⟨Wk.ret_bool (by rw [HL.out]; simp [h1, h2]), rfl⟩
  ·
   have t2 : decide ((m : Int) ≤ 122) = false := decide_eq_false (by omega)
   go_enter Tryz.func126, Tryz.ntmps126
   go_wp2_with (go_at_call 145; refine (hl _).mono ?_; rintro e w' ⟨rfl, rfl⟩)
   go_ret
   exact ⟨Wk.ret_bool (by rw [HL.out]; simp [h2]), rfl⟩
 ·
  have t1 : decide ((97 : Int) ≤ (m : Int)) = false := decide_eq_false (by omega)
  go_enter Tryz.func126, Tryz.ntmps126
  go_wp2_with (go_at_call 145; refine (hl _).mono ?_; rintro e w' ⟨rfl, rfl⟩)
  go_ret
  exact ⟨Wk.ret_bool (by rw [HL.out]; simp [h1]), rfl⟩
theorem Rs.withL (n : ByteArray) (c : UInt8) (w : World) (hn : n.size = 32) : Calls Tryz.prog 142 #[.string n, .int .u8 c.toNat] w fun e w' => e = .returned (.string n) ∧ w' = w := by
 have t : decide ((32 : Int) ≤ (n.size : Int)) = true := decide_eq_true (by omega)
 go_enter Tryz.func142, Tryz.ntmps142
 go_wp2
 go_ret
 exact ⟨rfl, rfl⟩
theorem Rs.withS (n : ByteArray) (c : UInt8) (w : World) (hn : n.size < 32) : Calls Tryz.prog 142 #[.string n, .int .u8 c.toNat] w fun e w' => e = .returned (.string (n ++ Ts.low c)) ∧ w' = w.alloc (.cells #[.int .u8 (Pl.lowB c).toNat] 5) := by
 have t : decide ((32 : Int) ≤ (n.size : Int)) = false := decide_eq_false (by omega)
 have hl := fun u => Sz.low c u
 have hv := Tp.conv1 w (Pl.lowB c)
 have e1 : (⟨#[Pl.lowB c]⟩ : ByteArray) = Ts.low c := rfl
 rw [e1] at hv
 have hs := Tp.low_size c
 generalize Ts.low c = L at *
 generalize (Pl.lowB c).toNat = m at *
 clear e1
 go_enter Tryz.func142, Tryz.ntmps142
 go_wp2_with (go_at_call 145; refine (hl _).mono ?_; rintro e w' ⟨rfl, rfl⟩)
 go_ret
 exact ⟨rfl, rfl⟩
theorem Rs.tag (a : Int) (s : Ts) (w : World) : Calls Tryz.prog 141 #[.int .i64 a, .agg #[.int .i64 s.pl, .string s.name, .bool s.fin, .string s.attr, .string s.held, .int .i64 s.read]] w fun e w' => e = .returned (.agg #[.int .i64 a, .string s.name, .bool s.fin, .string ⟨#[]⟩, .string ⟨#[]⟩, .int .i64 0]) ∧ w' = (w.alloc (.cells #[.int .i64 s.pl, .string s.name, .bool s.fin, .string s.attr, .string s.held, .int .i64 s.read] 76)).alloc (.cells #[.int .i64 a, .string s.name, .bool s.fin, .string ⟨#[]⟩, .string ⟨#[]⟩, .int .i64 0] 76) := by
 go_enter Tryz.func141, Tryz.ntmps141
 go_wp2
 refine bodyPost_ret (v := .agg #[.int .i64 a, .string s.name, .bool s.fin, .string ⟨#[]⟩, .string ⟨#[]⟩, .int .i64 0]) (by simp [results, Tryz.results141, go_sem]) rfl ⟨rfl, ?_⟩
 simp
theorem Rs.attr (a : Int) (s : Ts) (n : ByteArray) (w : World) : Calls Tryz.prog 140 #[.int .i64 a, .agg #[.int .i64 s.pl, .string s.name, .bool s.fin, .string s.attr, .string s.held, .int .i64 s.read], .string n] w fun e w' => e = .returned (.agg #[.int .i64 a, .string s.name, .bool s.fin, .string n, .string ⟨#[]⟩, .int .i64 0]) ∧ w' = (w.alloc (.cells #[.int .i64 s.pl, .string s.name, .bool s.fin, .string s.attr, .string s.held, .int .i64 s.read] 76)).alloc (.cells #[.int .i64 a, .string s.name, .bool s.fin, .string n, .string ⟨#[]⟩, .int .i64 0] 76) := by
 go_enter Tryz.func140, Tryz.ntmps140
 go_wp2
 refine bodyPost_ret (v := .agg #[.int .i64 a, .string s.name, .bool s.fin, .string n, .string ⟨#[]⟩, .int .i64 0]) (by simp [results, Tryz.results140, go_sem]) rfl ⟨rfl, ?_⟩
 simp
end Go.Proofs.YtblpkjlodncpeaaGreatDoor
