/-
  THE WALKS of tok.isBlank, tok.isLetter, tok.lowered, tok.grown, known.Kind.
-/
import Derived.Test.YtblpkjlodncpeaaGreatDoorBTKittoLower
namespace Go.Proofs.YtblpkjlodncpeaaGreatDoor
open Go.RowKit
theorem Tp.isBlank (c : UInt8) (w : World) : Calls Tryz.prog 101 #[.int .u8 c.toNat] w fun e w' => e = .returned (.bool (Ts.blank c)) ∧ w' = w := by
 unfold Ts.blank
 by_cases h0 : c = 9
 ·
  have t0 : ((c.toNat : Int) == 9) = true := Tp.eq_true h0
  go_enter Tryz.func101, Tryz.ntmps101
  go_wp2
  go_ret
  simp [h0]
 have t0 : ((c.toNat : Int) == 9) = false := Tp.eq_false h0
 by_cases h1 : c = 10
 ·
  have t1 : ((c.toNat : Int) == 10) = true := Tp.eq_true h1
  go_enter Tryz.func101, Tryz.ntmps101
  go_wp2
  go_ret
  simp [h1]
 have t1 : ((c.toNat : Int) == 10) = false := Tp.eq_false h1
 by_cases h2 : c = 12
 ·
  have t2 : ((c.toNat : Int) == 12) = true := Tp.eq_true h2
  go_enter Tryz.func101, Tryz.ntmps101
  go_wp2
  go_ret
  simp [h2]
 have t2 : ((c.toNat : Int) == 12) = false := Tp.eq_false h2
 by_cases h3 : c = 13
 ·
  have t3 : ((c.toNat : Int) == 13) = true := Tp.eq_true h3
  go_enter Tryz.func101, Tryz.ntmps101
  go_wp2
  go_ret
  simp [h3]
 have t3 : ((c.toNat : Int) == 13) = false := Tp.eq_false h3
 by_cases h4 : c = 32
 ·
  have t4 : ((c.toNat : Int) == 32) = true := Tp.eq_true h4
  go_enter Tryz.func101, Tryz.ntmps101
  go_wp2
  go_ret
  simp [h4]
 have t4 : ((c.toNat : Int) == 32) = false := Tp.eq_false h4
 go_enter Tryz.func101, Tryz.ntmps101
 go_wp2
 go_ret
 simp [h0, h1, h2, h3, h4]
theorem Tp.isLetter (c : UInt8) (w : World) : Calls Tryz.prog 99 #[.int .u8 c.toNat] w fun e w' => e = .returned (.bool (Ts.letter c)) ∧ w' = w := by
 unfold Ts.letter
 generalize c.toNat = k
 by_cases h1 : 65 ≤ k
 all_goals
  by_cases h2 : k ≤ 90
  all_goals
   by_cases h3 : 97 ≤ k
   all_goals
    by_cases h4 : k ≤ 122
    all_goals first | (exfalso; omega) | skip
 all_goals
  try (have t1 : decide ((65 : Int) ≤ k) = true := decide_eq_true (by omega))
  try (have t1 : decide ((65 : Int) ≤ k) = false := decide_eq_false (by omega))
  try (have t2 : decide ((k : Int) ≤ 90) = true := decide_eq_true (by omega))
  try (have t2 : decide ((k : Int) ≤ 90) = false := decide_eq_false (by omega))
  try (have t3 : decide ((97 : Int) ≤ k) = true := decide_eq_true (by omega))
  try (have t3 : decide ((97 : Int) ≤ k) = false := decide_eq_false (by omega))
  try (have t4 : decide ((k : Int) ≤ 122) = true := decide_eq_true (by omega))
  try (have t4 : decide ((k : Int) ≤ 122) = false := decide_eq_false (by omega))
  go_enter Tryz.func99, Tryz.ntmps99
  go_wp2
  go_ret
  exact ⟨Wk.ret_bool (by rw [Bool.eq_iff_iff]; simp; try omega), rfl⟩
theorem Tp.conv1 (W : World) (c : UInt8) : (convert 43 9 (.slice (some ⟨W.heap.size, 0, none⟩) 1 1)).run Tryz.prog (W.alloc (.cells #[.int .u8 c.toNat] 5)) = .ok (.string ⟨#[c]⟩) (W.alloc (.cells #[.int .u8 c.toNat] 5)) := by
 have h := run_convert_bytes_back (P := Tryz.prog) (W.alloc (.cells #[.int .u8 c.toNat] 5)) 43 9 5 ⟨W.heap.size, 0, none⟩ 1 [c] Tryz.underlying43 Tryz.underlying5 Tryz.underlying9 (fun j hj => by
  have : j = 0 := by simpa using hj
  subst this
  rw [Addr.add_lit]
  simp)
 exact h
theorem Tp.lowered (c : UInt8) (w : World) : Calls Tryz.prog 133 #[.int .u8 c.toNat] w fun e w' => e = .returned (.string (Ts.low c)) ∧ Below w.heap.size w w' := by
 have hL := Wk.lower ⟨#[c]⟩
 have hv := Tp.conv1 w c
 go_enter Tryz.func133, Tryz.ntmps133
 go_wp2_with (go_at_call 157; refine (hL _ (show (1 : Nat) ≤ _ by omega)).mono ?_; rintro e w1 ⟨rfl, hb⟩)
 go_ret
 exact ⟨rfl, ((Below.refl _ _).alloc (Nat.le_refl _) _).trans (hb.mono (by simp))⟩
theorem Tp.low_size (c : UInt8) : (Ts.low c).size = 1 := rfl
theorem Tp.ret_ba {a b : ByteArray} (h : a = b) : Ending.returned (.string a) = .returned (.string b) := by rw [h]
theorem Tp.run_to (w : World) (s : ByteArray) (h : Int) (h0 : 0 ≤ h) (h2 : h ≤ s.size) :
  (Instr.slice 9 (.string s) none (some (.int .i64 h)) none).run Tryz.prog w = .ok (.string (s.extract 0 h.toNat)) w := by
 simp [Instr.slice, run_underlying Tryz.underlying9, Instr.sliceBounds, run_sliceBound, h0, h2]
theorem Tp.grown (n : ByteArray) (c : UInt8) (w : World) (hn : n.size ≤ maxLen) : Calls Tryz.prog 103 #[.string n, .int .u8 c.toNat] w fun e w' => e = .returned (.string (Ts.grown n c)) ∧ Below w.heap.size w w' := by
 unfold maxLen at hn
 by_cases h : 32 ≤ n.size
 ·
  have t : decide ((32 : Int) ≤ (n.size : Int)) = true := decide_eq_true (by omega)
  have hr : ∀ u : World, (Instr.slice 9 (.string n) none (some (.int .i64 32)) none).run Tryz.prog u = .ok (.string (n.extract 0 32)) u := fun u => Tp.run_to u n 32 (by decide) (by omega)
  go_enter Tryz.func103, Tryz.ntmps103
  go_wp2
  go_ret
  exact ⟨Tp.ret_ba (by unfold Ts.grown; rw [if_pos h]), Below.refl _ _⟩
 ·
  have t : decide ((32 : Int) ≤ (n.size : Int)) = false := decide_eq_false (by omega)
  have hL := Tp.lowered c
  have hs := Tp.low_size c
  generalize hl : Ts.low c = l at hL hs
  have HL := Lib.hid hl
  clear hl
  go_enter Tryz.func103, Tryz.ntmps103
  go_wp2_with (go_at_call 133; refine (hL _).mono ?_; rintro e w1 ⟨rfl, hb⟩)
  go_ret
  exact ⟨Tp.ret_ba (by unfold Ts.grown; rw [if_neg h, HL.out]), hb⟩
theorem Tp.kind (n : ByteArray) (w : World) : Calls Tryz.prog 80 #[.string n] w fun e w' => e = .returned (.int .i64 (Ts.kind n)) ∧ w' = w := by
 have hk : ∀ v : Int, Ts.kind n = v → Ending.returned (.int .i64 v) = .returned (.int .i64 (Ts.kind n)) := fun v h => by rw [h]
 have HK := Lib.hid hk
 clear hk
 by_cases h0 : n.toList = [98, 114]
 ·
  have t0 : (n.toList == [98, 114]) = true := by rw [h0]; rfl
  have H := Lib.hid h0
  clear h0
  go_enter Tryz.func80, Tryz.ntmps80
  go_wp2
  go_ret
  exact ⟨HK.out 1 (by unfold Ts.kind; rw [← ByteArray.toList_eq, H.out]; rfl), rfl⟩
 by_cases h1 : n.toList = [105, 109, 103]
 ·
  have t1 : (n.toList == [105, 109, 103]) = true := by rw [h1]; rfl
  have t0 : (n.toList == [98, 114]) = false := beq_eq_false_iff_ne.2 h0
  have H := Lib.hid h1
  clear h0 h1
  go_enter Tryz.func80, Tryz.ntmps80
  go_wp2
  go_ret
  exact ⟨HK.out 1 (by unfold Ts.kind; rw [← ByteArray.toList_eq, H.out]; rfl), rfl⟩
 by_cases h2 : n.toList = [105, 110, 112, 117, 116]
 ·
  have t2 : (n.toList == [105, 110, 112, 117, 116]) = true := by rw [h2]; rfl
  have t0 : (n.toList == [98, 114]) = false := beq_eq_false_iff_ne.2 h0
  have t1 : (n.toList == [105, 109, 103]) = false := beq_eq_false_iff_ne.2 h1
  have H := Lib.hid h2
  clear h0 h1 h2
  go_enter Tryz.func80, Tryz.ntmps80
  go_wp2
  go_ret
  exact ⟨HK.out 1 (by unfold Ts.kind; rw [← ByteArray.toList_eq, H.out]; rfl), rfl⟩
 by_cases h3 : n.toList = [104, 114]
 ·
  have t3 : (n.toList == [104, 114]) = true := by rw [h3]; rfl
  have t0 : (n.toList == [98, 114]) = false := beq_eq_false_iff_ne.2 h0
  have t1 : (n.toList == [105, 109, 103]) = false := beq_eq_false_iff_ne.2 h1
  have t2 : (n.toList == [105, 110, 112, 117, 116]) = false := beq_eq_false_iff_ne.2 h2
  have H := Lib.hid h3
  clear h0 h1 h2 h3
  go_enter Tryz.func80, Tryz.ntmps80
  go_wp2
  go_ret
  exact ⟨HK.out 1 (by unfold Ts.kind; rw [← ByteArray.toList_eq, H.out]; rfl), rfl⟩
 by_cases h4 : n.toList = [109, 101, 116, 97]
 ·
  have t4 : (n.toList == [109, 101, 116, 97]) = true := by rw [h4]; rfl
  have t0 : (n.toList == [98, 114]) = false := beq_eq_false_iff_ne.2 h0
  have t1 : (n.toList == [105, 109, 103]) = false := beq_eq_false_iff_ne.2 h1
  have t2 : (n.toList == [105, 110, 112, 117, 116]) = false := beq_eq_false_iff_ne.2 h2
  have t3 : (n.toList == [104, 114]) = false := beq_eq_false_iff_ne.2 h3
  have H := Lib.hid h4
  clear h0 h1 h2 h3 h4
  go_enter Tryz.func80, Tryz.ntmps80
  go_wp2
  go_ret
  exact ⟨HK.out 1 (by unfold Ts.kind; rw [← ByteArray.toList_eq, H.out]; rfl), rfl⟩
 by_cases h5 : n.toList = [108, 105, 110, 107]
 ·
  have t5 : (n.toList == [108, 105, 110, 107]) = true := by rw [h5]; rfl
  have t0 : (n.toList == [98, 114]) = false := beq_eq_false_iff_ne.2 h0
  have t1 : (n.toList == [105, 109, 103]) = false := beq_eq_false_iff_ne.2 h1
  have t2 : (n.toList == [105, 110, 112, 117, 116]) = false := beq_eq_false_iff_ne.2 h2
  have t3 : (n.toList == [104, 114]) = false := beq_eq_false_iff_ne.2 h3
  have t4 : (n.toList == [109, 101, 116, 97]) = false := beq_eq_false_iff_ne.2 h4
  have H := Lib.hid h5
  clear h0 h1 h2 h3 h4 h5
  go_enter Tryz.func80, Tryz.ntmps80
  go_wp2
  go_ret
  exact ⟨HK.out 1 (by unfold Ts.kind; rw [← ByteArray.toList_eq, H.out]; rfl), rfl⟩
 by_cases h6 : n.toList = [116, 105, 116, 108, 101]
 ·
  have t6 : (n.toList == [116, 105, 116, 108, 101]) = true := by rw [h6]; rfl
  have t0 : (n.toList == [98, 114]) = false := beq_eq_false_iff_ne.2 h0
  have t1 : (n.toList == [105, 109, 103]) = false := beq_eq_false_iff_ne.2 h1
  have t2 : (n.toList == [105, 110, 112, 117, 116]) = false := beq_eq_false_iff_ne.2 h2
  have t3 : (n.toList == [104, 114]) = false := beq_eq_false_iff_ne.2 h3
  have t4 : (n.toList == [109, 101, 116, 97]) = false := beq_eq_false_iff_ne.2 h4
  have t5 : (n.toList == [108, 105, 110, 107]) = false := beq_eq_false_iff_ne.2 h5
  have H := Lib.hid h6
  clear h0 h1 h2 h3 h4 h5 h6
  go_enter Tryz.func80, Tryz.ntmps80
  go_wp2
  go_ret
  exact ⟨HK.out 2 (by unfold Ts.kind; rw [← ByteArray.toList_eq, H.out]; rfl), rfl⟩
 by_cases h7 : n.toList = [116, 101, 120, 116, 97, 114, 101, 97]
 ·
  have t7 : (n.toList == [116, 101, 120, 116, 97, 114, 101, 97]) = true := by rw [h7]; rfl
  have t0 : (n.toList == [98, 114]) = false := beq_eq_false_iff_ne.2 h0
  have t1 : (n.toList == [105, 109, 103]) = false := beq_eq_false_iff_ne.2 h1
  have t2 : (n.toList == [105, 110, 112, 117, 116]) = false := beq_eq_false_iff_ne.2 h2
  have t3 : (n.toList == [104, 114]) = false := beq_eq_false_iff_ne.2 h3
  have t4 : (n.toList == [109, 101, 116, 97]) = false := beq_eq_false_iff_ne.2 h4
  have t5 : (n.toList == [108, 105, 110, 107]) = false := beq_eq_false_iff_ne.2 h5
  have t6 : (n.toList == [116, 105, 116, 108, 101]) = false := beq_eq_false_iff_ne.2 h6
  have H := Lib.hid h7
  clear h0 h1 h2 h3 h4 h5 h6 h7
  go_enter Tryz.func80, Tryz.ntmps80
  go_wp2
  go_ret
  exact ⟨HK.out 2 (by unfold Ts.kind; rw [← ByteArray.toList_eq, H.out]; rfl), rfl⟩
 by_cases h8 : n.toList = [115, 99, 114, 105, 112, 116]
 ·
  have t8 : (n.toList == [115, 99, 114, 105, 112, 116]) = true := by rw [h8]; rfl
  have t0 : (n.toList == [98, 114]) = false := beq_eq_false_iff_ne.2 h0
  have t1 : (n.toList == [105, 109, 103]) = false := beq_eq_false_iff_ne.2 h1
  have t2 : (n.toList == [105, 110, 112, 117, 116]) = false := beq_eq_false_iff_ne.2 h2
  have t3 : (n.toList == [104, 114]) = false := beq_eq_false_iff_ne.2 h3
  have t4 : (n.toList == [109, 101, 116, 97]) = false := beq_eq_false_iff_ne.2 h4
  have t5 : (n.toList == [108, 105, 110, 107]) = false := beq_eq_false_iff_ne.2 h5
  have t6 : (n.toList == [116, 105, 116, 108, 101]) = false := beq_eq_false_iff_ne.2 h6
  have t7 : (n.toList == [116, 101, 120, 116, 97, 114, 101, 97]) = false := beq_eq_false_iff_ne.2 h7
  have H := Lib.hid h8
  clear h0 h1 h2 h3 h4 h5 h6 h7 h8
  go_enter Tryz.func80, Tryz.ntmps80
  go_wp2
  go_ret
  exact ⟨HK.out 3 (by unfold Ts.kind; rw [← ByteArray.toList_eq, H.out]; rfl), rfl⟩
 by_cases h9 : n.toList = [115, 116, 121, 108, 101]
 ·
  have t9 : (n.toList == [115, 116, 121, 108, 101]) = true := by rw [h9]; rfl
  have t0 : (n.toList == [98, 114]) = false := beq_eq_false_iff_ne.2 h0
  have t1 : (n.toList == [105, 109, 103]) = false := beq_eq_false_iff_ne.2 h1
  have t2 : (n.toList == [105, 110, 112, 117, 116]) = false := beq_eq_false_iff_ne.2 h2
  have t3 : (n.toList == [104, 114]) = false := beq_eq_false_iff_ne.2 h3
  have t4 : (n.toList == [109, 101, 116, 97]) = false := beq_eq_false_iff_ne.2 h4
  have t5 : (n.toList == [108, 105, 110, 107]) = false := beq_eq_false_iff_ne.2 h5
  have t6 : (n.toList == [116, 105, 116, 108, 101]) = false := beq_eq_false_iff_ne.2 h6
  have t7 : (n.toList == [116, 101, 120, 116, 97, 114, 101, 97]) = false := beq_eq_false_iff_ne.2 h7
  have t8 : (n.toList == [115, 99, 114, 105, 112, 116]) = false := beq_eq_false_iff_ne.2 h8
  have H := Lib.hid h9
  clear h0 h1 h2 h3 h4 h5 h6 h7 h8 h9
  go_enter Tryz.func80, Tryz.ntmps80
  go_wp2
  go_ret
  exact ⟨HK.out 4 (by unfold Ts.kind; rw [← ByteArray.toList_eq, H.out]; rfl), rfl⟩
 have t0 : (n.toList == [98, 114]) = false := beq_eq_false_iff_ne.2 h0
 have t1 : (n.toList == [105, 109, 103]) = false := beq_eq_false_iff_ne.2 h1
 have t2 : (n.toList == [105, 110, 112, 117, 116]) = false := beq_eq_false_iff_ne.2 h2
 have t3 : (n.toList == [104, 114]) = false := beq_eq_false_iff_ne.2 h3
 have t4 : (n.toList == [109, 101, 116, 97]) = false := beq_eq_false_iff_ne.2 h4
 have t5 : (n.toList == [108, 105, 110, 107]) = false := beq_eq_false_iff_ne.2 h5
 have t6 : (n.toList == [116, 105, 116, 108, 101]) = false := beq_eq_false_iff_ne.2 h6
 have t7 : (n.toList == [116, 101, 120, 116, 97, 114, 101, 97]) = false := beq_eq_false_iff_ne.2 h7
 have t8 : (n.toList == [115, 99, 114, 105, 112, 116]) = false := beq_eq_false_iff_ne.2 h8
 have t9 : (n.toList == [115, 116, 121, 108, 101]) = false := beq_eq_false_iff_ne.2 h9
 have H : Hid (¬ n.toList = [98, 114] ∧ ¬ n.toList = [105, 109, 103] ∧ ¬ n.toList = [105, 110, 112, 117, 116] ∧ ¬ n.toList = [104, 114] ∧ ¬ n.toList = [109, 101, 116, 97] ∧ ¬ n.toList = [108, 105, 110, 107] ∧ ¬ n.toList = [116, 105, 116, 108, 101] ∧ ¬ n.toList = [116, 101, 120, 116, 97, 114, 101, 97] ∧ ¬ n.toList = [115, 99, 114, 105, 112, 116] ∧ ¬ n.toList = [115, 116, 121, 108, 101]) := ⟨h0, h1, h2, h3, h4, h5, h6, h7, h8, h9⟩
 clear h0 h1 h2 h3 h4 h5 h6 h7 h8 h9
 go_enter Tryz.func80, Tryz.ntmps80
 go_wp2
 go_ret
 obtain ⟨k0, k1, k2, k3, k4, k5, k6, k7, k8, k9⟩ := H.out
 exact ⟨HK.out 0 (by unfold Ts.kind; rw [← ByteArray.toList_eq]; simp only [k0, k1, k2, k3, k4, k5, k6, k7, k8, k9, or_self, if_false]), rfl⟩
theorem Tp.openTag (s : Ts) (c : UInt8) (w : World) : Calls Tryz.prog 100 #[.agg #[.int .i64 s.pl, .string s.name, .bool s.fin, .string s.attr, .string s.held, .int .i64 s.read], .int .u8 c.toNat] w fun e w' => e = .returned (.agg #[.int .i64 (s.openTag c).pl, .string (s.openTag c).name, .bool (s.openTag c).fin, .string (s.openTag c).attr, .string (s.openTag c).held, .int .i64 (s.openTag c).read]) ∧ Below w.heap.size w w' := by
 go_enter Tryz.func100, Tryz.ntmps100
 go_wp2_with (first | (go_at_call 98; refine (Tp.to s _ _).mono ?_; go_loud (rintro e w1 ⟨rfl, hb1⟩; obtain ⟨hl1, hm1, a1_0, a1_1, a1_2, a1_3, a1_4, a1_5, fa1, b1_0, b1_1, b1_2, b1_3, b1_4, b1_5, fb1, q1⟩ := Tp.kp hb1; clear hb1)) | (go_at_call 133; refine (Tp.lowered c _).mono ?_; go_loud (rintro e w2 ⟨rfl, hb2⟩; have hz2 := hb2.size; (try simp at hz2); have hl2 : w.heap.size < w2.heap.size := (by omega); have hm2 : w.heap.size + 1 < w2.heap.size := (by omega); have a2_0 : w2.cell? ⟨w.heap.size, 0, none⟩ = some (.int .i64 (s.to 3).pl) := (hb2.cell (p := ⟨w.heap.size, 0, none⟩) (by first | (simp; done) | (simp; omega) | omega)).trans (by simp [go_sem, *]); have a2_1 : w2.cell? ⟨w.heap.size, 1, none⟩ = some (.string (s.to 3).name) := (hb2.cell (p := ⟨w.heap.size, 1, none⟩) (by first | (simp; done) | (simp; omega) | omega)).trans (by simp [go_sem, *]); have a2_2 : w2.cell? ⟨w.heap.size, 2, none⟩ = some (.bool (s.to 3).fin) := (hb2.cell (p := ⟨w.heap.size, 2, none⟩) (by first | (simp; done) | (simp; omega) | omega)).trans (by simp [go_sem, *]); have a2_3 : w2.cell? ⟨w.heap.size, 3, none⟩ = some (.string (s.to 3).attr) := (hb2.cell (p := ⟨w.heap.size, 3, none⟩) (by first | (simp; done) | (simp; omega) | omega)).trans (by simp [go_sem, *]); have a2_4 : w2.cell? ⟨w.heap.size, 4, none⟩ = some (.string (s.to 3).held) := (hb2.cell (p := ⟨w.heap.size, 4, none⟩) (by first | (simp; done) | (simp; omega) | omega)).trans (by simp [go_sem, *]); have a2_5 : w2.cell? ⟨w.heap.size, 5, none⟩ = some (.int .i64 (s.to 3).read) := (hb2.cell (p := ⟨w.heap.size, 5, none⟩) (by first | (simp; done) | (simp; omega) | omega)).trans (by simp [go_sem, *]); have fa2 : ∀ i, w2.frozen? ⟨w.heap.size, i, none⟩ = false := fun i => (hb2.frozen (p := ⟨w.heap.size, i, none⟩) (by first | (simp; done) | (simp; omega) | omega)).trans (by simp [go_sem, *]); have b2_0 : w2.cell? ⟨w.heap.size + 1, 0, none⟩ = some (.int .i64 0) := (hb2.cell (p := ⟨w.heap.size + 1, 0, none⟩) (by first | (simp; done) | (simp; omega) | omega)).trans (by simp [go_sem, *]); have b2_1 : w2.cell? ⟨w.heap.size + 1, 1, none⟩ = some (.string ⟨#[]⟩) := (hb2.cell (p := ⟨w.heap.size + 1, 1, none⟩) (by first | (simp; done) | (simp; omega) | omega)).trans (by simp [go_sem, *]); have b2_2 : w2.cell? ⟨w.heap.size + 1, 2, none⟩ = some (.bool false) := (hb2.cell (p := ⟨w.heap.size + 1, 2, none⟩) (by first | (simp; done) | (simp; omega) | omega)).trans (by simp [go_sem, *]); have b2_3 : w2.cell? ⟨w.heap.size + 1, 3, none⟩ = some (.string ⟨#[]⟩) := (hb2.cell (p := ⟨w.heap.size + 1, 3, none⟩) (by first | (simp; done) | (simp; omega) | omega)).trans (by simp [go_sem, *]); have b2_4 : w2.cell? ⟨w.heap.size + 1, 4, none⟩ = some (.string ⟨#[]⟩) := (hb2.cell (p := ⟨w.heap.size + 1, 4, none⟩) (by first | (simp; done) | (simp; omega) | omega)).trans (by simp [go_sem, *]); have b2_5 : w2.cell? ⟨w.heap.size + 1, 5, none⟩ = some (.int .i64 0) := (hb2.cell (p := ⟨w.heap.size + 1, 5, none⟩) (by first | (simp; done) | (simp; omega) | omega)).trans (by simp [go_sem, *]); have fb2 : ∀ i, w2.frozen? ⟨w.heap.size + 1, i, none⟩ = false := fun i => (hb2.frozen (p := ⟨w.heap.size + 1, i, none⟩) (by first | (simp; done) | (simp; omega) | omega)).trans (by simp [go_sem, *]); have q2 : Below w.heap.size w w2 := (Tp.set6 _ _ _ _ _ _ _ _ q1 (Nat.le_refl _)).trans (hb2.mono (by first | (simp; omega) | omega)); clear hb2 a1_0 a1_1 a1_2 a1_3 a1_4 a1_5 b1_0 b1_1 b1_2 b1_3 b1_4 b1_5 fa1 fb1)))
 refine bodyPost_ret (v := .agg #[.int .i64 (⟨(s.to 3).pl, Ts.low c, (s.to 3).fin, (s.to 3).attr, (s.to 3).held, (s.to 3).read⟩ : Ts).pl, .string (⟨(s.to 3).pl, Ts.low c, (s.to 3).fin, (s.to 3).attr, (s.to 3).held, (s.to 3).read⟩ : Ts).name, .bool (⟨(s.to 3).pl, Ts.low c, (s.to 3).fin, (s.to 3).attr, (s.to 3).held, (s.to 3).read⟩ : Ts).fin, .string (⟨(s.to 3).pl, Ts.low c, (s.to 3).fin, (s.to 3).attr, (s.to 3).held, (s.to 3).read⟩ : Ts).attr, .string (⟨(s.to 3).pl, Ts.low c, (s.to 3).fin, (s.to 3).attr, (s.to 3).held, (s.to 3).read⟩ : Ts).held, .int .i64 (⟨(s.to 3).pl, Ts.low c, (s.to 3).fin, (s.to 3).attr, (s.to 3).held, (s.to 3).read⟩ : Ts).read]) (by simp [results, Tryz.results100, go_sem, *]) rfl ⟨Tp.ret (rfl), ?_⟩
 repeat (refine Below.setCell ?_ (by simp) _)
 exact q2
theorem Tp.openAttr (s : Ts) (c : UInt8) (w : World) : Calls Tryz.prog 104 #[.agg #[.int .i64 s.pl, .string s.name, .bool s.fin, .string s.attr, .string s.held, .int .i64 s.read], .int .u8 c.toNat] w fun e w' => e = .returned (.agg #[.int .i64 (s.openAttr c).pl, .string (s.openAttr c).name, .bool (s.openAttr c).fin, .string (s.openAttr c).attr, .string (s.openAttr c).held, .int .i64 (s.openAttr c).read]) ∧ Below w.heap.size w w' := by
 go_enter Tryz.func104, Tryz.ntmps104
 go_wp2_with (first | (go_at_call 98; refine (Tp.to s _ _).mono ?_; go_loud (rintro e w1 ⟨rfl, hb1⟩; obtain ⟨hl1, hm1, a1_0, a1_1, a1_2, a1_3, a1_4, a1_5, fa1, b1_0, b1_1, b1_2, b1_3, b1_4, b1_5, fb1, q1⟩ := Tp.kp hb1; clear hb1)) | (go_at_call 133; refine (Tp.lowered c _).mono ?_; go_loud (rintro e w2 ⟨rfl, hb2⟩; have hz2 := hb2.size; (try simp at hz2); have hl2 : w.heap.size < w2.heap.size := (by omega); have hm2 : w.heap.size + 1 < w2.heap.size := (by omega); have a2_0 : w2.cell? ⟨w.heap.size, 0, none⟩ = some (.int .i64 (s.to 5).pl) := (hb2.cell (p := ⟨w.heap.size, 0, none⟩) (by first | (simp; done) | (simp; omega) | omega)).trans (by simp [go_sem, *]); have a2_1 : w2.cell? ⟨w.heap.size, 1, none⟩ = some (.string (s.to 5).name) := (hb2.cell (p := ⟨w.heap.size, 1, none⟩) (by first | (simp; done) | (simp; omega) | omega)).trans (by simp [go_sem, *]); have a2_2 : w2.cell? ⟨w.heap.size, 2, none⟩ = some (.bool (s.to 5).fin) := (hb2.cell (p := ⟨w.heap.size, 2, none⟩) (by first | (simp; done) | (simp; omega) | omega)).trans (by simp [go_sem, *]); have a2_3 : w2.cell? ⟨w.heap.size, 3, none⟩ = some (.string (s.to 5).attr) := (hb2.cell (p := ⟨w.heap.size, 3, none⟩) (by first | (simp; done) | (simp; omega) | omega)).trans (by simp [go_sem, *]); have a2_4 : w2.cell? ⟨w.heap.size, 4, none⟩ = some (.string (s.to 5).held) := (hb2.cell (p := ⟨w.heap.size, 4, none⟩) (by first | (simp; done) | (simp; omega) | omega)).trans (by simp [go_sem, *]); have a2_5 : w2.cell? ⟨w.heap.size, 5, none⟩ = some (.int .i64 (s.to 5).read) := (hb2.cell (p := ⟨w.heap.size, 5, none⟩) (by first | (simp; done) | (simp; omega) | omega)).trans (by simp [go_sem, *]); have fa2 : ∀ i, w2.frozen? ⟨w.heap.size, i, none⟩ = false := fun i => (hb2.frozen (p := ⟨w.heap.size, i, none⟩) (by first | (simp; done) | (simp; omega) | omega)).trans (by simp [go_sem, *]); have b2_0 : w2.cell? ⟨w.heap.size + 1, 0, none⟩ = some (.int .i64 0) := (hb2.cell (p := ⟨w.heap.size + 1, 0, none⟩) (by first | (simp; done) | (simp; omega) | omega)).trans (by simp [go_sem, *]); have b2_1 : w2.cell? ⟨w.heap.size + 1, 1, none⟩ = some (.string ⟨#[]⟩) := (hb2.cell (p := ⟨w.heap.size + 1, 1, none⟩) (by first | (simp; done) | (simp; omega) | omega)).trans (by simp [go_sem, *]); have b2_2 : w2.cell? ⟨w.heap.size + 1, 2, none⟩ = some (.bool false) := (hb2.cell (p := ⟨w.heap.size + 1, 2, none⟩) (by first | (simp; done) | (simp; omega) | omega)).trans (by simp [go_sem, *]); have b2_3 : w2.cell? ⟨w.heap.size + 1, 3, none⟩ = some (.string ⟨#[]⟩) := (hb2.cell (p := ⟨w.heap.size + 1, 3, none⟩) (by first | (simp; done) | (simp; omega) | omega)).trans (by simp [go_sem, *]); have b2_4 : w2.cell? ⟨w.heap.size + 1, 4, none⟩ = some (.string ⟨#[]⟩) := (hb2.cell (p := ⟨w.heap.size + 1, 4, none⟩) (by first | (simp; done) | (simp; omega) | omega)).trans (by simp [go_sem, *]); have b2_5 : w2.cell? ⟨w.heap.size + 1, 5, none⟩ = some (.int .i64 0) := (hb2.cell (p := ⟨w.heap.size + 1, 5, none⟩) (by first | (simp; done) | (simp; omega) | omega)).trans (by simp [go_sem, *]); have fb2 : ∀ i, w2.frozen? ⟨w.heap.size + 1, i, none⟩ = false := fun i => (hb2.frozen (p := ⟨w.heap.size + 1, i, none⟩) (by first | (simp; done) | (simp; omega) | omega)).trans (by simp [go_sem, *]); have q2 : Below w.heap.size w w2 := (Tp.set6 _ _ _ _ _ _ _ _ q1 (Nat.le_refl _)).trans (hb2.mono (by first | (simp; omega) | omega)); clear hb2 a1_0 a1_1 a1_2 a1_3 a1_4 a1_5 b1_0 b1_1 b1_2 b1_3 b1_4 b1_5 fa1 fb1)))
 refine bodyPost_ret (v := .agg #[.int .i64 (⟨(s.to 5).pl, (s.to 5).name, (s.to 5).fin, Ts.low c, (s.to 5).held, (s.to 5).read⟩ : Ts).pl, .string (⟨(s.to 5).pl, (s.to 5).name, (s.to 5).fin, Ts.low c, (s.to 5).held, (s.to 5).read⟩ : Ts).name, .bool (⟨(s.to 5).pl, (s.to 5).name, (s.to 5).fin, Ts.low c, (s.to 5).held, (s.to 5).read⟩ : Ts).fin, .string (⟨(s.to 5).pl, (s.to 5).name, (s.to 5).fin, Ts.low c, (s.to 5).held, (s.to 5).read⟩ : Ts).attr, .string (⟨(s.to 5).pl, (s.to 5).name, (s.to 5).fin, Ts.low c, (s.to 5).held, (s.to 5).read⟩ : Ts).held, .int .i64 (⟨(s.to 5).pl, (s.to 5).name, (s.to 5).fin, Ts.low c, (s.to 5).held, (s.to 5).read⟩ : Ts).read]) (by simp [results, Tryz.results104, go_sem, *]) rfl ⟨Tp.ret (rfl), ?_⟩
 repeat (refine Below.setCell ?_ (by simp) _)
 exact q2
theorem Tp.closed (s : Ts) (w : World) : Calls Tryz.prog 102 #[.agg #[.int .i64 s.pl, .string s.name, .bool s.fin, .string s.attr, .string s.held, .int .i64 s.read]] w fun e w' => e = .returned (.agg #[.int .i64 s.closed.pl, .string s.closed.name, .bool s.closed.fin, .string s.closed.attr, .string s.closed.held, .int .i64 s.closed.read]) ∧ Below w.heap.size w w' := by
 cases hf : s.fin
 ·
  by_cases h0 : Ts.kind s.name = 0
  ·
   have t0 : (Ts.kind s.name == 0) = true := beq_iff_eq.2 h0
   have HX := Lib.hid (show s.closed = (⟨s.pl, s.name, false, s.attr, s.held, s.read⟩ : Ts).to 0 by have hs : s = (⟨s.pl, s.name, false, s.attr, s.held, s.read⟩ : Ts) := (by cases s; simp only at hf; subst hf; rfl); unfold Ts.closed; rw [if_pos (.inr (.inl h0))]; exact congrArg (fun q : Ts => Ts.to q 0) hs)
   clear h0
   go_enter Tryz.func102, Tryz.ntmps102
   go_wp2_with (first | (go_at_call 80; refine (Tp.kind s.name _).mono ?_; rintro e w' ⟨rfl, rfl⟩) | (go_at_call 98; refine (Tp.to (⟨s.pl, s.name, false, s.attr, s.held, s.read⟩ : Ts) _ _).mono ?_; go_loud (rintro e w1 ⟨rfl, hb1⟩; obtain ⟨hl1, hm1, a1_0, a1_1, a1_2, a1_3, a1_4, a1_5, fa1, b1_0, b1_1, b1_2, b1_3, b1_4, b1_5, fb1, q1⟩ := Tp.kp hb1; clear hb1)))
   refine bodyPost_ret (v := .agg #[.int .i64 ((⟨s.pl, s.name, false, s.attr, s.held, s.read⟩ : Ts).to 0).pl, .string ((⟨s.pl, s.name, false, s.attr, s.held, s.read⟩ : Ts).to 0).name, .bool ((⟨s.pl, s.name, false, s.attr, s.held, s.read⟩ : Ts).to 0).fin, .string ((⟨s.pl, s.name, false, s.attr, s.held, s.read⟩ : Ts).to 0).attr, .string ((⟨s.pl, s.name, false, s.attr, s.held, s.read⟩ : Ts).to 0).held, .int .i64 ((⟨s.pl, s.name, false, s.attr, s.held, s.read⟩ : Ts).to 0).read]) (by simp [results, Tryz.results102, go_sem, *]) rfl ⟨Tp.ret (HX.out.symm), ?_⟩
   repeat (refine Below.setCell ?_ (by simp) _)
   exact q1
  have t0 : (Ts.kind s.name == 0) = false := beq_eq_false_iff_ne.2 h0
  by_cases h1 : Ts.kind s.name = 1
  ·
   have t1 : (Ts.kind s.name == 1) = true := beq_iff_eq.2 h1
   have HX := Lib.hid (show s.closed = (⟨s.pl, s.name, false, s.attr, s.held, s.read⟩ : Ts).to 0 by have hs : s = (⟨s.pl, s.name, false, s.attr, s.held, s.read⟩ : Ts) := (by cases s; simp only at hf; subst hf; rfl); unfold Ts.closed; rw [if_pos (.inr (.inr h1))]; exact congrArg (fun q : Ts => Ts.to q 0) hs)
   clear h0 h1
   go_enter Tryz.func102, Tryz.ntmps102
   go_wp2_with (first | (go_at_call 80; refine (Tp.kind s.name _).mono ?_; rintro e w' ⟨rfl, rfl⟩) | (go_at_call 98; refine (Tp.to (⟨s.pl, s.name, false, s.attr, s.held, s.read⟩ : Ts) _ _).mono ?_; go_loud (rintro e w1 ⟨rfl, hb1⟩; obtain ⟨hl1, hm1, a1_0, a1_1, a1_2, a1_3, a1_4, a1_5, fa1, b1_0, b1_1, b1_2, b1_3, b1_4, b1_5, fb1, q1⟩ := Tp.kp hb1; clear hb1)))
   refine bodyPost_ret (v := .agg #[.int .i64 ((⟨s.pl, s.name, false, s.attr, s.held, s.read⟩ : Ts).to 0).pl, .string ((⟨s.pl, s.name, false, s.attr, s.held, s.read⟩ : Ts).to 0).name, .bool ((⟨s.pl, s.name, false, s.attr, s.held, s.read⟩ : Ts).to 0).fin, .string ((⟨s.pl, s.name, false, s.attr, s.held, s.read⟩ : Ts).to 0).attr, .string ((⟨s.pl, s.name, false, s.attr, s.held, s.read⟩ : Ts).to 0).held, .int .i64 ((⟨s.pl, s.name, false, s.attr, s.held, s.read⟩ : Ts).to 0).read]) (by simp [results, Tryz.results102, go_sem, *]) rfl ⟨Tp.ret (HX.out.symm), ?_⟩
   repeat (refine Below.setCell ?_ (by simp) _)
   exact q1
  have t1 : (Ts.kind s.name == 1) = false := beq_eq_false_iff_ne.2 h1
  have HX := Lib.hid (show s.closed = (⟨s.pl, s.name, false, s.attr, s.name, s.read⟩ : Ts).to 19 by unfold Ts.closed; rw [if_neg (by simp [hf, h0, h1])]; simp only [hf])
  clear h0 h1
  go_enter Tryz.func102, Tryz.ntmps102
  go_wp2_with (first | (go_at_call 80; refine (Tp.kind s.name _).mono ?_; rintro e w' ⟨rfl, rfl⟩) | (go_at_call 98; refine (Tp.to (⟨s.pl, s.name, false, s.attr, s.name, s.read⟩ : Ts) _ _).mono ?_; go_loud (rintro e w1 ⟨rfl, hb1⟩; obtain ⟨hl1, hm1, a1_0, a1_1, a1_2, a1_3, a1_4, a1_5, fa1, b1_0, b1_1, b1_2, b1_3, b1_4, b1_5, fb1, q1⟩ := Tp.kp hb1; clear hb1)))
  refine bodyPost_ret (v := .agg #[.int .i64 ((⟨s.pl, s.name, false, s.attr, s.name, s.read⟩ : Ts).to 19).pl, .string ((⟨s.pl, s.name, false, s.attr, s.name, s.read⟩ : Ts).to 19).name, .bool ((⟨s.pl, s.name, false, s.attr, s.name, s.read⟩ : Ts).to 19).fin, .string ((⟨s.pl, s.name, false, s.attr, s.name, s.read⟩ : Ts).to 19).attr, .string ((⟨s.pl, s.name, false, s.attr, s.name, s.read⟩ : Ts).to 19).held, .int .i64 ((⟨s.pl, s.name, false, s.attr, s.name, s.read⟩ : Ts).to 19).read]) (by simp [results, Tryz.results102, go_sem, *]) rfl ⟨Tp.ret (HX.out.symm), ?_⟩
  repeat (refine Below.setCell ?_ (by simp) _)
  exact q1
 ·
  have HX := Lib.hid (show s.closed = (⟨s.pl, s.name, true, s.attr, s.held, s.read⟩ : Ts).to 0 by have hs : s = (⟨s.pl, s.name, true, s.attr, s.held, s.read⟩ : Ts) := (by cases s; simp only at hf; subst hf; rfl); unfold Ts.closed; rw [if_pos (.inl hf)]; exact congrArg (fun q : Ts => Ts.to q 0) hs)
  go_enter Tryz.func102, Tryz.ntmps102
  go_wp2_with (first | (go_at_call 80; refine (Tp.kind s.name _).mono ?_; rintro e w' ⟨rfl, rfl⟩) | (go_at_call 98; refine (Tp.to (⟨s.pl, s.name, true, s.attr, s.held, s.read⟩ : Ts) _ _).mono ?_; go_loud (rintro e w1 ⟨rfl, hb1⟩; obtain ⟨hl1, hm1, a1_0, a1_1, a1_2, a1_3, a1_4, a1_5, fa1, b1_0, b1_1, b1_2, b1_3, b1_4, b1_5, fb1, q1⟩ := Tp.kp hb1; clear hb1)))
  refine bodyPost_ret (v := .agg #[.int .i64 ((⟨s.pl, s.name, true, s.attr, s.held, s.read⟩ : Ts).to 0).pl, .string ((⟨s.pl, s.name, true, s.attr, s.held, s.read⟩ : Ts).to 0).name, .bool ((⟨s.pl, s.name, true, s.attr, s.held, s.read⟩ : Ts).to 0).fin, .string ((⟨s.pl, s.name, true, s.attr, s.held, s.read⟩ : Ts).to 0).attr, .string ((⟨s.pl, s.name, true, s.attr, s.held, s.read⟩ : Ts).to 0).held, .int .i64 ((⟨s.pl, s.name, true, s.attr, s.held, s.read⟩ : Ts).to 0).read]) (by simp [results, Tryz.results102, go_sem, *]) rfl ⟨Tp.ret (HX.out.symm), ?_⟩
  repeat (refine Below.setCell ?_ (by simp) _)
  exact q1
end Go.Proofs.YtblpkjlodncpeaaGreatDoor
