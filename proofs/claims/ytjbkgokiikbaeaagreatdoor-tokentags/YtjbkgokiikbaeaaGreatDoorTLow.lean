/-
  THE WALKS of tok.isBlank, tok.isLetter, tok.lowered, tok.grown, known.Kind.
-/
import Derived.Test.YtjbkgokiikbaeaaGreatDoorTTo
import Derived.Test.YtjbkgokiikbaeaaGreatDoorLower
namespace Go.Proofs.YtjbkgokiikbaeaaGreatDoor
open Go.RowKit
theorem Tp.isBlank (c : UInt8) (w : World) : Calls Tryz.prog 90 #[.int .u8 c.toNat] w fun e w' => e = .returned (.bool (Ts.blank c)) ∧ w' = w := by
  unfold Ts.blank
  by_cases h0 : c = 9
  · have t0 : ((c.toNat : Int) == 9) = true := Tp.eq_true h0
    go_enter Tryz.func90, Tryz.ntmps90
    go_wp2
    go_ret
    simp [h0]
  have t0 : ((c.toNat : Int) == 9) = false := Tp.eq_false h0
  by_cases h1 : c = 10
  · have t1 : ((c.toNat : Int) == 10) = true := Tp.eq_true h1
    go_enter Tryz.func90, Tryz.ntmps90
    go_wp2
    go_ret
    simp [h1]
  have t1 : ((c.toNat : Int) == 10) = false := Tp.eq_false h1
  by_cases h2 : c = 12
  · have t2 : ((c.toNat : Int) == 12) = true := Tp.eq_true h2
    go_enter Tryz.func90, Tryz.ntmps90
    go_wp2
    go_ret
    simp [h2]
  have t2 : ((c.toNat : Int) == 12) = false := Tp.eq_false h2
  by_cases h3 : c = 13
  · have t3 : ((c.toNat : Int) == 13) = true := Tp.eq_true h3
    go_enter Tryz.func90, Tryz.ntmps90
    go_wp2
    go_ret
    simp [h3]
  have t3 : ((c.toNat : Int) == 13) = false := Tp.eq_false h3
  by_cases h4 : c = 32
  · have t4 : ((c.toNat : Int) == 32) = true := Tp.eq_true h4
    go_enter Tryz.func90, Tryz.ntmps90
    go_wp2
    go_ret
    simp [h4]
  have t4 : ((c.toNat : Int) == 32) = false := Tp.eq_false h4
  go_enter Tryz.func90, Tryz.ntmps90
  go_wp2
  go_ret
  simp [h0, h1, h2, h3, h4]
theorem Tp.isLetter (c : UInt8) (w : World) : Calls Tryz.prog 88 #[.int .u8 c.toNat] w fun e w' => e = .returned (.bool (Ts.letter c)) ∧ w' = w := by
  unfold Ts.letter
  generalize c.toNat = k
  by_cases h1 : 65 ≤ k
  all_goals
    by_cases h2 : k ≤ 90
    all_goals
      by_cases h3 : 97 ≤ k
      all_goals
        by_cases h4 : k ≤ 122
        all_goals first | (exfalso; omega) | skip
  all_goals
    try (have t1 : decide ((65 : Int) ≤ k) = true := decide_eq_true (by omega))
    try (have t1 : decide ((65 : Int) ≤ k) = false := decide_eq_false (by omega))
    try (have t2 : decide ((k : Int) ≤ 90) = true := decide_eq_true (by omega))
    try (have t2 : decide ((k : Int) ≤ 90) = false := decide_eq_false (by omega))
    try (have t3 : decide ((97 : Int) ≤ k) = true := decide_eq_true (by omega))
    try (have t3 : decide ((97 : Int) ≤ k) = false := decide_eq_false (by omega))
    try (have t4 : decide ((k : Int) ≤ 122) = true := decide_eq_true (by omega))
    try (have t4 : decide ((k : Int) ≤ 122) = false := decide_eq_false (by omega))
    go_enter Tryz.func88, Tryz.ntmps88
    go_wp2
    go_ret
    exact ⟨Wk.ret_bool (by rw [Bool.eq_iff_iff]; simp; try omega), rfl⟩
/-- string of a row of one byte -/
theorem Tp.conv1 (W : World) (c : UInt8) : (convert 43 9 (.slice (some ⟨W.heap.size, 0, none⟩) 1 1)).run Tryz.prog (W.alloc (.cells #[.int .u8 c.toNat] 5)) = .ok (.string ⟨#[c]⟩) (W.alloc (.cells #[.int .u8 c.toNat] 5)) := by
  have h := run_convert_bytes_back (P := Tryz.prog) (W.alloc (.cells #[.int .u8 c.toNat] 5)) 43 9 5 ⟨W.heap.size, 0, none⟩ 1 [c] Tryz.underlying43 Tryz.underlying5 Tryz.underlying9 (fun j hj => by
    have : j = 0 := by simpa using hj
    subst this
    rw [Addr.add_lit]
    simp)
  exact h
theorem Tp.lowered (c : UInt8) (w : World) : Calls Tryz.prog 109 #[.int .u8 c.toNat] w fun e w' => e = .returned (.string (Ts.low c)) ∧ Below w.heap.size w w' := by
  have hL := Wk.lower ⟨#[c]⟩
  have hv := Tp.conv1 w c
  go_enter Tryz.func109, Tryz.ntmps109
  go_wp2_with (go_at_call 122; refine (hL _ (show (1 : Nat) ≤ _ by omega)).mono ?_; rintro e w1 ⟨rfl, hb⟩)
  go_ret
  exact ⟨rfl, ((Below.refl _ _).alloc (Nat.le_refl _) _).trans (hb.mono (by simp))⟩
theorem Tp.low_size (c : UInt8) : (Ts.low c).size = 1 := rfl
theorem Tp.ret_ba {a b : ByteArray} (h : a = b) : Ending.returned (.string a) = .returned (.string b) := by rw [h]
theorem Tp.run_to (w : World) (s : ByteArray) (h : Int) (h0 : 0 ≤ h) (h2 : h ≤ s.size) :
    (Instr.slice 9 (.string s) none (some (.int .i64 h)) none).run Tryz.prog w = .ok (.string (s.extract 0 h.toNat)) w := by
  simp [Instr.slice, run_underlying Tryz.underlying9, Instr.sliceBounds, run_sliceBound, h0, h2]
theorem Tp.grown (n : ByteArray) (c : UInt8) (w : World) (hn : n.size ≤ maxLen) : Calls Tryz.prog 92 #[.string n, .int .u8 c.toNat] w fun e w' => e = .returned (.string (Ts.grown n c)) ∧ Below w.heap.size w w' := by
  unfold maxLen at hn
  by_cases h : 32 ≤ n.size
  · have t : decide ((32 : Int) ≤ (n.size : Int)) = true := decide_eq_true (by omega)
    have hr : ∀ u : World, (Instr.slice 9 (.string n) none (some (.int .i64 32)) none).run Tryz.prog u = .ok (.string (n.extract 0 32)) u := fun u => Tp.run_to u n 32 (by decide) (by omega)
    go_enter Tryz.func92, Tryz.ntmps92
    go_wp2
    go_ret
    exact ⟨Tp.ret_ba (by unfold Ts.grown; rw [if_pos h]), Below.refl _ _⟩
  · have t : decide ((32 : Int) ≤ (n.size : Int)) = false := decide_eq_false (by omega)
    have hL := Tp.lowered c
    have hs := Tp.low_size c
    generalize hl : Ts.low c = l at hL hs
    have HL := Lib.hid hl
    clear hl
    go_enter Tryz.func92, Tryz.ntmps92
    go_wp2_with (go_at_call 109; refine (hL _).mono ?_; rintro e w1 ⟨rfl, hb⟩)
    go_ret
    exact ⟨Tp.ret_ba (by unfold Ts.grown; rw [if_neg h, HL.out]), hb⟩
theorem Tp.kind (n : ByteArray) (w : World) : Calls Tryz.prog 79 #[.string n] w fun e w' => e = .returned (.int .i64 (Ts.kind n)) ∧ w' = w := by
  have hk : ∀ v : Int, Ts.kind n = v → Ending.returned (.int .i64 v) = .returned (.int .i64 (Ts.kind n)) := fun v h => by rw [h]
  have HK := Lib.hid hk
  clear hk
  by_cases h0 : n.toList = [98, 114]
  · have t0 : (n.toList == [98, 114]) = true := by rw [h0]; rfl
    have H := Lib.hid h0
    clear h0
    go_enter Tryz.func79, Tryz.ntmps79
    go_wp2
    go_ret
    exact ⟨HK.out 1 (by unfold Ts.kind; rw [← ByteArray.toList_eq, H.out]; rfl), rfl⟩
  by_cases h1 : n.toList = [105, 109, 103]
  · have t1 : (n.toList == [105, 109, 103]) = true := by rw [h1]; rfl
    have t0 : (n.toList == [98, 114]) = false := beq_eq_false_iff_ne.2 h0
    have H := Lib.hid h1
    clear h0 h1
    go_enter Tryz.func79, Tryz.ntmps79
    go_wp2
    go_ret
    exact ⟨HK.out 1 (by unfold Ts.kind; rw [← ByteArray.toList_eq, H.out]; rfl), rfl⟩
  by_cases h2 : n.toList = [105, 110, 112, 117, 116]
  · have t2 : (n.toList == [105, 110, 112, 117, 116]) = true := by rw [h2]; rfl
    have t0 : (n.toList == [98, 114]) = false := beq_eq_false_iff_ne.2 h0
    have t1 : (n.toList == [105, 109, 103]) = false := beq_eq_false_iff_ne.2 h1
    have H := Lib.hid h2
    clear h0 h1 h2
    go_enter Tryz.func79, Tryz.ntmps79
    go_wp2
    go_ret
    exact ⟨HK.out 1 (by unfold Ts.kind; rw [← ByteArray.toList_eq, H.out]; rfl), rfl⟩
  by_cases h3 : n.toList = [104, 114]
  · have t3 : (n.toList == [104, 114]) = true := by rw [h3]; rfl
    have t0 : (n.toList == [98, 114]) = false := beq_eq_false_iff_ne.2 h0
    have t1 : (n.toList == [105, 109, 103]) = false := beq_eq_false_iff_ne.2 h1
    have t2 : (n.toList == [105, 110, 112, 117, 116]) = false := beq_eq_false_iff_ne.2 h2
    have H := Lib.hid h3
    clear h0 h1 h2 h3
    go_enter Tryz.func79, Tryz.ntmps79
    go_wp2
    go_ret
    exact ⟨HK.out 1 (by unfold Ts.kind; rw [← ByteArray.toList_eq, H.out]; rfl), rfl⟩
  by_cases h4 : n.toList = [109, 101, 116, 97]
  · have t4 : (n.toList == [109, 101, 116, 97]) = true := by rw [h4]; rfl
    have t0 : (n.toList == [98, 114]) = false := beq_eq_false_iff_ne.2 h0
    have t1 : (n.toList == [105, 109, 103]) = false := beq_eq_false_iff_ne.2 h1
    have t2 : (n.toList == [105, 110, 112, 117, 116]) = false := beq_eq_false_iff_ne.2 h2
    have t3 : (n.toList == [104, 114]) = false := beq_eq_false_iff_ne.2 h3
    have H := Lib.hid h4
    clear h0 h1 h2 h3 h4
    go_enter Tryz.func79, Tryz.ntmps79
    go_wp2
    go_ret
    exact ⟨HK.out 1 (by unfold Ts.kind; rw [← ByteArray.toList_eq, H.out]; rfl), rfl⟩
  by_cases h5 : n.toList = [108, 105, 110, 107]
  · have t5 : (n.toList == [108, 105, 110, 107]) = true := by rw [h5]; rfl
    have t0 : (n.toList == [98, 114]) = false := beq_eq_false_iff_ne.2 h0
    have t1 : (n.toList == [105, 109, 103]) = false := beq_eq_false_iff_ne.2 h1
    have t2 : (n.toList == [105, 110, 112, 117, 116]) = false := beq_eq_false_iff_ne.2 h2
    have t3 : (n.toList == [104, 114]) = false := beq_eq_false_iff_ne.2 h3
    have t4 : (n.toList == [109, 101, 116, 97]) = false := beq_eq_false_iff_ne.2 h4
    have H := Lib.hid h5
    clear h0 h1 h2 h3 h4 h5
    go_enter Tryz.func79, Tryz.ntmps79
    go_wp2
    go_ret
    exact ⟨HK.out 1 (by unfold Ts.kind; rw [← ByteArray.toList_eq, H.out]; rfl), rfl⟩
  by_cases h6 : n.toList = [116, 105, 116, 108, 101]
  · have t6 : (n.toList == [116, 105, 116, 108, 101]) = true := by rw [h6]; rfl
    have t0 : (n.toList == [98, 114]) = false := beq_eq_false_iff_ne.2 h0
    have t1 : (n.toList == [105, 109, 103]) = false := beq_eq_false_iff_ne.2 h1
    have t2 : (n.toList == [105, 110, 112, 117, 116]) = false := beq_eq_false_iff_ne.2 h2
    have t3 : (n.toList == [104, 114]) = false := beq_eq_false_iff_ne.2 h3
    have t4 : (n.toList == [109, 101, 116, 97]) = false := beq_eq_false_iff_ne.2 h4
    have t5 : (n.toList == [108, 105, 110, 107]) = false := beq_eq_false_iff_ne.2 h5
    have H := Lib.hid h6
    clear h0 h1 h2 h3 h4 h5 h6
    go_enter Tryz.func79, Tryz.ntmps79
    go_wp2
    go_ret
    exact ⟨HK.out 2 (by unfold Ts.kind; rw [← ByteArray.toList_eq, H.out]; rfl), rfl⟩
  by_cases h7 : n.toList = [116, 101, 120, 116, 97, 114, 101, 97]
  · have t7 : (n.toList == [116, 101, 120, 116, 97, 114, 101, 97]) = true := by rw [h7]; rfl
    have t0 : (n.toList == [98, 114]) = false := beq_eq_false_iff_ne.2 h0
    have t1 : (n.toList == [105, 109, 103]) = false := beq_eq_false_iff_ne.2 h1
    have t2 : (n.toList == [105, 110, 112, 117, 116]) = false := beq_eq_false_iff_ne.2 h2
    have t3 : (n.toList == [104, 114]) = false := beq_eq_false_iff_ne.2 h3
    have t4 : (n.toList == [109, 101, 116, 97]) = false := beq_eq_false_iff_ne.2 h4
    have t5 : (n.toList == [108, 105, 110, 107]) = false := beq_eq_false_iff_ne.2 h5
    have t6 : (n.toList == [116, 105, 116, 108, 101]) = false := beq_eq_false_iff_ne.2 h6
    have H := Lib.hid h7
    clear h0 h1 h2 h3 h4 h5 h6 h7
    go_enter Tryz.func79, Tryz.ntmps79
    go_wp2
    go_ret
    exact ⟨HK.out 2 (by unfold Ts.kind; rw [← ByteArray.toList_eq, H.out]; rfl), rfl⟩
  by_cases h8 : n.toList = [115, 99, 114, 105, 112, 116]
  · have t8 : (n.toList == [115, 99, 114, 105, 112, 116]) = true := by rw [h8]; rfl
    have t0 : (n.toList == [98, 114]) = false := beq_eq_false_iff_ne.2 h0
    have t1 : (n.toList == [105, 109, 103]) = false := beq_eq_false_iff_ne.2 h1
    have t2 : (n.toList == [105, 110, 112, 117, 116]) = false := beq_eq_false_iff_ne.2 h2
    have t3 : (n.toList == [104, 114]) = false := beq_eq_false_iff_ne.2 h3
    have t4 : (n.toList == [109, 101, 116, 97]) = false := beq_eq_false_iff_ne.2 h4
    have t5 : (n.toList == [108, 105, 110, 107]) = false := beq_eq_false_iff_ne.2 h5
    have t6 : (n.toList == [116, 105, 116, 108, 101]) = false := beq_eq_false_iff_ne.2 h6
    have t7 : (n.toList == [116, 101, 120, 116, 97, 114, 101, 97]) = false := beq_eq_false_iff_ne.2 h7
    have H := Lib.hid h8
    clear h0 h1 h2 h3 h4 h5 h6 h7 h8
    go_enter Tryz.func79, Tryz.ntmps79
    go_wp2
    go_ret
    exact ⟨HK.out 3 (by unfold Ts.kind; rw [← ByteArray.toList_eq, H.out]; rfl), rfl⟩
  by_cases h9 : n.toList = [115, 116, 121, 108, 101]
  · have t9 : (n.toList == [115, 116, 121, 108, 101]) = true := by rw [h9]; rfl
    have t0 : (n.toList == [98, 114]) = false := beq_eq_false_iff_ne.2 h0
    have t1 : (n.toList == [105, 109, 103]) = false := beq_eq_false_iff_ne.2 h1
    have t2 : (n.toList == [105, 110, 112, 117, 116]) = false := beq_eq_false_iff_ne.2 h2
    have t3 : (n.toList == [104, 114]) = false := beq_eq_false_iff_ne.2 h3
    have t4 : (n.toList == [109, 101, 116, 97]) = false := beq_eq_false_iff_ne.2 h4
    have t5 : (n.toList == [108, 105, 110, 107]) = false := beq_eq_false_iff_ne.2 h5
    have t6 : (n.toList == [116, 105, 116, 108, 101]) = false := beq_eq_false_iff_ne.2 h6
    have t7 : (n.toList == [116, 101, 120, 116, 97, 114, 101, 97]) = false := beq_eq_false_iff_ne.2 h7
    have t8 : (n.toList == [115, 99, 114, 105, 112, 116]) = false := beq_eq_false_iff_ne.2 h8
    have H := Lib.hid h9
    clear h0 h1 h2 h3 h4 h5 h6 h7 h8 h9
    go_enter Tryz.func79, Tryz.ntmps79
    go_wp2
    go_ret
    exact ⟨HK.out 4 (by unfold Ts.kind; rw [← ByteArray.toList_eq, H.out]; rfl), rfl⟩
  have t0 : (n.toList == [98, 114]) = false := beq_eq_false_iff_ne.2 h0
  have t1 : (n.toList == [105, 109, 103]) = false := beq_eq_false_iff_ne.2 h1
  have t2 : (n.toList == [105, 110, 112, 117, 116]) = false := beq_eq_false_iff_ne.2 h2
  have t3 : (n.toList == [104, 114]) = false := beq_eq_false_iff_ne.2 h3
  have t4 : (n.toList == [109, 101, 116, 97]) = false := beq_eq_false_iff_ne.2 h4
  have t5 : (n.toList == [108, 105, 110, 107]) = false := beq_eq_false_iff_ne.2 h5
  have t6 : (n.toList == [116, 105, 116, 108, 101]) = false := beq_eq_false_iff_ne.2 h6
  have t7 : (n.toList == [116, 101, 120, 116, 97, 114, 101, 97]) = false := beq_eq_false_iff_ne.2 h7
  have t8 : (n.toList == [115, 99, 114, 105, 112, 116]) = false := beq_eq_false_iff_ne.2 h8
  have t9 : (n.toList == [115, 116, 121, 108, 101]) = false := beq_eq_false_iff_ne.2 h9
  have H : Hid (¬ n.toList = [98, 114] ∧ ¬ n.toList = [105, 109, 103] ∧ ¬ n.toList = [105, 110, 112, 117, 116] ∧ ¬ n.toList = [104, 114] ∧ ¬ n.toList = [109, 101, 116, 97] ∧ ¬ n.toList = [108, 105, 110, 107] ∧ ¬ n.toList = [116, 105, 116, 108, 101] ∧ ¬ n.toList = [116, 101, 120, 116, 97, 114, 101, 97] ∧ ¬ n.toList = [115, 99, 114, 105, 112, 116] ∧ ¬ n.toList = [115, 116, 121, 108, 101]) := ⟨h0, h1, h2, h3, h4, h5, h6, h7, h8, h9⟩
  clear h0 h1 h2 h3 h4 h5 h6 h7 h8 h9
  go_enter Tryz.func79, Tryz.ntmps79
  go_wp2
  go_ret
  obtain ⟨k0, k1, k2, k3, k4, k5, k6, k7, k8, k9⟩ := H.out
  exact ⟨HK.out 0 (by unfold Ts.kind; rw [← ByteArray.toList_eq]; simp only [k0, k1, k2, k3, k4, k5, k6, k7, k8, k9, or_self, if_false]), rfl⟩
end Go.Proofs.YtjbkgokiikbaeaaGreatDoor
