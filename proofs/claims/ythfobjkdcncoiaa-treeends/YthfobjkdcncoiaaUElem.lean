/-
  THE WALKS of stoleref1.Elem, known.Kind, elem.Kind.
-/
import Derived.Test.YthfobjkdcncoiaaTKit
namespace Go.Proofs.Ythfobjkdcncoiaa
open Go.RowKit
theorem Rs.elem (n : ByteArray) (w : World) : Calls Try.prog 32 #[.string n] w fun e w' => e = .returned (.int .i64 (Ts.kind n)) ∧ w' = w := by
  have hk : ∀ v : Int, Ts.kind n = v → Ending.returned (.int .i64 v) = .returned (.int .i64 (Ts.kind n)) := fun v h => by rw [h]
  have HK := Lib.hid hk
  clear hk
  by_cases h0 : n.toList = [98, 114]
  · have t0 : (n.toList == [98, 114]) = true := by rw [h0]; rfl
    have H := Lib.hid h0
    clear h0
    go_enter Try.func32, Try.ntmps32
    go_wp2
    go_ret
    exact ⟨HK.out 1 (by unfold Ts.kind; rw [← ByteArray.toList_eq, H.out]; rfl), rfl⟩
  by_cases h1 : n.toList = [105, 109, 103]
  · have t1 : (n.toList == [105, 109, 103]) = true := by rw [h1]; rfl
    have t0 : (n.toList == [98, 114]) = false := beq_eq_false_iff_ne.2 h0
    have H := Lib.hid h1
    clear h0 h1
    go_enter Try.func32, Try.ntmps32
    go_wp2
    go_ret
    exact ⟨HK.out 1 (by unfold Ts.kind; rw [← ByteArray.toList_eq, H.out]; rfl), rfl⟩
  by_cases h2 : n.toList = [105, 110, 112, 117, 116]
  · have t2 : (n.toList == [105, 110, 112, 117, 116]) = true := by rw [h2]; rfl
    have t0 : (n.toList == [98, 114]) = false := beq_eq_false_iff_ne.2 h0
    have t1 : (n.toList == [105, 109, 103]) = false := beq_eq_false_iff_ne.2 h1
    have H := Lib.hid h2
    clear h0 h1 h2
    go_enter Try.func32, Try.ntmps32
    go_wp2
    go_ret
    exact ⟨HK.out 1 (by unfold Ts.kind; rw [← ByteArray.toList_eq, H.out]; rfl), rfl⟩
  by_cases h3 : n.toList = [104, 114]
  · have t3 : (n.toList == [104, 114]) = true := by rw [h3]; rfl
    have t0 : (n.toList == [98, 114]) = false := beq_eq_false_iff_ne.2 h0
    have t1 : (n.toList == [105, 109, 103]) = false := beq_eq_false_iff_ne.2 h1
    have t2 : (n.toList == [105, 110, 112, 117, 116]) = false := beq_eq_false_iff_ne.2 h2
    have H := Lib.hid h3
    clear h0 h1 h2 h3
    go_enter Try.func32, Try.ntmps32
    go_wp2
    go_ret
    exact ⟨HK.out 1 (by unfold Ts.kind; rw [← ByteArray.toList_eq, H.out]; rfl), rfl⟩
  by_cases h4 : n.toList = [109, 101, 116, 97]
  · have t4 : (n.toList == [109, 101, 116, 97]) = true := by rw [h4]; rfl
    have t0 : (n.toList == [98, 114]) = false := beq_eq_false_iff_ne.2 h0
    have t1 : (n.toList == [105, 109, 103]) = false := beq_eq_false_iff_ne.2 h1
    have t2 : (n.toList == [105, 110, 112, 117, 116]) = false := beq_eq_false_iff_ne.2 h2
    have t3 : (n.toList == [104, 114]) = false := beq_eq_false_iff_ne.2 h3
    have H := Lib.hid h4
    clear h0 h1 h2 h3 h4
    go_enter Try.func32, Try.ntmps32
    go_wp2
    go_ret
    exact ⟨HK.out 1 (by unfold Ts.kind; rw [← ByteArray.toList_eq, H.out]; rfl), rfl⟩
  by_cases h5 : n.toList = [108, 105, 110, 107]
  · have t5 : (n.toList == [108, 105, 110, 107]) = true := by rw [h5]; rfl
    have t0 : (n.toList == [98, 114]) = false := beq_eq_false_iff_ne.2 h0
    have t1 : (n.toList == [105, 109, 103]) = false := beq_eq_false_iff_ne.2 h1
    have t2 : (n.toList == [105, 110, 112, 117, 116]) = false := beq_eq_false_iff_ne.2 h2
    have t3 : (n.toList == [104, 114]) = false := beq_eq_false_iff_ne.2 h3
    have t4 : (n.toList == [109, 101, 116, 97]) = false := beq_eq_false_iff_ne.2 h4
    have H := Lib.hid h5
    clear h0 h1 h2 h3 h4 h5
    go_enter Try.func32, Try.ntmps32
    go_wp2
    go_ret
    exact ⟨HK.out 1 (by unfold Ts.kind; rw [← ByteArray.toList_eq, H.out]; rfl), rfl⟩
  by_cases h6 : n.toList = [116, 105, 116, 108, 101]
  · have t6 : (n.toList == [116, 105, 116, 108, 101]) = true := by rw [h6]; rfl
    have t0 : (n.toList == [98, 114]) = false := beq_eq_false_iff_ne.2 h0
    have t1 : (n.toList == [105, 109, 103]) = false := beq_eq_false_iff_ne.2 h1
    have t2 : (n.toList == [105, 110, 112, 117, 116]) = false := beq_eq_false_iff_ne.2 h2
    have t3 : (n.toList == [104, 114]) = false := beq_eq_false_iff_ne.2 h3
    have t4 : (n.toList == [109, 101, 116, 97]) = false := beq_eq_false_iff_ne.2 h4
    have t5 : (n.toList == [108, 105, 110, 107]) = false := beq_eq_false_iff_ne.2 h5
    have H := Lib.hid h6
    clear h0 h1 h2 h3 h4 h5 h6
    go_enter Try.func32, Try.ntmps32
    go_wp2
    go_ret
    exact ⟨HK.out 2 (by unfold Ts.kind; rw [← ByteArray.toList_eq, H.out]; rfl), rfl⟩
  by_cases h7 : n.toList = [116, 101, 120, 116, 97, 114, 101, 97]
  · have t7 : (n.toList == [116, 101, 120, 116, 97, 114, 101, 97]) = true := by rw [h7]; rfl
    have t0 : (n.toList == [98, 114]) = false := beq_eq_false_iff_ne.2 h0
    have t1 : (n.toList == [105, 109, 103]) = false := beq_eq_false_iff_ne.2 h1
    have t2 : (n.toList == [105, 110, 112, 117, 116]) = false := beq_eq_false_iff_ne.2 h2
    have t3 : (n.toList == [104, 114]) = false := beq_eq_false_iff_ne.2 h3
    have t4 : (n.toList == [109, 101, 116, 97]) = false := beq_eq_false_iff_ne.2 h4
    have t5 : (n.toList == [108, 105, 110, 107]) = false := beq_eq_false_iff_ne.2 h5
    have t6 : (n.toList == [116, 105, 116, 108, 101]) = false := beq_eq_false_iff_ne.2 h6
    have H := Lib.hid h7
    clear h0 h1 h2 h3 h4 h5 h6 h7
    go_enter Try.func32, Try.ntmps32
    go_wp2
    go_ret
    exact ⟨HK.out 2 (by unfold Ts.kind; rw [← ByteArray.toList_eq, H.out]; rfl), rfl⟩
  by_cases h8 : n.toList = [115, 99, 114, 105, 112, 116]
  · have t8 : (n.toList == [115, 99, 114, 105, 112, 116]) = true := by rw [h8]; rfl
    have t0 : (n.toList == [98, 114]) = false := beq_eq_false_iff_ne.2 h0
    have t1 : (n.toList == [105, 109, 103]) = false := beq_eq_false_iff_ne.2 h1
    have t2 : (n.toList == [105, 110, 112, 117, 116]) = false := beq_eq_false_iff_ne.2 h2
    have t3 : (n.toList == [104, 114]) = false := beq_eq_false_iff_ne.2 h3
    have t4 : (n.toList == [109, 101, 116, 97]) = false := beq_eq_false_iff_ne.2 h4
    have t5 : (n.toList == [108, 105, 110, 107]) = false := beq_eq_false_iff_ne.2 h5
    have t6 : (n.toList == [116, 105, 116, 108, 101]) = false := beq_eq_false_iff_ne.2 h6
    have t7 : (n.toList == [116, 101, 120, 116, 97, 114, 101, 97]) = false := beq_eq_false_iff_ne.2 h7
    have H := Lib.hid h8
    clear h0 h1 h2 h3 h4 h5 h6 h7 h8
    go_enter Try.func32, Try.ntmps32
    go_wp2
    go_ret
    exact ⟨HK.out 3 (by unfold Ts.kind; rw [← ByteArray.toList_eq, H.out]; rfl), rfl⟩
  by_cases h9 : n.toList = [115, 116, 121, 108, 101]
  · have t9 : (n.toList == [115, 116, 121, 108, 101]) = true := by rw [h9]; rfl
    have t0 : (n.toList == [98, 114]) = false := beq_eq_false_iff_ne.2 h0
    have t1 : (n.toList == [105, 109, 103]) = false := beq_eq_false_iff_ne.2 h1
    have t2 : (n.toList == [105, 110, 112, 117, 116]) = false := beq_eq_false_iff_ne.2 h2
    have t3 : (n.toList == [104, 114]) = false := beq_eq_false_iff_ne.2 h3
    have t4 : (n.toList == [109, 101, 116, 97]) = false := beq_eq_false_iff_ne.2 h4
    have t5 : (n.toList == [108, 105, 110, 107]) = false := beq_eq_false_iff_ne.2 h5
    have t6 : (n.toList == [116, 105, 116, 108, 101]) = false := beq_eq_false_iff_ne.2 h6
    have t7 : (n.toList == [116, 101, 120, 116, 97, 114, 101, 97]) = false := beq_eq_false_iff_ne.2 h7
    have t8 : (n.toList == [115, 99, 114, 105, 112, 116]) = false := beq_eq_false_iff_ne.2 h8
    have H := Lib.hid h9
    clear h0 h1 h2 h3 h4 h5 h6 h7 h8 h9
    go_enter Try.func32, Try.ntmps32
    go_wp2
    go_ret
    exact ⟨HK.out 4 (by unfold Ts.kind; rw [← ByteArray.toList_eq, H.out]; rfl), rfl⟩
  have t0 : (n.toList == [98, 114]) = false := beq_eq_false_iff_ne.2 h0
  have t1 : (n.toList == [105, 109, 103]) = false := beq_eq_false_iff_ne.2 h1
  have t2 : (n.toList == [105, 110, 112, 117, 116]) = false := beq_eq_false_iff_ne.2 h2
  have t3 : (n.toList == [104, 114]) = false := beq_eq_false_iff_ne.2 h3
  have t4 : (n.toList == [109, 101, 116, 97]) = false := beq_eq_false_iff_ne.2 h4
  have t5 : (n.toList == [108, 105, 110, 107]) = false := beq_eq_false_iff_ne.2 h5
  have t6 : (n.toList == [116, 105, 116, 108, 101]) = false := beq_eq_false_iff_ne.2 h6
  have t7 : (n.toList == [116, 101, 120, 116, 97, 114, 101, 97]) = false := beq_eq_false_iff_ne.2 h7
  have t8 : (n.toList == [115, 99, 114, 105, 112, 116]) = false := beq_eq_false_iff_ne.2 h8
  have t9 : (n.toList == [115, 116, 121, 108, 101]) = false := beq_eq_false_iff_ne.2 h9
  have H : Hid (¬ n.toList = [98, 114] ∧ ¬ n.toList = [105, 109, 103] ∧ ¬ n.toList = [105, 110, 112, 117, 116] ∧ ¬ n.toList = [104, 114] ∧ ¬ n.toList = [109, 101, 116, 97] ∧ ¬ n.toList = [108, 105, 110, 107] ∧ ¬ n.toList = [116, 105, 116, 108, 101] ∧ ¬ n.toList = [116, 101, 120, 116, 97, 114, 101, 97] ∧ ¬ n.toList = [115, 99, 114, 105, 112, 116] ∧ ¬ n.toList = [115, 116, 121, 108, 101]) := ⟨h0, h1, h2, h3, h4, h5, h6, h7, h8, h9⟩
  clear h0 h1 h2 h3 h4 h5 h6 h7 h8 h9
  go_enter Try.func32, Try.ntmps32
  go_wp2
  go_ret
  obtain ⟨k0, k1, k2, k3, k4, k5, k6, k7, k8, k9⟩ := H.out
  exact ⟨HK.out 0 (by unfold Ts.kind; rw [← ByteArray.toList_eq]; simp only [k0, k1, k2, k3, k4, k5, k6, k7, k8, k9, or_self, if_false]), rfl⟩
theorem Tp.kind (n : ByteArray) (w : World) : Calls Try.prog 38 #[.string n] w fun e w' => e = .returned (.int .i64 (Ts.kind n)) ∧ w' = w := by
  have hk : ∀ v : Int, Ts.kind n = v → Ending.returned (.int .i64 v) = .returned (.int .i64 (Ts.kind n)) := fun v h => by rw [h]
  have HK := Lib.hid hk
  clear hk
  by_cases h0 : n.toList = [98, 114]
  · have t0 : (n.toList == [98, 114]) = true := by rw [h0]; rfl
    have H := Lib.hid h0
    clear h0
    go_enter Try.func38, Try.ntmps38
    go_wp2
    go_ret
    exact ⟨HK.out 1 (by unfold Ts.kind; rw [← ByteArray.toList_eq, H.out]; rfl), rfl⟩
  by_cases h1 : n.toList = [105, 109, 103]
  · have t1 : (n.toList == [105, 109, 103]) = true := by rw [h1]; rfl
    have t0 : (n.toList == [98, 114]) = false := beq_eq_false_iff_ne.2 h0
    have H := Lib.hid h1
    clear h0 h1
    go_enter Try.func38, Try.ntmps38
    go_wp2
    go_ret
    exact ⟨HK.out 1 (by unfold Ts.kind; rw [← ByteArray.toList_eq, H.out]; rfl), rfl⟩
  by_cases h2 : n.toList = [105, 110, 112, 117, 116]
  · have t2 : (n.toList == [105, 110, 112, 117, 116]) = true := by rw [h2]; rfl
    have t0 : (n.toList == [98, 114]) = false := beq_eq_false_iff_ne.2 h0
    have t1 : (n.toList == [105, 109, 103]) = false := beq_eq_false_iff_ne.2 h1
    have H := Lib.hid h2
    clear h0 h1 h2
    go_enter Try.func38, Try.ntmps38
    go_wp2
    go_ret
    exact ⟨HK.out 1 (by unfold Ts.kind; rw [← ByteArray.toList_eq, H.out]; rfl), rfl⟩
  by_cases h3 : n.toList = [104, 114]
  · have t3 : (n.toList == [104, 114]) = true := by rw [h3]; rfl
    have t0 : (n.toList == [98, 114]) = false := beq_eq_false_iff_ne.2 h0
    have t1 : (n.toList == [105, 109, 103]) = false := beq_eq_false_iff_ne.2 h1
    have t2 : (n.toList == [105, 110, 112, 117, 116]) = false := beq_eq_false_iff_ne.2 h2
    have H := Lib.hid h3
    clear h0 h1 h2 h3
    go_enter Try.func38, Try.ntmps38
    go_wp2
    go_ret
    exact ⟨HK.out 1 (by unfold Ts.kind; rw [← ByteArray.toList_eq, H.out]; rfl), rfl⟩
  by_cases h4 : n.toList = [109, 101, 116, 97]
  · have t4 : (n.toList == [109, 101, 116, 97]) = true := by rw [h4]; rfl
    have t0 : (n.toList == [98, 114]) = false := beq_eq_false_iff_ne.2 h0
    have t1 : (n.toList == [105, 109, 103]) = false := beq_eq_false_iff_ne.2 h1
    have t2 : (n.toList == [105, 110, 112, 117, 116]) = false := beq_eq_false_iff_ne.2 h2
    have t3 : (n.toList == [104, 114]) = false := beq_eq_false_iff_ne.2 h3
    have H := Lib.hid h4
    clear h0 h1 h2 h3 h4
    go_enter Try.func38, Try.ntmps38
    go_wp2
    go_ret
    exact ⟨HK.out 1 (by unfold Ts.kind; rw [← ByteArray.toList_eq, H.out]; rfl), rfl⟩
  by_cases h5 : n.toList = [108, 105, 110, 107]
  · have t5 : (n.toList == [108, 105, 110, 107]) = true := by rw [h5]; rfl
    have t0 : (n.toList == [98, 114]) = false := beq_eq_false_iff_ne.2 h0
    have t1 : (n.toList == [105, 109, 103]) = false := beq_eq_false_iff_ne.2 h1
    have t2 : (n.toList == [105, 110, 112, 117, 116]) = false := beq_eq_false_iff_ne.2 h2
    have t3 : (n.toList == [104, 114]) = false := beq_eq_false_iff_ne.2 h3
    have t4 : (n.toList == [109, 101, 116, 97]) = false := beq_eq_false_iff_ne.2 h4
    have H := Lib.hid h5
    clear h0 h1 h2 h3 h4 h5
    go_enter Try.func38, Try.ntmps38
    go_wp2
    go_ret
    exact ⟨HK.out 1 (by unfold Ts.kind; rw [← ByteArray.toList_eq, H.out]; rfl), rfl⟩
  by_cases h6 : n.toList = [116, 105, 116, 108, 101]
  · have t6 : (n.toList == [116, 105, 116, 108, 101]) = true := by rw [h6]; rfl
    have t0 : (n.toList == [98, 114]) = false := beq_eq_false_iff_ne.2 h0
    have t1 : (n.toList == [105, 109, 103]) = false := beq_eq_false_iff_ne.2 h1
    have t2 : (n.toList == [105, 110, 112, 117, 116]) = false := beq_eq_false_iff_ne.2 h2
    have t3 : (n.toList == [104, 114]) = false := beq_eq_false_iff_ne.2 h3
    have t4 : (n.toList == [109, 101, 116, 97]) = false := beq_eq_false_iff_ne.2 h4
    have t5 : (n.toList == [108, 105, 110, 107]) = false := beq_eq_false_iff_ne.2 h5
    have H := Lib.hid h6
    clear h0 h1 h2 h3 h4 h5 h6
    go_enter Try.func38, Try.ntmps38
    go_wp2
    go_ret
    exact ⟨HK.out 2 (by unfold Ts.kind; rw [← ByteArray.toList_eq, H.out]; rfl), rfl⟩
  by_cases h7 : n.toList = [116, 101, 120, 116, 97, 114, 101, 97]
  · have t7 : (n.toList == [116, 101, 120, 116, 97, 114, 101, 97]) = true := by rw [h7]; rfl
    have t0 : (n.toList == [98, 114]) = false := beq_eq_false_iff_ne.2 h0
    have t1 : (n.toList == [105, 109, 103]) = false := beq_eq_false_iff_ne.2 h1
    have t2 : (n.toList == [105, 110, 112, 117, 116]) = false := beq_eq_false_iff_ne.2 h2
    have t3 : (n.toList == [104, 114]) = false := beq_eq_false_iff_ne.2 h3
    have t4 : (n.toList == [109, 101, 116, 97]) = false := beq_eq_false_iff_ne.2 h4
    have t5 : (n.toList == [108, 105, 110, 107]) = false := beq_eq_false_iff_ne.2 h5
    have t6 : (n.toList == [116, 105, 116, 108, 101]) = false := beq_eq_false_iff_ne.2 h6
    have H := Lib.hid h7
    clear h0 h1 h2 h3 h4 h5 h6 h7
    go_enter Try.func38, Try.ntmps38
    go_wp2
    go_ret
    exact ⟨HK.out 2 (by unfold Ts.kind; rw [← ByteArray.toList_eq, H.out]; rfl), rfl⟩
  by_cases h8 : n.toList = [115, 99, 114, 105, 112, 116]
  · have t8 : (n.toList == [115, 99, 114, 105, 112, 116]) = true := by rw [h8]; rfl
    have t0 : (n.toList == [98, 114]) = false := beq_eq_false_iff_ne.2 h0
    have t1 : (n.toList == [105, 109, 103]) = false := beq_eq_false_iff_ne.2 h1
    have t2 : (n.toList == [105, 110, 112, 117, 116]) = false := beq_eq_false_iff_ne.2 h2
    have t3 : (n.toList == [104, 114]) = false := beq_eq_false_iff_ne.2 h3
    have t4 : (n.toList == [109, 101, 116, 97]) = false := beq_eq_false_iff_ne.2 h4
    have t5 : (n.toList == [108, 105, 110, 107]) = false := beq_eq_false_iff_ne.2 h5
    have t6 : (n.toList == [116, 105, 116, 108, 101]) = false := beq_eq_false_iff_ne.2 h6
    have t7 : (n.toList == [116, 101, 120, 116, 97, 114, 101, 97]) = false := beq_eq_false_iff_ne.2 h7
    have H := Lib.hid h8
    clear h0 h1 h2 h3 h4 h5 h6 h7 h8
    go_enter Try.func38, Try.ntmps38
    go_wp2
    go_ret
    exact ⟨HK.out 3 (by unfold Ts.kind; rw [← ByteArray.toList_eq, H.out]; rfl), rfl⟩
  by_cases h9 : n.toList = [115, 116, 121, 108, 101]
  · have t9 : (n.toList == [115, 116, 121, 108, 101]) = true := by rw [h9]; rfl
    have t0 : (n.toList == [98, 114]) = false := beq_eq_false_iff_ne.2 h0
    have t1 : (n.toList == [105, 109, 103]) = false := beq_eq_false_iff_ne.2 h1
    have t2 : (n.toList == [105, 110, 112, 117, 116]) = false := beq_eq_false_iff_ne.2 h2
    have t3 : (n.toList == [104, 114]) = false := beq_eq_false_iff_ne.2 h3
    have t4 : (n.toList == [109, 101, 116, 97]) = false := beq_eq_false_iff_ne.2 h4
    have t5 : (n.toList == [108, 105, 110, 107]) = false := beq_eq_false_iff_ne.2 h5
    have t6 : (n.toList == [116, 105, 116, 108, 101]) = false := beq_eq_false_iff_ne.2 h6
    have t7 : (n.toList == [116, 101, 120, 116, 97, 114, 101, 97]) = false := beq_eq_false_iff_ne.2 h7
    have t8 : (n.toList == [115, 99, 114, 105, 112, 116]) = false := beq_eq_false_iff_ne.2 h8
    have H := Lib.hid h9
    clear h0 h1 h2 h3 h4 h5 h6 h7 h8 h9
    go_enter Try.func38, Try.ntmps38
    go_wp2
    go_ret
    exact ⟨HK.out 4 (by unfold Ts.kind; rw [← ByteArray.toList_eq, H.out]; rfl), rfl⟩
  have t0 : (n.toList == [98, 114]) = false := beq_eq_false_iff_ne.2 h0
  have t1 : (n.toList == [105, 109, 103]) = false := beq_eq_false_iff_ne.2 h1
  have t2 : (n.toList == [105, 110, 112, 117, 116]) = false := beq_eq_false_iff_ne.2 h2
  have t3 : (n.toList == [104, 114]) = false := beq_eq_false_iff_ne.2 h3
  have t4 : (n.toList == [109, 101, 116, 97]) = false := beq_eq_false_iff_ne.2 h4
  have t5 : (n.toList == [108, 105, 110, 107]) = false := beq_eq_false_iff_ne.2 h5
  have t6 : (n.toList == [116, 105, 116, 108, 101]) = false := beq_eq_false_iff_ne.2 h6
  have t7 : (n.toList == [116, 101, 120, 116, 97, 114, 101, 97]) = false := beq_eq_false_iff_ne.2 h7
  have t8 : (n.toList == [115, 99, 114, 105, 112, 116]) = false := beq_eq_false_iff_ne.2 h8
  have t9 : (n.toList == [115, 116, 121, 108, 101]) = false := beq_eq_false_iff_ne.2 h9
  have H : Hid (¬ n.toList = [98, 114] ∧ ¬ n.toList = [105, 109, 103] ∧ ¬ n.toList = [105, 110, 112, 117, 116] ∧ ¬ n.toList = [104, 114] ∧ ¬ n.toList = [109, 101, 116, 97] ∧ ¬ n.toList = [108, 105, 110, 107] ∧ ¬ n.toList = [116, 105, 116, 108, 101] ∧ ¬ n.toList = [116, 101, 120, 116, 97, 114, 101, 97] ∧ ¬ n.toList = [115, 99, 114, 105, 112, 116] ∧ ¬ n.toList = [115, 116, 121, 108, 101]) := ⟨h0, h1, h2, h3, h4, h5, h6, h7, h8, h9⟩
  clear h0 h1 h2 h3 h4 h5 h6 h7 h8 h9
  go_enter Try.func38, Try.ntmps38
  go_wp2
  go_ret
  obtain ⟨k0, k1, k2, k3, k4, k5, k6, k7, k8, k9⟩ := H.out
  exact ⟨HK.out 0 (by unfold Ts.kind; rw [← ByteArray.toList_eq]; simp only [k0, k1, k2, k3, k4, k5, k6, k7, k8, k9, or_self, if_false]), rfl⟩
theorem Tp.elemKind (n : ByteArray) (w : World) : Calls Try.prog 36 #[.string n] w fun e w' => e = .returned (.int .i64 (Ts.kind n)) ∧ w' = w := by
  go_enter Try.func36, Try.ntmps36
  go_wp2_with (go_at_call 38; refine (Tp.kind n _).mono ?_; rintro e w' ⟨rfl, rfl⟩)
  go_ret
  exact ⟨rfl, rfl⟩
end Go.Proofs.Ythfobjkdcncoiaa
