/-
  THE WALK of utf.May: it returns what 'Pl.mayL' gives of the bytes, and turns nothing that was there.
-/
import Derived.Test.YthoneoemfkpgmaaDoorSign
namespace Go.Proofs.YthoneoemfkpgmaaDoor
open Go.RowKit

theorem Wk.rest_data (s : ByteArray) (k : Nat) : (s.extract k s.size).data.toList = s.data.toList.drop k := by
  rw [Lib.extract_data, List.take_of_length_le]
  rw [List.length_drop, Array.length_toList]
  exact Nat.le_refl _
theorem Wk.len_data (s : ByteArray) : s.data.toList.length = s.size := by rw [Array.length_toList]; rfl
theorem Wk.sign_at (s : ByteArray) (k : Nat) (w : World) (hT : Lib.Utf8Tabs 0 1 w) :
    Calls Tryd.prog 16 #[.string (s.extract k s.size)] w fun e w' => e = .returned (.int .i64 (Pl.sgn (s.data.toList.drop k) : Nat)) ∧ Below w.heap.size w w' := by
  have := Wk.sign (s.extract k s.size) w hT
  rwa [Wk.rest_data] at this
theorem Wk.drop_ne (s : ByteArray) (k : Nat) (h : k < s.size) : s.data.toList.drop k ≠ [] := by
  intro e
  have := congrArg List.length e
  rw [List.length_drop, Wk.len_data] at this
  simp at this
  omega
theorem Wk.ret_bool {a b : Bool} (h : a = b) : Ending.returned (.bool a) = .returned (.bool b) := by rw [h]
theorem Wk.below_step {w wr w1 : World} (h : Below w.heap.size w wr) (h1 : Below wr.heap.size wr w1) : Below w.heap.size w w1 := h.trans (h1.mono h.size)

set_option maxHeartbeats 1000000 in
theorem Wk.may (s : ByteArray) (w : World) (hT : Lib.Utf8Tabs 0 1 w) (hs : s.size ≤ maxLen) :
    Calls Tryd.prog 8 #[.string s] w fun e w' => e = .returned (.bool (Pl.mayL s.data.toList)) ∧ Below w.heap.size w w' := by
  unfold maxLen at hs
  go_enter Tryd.func8, Tryd.ntmps8
  go_wp2
  go_loopw [3] (fun i wr => ∃ k : Nat, k ≤ s.size ∧ i = .int .i64 k ∧ Hid (Pl.mayL (s.data.toList.drop k) = Pl.mayL s.data.toList) ∧ Below w.heap.size w wr) (fun i _ => s.size - (intOf i).toNat)
  case atStart => exact ⟨0, Nat.zero_le _, rfl, rfl, Below.refl _ _⟩
  case round =>
    obtain ⟨k, hk, rfl, hm, hb⟩ := hrel
    have c := Wk.sign_at s k wr (Utf8Tabs_below hT hb)
    by_cases hlt : k < s.size
    · have hle := Pl.sgn_le (s.data.toList.drop k)
      rw [List.length_drop, Wk.len_data] at hle
      obtain ⟨m, hmm⟩ : ∃ m, Pl.sgn (s.data.toList.drop k) = m := ⟨_, rfl⟩
      rw [hmm] at c hle
      have HM : Hid (Pl.sgn (s.data.toList.drop k) = m) := hmm
      clear hmm
      by_cases h0 : m = 0
      · have hz : ((m : Int) == 0) = true := beq_iff_eq.2 (by omega)
        go_wp2_with (go_at_call 16; refine c.mono ?_; rintro e w' ⟨rfl, hb1⟩)
        go_ret
        refine ⟨Wk.ret_bool ?_, Wk.below_step hb hb1⟩
        rw [← hm.out, Pl.mayL_bad _ (Wk.drop_ne s k hlt) (HM.out.trans h0)]
      · have hz : ((m : Int) == 0) = false := beq_eq_false_iff_ne.2 (by omega)
        go_wp2_with (go_at_call 16; refine c.mono ?_; rintro e w' ⟨rfl, hb1⟩)
        go_roundw
        case rel =>
          refine ⟨k + m, by omega, by go_num, ?_, Wk.below_step hb hb1⟩
          have h1 := Pl.mayL_sign (s.data.toList.drop k) (by rw [HM.out]; exact h0)
          rw [HM.out, List.drop_drop] at h1
          show _ = _
          rw [← hm.out, h1]
        case measure => simp [intOf]; omega
    · have hke : k = s.size := by omega
      go_wp2
      go_ret
      refine ⟨Wk.ret_bool ?_, hb⟩
      rw [← hm.out, hke, List.drop_of_length_le (by rw [Wk.len_data]; exact Nat.le_refl _)]
      rfl
end Go.Proofs.YthoneoemfkpgmaaDoor
