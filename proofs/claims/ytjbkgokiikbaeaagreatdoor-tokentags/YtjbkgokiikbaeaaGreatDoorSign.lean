/-
  SMALL THINGS for walks over strings; the walk of stolelaw0.Num at 0.
-/
import Derived.Test.YtjbkgokiikbaeaaGreatDoorPlain
import Derived.Test.YtjbkgokiikbaeaaGreatDoorShelf
import Derived.WalkKit
import Derived.BigCall
import Derived.Laws.IdiomStrings
namespace Go.Proofs.YtjbkgokiikbaeaaGreatDoor
open Go.RowKit
theorem Wk.num (w : World) : Calls Tryz.prog 14 #[.int .i64 0] w fun e w' => e = .returned (.int .i64 0) ∧ w' = w := by
  go_enter Tryz.func14, Tryz.ntmps14
  go_wp2
  go_ret
  exact ⟨rfl, rfl⟩
theorem Wk.rest_data (s : ByteArray) (k : Nat) : (s.extract k s.size).data.toList = s.data.toList.drop k := by
  rw [Lib.extract_data, List.take_of_length_le]
  rw [List.length_drop, Array.length_toList]
  exact Nat.le_refl _
theorem Wk.len_data (s : ByteArray) : s.data.toList.length = s.size := by rw [Array.length_toList]; rfl
theorem Wk.drop_ne (s : ByteArray) (k : Nat) (h : k < s.size) : s.data.toList.drop k ≠ [] := by
  intro e
  have := congrArg List.length e
  rw [List.length_drop, Wk.len_data] at this
  simp at this
  omega
theorem Wk.ret_bool {a b : Bool} (h : a = b) : Ending.returned (.bool a) = .returned (.bool b) := by rw [h]
theorem Wk.below_step {w wr w1 : World} (h : Below w.heap.size w wr) (h1 : Below wr.heap.size wr w1) : Below w.heap.size w w1 := h.trans (h1.mono h.size)

theorem Wk.info5 : (Tryz.prog.info? 5).map (fun i => (i.zero, i.size, i.bytes)) = some (some (.int .u8 0), 1, 1) := by kernel_rfl
theorem Wk.low (c : UInt8) (w : World) :
    Calls Tryz.prog 134 #[.int .u8 c.toNat] w fun e w' => e = .returned (.int .u8 (Pl.lowB c).toNat) ∧ w' = w := by
  have hc := c.toNat_lt
  have hl := Pl.lowB_toNat c
  generalize (Pl.lowB c).toNat = m at *
  generalize c.toNat = k at *
  by_cases h1 : 65 ≤ k
  · by_cases h2 : k ≤ 90
    · rw [if_pos ⟨h1, h2⟩] at hl
      subst hl
      go_enter Tryz.func134, Tryz.ntmps134
      go_wp2
      go_ret
      exact ⟨by simp, rfl⟩
    · rw [if_neg (by omega)] at hl
      subst hl
      go_enter Tryz.func134, Tryz.ntmps134
      go_wp2
      go_ret
      exact ⟨rfl, rfl⟩
  · rw [if_neg (by omega)] at hl
    subst hl
    go_enter Tryz.func134, Tryz.ntmps134
    go_wp2
    go_ret
    exact ⟨rfl, rfl⟩
end Go.Proofs.YtjbkgokiikbaeaaGreatDoor
