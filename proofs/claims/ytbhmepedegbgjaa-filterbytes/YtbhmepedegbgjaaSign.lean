/-
  THE WALKS of utf.signLength, stolelaw0.Num: each call returns what the plain function of the bytes gives, and turns nothing that was there.
-/
import Derived.Test.YtbhmepedegbgjaaPlain
import Derived.Test.YtbhmepedegbgjaaShelf
import Derived.WalkKit
import Derived.BigCall
import Derived.Laws.IdiomStrings
namespace Go.Proofs.Ytbhmepedegbgjaa
open Go.RowKit

theorem Wk.get_nb (s : ByteArray) (i : Nat) : (s.get! i).toNat = Pl.nb s.data.toList i := by
  have : s.get! i = s.data.toList.getD i 0 := by
    show s.data[i]! = _
    rw [getElem!_def, List.getD_eq_getElem?_getD, Array.getElem?_toList]
    cases s.data[i]? <;> rfl
  rw [this]; rfl
theorem Wk.sgn_decodeGo (s : ByteArray) (r k : Nat) (h : Lib.decodeGo s = (r, k)) : (if r = 0 ∨ (r = 65533 ∧ k = 1) then 0 else k) = Pl.sgn s.data.toList := by
  have hsz : s.data.toList.length = s.size := by rw [Array.length_toList]; rfl
  unfold Lib.decodeGo at h
  split at h
  · rename_i h0
    have hn : s.data.toList = [] := List.eq_nil_of_length_eq_zero (by omega)
    simp only [Prod.mk.injEq] at h
    obtain ⟨rfl, rfl⟩ := h
    rw [hn]; rfl
  · rw [Lib.decode_at, Wk.get_nb, Wk.get_nb, Wk.get_nb, Wk.get_nb] at h
    have := Pl.sgnN_decode _ _ _ _ _ (Pl.nb_lt _ _) (Pl.nb_lt _ _) (Pl.nb_lt _ _) (Pl.nb_lt _ _) r k h
    rw [this]
    unfold Pl.sgn
    rw [hsz]; rfl
theorem Wk.decode_small (s : ByteArray) (r k : Nat) (h : Lib.decodeGo s = (r, k)) : k ≤ 4 := by
  unfold Lib.decodeGo at h
  split at h
  · simp only [Prod.mk.injEq] at h; omega
  · rw [Lib.decode_at] at h
    unfold Lib.decodeN at h
    repeat' split at h
    all_goals (simp only [Prod.mk.injEq] at h; omega)

theorem Wk.num (w : World) : Calls Try.prog 8 #[.int .i64 0] w fun e w' => e = .returned (.int .i64 0) ∧ w' = w := by
  go_enter Try.func8, Try.ntmps8
  go_wp2
  go_ret
  exact ⟨rfl, rfl⟩
theorem Wk.rest_data (s : ByteArray) (k : Nat) : (s.extract k s.size).data.toList = s.data.toList.drop k := by
  rw [Lib.extract_data, List.take_of_length_le]
  rw [List.length_drop, Array.length_toList]
  exact Nat.le_refl _
theorem Wk.len_data (s : ByteArray) : s.data.toList.length = s.size := by rw [Array.length_toList]; rfl
theorem Wk.drop_ne (s : ByteArray) (k : Nat) (h : k < s.size) : s.data.toList.drop k ≠ [] := by
  intro e
  have := congrArg List.length e
  rw [List.length_drop, Wk.len_data] at this
  simp at this
  omega
theorem Wk.ret_bool {a b : Bool} (h : a = b) : Ending.returned (.bool a) = .returned (.bool b) := by rw [h]
theorem Wk.below_step {w wr w1 : World} (h : Below w.heap.size w wr) (h1 : Below wr.heap.size wr w1) : Below w.heap.size w w1 := h.trans (h1.mono h.size)

theorem Wk.info5 : (Try.prog.info? 5).map (fun i => (i.zero, i.size, i.bytes)) = some (some (.int .u8 0), 1, 1) := by kernel_rfl
end Go.Proofs.Ytbhmepedegbgjaa
