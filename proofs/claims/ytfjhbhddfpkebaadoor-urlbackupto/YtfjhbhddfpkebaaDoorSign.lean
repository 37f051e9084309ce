/-
  THE WALKS of utf.signLength, stolelaw0.Num: each call returns what the plain function of the bytes gives, and turns nothing that was there.
-/
import Derived.Test.YtfjhbhddfpkebaaDoorPlain
import Derived.Test.YtfjhbhddfpkebaaDoorShelf
import Derived.WalkKit
import Derived.BigCall
import Derived.Laws.IdiomStrings
namespace Go.Proofs.YtfjhbhddfpkebaaDoor
open Go.RowKit

theorem Wk.get_nb (s : ByteArray) (i : Nat) : (s.get! i).toNat = Pl.nb s.data.toList i := by
  have : s.get! i = s.data.toList.getD i 0 := by
    show s.data[i]! = _
    rw [getElem!_def, List.getD_eq_getElem?_getD, Array.getElem?_toList]
    cases s.data[i]? <;> rfl
  rw [this]; rfl
theorem Wk.sgn_decodeGo (s : ByteArray) (r k : Nat) (h : Lib.decodeGo s = (r, k)) : (if r = 0 ∨ (r = 65533 ∧ k = 1) then 0 else k) = Pl.sgn s.data.toList := by
  have hsz : s.data.toList.length = s.size := by rw [Array.length_toList]; rfl
  unfold Lib.decodeGo at h
  split at h
  · rename_i h0
    have hn : s.data.toList = [] := List.eq_nil_of_length_eq_zero (by omega)
    simp only [Prod.mk.injEq] at h
    obtain ⟨rfl, rfl⟩ := h
    rw [hn]; rfl
  · rw [Lib.decode_at, Wk.get_nb, Wk.get_nb, Wk.get_nb, Wk.get_nb] at h
    have := Pl.sgnN_decode _ _ _ _ _ (Pl.nb_lt _ _) (Pl.nb_lt _ _) (Pl.nb_lt _ _) (Pl.nb_lt _ _) r k h
    rw [this]
    unfold Pl.sgn
    rw [hsz]; rfl
theorem Wk.decode_small (s : ByteArray) (r k : Nat) (h : Lib.decodeGo s = (r, k)) : k ≤ 4 := by
  unfold Lib.decodeGo at h
  split at h
  · simp only [Prod.mk.injEq] at h; omega
  · rw [Lib.decode_at] at h
    unfold Lib.decodeN at h
    repeat' split at h
    all_goals (simp only [Prod.mk.injEq] at h; omega)

set_option maxHeartbeats 1000000 in
theorem Wk.sign (s : ByteArray) (w : World) (hT : Lib.Utf8Tabs 1 2 w) :
    Calls Tryd.prog 36 #[.string s] w fun e w' => e = .returned (.int .i64 (Pl.sgn s.data.toList : Nat)) ∧ Below w.heap.size w w' := by
  obtain ⟨r, k, hrk⟩ : ∃ r k, Lib.decodeGo s = (r, k) := ⟨_, _, rfl⟩
  have hS := Wk.sgn_decodeGo s r k hrk
  have c := Sh.utf8_DecodeRuneInString s w hT
  rw [hrk] at c
  generalize Pl.sgn s.data.toList = m at *
  clear hrk
  by_cases h0 : r = 0
  · subst h0
    have hm : m = 0 := by simpa using hS.symm
    subst hm
    clear hS
    go_enter Tryd.func36, Tryd.ntmps36
    go_wp2_with (go_at_call 43; refine c.mono ?_; rintro e w' ⟨rfl, hb⟩)
    go_ret
    exact ⟨rfl, hb⟩
  · have hr0 : ((r : Int) == 0) = false := by simpa using h0
    by_cases h1 : r = 65533
    · have hr1 : ((r : Int) == 65533) = true := by simp [h1]
      by_cases h2 : k = 1
      · have hk1 : ((k : Int) == 1) = true := by simp [h2]
        have hm : m = 0 := by simpa [h1, h2] using hS.symm
        subst hm
        clear hS h1 h2
        go_enter Tryd.func36, Tryd.ntmps36
        go_wp2_with (go_at_call 43; refine c.mono ?_; rintro e w' ⟨rfl, hb⟩)
        go_ret
        exact ⟨rfl, hb⟩
      · have hk1 : ((k : Int) == 1) = false := beq_eq_false_iff_ne.2 (by omega)
        have hm : m = k := by simpa [h1, h2] using hS.symm
        subst hm
        clear hS h1 h2
        go_enter Tryd.func36, Tryd.ntmps36
        go_wp2_with (go_at_call 43; refine c.mono ?_; rintro e w' ⟨rfl, hb⟩)
        go_ret
        exact ⟨rfl, hb⟩
    · have hr1 : ((r : Int) == 65533) = false := by simpa using (by omega : ¬ (r : Int) = 65533)
      have hm : m = k := by simpa [h0, h1] using hS.symm
      subst hm
      clear hS h1
      go_enter Tryd.func36, Tryd.ntmps36
      go_wp2_with (go_at_call 43; refine c.mono ?_; rintro e w' ⟨rfl, hb⟩)
      go_ret
      exact ⟨rfl, hb⟩

theorem Wk.num (w : World) : Calls Tryd.prog 20 #[.int .i64 0] w fun e w' => e = .returned (.int .i64 0) ∧ w' = w := by
  go_enter Tryd.func20, Tryd.ntmps20
  go_wp2
  go_ret
  exact ⟨rfl, rfl⟩
theorem Wk.rest_data (s : ByteArray) (k : Nat) : (s.extract k s.size).data.toList = s.data.toList.drop k := by
  rw [Lib.extract_data, List.take_of_length_le]
  rw [List.length_drop, Array.length_toList]
  exact Nat.le_refl _
theorem Wk.len_data (s : ByteArray) : s.data.toList.length = s.size := by rw [Array.length_toList]; rfl
theorem Wk.sign_at (s : ByteArray) (k : Nat) (w : World) (hT : Lib.Utf8Tabs 1 2 w) :
    Calls Tryd.prog 36 #[.string (s.extract k s.size)] w fun e w' => e = .returned (.int .i64 (Pl.sgn (s.data.toList.drop k) : Nat)) ∧ Below w.heap.size w w' := by
  have := Wk.sign (s.extract k s.size) w hT
  rwa [Wk.rest_data] at this
theorem Wk.drop_ne (s : ByteArray) (k : Nat) (h : k < s.size) : s.data.toList.drop k ≠ [] := by
  intro e
  have := congrArg List.length e
  rw [List.length_drop, Wk.len_data] at this
  simp at this
  omega
theorem Wk.ret_bool {a b : Bool} (h : a = b) : Ending.returned (.bool a) = .returned (.bool b) := by rw [h]
theorem Wk.below_step {w wr w1 : World} (h : Below w.heap.size w wr) (h1 : Below wr.heap.size wr w1) : Below w.heap.size w w1 := h.trans (h1.mono h.size)

theorem Wk.info5 : (Tryd.prog.info? 5).map (fun i => (i.zero, i.size, i.bytes)) = some (some (.int .u8 0), 1, 1) := by kernel_rfl
end Go.Proofs.YtfjhbhddfpkebaaDoor
