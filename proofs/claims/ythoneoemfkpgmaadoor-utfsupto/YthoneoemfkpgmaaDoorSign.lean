/-
  THE WALKS of utf.signLength, utf.May and utf.lowerByte, stolelaw0.Num: each call returns what the plain function of the bytes gives, and turns nothing that was there.
-/
import Derived.Test.YthoneoemfkpgmaaDoorPlain
import Derived.Test.YthoneoemfkpgmaaDoorShelf
import Derived.WalkKit
import Derived.BigCall
namespace Go.Proofs.YthoneoemfkpgmaaDoor
open Go.RowKit

theorem Wk.get_nb (s : ByteArray) (i : Nat) : (s.get! i).toNat = Pl.nb s.data.toList i := by
  have : s.get! i = s.data.toList.getD i 0 := by
    show s.data[i]! = _
    rw [getElem!_def, List.getD_eq_getElem?_getD, Array.getElem?_toList]
    cases s.data[i]? <;> rfl
  rw [this]; rfl
theorem Wk.sgn_decodeGo (s : ByteArray) (r k : Nat) (h : Lib.decodeGo s = (r, k)) : (if r = 0 ∨ (r = 65533 ∧ k = 1) then 0 else k) = Pl.sgn s.data.toList := by
  have hsz : s.data.toList.length = s.size := by rw [Array.length_toList]; rfl
  unfold Lib.decodeGo at h
  split at h
  · rename_i h0
    have hn : s.data.toList = [] := List.eq_nil_of_length_eq_zero (by omega)
    simp only [Prod.mk.injEq] at h
    obtain ⟨rfl, rfl⟩ := h
    rw [hn]; rfl
  · rw [Lib.decode_at, Wk.get_nb, Wk.get_nb, Wk.get_nb, Wk.get_nb] at h
    have := Pl.sgnN_decode _ _ _ _ _ (Pl.nb_lt _ _) (Pl.nb_lt _ _) (Pl.nb_lt _ _) (Pl.nb_lt _ _) r k h
    rw [this]
    unfold Pl.sgn
    rw [hsz]; rfl
theorem Wk.decode_small (s : ByteArray) (r k : Nat) (h : Lib.decodeGo s = (r, k)) : k ≤ 4 := by
  unfold Lib.decodeGo at h
  split at h
  · simp only [Prod.mk.injEq] at h; omega
  · rw [Lib.decode_at] at h
    unfold Lib.decodeN at h
    repeat' split at h
    all_goals (simp only [Prod.mk.injEq] at h; omega)

set_option maxHeartbeats 1000000 in
theorem Wk.sign (s : ByteArray) (w : World) (hT : Lib.Utf8Tabs 0 1 w) :
    Calls Tryd.prog 16 #[.string s] w fun e w' => e = .returned (.int .i64 (Pl.sgn s.data.toList : Nat)) ∧ Below w.heap.size w w' := by
  obtain ⟨r, k, hrk⟩ : ∃ r k, Lib.decodeGo s = (r, k) := ⟨_, _, rfl⟩
  have hS := Wk.sgn_decodeGo s r k hrk
  have c := Sh.utf8_DecodeRuneInString s w hT
  rw [hrk] at c
  generalize Pl.sgn s.data.toList = m at *
  clear hrk
  by_cases h0 : r = 0
  · subst h0
    have hm : m = 0 := by simpa using hS.symm
    subst hm
    clear hS
    go_enter Tryd.func16, Tryd.ntmps16
    go_wp2_with (go_at_call 23; refine c.mono ?_; rintro e w' ⟨rfl, hb⟩)
    go_ret
    exact ⟨rfl, hb⟩
  · have hr0 : ((r : Int) == 0) = false := by simpa using h0
    by_cases h1 : r = 65533
    · have hr1 : ((r : Int) == 65533) = true := by simp [h1]
      by_cases h2 : k = 1
      · have hk1 : ((k : Int) == 1) = true := by simp [h2]
        have hm : m = 0 := by simpa [h1, h2] using hS.symm
        subst hm
        clear hS h1 h2
        go_enter Tryd.func16, Tryd.ntmps16
        go_wp2_with (go_at_call 23; refine c.mono ?_; rintro e w' ⟨rfl, hb⟩)
        go_ret
        exact ⟨rfl, hb⟩
      · have hk1 : ((k : Int) == 1) = false := beq_eq_false_iff_ne.2 (by omega)
        have hm : m = k := by simpa [h1, h2] using hS.symm
        subst hm
        clear hS h1 h2
        go_enter Tryd.func16, Tryd.ntmps16
        go_wp2_with (go_at_call 23; refine c.mono ?_; rintro e w' ⟨rfl, hb⟩)
        go_ret
        exact ⟨rfl, hb⟩
    · have hr1 : ((r : Int) == 65533) = false := by simpa using (by omega : ¬ (r : Int) = 65533)
      have hm : m = k := by simpa [h0, h1] using hS.symm
      subst hm
      clear hS h1
      go_enter Tryd.func16, Tryd.ntmps16
      go_wp2_with (go_at_call 23; refine c.mono ?_; rintro e w' ⟨rfl, hb⟩)
      go_ret
      exact ⟨rfl, hb⟩

theorem Wk.low (c : UInt8) (w : World) :
    Calls Tryd.prog 21 #[.int .u8 c.toNat] w fun e w' => e = .returned (.int .u8 (Pl.lowB c).toNat) ∧ w' = w := by
  have hc := c.toNat_lt
  have hl := Pl.lowB_toNat c
  generalize (Pl.lowB c).toNat = m at *
  generalize c.toNat = k at *
  by_cases h1 : 65 ≤ k
  · by_cases h2 : k ≤ 90
    · rw [if_pos ⟨h1, h2⟩] at hl
      subst hl
      go_enter Tryd.func21, Tryd.ntmps21
      go_wp2
      go_ret
      exact ⟨by simp, rfl⟩
    · rw [if_neg (by omega)] at hl
      subst hl
      go_enter Tryd.func21, Tryd.ntmps21
      go_wp2
      go_ret
      exact ⟨rfl, rfl⟩
  · rw [if_neg (by omega)] at hl
    subst hl
    go_enter Tryd.func21, Tryd.ntmps21
    go_wp2
    go_ret
    exact ⟨rfl, rfl⟩

theorem Wk.num (w : World) : Calls Tryd.prog 15 #[.int .i64 0] w fun e w' => e = .returned (.int .i64 0) ∧ w' = w := by
  go_enter Tryd.func15, Tryd.ntmps15
  go_wp2
  go_ret
  exact ⟨rfl, rfl⟩
end Go.Proofs.YthoneoemfkpgmaaDoor
