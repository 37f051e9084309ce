/-
  THE WALKS of stoleref13.blank, left, right.
-/
import Derived.Test.YtnophkbbeipaaaaLPlain
namespace Go.Proofs.Ytnophkbbeipaaaa
open Go.RowKit
theorem Lr.blank (c : UInt8) (w : World) : Calls Try.prog 16 #[.int .u8 (c.toNat : Int)] w fun e w' => e = .returned (.bool (Lx.blank c)) ∧ w' = w := by
  obtain ⟨b, hb⟩ : ∃ b, Lx.blank c = b := ⟨_, rfl⟩
  rw [hb]
  have HB := Lib.hid hb
  clear hb
  by_cases h9 : c = 9
  · have t9 : ((c.toNat : Int) == 9) = true := Tp.eq_true (d := 9) h9
    have hb : true = b := by rw [← HB.out, h9]; rfl
    subst hb
    clear HB h9
    go_enter Try.func16, Try.ntmps16
    go_wp2
    go_ret
    exact ⟨rfl, rfl⟩
  · have t9 : ((c.toNat : Int) == 9) = false := Tp.eq_false (d := 9) h9
    by_cases h10 : c = 10
    · have t10 : ((c.toNat : Int) == 10) = true := Tp.eq_true (d := 10) h10
      have hb : true = b := by rw [← HB.out, h10]; rfl
      subst hb
      clear HB h9 h10
      go_enter Try.func16, Try.ntmps16
      go_wp2
      go_ret
      exact ⟨rfl, rfl⟩
    · have t10 : ((c.toNat : Int) == 10) = false := Tp.eq_false (d := 10) h10
      by_cases h32 : c = 32
      · have t32 : ((c.toNat : Int) == 32) = true := Tp.eq_true (d := 32) h32
        have hb : true = b := by rw [← HB.out, h32]; rfl
        subst hb
        clear HB h9 h10 h32
        go_enter Try.func16, Try.ntmps16
        go_wp2
        go_ret
        exact ⟨rfl, rfl⟩
      · have t32 : ((c.toNat : Int) == 32) = false := Tp.eq_false (d := 32) h32
        have hb : false = b := by
          rw [← HB.out]
          unfold Lx.blank
          rw [beq_eq_false_iff_ne.2 h9, beq_eq_false_iff_ne.2 h10, beq_eq_false_iff_ne.2 h32]
          rfl
        subst hb
        clear HB h9 h10 h32
        go_enter Try.func16, Try.ntmps16
        go_wp2
        go_ret
        exact ⟨rfl, rfl⟩
theorem Lr.nil (t : ByteArray) : t.toList = [] ↔ t.size = 0 := by
  rw [ByteArray.toList_eq, ← Wk.len_data]
  exact ⟨fun h => by rw [h]; rfl, fun h => List.eq_nil_of_length_eq_zero h⟩
theorem Lr.cons (t : ByteArray) (h : 0 < t.size) : t.data.toList = t[0] :: (t.extract 1 t.size).data.toList := by
  have := Rl.drop t 0 h
  rw [List.drop_zero, Nat.zero_add, ← Wk.rest_data] at this
  exact this
theorem Lr.snoc (t : ByteArray) (h : 0 < t.size) : t.data.toList = (t.extract 0 (t.size - 1)).data.toList ++ [t[t.size - 1]] := by
  have hl : t.size - 1 < t.data.toList.length := by rw [Wk.len_data]; omega
  rw [Lib.extract_data, List.drop_zero, Nat.sub_zero]
  have := List.take_succ_eq_append_getElem hl
  rw [show t.size - 1 + 1 = t.data.toList.length by rw [Wk.len_data]; omega, List.take_length] at this
  exact this
theorem Lx.right_snoc (l : List UInt8) (c : UInt8) : Lx.right (l ++ [c]) = if Lx.blank c = true then Lx.right l else l ++ [c] := by
  unfold Lx.right
  rw [List.reverse_append, List.reverse_singleton, List.singleton_append, List.dropWhile_cons]
  split
  · rfl
  · simp
end Go.Proofs.Ytnophkbbeipaaaa
