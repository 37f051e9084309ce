/-
  THE WALKS of stoleref13.blank, left, right.
-/
import Derived.Test.YtfcmcmokmhklhaaDoorLPlain
namespace Go.Proofs.YtfcmcmokmhklhaaDoor
open Go.RowKit
theorem Lr.blank (c : UInt8) (w : World) : Calls Tryd.prog 22 #[.int .u8 (c.toNat : Int)] w fun e w' => e = .returned (.bool (Lx.blank c)) ∧ w' = w := by
  obtain ⟨b, hb⟩ : ∃ b, Lx.blank c = b := ⟨_, rfl⟩
  rw [hb]
  have HB := Lib.hid hb
  clear hb
  by_cases h9 : c = 9
  · have t9 : ((c.toNat : Int) == 9) = true := Tp.eq_true (d := 9) h9
    have hb : true = b := by rw [← HB.out, h9]; rfl
    subst hb
    clear HB h9
    go_enter Tryd.func22, Tryd.ntmps22
    go_wp2
    go_ret
    exact ⟨rfl, rfl⟩
  · have t9 : ((c.toNat : Int) == 9) = false := Tp.eq_false (d := 9) h9
    by_cases h10 : c = 10
    · have t10 : ((c.toNat : Int) == 10) = true := Tp.eq_true (d := 10) h10
      have hb : true = b := by rw [← HB.out, h10]; rfl
      subst hb
      clear HB h9 h10
      go_enter Tryd.func22, Tryd.ntmps22
      go_wp2
      go_ret
      exact ⟨rfl, rfl⟩
    · have t10 : ((c.toNat : Int) == 10) = false := Tp.eq_false (d := 10) h10
      by_cases h32 : c = 32
      · have t32 : ((c.toNat : Int) == 32) = true := Tp.eq_true (d := 32) h32
        have hb : true = b := by rw [← HB.out, h32]; rfl
        subst hb
        clear HB h9 h10 h32
        go_enter Tryd.func22, Tryd.ntmps22
        go_wp2
        go_ret
        exact ⟨rfl, rfl⟩
      · have t32 : ((c.toNat : Int) == 32) = false := Tp.eq_false (d := 32) h32
        have hb : false = b := by
          rw [← HB.out]
          unfold Lx.blank
          rw [beq_eq_false_iff_ne.2 h9, beq_eq_false_iff_ne.2 h10, beq_eq_false_iff_ne.2 h32]
          rfl
        subst hb
        clear HB h9 h10 h32
        go_enter Tryd.func22, Tryd.ntmps22
        go_wp2
        go_ret
        exact ⟨rfl, rfl⟩
theorem Lr.nil (t : ByteArray) : t.toList = [] ↔ t.size = 0 := by
  rw [ByteArray.toList_eq, ← Wk.len_data]
  exact ⟨fun h => by rw [h]; rfl, fun h => List.eq_nil_of_length_eq_zero h⟩
theorem Lr.cons (t : ByteArray) (h : 0 < t.size) : t.data.toList = t[0] :: (t.extract 1 t.size).data.toList := by
  have := Rl.drop t 0 h
  rw [List.drop_zero, Nat.zero_add, ← Wk.rest_data] at this
  exact this
theorem Lr.snoc (t : ByteArray) (h : 0 < t.size) : t.data.toList = (t.extract 0 (t.size - 1)).data.toList ++ [t[t.size - 1]] := by
  have hl : t.size - 1 < t.data.toList.length := by rw [Wk.len_data]; omega
  rw [Lib.extract_data, List.drop_zero, Nat.sub_zero]
  have := List.take_succ_eq_append_getElem hl
  rw [show t.size - 1 + 1 = t.data.toList.length by rw [Wk.len_data]; omega, List.take_length] at this
  exact this
theorem Lx.right_snoc (l : List UInt8) (c : UInt8) : Lx.right (l ++ [c]) = if Lx.blank c = true then Lx.right l else l ++ [c] := by
  unfold Lx.right
  rw [List.reverse_append, List.reverse_singleton, List.singleton_append, List.dropWhile_cons]
  split
  · rfl
  · simp
set_option maxRecDepth 100000 in
theorem Lr.left (s : ByteArray) (w : World) (hs : s.size ≤ 4611686018427387904) : Calls Tryd.prog 21 #[.string s] w fun e w' => e = .returned (.string ⟨(Lx.left s.data.toList).toArray⟩) ∧ w' = w := by
  obtain ⟨X, hX⟩ : ∃ X : ByteArray, X = ⟨(Lx.left s.data.toList).toArray⟩ := ⟨_, rfl⟩
  rw [← hX]
  have HX : Hid (X.data.toList = Lx.left s.data.toList) := by unfold Hid; rw [hX]
  clear hX
  go_enter Tryd.func21, Tryd.ntmps21
  go_wp2_with fail
  go_loopw [0] (fun sv wr => ∃ t : ByteArray, sv = .string t ∧ t.size ≤ 4611686018427387904 ∧ Hid (X.data.toList = Lx.left t.data.toList) ∧ wr = w) (fun sv _ => match sv with | .string t => t.size | _ => 0)
  case atStart => exact ⟨s, rfl, hs, HX, rfl⟩
  case round =>
    clear HX
    obtain ⟨t, rfl, ht, HX, hw⟩ := hrel
    have hw := hw.symm
    subst hw
    have bl := fun (h : 0 < t.size) u => Lr.blank (t[0]) u
    by_cases hz : t.size = 0
    · have n0 : t.toList = [] := (Lr.nil t).2 hz
      have n1 : t.toList.isEmpty = true := by rw [n0]; rfl
      have hX : t = X := by
        have h1 := HX.out
        have h2 : t.data.toList = [] := List.eq_nil_of_length_eq_zero (by rw [Wk.len_data]; exact hz)
        rw [h2] at h1
        exact WideShapes.bytes_inj (h2.trans h1.symm)
      clear HX
      subst hX
      go_wp2
      go_ret
      exact ⟨rfl, rfl⟩
    · have n0 : ¬ t.toList = [] := fun q => hz ((Lr.nil t).1 q)
      have n1 : t.toList.isEmpty = false := by rw [List.isEmpty_eq_false_iff]; exact n0
      have hp : 0 < t.size := by omega
      have bl := bl hp
      have HC := Lib.hid (Lr.cons t hp)
      cases hb : Lx.blank t[0] with
      | true =>
        rw [hb] at bl
        have HX2 : Hid (X.data.toList = Lx.left (t.extract 1 t.size).data.toList) := by
          have h1 := HX.out
          rw [HC.out] at h1
          unfold Lx.left at h1 ⊢
          rw [List.dropWhile_cons, if_pos hb] at h1
          exact h1
        have hsz : (t.extract 1 t.size).size = t.size - 1 := by rw [ByteArray.size_extract]; omega
        clear hb HC HX
        go_wp2_with (go_at_call 22; refine (bl _).mono ?_; rintro e w1 ⟨rfl, hw⟩; have hw := hw.symm; subst hw)
        go_roundw
        case rel => exact ⟨t.extract 1 t.size, rfl, by omega, HX2, by first | rfl | trivial⟩
        case measure => simp only; omega
      | false =>
        rw [hb] at bl
        have hX : t = X := by
          have h1 := HX.out
          rw [HC.out] at h1
          unfold Lx.left at h1
          rw [List.dropWhile_cons, if_neg (by rw [hb]; decide), ← HC.out] at h1
          exact WideShapes.bytes_inj h1.symm
        clear hb HC HX
        subst hX
        go_wp2_with (go_at_call 22; refine (bl _).mono ?_; rintro e w1 ⟨rfl, hw⟩; have hw := hw.symm; subst hw)
        go_ret
        exact ⟨rfl, rfl⟩
set_option maxRecDepth 100000 in
theorem Lr.right (s : ByteArray) (w : World) (hs : s.size ≤ 4611686018427387904) : Calls Tryd.prog 23 #[.string s] w fun e w' => e = .returned (.string ⟨(Lx.right s.data.toList).toArray⟩) ∧ w' = w := by
  obtain ⟨X, hX⟩ : ∃ X : ByteArray, X = ⟨(Lx.right s.data.toList).toArray⟩ := ⟨_, rfl⟩
  rw [← hX]
  have HX : Hid (X.data.toList = Lx.right s.data.toList) := by unfold Hid; rw [hX]
  clear hX
  go_enter Tryd.func23, Tryd.ntmps23
  go_wp2_with fail
  go_loopw [0] (fun sv wr => ∃ t : ByteArray, sv = .string t ∧ t.size ≤ 4611686018427387904 ∧ Hid (X.data.toList = Lx.right t.data.toList) ∧ wr = w) (fun sv _ => match sv with | .string t => t.size | _ => 0)
  case atStart => exact ⟨s, rfl, hs, HX, rfl⟩
  case round =>
    clear HX
    obtain ⟨t, rfl, ht, HX, hw⟩ := hrel
    have hw := hw.symm
    subst hw
    have bl := fun (h : t.size - 1 < t.size) u => Lr.blank (t[t.size - 1]) u
    by_cases hz : t.size = 0
    · have n0 : t.toList = [] := (Lr.nil t).2 hz
      have n1 : t.toList.isEmpty = true := by rw [n0]; rfl
      have hX : t = X := by
        have h1 := HX.out
        have h2 : t.data.toList = [] := List.eq_nil_of_length_eq_zero (by rw [Wk.len_data]; exact hz)
        rw [h2] at h1
        exact WideShapes.bytes_inj (h2.trans h1.symm)
      clear HX
      subst hX
      go_wp2
      go_ret
      exact ⟨rfl, rfl⟩
    · have n0 : ¬ t.toList = [] := fun q => hz ((Lr.nil t).1 q)
      have n1 : t.toList.isEmpty = false := by rw [List.isEmpty_eq_false_iff]; exact n0
      have hp : 0 < t.size := by omega
      have bl := bl (by omega)
      have HC := Lib.hid (Lr.snoc t hp)
      have em : (t.size : Int) - 1 = ((t.size - 1 : Nat) : Int) := by omega
      cases hb : Lx.blank t[t.size - 1] with
      | true =>
        rw [hb] at bl
        have HX2 : Hid (X.data.toList = Lx.right (t.extract 0 (t.size - 1)).data.toList) := by
          have h1 := HX.out
          rw [HC.out, Lx.right_snoc, if_pos hb] at h1
          exact h1
        have hsz : (t.extract 0 (t.size - 1)).size = t.size - 1 := by rw [ByteArray.size_extract]; omega
        clear hb HC HX
        go_wp2_with (go_at_call 22; refine (bl _).mono ?_; rintro e w1 ⟨rfl, hw⟩; have hw := hw.symm; subst hw)
        go_roundw
        case rel => exact ⟨t.extract 0 (t.size - 1), rfl, by omega, HX2, by first | rfl | trivial⟩
        case measure => simp only; omega
      | false =>
        rw [hb] at bl
        have hX : t = X := by
          have h1 := HX.out
          rw [HC.out, Lx.right_snoc, if_neg (by rw [hb]; decide), ← HC.out] at h1
          exact WideShapes.bytes_inj h1.symm
        clear hb HC HX
        subst hX
        go_wp2_with (go_at_call 22; refine (bl _).mono ?_; rintro e w1 ⟨rfl, hw⟩; have hw := hw.symm; subst hw)
        go_ret
        exact ⟨rfl, rfl⟩
end Go.Proofs.YtfcmcmokmhklhaaDoor
