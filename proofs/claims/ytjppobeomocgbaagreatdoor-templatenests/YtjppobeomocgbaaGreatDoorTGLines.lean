/-
  THE WALK of stoleref5.Lines.
-/
import Derived.Test.YtjppobeomocgbaaGreatDoorTGKittoLRef1
namespace Go.Proofs.YtjppobeomocgbaaGreatDoor
open Go.RowKit
set_option maxRecDepth 100000 in
set_option maxHeartbeats 4000000 in
theorem Rl.lines (s : ByteArray) (w : World) (hs : s.size ≤ 65536) : Calls Tryz.prog 29 #[.string s] w fun e w' => e = .returned (.string (Rd.page s)) ∧ Below w.heap.size w w' := by
  go_enter Tryz.func29, Tryz.ntmps29
  go_wp2
  go_loopw [3, 4] (fun v i wr => ∃ (k : Nat) (acc : List UInt8), k ≤ s.size ∧ i = .int .i64 (k : Int) ∧ acc.length ≤ k ∧ Hid (acc ++ Rd.lines (s.data.toList.drop k) = Rd.lines s.data.toList) ∧ Hid (wr.ownsRow w.heap.size 5 1 v acc.length (Lib.byteCells acc)) ∧ Hid (Below w.heap.size w wr)) (fun _ i _ => s.size - (intOf i).toNat)
  case atStart => exact ⟨0, [], Nat.zero_le _, rfl, Nat.le_refl _, rfl, World.ownsRow_nil _ _ _ _, Below.refl _ _⟩
  case round =>
    obtain ⟨k, acc, hk, rfl, hl, HL, HO, HB⟩ := hrel
    have HN : Hid (acc.length + 1 ≤ maxLen ∧ (acc.length + 1) * 1 ≤ 140737488355328) := ⟨by unfold maxLen; omega, by omega⟩
    by_cases hlt : k < s.size
    · have d1 : decide ((k : Int) < (s.size : Int)) = true := decide_eq_true (by omega)
      have hd := Rl.drop s k hlt
      by_cases h13 : s[k] = 13
      · have t13 : ((s[k].toNat : Int) == 13) = true := Tp.eq_true h13
        by_cases h2 : k + 1 < s.size
        · have d2 : decide ((k : Int) + 1 < (s.size : Int)) = true := decide_eq_true (by omega)
          have hd2 := Rl.drop s (k + 1) h2
          by_cases h10 : s[k + 1] = 10
          · have t10 : ((s[k + 1].toNat : Int) == 10) = true := Tp.eq_true h10
            have HL2 : Hid ((acc ++ [10]) ++ Rd.lines (s.data.toList.drop (k + 1 + 1)) = Rd.lines s.data.toList) := by
              unfold Hid
              rw [← HL.out, hd, hd2, h13, h10, Rl.l13a]
              simp
            clear HL hd hd2 h13 h10
            go_wp2_with (at_builtin; refine Ro.push rfl _ _ 70 5 1 1 _ rfl Tryz.underlying70 Rl.info rfl (by decide) _ rfl (HO.out.alloc _) wr.heap.size [.int .u8 10] rfl (Rl.cell1 wr 10) rfl (Rl.ones _) HN.out.1 HN.out.2 (by have := HB.out.size; simp; omega) ?_)
            intro v4 w4 R4 hg4 _
            have HO4 : Hid (w4.ownsRow w.heap.size 5 1 v4 (acc ++ [10]).length (Lib.byteCells (acc ++ [10]))) := by
              unfold Hid
              rw [List.length_append, show Lib.byteCells (acc ++ [10]) = Lib.byteCells acc ++ [.int .u8 10] by simp [Lib.byteCells]]
              exact R4
            have HB4 : Hid (Below w.heap.size w w4) := Lib.hid ((HB.out.alloc HB.out.size _).grown hg4 (by have := HB.out.size; simp; omega) (fun k hk => (HO.out.lt k hk).1))
            clear R4 hg4 HO HB
            go_wp2
            go_roundw
            case rel => exact ⟨k + 1 + 1, acc ++ [10], by omega, by go_num, by simp; omega, HL2, HO4, HB4⟩
            case measure => simp [intOf]; omega
          · have t10 : ((s[k + 1].toNat : Int) == 10) = false := Tp.eq_false h10
            have HL2 : Hid ((acc ++ [10]) ++ Rd.lines (s.data.toList.drop (k + 1)) = Rd.lines s.data.toList) := by
              unfold Hid
              rw [← HL.out, hd, h13, Rl.l13b _ (by rw [hd2]; simp; exact h10)]
              simp
            clear HL hd hd2 h13 h10
            go_wp2_with (at_builtin; refine Ro.push rfl _ _ 70 5 1 1 _ rfl Tryz.underlying70 Rl.info rfl (by decide) _ rfl (HO.out.alloc _) wr.heap.size [.int .u8 10] rfl (Rl.cell1 wr 10) rfl (Rl.ones _) HN.out.1 HN.out.2 (by have := HB.out.size; simp; omega) ?_)
            intro v4 w4 R4 hg4 _
            have HO4 : Hid (w4.ownsRow w.heap.size 5 1 v4 (acc ++ [10]).length (Lib.byteCells (acc ++ [10]))) := by
              unfold Hid
              rw [List.length_append, show Lib.byteCells (acc ++ [10]) = Lib.byteCells acc ++ [.int .u8 10] by simp [Lib.byteCells]]
              exact R4
            have HB4 : Hid (Below w.heap.size w w4) := Lib.hid ((HB.out.alloc HB.out.size _).grown hg4 (by have := HB.out.size; simp; omega) (fun k hk => (HO.out.lt k hk).1))
            clear R4 hg4 HO HB
            go_wp2
            go_roundw
            case rel => exact ⟨k + 1, acc ++ [10], by omega, by go_num, by simp; omega, HL2, HO4, HB4⟩
            case measure => simp [intOf]; omega
        · have d2 : decide ((k : Int) + 1 < (s.size : Int)) = false := decide_eq_false (by omega)
          have HL2 : Hid ((acc ++ [10]) ++ Rd.lines (s.data.toList.drop (k + 1)) = Rd.lines s.data.toList) := by
            unfold Hid
            rw [← HL.out, hd, h13, Rl.l13b _ (by rw [List.drop_of_length_le (by rw [Wk.len_data]; omega)]; simp)]
            simp
          clear HL hd h13
          go_wp2_with (at_builtin; refine Ro.push rfl _ _ 70 5 1 1 _ rfl Tryz.underlying70 Rl.info rfl (by decide) _ rfl (HO.out.alloc _) wr.heap.size [.int .u8 10] rfl (Rl.cell1 wr 10) rfl (Rl.ones _) HN.out.1 HN.out.2 (by have := HB.out.size; simp; omega) ?_)
          intro v4 w4 R4 hg4 _
          have HO4 : Hid (w4.ownsRow w.heap.size 5 1 v4 (acc ++ [10]).length (Lib.byteCells (acc ++ [10]))) := by
            unfold Hid
            rw [List.length_append, show Lib.byteCells (acc ++ [10]) = Lib.byteCells acc ++ [.int .u8 10] by simp [Lib.byteCells]]
            exact R4
          have HB4 : Hid (Below w.heap.size w w4) := Lib.hid ((HB.out.alloc HB.out.size _).grown hg4 (by have := HB.out.size; simp; omega) (fun k hk => (HO.out.lt k hk).1))
          clear R4 hg4 HO HB
          go_wp2
          go_roundw
          case rel => exact ⟨k + 1, acc ++ [10], by omega, by go_num, by simp; omega, HL2, HO4, HB4⟩
          case measure => simp [intOf]; omega
      · have t13 : ((s[k].toNat : Int) == 13) = false := Tp.eq_false h13
        have HL2 : Hid ((acc ++ [s[k]]) ++ Rd.lines (s.data.toList.drop (k + 1)) = Rd.lines s.data.toList) := by
          unfold Hid
          rw [← HL.out, hd, Rl.lother _ _ h13]
          simp
        clear HL hd h13
        go_wp2_with (at_builtin; refine Ro.push rfl _ _ 70 5 1 1 _ rfl Tryz.underlying70 Rl.info rfl (by decide) _ rfl (HO.out.alloc _) wr.heap.size [.int .u8 (s[k].toNat : Int)] rfl (Rl.cell1 wr (s[k].toNat : Int)) rfl (Rl.ones _) HN.out.1 HN.out.2 (by have := HB.out.size; simp; omega) ?_)
        intro v4 w4 R4 hg4 _
        have HO4 : Hid (w4.ownsRow w.heap.size 5 1 v4 (acc ++ [s[k]]).length (Lib.byteCells (acc ++ [s[k]]))) := by
          unfold Hid
          rw [List.length_append, show Lib.byteCells (acc ++ [s[k]]) = Lib.byteCells acc ++ [.int .u8 (s[k].toNat : Int)] by simp [Lib.byteCells]]
          exact R4
        have HB4 : Hid (Below w.heap.size w w4) := Lib.hid ((HB.out.alloc HB.out.size _).grown hg4 (by have := HB.out.size; simp; omega) (fun k hk => (HO.out.lt k hk).1))
        clear R4 hg4 HO HB
        go_wp2
        go_roundw
        case rel => exact ⟨k + 1, acc ++ [s[k]], by omega, by go_num, by simp; omega, HL2, HO4, HB4⟩
        case measure => simp [intOf]; omega
    · have d1 : decide ((k : Int) < (s.size : Int)) = false := decide_eq_false (by omega)
      have HA : Hid (acc = Rd.lines s.data.toList) := by
        unfold Hid
        rw [← HL.out, List.drop_of_length_le (by rw [Wk.len_data]; omega)]
        simp [Rd.lines]
      have hconv := Dm.conv HO.out
      clear HL
      go_wp2
      go_ret
      refine ⟨?_, HB.out⟩
      rw [HA.out]
      rfl
end Go.Proofs.YtjppobeomocgbaaGreatDoor
