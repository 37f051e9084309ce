/-
  THE WALK of stolelaw5.quiet: a text without signs of tags and references.
-/
import Derived.Test.YtjbkgokiikbaeaaDoorTText2
namespace Go.Proofs.YtjbkgokiikbaeaaDoor
open Go.RowKit
def Qt.ok (wo c : UInt8) : Bool := decide (c ≠ 60) && decide (c ≠ 38) && decide (c ≠ 13) && decide (c ≠ wo)
def Qt.quiet (wo : UInt8) (l : List UInt8) : List UInt8 := (l.take 300).filter (Qt.ok wo)
theorem Qt.ne_true {c d : UInt8} (h : ¬ c = d) : ((c.toNat : Int) != (d.toNat : Int)) = true := by
  rw [bne, Tp.eq_false h]; rfl
theorem Qt.ne_false {c d : UInt8} (h : c = d) : ((c.toNat : Int) != (d.toNat : Int)) = false := by
  rw [bne, Tp.eq_true h]; rfl
theorem Qt.snoc (l : List UInt8) (k : Nat) (hk : k < l.length) (wo : UInt8) : (l.take (k + 1)).filter (Qt.ok wo) = (l.take k).filter (Qt.ok wo) ++ (if Qt.ok wo l[k] = true then [l[k]] else []) := by
  rw [List.take_succ_eq_append_getElem hk, List.filter_append]
  congr 1
  by_cases h : Qt.ok wo l[k] = true
  · simp [h]
  · simp [h]
theorem Qt.len (l : List UInt8) (k : Nat) (wo : UInt8) : ((l.take k).filter (Qt.ok wo)).length ≤ k := Nat.le_trans (List.length_filter_le _ _) (by rw [List.length_take]; omega)
set_option maxHeartbeats 2000000 in
theorem Qt.walk (s : ByteArray) (wo : UInt8) (w : World) : Calls Tryd.prog 9 #[.string s, .int .u8 wo.toNat] w fun e w' => ∃ x : ByteArray, e = .returned (.string x) ∧ x.data.toList = Qt.quiet wo s.data.toList ∧ w' = w := by
  go_enter Tryd.func9, Tryd.ntmps9
  go_wp2
  go_loop [5, 6] (fun t i => ∃ (k : Nat) (x : ByteArray), k ≤ s.size ∧ k ≤ 300 ∧ i = .int .i64 (k : Int) ∧ t = .string x ∧ Hid (x.data.toList = (s.data.toList.take k).filter (Qt.ok wo)) ∧ x.size ≤ k) (fun _ i => s.size - (intOf i).toNat)
  case atStart => exact ⟨0, ⟨#[]⟩, Nat.zero_le _, Nat.zero_le _, rfl, rfl, by simp [Hid], Nat.le_refl _⟩
  case round =>
    obtain ⟨k, x, hk, hk3, rfl, rfl, HX, hx⟩ := hrel
    by_cases hlt : k < s.size
    · have d1 : decide ((k : Int) < (s.size : Int)) = true := decide_eq_true (by omega)
      by_cases h3 : k < 300
      · have d2 : decide ((k : Int) < 300) = true := decide_eq_true (by omega)
        have HS := Lib.hid (Qt.snoc s.data.toList k (by rw [Wk.len_data]; exact hlt) wo)
        have hgl : s.data.toList[k]'(by rw [Wk.len_data]; exact hlt) = s[k] := rfl
        rw [hgl] at HS
        have hcut := Rm.text_cut s k (k + 1) (by omega) (by omega)
        rw [show ((k + 1 : Nat) : Int) = (k : Int) + 1 by omega] at hcut
        have hw : IntKind.i64.wrap ((k : Int) + 1) = (k : Int) + 1 := by rw [IntKind.wrap_i64]; omega
        have he : (s.extract k (k + 1)).data.toList = [s[k]] := by
          rw [Wk.part_data]
          rw [List.drop_eq_getElem_cons (by rw [Wk.len_data]; exact hlt)]
          rfl
        have hes : (s.extract k (k + 1)).size = 1 := by rw [← Wk.len_data, he]; rfl
        have HE := Lib.hid he
        generalize s.extract k (k + 1) = E at *
        clear he hgl
        by_cases c1 : s[k] = 60
        · have t1 : ((s[k].toNat : Int) != 60) = false := Qt.ne_false c1
          have HN : Hid (x.data.toList = (s.data.toList.take (k + 1)).filter (Qt.ok wo)) := by unfold Hid; rw [HS.out, if_neg (by rw [c1]; simp [Qt.ok]), List.append_nil]; exact HX.out
          clear c1 HS
          go_wp2
          go_round
          case rel => exact ⟨k + 1, x, by omega, by omega, by go_num, rfl, HN, by omega⟩
          case measure => simp [intOf]; omega
        have t1 : ((s[k].toNat : Int) != 60) = true := Qt.ne_true c1
        by_cases c2 : s[k] = 38
        · have t2 : ((s[k].toNat : Int) != 38) = false := Qt.ne_false c2
          have HN : Hid (x.data.toList = (s.data.toList.take (k + 1)).filter (Qt.ok wo)) := by unfold Hid; rw [HS.out, if_neg (by rw [c2]; simp [Qt.ok]), List.append_nil]; exact HX.out
          clear c1 c2 HS
          go_wp2
          go_round
          case rel => exact ⟨k + 1, x, by omega, by omega, by go_num, rfl, HN, by omega⟩
          case measure => simp [intOf]; omega
        have t2 : ((s[k].toNat : Int) != 38) = true := Qt.ne_true c2
        by_cases c3 : s[k] = 13
        · have t3 : ((s[k].toNat : Int) != 13) = false := Qt.ne_false c3
          have HN : Hid (x.data.toList = (s.data.toList.take (k + 1)).filter (Qt.ok wo)) := by unfold Hid; rw [HS.out, if_neg (by rw [c3]; simp [Qt.ok]), List.append_nil]; exact HX.out
          clear c1 c2 c3 HS
          go_wp2
          go_round
          case rel => exact ⟨k + 1, x, by omega, by omega, by go_num, rfl, HN, by omega⟩
          case measure => simp [intOf]; omega
        have t3 : ((s[k].toNat : Int) != 13) = true := Qt.ne_true c3
        by_cases c4 : s[k] = wo
        · have t4 : ((s[k].toNat : Int) != (wo.toNat : Int)) = false := Qt.ne_false c4
          have HN : Hid (x.data.toList = (s.data.toList.take (k + 1)).filter (Qt.ok wo)) := by unfold Hid; rw [HS.out, if_neg (by rw [c4]; simp [Qt.ok]), List.append_nil]; exact HX.out
          clear c1 c2 c3 c4 HS
          go_wp2
          go_round
          case rel => exact ⟨k + 1, x, by omega, by omega, by go_num, rfl, HN, by omega⟩
          case measure => simp [intOf]; omega
        have t4 : ((s[k].toNat : Int) != (wo.toNat : Int)) = true := Qt.ne_true c4
        have HN : Hid ((x ++ E).data.toList = (s.data.toList.take (k + 1)).filter (Qt.ok wo)) := by
          unfold Hid
          rw [HS.out, if_pos (by simp [Qt.ok, c1, c2, c3, c4]), ← HX.out, ← HE.out]
          simp
        have hxe : (x ++ E).size = x.size + 1 := by rw [ByteArray.size_append, hes]
        clear c1 c2 c3 c4 HS HE
        go_wp2
        go_round
        case rel => exact ⟨k + 1, x ++ E, by omega, by omega, by go_num, rfl, HN, by omega⟩
        case measure => simp [intOf]; omega
      · have d2 : decide ((k : Int) < 300) = false := decide_eq_false (by omega)
        have hk300 : k = 300 := by omega
        have HE := Lib.hid hk300
        clear hk300
        go_wp2
        go_ret
        exact ⟨x, rfl, by have := HX.out; rw [HE.out] at this; exact this, rfl⟩
    · have d1 : decide ((k : Int) < (s.size : Int)) = false := decide_eq_false (by omega)
      have hke : k = s.size := by omega
      have HE := Lib.hid hke
      clear hke
      go_wp2
      go_ret
      refine ⟨x, rfl, ?_, rfl⟩
      have := HX.out
      rw [HE.out, List.take_of_length_le (by rw [Wk.len_data]; exact Nat.le_refl _)] at this
      rw [this]
      unfold Qt.quiet
      rw [List.take_of_length_le (by rw [Wk.len_data]; omega)]
end Go.Proofs.YtjbkgokiikbaeaaDoor
