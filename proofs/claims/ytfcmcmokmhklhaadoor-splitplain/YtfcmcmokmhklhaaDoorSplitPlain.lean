/-
  THE WALK of stolelaw13.SplitPlain: it returns true.
-/
import Derived.Test.YtfcmcmokmhklhaaDoorLAw
import Derived.Test.YtfcmcmokmhklhaaDoorLLaw1
import Derived.Deep.CutBlock
namespace Go.Proofs.YtfcmcmokmhklhaaDoor
open Go.RowKit
set_option maxRecDepth 100000 in
set_option maxHeartbeats 4000000 in
theorem Law.splitPlain (s t : ByteArray) (w : World) (hT : Lp.T w) (_hs : s.size ≤ 1152921504606846976) (_ht : t.size ≤ 1152921504606846976) : Calls Tryd.prog 4 #[.string s, .string t] w fun e w' => e = .returned (.bool true) ∧ Below w.heap.size w w' := by
  have aw := fun u h => Lw.awake u h
  have HT := Lib.hid hT
  have nm := fun x u => Lw.num x u
  clear hT
  go_enter Tryd.func4, Tryd.ntmps4
  go_upto_block 0 with (go_at_call 12; refine (aw _ HT.out).mono ?_; rintro e w1 ⟨rfl, b1⟩; have HB1 := Lib.hid b1; clear b1 aw)
  go_cut [5, 7] from 17 to 37 (fun sv iv wx => ∃ A : ByteArray, sv = .string A ∧ Hid (A.data.toList = Lf.keep (· != 123) 2000 s.data.toList) ∧ wx = w1)
  case first =>
    go_wp2_with fail
    go_loopw [5, 7] (fun sv iv wx => ∃ (A : ByteArray) (i : Nat), sv = .string A ∧ iv = .int .i64 (i : Int) ∧ i ≤ s.size ∧ i ≤ 2000 ∧ A.size ≤ i ∧ Hid (A.data.toList = Lf.keep (· != 123) i s.data.toList) ∧ wx = w1) (fun _ iv _ => s.size - (intOf iv).toNat)
    case atStart => exact ⟨⟨#[]⟩, 0, rfl, rfl, Nat.zero_le _, by decide, Nat.le_refl _, rfl, rfl⟩
    case round =>
      obtain ⟨A, i, rfl, rfl, hi, hi2, zA, HA, hw⟩ := hrel
      have hw := hw.symm
      subst hw
      by_cases hlt : i < s.size
      · have d1 : decide ((i : Int) < (s.size : Int)) = true := decide_eq_true (by omega)
        by_cases h2k : i < 2000
        · have d2 : decide ((i : Int) < 2000) = true := decide_eq_true (by omega)
          have d2n : decide (i < 2000) = true := decide_eq_true h2k
          have HK := Lib.hid (Lf.keep_step (f := (· != 123)) hlt)
          by_cases hc : s[i] = 123
          · have t1 : ((s[i].toNat : Int) == 123) = true := Tp.eq_true (d := 123) hc
            have HA2 : Hid (A.data.toList = Lf.keep (· != 123) (i + 1) s.data.toList) := by unfold Hid; rw [HK.out, if_neg (by rw [hc]; decide), List.append_nil, HA.out]
            clear hc HA HK
            go_wp2_with fail
            go_roundw
            case rel => exact ⟨A, i + 1, rfl, by go_num, by omega, by omega, by omega, HA2, by first | rfl | trivial⟩
            case measure => simp [intOf]; omega
          · have t1 : ((s[i].toNat : Int) == 123) = false := Tp.eq_false (d := 123) hc
            obtain ⟨q, hcut, hq, zq⟩ := Lf.cut1 s i hlt
            have HA2 : Hid ((A ++ q).data.toList = Lf.keep (· != 123) (i + 1) s.data.toList) := by unfold Hid; rw [HK.out, if_pos (by simpa using hc), Lf.append, HA.out, hq]
            have zAq : (A ++ q).size = A.size + 1 := by rw [ByteArray.size_append, zq]
            clear hc HA HK hq
            go_wp2_with fail
            go_roundw
            case rel => exact ⟨A ++ q, i + 1, rfl, by go_num, by omega, by omega, by omega, HA2, by first | rfl | trivial⟩
            case measure => simp [intOf]; omega
        · have d2 : decide ((i : Int) < 2000) = false := decide_eq_false (by omega)
          have d2n : decide (i < 2000) = false := decide_eq_false h2k
          have e : i = 2000 := by omega
          have HA2 : Hid (A.data.toList = Lf.keep (· != 123) 2000 s.data.toList) := by unfold Hid; rw [HA.out, e]
          clear HA e
          go_wp2_with fail
          go_meet
          case rel => exact ⟨A, rfl, HA2, by first | rfl | trivial⟩
      · have d1 : decide ((i : Int) < (s.size : Int)) = false := decide_eq_false (by omega)
        have HA2 : Hid (A.data.toList = Lf.keep (· != 123) 2000 s.data.toList) := by unfold Hid; rw [HA.out]; exact Lf.keep_end (by omega) hi2
        clear HA
        go_wp2_with fail
        go_meet
        case rel => exact ⟨A, rfl, HA2, by first | rfl | trivial⟩
  case rest =>
    obtain ⟨A, rfl, HA, hw⟩ := hcut
    have hw := hw.symm
    subst hw
    go_upto_block 2 with fail
    go_cut [6, 8] from 38 to 58 (fun sv iv wx => ∃ C : ByteArray, sv = .string C ∧ Hid (C.data.toList = Lf.keep (· != 42) 200 t.data.toList) ∧ wx = w1)
    case first =>
      go_wp2_with fail
      go_loopw [6, 8] (fun sv iv wx => ∃ (C : ByteArray) (i : Nat), sv = .string C ∧ iv = .int .i64 (i : Int) ∧ i ≤ t.size ∧ i ≤ 200 ∧ C.size ≤ i ∧ Hid (C.data.toList = Lf.keep (· != 42) i t.data.toList) ∧ wx = w1) (fun _ iv _ => t.size - (intOf iv).toNat)
      case atStart => exact ⟨⟨#[]⟩, 0, rfl, rfl, Nat.zero_le _, by decide, Nat.le_refl _, rfl, rfl⟩
      case round =>
        obtain ⟨C, i, rfl, rfl, hi, hi2, zA, HA, hw⟩ := hrel
        have hw := hw.symm
        subst hw
        by_cases hlt : i < t.size
        · have d1 : decide ((i : Int) < (t.size : Int)) = true := decide_eq_true (by omega)
          by_cases h2k : i < 200
          · have d2 : decide ((i : Int) < 200) = true := decide_eq_true (by omega)
            have d2n : decide (i < 200) = true := decide_eq_true h2k
            have HK := Lib.hid (Lf.keep_step (f := (· != 42)) hlt)
            by_cases hc : t[i] = 42
            · have t1 : ((t[i].toNat : Int) == 42) = true := Tp.eq_true (d := 42) hc
              have HA2 : Hid (C.data.toList = Lf.keep (· != 42) (i + 1) t.data.toList) := by unfold Hid; rw [HK.out, if_neg (by rw [hc]; decide), List.append_nil, HA.out]
              clear hc HA HK
              go_wp2_with fail
              go_roundw
              case rel => exact ⟨C, i + 1, rfl, by go_num, by omega, by omega, by omega, HA2, by first | rfl | trivial⟩
              case measure => simp [intOf]; omega
            · have t1 : ((t[i].toNat : Int) == 42) = false := Tp.eq_false (d := 42) hc
              obtain ⟨q, hcut, hq, zq⟩ := Lf.cut1 t i hlt
              have HA2 : Hid ((C ++ q).data.toList = Lf.keep (· != 42) (i + 1) t.data.toList) := by unfold Hid; rw [HK.out, if_pos (by simpa using hc), Lf.append, HA.out, hq]
              have zAq : (C ++ q).size = C.size + 1 := by rw [ByteArray.size_append, zq]
              clear hc HA HK hq
              go_wp2_with fail
              go_roundw
              case rel => exact ⟨C ++ q, i + 1, rfl, by go_num, by omega, by omega, by omega, HA2, by first | rfl | trivial⟩
              case measure => simp [intOf]; omega
          · have d2 : decide ((i : Int) < 200) = false := decide_eq_false (by omega)
            have d2n : decide (i < 200) = false := decide_eq_false h2k
            have e : i = 200 := by omega
            have HA2 : Hid (C.data.toList = Lf.keep (· != 42) 200 t.data.toList) := by unfold Hid; rw [HA.out, e]
            clear HA e
            go_wp2_with fail
            go_meet
            case rel => exact ⟨C, rfl, HA2, by first | rfl | trivial⟩
        · have d1 : decide ((i : Int) < (t.size : Int)) = false := decide_eq_false (by omega)
          have HA2 : Hid (C.data.toList = Lf.keep (· != 42) 200 t.data.toList) := by unfold Hid; rw [HA.out]; exact Lf.keep_end (by omega) hi2
          clear HA
          go_wp2_with fail
          go_meet
          case rel => exact ⟨C, rfl, HA2, by first | rfl | trivial⟩
    case rest =>
      obtain ⟨C, rfl, HC, hw⟩ := hcut
      have hw := hw.symm
      subst hw
      have zA : A.size ≤ 2000 := by rw [← Wk.len_data, HA.out]; exact Lf.keep_len _ _ _
      have zC : C.size ≤ 200 := by rw [← Wk.len_data, HC.out]; exact Lf.keep_len _ _ _
      obtain ⟨W, hW⟩ : ∃ W : ByteArray, W = ⟨(Rd.lines A.data.toList).toArray⟩ := ⟨_, rfl⟩
      have HW : Hid (W.data.toList = Rd.lines A.data.toList) := by unfold Hid; rw [hW]
      clear hW
      go_upto_block 4 with fail
      go_cut [9, 10] from 59 to 91 (fun sv _iv wx => sv = .string W ∧ wx = w1)
      case first =>
        clear HA HC
        go_wp2_with fail
        go_loopw [9, 10] (fun sv iv wx => ∃ (B : ByteArray) (i : Nat), sv = .string B ∧ iv = .int .i64 (i : Int) ∧ i ≤ A.size ∧ B.size ≤ i ∧ Hid (B.data.toList ++ Rd.lines (A.data.toList.drop i) = Rd.lines A.data.toList) ∧ wx = w1) (fun _ iv _ => A.size - (intOf iv).toNat)
        case atStart => exact ⟨⟨#[]⟩, 0, rfl, rfl, Nat.zero_le _, Nat.le_refl _, rfl, rfl⟩
        case round =>
          obtain ⟨B, i, rfl, rfl, hi, zB, HB, hw⟩ := hrel
          have hw := hw.symm
          subst hw
          by_cases hlt : i < A.size
          · have d1 : decide ((i : Int) < (A.size : Int)) = true := decide_eq_true (by omega)
            have HD := Lib.hid (Rl.drop A i hlt)
            by_cases h13 : A[i] = 13
            · have t13 : ((A[i].toNat : Int) == 13) = true := Tp.eq_true (d := 13) h13
              by_cases h1 : i + 1 < A.size
              · have d2 : decide ((A.size : Int) ≤ (i : Int) + 1) = false := decide_eq_false (by omega)
                have HD2 := Lib.hid (Rl.drop A (i + 1) h1)
                by_cases h10 : A[i + 1] = 10
                · have t10 : ((A[i + 1].toNat : Int) == 10) = true := Tp.eq_true (d := 10) h10
                  have HB2 : Hid (B.data.toList ++ Rd.lines (A.data.toList.drop (i + 1)) = Rd.lines A.data.toList) := by
                    unfold Hid
                    rw [← HB.out, HD.out, HD2.out, h13, h10, Rl.l13a, Rl.lother _ _ (by decide)]
                  clear h13 h10 HB HD HD2
                  go_wp2_with fail
                  go_roundw
                  case rel => exact ⟨B, i + 1, rfl, by go_num, by omega, by omega, HB2, by first | rfl | trivial⟩
                  case measure => simp [intOf]; omega
                · have t10 : ((A[i + 1].toNat : Int) == 10) = false := Tp.eq_false (d := 10) h10
                  have HB2 : Hid ((B ++ ⟨#[10]⟩).data.toList ++ Rd.lines (A.data.toList.drop (i + 1)) = Rd.lines A.data.toList) := by
                    unfold Hid
                    rw [← HB.out, HD.out, h13, Rl.l13b _ (by rw [HD2.out]; simp; exact h10), Lf.append]
                    simp
                  have zBq : (B ++ ⟨#[10]⟩).size = B.size + 1 := by rw [ByteArray.size_append]; rfl
                  clear h13 h10 HB HD HD2
                  go_wp2_with fail
                  go_roundw
                  case rel => exact ⟨B ++ ⟨#[10]⟩, i + 1, rfl, by go_num, by omega, by omega, HB2, by first | rfl | trivial⟩
                  case measure => simp [intOf]; omega
              · have d2 : decide ((A.size : Int) ≤ (i : Int) + 1) = true := decide_eq_true (by omega)
                have HB2 : Hid ((B ++ ⟨#[10]⟩).data.toList ++ Rd.lines (A.data.toList.drop (i + 1)) = Rd.lines A.data.toList) := by
                  unfold Hid
                  rw [← HB.out, HD.out, h13, Rl.l13b _ (by rw [Lx.drop_none (by omega)]; simp), Lf.append]
                  simp
                have zBq : (B ++ ⟨#[10]⟩).size = B.size + 1 := by rw [ByteArray.size_append]; rfl
                clear h13 HB HD
                go_wp2_with fail
                go_roundw
                case rel => exact ⟨B ++ ⟨#[10]⟩, i + 1, rfl, by go_num, by omega, by omega, HB2, by first | rfl | trivial⟩
                case measure => simp [intOf]; omega
            · have t13 : ((A[i].toNat : Int) == 13) = false := Tp.eq_false (d := 13) h13
              obtain ⟨q, hcut, hq, zq⟩ := Lf.cut1 A i hlt
              have HB2 : Hid ((B ++ q).data.toList ++ Rd.lines (A.data.toList.drop (i + 1)) = Rd.lines A.data.toList) := by
                unfold Hid
                rw [← HB.out, HD.out, Rl.lother _ _ h13, Lf.append, hq]
                simp
              have zBq : (B ++ q).size = B.size + 1 := by rw [ByteArray.size_append, zq]
              clear h13 HB HD hq
              go_wp2_with fail
              go_roundw
              case rel => exact ⟨B ++ q, i + 1, rfl, by go_num, by omega, by omega, HB2, by first | rfl | trivial⟩
              case measure => simp [intOf]; omega
          · have d1 : decide ((i : Int) < (A.size : Int)) = false := decide_eq_false (by omega)
            have hBW : B = W := by
              have h1 := HB.out
              rw [Lx.drop_none (by omega), ← HW.out] at h1
              exact WideShapes.bytes_inj (by simpa [Rd.lines] using h1)
            subst hBW
            clear HB HW
            go_wp2_with fail
            go_meet
            case rel => exact ⟨rfl, by first | rfl | trivial⟩
      case rest =>
        obtain ⟨rfl, hw⟩ := hcut
        have hw := hw.symm
        subst hw
        have c1 := fun u h => Lp.split A u h
        have c2 := fun u h => Lp.split (⟨#[123, 123, 47, 42]⟩ ++ C ++ ⟨#[42, 47, 125, 125]⟩) u h
        have e1 : Lx.split A = (Lx.one W.data.toList 0, 0) := by
          rw [HW.out]
          refine Lx.split_plain (fun c hc => ?_) (by omega)
          rw [HA.out] at hc
          simpa using Lf.keep_all c hc
        have z2 : (⟨#[123, 123, 47, 42]⟩ ++ C ++ ⟨#[42, 47, 125, 125]⟩ : ByteArray).size = C.size + 8 := by rw [ByteArray.size_append, ByteArray.size_append]; show 4 + C.size + 4 = _; omega
        have e2 : Lx.split (⟨#[123, 123, 47, 42]⟩ ++ C ++ ⟨#[42, 47, 125, 125]⟩) = ([], 0) := by
          refine Lx.split_comment (c := C.data.toList) ?_ (fun c hc => ?_) (by omega)
          · rw [Lf.append, Lf.append]
            simp
          · rw [HC.out] at hc
            simpa using Lf.keep_all c hc
        rw [e1] at c1
        rw [e2] at c2
        obtain ⟨bz, hbz⟩ : ∃ bz, W.toList.isEmpty = bz := ⟨_, rfl⟩
        have zC1 : (⟨#[123, 123, 47, 42]⟩ ++ C : ByteArray).size = C.size + 4 := by rw [ByteArray.size_append]; show 4 + C.size = _; omega
        clear e1 e2 HA HC HW
        cases bz with
        | true =>
          have hW0 : W.data.toList = [] := by rw [← ByteArray.toList_eq]; exact List.isEmpty_iff.1 hbz
          have n0 : W.toList = [] := List.isEmpty_iff.1 hbz
          rw [hW0] at c1
          clear hW0
          go_wp2_with (first | (go_at_call 8; refine (c1 _ (HT.out.on HB1.out)).mono ?_; rintro e w2 ⟨v2, rfl, l2, b2⟩; obtain ⟨a2, q2, rfl, -, -, -⟩ := l2; have HB2 := Lib.hid (Wk.below_step HB1.out b2); clear b2 c1) | (go_at_call 8; refine (c2 _ (HT.out.on HB2.out)).mono ?_; rintro e w3 ⟨v3, rfl, l3, b3⟩; obtain ⟨a3, q3, rfl, -, -, -⟩ := l3; have HB3 := Lib.hid (Wk.below_step HB2.out b3); clear b3 c2) | (go_at_call 11; refine (nm _ _).mono ?_; rintro e w' ⟨rfl, hw⟩; have hw := hw.symm; subst hw))
          go_ret
          exact ⟨rfl, HB3.out⟩
        | false =>
          have n0 : ¬ W.toList = [] := List.isEmpty_eq_false_iff.1 hbz
          have hW0 : Lx.one W.data.toList 0 = [⟨false, W.data.toList, 0⟩] := if_neg (by rw [← ByteArray.toList_eq]; exact n0)
          rw [hW0] at c1
          clear hW0
          go_wp2_with (first | (go_at_call 8; refine (c1 _ (HT.out.on HB1.out)).mono ?_; rintro e w2 ⟨v2, rfl, l2, b2⟩; obtain ⟨a2, q2, rfl, zq2, -, x2⟩ := l2; obtain ⟨g2, o2, rfl, -, y0, y1, y2⟩ := x2 0 _ rfl; replace y0 : w2.cell? ⟨g2, o2, none⟩ = some (.bool false) := y0; replace y1 : w2.cell? ⟨g2, o2 + 1, none⟩ = some (.string W) := y1; replace y2 : w2.cell? ⟨g2, o2 + 2, none⟩ = some (.int .i64 0) := y2; have HB2 := Lib.hid (Wk.below_step HB1.out b2); clear b2 c1 x2) | (go_at_call 8; refine (c2 _ (HT.out.on HB2.out)).mono ?_; rintro e w3 ⟨v3, rfl, l3, b3⟩; obtain ⟨a3, q3, rfl, -, -, -⟩ := l3; have z0 := Tp.keep b3 y0; have z1 := Tp.keep b3 y1; have z2' := Tp.keep b3 y2; have HB3 := Lib.hid (Wk.below_step HB2.out b3); clear b3 c2 y0 y1 y2) | (go_at_call 11; refine (nm _ _).mono ?_; rintro e w' ⟨rfl, hw⟩; have hw := hw.symm; subst hw))
          go_ret
          exact ⟨rfl, HB3.out⟩
end Go.Proofs.YtfcmcmokmhklhaaDoor
