/-
  THE WALK of the reference's cursor.name.
-/
import Derived.Test.YtjppobeomocgbaaGreatDoorTIParsetoOCur
namespace Go.Proofs.YtjppobeomocgbaaGreatDoor
open Go.RowKit
theorem Wx.nend_step {s : ByteArray} {i : Nat} (f : Bool) (h : i < s.size) : Wx.nend f i (s.data.toList.drop i) = if Wx.sign f s[i] = true then Wx.nend false (i + 1) (s.data.toList.drop (i + 1)) else i := by
  rw [Rl.drop s i h]
  rfl
theorem Wx.drop_none {s : ByteArray} {i : Nat} (h : s.size ≤ i) : s.data.toList.drop i = [] := List.drop_of_length_le (by rw [Wk.len_data]; exact h)
theorem Wx.nend_end {s : ByteArray} {i : Nat} (f : Bool) (h : s.size ≤ i) : Wx.nend f i (s.data.toList.drop i) = i := by
  rw [Wx.drop_none h]
  rfl
theorem Wx.nend_ge : ∀ (l : List UInt8) (f : Bool) (i : Nat), i ≤ Wx.nend f i l ∧ Wx.nend f i l ≤ i + l.length := by
  intro l
  induction l with
  | nil => intro f i; exact ⟨Nat.le_refl _, Nat.le_refl _⟩
  | cons a l ih =>
    intro f i
    unfold Wx.nend
    split
    · have := ih false (i + 1)
      simp only [List.length_cons]
      omega
    · exact ⟨Nat.le_refl _, Nat.le_add_right _ _⟩
set_option maxRecDepth 100000 in
set_option maxHeartbeats 4000000 in
theorem Cu.name (s : ByteArray) (i g : Nat) (w : World) (h : Cu.At w g s i 0) (hi : i ≤ s.size) (hs : s.size ≤ 4611686018427387904) :
    Calls Tryz.prog 93 #[.pointer (some ⟨g, 0, none⟩)] w fun e w' => ∃ (t : ByteArray) (j : Nat) (x : Int), e = .returned (.string t) ∧ i ≤ j ∧ j ≤ s.size ∧ Cu.At w' g s j x ∧ Cu.Kept w w' g ∧ ((x = 0 ∧ Wx.name s.data.toList i = some (t.data.toList, j)) ∨ (x = 1400 ∧ Wx.name s.data.toList i = none)) := by
  have b1 := h.c1
  have H := Lib.hid h
  clear h
  go_enter Tryz.func93, Tryz.ntmps93
  go_wp2_with fail
  go_loopw [] (fun wr => ∃ j : Nat, i ≤ j ∧ j ≤ s.size ∧ Hid (Cu.At wr g s j 0) ∧ Hid (Cu.Kept w wr g) ∧ Hid (Wx.nend true i (s.data.toList.drop i) = Wx.nend (decide (j = i)) j (s.data.toList.drop j))) (fun wr => s.size - (intOf ((wr.cell? ⟨g, 1, none⟩).getD undef)).toNat)
  case atStart => exact ⟨i, Nat.le_refl _, hi, H, Cu.Kept.refl _ _, by unfold Hid; rw [decide_eq_true rfl]⟩
  case round =>
    clear H b1
    obtain ⟨j, hij, hj, HA, HK, HN⟩ := hrel
    have c0 := HA.out.c0
    have c1 := HA.out.c1
    have c2 := HA.out.c2
    have f := HA.out.fz
    obtain ⟨B, hB⟩ : ∃ B, (if h : j < s.size then Wx.sign (decide (j = i)) s[j] else false) = B := ⟨_, rfl⟩
    have HBB := Lib.hid hB
    clear hB
    go_upto_region 2 with fail
    go_cut [61] from 8 to 68 (fun cv wx => cv = .bool B ∧ ∃ n, wx = wr.drewN n)
    case first =>
      have hB := HBB.out
      clear HBB HN HK HA
      by_cases hlt : j < s.size
      · have d1 : decide ((j : Int) < (s.size : Int)) = true := decide_eq_true (by omega)
        rw [dif_pos hlt] at hB
        unfold Wx.sign at hB
        have let1 := fun u => Rt.letter s[j] u
        have dig1 := fun u => Rt.digit s[j] u
        generalize Pl.letter s[j] = bl at *
        generalize Pl.digit s[j] = bd at *
        cases bl with
        | true =>
          have hB2 : true = B := hB
          subst hB2
          clear hB
          go_quiet (first | (go_at_call 119; exact Calls.quiet_of_same (let1 _)) | (go_at_call 90; exact Calls.quiet_of_same (dig1 _)))
          go_wp2
          go_meet
          exact ⟨rfl, _, rfl⟩
        | false =>
          by_cases h95 : s[j] = 95
          · have t95 : ((s[j].toNat : Int) == 95) = true := Tp.eq_true (d := 95) h95
            have hB2 : true = B := by rw [← hB, h95]; rfl
            subst hB2
            clear hB h95
            go_quiet (first | (go_at_call 119; exact Calls.quiet_of_same (let1 _)) | (go_at_call 90; exact Calls.quiet_of_same (dig1 _)))
            go_wp2
            go_meet
            exact ⟨rfl, _, rfl⟩
          · have t95 : ((s[j].toNat : Int) == 95) = false := Tp.eq_false (d := 95) h95
            rw [beq_eq_false_iff_ne.2 h95] at hB
            by_cases hji : j = i
            · have d2 : decide ((i : Int) < (j : Int)) = false := decide_eq_false (by omega)
              have d2n : decide (i < j) = false := decide_eq_false (by omega)
              have hB2 : false = B := by rw [← hB, decide_eq_true hji]; rfl
              subst hB2
              clear hB h95 hji
              go_quiet (first | (go_at_call 119; exact Calls.quiet_of_same (let1 _)) | (go_at_call 90; exact Calls.quiet_of_same (dig1 _)))
              go_wp2
              go_meet
              exact ⟨rfl, _, rfl⟩
            · have d2 : decide ((i : Int) < (j : Int)) = true := decide_eq_true (by omega)
              have d2n : decide (i < j) = true := decide_eq_true (by omega)
              have hB2 : bd = B := by rw [← hB, decide_eq_false hji]; cases bd <;> rfl
              subst hB2
              clear hB h95 hji
              cases bd
              · go_quiet (first | (go_at_call 119; exact Calls.quiet_of_same (let1 _)) | (go_at_call 90; exact Calls.quiet_of_same (dig1 _)))
                go_wp2
                go_meet
                exact ⟨rfl, _, rfl⟩
              · go_quiet (first | (go_at_call 119; exact Calls.quiet_of_same (let1 _)) | (go_at_call 90; exact Calls.quiet_of_same (dig1 _)))
                go_wp2
                go_meet
                exact ⟨rfl, _, rfl⟩
      · have d1 : decide ((j : Int) < (s.size : Int)) = false := decide_eq_false (by omega)
        rw [dif_neg hlt] at hB
        subst hB
        go_quiet (fail)
        go_wp2
        go_meet
        exact ⟨rfl, _, rfl⟩
    case rest =>
      obtain ⟨rfl, n, hw⟩ := hcut
      have HA2 := Lib.hid (HA.out.drewN n)
      have HK2 := Lib.hid (HK.out.drewN n)
      rw [← hw] at HA2 HK2
      have HM : Hid ((intOf ((wr.cell? ⟨g, 1, none⟩).getD undef)).toNat = j) := by unfold Hid; rw [c1]; rfl
      clear hw c0 c1 c2 f HA HK
      have c0 := HA2.out.c0
      have c1 := HA2.out.c1
      have c2 := HA2.out.c2
      have f := HA2.out.fz
      cases B with
      | true =>
        have hlt : j < s.size := by
          by_cases q : j < s.size
          · exact q
          · have := HBB.out
            rw [dif_neg q] at this
            cases this
        have HN2 : Hid (Wx.nend true i (s.data.toList.drop i) = Wx.nend (decide (j + 1 = i)) (j + 1) (s.data.toList.drop (j + 1))) := by
          have h1 := HBB.out
          rw [dif_pos hlt] at h1
          unfold Hid
          rw [HN.out, Wx.nend_step _ hlt, if_pos h1, decide_eq_false (by omega)]
        have HA3 := Lib.hid (HA2.out.set1 (j + 1))
        have HK3 := Lib.hid (HK2.out.set 1 (.int .i64 ((j + 1 : Nat) : Int)))
        rw [show ((j + 1 : Nat) : Int) = (j : Int) + 1 by omega] at HA3 HK3
        clear HBB HN
        go_wp2_with fail
        go_roundw
        case rel => exact ⟨j + 1, by omega, by omega, HA3, HK3, HN2⟩
        case measure => rw [HM.out, HA3.out.c1]; simp [intOf]; omega
      | false =>
        have HE : Hid (Wx.nend true i (s.data.toList.drop i) = j) := by
          have h1 := HBB.out
          unfold Hid
          rw [HN.out]
          by_cases q : j < s.size
          · rw [dif_pos q] at h1
            rw [Wx.nend_step _ q, if_neg (by rw [h1]; decide)]
          · rw [Wx.nend_end _ (by omega)]
        have hcutT : ∀ u : World, (Instr.slice 9 (.string s) (some (.int .i64 (i : Int))) (some (.int .i64 (j : Int))) none).run Tryz.prog u = .ok (.string (s.extract i j)) u := fun u => by
          have h := Wk.run_cut u s (i : Int) (j : Int) (by omega) (by omega) (by omega)
          rw [Int.toNat_natCast, Int.toNat_natCast] at h
          exact h
        have HTD : Hid ((s.extract i j).data.toList = (s.data.toList.drop i).take (j - i)) := Lib.extract_data s i j
        generalize s.extract i j = T at *
        clear HBB HN HM
        by_cases hji : j = i ∨ 32 < j - i
        · have HR : Hid (Wx.name s.data.toList i = none) := by
            unfold Hid Wx.name
            simp only [HE.out]
            rw [if_pos hji]
          have fl := fun u q => Cu.fail 1400 g s j u q
          clear HE HTD
          rcases hji with hji | hji
          · have e1 : ((j : Int) == (i : Int)) = true := beq_iff_eq.2 (by omega)
            clear hji
            go_wp2_with (go_at_call 61; refine (fl _ HA2.out).mono ?_; rintro e w5 ⟨rfl, a5, k5⟩; have HA5 := Lib.hid a5; have HK5 := Lib.hid (HK2.out.trans k5); clear a5 k5 fl c0 c1 c2 f; have c0 := HA5.out.c0; have c1 := HA5.out.c1)
            go_quiet (fail)
            go_wp2
            go_ret
            exact ⟨T, j, 1400, rfl, hij, hj, HA5.out.drewN _, HK5.out.drewN _, .inr ⟨rfl, HR.out⟩⟩
          · have e1 : ((j : Int) == (i : Int)) = false := beq_eq_false_iff_ne.2 (by omega)
            have d3 : decide ((32 : Int) < (j : Int) - (i : Int)) = true := decide_eq_true (by omega)
            clear hji
            go_wp2_with (go_at_call 61; refine (fl _ HA2.out).mono ?_; rintro e w5 ⟨rfl, a5, k5⟩; have HA5 := Lib.hid a5; have HK5 := Lib.hid (HK2.out.trans k5); clear a5 k5 fl c0 c1 c2 f; have c0 := HA5.out.c0; have c1 := HA5.out.c1)
            go_quiet (fail)
            go_wp2
            go_ret
            exact ⟨T, j, 1400, rfl, hij, hj, HA5.out.drewN _, HK5.out.drewN _, .inr ⟨rfl, HR.out⟩⟩
        · have HR : Hid (Wx.name s.data.toList i = some (T.data.toList, j)) := by
            unfold Hid Wx.name
            simp only [HE.out]
            rw [if_neg hji, HTD.out]
          have e1 : ((j : Int) == (i : Int)) = false := beq_eq_false_iff_ne.2 (by omega)
          have d3 : decide ((32 : Int) < (j : Int) - (i : Int)) = false := decide_eq_false (by omega)
          clear HE HTD hji
          go_wp2_with fail
          go_quiet (fail)
          go_wp2
          go_ret
          exact ⟨T, j, 0, rfl, hij, hj, HA2.out.drewN _, HK2.out.drewN _, .inl ⟨rfl, HR.out⟩⟩
end Go.Proofs.YtjppobeomocgbaaGreatDoor
/-
  THE WALK of the reference's cursor.int.
-/
namespace Go.Proofs.YtjppobeomocgbaaGreatDoor
open Go.RowKit
theorem Wx.digs_step {s : ByteArray} {i : Nat} (x : Nat) (h : i < s.size) : Wx.digs i (s.data.toList.drop i) x = if Pl.digit s[i] = true then Wx.digs (i + 1) (s.data.toList.drop (i + 1)) (if x ≤ 9007199254740991 then 10 * x + (s[i].toNat - 48) else x) else (x, i) := by
  rw [Rl.drop s i h]
  rfl
theorem Wx.digs_end {s : ByteArray} {i : Nat} (x : Nat) (h : s.size ≤ i) : Wx.digs i (s.data.toList.drop i) x = (x, i) := by
  rw [Wx.drop_none h]
  rfl
theorem Wx.get {s : ByteArray} {i : Nat} (h : i < s.size) : s.data.toList[i]? = some s[i] := by
  rw [List.getElem?_eq_getElem (by rw [Wk.len_data]; exact h)]
  simp [ByteArray.getElem_eq_getElem_data]
set_option maxRecDepth 100000 in
set_option maxHeartbeats 4000000 in
theorem Cu.int (s : ByteArray) (i g : Nat) (w : World) (h : Cu.At w g s i 0) (hi : i < s.size) (hs : s.size ≤ 4611686018427387904) :
    Calls Tryz.prog 91 #[.pointer (some ⟨g, 0, none⟩)] w fun e w' => ∃ (r : Int) (j : Nat) (x : Int), e = .returned (.int .i64 r) ∧ i ≤ j ∧ j ≤ s.size ∧ Cu.At w' g s j x ∧ Cu.Kept w w' g ∧ ((x = 0 ∧ Wx.int s.data.toList i = some (r, j)) ∨ (x = 1402 ∧ Wx.int s.data.toList i = none)) := by
  have c0 := h.c0
  have c1 := h.c1
  have f := h.fz
  obtain ⟨nb, t45⟩ : ∃ nb, ((s[i].toNat : Int) == 45) = nb := ⟨_, rfl⟩
  have HNB : Hid (decide (s.data.toList[i]? = some 45) = nb) := by
    unfold Hid
    rw [Wx.get hi, ← t45]
    by_cases q : s[i] = 45
    · rw [q]; rfl
    · rw [show ((s[i].toNat : Int) == 45) = false from Tp.eq_false (d := 45) q, decide_eq_false (fun z => q (Option.some.inj z))]
  obtain ⟨p, hp⟩ : ∃ p, (if nb = true then i + 1 else i) = p := ⟨_, rfl⟩
  have HP := Lib.hid hp
  have hpi : i ≤ p ∧ p ≤ s.size := by rw [← hp]; split <;> omega
  obtain ⟨hpi, hps⟩ := hpi
  have H := Lib.hid h
  clear h hp
  go_enter Tryz.func91, Tryz.ntmps91
  go_upto_region 1 with fail
  go_quiet (fail)
  go_upto_if 16 with fail
  go_cut [] from 6 to 27 (fun wx => Hid (Cu.At wx g s p 0) ∧ Hid (Cu.Kept w wx g))
  case first =>
    cases nb with
    | true =>
      have e1 : i + 1 = p := HP.out
      have HA3 := Lib.hid ((H.out.drewN nq).set1 (i + 1))
      have HK3 := Lib.hid (((Cu.Kept.refl w g).drewN nq).set 1 (.int .i64 ((i + 1 : Nat) : Int)))
      rw [show ((i + 1 : Nat) : Int) = (i : Int) + 1 by omega] at HA3 HK3
      clear HP HNB
      go_wp2_with fail
      go_meet
      case rel => exact ⟨by rw [← e1]; exact HA3, HK3⟩
    | false =>
      have e1 : i = p := HP.out
      clear HP HNB
      go_wp2_with fail
      go_meet
      case rel => exact ⟨by rw [← e1]; exact H.out.drewN nq, (Cu.Kept.refl w g).drewN nq⟩
  case rest =>
    clear c0 c1 f H
    obtain ⟨HA, HK⟩ := hcut
    have c1 := HA.out.c1
    go_wp2_with fail
    go_loopw [5] (fun xv wr => ∃ x j : Nat, p ≤ j ∧ j ≤ s.size ∧ xv = .int .i64 (x : Int) ∧ x ≤ 90071992547409919 ∧ Hid (Cu.At wr g s j 0) ∧ Hid (Cu.Kept w wr g) ∧ Hid (Wx.digs p (s.data.toList.drop p) 0 = Wx.digs j (s.data.toList.drop j) x)) (fun _ wr => s.size - (intOf ((wr.cell? ⟨g, 1, none⟩).getD undef)).toNat)
    case atStart => exact ⟨0, p, Nat.le_refl _, hps, rfl, by decide, HA, HK, rfl⟩
    case round =>
      clear HA HK c1
      obtain ⟨x, j, hij, hj, rfl, hx, HA, HK, HN⟩ := hrel
      have c0 := HA.out.c0
      have c1 := HA.out.c1
      have f := HA.out.fz
      have HM : Hid ((intOf ((wr.cell? ⟨g, 1, none⟩).getD undef)).toNat = j) := by unfold Hid; rw [c1]; rfl
      obtain ⟨B, hB⟩ : ∃ B, (if h : j < s.size then Pl.digit s[j] else false) = B := ⟨_, rfl⟩
      have HBB := Lib.hid hB
      clear hB
      go_upto_region 5 with fail
      go_cut [49] from 28 to 72 (fun cv wx => cv = .bool B ∧ ∃ n, wx = wr.drewN n)
      case first =>
        have hB := HBB.out
        clear HBB HN HK HA HM HNB HP
        by_cases hlt : j < s.size
        · have d1 : decide ((j : Int) < (s.size : Int)) = true := decide_eq_true (by omega)
          rw [dif_pos hlt] at hB
          have dig1 := fun u => Rt.digit s[j] u
          rw [hB] at dig1
          clear hB
          cases B
          · go_quiet ((go_at_call 90; exact Calls.quiet_of_same (dig1 _)))
            go_wp2
            go_meet
            exact ⟨rfl, _, rfl⟩
          · go_quiet ((go_at_call 90; exact Calls.quiet_of_same (dig1 _)))
            go_wp2
            go_meet
            exact ⟨rfl, _, rfl⟩
        · have d1 : decide ((j : Int) < (s.size : Int)) = false := decide_eq_false (by omega)
          rw [dif_neg hlt] at hB
          subst hB
          go_quiet (fail)
          go_wp2
          go_meet
          exact ⟨rfl, _, rfl⟩
      case rest =>
        obtain ⟨rfl, n, hw⟩ := hcut
        have HA2 := Lib.hid (HA.out.drewN n)
        have HK2 := Lib.hid (HK.out.drewN n)
        rw [← hw] at HA2 HK2
        clear hw c0 c1 f HA HK
        have c0 := HA2.out.c0
        have c1 := HA2.out.c1
        have c2 := HA2.out.c2
        have f := HA2.out.fz
        cases B with
        | true =>
          have hlt : j < s.size := by
            by_cases q : j < s.size
            · exact q
            · have := HBB.out
              rw [dif_neg q] at this
              cases this
          have hdg : 48 ≤ s[j].toNat ∧ s[j].toNat ≤ 57 := by
            have h1 := HBB.out
            rw [dif_pos hlt] at h1
            unfold Pl.digit at h1
            simpa using h1
          obtain ⟨hd1, hd2⟩ := hdg
          have HS := Lib.hid (HN.out.trans (Wx.digs_step x hlt))
          rw [if_pos (by have h1 := HBB.out; rw [dif_pos hlt] at h1; exact h1)] at HS
          clear HBB HN HNB HP
          by_cases hx9 : x ≤ 9007199254740991
          · have d1 : decide ((x : Int) ≤ 9007199254740991) = true := decide_eq_true (by omega)
            have d1n : decide (x ≤ 9007199254740991) = true := decide_eq_true hx9
            rw [if_pos hx9] at HS
            have e8 : IntKind.u8.wrap ((s[j].toNat : Int) - 48) = (s[j].toNat : Int) - 48 := by rw [IntKind.wrap_u8]; omega
            have HA3 := Lib.hid (fun m => (HA2.out.drewN m).set1 (j + 1))
            have HK3 := Lib.hid (fun m => (HK2.out.drewN m).set 1 (.int .i64 ((j + 1 : Nat) : Int)))
            rw [show ((j + 1 : Nat) : Int) = (j : Int) + 1 by omega] at HA3 HK3
            go_upto_region 7 with fail
            go_quiet (fail)
            go_wp2_with fail
            go_roundw
            case rel => exact ⟨10 * x + (s[j].toNat - 48), j + 1, by omega, by omega, by go_num, by omega, HA3.out _, HK3.out _, HS⟩
            case measure => rw [HM.out, (HA3.out _).c1]; simp [intOf]; omega
          · have d1 : decide ((x : Int) ≤ 9007199254740991) = false := decide_eq_false (by omega)
            have d1n : decide (x ≤ 9007199254740991) = false := decide_eq_false hx9
            rw [if_neg hx9] at HS
            have HA3 := Lib.hid (HA2.out.set1 (j + 1))
            have HK3 := Lib.hid (HK2.out.set 1 (.int .i64 ((j + 1 : Nat) : Int)))
            rw [show ((j + 1 : Nat) : Int) = (j : Int) + 1 by omega] at HA3 HK3
            go_wp2_with fail
            go_roundw
            case rel => exact ⟨x, j + 1, by omega, by omega, rfl, hx, HA3, HK3, HS⟩
            case measure => rw [HM.out, HA3.out.c1]; simp [intOf]; omega
        | false =>
          have HE : Hid (Wx.digs p (s.data.toList.drop p) 0 = (x, j)) := by
            have h1 := HBB.out
            unfold Hid
            rw [HN.out]
            by_cases q : j < s.size
            · rw [dif_pos q] at h1
              rw [Wx.digs_step _ q, if_neg (by rw [h1]; decide)]
            · rw [Wx.digs_end _ (by omega)]
          have HR : Hid (Wx.int s.data.toList i = if j = p ∨ 9007199254740991 < x then none else some (if nb = true then -(x : Int) else (x : Int), j)) := by
            unfold Hid Wx.int
            simp only [HNB.out, HP.out, HE.out]
          clear HBB HN HM HE HNB HP
          by_cases hjp : j = p
          · have e1 : ((j : Int) == (p : Int)) = true := beq_iff_eq.2 (by omega)
            have HRN : Hid (Wx.int s.data.toList i = none) := by unfold Hid; rw [HR.out, if_pos (.inl hjp)]
            have fl := fun u q => Cu.fail 1402 g s j u q
            clear HR hjp
            go_wp2_with (go_at_call 61; refine (fl _ HA2.out).mono ?_; rintro e w5 ⟨rfl, a5, k5⟩; have HA5 := Lib.hid a5; have HK5 := Lib.hid (HK2.out.trans k5); clear a5 k5 fl)
            go_ret
            exact ⟨0, j, 1402, rfl, by omega, hj, HA5.out, HK5.out, .inr ⟨rfl, HRN.out⟩⟩
          · have e1 : ((j : Int) == (p : Int)) = false := beq_eq_false_iff_ne.2 (by omega)
            by_cases hx9 : 9007199254740991 < x
            · have d1 : decide ((9007199254740991 : Int) < (x : Int)) = true := decide_eq_true (by omega)
              have d1n : decide (9007199254740991 < x) = true := decide_eq_true hx9
              have HRN : Hid (Wx.int s.data.toList i = none) := by unfold Hid; rw [HR.out, if_pos (.inr hx9)]
              have fl := fun u q => Cu.fail 1402 g s j u q
              clear HR hjp
              go_wp2_with (go_at_call 61; refine (fl _ HA2.out).mono ?_; rintro e w5 ⟨rfl, a5, k5⟩; have HA5 := Lib.hid a5; have HK5 := Lib.hid (HK2.out.trans k5); clear a5 k5 fl)
              go_ret
              exact ⟨0, j, 1402, rfl, by omega, hj, HA5.out, HK5.out, .inr ⟨rfl, HRN.out⟩⟩
            · have d1 : decide ((9007199254740991 : Int) < (x : Int)) = false := decide_eq_false (by omega)
              have d1n : decide (9007199254740991 < x) = false := decide_eq_false hx9
              rw [if_neg (by omega)] at HR
              clear hjp
              cases nb with
              | true =>
                go_wp2_with fail
                go_ret
                exact ⟨-(x : Int), rfl, j, by omega, hj, 0, HA2.out, HK2.out, .inl ⟨rfl, HR.out⟩⟩
              | false =>
                go_wp2_with fail
                go_ret
                exact ⟨(x : Int), j, 0, rfl, by omega, hj, HA2.out, HK2.out, .inl ⟨rfl, HR.out⟩⟩
end Go.Proofs.YtjppobeomocgbaaGreatDoor
