/-
  THE WALK of the reference's cursor.name.
-/
import Derived.Test.YtnophkbbeipaaaaOCur
namespace Go.Proofs.Ytnophkbbeipaaaa
open Go.RowKit
theorem Wx.nend_step {s : ByteArray} {i : Nat} (f : Bool) (h : i < s.size) : Wx.nend f i (s.data.toList.drop i) = if Wx.sign f s[i] = true then Wx.nend false (i + 1) (s.data.toList.drop (i + 1)) else i := by
  rw [Rl.drop s i h]
  rfl
theorem Wx.drop_none {s : ByteArray} {i : Nat} (h : s.size ≤ i) : s.data.toList.drop i = [] := List.drop_of_length_le (by rw [Wk.len_data]; exact h)
theorem Wx.nend_end {s : ByteArray} {i : Nat} (f : Bool) (h : s.size ≤ i) : Wx.nend f i (s.data.toList.drop i) = i := by
  rw [Wx.drop_none h]
  rfl
theorem Wx.nend_ge : ∀ (l : List UInt8) (f : Bool) (i : Nat), i ≤ Wx.nend f i l ∧ Wx.nend f i l ≤ i + l.length := by
  intro l
  induction l with
  | nil => intro f i; exact ⟨Nat.le_refl _, Nat.le_refl _⟩
  | cons a l ih =>
    intro f i
    unfold Wx.nend
    split
    · have := ih false (i + 1)
      simp only [List.length_cons]
      omega
    · exact ⟨Nat.le_refl _, Nat.le_add_right _ _⟩
set_option maxRecDepth 100000 in
set_option maxHeartbeats 4000000 in
theorem Cu.name (s : ByteArray) (i g : Nat) (w : World) (h : Cu.At w g s i 0) (hi : i ≤ s.size) (hs : s.size ≤ 4611686018427387904) :
    Calls Try.prog 29 #[.pointer (some ⟨g, 0, none⟩)] w fun e w' => ∃ (t : ByteArray) (j : Nat) (x : Int), e = .returned (.string t) ∧ i ≤ j ∧ j ≤ s.size ∧ Cu.At w' g s j x ∧ Cu.Kept w w' g ∧ ((x = 0 ∧ Wx.name s.data.toList i = some (t.data.toList, j)) ∨ (x = 1400 ∧ Wx.name s.data.toList i = none)) := by
  have b1 := h.c1
  have H := Lib.hid h
  clear h
  go_enter Try.func29, Try.ntmps29
  go_wp2_with fail
  go_loopw [] (fun wr => ∃ j : Nat, i ≤ j ∧ j ≤ s.size ∧ Hid (Cu.At wr g s j 0) ∧ Hid (Cu.Kept w wr g) ∧ Hid (Wx.nend true i (s.data.toList.drop i) = Wx.nend (decide (j = i)) j (s.data.toList.drop j))) (fun wr => s.size - (intOf ((wr.cell? ⟨g, 1, none⟩).getD undef)).toNat)
  case atStart => exact ⟨i, Nat.le_refl _, hi, H, Cu.Kept.refl _ _, by unfold Hid; rw [decide_eq_true rfl]⟩
  case round =>
    clear H b1
    obtain ⟨j, hij, hj, HA, HK, HN⟩ := hrel
    have c0 := HA.out.c0
    have c1 := HA.out.c1
    have c2 := HA.out.c2
    have f := HA.out.fz
    obtain ⟨B, hB⟩ : ∃ B, (if h : j < s.size then Wx.sign (decide (j = i)) s[j] else false) = B := ⟨_, rfl⟩
    have HBB := Lib.hid hB
    clear hB
    go_upto_region 2 with fail
    go_cut [61] from 8 to 68 (fun cv wx => cv = .bool B ∧ ∃ n, wx = wr.drewN n)
    case first =>
      have hB := HBB.out
      clear HBB HN HK HA
      by_cases hlt : j < s.size
      · have d1 : decide ((j : Int) < (s.size : Int)) = true := decide_eq_true (by omega)
        rw [dif_pos hlt] at hB
        unfold Wx.sign at hB
        have let1 := fun u => Rt.letter s[j] u
        have dig1 := fun u => Rt.digit s[j] u
        generalize Pl.letter s[j] = bl at *
        generalize Pl.digit s[j] = bd at *
        cases bl with
        | true =>
          have hB2 : true = B := hB
          subst hB2
          clear hB
          go_quiet (first | (go_at_call 35; exact Calls.quiet_of_same (let1 _)) | (go_at_call 26; exact Calls.quiet_of_same (dig1 _)))
          go_wp2
          go_meet
          exact ⟨rfl, _, rfl⟩
        | false =>
          by_cases h95 : s[j] = 95
          · have t95 : ((s[j].toNat : Int) == 95) = true := Tp.eq_true (d := 95) h95
            have hB2 : true = B := by rw [← hB, h95]; rfl
            subst hB2
            clear hB h95
            go_quiet (first | (go_at_call 35; exact Calls.quiet_of_same (let1 _)) | (go_at_call 26; exact Calls.quiet_of_same (dig1 _)))
            go_wp2
            go_meet
            exact ⟨rfl, _, rfl⟩
          · have t95 : ((s[j].toNat : Int) == 95) = false := Tp.eq_false (d := 95) h95
            rw [beq_eq_false_iff_ne.2 h95] at hB
            by_cases hji : j = i
            · have d2 : decide ((i : Int) < (j : Int)) = false := decide_eq_false (by omega)
              have d2n : decide (i < j) = false := decide_eq_false (by omega)
              have hB2 : false = B := by rw [← hB, decide_eq_true hji]; rfl
              subst hB2
              clear hB h95 hji
              go_quiet (first | (go_at_call 35; exact Calls.quiet_of_same (let1 _)) | (go_at_call 26; exact Calls.quiet_of_same (dig1 _)))
              go_wp2
              go_meet
              exact ⟨rfl, _, rfl⟩
            · have d2 : decide ((i : Int) < (j : Int)) = true := decide_eq_true (by omega)
              have d2n : decide (i < j) = true := decide_eq_true (by omega)
              have hB2 : bd = B := by rw [← hB, decide_eq_false hji]; cases bd <;> rfl
              subst hB2
              clear hB h95 hji
              cases bd
              · go_quiet (first | (go_at_call 35; exact Calls.quiet_of_same (let1 _)) | (go_at_call 26; exact Calls.quiet_of_same (dig1 _)))
                go_wp2
                go_meet
                exact ⟨rfl, _, rfl⟩
              · go_quiet (first | (go_at_call 35; exact Calls.quiet_of_same (let1 _)) | (go_at_call 26; exact Calls.quiet_of_same (dig1 _)))
                go_wp2
                go_meet
                exact ⟨rfl, _, rfl⟩
      · have d1 : decide ((j : Int) < (s.size : Int)) = false := decide_eq_false (by omega)
        rw [dif_neg hlt] at hB
        subst hB
        go_quiet (fail)
        go_wp2
        go_meet
        exact ⟨rfl, _, rfl⟩
    case rest =>
      obtain ⟨rfl, n, hw⟩ := hcut
      have HA2 := Lib.hid (HA.out.drewN n)
      have HK2 := Lib.hid (HK.out.drewN n)
      rw [← hw] at HA2 HK2
      have HM : Hid ((intOf ((wr.cell? ⟨g, 1, none⟩).getD undef)).toNat = j) := by unfold Hid; rw [c1]; rfl
      clear hw c0 c1 c2 f HA HK
      have c0 := HA2.out.c0
      have c1 := HA2.out.c1
      have c2 := HA2.out.c2
      have f := HA2.out.fz
      cases B with
      | true =>
        have hlt : j < s.size := by
          by_cases q : j < s.size
          · exact q
          · have := HBB.out
            rw [dif_neg q] at this
            cases this
        have HN2 : Hid (Wx.nend true i (s.data.toList.drop i) = Wx.nend (decide (j + 1 = i)) (j + 1) (s.data.toList.drop (j + 1))) := by
          have h1 := HBB.out
          rw [dif_pos hlt] at h1
          unfold Hid
          rw [HN.out, Wx.nend_step _ hlt, if_pos h1, decide_eq_false (by omega)]
        have HA3 := Lib.hid (HA2.out.set1 (j + 1))
        have HK3 := Lib.hid (HK2.out.set 1 (.int .i64 ((j + 1 : Nat) : Int)))
        rw [show ((j + 1 : Nat) : Int) = (j : Int) + 1 by omega] at HA3 HK3
        clear HBB HN
        go_wp2_with fail
        go_roundw
        case rel => exact ⟨j + 1, by omega, by omega, HA3, HK3, HN2⟩
        case measure => rw [HM.out, HA3.out.c1]; simp [intOf]; omega
      | false =>
        have HE : Hid (Wx.nend true i (s.data.toList.drop i) = j) := by
          have h1 := HBB.out
          unfold Hid
          rw [HN.out]
          by_cases q : j < s.size
          · rw [dif_pos q] at h1
            rw [Wx.nend_step _ q, if_neg (by rw [h1]; decide)]
          · rw [Wx.nend_end _ (by omega)]
        have hcutT : ∀ u : World, (Instr.slice 9 (.string s) (some (.int .i64 (i : Int))) (some (.int .i64 (j : Int))) none).run Try.prog u = .ok (.string (s.extract i j)) u := fun u => by
          have h := Wk.run_cut u s (i : Int) (j : Int) (by omega) (by omega) (by omega)
          rw [Int.toNat_natCast, Int.toNat_natCast] at h
          exact h
        have HTD : Hid ((s.extract i j).data.toList = (s.data.toList.drop i).take (j - i)) := Lib.extract_data s i j
        generalize s.extract i j = T at *
        clear HBB HN HM
        by_cases hji : j = i ∨ 32 < j - i
        · have HR : Hid (Wx.name s.data.toList i = none) := by
            unfold Hid Wx.name
            simp only [HE.out]
            rw [if_pos hji]
          have fl := fun u q => Cu.fail 1400 g s j u q
          clear HE HTD
          rcases hji with hji | hji
          · have e1 : ((j : Int) == (i : Int)) = true := beq_iff_eq.2 (by omega)
            clear hji
            go_wp2_with (go_at_call 18; refine (fl _ HA2.out).mono ?_; rintro e w5 ⟨rfl, a5, k5⟩; have HA5 := Lib.hid a5; have HK5 := Lib.hid (HK2.out.trans k5); clear a5 k5 fl c0 c1 c2 f; have c0 := HA5.out.c0; have c1 := HA5.out.c1)
            go_quiet (fail)
            go_wp2
            go_ret
            exact ⟨T, j, 1400, rfl, hij, hj, HA5.out.drewN _, HK5.out.drewN _, .inr ⟨rfl, HR.out⟩⟩
          · have e1 : ((j : Int) == (i : Int)) = false := beq_eq_false_iff_ne.2 (by omega)
            have d3 : decide ((32 : Int) < (j : Int) - (i : Int)) = true := decide_eq_true (by omega)
            clear hji
            go_wp2_with (go_at_call 18; refine (fl _ HA2.out).mono ?_; rintro e w5 ⟨rfl, a5, k5⟩; have HA5 := Lib.hid a5; have HK5 := Lib.hid (HK2.out.trans k5); clear a5 k5 fl c0 c1 c2 f; have c0 := HA5.out.c0; have c1 := HA5.out.c1)
            go_quiet (fail)
            go_wp2
            go_ret
            exact ⟨T, j, 1400, rfl, hij, hj, HA5.out.drewN _, HK5.out.drewN _, .inr ⟨rfl, HR.out⟩⟩
        · have HR : Hid (Wx.name s.data.toList i = some (T.data.toList, j)) := by
            unfold Hid Wx.name
            simp only [HE.out]
            rw [if_neg hji, HTD.out]
          have e1 : ((j : Int) == (i : Int)) = false := beq_eq_false_iff_ne.2 (by omega)
          have d3 : decide ((32 : Int) < (j : Int) - (i : Int)) = false := decide_eq_false (by omega)
          clear HE HTD hji
          go_wp2_with fail
          go_quiet (fail)
          go_wp2
          go_ret
          exact ⟨T, j, 0, rfl, hij, hj, HA2.out.drewN _, HK2.out.drewN _, .inl ⟨rfl, HR.out⟩⟩
end Go.Proofs.Ytnophkbbeipaaaa
