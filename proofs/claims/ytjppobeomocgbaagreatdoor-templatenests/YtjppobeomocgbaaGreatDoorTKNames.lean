/-
  THE WALKS of the landed names package: isDigit, MayHold, Is.
-/
import Derived.Test.YtjppobeomocgbaaGreatDoorTOPlaintoIArgMay
namespace Go.Proofs.YtjppobeomocgbaaGreatDoor
open Go.RowKit
theorem Kn.eq_dec (c d : UInt8) : ((c.toNat : Int) == (d.toNat : Int)) = (c == d) := by
  by_cases h : c = d
  · rw [h]; simp
  · rw [beq_eq_false_iff_ne.2 h, beq_eq_false_iff_ne]
    exact fun q => h (UInt8.toNat_inj.1 (by omega))
theorem Kn.isDigit (c : UInt8) (w : World) : Calls Tryz.prog 168 #[.int .u8 (c.toNat : Int)] w fun e w' => e = .returned (.bool (Pl.digit c)) ∧ w' = w := by
  unfold Pl.digit
  generalize c.toNat = m
  by_cases h1 : 48 ≤ m
  · by_cases h2 : m ≤ 57
    · rw [decide_eq_true h1, decide_eq_true h2]
      go_enter Tryz.func168, Tryz.ntmps168
      go_wp2
      go_ret
      exact ⟨by first | rfl | (simp; omega), rfl⟩
    · rw [decide_eq_true h1, decide_eq_false h2]
      go_enter Tryz.func168, Tryz.ntmps168
      go_wp2
      go_ret
      exact ⟨by first | rfl | (simp; omega), rfl⟩
  · rw [decide_eq_false h1]
    go_enter Tryz.func168, Tryz.ntmps168
    go_wp2
    go_ret
    exact ⟨by first | rfl | (simp; omega), rfl⟩
theorem Kn.all {p : UInt8 → Bool} (h : (List.range 256).all (fun n => p (UInt8.ofNat n)) = true) (c : UInt8) : p c = true := by
  have := List.all_eq_true.1 h c.toNat (List.mem_range.2 c.toNat_lt)
  simpa using this
theorem Kn.sign_is (c : UInt8) : Wx.sign false c = ((c == 95) || Pl.digit c || (decide (97 ≤ c.toNat) && decide (c.toNat ≤ 122)) || (decide (65 ≤ c.toNat) && decide (c.toNat ≤ 90))) :=
  beq_iff_eq.1 (Kn.all (p := fun c => Wx.sign false c == ((c == 95) || Pl.digit c || (decide (97 ≤ c.toNat) && decide (c.toNat ≤ 122)) || (decide (65 ≤ c.toNat) && decide (c.toNat ≤ 90)))) (by decide +kernel) c)
set_option maxHeartbeats 2000000 in
theorem Kn.isNameByte (c : UInt8) (w : World) : Calls Tryz.prog 157 #[.int .u8 (c.toNat : Int)] w fun e w' => e = .returned (.bool (Wx.sign false c)) ∧ w' = w := by
  have di := Kn.isDigit c
  rw [Kn.sign_is]
  have e95 : ((c.toNat : Int) == 95) = (c == 95) := Kn.eq_dec c 95
  have g1 : decide ((97 : Int) ≤ (c.toNat : Int)) = decide (97 ≤ c.toNat) := by congr 1; exact propext ⟨fun h => by omega, fun h => by omega⟩
  have g2 : decide ((c.toNat : Int) ≤ 122) = decide (c.toNat ≤ 122) := by congr 1; exact propext ⟨fun h => by omega, fun h => by omega⟩
  have g3 : decide ((65 : Int) ≤ (c.toNat : Int)) = decide (65 ≤ c.toNat) := by congr 1; exact propext ⟨fun h => by omega, fun h => by omega⟩
  have g4 : decide ((c.toNat : Int) ≤ 90) = decide (c.toNat ≤ 90) := by congr 1; exact propext ⟨fun h => by omega, fun h => by omega⟩
  generalize (c == 95) = b95 at *
  generalize Pl.digit c = bd at *
  generalize decide (97 ≤ c.toNat) = l1 at *
  generalize decide (c.toNat ≤ 122) = l2 at *
  generalize decide (65 ≤ c.toNat) = u1 at *
  generalize decide (c.toNat ≤ 90) = u2 at *
  generalize (c.toNat : Int) = m at *
  have tac : ∀ (b : Bool), b = b := fun _ => rfl
  clear tac
  cases b95
  · cases bd
    · cases l1
      · cases u1
        · go_enter Tryz.func157, Tryz.ntmps157
          go_wp2_with (go_at_call 168; refine (di _).mono ?_; rintro e w' ⟨rfl, hw⟩; have hw := hw.symm; subst hw)
          go_ret
          exact ⟨rfl, rfl⟩
        · cases u2 <;> (go_enter Tryz.func157, Tryz.ntmps157; go_wp2_with (go_at_call 168; refine (di _).mono ?_; rintro e w' ⟨rfl, hw⟩; have hw := hw.symm; subst hw); go_ret; exact ⟨rfl, rfl⟩)
      · cases l2
        · cases u1
          · go_enter Tryz.func157, Tryz.ntmps157
            go_wp2_with (go_at_call 168; refine (di _).mono ?_; rintro e w' ⟨rfl, hw⟩; have hw := hw.symm; subst hw)
            go_ret
            exact ⟨rfl, rfl⟩
          · cases u2 <;> (go_enter Tryz.func157, Tryz.ntmps157; go_wp2_with (go_at_call 168; refine (di _).mono ?_; rintro e w' ⟨rfl, hw⟩; have hw := hw.symm; subst hw); go_ret; exact ⟨rfl, rfl⟩)
        · go_enter Tryz.func157, Tryz.ntmps157
          go_wp2_with (go_at_call 168; refine (di _).mono ?_; rintro e w' ⟨rfl, hw⟩; have hw := hw.symm; subst hw)
          go_ret
          exact ⟨rfl, rfl⟩
    · go_enter Tryz.func157, Tryz.ntmps157
      go_wp2_with (go_at_call 168; refine (di _).mono ?_; rintro e w' ⟨rfl, hw⟩; have hw := hw.symm; subst hw)
      go_ret
      exact ⟨rfl, rfl⟩
  · go_enter Tryz.func157, Tryz.ntmps157
    go_wp2_with (go_at_call 168; refine (di _).mono ?_; rintro e w' ⟨rfl, hw⟩; have hw := hw.symm; subst hw)
    go_ret
    exact ⟨rfl, rfl⟩
theorem Kn.signs_all : ∀ l : List UInt8, Wx.signs false l = l.all (Wx.sign false) := by
  intro l
  induction l with
  | nil => rfl
  | cons c l ih => rw [Wx.signs, List.all_cons, ih]
theorem Kn.first_sign (c : UInt8) : Wx.sign true c = (!Pl.digit c && Wx.sign false c) :=
  beq_iff_eq.1 (Kn.all (p := fun c => Wx.sign true c == (!Pl.digit c && Wx.sign false c)) (by decide +kernel) c)
theorem Kn.name_is {s : ByteArray} (h : 0 < s.size) : Pi.name s.data.toList = (!Pl.digit s[0] && (decide (s.size ≤ 32) && s.data.toList.all (Wx.sign false))) := by
  have e := Rl.drop s 0 h
  rw [List.drop_zero] at e
  unfold Pi.name
  rw [← Wk.len_data, e, Wx.signs, List.all_cons, Kn.signs_all, Kn.first_sign]
  cases Pl.digit s[0] <;> cases Wx.sign false s[0] <;> cases (List.drop (0 + 1) s.data.toList).all (Wx.sign false) <;> cases decide ((s[0] :: List.drop (0 + 1) s.data.toList).length ≤ 32) <;> rfl
theorem Kn.all_step {s : ByteArray} {i : Nat} (h : i < s.size) : (s.data.toList.drop i).all (Wx.sign false) = (Wx.sign false s[i] && (s.data.toList.drop (i + 1)).all (Wx.sign false)) := by
  rw [Rl.drop s i h, List.all_cons]
set_option maxRecDepth 100000 in
set_option maxHeartbeats 4000000 in
theorem Kn.is (s : ByteArray) (w : World) (hs : s.size ≤ 4611686018427387904) : Calls Tryz.prog 158 #[.string s] w fun e w' => e = .returned (.bool (Pi.name s.data.toList)) ∧ w' = w := by
  obtain ⟨B, hB⟩ : ∃ B, Pi.name s.data.toList = B := ⟨_, rfl⟩
  rw [hB]
  by_cases h0 : s.size = 0
  · have e : s = ⟨#[]⟩ := WideShapes.bytes_inj (List.eq_nil_of_length_eq_zero (by rw [Wk.len_data]; exact h0))
    subst e
    have hB2 : false = B := hB
    subst hB2
    clear hB
    go_enter Tryz.func158, Tryz.ntmps158
    go_wp2_with fail
    go_ret
    exact ⟨rfl, rfl⟩
  · have hp : 0 < s.size := by omega
    rw [Kn.name_is hp] at hB
    have e3 : ¬ s.toList = [] := fun q => by
      rw [ByteArray.toList_eq] at q
      have := congrArg List.length q
      rw [Wk.len_data] at this
      exact h0 this
    have e2 : s.toList.isEmpty = false := List.isEmpty_eq_false_iff.2 e3
    have e1 : (s.toList == []) = false := beq_eq_false_iff_ne.2 e3
    have di := fun u => Kn.isDigit s[0] u
    by_cases h32 : s.size ≤ 32
    · have d32 : decide ((32 : Int) < (s.size : Int)) = false := decide_eq_false (by omega)
      rw [decide_eq_true h32] at hB
      obtain ⟨bd, hbd⟩ : ∃ bd, Pl.digit s[0] = bd := ⟨_, rfl⟩
      rw [hbd] at di hB
      clear hbd
      cases bd with
      | true =>
        have hB2 : false = B := hB
        subst hB2
        clear hB
        go_enter Tryz.func158, Tryz.ntmps158
        go_wp2_with (go_at_call 168; refine (di _).mono ?_; rintro e w' ⟨rfl, hw⟩; have hw := hw.symm; subst hw)
        go_ret
        exact ⟨rfl, rfl⟩
      | false =>
        have HB : Hid (s.data.toList.all (Wx.sign false) = B) := hB
        clear hB
        go_enter Tryz.func158, Tryz.ntmps158
        go_wp2_with (go_at_call 168; refine (di _).mono ?_; rintro e w' ⟨rfl, hw⟩; have hw := hw.symm; subst hw)
        clear di
        go_loopw [18] (fun iv wr => ∃ i : Nat, i ≤ s.size ∧ iv = .int .i64 (i : Int) ∧ Hid ((s.data.toList.drop i).all (Wx.sign false) = B) ∧ wr = w) (fun iv _ => s.size - (intOf iv).toNat)
        case atStart => exact ⟨0, Nat.zero_le _, rfl, HB, rfl⟩
        case round =>
          obtain ⟨i, hi, rfl, HS, hw⟩ := hrel
          have hw := hw.symm
          subst hw
          by_cases hlt : i < s.size
          · have d1 : decide ((i : Int) < (s.size : Int)) = true := decide_eq_true (by omega)
            have hst := (Kn.all_step hlt).symm.trans HS.out
            have mh := fun u => Kn.isNameByte s[i] u
            obtain ⟨q, hq⟩ : ∃ q, Wx.sign false s[i] = q := ⟨_, rfl⟩
            rw [hq] at mh hst
            clear hq HS HB
            cases q with
            | true =>
              have HN : Hid ((s.data.toList.drop (i + 1)).all (Wx.sign false) = B) := hst
              clear hst
              go_wp2_with (go_at_call 157; refine (mh _).mono ?_; rintro e w' ⟨rfl, hw⟩; have hw := hw.symm; subst hw)
              go_roundw
              case rel => exact ⟨i + 1, by omega, by go_num, HN, by first | rfl | trivial⟩
              case measure => simp [intOf]; omega
            | false =>
              have hB : false = B := hst
              subst hB
              clear hst
              go_wp2_with (go_at_call 157; refine (mh _).mono ?_; rintro e w' ⟨rfl, hw⟩; have hw := hw.symm; subst hw)
              go_ret
              exact ⟨rfl, rfl⟩
          · have d1 : decide ((i : Int) < (s.size : Int)) = false := decide_eq_false (by omega)
            have hB : true = B := by
              rw [← HS.out, List.drop_of_length_le (by rw [Wk.len_data]; omega)]
              rfl
            subst hB
            clear HS HB
            go_wp2_with fail
            go_ret
            exact ⟨rfl, rfl⟩
    · have d32 : decide ((32 : Int) < (s.size : Int)) = true := decide_eq_true (by omega)
      rw [decide_eq_false h32] at hB
      have hB2 : false = B := by rw [← hB]; cases Pl.digit s[0] <;> rfl
      subst hB2
      clear hB di
      go_enter Tryz.func158, Tryz.ntmps158
      go_wp2_with fail
      go_ret
      exact ⟨rfl, rfl⟩
end Go.Proofs.YtjppobeomocgbaaGreatDoor
