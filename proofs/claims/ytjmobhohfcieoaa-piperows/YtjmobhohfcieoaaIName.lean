/-
  THE WALKS of the reference's NameMay, pathMay, Function.
-/
import Derived.Test.YtjmobhohfcieoaaIPlain
import Derived.Test.YtjmobhohfcieoaaGTxt
import Derived.Deep.QuietTactic
namespace Go.Proofs.Ytjmobhohfcieoaa
open Go.RowKit
theorem Pi.signs_step {s : ByteArray} {i : Nat} (h : i < s.size) : Wx.signs (decide (i = 0)) (s.data.toList.drop i) = (Wx.sign (decide (i = 0)) s[i] && Wx.signs (decide (i + 1 = 0)) (s.data.toList.drop (i + 1))) := by
  rw [Rl.drop s i h, Wx.signs, decide_eq_false (show ¬ i + 1 = 0 by omega)]
set_option maxRecDepth 100000 in
set_option maxHeartbeats 4000000 in
theorem Pr.name (s : ByteArray) (w : World) (hs : s.size ≤ 4611686018427387904) : Calls Try.prog 34 #[.string s] w fun e w' => e = .returned (.bool (Pi.name s.data.toList)) ∧ w' = w := by
  obtain ⟨B, hB⟩ : ∃ B, Pi.name s.data.toList = B := ⟨_, rfl⟩
  rw [hB]
  have HB := Lib.hid hB
  clear hB
  go_enter Try.func34, Try.ntmps34
  go_wp2_with fail
  go_loopw [3] (fun iv wr => ∃ i : Nat, i ≤ s.size ∧ iv = .int .i64 (i : Int) ∧ Hid (Wx.signs true s.data.toList = Wx.signs (decide (i = 0)) (s.data.toList.drop i)) ∧ wr = w) (fun iv _ => s.size - (intOf iv).toNat)
  case atStart => exact ⟨0, Nat.zero_le _, rfl, rfl, rfl⟩
  case round =>
    obtain ⟨i, hi, rfl, HS, hw⟩ := hrel
    have hw := hw.symm
    subst hw
    by_cases hlt : i < s.size
    · have d1 : decide ((i : Int) < (s.size : Int)) = true := decide_eq_true (by omega)
      have hst := HS.out.trans (Pi.signs_step hlt)
      have let1 := fun u => Rt.letter s[i] u
      have dig1 := fun u => Rt.digit s[i] u
      unfold Wx.sign at hst
      have HST := Lib.hid hst
      clear HS hst
      generalize Pl.letter s[i] = bl at *
      generalize Pl.digit s[i] = bd at *
      have HOK : Hid (∀ q : Bool, q = true → Wx.signs true s.data.toList = (q && Wx.signs (decide (i + 1 = 0)) (s.data.toList.drop (i + 1))) → Wx.signs true s.data.toList = Wx.signs (decide (i + 1 = 0)) (s.data.toList.drop (i + 1))) := fun q hq h => by rw [h, hq]; rfl
      have HNO : Hid (∀ q : Bool, q = false → Wx.signs true s.data.toList = (q && Wx.signs (decide (i + 1 = 0)) (s.data.toList.drop (i + 1))) → B = false) := fun q hq h => by rw [← HB.out, Pi.name, h, hq]; rfl
      cases bl with
      | true =>
        have HN := Lib.hid (HOK.out _ rfl HST.out)
        clear HST HOK HNO
        go_wp2_with (first | (go_at_call 41; refine (let1 _).mono ?_; rintro e w' ⟨rfl, hw⟩; have hw := hw.symm; subst hw) | (go_at_call 42; refine (dig1 _).mono ?_; rintro e w' ⟨rfl, hw⟩; have hw := hw.symm; subst hw))
        go_roundw
        case rel => exact ⟨i + 1, by omega, by go_num, HN, by first | rfl | trivial⟩
        case measure => simp [intOf]; omega
      | false =>
        by_cases h95 : s[i] = 95
        · have t95 : ((s[i].toNat : Int) == 95) = true := Tp.eq_true (d := 95) h95
          have t95b : ((s[i].toNat : Int) != 95) = false := by rw [bne, t95]; rfl
          have HN := Lib.hid (HOK.out _ (by rw [h95]; rfl) HST.out)
          clear HST HOK HNO h95
          go_wp2_with (first | (go_at_call 41; refine (let1 _).mono ?_; rintro e w' ⟨rfl, hw⟩; have hw := hw.symm; subst hw) | (go_at_call 42; refine (dig1 _).mono ?_; rintro e w' ⟨rfl, hw⟩; have hw := hw.symm; subst hw))
          go_roundw
          case rel => exact ⟨i + 1, by omega, by go_num, HN, by first | rfl | trivial⟩
          case measure => simp [intOf]; omega
        · have t95 : ((s[i].toNat : Int) == 95) = false := Tp.eq_false (d := 95) h95
          have t95b : ((s[i].toNat : Int) != 95) = true := by rw [bne, t95]; rfl
          have hne : (s[i] == 95) = false := beq_eq_false_iff_ne.2 h95
          by_cases hi0 : i = 0
          · subst hi0
            have hB : B = false := HNO.out _ (by rw [hne]; rfl) HST.out
            subst hB
            clear HST HOK HNO h95 hne
            go_wp2_with (first | (go_at_call 41; refine (let1 _).mono ?_; rintro e w' ⟨rfl, hw⟩; have hw := hw.symm; subst hw) | (go_at_call 42; refine (dig1 _).mono ?_; rintro e w' ⟨rfl, hw⟩; have hw := hw.symm; subst hw))
            go_ret
            exact ⟨rfl, rfl⟩
          · have t0 : ((i : Int) == 0) = false := beq_eq_false_iff_ne.2 (by omega)
            have hdf : decide (i = 0) = false := decide_eq_false hi0
            cases bd with
            | true =>
              have HN := Lib.hid (HOK.out _ (by rw [hne, hdf]; rfl) HST.out)
              clear HST HOK HNO h95 hne hdf
              go_wp2_with (first | (go_at_call 41; refine (let1 _).mono ?_; rintro e w' ⟨rfl, hw⟩; have hw := hw.symm; subst hw) | (go_at_call 42; refine (dig1 _).mono ?_; rintro e w' ⟨rfl, hw⟩; have hw := hw.symm; subst hw))
              go_roundw
              case rel => exact ⟨i + 1, by omega, by go_num, HN, by first | rfl | trivial⟩
              case measure => simp [intOf]; omega
            | false =>
              have hB : B = false := HNO.out _ (by rw [hne, hdf]; rfl) HST.out
              subst hB
              clear HST HOK HNO h95 hne hdf
              go_wp2_with (first | (go_at_call 41; refine (let1 _).mono ?_; rintro e w' ⟨rfl, hw⟩; have hw := hw.symm; subst hw) | (go_at_call 42; refine (dig1 _).mono ?_; rintro e w' ⟨rfl, hw⟩; have hw := hw.symm; subst hw))
              go_ret
              exact ⟨rfl, rfl⟩
    · have d1 : decide ((i : Int) < (s.size : Int)) = false := decide_eq_false (by omega)
      have hsg : Wx.signs true s.data.toList = true := by
        rw [HS.out, List.drop_of_length_le (by rw [Wk.len_data]; omega)]
        cases decide (i = 0) <;> rfl
      have hB : (!s.data.toList.isEmpty && decide (s.data.toList.length ≤ 32)) = B := by rw [← HB.out, Pi.name, hsg]; rfl
      clear HS HB hsg
      cases he : s.data.toList with
      | nil =>
        have e : s = ⟨#[]⟩ := WideShapes.bytes_inj he
        subst e
        have hB2 : false = B := hB
        subst hB2
        clear hB he
        go_wp2_with fail
        go_ret
        exact ⟨rfl, rfl⟩
      | cons c l =>
        have n1 : (s.toList != []) = true := by rw [ByteArray.toList_eq, he]; rfl
        have n2 : (s.toList == []) = false := by rw [ByteArray.toList_eq, he]; rfl
        have n3 : s.toList.isEmpty = false := by rw [ByteArray.toList_eq, he]; rfl
        rw [Wk.len_data, he] at hB
        by_cases h32 : s.size ≤ 32
        · have d2 : decide ((s.size : Int) ≤ 32) = true := decide_eq_true (by omega)
          have d2n : decide (s.size ≤ 32) = true := decide_eq_true h32
          have hB2 : true = B := by rw [← hB, d2n]; rfl
          subst hB2
          clear hB he
          go_wp2_with fail
          go_ret
          exact ⟨rfl, rfl⟩
        · have d2 : decide ((s.size : Int) ≤ 32) = false := decide_eq_false (by omega)
          have d2n : decide (s.size ≤ 32) = false := decide_eq_false h32
          have hB2 : false = B := by rw [← hB, d2n]; rfl
          subst hB2
          clear hB he
          go_wp2_with fail
          go_ret
          exact ⟨rfl, rfl⟩
end Go.Proofs.Ytjmobhohfcieoaa
