/-
  THE WALK of stolelaw14.WordInts: it returns true.
-/
import Derived.Test.YtnophkbbeipaaaaOAw
import Derived.Test.YtnophkbbeipaaaaOInts
import Derived.Test.YtnophkbbeipaaaaGBits
namespace Go.Proofs.Ytnophkbbeipaaaa
open Go.RowKit
theorem Lb.and53 (x : Int) : Go.bits .and .i64 x 9007199254740991 = x % 9007199254740992 := Lb.and 53 (by decide) x
set_option maxRecDepth 100000 in
set_option maxHeartbeats 4000000 in
theorem Law.wordInts (x z : Int) (neg : Bool) (w : World) (hT : Op.T w) : Calls Try.prog 6 #[.int .i64 x, .int .i64 z, .bool neg] w fun e w' => e = .returned (.bool true) ∧ Below w.heap.size w w' := by
  have aw := fun u h => Ow.awake u h
  have HT := Lib.hid hT
  have nm := fun x u => Ow.num x u
  have a53 := Lb.and53 x
  have a7 := Lb.and7 z
  obtain ⟨k, hk, hk1⟩ : ∃ k : Nat, x % 9007199254740992 = (k : Int) ∧ k ≤ 9007199254740991 := ⟨(x % 9007199254740992).toNat, by omega, by omega⟩
  obtain ⟨m, hm, hm7⟩ : ∃ m : Nat, z % 8 = (m : Int) ∧ m ≤ 7 := ⟨(z % 8).toNat, by omega, by omega⟩
  rw [hk] at a53
  rw [hm] at a7
  clear hm hk hT
  have de := fun u => Dm.decimal k (by omega) u
  have zde : (Lib.decDigits k).length ≤ 16 := Dm.digits_len 15 k (by omega)
  obtain ⟨DD, hDD⟩ : ∃ DD : ByteArray, (⟨(Lib.decDigits k).toArray⟩ : ByteArray) = DD := ⟨_, rfl⟩
  have HDD : Hid (DD.data.toList = Lib.decDigits k) := by unfold Hid; rw [← hDD]
  rw [hDD] at de
  have zDD : DD.size ≤ 16 := by rw [← Wk.len_data, HDD.out]; exact zde
  clear hDD zde
  have sz : ∀ a b : ByteArray, (a ++ b).size = a.size + b.size := fun a b => ByteArray.size_append
  go_enter Try.func6, Try.ntmps6
  go_wp2_with (go_at_call 12; refine (aw _ HT.out).mono ?_; rintro e w1 ⟨rfl, b1⟩; have HB1 := Lib.hid b1; clear b1 aw)
  go_loopw [8, 9] (fun sv iv wx => ∃ (R : ByteArray) (i : Nat), sv = .string R ∧ iv = .int .i64 (i : Int) ∧ i ≤ m ∧ R.size = i ∧ Hid (R.data.toList = List.replicate i 48) ∧ wx = w1) (fun _ iv _ => m - (intOf iv).toNat)
  case atStart => exact ⟨⟨#[]⟩, 0, rfl, rfl, Nat.zero_le _, rfl, rfl, rfl⟩
  case round =>
    obtain ⟨R, i, rfl, rfl, hi, zR, HR, hw⟩ := hrel
    have hw := hw.symm
    subst hw
    by_cases hlt : i < m
    · have d1 : decide ((i : Int) < (m : Int)) = true := decide_eq_true (by omega)
      have HR2 : Hid ((R ++ ⟨#[48]⟩).data.toList = List.replicate (i + 1) 48) := by
        unfold Hid
        rw [Lf.append, HR.out, List.replicate_succ']
      have zR2 : (R ++ ⟨#[48]⟩).size = i + 1 := by rw [ByteArray.size_append, zR]; rfl
      clear HR
      go_wp2_with fail
      go_roundw
      case rel => exact ⟨R ++ ⟨#[48]⟩, i + 1, rfl, by go_num, by omega, zR2, HR2, by first | rfl | trivial⟩
      case measure => simp [intOf]; omega
    · have d1 : decide ((i : Int) < (m : Int)) = false := decide_eq_false (by omega)
      cases neg with
      | true =>
        have hABd : (⟨#[45]⟩ ++ (R ++ DD) : ByteArray).data.toList = (if true = true then [45] else []) ++ (List.replicate i 48 ++ Lib.decDigits k) := by
          rw [Lf.append, Lf.append, HR.out, HDD.out]; rfl
        have zAB : (⟨#[45]⟩ ++ (R ++ DD) : ByteArray).size ≤ 40 := by rw [ByteArray.size_append, ByteArray.size_append]; show 1 + (R.size + DD.size) ≤ _; omega
        have hq := Wx.ints ((⟨#[45]⟩ ++ (R ++ DD)) ++ ⟨#[124]⟩ ++ (⟨#[45]⟩ ++ (R ++ DD))) k i true (⟨#[45]⟩ ++ (R ++ DD) : ByteArray).data.toList hk1 hABd (by rw [Lf.append, Lf.append _ ⟨#[124]⟩, List.append_assoc])
        have zz : ((⟨#[45]⟩ ++ (R ++ DD)) ++ ⟨#[124]⟩ ++ (⟨#[45]⟩ ++ (R ++ DD)) : ByteArray).size ≤ 1099511627776 := by simp only [sz]; have : (⟨#[124]⟩ : ByteArray).size = 1 := rfl; simp only [sz] at zAB; omega
        have c1 := fun u h => Op.words ((⟨#[45]⟩ ++ (R ++ DD)) ++ ⟨#[124]⟩ ++ (⟨#[45]⟩ ++ (R ++ DD))) u h zz
        rw [hq] at c1
        clear HR hABd hq zz HDD
        go_wp2_with (first | (go_at_call 14; refine (de _).mono ?_; rintro e w2 ⟨rfl, b2⟩; have HB2 := Lib.hid (Wk.below_step HB1.out b2); clear b2 de) | (go_at_call 7; refine (c1 _ (HT.out.on HB2.out)).mono ?_; rintro e w4 ⟨v4, rfl, l4, b4⟩; obtain ⟨a4, q4, rfl, zq4, -, x4⟩ := l4; obtain ⟨g4, o4, p4, rfl, -, y0, _, _, y3, _⟩ := x4 0 _ rfl; obtain ⟨g5, o5, p5, e5, -, y4, _, _, _, _⟩ := x4 1 _ rfl; obtain ⟨g6, o6, p6, e6, -, _, _, _, y6, _⟩ := x4 2 _ rfl; injection e5 with e5; injection e5 with e5a e5b; subst e5a; subst e5b; injection e6 with e6; injection e6 with e6a e6b; subst e6a; subst e6b; replace y0 : w4.cell? ⟨g4, o4, none⟩ = some (.int .i64 3) := y0; replace y3 : w4.cell? ⟨g4, o4 + 3, none⟩ = some (.int .i64 (-(k : Int))) := y3; replace y4 : w4.cell? ⟨g4, o4 + 4, none⟩ = some (.int .i64 5) := y4; replace y6 : w4.cell? ⟨g4, o4 + 8 + 3, none⟩ = some (.int .i64 (-(k : Int))) := y6; have HB4 := Lib.hid (Wk.below_step HB2.out b4); clear b4 c1 x4) | (go_at_call 10; refine (nm _ _).mono ?_; rintro e w' ⟨rfl, hw⟩; have hw := hw.symm; subst hw))
        go_ret
        exact ⟨rfl, HB4.out⟩
      | false =>
        have hABd : (R ++ DD : ByteArray).data.toList = (if false = true then [45] else []) ++ (List.replicate i 48 ++ Lib.decDigits k) := by
          rw [Lf.append, HR.out, HDD.out]; rfl
        have zAB : (R ++ DD : ByteArray).size ≤ 40 := by rw [ByteArray.size_append]; omega
        have hq := Wx.ints ((R ++ DD) ++ ⟨#[124]⟩ ++ (R ++ DD)) k i false (R ++ DD : ByteArray).data.toList hk1 hABd (by rw [Lf.append, Lf.append _ ⟨#[124]⟩, List.append_assoc])
        have zz : ((R ++ DD) ++ ⟨#[124]⟩ ++ (R ++ DD) : ByteArray).size ≤ 1099511627776 := by simp only [sz]; have : (⟨#[124]⟩ : ByteArray).size = 1 := rfl; simp only [sz] at zAB; omega
        have c1 := fun u h => Op.words ((R ++ DD) ++ ⟨#[124]⟩ ++ (R ++ DD)) u h zz
        rw [hq] at c1
        clear HR hABd hq zz HDD
        go_wp2_with (first | (go_at_call 14; refine (de _).mono ?_; rintro e w2 ⟨rfl, b2⟩; have HB2 := Lib.hid (Wk.below_step HB1.out b2); clear b2 de) | (go_at_call 7; refine (c1 _ (HT.out.on HB2.out)).mono ?_; rintro e w4 ⟨v4, rfl, l4, b4⟩; obtain ⟨a4, q4, rfl, zq4, -, x4⟩ := l4; obtain ⟨g4, o4, p4, rfl, -, y0, _, _, y3, _⟩ := x4 0 _ rfl; obtain ⟨g5, o5, p5, e5, -, y4, _, _, _, _⟩ := x4 1 _ rfl; obtain ⟨g6, o6, p6, e6, -, _, _, _, y6, _⟩ := x4 2 _ rfl; injection e5 with e5; injection e5 with e5a e5b; subst e5a; subst e5b; injection e6 with e6; injection e6 with e6a e6b; subst e6a; subst e6b; replace y0 : w4.cell? ⟨g4, o4, none⟩ = some (.int .i64 3) := y0; replace y3 : w4.cell? ⟨g4, o4 + 3, none⟩ = some (.int .i64 ((k : Int))) := y3; replace y4 : w4.cell? ⟨g4, o4 + 4, none⟩ = some (.int .i64 5) := y4; replace y6 : w4.cell? ⟨g4, o4 + 8 + 3, none⟩ = some (.int .i64 ((k : Int))) := y6; have HB4 := Lib.hid (Wk.below_step HB2.out b4); clear b4 c1 x4) | (go_at_call 10; refine (nm _ _).mono ?_; rintro e w' ⟨rfl, hw⟩; have hw := hw.symm; subst hw))
        go_ret
        exact ⟨rfl, HB4.out⟩
end Go.Proofs.Ytnophkbbeipaaaa
