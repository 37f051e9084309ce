/-
  THE WALK of stolelaw14.WordForms: it returns true.
-/
import Derived.Test.YtnophkbbeipaaaaOAw
import Derived.Test.YtnophkbbeipaaaaOForms
import Derived.Test.YtnophkbbeipaaaaGBits
import Derived.Deep.CutBlock
namespace Go.Proofs.Ytnophkbbeipaaaa
open Go.RowKit
theorem Wz.path_len (n : Nat) : (Wz.path n).length = 2 * n := by
  induction n with
  | zero => rfl
  | succ n ih => rw [Wz.path, List.length_append, ih]; simp; omega
theorem Wz.longS (R : ByteArray) (m : Nat) (hm : m ≤ 7) (hR : R.data.toList = List.replicate (29 + m) 97) : (∃ PF : List Wo, ∃ EF : Int, Wx.words (⟨#[36]⟩ ++ R ++ ⟨#[32, 46]⟩ ++ R ++ ⟨#[32]⟩ ++ R) = (PF, EF) ∧ EF = if 29 + m ≤ 32 then 0 else 1400) ∧ (⟨#[36]⟩ ++ R ++ ⟨#[32, 46]⟩ ++ R ++ ⟨#[32]⟩ ++ R).size ≤ 1099511627776 := by
  have zR : R.size = 29 + m := by rw [← Wk.len_data, hR, List.length_replicate]
  refine ⟨⟨_, _, rfl, Wz.long hm ?_⟩, ?_⟩
  · rw [Lf.append, Lf.append, Lf.append, Lf.append, Lf.append, hR]
    unfold Wz.names
    simp only [List.append_assoc]
    rfl
  · have sz : ∀ a b : ByteArray, (a ++ b).size = a.size + b.size := fun a b => ByteArray.size_append
    rw [sz, sz, sz, sz, sz]
    show 1 + R.size + 2 + R.size + 1 + R.size ≤ _
    omega
theorem Wz.deepS (P : ByteArray) (m : Nat) (hm : m ≤ 7) (hP : P.data.toList = Wz.path (5 + m)) : (∃ PG : List Wo, ∃ EG : Int, Wx.words (⟨#[36, 97]⟩ ++ P) = (PG, EG) ∧ EG = if 5 + m ≤ 8 then 0 else 1400) ∧ (⟨#[36, 97]⟩ ++ P).size ≤ 1099511627776 := by
  refine ⟨⟨_, _, rfl, Wz.deep hm ?_⟩, ?_⟩
  · rw [Lf.append, hP]
    rfl
  · have zP : P.size = 2 * (5 + m) := by rw [← Wk.len_data, hP, Wz.path_len]
    rw [show (⟨#[36, 97]⟩ ++ P).size = _ + P.size from ByteArray.size_append]
    show 2 + P.size ≤ _
    omega
set_option maxRecDepth 100000 in
set_option maxHeartbeats 4000000 in
theorem Law.wordForms (wh x : Int) (w : World) (hT : Op.T w) : Calls Try.prog 5 #[.int .i64 wh, .int .i64 x] w fun e w' => e = .returned (.bool true) ∧ Below w.heap.size w w' := by
  have aw := fun u h => Ow.awake u h
  have HT := Lib.hid hT
  have nm := fun x u => Ow.num x u
  have sz : ∀ a b : ByteArray, (a ++ b).size = a.size + b.size := fun a b => ByteArray.size_append
  obtain ⟨q, hq, hz⟩ := Wz.index wh
  obtain ⟨bn, hbn, hsp, zbn⟩ := Wz.named q hq
  have c1 := fun u h => Op.words (⟨#[97, 32, 124, 32]⟩ ++ bn) u h (by rw [sz]; show 4 + _ ≤ _; omega)
  rw [hsp] at c1
  have HBN : Hid (∀ (W : World), (W.alloc (.cells Wz.bad 9)).cell? ⟨W.heap.size, q, none⟩ = some (.string bn)) := fun W => (Bs.Box.new W Wz.bad 9 _ rfl).cell q hbn
  unfold Wz.bad at HBN
  have hcell := HBN.out
  have a7 := Lb.and7 x
  have a3 := Lb.and7 (x / 2 ^ 3)
  have a3b := Lb.and7 (x / 8)
  obtain ⟨m7, hm7, hm7b⟩ : ∃ m7 : Nat, x % 8 = (m7 : Int) ∧ m7 ≤ 7 := ⟨(x % 8).toNat, by omega, by omega⟩
  obtain ⟨m3, hm3, hm3b⟩ : ∃ m3 : Nat, x / 2 ^ 3 % 8 = (m3 : Int) ∧ m3 ≤ 7 := ⟨(x / 2 ^ 3 % 8).toNat, by omega, by omega⟩
  rw [hm7] at a7
  rw [hm3] at a3
  rw [show x / 8 % 8 = (m3 : Int) from hm3] at a3b
  obtain ⟨K, hK⟩ : ∃ K : Nat, 29 + m7 = K := ⟨_, rfl⟩
  obtain ⟨M, hM⟩ : ∃ M : Nat, 5 + m3 = M := ⟨_, rfl⟩
  have eK : (29 : Int) + (m7 : Int) = (K : Int) := by omega
  have eM : (5 : Int) + (m3 : Int) = (M : Int) := by omega
  have HWL : Hid (∀ R : ByteArray, R.data.toList = List.replicate K 97 → (∃ PF : List Wo, ∃ EF : Int, Wx.words (⟨#[36]⟩ ++ R ++ ⟨#[32, 46]⟩ ++ R ++ ⟨#[32]⟩ ++ R) = (PF, EF) ∧ EF = if K ≤ 32 then 0 else 1400) ∧ (⟨#[36]⟩ ++ R ++ ⟨#[32, 46]⟩ ++ R ++ ⟨#[32]⟩ ++ R).size ≤ 1099511627776) := fun R hR => by rw [← hK] at hR ⊢; exact Wz.longS R m7 hm7b hR
  have HWD : Hid (∀ P : ByteArray, P.data.toList = Wz.path M → (∃ PG : List Wo, ∃ EG : Int, Wx.words (⟨#[36, 97]⟩ ++ P) = (PG, EG) ∧ EG = if M ≤ 8 then 0 else 1400) ∧ (⟨#[36, 97]⟩ ++ P).size ≤ 1099511627776) := fun P hP => by rw [← hM] at hP ⊢; exact Wz.deepS P m3 hm3b hP
  have hK2 : K ≤ 36 := by omega
  have hM2 : M ≤ 12 := by omega
  obtain ⟨E, hE⟩ : ∃ E, Wz.want q = E := ⟨_, rfl⟩
  rw [hE] at c1
  obtain ⟨E1, hE1⟩ : ∃ E1 : Int, (if 14 ≤ q then 1402 else 1400) = E1 := ⟨_, rfl⟩
  have HE : Hid (E = if 19 ≤ q then 1401 else E1) := by unfold Hid; rw [← hE, ← hE1]; rfl
  have HE1 := Lib.hid hE1
  clear hE1
  clear hT hm7 hm3 hK hM hsp hbn HBN hm7b hm3b hE
  go_enter Try.func5, Try.ntmps5
  go_upto_if 28 with (go_at_call 12; refine (aw _ HT.out).mono ?_; rintro e w1 ⟨rfl, b1⟩; have HB1 := Lib.hid b1; clear b1 aw)
  rw [hz]
  replace hcell := hcell w1
  clear hz
  have HBW := Lib.hid (HB1.out.alloc HB1.out.size (.cells #[.string ⟨#[37]⟩, .string ⟨#[97, 37]⟩, .string ⟨#[58]⟩, .string ⟨#[58, 32, 61]⟩, .string ⟨#[36]⟩, .string ⟨#[36, 49]⟩, .string ⟨#[46, 49]⟩, .string ⟨#[46, 46]⟩, .string ⟨#[46, 97, 46]⟩, .string ⟨#[36, 120, 46]⟩, .string ⟨#[49, 97]⟩, .string ⟨#[97, 58, 61]⟩, .string ⟨#[34, 97, 34, 98]⟩, .string ⟨#[46, 97, 36, 120]⟩, .string ⟨#[45, 32, 49]⟩, .string ⟨#[45]⟩, .string ⟨#[45, 45, 49]⟩, .string ⟨#[57, 48, 48, 55, 49, 57, 57, 50, 53, 52, 55, 52, 48, 57, 57, 50]⟩, .string ⟨#[45, 57, 57, 57, 57, 57, 57, 57, 57, 57, 57, 57, 57, 57, 57, 57, 57, 57, 57, 57, 57]⟩, .string ⟨#[34, 97]⟩, .string ⟨#[34, 92, 113, 34]⟩, .string ⟨#[34, 92]⟩] 9))
  generalize w1.alloc (.cells #[.string ⟨#[37]⟩, .string ⟨#[97, 37]⟩, .string ⟨#[58]⟩, .string ⟨#[58, 32, 61]⟩, .string ⟨#[36]⟩, .string ⟨#[36, 49]⟩, .string ⟨#[46, 49]⟩, .string ⟨#[46, 46]⟩, .string ⟨#[46, 97, 46]⟩, .string ⟨#[36, 120, 46]⟩, .string ⟨#[49, 97]⟩, .string ⟨#[97, 58, 61]⟩, .string ⟨#[34, 97, 34, 98]⟩, .string ⟨#[46, 97, 36, 120]⟩, .string ⟨#[45, 32, 49]⟩, .string ⟨#[45]⟩, .string ⟨#[45, 45, 49]⟩, .string ⟨#[57, 48, 48, 55, 49, 57, 57, 50, 53, 52, 55, 52, 48, 57, 57, 50]⟩, .string ⟨#[45, 57, 57, 57, 57, 57, 57, 57, 57, 57, 57, 57, 57, 57, 57, 57, 57, 57, 57, 57, 57]⟩, .string ⟨#[34, 97]⟩, .string ⟨#[34, 92, 113, 34]⟩, .string ⟨#[34, 92]⟩] 9) = W1 at *
  generalize w1.heap.size = g1 at *
  have eE : (E == E) = true := beq_self_eq_true E
  go_cut [7] from 28 to 30 (fun v wx => v = .int .i64 E1 ∧ Hid (wx = W1))
  case first =>
    by_cases h14 : 14 ≤ q
    · have d14 : decide ((14 : Int) ≤ (q : Int)) = true := decide_eq_true (by omega)
      go_wp2_with fail
      go_meet
      case rel => exact ⟨by rw [← HE1.out, if_pos h14], rfl⟩
    · have d14 : decide ((14 : Int) ≤ (q : Int)) = false := decide_eq_false (by omega)
      go_wp2_with fail
      go_meet
      case rel => exact ⟨by rw [← HE1.out, if_neg h14], rfl⟩
  case rest =>
  obtain ⟨rfl, hwc⟩ := hcut
  have hwc := hwc.out
  subst hwc
  go_upto_if 30 with fail
  go_cut [7] from 29 to 32 (fun v wx => v = .int .i64 E ∧ Hid (wx = wc))
  case first =>
    by_cases h19 : 19 ≤ q
    · have d19 : decide ((19 : Int) ≤ (q : Int)) = true := decide_eq_true (by omega)
      go_wp2_with fail
      go_meet
      case rel => exact ⟨by rw [HE.out, if_pos h19], rfl⟩
    · have d19 : decide ((19 : Int) ≤ (q : Int)) = false := decide_eq_false (by omega)
      go_wp2_with fail
      go_meet
      case rel => exact ⟨by rw [HE.out, if_neg h19], rfl⟩
  case rest =>
  obtain ⟨rfl, hwc⟩ := hcut
  have hwc := hwc.out
  subst hwc
  go_wp2_with (go_at_call 7; refine (c1 _ (HT.out.on HBW.out)).mono ?_; rintro e w2 ⟨v2, rfl, l2, b2⟩; obtain ⟨g2, q2, rfl, -, -, -⟩ := l2; have HB2 := Lib.hid (Wk.below_step HBW.out b2); clear b2 c1)
  clear hcell hq
  go_loopw [10, 11] (fun sv iv wx => ∃ (R : ByteArray) (i : Nat), sv = .string R ∧ iv = .int .i64 (i : Int) ∧ i ≤ K ∧ R.size = i ∧ Hid (R.data.toList = List.replicate i 97) ∧ wx = w2) (fun _ iv _ => K - (intOf iv).toNat)
  case atStart => exact ⟨⟨#[]⟩, 0, rfl, rfl, Nat.zero_le _, rfl, rfl, rfl⟩
  case round =>
    obtain ⟨R, i, rfl, rfl, hi, zR, HR, hw⟩ := hrel
    have hw := hw.symm
    subst hw
    by_cases hlt : i < K
    · have d1 : decide ((i : Int) < (K : Int)) = true := decide_eq_true (by omega)
      have HR2 : Hid ((R ++ ⟨#[97]⟩).data.toList = List.replicate (i + 1) 97) := by
        unfold Hid
        rw [Lf.append, HR.out, List.replicate_succ']
      have zR2 : (R ++ ⟨#[97]⟩).size = i + 1 := by rw [sz, zR]; rfl
      clear HR
      go_wp2_with fail
      go_roundw
      case rel => exact ⟨R ++ ⟨#[97]⟩, i + 1, rfl, by go_num, by omega, zR2, HR2, by first | rfl | trivial⟩
      case measure => simp [intOf]; omega
    · have d1 : decide ((i : Int) < (K : Int)) = false := decide_eq_false (by omega)
      have e : i = K := by omega
      subst e
      obtain ⟨⟨PF, EF, hX, hF⟩, zz⟩ := HWL.out R HR.out
      have c2 := fun u h => Op.words _ u h zz
      rw [hX] at c2
      clear hX
      have HF := Lib.hid hF
      clear HR HWL hF zz
      go_wp2_with (go_at_call 7; refine (c2 _ (HT.out.on HB2.out)).mono ?_; rintro e w3 ⟨v3, rfl, l3, b3⟩; have HB3 := Lib.hid (Wk.below_step HB2.out b3); clear b3 l3 c2)
      go_loopw [14, 15] (fun sv iv wx => ∃ (P : ByteArray) (j : Nat), sv = .string P ∧ iv = .int .i64 (j : Int) ∧ j ≤ M ∧ P.size = 2 * j ∧ Hid (P.data.toList = Wz.path j) ∧ wx = w3) (fun _ iv _ => M - (intOf iv).toNat)
      case atStart => exact ⟨⟨#[]⟩, 0, rfl, rfl, Nat.zero_le _, rfl, rfl, rfl⟩
      case round =>
        obtain ⟨P, j, rfl, rfl, hj, zP, HP, hw⟩ := hrel
        have hw := hw.symm
        subst hw
        by_cases hltj : j < M
        · have d2 : decide ((j : Int) < (M : Int)) = true := decide_eq_true (by omega)
          have HP2 : Hid ((P ++ ⟨#[46, 98]⟩).data.toList = Wz.path (j + 1)) := by
            unfold Hid
            rw [Lf.append, HP.out, Wz.path]
          have zP2 : (P ++ ⟨#[46, 98]⟩).size = 2 * (j + 1) := by rw [sz, zP]; rfl
          clear HP
          go_wp2_with fail
          go_roundw
          case rel => exact ⟨P ++ ⟨#[46, 98]⟩, j + 1, rfl, by go_num, by omega, zP2, HP2, by first | rfl | trivial⟩
          case measure => simp [intOf]; omega
        · have d2 : decide ((j : Int) < (M : Int)) = false := decide_eq_false (by omega)
          have e : j = M := by omega
          subst e
          obtain ⟨⟨PG, EG, hX, hG⟩, zz⟩ := HWD.out P HP.out
          have c3 := fun u h => Op.words _ u h zz
          rw [hX] at c3
          clear hX
          have HG := Lib.hid hG
          clear HP HWD hG zz
          by_cases hf : i ≤ 32
          · have f1 : decide ((i : Int) ≤ 32) = true := decide_eq_true (by omega)
            have f1n : decide (i ≤ 32) = true := decide_eq_true (by omega)
            have eF : EF = 0 := by rw [HF.out, if_pos hf]
            subst eF
            clear HF
            by_cases hg : j ≤ 8
            · have f2 : decide (2 * (j : Int) ≤ 16) = true := decide_eq_true (by omega)
              have f2n : decide (2 * j ≤ 16) = true := decide_eq_true (by omega)
              have eG : EG = 0 := by rw [HG.out, if_pos hg]
              subst eG
              clear HG
              go_wp2_with (first | (go_at_call 7; refine (c3 _ (HT.out.on HB3.out)).mono ?_; rintro e w4 ⟨v4, rfl, l4, b4⟩; have HB4 := Lib.hid (Wk.below_step HB3.out b4); clear b4 l4 c3) | (go_at_call 10; refine (nm _ _).mono ?_; rintro e w' ⟨rfl, hw⟩; have hw := hw.symm; subst hw))
              go_ret
              exact ⟨rfl, HB4.out⟩
            · have f2 : decide (2 * (j : Int) ≤ 16) = false := decide_eq_false (by omega)
              have f2n : decide (2 * j ≤ 16) = false := decide_eq_false (by omega)
              have eG : EG = 1400 := by rw [HG.out, if_neg hg]
              subst eG
              clear HG
              go_wp2_with (first | (go_at_call 7; refine (c3 _ (HT.out.on HB3.out)).mono ?_; rintro e w4 ⟨v4, rfl, l4, b4⟩; have HB4 := Lib.hid (Wk.below_step HB3.out b4); clear b4 l4 c3) | (go_at_call 10; refine (nm _ _).mono ?_; rintro e w' ⟨rfl, hw⟩; have hw := hw.symm; subst hw))
              go_ret
              exact ⟨rfl, HB4.out⟩
          · have f1 : decide ((i : Int) ≤ 32) = false := decide_eq_false (by omega)
            have f1n : decide (i ≤ 32) = false := decide_eq_false (by omega)
            have eF : EF = 1400 := by rw [HF.out, if_neg hf]
            subst eF
            clear HF
            by_cases hg : j ≤ 8
            · have f2 : decide (2 * (j : Int) ≤ 16) = true := decide_eq_true (by omega)
              have f2n : decide (2 * j ≤ 16) = true := decide_eq_true (by omega)
              have eG : EG = 0 := by rw [HG.out, if_pos hg]
              subst eG
              clear HG
              go_wp2_with (first | (go_at_call 7; refine (c3 _ (HT.out.on HB3.out)).mono ?_; rintro e w4 ⟨v4, rfl, l4, b4⟩; have HB4 := Lib.hid (Wk.below_step HB3.out b4); clear b4 l4 c3) | (go_at_call 10; refine (nm _ _).mono ?_; rintro e w' ⟨rfl, hw⟩; have hw := hw.symm; subst hw))
              go_ret
              exact ⟨rfl, HB4.out⟩
            · have f2 : decide (2 * (j : Int) ≤ 16) = false := decide_eq_false (by omega)
              have f2n : decide (2 * j ≤ 16) = false := decide_eq_false (by omega)
              have eG : EG = 1400 := by rw [HG.out, if_neg hg]
              subst eG
              clear HG
              go_wp2_with (first | (go_at_call 7; refine (c3 _ (HT.out.on HB3.out)).mono ?_; rintro e w4 ⟨v4, rfl, l4, b4⟩; have HB4 := Lib.hid (Wk.below_step HB3.out b4); clear b4 l4 c3) | (go_at_call 10; refine (nm _ _).mono ?_; rintro e w' ⟨rfl, hw⟩; have hw := hw.symm; subst hw))
              go_ret
              exact ⟨rfl, HB4.out⟩
end Go.Proofs.Ytnophkbbeipaaaa
