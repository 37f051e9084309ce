/-
  THE WALK of stolelaw13.SplitForms: it returns true.
-/
import Derived.Test.YtfcmcmokmhklhaaDoorLAw
import Derived.Test.YtfcmcmokmhklhaaDoorLForm
import Derived.Deep.CutBlock
namespace Go.Proofs.YtfcmcmokmhklhaaDoor
open Go.RowKit
theorem Lb.and5 (x : Int) : Go.bits .and .i64 x 31 = x % 32 := Lb.and 5 (by decide) x
set_option maxRecDepth 100000 in
set_option maxHeartbeats 4000000 in
theorem Law.splitForms (wh x : Int) (w : World) (hT : Lp.T w) : Calls Tryd.prog 7 #[.int .i64 wh, .int .i64 x] w fun e w' => e = .returned (.bool true) ∧ Below w.heap.size w w' := by
  have aw := fun u h => Lw.awake u h
  have HT := Lib.hid hT
  have nm := fun x u => Lw.num x u
  obtain ⟨q, hq, hz⟩ := Lz.index wh
  obtain ⟨bn, hbn, hsp, zbn⟩ := Lz.named q hq
  have c1 := fun u h => Lp.split (⟨#[97]⟩ ++ bn) u h
  rw [hsp] at c1
  have HBN : Hid (∀ (W : World), (W.alloc (.cells Lz.bad 9)).cell? ⟨W.heap.size, q, none⟩ = some (.string bn)) := fun W => (Bs.Box.new W Lz.bad 9 _ rfl).cell q hbn
  unfold Lz.bad at HBN
  have hcell := HBN.out
  have a7 := Lb.and7 x
  have a5 := Lb.and5 x
  obtain ⟨m7, hm7, hm7b⟩ : ∃ m7 : Nat, x % 8 = (m7 : Int) ∧ m7 ≤ 7 := ⟨(x % 8).toNat, by omega, by omega⟩
  obtain ⟨m5, hm5, hm5b⟩ : ∃ m5 : Nat, x % 32 = (m5 : Int) ∧ m5 ≤ 31 := ⟨(x % 32).toNat, by omega, by omega⟩
  rw [hm7] at a7
  rw [hm5] at a5
  obtain ⟨K, hK⟩ : ∃ K : Nat, 253 + m7 = K := ⟨_, rfl⟩
  obtain ⟨M, hM⟩ : ∃ M : Nat, 500 + m5 = M := ⟨_, rfl⟩
  have eK : (253 : Int) + (m7 : Int) = (K : Int) := by omega
  have eM : (500 : Int) + (m5 : Int) = (M : Int) := by omega
  have hK1 : 253 ≤ K ∧ K ≤ 260 := by omega
  have hM1 : 500 ≤ M ∧ M ≤ 531 := by omega
  obtain ⟨hK1, hK2⟩ := hK1
  obtain ⟨hM1, hM2⟩ := hM1
  clear hT hm7 hm5 hK hM hsp hbn HBN hm7b hm5b
  obtain ⟨MK, ZK, zK, dK, mkK, cvK⟩ := Lz.zerosN K (by omega)
  obtain ⟨MH, ZH, zH, _, mkH, cvH⟩ := Lz.zerosN 65537 (by omega)
  have mkH : ∀ u : World, (Instr.makeSlice 41 (.int .i64 65537) (.int .i64 65537)).run Tryd.prog u = .ok (.slice (some ⟨u.heap.size, 0, none⟩) 65537 65537) (u.alloc (.cells MH 5)) := mkH
  have c2 := fun u h => Lp.split (⟨#[123, 123]⟩ ++ ZK ++ ⟨#[125, 125]⟩) u h
  have z2 : (⟨#[123, 123]⟩ ++ ZK : ByteArray).size = K + 2 := by rw [ByteArray.size_append, zK]; show 2 + K = _; omega
  have HPK := Lib.hid (Lz.long (s := ⟨#[123, 123]⟩ ++ ZK ++ ⟨#[125, 125]⟩) (k := K) (by omega) (by omega) (by rw [Lf.append, Lf.append, dK]; simp))
  generalize Lx.split (⟨#[123, 123]⟩ ++ ZK ++ ⟨#[125, 125]⟩) = RK at *
  obtain ⟨PK, EK⟩ := RK
  simp only at c2
  have c4 := fun u h => Lp.split ZH u h
  rw [Lz.huge (by omega)] at c4
  have HDK := Lib.hid dK
  clear dK zH
  go_enter Tryd.func7, Tryd.ntmps7
  go_upto_block 0 with (first | (go_at_call 12; refine (aw _ HT.out).mono ?_; rintro e w1 ⟨rfl, b1⟩; have HB1 := Lib.hid b1; clear b1 aw) | (go_at_call 8; refine (c1 _ (HT.out.on (HB1.out.alloc HB1.out.size _))).mono ?_; rintro e w2 ⟨v2, rfl, l2, b2⟩; obtain ⟨g2, q2, rfl, -, -, -⟩ := l2; have HB2 := Lib.hid (Wk.below_step (HB1.out.alloc HB1.out.size _) b2); clear b2 c1 HB1) | (go_at_call 8; refine (c2 _ (HT.out.on (HB2.out.alloc HB2.out.size _))).mono ?_; rintro e w3 ⟨v3, rfl, l3, b3⟩; have HL3 := Lib.hid l3; obtain ⟨g3, q3, rfl, zq3, -, -⟩ := l3; have HB3 := Lib.hid (Wk.below_step (HB2.out.alloc HB2.out.size _) b3); clear b3 c2 HB2))
  clear hcell hz hq a7 mkK cvK
  go_wp2_with fail
  go_loopw [12, 14] (fun sv iv wx => ∃ (R : ByteArray) (i : Nat), sv = .string R ∧ iv = .int .i64 (i : Int) ∧ i ≤ M ∧ R.size ≤ 6 * i ∧ Hid (R.data.toList = Lz.rep i) ∧ wx = w3) (fun _ iv _ => M - (intOf iv).toNat)
  case atStart => exact ⟨⟨#[]⟩, 0, rfl, rfl, Nat.zero_le _, Nat.le_refl _, rfl, rfl⟩
  case round =>
    obtain ⟨R, i, rfl, rfl, hi, zR, HR, hw⟩ := hrel
    have hw := hw.symm
    subst hw
    by_cases hlt : i < M
    · have d1 : decide ((i : Int) < (M : Int)) = true := decide_eq_true (by omega)
      have HR2 : Hid ((R ++ ⟨#[98, 123, 123, 46, 125, 125]⟩).data.toList = Lz.rep (i + 1)) := by
        unfold Hid
        rw [Lf.append, HR.out, ← Lz.rep_snoc]
      have zR2 : (R ++ ⟨#[98, 123, 123, 46, 125, 125]⟩).size = R.size + 6 := by rw [ByteArray.size_append]; rfl
      clear HR
      go_wp2_with fail
      go_roundw
      case rel => exact ⟨R ++ ⟨#[98, 123, 123, 46, 125, 125]⟩, i + 1, rfl, by go_num, by omega, by omega, HR2, by first | rfl | trivial⟩
      case measure => simp [intOf]; omega
    · have d1 : decide ((i : Int) < (M : Int)) = false := decide_eq_false (by omega)
      have e : i = M := by omega
      have c3 := fun u h => Lp.split R u h
      obtain ⟨PM, hPM, zPM⟩ := Lz.many (s := R) (m := M) (by omega) (by rw [HR.out, e])
      rw [hPM] at c3
      simp only at c3
      clear HR hPM
      have HZM := Lib.hid zPM
      clear zPM e
      by_cases hk : 256 < K
      · have dk : decide ((256 : Int) < (K : Int)) = true := decide_eq_true (by omega)
        have dkn : decide (256 < K) = true := decide_eq_true hk
        have hPK := HPK.out
        rw [if_pos hk] at hPK
        injection hPK with e1 e2
        subst e1
        subst e2
        clear HPK HL3 HDK
        by_cases hm : 1024 < 2 * M
        · have dm : decide ((1024 : Int) < 2 * (M : Int)) = true := decide_eq_true (by omega)
          have dmn : decide (1024 < 2 * M) = true := decide_eq_true hm
          rw [if_pos hm] at c3
          have hPM : PM = [] := List.eq_nil_of_length_eq_zero (by rw [HZM.out, if_pos hm])
          subst hPM
          clear HZM
          go_wp2_with (first | (go_at_call 8; refine (c3 _ (HT.out.on HB3.out)).mono ?_; rintro e w4 ⟨v4, rfl, l4, b4⟩; obtain ⟨g4, q4, rfl, -, -, -⟩ := l4; have HB4 := Lib.hid (Wk.below_step HB3.out b4); clear b4 c3) | (go_at_call 8; refine (c4 _ (HT.out.on (HB4.out.alloc HB4.out.size _))).mono ?_; rintro e w5 ⟨v5, rfl, l5, b5⟩; obtain ⟨g5, q5, rfl, -, -, -⟩ := l5; have HB5 := Lib.hid (Wk.below_step (HB4.out.alloc HB4.out.size _) b5); clear b5 c4) | (go_at_call 11; refine (nm _ _).mono ?_; rintro e w' ⟨rfl, hw⟩; have hw := hw.symm; subst hw))
          go_ret
          exact ⟨rfl, HB5.out⟩
        · have dm : decide ((1024 : Int) < 2 * (M : Int)) = false := decide_eq_false (by omega)
          have dmn : decide (1024 < 2 * M) = false := decide_eq_false hm
          rw [if_neg hm] at c3
          have tl : ((PM.length : Int) == 2 * (M : Int)) = true := beq_iff_eq.2 (by have := HZM.out; rw [if_neg hm] at this; omega)
          clear HZM
          go_wp2_with (first | (go_at_call 8; refine (c3 _ (HT.out.on HB3.out)).mono ?_; rintro e w4 ⟨v4, rfl, l4, b4⟩; obtain ⟨g4, q4, rfl, -, -, -⟩ := l4; have HB4 := Lib.hid (Wk.below_step HB3.out b4); clear b4 c3) | (go_at_call 8; refine (c4 _ (HT.out.on (HB4.out.alloc HB4.out.size _))).mono ?_; rintro e w5 ⟨v5, rfl, l5, b5⟩; obtain ⟨g5, q5, rfl, -, -, -⟩ := l5; have HB5 := Lib.hid (Wk.below_step (HB4.out.alloc HB4.out.size _) b5); clear b5 c4) | (go_at_call 11; refine (nm _ _).mono ?_; rintro e w' ⟨rfl, hw⟩; have hw := hw.symm; subst hw))
          go_ret
          exact ⟨rfl, HB5.out⟩
      · have dk : decide ((256 : Int) < (K : Int)) = false := decide_eq_false (by omega)
        have dkn : decide (256 < K) = false := decide_eq_false hk
        have hPK := HPK.out
        rw [if_neg hk] at hPK
        injection hPK with e1 e2
        subst e1
        subst e2
        obtain ⟨g9, q9, e9, -, -, x9⟩ := HL3.out
        obtain ⟨b9, o9, rfl, -, y0, y1, y2⟩ := x9 0 _ rfl
        injection e9 with e9a e9b e9c
        subst e9a
        replace y1 : w3.cell? ⟨b9, o9 + 1, none⟩ = some (.string ZK) := by
          rw [show ZK = ⟨(List.replicate K 0).toArray⟩ from WideShapes.bytes_inj HDK.out]
          exact y1
        have zq : 1 ≤ q3 := zq3
        clear HPK HL3 HDK x9 y0 y2 e9b e9c
        by_cases hm : 1024 < 2 * M
        · have dm : decide ((1024 : Int) < 2 * (M : Int)) = true := decide_eq_true (by omega)
          have dmn : decide (1024 < 2 * M) = true := decide_eq_true hm
          rw [if_pos hm] at c3
          have hPM : PM = [] := List.eq_nil_of_length_eq_zero (by rw [HZM.out, if_pos hm])
          subst hPM
          clear HZM
          go_wp2_with (first | (go_at_call 8; refine (c3 _ (HT.out.on HB3.out)).mono ?_; rintro e w4 ⟨v4, rfl, l4, b4⟩; obtain ⟨g4, q4, rfl, -, -, -⟩ := l4; have HB4 := Lib.hid (Wk.below_step HB3.out b4); have y1 := Tp.keep b4 y1; clear b4 c3) | (go_at_call 8; refine (c4 _ (HT.out.on (HB4.out.alloc HB4.out.size _))).mono ?_; rintro e w5 ⟨v5, rfl, l5, b5⟩; obtain ⟨g5, q5, rfl, -, -, -⟩ := l5; have HB5 := Lib.hid (Wk.below_step (HB4.out.alloc HB4.out.size _) b5); have y1 := Tp.keep (((Below.refl _ _).alloc (Nat.le_refl _) _).trans (b5.mono (by simp))) y1; clear b5 c4) | (go_at_call 11; refine (nm _ _).mono ?_; rintro e w' ⟨rfl, hw⟩; have hw := hw.symm; subst hw))
          go_ret
          exact ⟨rfl, HB5.out⟩
        · have dm : decide ((1024 : Int) < 2 * (M : Int)) = false := decide_eq_false (by omega)
          have dmn : decide (1024 < 2 * M) = false := decide_eq_false hm
          rw [if_neg hm] at c3
          have tl : ((PM.length : Int) == 2 * (M : Int)) = true := beq_iff_eq.2 (by have := HZM.out; rw [if_neg hm] at this; omega)
          clear HZM
          go_wp2_with (first | (go_at_call 8; refine (c3 _ (HT.out.on HB3.out)).mono ?_; rintro e w4 ⟨v4, rfl, l4, b4⟩; obtain ⟨g4, q4, rfl, -, -, -⟩ := l4; have HB4 := Lib.hid (Wk.below_step HB3.out b4); have y1 := Tp.keep b4 y1; clear b4 c3) | (go_at_call 8; refine (c4 _ (HT.out.on (HB4.out.alloc HB4.out.size _))).mono ?_; rintro e w5 ⟨v5, rfl, l5, b5⟩; obtain ⟨g5, q5, rfl, -, -, -⟩ := l5; have HB5 := Lib.hid (Wk.below_step (HB4.out.alloc HB4.out.size _) b5); have y1 := Tp.keep (((Below.refl _ _).alloc (Nat.le_refl _) _).trans (b5.mono (by simp))) y1; clear b5 c4) | (go_at_call 11; refine (nm _ _).mono ?_; rintro e w' ⟨rfl, hw⟩; have hw := hw.symm; subst hw))
          go_ret
          exact ⟨rfl, HB5.out⟩
end Go.Proofs.YtfcmcmokmhklhaaDoor
