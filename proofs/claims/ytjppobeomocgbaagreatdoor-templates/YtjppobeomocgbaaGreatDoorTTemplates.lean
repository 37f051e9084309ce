/-
  THE WALK of stolelaw16.Templates: it returns true.
-/
import Derived.Test.YtjppobeomocgbaaGreatDoorTMParsetoGBits
import Derived.Test.YtjppobeomocgbaaGreatDoorTMSpoiltoMFew
namespace Go.Proofs.YtjppobeomocgbaaGreatDoor
open Go.RowKit
theorem Tm.relBelow {R : Nat → Prop} {n B : Nat} {w w1 w2 : World} (h : Sw.Rel R n w1 w2) (hb : Below B w w1) (hR : ∀ k, R k → B ≤ k) : Below B w w2 :=
  ⟨h.os.trans hb.os, h.tape.trans hb.tape, h.output.trans hb.output, by rw [h.size]; exact hb.size, fun k hk => (h.out k (fun q => by have := hR k q; omega)).trans (hb.block k hk)⟩
theorem Tm.mine {w1 w2 w3 : World} {B : Nat} {t : Dt} {v : Value} (h : Dt.Lies w1 (Tr.L B w1) t v) (b2 : Below w1.heap.size w1 w2) (b3 : Below w2.heap.size w2 w3) : Dt.Lies w3 (fun k => B ≤ k ∧ k < w1.heap.size ∧ Rm.Ub w3 k) t v :=
  h.on fun k hk => by
    have e := (b2.trans (b3.mono b2.size)).block k hk.2.1
    exact ⟨⟨hk.1, hk.2.1, hk.2.2.on e⟩, e⟩
theorem Tm.theirs {w1 w2 w3 w4 : World} {B n : Nat} {t : Dt} {v : Value} (h : Dt.Lies w2 (Tr.L w1.heap.size w2) t v) (b3 : Below w2.heap.size w2 w3) (q : Sw.Rel (fun k => B ≤ k ∧ k < w1.heap.size ∧ Rm.Ub w3 k) n w3 w4) : Dt.Lies w4 (fun _ => True) t v :=
  h.on fun k hk => ⟨trivial, (q.out k (fun r => by have := r.2.1; have := hk.1; omega)).trans (b3.block k hk.2.1)⟩
set_option maxRecDepth 100000 in
set_option maxHeartbeats 4000000 in
theorem Law.templates (s : ByteArray) (w : World) (hT : Mp.T w) : Calls Tryz.prog 3 #[.string s] w fun e w' => e = .returned (.bool true) ∧ Below w.heap.size w w' := by
  have ps := fun u (h : Mp.T u) => Mp.parse s u h
  have rs := fun u => Tr.parse s u
  obtain ⟨cn, hfew, hcn⟩ := Tm.parse_few s
  have sp := fun v R u l hU => Sy.items R 32 u hU _ (Tm.parse s).1 (Nat.le_refl _) v 0 cn u l hfew (by omega) (Sw.Rel.refl _ _)
  have sa := fun v R v' R' u l l' => Sa.items _ (Tm.parse s).1 (Nat.le_refl _) v v' R R' u l l'
  have aw := fun u h => Mw.awake u h
  have nm := fun x u => Iw.num x u
  have HT := Lib.hid hT
  generalize (Tm.parse s).1 = X at *
  generalize (Tm.parse s).2 = E at *
  clear hT hfew hcn
  go_enter Tryz.func3, Tryz.ntmps3
  go_wp2_with (first
    | (go_at_call 8; with_reducible refine Calls.mono (ps _ HT.out) ?_; rintro e w1 ⟨a1, rfl, l1, b1⟩; have HL1 := Lib.hid l1; have HB1 := Lib.hid b1; clear l1 b1)
    | (go_at_call 9; with_reducible refine Calls.mono (rs _) ?_; rintro e w2 ⟨a2, rfl, l2, b2⟩; have HL2 := Lib.hid l2; have HM1 := Lib.hid (HL1.out.later b2); have HM2 := Lib.hid (l2.on (R' := fun _ => True) fun k _ => ⟨trivial, rfl⟩); have HV2 := Lib.hid b2; have HB2 := Lib.hid (Wk.below_step HB1.out b2); clear l2 b2 rs)
    | (go_at_call 10; with_reducible refine Calls.mono (sa _ _ _ _ _ HM1.out HM2.out) ?_; rintro e w3 ⟨rfl, b3⟩; have HM3 := Lib.hid (Tm.mine HL1.out HV2.out b3); have HV3 := Lib.hid b3; have HB3 := Lib.hid (Wk.below_step HB2.out b3); clear b3 HM1 HM2 HL1)
    | (go_at_call 12; with_reducible refine Calls.mono (sp _ _ _ HM3.out (fun k hk => hk.2.2)) ?_; rintro e w4 ⟨rfl, q4⟩; have HL4 := Lib.hid (Tm.theirs HL2.out HV3.out q4); have HB4 := Lib.hid (Tm.relBelow q4 HB3.out (fun k hk => hk.1)); clear q4 HM3 HL2 HV3 HV2)
    | (go_at_call 8; with_reducible refine Calls.mono (ps _ (HT.out.on HB4.out)) ?_; rintro e w5 ⟨a5, rfl, l5, b5⟩; have HC5 := Lib.hid l5; have HL5 := Lib.hid (HL4.out.later b5); have HB5 := Lib.hid (Wk.below_step HB4.out b5); clear l5 b5 HL4)
    | (go_at_call 10; with_reducible refine Calls.mono (sa _ _ _ _ _ HC5.out HL5.out) ?_; rintro e w7 ⟨rfl, b7⟩; have HB7 := Lib.hid (Wk.below_step HB5.out b7); clear b7 HC5 HL5)
    | (go_at_call 13; with_reducible refine Calls.mono (aw _ (HT.out.on HB7.out)) ?_; rintro e w11 ⟨rfl, b11⟩; have HB11 := Lib.hid (Wk.below_step HB7.out b11); clear b11)
    | (go_at_call 11; refine (nm _ _).mono ?_; rintro e w6 ⟨rfl, hw⟩; have hw := hw.symm; subst hw))
  go_ret
  exact ⟨rfl, HB11.out⟩
end Go.Proofs.YtjppobeomocgbaaGreatDoor
