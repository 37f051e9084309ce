/-
  THE WALK of stolelaw14.Wordings: it returns true.
-/
import Derived.Test.YtnophkbbeipaaaaOAw
import Derived.Test.YtnophkbbeipaaaaOGood
import Derived.Test.YtnophkbbeipaaaaOSpoil
namespace Go.Proofs.Ytnophkbbeipaaaa
open Go.RowKit
/-- what turned was above -/
theorem Sw.Rel.below {R : Nat → Prop} {n B : Nat} {w w1 w2 : World} (h : Sw.Rel R n w1 w2) (hb : Below B w w1) (hR : ∀ k, R k → B ≤ k) : Below B w w2 :=
  ⟨h.os.trans hb.os, h.tape.trans hb.tape, h.output.trans hb.output, by rw [h.size]; exact hb.size, fun k hk => (h.out k (fun q => absurd (hR k q) (by omega))).trans (hb.block k hk)⟩
set_option maxRecDepth 100000 in
set_option maxHeartbeats 2000000 in
theorem Law.wordings (s : ByteArray) (w : World) (hT : Op.T w) (hs : s.size ≤ 1099511627776) : Calls Try.prog 3 #[.string s] w fun e w' => e = .returned (.bool true) ∧ Below w.heap.size w w' := by
  have c1 := fun u h => Op.words s u h hs
  have c2 := fun u => Lr.words s u hs
  have c3 := c1
  have aw := fun u h => Ow.awake u h
  obtain ⟨gd, _, gl⟩ := Wx.words_is s
  have gp : ∀ x ∈ (Wx.words s).1, x.path.length ≤ 8 ∧ ∀ t ∈ x.path, t.length ≤ 32 := fun x hx => Wx.good_path (gd x hx)
  generalize (Wx.words s).1 = PS at *
  generalize (Wx.words s).2 = E at *
  have hm : PS.length ≤ 4398046511104 := by omega
  have GP := Lib.hid gp
  have HT := Lib.hid hT
  have nm := fun x u => Ow.num x u
  clear hT gp gd gl hs
  go_enter Try.func3, Try.ntmps3
  go_wp2_with (first | (go_at_call 7; refine (c1 _ HT.out).mono ?_; rintro e w1 ⟨v1, rfl, l1, b1⟩; obtain ⟨a1, d1, rfl, hd1, _⟩ := id l1; have HL1 := Lib.hid l1; have HB1 := Lib.hid b1; clear l1 b1 c1) | (go_at_call 8; refine (c2 _).mono ?_; rintro e w2 ⟨v2, rfl, l2, b2⟩; have HL2 : Hid (Wo.Lies w2 (fun k => (w.heap.size ≤ k ∧ k < w1.heap.size) ∧ Rm.Ub w2 k) PS (.slice a1 PS.length d1)) := (HL1.out.on fun k hk => ⟨⟨⟨hk.1, hk.2.1⟩, hk.2.2.on (b2.block k hk.2.1)⟩, b2.block k hk.2.1⟩); have HB2 := Lib.hid (Wk.below_step HB1.out b2); have HM2 := Lib.hid l2; clear l2 b2 c2 HL1) | (go_at_call 9; refine (Sa.words PS (.slice a1 PS.length d1) _ _ _ _ HL2.out HM2.out).mono ?_; rintro e w3 ⟨rfl, n3, rfl⟩) | (go_at_call 10; refine (nm _ _).mono ?_; rintro e w' ⟨rfl, hw⟩; have hw := hw.symm; subst hw) | (go_at_call 11; refine (Sw.words (fun k => w.heap.size ≤ k ∧ k < w1.heap.size) a1 PS.length d1 32 (w2.drewN n3) (Sw.Wrds.of HL2.out GP.out) hm hd1 (by decide)).mono ?_; rintro e w4 ⟨rfl, r4⟩; have HB4 := Lib.hid (r4.below (Ow.drewN HB2.out n3) (fun k hk => hk.1)); have HM4 : Hid (Wo.Lies w4 (fun k => w1.heap.size ≤ k ∧ k < w4.heap.size ∧ Rm.Ub w4 k) PS v2) := (HM2.out.on fun k hk => ⟨⟨hk.1, Nat.lt_of_lt_of_le hk.2.1 (Nat.le_of_eq r4.size.symm), hk.2.2.on (r4.out k (fun q => by omega))⟩, r4.out k (fun q => by omega)⟩); clear r4 HL2 HM2 GP) | (go_at_call 7; refine (c3 _ (HT.out.on HB4.out)).mono ?_; rintro e w5 ⟨v5, rfl, l5, b5⟩; have HM5 := Lib.hid (HM4.out.below b5); have HB5 := Lib.hid (Wk.below_step HB4.out b5); have HL5 := Lib.hid l5; clear l5 b5 c3 HM4) | (go_at_call 9; refine (Sa.words PS v5 _ _ _ _ HL5.out HM5.out).mono ?_; rintro e w6 ⟨rfl, n6, rfl⟩; have HB6 := Lib.hid (Ow.drewN HB5.out n6)) | (go_at_call 12; refine (aw _ (HT.out.on HB6.out)).mono ?_; rintro e w7 ⟨rfl, b7⟩; have HB7 := Lib.hid (Wk.below_step HB6.out b7); clear b7))
  go_ret
  exact ⟨rfl, HB7.out⟩
end Go.Proofs.Ytnophkbbeipaaaa
