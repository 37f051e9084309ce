/-
  THE WALK of stolelaw13.Splits: it returns true.
-/
import Derived.Test.YtfcmcmokmhklhaaDoorLAw
import Derived.Test.YtfcmcmokmhklhaaDoorLRef4
namespace Go.Proofs.YtfcmcmokmhklhaaDoor
open Go.RowKit
set_option maxRecDepth 100000 in
set_option maxHeartbeats 2000000 in
theorem Law.splits (s : ByteArray) (w : World) (hT : Lp.T w) : Calls Tryd.prog 3 #[.string s] w fun e w' => e = .returned (.bool true) ∧ Below w.heap.size w w' := by
  have c1 := fun u h => Lp.split s u h
  have c2 := fun u => Lr.split s u
  have aw := fun u h => Lw.awake u h
  generalize (Lx.split s).1 = PS at *
  generalize (Lx.split s).2 = E at *
  have HT := Lib.hid hT
  have nm := fun x u => Lw.num x u
  clear hT
  go_enter Tryd.func3, Tryd.ntmps3
  go_wp2_with (first | (go_at_call 8; refine (c1 _ HT.out).mono ?_; rintro e w1 ⟨v1, rfl, l1, b1⟩; have HL1 := Lib.hid l1; have HB1 := Lib.hid b1; clear l1 b1 c1) | (go_at_call 9; refine (c2 _).mono ?_; rintro e w2 ⟨v2, rfl, l2, b2⟩; have HL2 := Lib.hid (Pc.Lies.below HL1.out b2); have HB2 := Lib.hid (Wk.below_step HB1.out b2); have HM2 := Lib.hid l2; clear l2 b2 c2 HL1) | (go_at_call 10; refine (Sa.pieces _ _ _ _ _ _ HL2.out HM2.out).mono ?_; rintro e w3 ⟨rfl, n3, rfl⟩; have HB3 := Lib.hid (Lw.drewN HB2.out n3)) | (go_at_call 11; refine (nm _ _).mono ?_; rintro e w' ⟨rfl, hw⟩; have hw := hw.symm; subst hw) | (go_at_call 12; refine (aw _ (HT.out.on HB3.out)).mono ?_; rintro e w4 ⟨rfl, b4⟩; have HB4 := Lib.hid (Wk.below_step HB3.out b4); clear b4))
  go_ret
  exact ⟨rfl, HB4.out⟩
end Go.Proofs.YtfcmcmokmhklhaaDoor
