/-
  THE WALK of stolelaw2.awake: it returns true, and turns nothing that was there.
-/
import Derived.Test.YtpehplamidbkeaaDoorRDec
import Derived.Test.YtpehplamidbkeaaDoorREnc
namespace Go.Proofs.YtpehplamidbkeaaDoor
open Go.RowKit

theorem Aw.enc (w : World) (hT : Lib.Utf8Tabs 1 2 w) :
    Calls Tryd.prog 9 #[.string ⟨#[97, 60, 38, 62, 34, 39, 13, 0]⟩] w fun e w' => e = .returned (.string ⟨#[97, 38, 108, 116, 59, 38, 97, 109, 112, 59, 38, 103, 116, 59, 38, 113, 117, 111, 116, 59, 38, 35, 51, 57, 59, 38, 35, 49, 51, 59, 239, 191, 189]⟩) ∧ Below w.heap.size w w' := by
  have h := Re.encode ⟨#[97, 60, 38, 62, 34, 39, 13, 0]⟩ w hT (by decide)
  have e : Pl.encL [97, 60, 38, 62, 34, 39, 13, 0] = [97, 38, 108, 116, 59, 38, 97, 109, 112, 59, 38, 103, 116, 59, 38, 113, 117, 111, 116, 59, 38, 35, 51, 57, 59, 38, 35, 49, 51, 59, 239, 191, 189] := by decide +kernel
  have e' : Pl.encL (⟨#[97, 60, 38, 62, 34, 39, 13, 0]⟩ : ByteArray).data.toList = [97, 38, 108, 116, 59, 38, 97, 109, 112, 59, 38, 103, 116, 59, 38, 113, 117, 111, 116, 59, 38, 35, 51, 57, 59, 38, 35, 49, 51, 59, 239, 191, 189] := e
  rw [e'] at h
  exact h
theorem Aw.dec (w : World) :
    Calls Tryd.prog 11 #[.string ⟨#[38, 97, 109, 112, 59, 38, 108, 116, 38, 35, 54, 53, 59, 38, 35, 120, 49, 70, 54, 48, 48, 59, 38, 35, 48, 59, 38, 99, 111, 112, 121, 59, 38, 120, 59]⟩] w fun e w' => e = .returned (.string ⟨#[38, 38, 108, 116, 65, 240, 159, 152, 128, 239, 191, 189, 194, 169, 38, 120, 59]⟩) ∧ Below w.heap.size w w' := by
  have h := Rr.decode ⟨#[38, 97, 109, 112, 59, 38, 108, 116, 38, 35, 54, 53, 59, 38, 35, 120, 49, 70, 54, 48, 48, 59, 38, 35, 48, 59, 38, 99, 111, 112, 121, 59, 38, 120, 59]⟩ w (by decide)
  have e : Pl.decL [38, 97, 109, 112, 59, 38, 108, 116, 38, 35, 54, 53, 59, 38, 35, 120, 49, 70, 54, 48, 48, 59, 38, 35, 48, 59, 38, 99, 111, 112, 121, 59, 38, 120, 59] = [38, 38, 108, 116, 65, 240, 159, 152, 128, 239, 191, 189, 194, 169, 38, 120, 59] := by decide +kernel
  have e' : Pl.decL (⟨#[38, 97, 109, 112, 59, 38, 108, 116, 38, 35, 54, 53, 59, 38, 35, 120, 49, 70, 54, 48, 48, 59, 38, 35, 48, 59, 38, 99, 111, 112, 121, 59, 38, 120, 59]⟩ : ByteArray).data.toList = [38, 38, 108, 116, 65, 240, 159, 152, 128, 239, 191, 189, 194, 169, 38, 120, 59] := e
  rw [e'] at h
  exact h
set_option maxHeartbeats 1000000 in
theorem Aw.awake (w : World) (hT : Lib.Utf8Tabs 1 2 w) : Calls Tryd.prog 13 #[] w fun e w' => e = .returned (.bool true) ∧ Below w.heap.size w w' := by
  go_enter Tryd.func13, Tryd.ntmps13
  go_wp2_with fail
  refine (Aw.enc w hT).mono ?_
  rintro e w1 ⟨rfl, b1⟩
  go_wp2_with fail
  refine (Aw.dec w1).mono ?_
  rintro e w2 ⟨rfl, b2⟩
  have b2' := Wk.below_step b1 b2
  clear b1 b2
  go_wp2_with fail
  refine (Wk.num w2).mono ?_
  rintro e w3 ⟨rfl, rfl⟩
  go_wp2
  go_ret
  exact ⟨rfl, b2'⟩
end Go.Proofs.YtpehplamidbkeaaDoor
