/-
  THE WALK of stoleref5.tokenMay.
-/
import Derived.Test.YtblpkjlodncpeaaGreatDoorAPlaintoUShape
import Derived.Test.YtblpkjlodncpeaaGreatDoorATMemtoUNd
import Derived.Test.YtblpkjlodncpeaaGreatDoorAKPlaintoNorm
import Derived.Deep.QuietTactic
import Derived.BigQuiet
import Derived.Deep.CutRange
namespace Go.Proofs.YtblpkjlodncpeaaGreatDoor
open Go.RowKit
theorem Um.empty (s : ByteArray) : s.toList = [] ↔ s = Ts.e := by
  rw [ByteArray.toList_eq]
  constructor
  · intro h
    apply ByteArray.ext
    show s.data = #[]
    exact Array.toList_inj.1 (by rw [h])
  · rintro rfl
    rfl
theorem Um.drews {B : Nat} {a w : World} (h : Below B a w) (n : Nat) : Below B a (w.drewN n) := ⟨h.os, h.tape, h.output, h.size, h.block⟩
theorem Um.toList_ne {a b : ByteArray} (h : ¬ a = b) : (a.toList == b.toList) = false := by
  refine beq_eq_false_iff_ne.2 fun e => h ?_
  rw [ByteArray.toList_eq, ByteArray.toList_eq] at e
  exact ByteArray.ext (Array.toList_inj.1 e)
theorem Um.bool (p : Prop) : ∃ b : Bool, b = true ↔ p := by
  by_cases h : p
  · exact ⟨true, fun _ => h, fun _ => rfl⟩
  · exact ⟨false, (fun q => by cases q), fun q => absurd q h⟩
end Go.Proofs.YtblpkjlodncpeaaGreatDoor
