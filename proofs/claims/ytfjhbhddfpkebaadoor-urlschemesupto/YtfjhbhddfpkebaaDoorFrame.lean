/-
  WHAT ALL CARDS OF THIS SEAT SHARE: the tables of unicode/utf8 out of the rows' lists, and a world for the witness in which they lie.
-/
import Derived.Test.YtfjhbhddfpkebaaDoorCards
import Derived.Test.YtfjhbhddfpkebaaDoorTie
import Derived.Test.YtfjhbhddfpkebaaDoorShelf
import Derived.WalkKit
import Derived.ProofKit
import Derived.OpenShut
import Derived.ShutString
import Derived.SizedLaws
import Derived.Deep.DeepHandedRow
import Derived.Lib.LaidU8
import Derived.PinnedBridge
namespace Go.Proofs.YtfjhbhddfpkebaaDoor
open Go.ChangeShapes Go.WideShapes Go.ChangeAt Go.RowKit

theorem Fr.own : ownKnob Tryd.prog.godebug = none := by kernel_rfl
set_option maxRecDepth 100000 in
theorem Fr.acc : (Rows.laid_unicode_utf8_acceptRanges : DataW Unit) = Lib.acceptData := by kernel_rfl
theorem Fr.extra : U8Extra Tryd.prog Sh.lays260_ren := ⟨by kernel_rfl, by kernel_rfl, by kernel_rfl, by kernel_rfl, by kernel_rfl, by kernel_rfl, by kernel_rfl⟩

/-- WHAT THE ROWS' LIST GIVES: the two tables lie as Go lays them. -/
theorem Fr.tabs {W : World} (h : laidMet Tryd.prog Rows.urlsRow.laid W) : Lib.Utf8Tabs 1 2 W := by
  have h4 := Lib.laidMet.reads h (.head _)
  have h3 := Lib.laidMet.reads h (.tail _ (.head _))
  have e3 : Rows.laid_unicode_utf8_first = Lib.firstData := Pinned.utf8First_eq
  rw [Fr.acc] at h4
  rw [e3] at h3
  exact utf8Tabs_of_reads (ρ := Sh.lays260_ren) Sh.lays260 Fr.extra h3 h4

/-- what the second form's condition says -/
theorem Fr.bulk {H : Type} {ds : List (DataW H)} (hk : Rows.uptoSmall H ds = true) : Rows.uptoBulkAll ds ≤ 1048576 := of_decide_eq_true hk

/-- a block's cells, laid anew -/
def Fr.put (cs : List Nat) : Obj → Obj
  | .cells _ t frozen => .cells (cs.map fun z : Nat => Value.int .u8 z).toArray t frozen
  | o => o
def Fr.ranges : List Nat := [128, 191, 160, 191, 128, 159, 144, 191, 128, 143, 0, 0, 0, 0, 0, 0, 0, 0, 0, 0, 0, 0, 0, 0, 0, 0, 0, 0, 0, 0, 0, 0]
/-- FOR THE WITNESS's WORLD: the two tables holding what their initialisers lay. -/
def Fr.lay (w : World) : World := { w with heap := (w.heap.modify 1 (Fr.put Pinned.utf8FirstZ)).modify 2 (Fr.put Fr.ranges) }
end Go.Proofs.YtfjhbhddfpkebaaDoor
