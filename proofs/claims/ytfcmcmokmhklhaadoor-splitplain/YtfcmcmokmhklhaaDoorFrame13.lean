/-
  WHAT ALL CARDS OF THIS SEAT SHARE: the cell of internal/bytealg.MaxLen in a world of the program's shape, and a world for the witness in which the listed tables lie.
-/
import Derived.Test.YtfcmcmokmhklhaaDoorCards
import Derived.Test.YtfcmcmokmhklhaaDoorTie
import Derived.Test.YtfcmcmokmhklhaaDoorGKit
import Derived.WalkKit
import Derived.ProofKit
import Derived.OpenShut
import Derived.ShutString
import Derived.Shelf.Vars
import Derived.SizedLaws
import Derived.LaidLaws
import Derived.Deep.DeepHandedRow
import Derived.Lib.LaidU8
import Derived.PinnedBridge
namespace Go.Proofs.YtfcmcmokmhklhaaDoor
open Go.ChangeShapes Go.WideShapes Go.ChangeAt Go.RowKit

theorem Fr.own : ownKnob Tryd.prog.godebug = none := by kernel_rfl
/-- in a world of the program's shape MaxLen holds some int -/
theorem Fr.maxLen {W : World} (h : W.ShapedOpen Tryd.prog) : ∃ m, W.cell? ⟨0, 0, none⟩ = some (.int .i64 m) :=
  Go.Proofs.cell_of_shapedOpen_int (zero := #[.int .i64 0]) (t := 3) h (of_decide_eq_true (by kernel_rfl)) (by kernel_rfl) rfl (by kernel_rfl) (by kernel_rfl) Tryd.underlying3
/-- a block's cells, laid anew -/
def Fr.put (cs : List Nat) : Obj → Obj
  | .cells _ t frozen => .cells (cs.map fun z : Nat => Value.int .u8 z).toArray t frozen
  | o => o
def Fr.ranges : List Nat := [128, 191, 160, 191, 128, 159, 144, 191, 128, 143, 0, 0, 0, 0, 0, 0, 0, 0, 0, 0, 0, 0, 0, 0, 0, 0, 0, 0, 0, 0, 0, 0]
/-- FOR THE WITNESS's WORLD: the two tables holding what their initialisers lay. -/
def Fr.lay (w : World) : World := { w with heap := (w.heap.modify 1 (Fr.put Pinned.utf8FirstZ)).modify 2 (Fr.put Fr.ranges) }
/-- what an argument's kind says of it -/
theorem Fr.i64 {n : Int} (h : (Lit.int .i64 n).wf = true) : -9223372036854775808 ≤ n ∧ n ≤ 9223372036854775807 := by
  simp [Lit.wf, IntKind.min, IntKind.max, IntKind.signed, IntKind.bits] at h
  omega
end Go.Proofs.YtfcmcmokmhklhaaDoor
