/-
  WHAT ALL CARDS OF THIS SEAT SHARE: the tables of math/bits and internal/strconv out of the rows' lists, and a world for the witness in which they lie.
-/
import Derived.Test.YtggfemdnoccmeaaDoorCards
import Derived.Test.YtggfemdnoccmeaaDoorTie
import Derived.Test.YtggfemdnoccmeaaDoorReFmt
import Derived.WalkKit
import Derived.ProofKit
import Derived.OpenShut
import Derived.SizedLaws
import Derived.Deep.DeepHandedRow
import Derived.Lib.LaidU8
import Derived.PinnedBridge
namespace Go.Proofs.YtggfemdnoccmeaaDoor
open Go.ChangeShapes Go.WideShapes Go.ChangeAt Go.RowKit

theorem Fr.own : ownKnob Tryd.prog.godebug = none := by kernel_rfl
/-- a variable that reads as a table holds its numbers -/
theorem Fr.tab {P : Program} {W : World} {name : String} {k : IntKind} {zs : List Int} {g : Nat} {t e : TypeId} {n : Nat}
    (hg : P.globalNamed name = some g) (hty : (P.globals[g]?).map (·.type) = some t) (ht : P.underlying t = some (.array n e)) (he : P.underlying e = some (.int k)) (hce : P.cellsOf e = 1) (hct : P.cellsOf t = n)
    (h : Lib.VarReads P W name (Lib.tabData k zs)) : Lib.TabIs P W name k zs := by
  obtain ⟨g', t', cs, fuel, p, hg', ht', hvar, hd⟩ := h
  obtain rfl := Option.some.inj (hg.symm.trans hg')
  obtain rfl := Option.some.inj (hty.symm.trans ht')
  unfold Lib.TabIs
  rw [hvar, ← Lib.cells_of_tab ht he hce hct hd]
theorem Fr.e64 : (Rows.laid_math_bits_deBruijn64tab : DataW Unit) = Lib.tabData .u8 Re.tzTab := by kernel_rfl
theorem Fr.e10 : (Rows.laid_internal_strconv_uint64pow10 : DataW Unit) = Lib.tabData .u64 Lib.pow10Tab := by kernel_rfl

/-- WHAT THE ROWS' LIST GIVES: the tables lie as Go lays them. -/
theorem Fr.tabs {W : World} (h : laidMet Tryd.prog Rows.valuesRow.laid W) : Re.Tabs W := by
  have h2 := Lib.laidMet.reads h (.tail _ (.head _))
  have h3 := Lib.laidMet.reads h (.tail _ (.tail _ (.head _)))
  rw [Fr.e64] at h2
  rw [Fr.e10] at h3
  exact ⟨Fr.tab (g := 2) (t := 93) (by kernel_rfl) (by kernel_rfl) Tryd.underlying93 Tryd.underlying22 (by kernel_rfl) (by kernel_rfl) h3,
    Fr.tab (g := 1) (t := 90) (by kernel_rfl) (by kernel_rfl) Tryd.underlying90 Tryd.underlying5 (by kernel_rfl) (by kernel_rfl) h2⟩

/-- a block's cells, laid anew -/
def Fr.put (k : IntKind) (cs : List Nat) : Obj → Obj
  | .cells _ t frozen => .cells (cs.map fun z : Nat => Value.int k z).toArray t frozen
  | o => o
/-- FOR THE WITNESS's WORLD: the tables holding what their initialisers lay. -/
def Fr.lay (w : World) : World := { w with heap := ((w.heap.modify 1 (Fr.put .u8 Lib.deBruijn64tab)).modify 3 (Fr.put .u8 Lib.deBruijn32tab)).modify 2 (Fr.put .u64 ((List.range 20).map fun i => 10 ^ i)) }
/-- what an argument's kind says of it -/
theorem Fr.u64 {n : Int} (h : (Lit.int .u64 n).wf = true) : ∃ m : Nat, n = (m : Int) ∧ m < 18446744073709551616 := by
  simp [Lit.wf, IntKind.min, IntKind.max, IntKind.signed, IntKind.bits] at h
  exact ⟨n.toNat, by omega, by omega⟩
theorem Fr.i64 {n : Int} (h : (Lit.int .i64 n).wf = true) : -9223372036854775808 ≤ n ∧ n ≤ 9223372036854775807 := by
  simp [Lit.wf, IntKind.min, IntKind.max, IntKind.signed, IntKind.bits] at h
  omega
end Go.Proofs.YtggfemdnoccmeaaDoor
