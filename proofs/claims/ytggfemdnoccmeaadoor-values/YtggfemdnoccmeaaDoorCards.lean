/-
  DERIVED. GIVEN WITH THE SEED: THE CARDS: each row of YtggfemdnoccmeaaDoorRows.lean that lists a variable, with what it lists TIED to the program's text (the seventh form; the later family's looks); each row that meets fmt, with fmt's text TOLD by the authors' own Lean function (tested against real Go, not proved from fmt's source: count such statements apart). THE CARD IS WHAT COUNTS. Prove the row's statement (the work); the ties are given (YtggfemdnoccmeaaDoorTie.lean); close each card by the builder's one call (the guide's Derived/Test/ToyasCard.lean, 'card_holds'). Laid BY PROGRAM, IN A SANDBOX (cutbox-door.mjs). By AI agents, Wed Nov 11 2026. No macro, syntax, notation, axiom, sorry.
-/
import Derived.Test.YtggfemdnoccmeaaDoorRows
import GoSem.ClaimSeven
namespace Go.Proofs.YtggfemdnoccmeaaDoor
namespace Rows

/-- THE TIED CARD OF 'stolelaw4.Values'. -/
def valuesCard : Claim7 := { stood := { row := valuesRow, standIns := [], harness := (true, "164ce41ba3fdb40de5b59ca1e24864021b03d437867751c13ca17d70ccf4686e"), looks := false }, kinds := [], alts := [], laidByText := true, laidKinds := [.data, .data, .data], laidTests := true, laidLooks := .later }
def ValuesCardSaid : Prop := Claim7.holds Tryd.pinned (.plain (OpenSpec.ofChange valuesSpec)) valuesCard

/-- THE SECOND FORM's CARD OF 'stolelaw4.Values'. -/
def valuesUptoCard : Claim7 := { stood := { row := valuesUptoRow, standIns := [], harness := (true, "164ce41ba3fdb40de5b59ca1e24864021b03d437867751c13ca17d70ccf4686e"), looks := false }, kinds := [], alts := [], laidByText := true, laidKinds := [.data, .data, .data], laidTests := true, laidLooks := .later }
def ValuesUptoCardSaid : Prop := Claim7.holds Tryd.pinned (.plain (OpenSpec.upto valuesSpec)) valuesUptoCard
end Rows
end Go.Proofs.YtggfemdnoccmeaaDoor
