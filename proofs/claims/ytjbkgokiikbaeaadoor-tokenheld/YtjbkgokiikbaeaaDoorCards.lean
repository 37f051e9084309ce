/-
  DERIVED. GIVEN WITH THE SEED: THE CARDS: each row of YtjbkgokiikbaeaaDoorRows.lean that lists a variable, with what it lists TIED to the program's text (the seventh form; the later family's looks); each row that meets fmt, with fmt's text TOLD by the authors' own Lean function (tested against real Go, not proved from fmt's source: count such statements apart). THE CARD IS WHAT COUNTS. Prove the row's statement (the work); the ties are given (YtjbkgokiikbaeaaDoorTie.lean); close each card by the builder's one call (the guide's Derived/Test/ToyasCard.lean, 'card_holds'). Laid BY PROGRAM, IN A SANDBOX (cutbox-door.mjs). By AI agents, Wed Nov 11 2026. No macro, syntax, notation, axiom, sorry.
-/
import Derived.Test.YtjbkgokiikbaeaaDoorRows
import GoSem.ClaimSeven
namespace Go.Proofs.YtjbkgokiikbaeaaDoor
namespace Rows

/-- THE TIED CARD OF 'stolelaw5.TokenTexts'. -/
def tokenTextsCard : Claim7 := { stood := { row := tokenTextsRow, standIns := [], harness := (true, "550ad566e2e2706351d623b9a56448849a784002dd0372f47efc5143c67c4054"), looks := false }, kinds := [], alts := [], laidByText := true, laidKinds := [.data, .pinned], laidTests := true, laidLooks := .later }
def TokenTextsCardSaid : Prop := Claim7.holds Tryd.pinned (.plain (OpenSpec.ofChange tokenTextsSpec)) tokenTextsCard

/-- THE TIED CARD OF 'stolelaw5.TokenHeld'. -/
def tokenHeldCard : Claim7 := { stood := { row := tokenHeldRow, standIns := [], harness := (true, "550ad566e2e2706351d623b9a56448849a784002dd0372f47efc5143c67c4054"), looks := false }, kinds := [], alts := [], laidByText := true, laidKinds := [.data, .pinned], laidTests := true, laidLooks := .later }
def TokenHeldCardSaid : Prop := Claim7.holds Tryd.pinned (.plain (OpenSpec.ofChange tokenHeldSpec)) tokenHeldCard

/-- THE TIED CARD OF 'stolelaw5.TokenComments'. -/
def tokenCommentsCard : Claim7 := { stood := { row := tokenCommentsRow, standIns := [], harness := (true, "550ad566e2e2706351d623b9a56448849a784002dd0372f47efc5143c67c4054"), looks := false }, kinds := [], alts := [], laidByText := true, laidKinds := [.data, .pinned], laidTests := true, laidLooks := .later }
def TokenCommentsCardSaid : Prop := Claim7.holds Tryd.pinned (.plain (OpenSpec.ofChange tokenCommentsSpec)) tokenCommentsCard

/-- THE SECOND FORM's CARD OF 'stolelaw5.TokenTexts'. -/
def tokenTextsUptoCard : Claim7 := { stood := { row := tokenTextsUptoRow, standIns := [], harness := (true, "550ad566e2e2706351d623b9a56448849a784002dd0372f47efc5143c67c4054"), looks := false }, kinds := [], alts := [], laidByText := true, laidKinds := [.data, .pinned], laidTests := true, laidLooks := .later }
def TokenTextsUptoCardSaid : Prop := Claim7.holds Tryd.pinned (.plain (OpenSpec.upto tokenTextsSpec)) tokenTextsUptoCard

/-- THE SECOND FORM's CARD OF 'stolelaw5.TokenHeld'. -/
def tokenHeldUptoCard : Claim7 := { stood := { row := tokenHeldUptoRow, standIns := [], harness := (true, "550ad566e2e2706351d623b9a56448849a784002dd0372f47efc5143c67c4054"), looks := false }, kinds := [], alts := [], laidByText := true, laidKinds := [.data, .pinned], laidTests := true, laidLooks := .later }
def TokenHeldUptoCardSaid : Prop := Claim7.holds Tryd.pinned (.plain (OpenSpec.upto tokenHeldSpec)) tokenHeldUptoCard

/-- THE SECOND FORM's CARD OF 'stolelaw5.TokenComments'. -/
def tokenCommentsUptoCard : Claim7 := { stood := { row := tokenCommentsUptoRow, standIns := [], harness := (true, "550ad566e2e2706351d623b9a56448849a784002dd0372f47efc5143c67c4054"), looks := false }, kinds := [], alts := [], laidByText := true, laidKinds := [.data, .pinned], laidTests := true, laidLooks := .later }
def TokenCommentsUptoCardSaid : Prop := Claim7.holds Tryd.pinned (.plain (OpenSpec.upto tokenCommentsSpec)) tokenCommentsUptoCard
end Rows
end Go.Proofs.YtjbkgokiikbaeaaDoor
