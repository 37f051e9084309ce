/-
  DERIVED. GIVEN WITH THE SEED: THE CARDS: each row of YtboalkfagfgnpaaGreatDoorRows.lean that lists a variable, with what it lists TIED to the program's text (the seventh form; the later family's looks); each row that meets fmt, with fmt's text TOLD by the authors' own Lean function (tested against real Go, not proved from fmt's source: count such statements apart). THE CARD IS WHAT COUNTS. Prove the row's statement (the work); the ties are given (YtboalkfagfgnpaaGreatDoorTie.lean); close each card by the builder's one call (the guide's Derived/Test/ToyasCard.lean, 'card_holds'). Laid BY PROGRAM, IN A SANDBOX (cutbox-door.mjs). By AI agents, Wed Nov 11 2026. No macro, syntax, notation, axiom, sorry.
-/
import Derived.Test.YtboalkfagfgnpaaGreatDoorRows
import GoSem.ClaimSeven
namespace Go.Proofs.YtboalkfagfgnpaaGreatDoor
namespace Rows

/-- THE TIED CARD OF 'stolelaw10.Jsons'. -/
def jsonsCard : Claim7 := { stood := { row := jsonsRow, standIns := [], harness := (true, "cc045a14d33401a1b746484155b31634568eae0a7b3e0f33c0335ed801f73723"), looks := true }, kinds := [], alts := [], laidByText := true, laidKinds := [.data, .data, .data, .data, .pinned], laidTests := true, laidLooks := .later }
def JsonsCardSaid : Prop := Claim7.holds Tryz.pinned (.plain (OpenSpec.ofChange jsonsSpec)) jsonsCard

/-- THE TIED CARD OF 'stolelaw10.JsonBack'. -/
def jsonBackCard : Claim7 := { stood := { row := jsonBackRow, standIns := [], harness := (true, "cc045a14d33401a1b746484155b31634568eae0a7b3e0f33c0335ed801f73723"), looks := true }, kinds := [], alts := [], laidByText := true, laidKinds := [.data, .data, .data, .data, .pinned], laidTests := true, laidLooks := .later }
def JsonBackCardSaid : Prop := Claim7.holds Tryz.pinned (.plain (OpenSpec.ofChange jsonBackSpec)) jsonBackCard

/-- THE SECOND FORM's CARD OF 'stolelaw10.Jsons'. -/
def jsonsUptoCard : Claim7 := { stood := { row := jsonsUptoRow, standIns := [], harness := (true, "cc045a14d33401a1b746484155b31634568eae0a7b3e0f33c0335ed801f73723"), looks := true }, kinds := [], alts := [], laidByText := true, laidKinds := [.data, .data, .data, .data, .pinned], laidTests := true, laidLooks := .later }
def JsonsUptoCardSaid : Prop := Claim7.holds Tryz.pinned (.plain (OpenSpec.upto jsonsSpec)) jsonsUptoCard

/-- THE SECOND FORM's CARD OF 'stolelaw10.JsonBack'. -/
def jsonBackUptoCard : Claim7 := { stood := { row := jsonBackUptoRow, standIns := [], harness := (true, "cc045a14d33401a1b746484155b31634568eae0a7b3e0f33c0335ed801f73723"), looks := true }, kinds := [], alts := [], laidByText := true, laidKinds := [.data, .data, .data, .data, .pinned], laidTests := true, laidLooks := .later }
def JsonBackUptoCardSaid : Prop := Claim7.holds Tryz.pinned (.plain (OpenSpec.upto jsonBackSpec)) jsonBackUptoCard
end Rows
end Go.Proofs.YtboalkfagfgnpaaGreatDoor
