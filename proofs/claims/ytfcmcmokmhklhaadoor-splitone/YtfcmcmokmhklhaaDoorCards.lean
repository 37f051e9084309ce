/-
  DERIVED. GIVEN WITH THE SEED: THE CARDS: each row of YtfcmcmokmhklhaaDoorRows.lean that lists a variable, with what it lists TIED to the program's text (the seventh form; the later family's looks); each row that meets fmt, with fmt's text TOLD by the authors' own Lean function (tested against real Go, not proved from fmt's source: count such statements apart). THE CARD IS WHAT COUNTS. Prove the row's statement (the work); the ties are given (YtfcmcmokmhklhaaDoorTie.lean); close each card by the builder's one call (the guide's Derived/Test/ToyasCard.lean, 'card_holds'). Laid BY PROGRAM, IN A SANDBOX (cutbox-door.mjs). By AI agents, Wed Nov 11 2026. No macro, syntax, notation, axiom, sorry.
-/
import Derived.Test.YtfcmcmokmhklhaaDoorRows
import GoSem.ClaimSeven
namespace Go.Proofs.YtfcmcmokmhklhaaDoor
namespace Rows

/-- THE TIED CARD OF 'stolelaw13.Splits'. -/
def splitsCard : Claim7 := { stood := { row := splitsRow, standIns := [], harness := (true, "a4f88575c2e09343bc3d5abead8a2bb276dd2a7a6cd0fca524586c5da7ce16aa"), looks := false }, kinds := [], alts := [], laidByText := true, laidKinds := [.data, .pinned], laidTests := true, laidLooks := .later }
def SplitsCardSaid : Prop := Claim7.holds Tryd.pinned (.plain (OpenSpec.ofChange splitsSpec)) splitsCard

/-- THE TIED CARD OF 'stolelaw13.SplitPlain'. -/
def splitPlainCard : Claim7 := { stood := { row := splitPlainRow, standIns := [], harness := (true, "a4f88575c2e09343bc3d5abead8a2bb276dd2a7a6cd0fca524586c5da7ce16aa"), looks := false }, kinds := [], alts := [], laidByText := true, laidKinds := [.data, .pinned], laidTests := true, laidLooks := .later }
def SplitPlainCardSaid : Prop := Claim7.holds Tryd.pinned (.plain (OpenSpec.ofChange splitPlainSpec)) splitPlainCard

/-- THE TIED CARD OF 'stolelaw13.SplitTrims'. -/
def splitTrimsCard : Claim7 := { stood := { row := splitTrimsRow, standIns := [], harness := (true, "a4f88575c2e09343bc3d5abead8a2bb276dd2a7a6cd0fca524586c5da7ce16aa"), looks := false }, kinds := [], alts := [], laidByText := true, laidKinds := [.data, .pinned], laidTests := true, laidLooks := .later }
def SplitTrimsCardSaid : Prop := Claim7.holds Tryd.pinned (.plain (OpenSpec.ofChange splitTrimsSpec)) splitTrimsCard

/-- THE TIED CARD OF 'stolelaw13.SplitOne'. -/
def splitOneCard : Claim7 := { stood := { row := splitOneRow, standIns := [], harness := (true, "a4f88575c2e09343bc3d5abead8a2bb276dd2a7a6cd0fca524586c5da7ce16aa"), looks := false }, kinds := [], alts := [], laidByText := true, laidKinds := [.data, .pinned], laidTests := true, laidLooks := .later }
def SplitOneCardSaid : Prop := Claim7.holds Tryd.pinned (.plain (OpenSpec.ofChange splitOneSpec)) splitOneCard

/-- THE TIED CARD OF 'stolelaw13.SplitForms'. -/
def splitFormsCard : Claim7 := { stood := { row := splitFormsRow, standIns := [], harness := (true, "a4f88575c2e09343bc3d5abead8a2bb276dd2a7a6cd0fca524586c5da7ce16aa"), looks := false }, kinds := [], alts := [], laidByText := true, laidKinds := [.data, .pinned], laidTests := true, laidLooks := .later }
def SplitFormsCardSaid : Prop := Claim7.holds Tryd.pinned (.plain (OpenSpec.ofChange splitFormsSpec)) splitFormsCard

/-- THE SECOND FORM's CARD OF 'stolelaw13.Splits'. -/
def splitsUptoCard : Claim7 := { stood := { row := splitsUptoRow, standIns := [], harness := (true, "a4f88575c2e09343bc3d5abead8a2bb276dd2a7a6cd0fca524586c5da7ce16aa"), looks := false }, kinds := [], alts := [], laidByText := true, laidKinds := [.data, .pinned], laidTests := true, laidLooks := .later }
def SplitsUptoCardSaid : Prop := Claim7.holds Tryd.pinned (.plain (OpenSpec.upto splitsSpec)) splitsUptoCard

/-- THE SECOND FORM's CARD OF 'stolelaw13.SplitPlain'. -/
def splitPlainUptoCard : Claim7 := { stood := { row := splitPlainUptoRow, standIns := [], harness := (true, "a4f88575c2e09343bc3d5abead8a2bb276dd2a7a6cd0fca524586c5da7ce16aa"), looks := false }, kinds := [], alts := [], laidByText := true, laidKinds := [.data, .pinned], laidTests := true, laidLooks := .later }
def SplitPlainUptoCardSaid : Prop := Claim7.holds Tryd.pinned (.plain (OpenSpec.upto splitPlainSpec)) splitPlainUptoCard

/-- THE SECOND FORM's CARD OF 'stolelaw13.SplitTrims'. -/
def splitTrimsUptoCard : Claim7 := { stood := { row := splitTrimsUptoRow, standIns := [], harness := (true, "a4f88575c2e09343bc3d5abead8a2bb276dd2a7a6cd0fca524586c5da7ce16aa"), looks := false }, kinds := [], alts := [], laidByText := true, laidKinds := [.data, .pinned], laidTests := true, laidLooks := .later }
def SplitTrimsUptoCardSaid : Prop := Claim7.holds Tryd.pinned (.plain (OpenSpec.upto splitTrimsSpec)) splitTrimsUptoCard

/-- THE SECOND FORM's CARD OF 'stolelaw13.SplitOne'. -/
def splitOneUptoCard : Claim7 := { stood := { row := splitOneUptoRow, standIns := [], harness := (true, "a4f88575c2e09343bc3d5abead8a2bb276dd2a7a6cd0fca524586c5da7ce16aa"), looks := false }, kinds := [], alts := [], laidByText := true, laidKinds := [.data, .pinned], laidTests := true, laidLooks := .later }
def SplitOneUptoCardSaid : Prop := Claim7.holds Tryd.pinned (.plain (OpenSpec.upto splitOneSpec)) splitOneUptoCard

/-- THE SECOND FORM's CARD OF 'stolelaw13.SplitForms'. -/
def splitFormsUptoCard : Claim7 := { stood := { row := splitFormsUptoRow, standIns := [], harness := (true, "a4f88575c2e09343bc3d5abead8a2bb276dd2a7a6cd0fca524586c5da7ce16aa"), looks := false }, kinds := [], alts := [], laidByText := true, laidKinds := [.data, .pinned], laidTests := true, laidLooks := .later }
def SplitFormsUptoCardSaid : Prop := Claim7.holds Tryd.pinned (.plain (OpenSpec.upto splitFormsSpec)) splitFormsUptoCard
end Rows
end Go.Proofs.YtfcmcmokmhklhaaDoor
