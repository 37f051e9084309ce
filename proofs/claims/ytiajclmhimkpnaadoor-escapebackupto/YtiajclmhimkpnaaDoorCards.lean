/-
  DERIVED. GIVEN WITH THE SEED: THE CARDS: each row of YtiajclmhimkpnaaDoorRows.lean that lists a variable, with what it lists TIED to the program's text (the seventh form; the later family's looks); each row that meets fmt, with fmt's text TOLD by the authors' own Lean function (tested against real Go, not proved from fmt's source: count such statements apart). THE CARD IS WHAT COUNTS. Prove the row's statement (the work); the ties are given (YtiajclmhimkpnaaDoorTie.lean); close each card by the builder's one call (the guide's Derived/Test/ToyasCard.lean, 'card_holds'). Laid BY PROGRAM, IN A SANDBOX (cutbox-door.mjs). By AI agents, Wed Nov 11 2026. No macro, syntax, notation, axiom, sorry.
-/
import Derived.Test.YtiajclmhimkpnaaDoorRows
import GoSem.ClaimSeven
namespace Go.Proofs.YtiajclmhimkpnaaDoor
namespace Rows

/-- THE TIED CARD OF 'stolelaw11.Escapes'. -/
def escapesCard : Claim7 := { stood := { row := escapesRow, standIns := [], harness := (true, "8208bb7389b79ecb27113f2c38ddae442d4b43d0adeefb8d05bdbc118ca83db1"), looks := true }, kinds := [], alts := [], laidByText := true, laidKinds := [.data, .pinned], laidTests := true, laidLooks := .later }
def EscapesCardSaid : Prop := Claim7.holds Tryd.pinned (.plain (OpenSpec.ofChange escapesSpec)) escapesCard

/-- THE TIED CARD OF 'stolelaw11.EscapeBack'. -/
def escapeBackCard : Claim7 := { stood := { row := escapeBackRow, standIns := [], harness := (true, "8208bb7389b79ecb27113f2c38ddae442d4b43d0adeefb8d05bdbc118ca83db1"), looks := true }, kinds := [], alts := [], laidByText := true, laidKinds := [.data, .pinned], laidTests := true, laidLooks := .later }
def EscapeBackCardSaid : Prop := Claim7.holds Tryd.pinned (.plain (OpenSpec.ofChange escapeBackSpec)) escapeBackCard

/-- THE TIED CARD OF 'stolelaw11.EscapeBytes'. -/
def escapeBytesCard : Claim7 := { stood := { row := escapeBytesRow, standIns := [], harness := (true, "8208bb7389b79ecb27113f2c38ddae442d4b43d0adeefb8d05bdbc118ca83db1"), looks := true }, kinds := [], alts := [], laidByText := true, laidKinds := [.data, .pinned], laidTests := true, laidLooks := .later }
def EscapeBytesCardSaid : Prop := Claim7.holds Tryd.pinned (.plain (OpenSpec.ofChange escapeBytesSpec)) escapeBytesCard

/-- THE SECOND FORM's CARD OF 'stolelaw11.Escapes'. -/
def escapesUptoCard : Claim7 := { stood := { row := escapesUptoRow, standIns := [], harness := (true, "8208bb7389b79ecb27113f2c38ddae442d4b43d0adeefb8d05bdbc118ca83db1"), looks := true }, kinds := [], alts := [], laidByText := true, laidKinds := [.data, .pinned], laidTests := true, laidLooks := .later }
def EscapesUptoCardSaid : Prop := Claim7.holds Tryd.pinned (.plain (OpenSpec.upto escapesSpec)) escapesUptoCard

/-- THE SECOND FORM's CARD OF 'stolelaw11.EscapeBack'. -/
def escapeBackUptoCard : Claim7 := { stood := { row := escapeBackUptoRow, standIns := [], harness := (true, "8208bb7389b79ecb27113f2c38ddae442d4b43d0adeefb8d05bdbc118ca83db1"), looks := true }, kinds := [], alts := [], laidByText := true, laidKinds := [.data, .pinned], laidTests := true, laidLooks := .later }
def EscapeBackUptoCardSaid : Prop := Claim7.holds Tryd.pinned (.plain (OpenSpec.upto escapeBackSpec)) escapeBackUptoCard

/-- THE SECOND FORM's CARD OF 'stolelaw11.EscapeBytes'. -/
def escapeBytesUptoCard : Claim7 := { stood := { row := escapeBytesUptoRow, standIns := [], harness := (true, "8208bb7389b79ecb27113f2c38ddae442d4b43d0adeefb8d05bdbc118ca83db1"), looks := true }, kinds := [], alts := [], laidByText := true, laidKinds := [.data, .pinned], laidTests := true, laidLooks := .later }
def EscapeBytesUptoCardSaid : Prop := Claim7.holds Tryd.pinned (.plain (OpenSpec.upto escapeBytesSpec)) escapeBytesUptoCard
end Rows
end Go.Proofs.YtiajclmhimkpnaaDoor
