/-
  DERIVED. GIVEN WITH THE SEED: THE CARDS: each row of YtfjhbhddfpkebaaDoorRows.lean that lists a variable, with what it lists TIED to the program's text (the seventh form; the later family's looks); each row that meets fmt, with fmt's text TOLD by the authors' own Lean function (tested against real Go, not proved from fmt's source: count such statements apart). THE CARD IS WHAT COUNTS. Prove the row's statement (the work); the ties are given (YtfjhbhddfpkebaaDoorTie.lean); close each card by the builder's one call (the guide's Derived/Test/ToyasCard.lean, 'card_holds'). Laid BY PROGRAM, IN A SANDBOX (cutbox-door.mjs). By AI agents, Wed Nov 11 2026. No macro, syntax, notation, axiom, sorry.
-/
import Derived.Test.YtfjhbhddfpkebaaDoorRows
import GoSem.ClaimSeven
namespace Go.Proofs.YtfjhbhddfpkebaaDoor
namespace Rows

/-- THE TIED CARD OF 'stolelaw9.Urls'. -/
def urlsCard : Claim7 := { stood := { row := urlsRow, standIns := [], harness := (true, "35ee4fae8bf78bb20f48627bb961a41cbce35e777f1d969491d39b429a4753a7"), looks := false }, kinds := [], alts := [], laidByText := true, laidKinds := [.data, .pinned], laidTests := true, laidLooks := .later }
def UrlsCardSaid : Prop := Claim7.holds Tryd.pinned (.plain (OpenSpec.ofChange urlsSpec)) urlsCard

/-- THE TIED CARD OF 'stolelaw9.UrlSafe'. -/
def urlSafeCard : Claim7 := { stood := { row := urlSafeRow, standIns := [], harness := (true, "35ee4fae8bf78bb20f48627bb961a41cbce35e777f1d969491d39b429a4753a7"), looks := false }, kinds := [], alts := [], laidByText := true, laidKinds := [.data, .pinned], laidTests := true, laidLooks := .later }
def UrlSafeCardSaid : Prop := Claim7.holds Tryd.pinned (.plain (OpenSpec.ofChange urlSafeSpec)) urlSafeCard

/-- THE TIED CARD OF 'stolelaw9.UrlBack'. -/
def urlBackCard : Claim7 := { stood := { row := urlBackRow, standIns := [], harness := (true, "35ee4fae8bf78bb20f48627bb961a41cbce35e777f1d969491d39b429a4753a7"), looks := false }, kinds := [], alts := [], laidByText := true, laidKinds := [.data, .pinned], laidTests := true, laidLooks := .later }
def UrlBackCardSaid : Prop := Claim7.holds Tryd.pinned (.plain (OpenSpec.ofChange urlBackSpec)) urlBackCard

/-- THE TIED CARD OF 'stolelaw9.UrlSchemes'. -/
def urlSchemesCard : Claim7 := { stood := { row := urlSchemesRow, standIns := [], harness := (true, "35ee4fae8bf78bb20f48627bb961a41cbce35e777f1d969491d39b429a4753a7"), looks := false }, kinds := [], alts := [], laidByText := true, laidKinds := [.data, .pinned], laidTests := true, laidLooks := .later }
def UrlSchemesCardSaid : Prop := Claim7.holds Tryd.pinned (.plain (OpenSpec.ofChange urlSchemesSpec)) urlSchemesCard

/-- THE TIED CARD OF 'stolelaw9.UrlPlain'. -/
def urlPlainCard : Claim7 := { stood := { row := urlPlainRow, standIns := [], harness := (true, "35ee4fae8bf78bb20f48627bb961a41cbce35e777f1d969491d39b429a4753a7"), looks := false }, kinds := [], alts := [], laidByText := true, laidKinds := [.data, .pinned], laidTests := true, laidLooks := .later }
def UrlPlainCardSaid : Prop := Claim7.holds Tryd.pinned (.plain (OpenSpec.ofChange urlPlainSpec)) urlPlainCard

/-- THE TIED CARD OF 'stolelaw9.UrlTwice'. -/
def urlTwiceCard : Claim7 := { stood := { row := urlTwiceRow, standIns := [], harness := (true, "35ee4fae8bf78bb20f48627bb961a41cbce35e777f1d969491d39b429a4753a7"), looks := false }, kinds := [], alts := [], laidByText := true, laidKinds := [.data, .pinned], laidTests := true, laidLooks := .later }
def UrlTwiceCardSaid : Prop := Claim7.holds Tryd.pinned (.plain (OpenSpec.ofChange urlTwiceSpec)) urlTwiceCard

/-- THE SECOND FORM's CARD OF 'stolelaw9.Urls'. -/
def urlsUptoCard : Claim7 := { stood := { row := urlsUptoRow, standIns := [], harness := (true, "35ee4fae8bf78bb20f48627bb961a41cbce35e777f1d969491d39b429a4753a7"), looks := false }, kinds := [], alts := [], laidByText := true, laidKinds := [.data, .pinned], laidTests := true, laidLooks := .later }
def UrlsUptoCardSaid : Prop := Claim7.holds Tryd.pinned (.plain (OpenSpec.upto urlsSpec)) urlsUptoCard

/-- THE SECOND FORM's CARD OF 'stolelaw9.UrlSafe'. -/
def urlSafeUptoCard : Claim7 := { stood := { row := urlSafeUptoRow, standIns := [], harness := (true, "35ee4fae8bf78bb20f48627bb961a41cbce35e777f1d969491d39b429a4753a7"), looks := false }, kinds := [], alts := [], laidByText := true, laidKinds := [.data, .pinned], laidTests := true, laidLooks := .later }
def UrlSafeUptoCardSaid : Prop := Claim7.holds Tryd.pinned (.plain (OpenSpec.upto urlSafeSpec)) urlSafeUptoCard

/-- THE SECOND FORM's CARD OF 'stolelaw9.UrlBack'. -/
def urlBackUptoCard : Claim7 := { stood := { row := urlBackUptoRow, standIns := [], harness := (true, "35ee4fae8bf78bb20f48627bb961a41cbce35e777f1d969491d39b429a4753a7"), looks := false }, kinds := [], alts := [], laidByText := true, laidKinds := [.data, .pinned], laidTests := true, laidLooks := .later }
def UrlBackUptoCardSaid : Prop := Claim7.holds Tryd.pinned (.plain (OpenSpec.upto urlBackSpec)) urlBackUptoCard

/-- THE SECOND FORM's CARD OF 'stolelaw9.UrlSchemes'. -/
def urlSchemesUptoCard : Claim7 := { stood := { row := urlSchemesUptoRow, standIns := [], harness := (true, "35ee4fae8bf78bb20f48627bb961a41cbce35e777f1d969491d39b429a4753a7"), looks := false }, kinds := [], alts := [], laidByText := true, laidKinds := [.data, .pinned], laidTests := true, laidLooks := .later }
def UrlSchemesUptoCardSaid : Prop := Claim7.holds Tryd.pinned (.plain (OpenSpec.upto urlSchemesSpec)) urlSchemesUptoCard

/-- THE SECOND FORM's CARD OF 'stolelaw9.UrlPlain'. -/
def urlPlainUptoCard : Claim7 := { stood := { row := urlPlainUptoRow, standIns := [], harness := (true, "35ee4fae8bf78bb20f48627bb961a41cbce35e777f1d969491d39b429a4753a7"), looks := false }, kinds := [], alts := [], laidByText := true, laidKinds := [.data, .pinned], laidTests := true, laidLooks := .later }
def UrlPlainUptoCardSaid : Prop := Claim7.holds Tryd.pinned (.plain (OpenSpec.upto urlPlainSpec)) urlPlainUptoCard

/-- THE SECOND FORM's CARD OF 'stolelaw9.UrlTwice'. -/
def urlTwiceUptoCard : Claim7 := { stood := { row := urlTwiceUptoRow, standIns := [], harness := (true, "35ee4fae8bf78bb20f48627bb961a41cbce35e777f1d969491d39b429a4753a7"), looks := false }, kinds := [], alts := [], laidByText := true, laidKinds := [.data, .pinned], laidTests := true, laidLooks := .later }
def UrlTwiceUptoCardSaid : Prop := Claim7.holds Tryd.pinned (.plain (OpenSpec.upto urlTwiceSpec)) urlTwiceUptoCard
end Rows
end Go.Proofs.YtfjhbhddfpkebaaDoor
