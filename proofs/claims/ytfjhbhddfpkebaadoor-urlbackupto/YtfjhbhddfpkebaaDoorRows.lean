/-
  NARROWER THAN 'FOR EVERY INPUT', by the rows' own cells (each row's printed sentence says how): Urls: laid · UrlSafe: laid · UrlBack: laid · UrlSchemes: laid · UrlPlain: laid · UrlTwice: laid.
  DERIVED. THE GIVEN ROWS OF THIS SEAT. 6 by the template 'for every input the law returns true; each argument reads behind the call as it read before'; 0 by the template 'total and deterministic' (their statements: YtfjhbhddfpkebaaDoorTotals.lean).
  GIVEN WITH THE SEED: the statements are not yours to turn. If you find one false, say at which input.
  Laid BY PROGRAM, IN A SANDBOX (cutbox-rows.mjs): the forced cells as the released guide's own fill.sh prints them over the translation f6857ad6a2303469… (all of the seat's roots in one cut). By AI agents, Wed Nov 11 2026. No macro, syntax, notation, axiom, sorry.
-/
import Derived.Test.YtfjhbhddfpkebaaDoorChecked
import GoSem.PinnedTables
import GoSem.Claim
import GoSem.ClaimJoined
import GoSem.ClaimMapViews
import Derived.JoinedTies
import Derived.KernelRfl
namespace Go.Proofs.YtfjhbhddfpkebaaDoor
/- THE CELL 'sum', in the pinned program and in every row, IS THE sha256 OF THE DUMP (.gsa) THAT YtfjhbhddfpkebaaDoorProg.lean LOADS. Nothing in Lean hashes anything: it is a label: what it is worth is what the hold of that sum in a sandbox is worth. -/
noncomputable def Tryd.pinned : Pinned := { name := "ytfjhbhddfpkebaadoor", sum := "f6857ad6a230346935b4266c0bd96e195a0d7371c0b0d29267743f99deb12c0d", checked := Tryd.checked }
namespace Rows
def none {H : Type} : Left H := { results := [], args := [] }

/- WHAT THE LISTED PACKAGE-LEVEL VARIABLES READ AS WHEN THE CALL BEGINS. Each datum BY PROGRAM (the guide's laid-datum.mjs) off the statement by which the dump's own 'gosem.cut.vars' lays the variable. In a bare row this is a premise. The card (YtfjhbhddfpkebaaDoorCards.lean) ties it to the program's text. -/
def laid_unicode_utf8_acceptRanges {H : Type} : DataW H := .agg [.agg [.lit (.int .u8 128), .lit (.int .u8 191)], .agg [.lit (.int .u8 160), .lit (.int .u8 191)], .agg [.lit (.int .u8 128), .lit (.int .u8 159)], .agg [.lit (.int .u8 144), .lit (.int .u8 191)], .agg [.lit (.int .u8 128), .lit (.int .u8 143)], .agg [.lit (.int .u8 0), .lit (.int .u8 0)], .agg [.lit (.int .u8 0), .lit (.int .u8 0)], .agg [.lit (.int .u8 0), .lit (.int .u8 0)], .agg [.lit (.int .u8 0), .lit (.int .u8 0)], .agg [.lit (.int .u8 0), .lit (.int .u8 0)], .agg [.lit (.int .u8 0), .lit (.int .u8 0)], .agg [.lit (.int .u8 0), .lit (.int .u8 0)], .agg [.lit (.int .u8 0), .lit (.int .u8 0)], .agg [.lit (.int .u8 0), .lit (.int .u8 0)], .agg [.lit (.int .u8 0), .lit (.int .u8 0)], .agg [.lit (.int .u8 0), .lit (.int .u8 0)]]
/-- One of Go's own tables, pinned by name: the form's constant. -/
def laid_unicode_utf8_first : DataW Unit := Go.Pinned.utf8First

/-- 'stolelaw9.Urls': WHATEVER THE INPUT: true; the input reads as it did. -/
def urlsSpec : ChangeSpec := { name := "urls", fn := fun _ => fun
  | [d] => { results := [.lit (.bool true)], args := [d] }
  | _ => none }
def urlsRow : OpenClaim := { program := "ytfjhbhddfpkebaadoor", sum := "f6857ad6a230346935b4266c0bd96e195a0d7371c0b0d29267743f99deb12c0d", func := "stole/stolelaw9.Urls", spec := "urls", inPlace := ["internal/abi.NoEscape", "internal/bytealg.MakeNoZero"], named := ["unicode/utf8.first", "unicode/utf8.acceptRanges"], apart := false, laid := [("unicode/utf8.acceptRanges", laid_unicode_utf8_acceptRanges), ("unicode/utf8.first", laid_unicode_utf8_first)] }
def UrlsSaid : Prop := urlsRow.holds Tryd.pinned (OpenSpec.ofChange urlsSpec)

/-- ITS FALSE NEIGHBOUR: 'it returns false'. Refute it at one input. -/
def urlsWrong : ChangeSpec := { name := "urls", fn := fun _ => fun
  | [d] => { results := [.lit (.bool false)], args := [d] }
  | _ => none }
def UrlsWrongFalsely : Prop := urlsRow.holds Tryd.pinned (OpenSpec.ofChange urlsWrong)

/-- 'stolelaw9.UrlSafe': WHATEVER THE INPUT: true; the input reads as it did. -/
def urlSafeSpec : ChangeSpec := { name := "urlSafe", fn := fun _ => fun
  | [d1, d2] => { results := [.lit (.bool true)], args := [d1, d2] }
  | _ => none }
def urlSafeRow : OpenClaim := { program := "ytfjhbhddfpkebaadoor", sum := "f6857ad6a230346935b4266c0bd96e195a0d7371c0b0d29267743f99deb12c0d", func := "stole/stolelaw9.UrlSafe", spec := "urlSafe", inPlace := ["internal/abi.NoEscape", "internal/bytealg.MakeNoZero"], named := ["unicode/utf8.first", "unicode/utf8.acceptRanges"], apart := false, laid := [("unicode/utf8.acceptRanges", laid_unicode_utf8_acceptRanges), ("unicode/utf8.first", laid_unicode_utf8_first)] }
def UrlSafeSaid : Prop := urlSafeRow.holds Tryd.pinned (OpenSpec.ofChange urlSafeSpec)

/-- ITS FALSE NEIGHBOUR: 'it returns false'. Refute it at one input. -/
def urlSafeWrong : ChangeSpec := { name := "urlSafe", fn := fun _ => fun
  | [d1, d2] => { results := [.lit (.bool false)], args := [d1, d2] }
  | _ => none }
def UrlSafeWrongFalsely : Prop := urlSafeRow.holds Tryd.pinned (OpenSpec.ofChange urlSafeWrong)

/-- 'stolelaw9.UrlBack': WHATEVER THE INPUT: true; the input reads as it did. -/
def urlBackSpec : ChangeSpec := { name := "urlBack", fn := fun _ => fun
  | [d] => { results := [.lit (.bool true)], args := [d] }
  | _ => none }
def urlBackRow : OpenClaim := { program := "ytfjhbhddfpkebaadoor", sum := "f6857ad6a230346935b4266c0bd96e195a0d7371c0b0d29267743f99deb12c0d", func := "stole/stolelaw9.UrlBack", spec := "urlBack", inPlace := ["internal/abi.NoEscape", "internal/bytealg.MakeNoZero"], named := ["unicode/utf8.first", "unicode/utf8.acceptRanges"], apart := false, laid := [("unicode/utf8.acceptRanges", laid_unicode_utf8_acceptRanges), ("unicode/utf8.first", laid_unicode_utf8_first)] }
def UrlBackSaid : Prop := urlBackRow.holds Tryd.pinned (OpenSpec.ofChange urlBackSpec)

/-- ITS FALSE NEIGHBOUR: 'it returns false'. Refute it at one input. -/
def urlBackWrong : ChangeSpec := { name := "urlBack", fn := fun _ => fun
  | [d] => { results := [.lit (.bool false)], args := [d] }
  | _ => none }
def UrlBackWrongFalsely : Prop := urlBackRow.holds Tryd.pinned (OpenSpec.ofChange urlBackWrong)

/-- 'stolelaw9.UrlSchemes': WHATEVER THE INPUT: true; the input reads as it did. -/
def urlSchemesSpec : ChangeSpec := { name := "urlSchemes", fn := fun _ => fun
  | [d1, d2, d3] => { results := [.lit (.bool true)], args := [d1, d2, d3] }
  | _ => none }
def urlSchemesRow : OpenClaim := { program := "ytfjhbhddfpkebaadoor", sum := "f6857ad6a230346935b4266c0bd96e195a0d7371c0b0d29267743f99deb12c0d", func := "stole/stolelaw9.UrlSchemes", spec := "urlSchemes", inPlace := ["internal/abi.NoEscape", "internal/bytealg.MakeNoZero"], named := ["unicode/utf8.first", "unicode/utf8.acceptRanges"], apart := false, laid := [("unicode/utf8.acceptRanges", laid_unicode_utf8_acceptRanges), ("unicode/utf8.first", laid_unicode_utf8_first)] }
def UrlSchemesSaid : Prop := urlSchemesRow.holds Tryd.pinned (OpenSpec.ofChange urlSchemesSpec)

/-- ITS FALSE NEIGHBOUR: 'it returns false'. Refute it at one input. -/
def urlSchemesWrong : ChangeSpec := { name := "urlSchemes", fn := fun _ => fun
  | [d1, d2, d3] => { results := [.lit (.bool false)], args := [d1, d2, d3] }
  | _ => none }
def UrlSchemesWrongFalsely : Prop := urlSchemesRow.holds Tryd.pinned (OpenSpec.ofChange urlSchemesWrong)

/-- 'stolelaw9.UrlPlain': WHATEVER THE INPUT: true; the input reads as it did. -/
def urlPlainSpec : ChangeSpec := { name := "urlPlain", fn := fun _ => fun
  | [d] => { results := [.lit (.bool true)], args := [d] }
  | _ => none }
def urlPlainRow : OpenClaim := { program := "ytfjhbhddfpkebaadoor", sum := "f6857ad6a230346935b4266c0bd96e195a0d7371c0b0d29267743f99deb12c0d", func := "stole/stolelaw9.UrlPlain", spec := "urlPlain", inPlace := ["internal/abi.NoEscape", "internal/bytealg.MakeNoZero"], named := ["unicode/utf8.first", "unicode/utf8.acceptRanges"], apart := false, laid := [("unicode/utf8.acceptRanges", laid_unicode_utf8_acceptRanges), ("unicode/utf8.first", laid_unicode_utf8_first)] }
def UrlPlainSaid : Prop := urlPlainRow.holds Tryd.pinned (OpenSpec.ofChange urlPlainSpec)

/-- ITS FALSE NEIGHBOUR: 'it returns false'. Refute it at one input. -/
def urlPlainWrong : ChangeSpec := { name := "urlPlain", fn := fun _ => fun
  | [d] => { results := [.lit (.bool false)], args := [d] }
  | _ => none }
def UrlPlainWrongFalsely : Prop := urlPlainRow.holds Tryd.pinned (OpenSpec.ofChange urlPlainWrong)

/-- 'stolelaw9.UrlTwice': WHATEVER THE INPUT: true; the input reads as it did. -/
def urlTwiceSpec : ChangeSpec := { name := "urlTwice", fn := fun _ => fun
  | [d] => { results := [.lit (.bool true)], args := [d] }
  | _ => none }
def urlTwiceRow : OpenClaim := { program := "ytfjhbhddfpkebaadoor", sum := "f6857ad6a230346935b4266c0bd96e195a0d7371c0b0d29267743f99deb12c0d", func := "stole/stolelaw9.UrlTwice", spec := "urlTwice", inPlace := ["internal/abi.NoEscape", "internal/bytealg.MakeNoZero"], named := ["unicode/utf8.first", "unicode/utf8.acceptRanges"], apart := false, laid := [("unicode/utf8.acceptRanges", laid_unicode_utf8_acceptRanges), ("unicode/utf8.first", laid_unicode_utf8_first)] }
def UrlTwiceSaid : Prop := urlTwiceRow.holds Tryd.pinned (OpenSpec.ofChange urlTwiceSpec)

/-- ITS FALSE NEIGHBOUR: 'it returns false'. Refute it at one input. -/
def urlTwiceWrong : ChangeSpec := { name := "urlTwice", fn := fun _ => fun
  | [d] => { results := [.lit (.bool false)], args := [d] }
  | _ => none }
def UrlTwiceWrongFalsely : Prop := urlTwiceRow.holds Tryd.pinned (OpenSpec.ofChange urlTwiceWrong)

/- THE SECOND FORM. 'bulk': how many values and letters a reading holds, each counted each time it is reached (what is shared counts as often as it is met; a slice's spare places count too). A statement '..UptoSaid' is the law's where the arguments, and the package variables that the reading takes, are together of bulk at most 1048576: NARROWER than '..Said'. Prove '..Said' where nothing that the law and all that it calls make is longer than what came in: it says more and counts as full. Else prove '..UptoSaid'. A law counts once. -/
mutual
def uptoBulk {H : Type} : DataW H → Nat
  | .lit (.string bytes) => bytes.length + 1
  | .lit _ => 1
  | .nil => 1
  | .ptr d => uptoBulk d + 1
  | .slice elems spare => uptoBulkAll elems + uptoBulkAll spare + 1
  | .agg parts => uptoBulkAll parts + 1
  | .iface _ d => uptoBulk d + 1
  | .map entries => uptoBulkEntries entries + 1
  | .held _ => 1
def uptoBulkAll {H : Type} : List (DataW H) → Nat
  | [] => 0
  | d :: r => uptoBulk d + uptoBulkAll r
def uptoBulkEntries {H : Type} : List (Lit × DataW H) → Nat
  | [] => 0
  | x :: r => uptoBulkEntry x + uptoBulkEntries r
def uptoBulkEntry {H : Type} : Lit × DataW H → Nat
  | (.string bytes, d) => bytes.length + uptoBulk d + 1
  | (_, d) => uptoBulk d + 1
 end
def uptoSmall : (H : Type) → List (DataW H) → Bool := fun _ ds => decide (uptoBulkAll ds ≤ 1048576)
def OpenSpec.upto (s : _root_.Go.ChangeSpec) : _root_.Go.OpenSpec := { _root_.Go.OpenSpec.ofChange s with cond := some uptoSmall }

/-- 'stolelaw9.Urls', WHERE WHAT IT READS IS OF BULK AT MOST 1048576: true; the input reads as it did. -/
def urlsUptoRow : OpenClaim := { program := "ytfjhbhddfpkebaadoor", sum := "f6857ad6a230346935b4266c0bd96e195a0d7371c0b0d29267743f99deb12c0d", func := "stole/stolelaw9.Urls", spec := "urls", inPlace := ["internal/abi.NoEscape", "internal/bytealg.MakeNoZero"], named := ["unicode/utf8.first", "unicode/utf8.acceptRanges"], apart := false, laid := [("unicode/utf8.acceptRanges", laid_unicode_utf8_acceptRanges), ("unicode/utf8.first", laid_unicode_utf8_first)], narrowed := true }
def UrlsUptoSaid : Prop := urlsUptoRow.holds Tryd.pinned (OpenSpec.upto urlsSpec)

/-- 'stolelaw9.UrlSafe', WHERE WHAT IT READS IS OF BULK AT MOST 1048576: true; the input reads as it did. -/
def urlSafeUptoRow : OpenClaim := { program := "ytfjhbhddfpkebaadoor", sum := "f6857ad6a230346935b4266c0bd96e195a0d7371c0b0d29267743f99deb12c0d", func := "stole/stolelaw9.UrlSafe", spec := "urlSafe", inPlace := ["internal/abi.NoEscape", "internal/bytealg.MakeNoZero"], named := ["unicode/utf8.first", "unicode/utf8.acceptRanges"], apart := false, laid := [("unicode/utf8.acceptRanges", laid_unicode_utf8_acceptRanges), ("unicode/utf8.first", laid_unicode_utf8_first)], narrowed := true }
def UrlSafeUptoSaid : Prop := urlSafeUptoRow.holds Tryd.pinned (OpenSpec.upto urlSafeSpec)

/-- 'stolelaw9.UrlBack', WHERE WHAT IT READS IS OF BULK AT MOST 1048576: true; the input reads as it did. -/
def urlBackUptoRow : OpenClaim := { program := "ytfjhbhddfpkebaadoor", sum := "f6857ad6a230346935b4266c0bd96e195a0d7371c0b0d29267743f99deb12c0d", func := "stole/stolelaw9.UrlBack", spec := "urlBack", inPlace := ["internal/abi.NoEscape", "internal/bytealg.MakeNoZero"], named := ["unicode/utf8.first", "unicode/utf8.acceptRanges"], apart := false, laid := [("unicode/utf8.acceptRanges", laid_unicode_utf8_acceptRanges), ("unicode/utf8.first", laid_unicode_utf8_first)], narrowed := true }
def UrlBackUptoSaid : Prop := urlBackUptoRow.holds Tryd.pinned (OpenSpec.upto urlBackSpec)

/-- 'stolelaw9.UrlSchemes', WHERE WHAT IT READS IS OF BULK AT MOST 1048576: true; the input reads as it did. -/
def urlSchemesUptoRow : OpenClaim := { program := "ytfjhbhddfpkebaadoor", sum := "f6857ad6a230346935b4266c0bd96e195a0d7371c0b0d29267743f99deb12c0d", func := "stole/stolelaw9.UrlSchemes", spec := "urlSchemes", inPlace := ["internal/abi.NoEscape", "internal/bytealg.MakeNoZero"], named := ["unicode/utf8.first", "unicode/utf8.acceptRanges"], apart := false, laid := [("unicode/utf8.acceptRanges", laid_unicode_utf8_acceptRanges), ("unicode/utf8.first", laid_unicode_utf8_first)], narrowed := true }
def UrlSchemesUptoSaid : Prop := urlSchemesUptoRow.holds Tryd.pinned (OpenSpec.upto urlSchemesSpec)

/-- 'stolelaw9.UrlPlain', WHERE WHAT IT READS IS OF BULK AT MOST 1048576: true; the input reads as it did. -/
def urlPlainUptoRow : OpenClaim := { program := "ytfjhbhddfpkebaadoor", sum := "f6857ad6a230346935b4266c0bd96e195a0d7371c0b0d29267743f99deb12c0d", func := "stole/stolelaw9.UrlPlain", spec := "urlPlain", inPlace := ["internal/abi.NoEscape", "internal/bytealg.MakeNoZero"], named := ["unicode/utf8.first", "unicode/utf8.acceptRanges"], apart := false, laid := [("unicode/utf8.acceptRanges", laid_unicode_utf8_acceptRanges), ("unicode/utf8.first", laid_unicode_utf8_first)], narrowed := true }
def UrlPlainUptoSaid : Prop := urlPlainUptoRow.holds Tryd.pinned (OpenSpec.upto urlPlainSpec)

/-- 'stolelaw9.UrlTwice', WHERE WHAT IT READS IS OF BULK AT MOST 1048576: true; the input reads as it did. -/
def urlTwiceUptoRow : OpenClaim := { program := "ytfjhbhddfpkebaadoor", sum := "f6857ad6a230346935b4266c0bd96e195a0d7371c0b0d29267743f99deb12c0d", func := "stole/stolelaw9.UrlTwice", spec := "urlTwice", inPlace := ["internal/abi.NoEscape", "internal/bytealg.MakeNoZero"], named := ["unicode/utf8.first", "unicode/utf8.acceptRanges"], apart := false, laid := [("unicode/utf8.acceptRanges", laid_unicode_utf8_acceptRanges), ("unicode/utf8.first", laid_unicode_utf8_first)], narrowed := true }
def UrlTwiceUptoSaid : Prop := urlTwiceUptoRow.holds Tryd.pinned (OpenSpec.upto urlTwiceSpec)

end Rows
end Go.Proofs.YtfjhbhddfpkebaaDoor
