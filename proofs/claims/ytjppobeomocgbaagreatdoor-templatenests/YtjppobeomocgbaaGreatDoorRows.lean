/-
  NARROWER THAN 'FOR EVERY INPUT', by the rows' own cells (each row's printed sentence says how): Templates: laid · TemplateNests: laid · TemplateForms: laid · TemplateRows: laid · TemplateMany: laid.
  DERIVED. THE GIVEN ROWS OF THIS SEAT. 5 by the template 'for every input the law returns true; each argument reads behind the call as it read before'; 0 by the template 'total and deterministic' (their statements: YtjppobeomocgbaaGreatDoorTotals.lean).
  GIVEN WITH THE SEED: the statements are not yours to turn. If you find one false, say at which input.
  Laid BY PROGRAM, IN A SANDBOX (cutbox-rows.mjs): the forced cells as the released guide's own fill.sh prints them over the translation 2b47ee2956d05ae4… (all of the seat's roots in one cut). By AI agents, Wed Nov 11 2026. No macro, syntax, notation, axiom, sorry.
-/
import Derived.Test.YtjppobeomocgbaaGreatDoorChecked
import GoSem.PinnedTables
import GoSem.Claim
import GoSem.ClaimJoined
import GoSem.ClaimMapViews
import Derived.JoinedTies
import Derived.KernelRfl
namespace Go.Proofs.YtjppobeomocgbaaGreatDoor
/- THE CELL 'sum', in the pinned program and in every row, IS THE sha256 OF THE DUMP (.gsa) THAT YtjppobeomocgbaaGreatDoorProg.lean LOADS. Nothing in Lean hashes anything: it is a label: what it is worth is what the hold of that sum in a sandbox is worth. -/
noncomputable def Tryz.pinned : Pinned := { name := "ytjppobeomocgbaagreatdoor", sum := "2b47ee2956d05ae40e4141f29247328a11b3e4ac69cd47e62c9063339d062f5b", checked := Tryz.checked }
namespace Rows
def none {H : Type} : Left H := { results := [], args := [] }

/- WHAT THE LISTED PACKAGE-LEVEL VARIABLES READ AS WHEN THE CALL BEGINS. Each datum BY PROGRAM (the guide's laid-datum.mjs) off the statement by which the dump's own 'gosem.cut.vars' lays the variable. In a bare row this is a premise. The card (YtjppobeomocgbaaGreatDoorCards.lean) ties it to the program's text. -/
def laid_unicode_utf8_acceptRanges {H : Type} : DataW H := .agg [.agg [.lit (.int .u8 128), .lit (.int .u8 191)], .agg [.lit (.int .u8 160), .lit (.int .u8 191)], .agg [.lit (.int .u8 128), .lit (.int .u8 159)], .agg [.lit (.int .u8 144), .lit (.int .u8 191)], .agg [.lit (.int .u8 128), .lit (.int .u8 143)], .agg [.lit (.int .u8 0), .lit (.int .u8 0)], .agg [.lit (.int .u8 0), .lit (.int .u8 0)], .agg [.lit (.int .u8 0), .lit (.int .u8 0)], .agg [.lit (.int .u8 0), .lit (.int .u8 0)], .agg [.lit (.int .u8 0), .lit (.int .u8 0)], .agg [.lit (.int .u8 0), .lit (.int .u8 0)], .agg [.lit (.int .u8 0), .lit (.int .u8 0)], .agg [.lit (.int .u8 0), .lit (.int .u8 0)], .agg [.lit (.int .u8 0), .lit (.int .u8 0)], .agg [.lit (.int .u8 0), .lit (.int .u8 0)], .agg [.lit (.int .u8 0), .lit (.int .u8 0)]]
/-- One of Go's own tables, pinned by name: the form's constant. -/
def laid_unicode_utf8_first : DataW Unit := Go.Pinned.utf8First

/-- 'stolelaw16.Templates': WHATEVER THE INPUT: true; the input reads as it did. -/
def templatesSpec : ChangeSpec := { name := "templates", fn := fun _ => fun
  | [d] => { results := [.lit (.bool true)], args := [d] }
  | _ => none }
def templatesRow : OpenClaim := { program := "ytjppobeomocgbaagreatdoor", sum := "2b47ee2956d05ae40e4141f29247328a11b3e4ac69cd47e62c9063339d062f5b", func := "stole/stolelaw16.Templates", spec := "templates", inPlace := ["internal/bytealg.CountString", "internal/bytealg.IndexByteString", "internal/bytealg.IndexString", "internal/abi.NoEscape", "internal/bytealg.MakeNoZero"], unfollowed := true, recurses := true, named := ["internal/bytealg.MaxLen", "unicode/utf8.first", "unicode/utf8.acceptRanges"], apart := false, laid := [("unicode/utf8.acceptRanges", laid_unicode_utf8_acceptRanges), ("unicode/utf8.first", laid_unicode_utf8_first)] }
def TemplatesSaid : Prop := templatesRow.holds Tryz.pinned (OpenSpec.ofChange templatesSpec)

/-- ITS FALSE NEIGHBOUR: 'it returns false'. Refute it at one input. -/
def templatesWrong : ChangeSpec := { name := "templates", fn := fun _ => fun
  | [d] => { results := [.lit (.bool false)], args := [d] }
  | _ => none }
def TemplatesWrongFalsely : Prop := templatesRow.holds Tryz.pinned (OpenSpec.ofChange templatesWrong)

/-- 'stolelaw16.TemplateNests': WHATEVER THE INPUT: true; the input reads as it did. -/
def templateNestsSpec : ChangeSpec := { name := "templateNests", fn := fun _ => fun
  | [d1, d2, d3] => { results := [.lit (.bool true)], args := [d1, d2, d3] }
  | _ => none }
def templateNestsRow : OpenClaim := { program := "ytjppobeomocgbaagreatdoor", sum := "2b47ee2956d05ae40e4141f29247328a11b3e4ac69cd47e62c9063339d062f5b", func := "stole/stolelaw16.TemplateNests", spec := "templateNests", inPlace := ["internal/bytealg.CountString", "internal/bytealg.IndexByteString", "internal/bytealg.IndexString", "internal/abi.NoEscape", "internal/bytealg.MakeNoZero"], unfollowed := true, recurses := true, named := ["internal/bytealg.MaxLen", "unicode/utf8.first", "unicode/utf8.acceptRanges"], apart := false, laid := [("unicode/utf8.acceptRanges", laid_unicode_utf8_acceptRanges), ("unicode/utf8.first", laid_unicode_utf8_first)] }
def TemplateNestsSaid : Prop := templateNestsRow.holds Tryz.pinned (OpenSpec.ofChange templateNestsSpec)

/-- ITS FALSE NEIGHBOUR: 'it returns false'. Refute it at one input. -/
def templateNestsWrong : ChangeSpec := { name := "templateNests", fn := fun _ => fun
  | [d1, d2, d3] => { results := [.lit (.bool false)], args := [d1, d2, d3] }
  | _ => none }
def TemplateNestsWrongFalsely : Prop := templateNestsRow.holds Tryz.pinned (OpenSpec.ofChange templateNestsWrong)

/-- 'stolelaw16.TemplateForms': WHATEVER THE INPUT: true; the input reads as it did. -/
def templateFormsSpec : ChangeSpec := { name := "templateForms", fn := fun _ => fun
  | [d] => { results := [.lit (.bool true)], args := [d] }
  | _ => none }
def templateFormsRow : OpenClaim := { program := "ytjppobeomocgbaagreatdoor", sum := "2b47ee2956d05ae40e4141f29247328a11b3e4ac69cd47e62c9063339d062f5b", func := "stole/stolelaw16.TemplateForms", spec := "templateForms", inPlace := ["internal/bytealg.CountString", "internal/bytealg.IndexByteString", "internal/bytealg.IndexString", "internal/abi.NoEscape", "internal/bytealg.MakeNoZero"], unfollowed := true, recurses := true, named := ["internal/bytealg.MaxLen", "unicode/utf8.first", "unicode/utf8.acceptRanges"], apart := false, laid := [("unicode/utf8.acceptRanges", laid_unicode_utf8_acceptRanges), ("unicode/utf8.first", laid_unicode_utf8_first)] }
def TemplateFormsSaid : Prop := templateFormsRow.holds Tryz.pinned (OpenSpec.ofChange templateFormsSpec)

/-- ITS FALSE NEIGHBOUR: 'it returns false'. Refute it at one input. -/
def templateFormsWrong : ChangeSpec := { name := "templateForms", fn := fun _ => fun
  | [d] => { results := [.lit (.bool false)], args := [d] }
  | _ => none }
def TemplateFormsWrongFalsely : Prop := templateFormsRow.holds Tryz.pinned (OpenSpec.ofChange templateFormsWrong)

/-- 'stolelaw16.TemplateRows': WHATEVER THE INPUT: true; the input reads as it did. -/
def templateRowsSpec : ChangeSpec := { name := "templateRows", fn := fun _ => fun
  | [d] => { results := [.lit (.bool true)], args := [d] }
  | _ => none }
def templateRowsRow : OpenClaim := { program := "ytjppobeomocgbaagreatdoor", sum := "2b47ee2956d05ae40e4141f29247328a11b3e4ac69cd47e62c9063339d062f5b", func := "stole/stolelaw16.TemplateRows", spec := "templateRows", inPlace := ["internal/bytealg.CountString", "internal/bytealg.IndexByteString", "internal/bytealg.IndexString", "internal/abi.NoEscape", "internal/bytealg.MakeNoZero"], unfollowed := true, recurses := true, named := ["internal/bytealg.MaxLen", "unicode/utf8.first", "unicode/utf8.acceptRanges"], apart := false, laid := [("unicode/utf8.acceptRanges", laid_unicode_utf8_acceptRanges), ("unicode/utf8.first", laid_unicode_utf8_first)] }
def TemplateRowsSaid : Prop := templateRowsRow.holds Tryz.pinned (OpenSpec.ofChange templateRowsSpec)

/-- ITS FALSE NEIGHBOUR: 'it returns false'. Refute it at one input. -/
def templateRowsWrong : ChangeSpec := { name := "templateRows", fn := fun _ => fun
  | [d] => { results := [.lit (.bool false)], args := [d] }
  | _ => none }
def TemplateRowsWrongFalsely : Prop := templateRowsRow.holds Tryz.pinned (OpenSpec.ofChange templateRowsWrong)

/-- 'stolelaw16.TemplateMany': WHATEVER THE INPUT: true; the input reads as it did. -/
def templateManySpec : ChangeSpec := { name := "templateMany", fn := fun _ => fun
  | [d] => { results := [.lit (.bool true)], args := [d] }
  | _ => none }
def templateManyRow : OpenClaim := { program := "ytjppobeomocgbaagreatdoor", sum := "2b47ee2956d05ae40e4141f29247328a11b3e4ac69cd47e62c9063339d062f5b", func := "stole/stolelaw16.TemplateMany", spec := "templateMany", inPlace := ["internal/bytealg.CountString", "internal/bytealg.IndexByteString", "internal/bytealg.IndexString", "internal/abi.NoEscape", "internal/bytealg.MakeNoZero"], unfollowed := true, recurses := true, named := ["internal/bytealg.MaxLen", "unicode/utf8.first", "unicode/utf8.acceptRanges"], apart := false, laid := [("unicode/utf8.acceptRanges", laid_unicode_utf8_acceptRanges), ("unicode/utf8.first", laid_unicode_utf8_first)] }
def TemplateManySaid : Prop := templateManyRow.holds Tryz.pinned (OpenSpec.ofChange templateManySpec)

/-- ITS FALSE NEIGHBOUR: 'it returns false'. Refute it at one input. -/
def templateManyWrong : ChangeSpec := { name := "templateMany", fn := fun _ => fun
  | [d] => { results := [.lit (.bool false)], args := [d] }
  | _ => none }
def TemplateManyWrongFalsely : Prop := templateManyRow.holds Tryz.pinned (OpenSpec.ofChange templateManyWrong)

/- THE SECOND FORM. 'bulk': how many values and letters a reading holds, each counted each time it is reached (what is shared counts as often as it is met; a slice's spare places count too). A statement '..UptoSaid' is the law's where the arguments, and the package variables that the reading takes, are together of bulk at most 1048576: NARROWER than '..Said'. Prove '..Said' where nothing that the law and all that it calls make is longer than what came in: it says more and counts as full. Else prove '..UptoSaid'. A law counts once. -/
mutual
def uptoBulk {H : Type} : DataW H → Nat
  | .lit (.string bytes) => bytes.length + 1
  | .lit _ => 1
  | .nil => 1
  | .ptr d => uptoBulk d + 1
  | .slice elems spare => uptoBulkAll elems + uptoBulkAll spare + 1
  | .agg parts => uptoBulkAll parts + 1
  | .iface _ d => uptoBulk d + 1
  | .map entries => uptoBulkEntries entries + 1
  | .held _ => 1
def uptoBulkAll {H : Type} : List (DataW H) → Nat
  | [] => 0
  | d :: r => uptoBulk d + uptoBulkAll r
def uptoBulkEntries {H : Type} : List (Lit × DataW H) → Nat
  | [] => 0
  | x :: r => uptoBulkEntry x + uptoBulkEntries r
def uptoBulkEntry {H : Type} : Lit × DataW H → Nat
  | (.string bytes, d) => bytes.length + uptoBulk d + 1
  | (_, d) => uptoBulk d + 1
 end
def uptoSmall : (H : Type) → List (DataW H) → Bool := fun _ ds => decide (uptoBulkAll ds ≤ 1048576)
def OpenSpec.upto (s : _root_.Go.ChangeSpec) : _root_.Go.OpenSpec := { _root_.Go.OpenSpec.ofChange s with cond := some uptoSmall }

/-- 'stolelaw16.Templates', WHERE WHAT IT READS IS OF BULK AT MOST 1048576: true; the input reads as it did. -/
def templatesUptoRow : OpenClaim := { program := "ytjppobeomocgbaagreatdoor", sum := "2b47ee2956d05ae40e4141f29247328a11b3e4ac69cd47e62c9063339d062f5b", func := "stole/stolelaw16.Templates", spec := "templates", inPlace := ["internal/bytealg.CountString", "internal/bytealg.IndexByteString", "internal/bytealg.IndexString", "internal/abi.NoEscape", "internal/bytealg.MakeNoZero"], unfollowed := true, recurses := true, named := ["internal/bytealg.MaxLen", "unicode/utf8.first", "unicode/utf8.acceptRanges"], apart := false, laid := [("unicode/utf8.acceptRanges", laid_unicode_utf8_acceptRanges), ("unicode/utf8.first", laid_unicode_utf8_first)], narrowed := true }
def TemplatesUptoSaid : Prop := templatesUptoRow.holds Tryz.pinned (OpenSpec.upto templatesSpec)

/-- 'stolelaw16.TemplateNests', WHERE WHAT IT READS IS OF BULK AT MOST 1048576: true; the input reads as it did. -/
def templateNestsUptoRow : OpenClaim := { program := "ytjppobeomocgbaagreatdoor", sum := "2b47ee2956d05ae40e4141f29247328a11b3e4ac69cd47e62c9063339d062f5b", func := "stole/stolelaw16.TemplateNests", spec := "templateNests", inPlace := ["internal/bytealg.CountString", "internal/bytealg.IndexByteString", "internal/bytealg.IndexString", "internal/abi.NoEscape", "internal/bytealg.MakeNoZero"], unfollowed := true, recurses := true, named := ["internal/bytealg.MaxLen", "unicode/utf8.first", "unicode/utf8.acceptRanges"], apart := false, laid := [("unicode/utf8.acceptRanges", laid_unicode_utf8_acceptRanges), ("unicode/utf8.first", laid_unicode_utf8_first)], narrowed := true }
def TemplateNestsUptoSaid : Prop := templateNestsUptoRow.holds Tryz.pinned (OpenSpec.upto templateNestsSpec)

/-- 'stolelaw16.TemplateForms', WHERE WHAT IT READS IS OF BULK AT MOST 1048576: true; the input reads as it did. -/
def templateFormsUptoRow : OpenClaim := { program := "ytjppobeomocgbaagreatdoor", sum := "2b47ee2956d05ae40e4141f29247328a11b3e4ac69cd47e62c9063339d062f5b", func := "stole/stolelaw16.TemplateForms", spec := "templateForms", inPlace := ["internal/bytealg.CountString", "internal/bytealg.IndexByteString", "internal/bytealg.IndexString", "internal/abi.NoEscape", "internal/bytealg.MakeNoZero"], unfollowed := true, recurses := true, named := ["internal/bytealg.MaxLen", "unicode/utf8.first", "unicode/utf8.acceptRanges"], apart := false, laid := [("unicode/utf8.acceptRanges", laid_unicode_utf8_acceptRanges), ("unicode/utf8.first", laid_unicode_utf8_first)], narrowed := true }
def TemplateFormsUptoSaid : Prop := templateFormsUptoRow.holds Tryz.pinned (OpenSpec.upto templateFormsSpec)

/-- 'stolelaw16.TemplateRows', WHERE WHAT IT READS IS OF BULK AT MOST 1048576: true; the input reads as it did. -/
def templateRowsUptoRow : OpenClaim := { program := "ytjppobeomocgbaagreatdoor", sum := "2b47ee2956d05ae40e4141f29247328a11b3e4ac69cd47e62c9063339d062f5b", func := "stole/stolelaw16.TemplateRows", spec := "templateRows", inPlace := ["internal/bytealg.CountString", "internal/bytealg.IndexByteString", "internal/bytealg.IndexString", "internal/abi.NoEscape", "internal/bytealg.MakeNoZero"], unfollowed := true, recurses := true, named := ["internal/bytealg.MaxLen", "unicode/utf8.first", "unicode/utf8.acceptRanges"], apart := false, laid := [("unicode/utf8.acceptRanges", laid_unicode_utf8_acceptRanges), ("unicode/utf8.first", laid_unicode_utf8_first)], narrowed := true }
def TemplateRowsUptoSaid : Prop := templateRowsUptoRow.holds Tryz.pinned (OpenSpec.upto templateRowsSpec)

/-- 'stolelaw16.TemplateMany', WHERE WHAT IT READS IS OF BULK AT MOST 1048576: true; the input reads as it did. -/
def templateManyUptoRow : OpenClaim := { program := "ytjppobeomocgbaagreatdoor", sum := "2b47ee2956d05ae40e4141f29247328a11b3e4ac69cd47e62c9063339d062f5b", func := "stole/stolelaw16.TemplateMany", spec := "templateMany", inPlace := ["internal/bytealg.CountString", "internal/bytealg.IndexByteString", "internal/bytealg.IndexString", "internal/abi.NoEscape", "internal/bytealg.MakeNoZero"], unfollowed := true, recurses := true, named := ["internal/bytealg.MaxLen", "unicode/utf8.first", "unicode/utf8.acceptRanges"], apart := false, laid := [("unicode/utf8.acceptRanges", laid_unicode_utf8_acceptRanges), ("unicode/utf8.first", laid_unicode_utf8_first)], narrowed := true }
def TemplateManyUptoSaid : Prop := templateManyUptoRow.holds Tryz.pinned (OpenSpec.upto templateManySpec)

end Rows
end Go.Proofs.YtjppobeomocgbaaGreatDoor
