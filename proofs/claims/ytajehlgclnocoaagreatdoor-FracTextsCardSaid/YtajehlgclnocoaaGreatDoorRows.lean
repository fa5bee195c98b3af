/-
  NARROWER THAN 'FOR EVERY INPUT', by the rows' own cells (each row's printed sentence says how): FracSums: laid · FracBounds: laid · FracOrder: laid · FracTexts: laid · FracWritten: laid · IvalMakes: laid · IvalLimits: laid · IvalResults: laid · IvalSets: laid · IvalEncloses: laid · IvalTight: laid · IvalIncludes: laid · IvalLattice: laid.
  DERIVED. THE GIVEN ROWS OF THIS SEAT. 13 by the template 'for every input the law returns true; each argument reads behind the call as it read before'; 0 by the template 'total and deterministic' (their statements: YtajehlgclnocoaaGreatDoorTotals.lean).
  GIVEN WITH THE SEED: the statements are not yours to turn. If you find one false, say at which input.
  Laid BY PROGRAM, IN A SANDBOX (cutbox-rows.mjs): the forced cells as the released guide's own fill.sh prints them over the translation 2930b93b84bf6095… (all of the seat's roots in one cut). By AI agents, Wed Nov 11 2026. No macro, syntax, notation, axiom, sorry.
-/
import Derived.Test.YtajehlgclnocoaaGreatDoorChecked
import GoSem.PinnedTables
import GoSem.Claim
import GoSem.ClaimJoined
import GoSem.ClaimMapViews
import Derived.JoinedTies
import Derived.KernelRfl
namespace Go.Proofs.YtajehlgclnocoaaGreatDoor
/- THE CELL 'sum', in the pinned program and in every row, IS THE sha256 OF THE DUMP (.gsa) THAT YtajehlgclnocoaaGreatDoorProg.lean LOADS. Nothing in Lean hashes anything: it is a label: what it is worth is what the hold of that sum in a sandbox is worth. -/
noncomputable def Tryz.pinned : Pinned := { name := "ytajehlgclnocoaagreatdoor", sum := "2930b93b84bf6095e0b85575e937b2ff3302cde38bb930cbb84d046578de9e9d", checked := Tryz.checked }
namespace Rows
def none {H : Type} : Left H := { results := [], args := [] }

/- WHAT THE LISTED PACKAGE-LEVEL VARIABLES READ AS WHEN THE CALL BEGINS. Each datum BY PROGRAM (the guide's laid-datum.mjs) off the statement by which the dump's own 'gosem.cut.vars' lays the variable. In a bare row this is a premise. The card (YtajehlgclnocoaaGreatDoorCards.lean) ties it to the program's text. -/
def laid_unicode_utf8_acceptRanges {H : Type} : DataW H := .agg [.agg [.lit (.int .u8 128), .lit (.int .u8 191)], .agg [.lit (.int .u8 160), .lit (.int .u8 191)], .agg [.lit (.int .u8 128), .lit (.int .u8 159)], .agg [.lit (.int .u8 144), .lit (.int .u8 191)], .agg [.lit (.int .u8 128), .lit (.int .u8 143)], .agg [.lit (.int .u8 0), .lit (.int .u8 0)], .agg [.lit (.int .u8 0), .lit (.int .u8 0)], .agg [.lit (.int .u8 0), .lit (.int .u8 0)], .agg [.lit (.int .u8 0), .lit (.int .u8 0)], .agg [.lit (.int .u8 0), .lit (.int .u8 0)], .agg [.lit (.int .u8 0), .lit (.int .u8 0)], .agg [.lit (.int .u8 0), .lit (.int .u8 0)], .agg [.lit (.int .u8 0), .lit (.int .u8 0)], .agg [.lit (.int .u8 0), .lit (.int .u8 0)], .agg [.lit (.int .u8 0), .lit (.int .u8 0)], .agg [.lit (.int .u8 0), .lit (.int .u8 0)]]
/-- One of Go's own tables, pinned by name: the form's constant. -/
def laid_unicode_utf8_first : DataW Unit := Go.Pinned.utf8First

/-- 'skymosaiclaw04.FracSums': WHATEVER THE INPUT: true; the input reads as it did. -/
def fracSumsSpec : ChangeSpec := { name := "fracSums", fn := fun _ => fun
  | [d] => { results := [.lit (.bool true)], args := [d] }
  | _ => none }
def fracSumsRow : OpenClaim := { program := "ytajehlgclnocoaagreatdoor", sum := "2930b93b84bf6095e0b85575e937b2ff3302cde38bb930cbb84d046578de9e9d", func := "skymosaic/skymosaiclaw04.FracSums", spec := "fracSums", inPlace := ["internal/bytealg.IndexByteString", "internal/bytealg.IndexString"], unfollowed := true, recurses := true, named := ["unicode/utf8.first", "unicode/utf8.acceptRanges", "internal/bytealg.MaxLen"], apart := false, laid := [("unicode/utf8.acceptRanges", laid_unicode_utf8_acceptRanges), ("unicode/utf8.first", laid_unicode_utf8_first)] }
def FracSumsSaid : Prop := fracSumsRow.holds Tryz.pinned (OpenSpec.ofChange fracSumsSpec)

/-- ITS FALSE NEIGHBOUR: 'it returns false'. Refute it at one input. -/
def fracSumsWrong : ChangeSpec := { name := "fracSums", fn := fun _ => fun
  | [d] => { results := [.lit (.bool false)], args := [d] }
  | _ => none }
def FracSumsWrongFalsely : Prop := fracSumsRow.holds Tryz.pinned (OpenSpec.ofChange fracSumsWrong)

/-- 'skymosaiclaw04.FracBounds': WHATEVER THE INPUT: true; the input reads as it did. -/
def fracBoundsSpec : ChangeSpec := { name := "fracBounds", fn := fun _ => fun
  | [d1, d2, d3] => { results := [.lit (.bool true)], args := [d1, d2, d3] }
  | _ => none }
def fracBoundsRow : OpenClaim := { program := "ytajehlgclnocoaagreatdoor", sum := "2930b93b84bf6095e0b85575e937b2ff3302cde38bb930cbb84d046578de9e9d", func := "skymosaic/skymosaiclaw04.FracBounds", spec := "fracBounds", inPlace := ["internal/bytealg.IndexByteString", "internal/bytealg.IndexString"], unfollowed := true, recurses := true, named := ["unicode/utf8.first", "unicode/utf8.acceptRanges", "internal/bytealg.MaxLen"], apart := false, laid := [("unicode/utf8.acceptRanges", laid_unicode_utf8_acceptRanges), ("unicode/utf8.first", laid_unicode_utf8_first)] }
def FracBoundsSaid : Prop := fracBoundsRow.holds Tryz.pinned (OpenSpec.ofChange fracBoundsSpec)

/-- ITS FALSE NEIGHBOUR: 'it returns false'. Refute it at one input. -/
def fracBoundsWrong : ChangeSpec := { name := "fracBounds", fn := fun _ => fun
  | [d1, d2, d3] => { results := [.lit (.bool false)], args := [d1, d2, d3] }
  | _ => none }
def FracBoundsWrongFalsely : Prop := fracBoundsRow.holds Tryz.pinned (OpenSpec.ofChange fracBoundsWrong)

/-- 'skymosaiclaw04.FracOrder': WHATEVER THE INPUT: true; the input reads as it did. -/
def fracOrderSpec : ChangeSpec := { name := "fracOrder", fn := fun _ => fun
  | [d] => { results := [.lit (.bool true)], args := [d] }
  | _ => none }
def fracOrderRow : OpenClaim := { program := "ytajehlgclnocoaagreatdoor", sum := "2930b93b84bf6095e0b85575e937b2ff3302cde38bb930cbb84d046578de9e9d", func := "skymosaic/skymosaiclaw04.FracOrder", spec := "fracOrder", inPlace := ["internal/bytealg.IndexByteString", "internal/bytealg.IndexString"], unfollowed := true, recurses := true, named := ["unicode/utf8.first", "unicode/utf8.acceptRanges", "internal/bytealg.MaxLen"], apart := false, laid := [("unicode/utf8.acceptRanges", laid_unicode_utf8_acceptRanges), ("unicode/utf8.first", laid_unicode_utf8_first)] }
def FracOrderSaid : Prop := fracOrderRow.holds Tryz.pinned (OpenSpec.ofChange fracOrderSpec)

/-- ITS FALSE NEIGHBOUR: 'it returns false'. Refute it at one input. -/
def fracOrderWrong : ChangeSpec := { name := "fracOrder", fn := fun _ => fun
  | [d] => { results := [.lit (.bool false)], args := [d] }
  | _ => none }
def FracOrderWrongFalsely : Prop := fracOrderRow.holds Tryz.pinned (OpenSpec.ofChange fracOrderWrong)

/-- 'skymosaiclaw04.FracTexts': WHATEVER THE INPUT: true; the input reads as it did. -/
def fracTextsSpec : ChangeSpec := { name := "fracTexts", fn := fun _ => fun
  | [d1, d2, d3, d4] => { results := [.lit (.bool true)], args := [d1, d2, d3, d4] }
  | _ => none }
def fracTextsRow : OpenClaim := { program := "ytajehlgclnocoaagreatdoor", sum := "2930b93b84bf6095e0b85575e937b2ff3302cde38bb930cbb84d046578de9e9d", func := "skymosaic/skymosaiclaw04.FracTexts", spec := "fracTexts", inPlace := ["internal/bytealg.IndexByteString", "internal/bytealg.IndexString"], unfollowed := true, recurses := true, named := ["internal/bytealg.MaxLen", "unicode/utf8.first", "unicode/utf8.acceptRanges"], apart := false, laid := [("unicode/utf8.acceptRanges", laid_unicode_utf8_acceptRanges), ("unicode/utf8.first", laid_unicode_utf8_first)] }
def FracTextsSaid : Prop := fracTextsRow.holds Tryz.pinned (OpenSpec.ofChange fracTextsSpec)

/-- ITS FALSE NEIGHBOUR: 'it returns false'. Refute it at one input. -/
def fracTextsWrong : ChangeSpec := { name := "fracTexts", fn := fun _ => fun
  | [d1, d2, d3, d4] => { results := [.lit (.bool false)], args := [d1, d2, d3, d4] }
  | _ => none }
def FracTextsWrongFalsely : Prop := fracTextsRow.holds Tryz.pinned (OpenSpec.ofChange fracTextsWrong)

/-- 'skymosaiclaw04.FracWritten': WHATEVER THE INPUT: true; the input reads as it did. -/
def fracWrittenSpec : ChangeSpec := { name := "fracWritten", fn := fun _ => fun
  | [d] => { results := [.lit (.bool true)], args := [d] }
  | _ => none }
def fracWrittenRow : OpenClaim := { program := "ytajehlgclnocoaagreatdoor", sum := "2930b93b84bf6095e0b85575e937b2ff3302cde38bb930cbb84d046578de9e9d", func := "skymosaic/skymosaiclaw04.FracWritten", spec := "fracWritten", inPlace := ["internal/bytealg.IndexByteString", "internal/bytealg.IndexString"], unfollowed := true, recurses := true, named := ["unicode/utf8.first", "unicode/utf8.acceptRanges", "internal/bytealg.MaxLen"], apart := false, laid := [("unicode/utf8.acceptRanges", laid_unicode_utf8_acceptRanges), ("unicode/utf8.first", laid_unicode_utf8_first)] }
def FracWrittenSaid : Prop := fracWrittenRow.holds Tryz.pinned (OpenSpec.ofChange fracWrittenSpec)

/-- ITS FALSE NEIGHBOUR: 'it returns false'. Refute it at one input. -/
def fracWrittenWrong : ChangeSpec := { name := "fracWritten", fn := fun _ => fun
  | [d] => { results := [.lit (.bool false)], args := [d] }
  | _ => none }
def FracWrittenWrongFalsely : Prop := fracWrittenRow.holds Tryz.pinned (OpenSpec.ofChange fracWrittenWrong)

/-- 'skymosaiclaw07.IvalMakes': WHATEVER THE INPUT: true; the input reads as it did. -/
def ivalMakesSpec : ChangeSpec := { name := "ivalMakes", fn := fun _ => fun
  | [d] => { results := [.lit (.bool true)], args := [d] }
  | _ => none }
def ivalMakesRow : OpenClaim := { program := "ytajehlgclnocoaagreatdoor", sum := "2930b93b84bf6095e0b85575e937b2ff3302cde38bb930cbb84d046578de9e9d", func := "skymosaic/skymosaiclaw07.IvalMakes", spec := "ivalMakes", inPlace := ["internal/bytealg.IndexByteString", "internal/bytealg.IndexString"], unfollowed := true, recurses := true, named := ["internal/bytealg.MaxLen", "unicode/utf8.first", "unicode/utf8.acceptRanges"], apart := false, laid := [("unicode/utf8.acceptRanges", laid_unicode_utf8_acceptRanges), ("unicode/utf8.first", laid_unicode_utf8_first)] }
def IvalMakesSaid : Prop := ivalMakesRow.holds Tryz.pinned (OpenSpec.ofChange ivalMakesSpec)

/-- ITS FALSE NEIGHBOUR: 'it returns false'. Refute it at one input. -/
def ivalMakesWrong : ChangeSpec := { name := "ivalMakes", fn := fun _ => fun
  | [d] => { results := [.lit (.bool false)], args := [d] }
  | _ => none }
def IvalMakesWrongFalsely : Prop := ivalMakesRow.holds Tryz.pinned (OpenSpec.ofChange ivalMakesWrong)

/-- 'skymosaiclaw07.IvalLimits': WHATEVER THE INPUT: true; the input reads as it did. -/
def ivalLimitsSpec : ChangeSpec := { name := "ivalLimits", fn := fun _ => fun
  | [d1, d2, d3] => { results := [.lit (.bool true)], args := [d1, d2, d3] }
  | _ => none }
def ivalLimitsRow : OpenClaim := { program := "ytajehlgclnocoaagreatdoor", sum := "2930b93b84bf6095e0b85575e937b2ff3302cde38bb930cbb84d046578de9e9d", func := "skymosaic/skymosaiclaw07.IvalLimits", spec := "ivalLimits", inPlace := ["internal/bytealg.IndexByteString", "internal/bytealg.IndexString"], unfollowed := true, recurses := true, named := ["internal/bytealg.MaxLen", "unicode/utf8.first", "unicode/utf8.acceptRanges"], apart := false, laid := [("unicode/utf8.acceptRanges", laid_unicode_utf8_acceptRanges), ("unicode/utf8.first", laid_unicode_utf8_first)] }
def IvalLimitsSaid : Prop := ivalLimitsRow.holds Tryz.pinned (OpenSpec.ofChange ivalLimitsSpec)

/-- ITS FALSE NEIGHBOUR: 'it returns false'. Refute it at one input. -/
def ivalLimitsWrong : ChangeSpec := { name := "ivalLimits", fn := fun _ => fun
  | [d1, d2, d3] => { results := [.lit (.bool false)], args := [d1, d2, d3] }
  | _ => none }
def IvalLimitsWrongFalsely : Prop := ivalLimitsRow.holds Tryz.pinned (OpenSpec.ofChange ivalLimitsWrong)

/-- 'skymosaiclaw07.IvalResults': WHATEVER THE INPUT: true; the input reads as it did. -/
def ivalResultsSpec : ChangeSpec := { name := "ivalResults", fn := fun _ => fun
  | [d] => { results := [.lit (.bool true)], args := [d] }
  | _ => none }
def ivalResultsRow : OpenClaim := { program := "ytajehlgclnocoaagreatdoor", sum := "2930b93b84bf6095e0b85575e937b2ff3302cde38bb930cbb84d046578de9e9d", func := "skymosaic/skymosaiclaw07.IvalResults", spec := "ivalResults", inPlace := ["internal/bytealg.IndexByteString", "internal/bytealg.IndexString"], unfollowed := true, recurses := true, named := ["internal/bytealg.MaxLen", "unicode/utf8.first", "unicode/utf8.acceptRanges"], apart := false, laid := [("unicode/utf8.acceptRanges", laid_unicode_utf8_acceptRanges), ("unicode/utf8.first", laid_unicode_utf8_first)] }
def IvalResultsSaid : Prop := ivalResultsRow.holds Tryz.pinned (OpenSpec.ofChange ivalResultsSpec)

/-- ITS FALSE NEIGHBOUR: 'it returns false'. Refute it at one input. -/
def ivalResultsWrong : ChangeSpec := { name := "ivalResults", fn := fun _ => fun
  | [d] => { results := [.lit (.bool false)], args := [d] }
  | _ => none }
def IvalResultsWrongFalsely : Prop := ivalResultsRow.holds Tryz.pinned (OpenSpec.ofChange ivalResultsWrong)

/-- 'skymosaiclaw07.IvalSets': WHATEVER THE INPUT: true; the input reads as it did. -/
def ivalSetsSpec : ChangeSpec := { name := "ivalSets", fn := fun _ => fun
  | [d1, d2] => { results := [.lit (.bool true)], args := [d1, d2] }
  | _ => none }
def ivalSetsRow : OpenClaim := { program := "ytajehlgclnocoaagreatdoor", sum := "2930b93b84bf6095e0b85575e937b2ff3302cde38bb930cbb84d046578de9e9d", func := "skymosaic/skymosaiclaw07.IvalSets", spec := "ivalSets", inPlace := ["internal/bytealg.IndexByteString", "internal/bytealg.IndexString"], unfollowed := true, recurses := true, named := ["internal/bytealg.MaxLen", "unicode/utf8.first", "unicode/utf8.acceptRanges"], apart := false, laid := [("unicode/utf8.acceptRanges", laid_unicode_utf8_acceptRanges), ("unicode/utf8.first", laid_unicode_utf8_first)] }
def IvalSetsSaid : Prop := ivalSetsRow.holds Tryz.pinned (OpenSpec.ofChange ivalSetsSpec)

/-- ITS FALSE NEIGHBOUR: 'it returns false'. Refute it at one input. -/
def ivalSetsWrong : ChangeSpec := { name := "ivalSets", fn := fun _ => fun
  | [d1, d2] => { results := [.lit (.bool false)], args := [d1, d2] }
  | _ => none }
def IvalSetsWrongFalsely : Prop := ivalSetsRow.holds Tryz.pinned (OpenSpec.ofChange ivalSetsWrong)

/-- 'skymosaiclaw07.IvalEncloses': WHATEVER THE INPUT: true; the input reads as it did. -/
def ivalEnclosesSpec : ChangeSpec := { name := "ivalEncloses", fn := fun _ => fun
  | [d1, d2, d3] => { results := [.lit (.bool true)], args := [d1, d2, d3] }
  | _ => none }
def ivalEnclosesRow : OpenClaim := { program := "ytajehlgclnocoaagreatdoor", sum := "2930b93b84bf6095e0b85575e937b2ff3302cde38bb930cbb84d046578de9e9d", func := "skymosaic/skymosaiclaw07.IvalEncloses", spec := "ivalEncloses", inPlace := ["internal/bytealg.IndexByteString", "internal/bytealg.IndexString"], unfollowed := true, recurses := true, named := ["internal/bytealg.MaxLen", "unicode/utf8.first", "unicode/utf8.acceptRanges"], apart := false, laid := [("unicode/utf8.acceptRanges", laid_unicode_utf8_acceptRanges), ("unicode/utf8.first", laid_unicode_utf8_first)] }
def IvalEnclosesSaid : Prop := ivalEnclosesRow.holds Tryz.pinned (OpenSpec.ofChange ivalEnclosesSpec)

/-- ITS FALSE NEIGHBOUR: 'it returns false'. Refute it at one input. -/
def ivalEnclosesWrong : ChangeSpec := { name := "ivalEncloses", fn := fun _ => fun
  | [d1, d2, d3] => { results := [.lit (.bool false)], args := [d1, d2, d3] }
  | _ => none }
def IvalEnclosesWrongFalsely : Prop := ivalEnclosesRow.holds Tryz.pinned (OpenSpec.ofChange ivalEnclosesWrong)

/-- 'skymosaiclaw07.IvalTight': WHATEVER THE INPUT: true; the input reads as it did. -/
def ivalTightSpec : ChangeSpec := { name := "ivalTight", fn := fun _ => fun
  | [d] => { results := [.lit (.bool true)], args := [d] }
  | _ => none }
def ivalTightRow : OpenClaim := { program := "ytajehlgclnocoaagreatdoor", sum := "2930b93b84bf6095e0b85575e937b2ff3302cde38bb930cbb84d046578de9e9d", func := "skymosaic/skymosaiclaw07.IvalTight", spec := "ivalTight", inPlace := ["internal/bytealg.IndexByteString", "internal/bytealg.IndexString"], unfollowed := true, recurses := true, named := ["internal/bytealg.MaxLen", "unicode/utf8.first", "unicode/utf8.acceptRanges"], apart := false, laid := [("unicode/utf8.acceptRanges", laid_unicode_utf8_acceptRanges), ("unicode/utf8.first", laid_unicode_utf8_first)] }
def IvalTightSaid : Prop := ivalTightRow.holds Tryz.pinned (OpenSpec.ofChange ivalTightSpec)

/-- ITS FALSE NEIGHBOUR: 'it returns false'. Refute it at one input. -/
def ivalTightWrong : ChangeSpec := { name := "ivalTight", fn := fun _ => fun
  | [d] => { results := [.lit (.bool false)], args := [d] }
  | _ => none }
def IvalTightWrongFalsely : Prop := ivalTightRow.holds Tryz.pinned (OpenSpec.ofChange ivalTightWrong)

/-- 'skymosaiclaw07.IvalIncludes': WHATEVER THE INPUT: true; the input reads as it did. -/
def ivalIncludesSpec : ChangeSpec := { name := "ivalIncludes", fn := fun _ => fun
  | [d1, d2, d3] => { results := [.lit (.bool true)], args := [d1, d2, d3] }
  | _ => none }
def ivalIncludesRow : OpenClaim := { program := "ytajehlgclnocoaagreatdoor", sum := "2930b93b84bf6095e0b85575e937b2ff3302cde38bb930cbb84d046578de9e9d", func := "skymosaic/skymosaiclaw07.IvalIncludes", spec := "ivalIncludes", inPlace := ["internal/bytealg.IndexByteString", "internal/bytealg.IndexString"], unfollowed := true, recurses := true, named := ["internal/bytealg.MaxLen", "unicode/utf8.first", "unicode/utf8.acceptRanges"], apart := false, laid := [("unicode/utf8.acceptRanges", laid_unicode_utf8_acceptRanges), ("unicode/utf8.first", laid_unicode_utf8_first)] }
def IvalIncludesSaid : Prop := ivalIncludesRow.holds Tryz.pinned (OpenSpec.ofChange ivalIncludesSpec)

/-- ITS FALSE NEIGHBOUR: 'it returns false'. Refute it at one input. -/
def ivalIncludesWrong : ChangeSpec := { name := "ivalIncludes", fn := fun _ => fun
  | [d1, d2, d3] => { results := [.lit (.bool false)], args := [d1, d2, d3] }
  | _ => none }
def IvalIncludesWrongFalsely : Prop := ivalIncludesRow.holds Tryz.pinned (OpenSpec.ofChange ivalIncludesWrong)

/-- 'skymosaiclaw07.IvalLattice': WHATEVER THE INPUT: true; the input reads as it did. -/
def ivalLatticeSpec : ChangeSpec := { name := "ivalLattice", fn := fun _ => fun
  | [d1, d2] => { results := [.lit (.bool true)], args := [d1, d2] }
  | _ => none }
def ivalLatticeRow : OpenClaim := { program := "ytajehlgclnocoaagreatdoor", sum := "2930b93b84bf6095e0b85575e937b2ff3302cde38bb930cbb84d046578de9e9d", func := "skymosaic/skymosaiclaw07.IvalLattice", spec := "ivalLattice", inPlace := ["internal/bytealg.IndexByteString", "internal/bytealg.IndexString"], unfollowed := true, recurses := true, named := ["internal/bytealg.MaxLen", "unicode/utf8.first", "unicode/utf8.acceptRanges"], apart := false, laid := [("unicode/utf8.acceptRanges", laid_unicode_utf8_acceptRanges), ("unicode/utf8.first", laid_unicode_utf8_first)] }
def IvalLatticeSaid : Prop := ivalLatticeRow.holds Tryz.pinned (OpenSpec.ofChange ivalLatticeSpec)

/-- ITS FALSE NEIGHBOUR: 'it returns false'. Refute it at one input. -/
def ivalLatticeWrong : ChangeSpec := { name := "ivalLattice", fn := fun _ => fun
  | [d1, d2] => { results := [.lit (.bool false)], args := [d1, d2] }
  | _ => none }
def IvalLatticeWrongFalsely : Prop := ivalLatticeRow.holds Tryz.pinned (OpenSpec.ofChange ivalLatticeWrong)

/- THE SECOND FORM. 'bulk': how many values and letters a reading holds, each counted each time it is reached (what is shared counts as often as it is met; a slice's spare places count too). A statement '..UptoSaid' is the law's where the arguments, and the package variables that the reading takes, are together of bulk at most 1048576: NARROWER than '..Said'. Prove '..Said' where nothing that the law and all that it calls make is longer than what came in: it says more and counts as full. Else prove '..UptoSaid'. A law counts once. -/
mutual
def uptoBulk {H : Type} : DataW H → Nat
  | .lit (.string bytes) => bytes.length + 1
  | .lit _ => 1
  | .nil => 1
  | .ptr d => uptoBulk d + 1
  | .slice elems spare => uptoBulkAll elems + uptoBulkAll spare + 1
  | .agg parts => uptoBulkAll parts + 1
  | .iface _ d => uptoBulk d + 1
  | .map entries => uptoBulkEntries entries + 1
  | .held _ => 1
def uptoBulkAll {H : Type} : List (DataW H) → Nat
  | [] => 0
  | d :: r => uptoBulk d + uptoBulkAll r
def uptoBulkEntries {H : Type} : List (Lit × DataW H) → Nat
  | [] => 0
  | x :: r => uptoBulkEntry x + uptoBulkEntries r
def uptoBulkEntry {H : Type} : Lit × DataW H → Nat
  | (.string bytes, d) => bytes.length + uptoBulk d + 1
  | (_, d) => uptoBulk d + 1
 end
def uptoSmall : (H : Type) → List (DataW H) → Bool := fun _ ds => decide (uptoBulkAll ds ≤ 1048576)
def OpenSpec.upto (s : _root_.Go.ChangeSpec) : _root_.Go.OpenSpec := { _root_.Go.OpenSpec.ofChange s with cond := some uptoSmall }

/-- 'skymosaiclaw04.FracSums', WHERE WHAT IT READS IS OF BULK AT MOST 1048576: true; the input reads as it did. -/
def fracSumsUptoRow : OpenClaim := { program := "ytajehlgclnocoaagreatdoor", sum := "2930b93b84bf6095e0b85575e937b2ff3302cde38bb930cbb84d046578de9e9d", func := "skymosaic/skymosaiclaw04.FracSums", spec := "fracSums", inPlace := ["internal/bytealg.IndexByteString", "internal/bytealg.IndexString"], unfollowed := true, recurses := true, named := ["unicode/utf8.first", "unicode/utf8.acceptRanges", "internal/bytealg.MaxLen"], apart := false, laid := [("unicode/utf8.acceptRanges", laid_unicode_utf8_acceptRanges), ("unicode/utf8.first", laid_unicode_utf8_first)], narrowed := true }
def FracSumsUptoSaid : Prop := fracSumsUptoRow.holds Tryz.pinned (OpenSpec.upto fracSumsSpec)

/-- 'skymosaiclaw04.FracBounds', WHERE WHAT IT READS IS OF BULK AT MOST 1048576: true; the input reads as it did. -/
def fracBoundsUptoRow : OpenClaim := { program := "ytajehlgclnocoaagreatdoor", sum := "2930b93b84bf6095e0b85575e937b2ff3302cde38bb930cbb84d046578de9e9d", func := "skymosaic/skymosaiclaw04.FracBounds", spec := "fracBounds", inPlace := ["internal/bytealg.IndexByteString", "internal/bytealg.IndexString"], unfollowed := true, recurses := true, named := ["unicode/utf8.first", "unicode/utf8.acceptRanges", "internal/bytealg.MaxLen"], apart := false, laid := [("unicode/utf8.acceptRanges", laid_unicode_utf8_acceptRanges), ("unicode/utf8.first", laid_unicode_utf8_first)], narrowed := true }
def FracBoundsUptoSaid : Prop := fracBoundsUptoRow.holds Tryz.pinned (OpenSpec.upto fracBoundsSpec)

/-- 'skymosaiclaw04.FracOrder', WHERE WHAT IT READS IS OF BULK AT MOST 1048576: true; the input reads as it did. -/
def fracOrderUptoRow : OpenClaim := { program := "ytajehlgclnocoaagreatdoor", sum := "2930b93b84bf6095e0b85575e937b2ff3302cde38bb930cbb84d046578de9e9d", func := "skymosaic/skymosaiclaw04.FracOrder", spec := "fracOrder", inPlace := ["internal/bytealg.IndexByteString", "internal/bytealg.IndexString"], unfollowed := true, recurses := true, named := ["unicode/utf8.first", "unicode/utf8.acceptRanges", "internal/bytealg.MaxLen"], apart := false, laid := [("unicode/utf8.acceptRanges", laid_unicode_utf8_acceptRanges), ("unicode/utf8.first", laid_unicode_utf8_first)], narrowed := true }
def FracOrderUptoSaid : Prop := fracOrderUptoRow.holds Tryz.pinned (OpenSpec.upto fracOrderSpec)

/-- 'skymosaiclaw04.FracTexts', WHERE WHAT IT READS IS OF BULK AT MOST 1048576: true; the input reads as it did. -/
def fracTextsUptoRow : OpenClaim := { program := "ytajehlgclnocoaagreatdoor", sum := "2930b93b84bf6095e0b85575e937b2ff3302cde38bb930cbb84d046578de9e9d", func := "skymosaic/skymosaiclaw04.FracTexts", spec := "fracTexts", inPlace := ["internal/bytealg.IndexByteString", "internal/bytealg.IndexString"], unfollowed := true, recurses := true, named := ["internal/bytealg.MaxLen", "unicode/utf8.first", "unicode/utf8.acceptRanges"], apart := false, laid := [("unicode/utf8.acceptRanges", laid_unicode_utf8_acceptRanges), ("unicode/utf8.first", laid_unicode_utf8_first)], narrowed := true }
def FracTextsUptoSaid : Prop := fracTextsUptoRow.holds Tryz.pinned (OpenSpec.upto fracTextsSpec)

/-- 'skymosaiclaw04.FracWritten', WHERE WHAT IT READS IS OF BULK AT MOST 1048576: true; the input reads as it did. -/
def fracWrittenUptoRow : OpenClaim := { program := "ytajehlgclnocoaagreatdoor", sum := "2930b93b84bf6095e0b85575e937b2ff3302cde38bb930cbb84d046578de9e9d", func := "skymosaic/skymosaiclaw04.FracWritten", spec := "fracWritten", inPlace := ["internal/bytealg.IndexByteString", "internal/bytealg.IndexString"], unfollowed := true, recurses := true, named := ["unicode/utf8.first", "unicode/utf8.acceptRanges", "internal/bytealg.MaxLen"], apart := false, laid := [("unicode/utf8.acceptRanges", laid_unicode_utf8_acceptRanges), ("unicode/utf8.first", laid_unicode_utf8_first)], narrowed := true }
def FracWrittenUptoSaid : Prop := fracWrittenUptoRow.holds Tryz.pinned (OpenSpec.upto fracWrittenSpec)

/-- 'skymosaiclaw07.IvalMakes', WHERE WHAT IT READS IS OF BULK AT MOST 1048576: true; the input reads as it did. -/
def ivalMakesUptoRow : OpenClaim := { program := "ytajehlgclnocoaagreatdoor", sum := "2930b93b84bf6095e0b85575e937b2ff3302cde38bb930cbb84d046578de9e9d", func := "skymosaic/skymosaiclaw07.IvalMakes", spec := "ivalMakes", inPlace := ["internal/bytealg.IndexByteString", "internal/bytealg.IndexString"], unfollowed := true, recurses := true, named := ["internal/bytealg.MaxLen", "unicode/utf8.first", "unicode/utf8.acceptRanges"], apart := false, laid := [("unicode/utf8.acceptRanges", laid_unicode_utf8_acceptRanges), ("unicode/utf8.first", laid_unicode_utf8_first)], narrowed := true }
def IvalMakesUptoSaid : Prop := ivalMakesUptoRow.holds Tryz.pinned (OpenSpec.upto ivalMakesSpec)

/-- 'skymosaiclaw07.IvalLimits', WHERE WHAT IT READS IS OF BULK AT MOST 1048576: true; the input reads as it did. -/
def ivalLimitsUptoRow : OpenClaim := { program := "ytajehlgclnocoaagreatdoor", sum := "2930b93b84bf6095e0b85575e937b2ff3302cde38bb930cbb84d046578de9e9d", func := "skymosaic/skymosaiclaw07.IvalLimits", spec := "ivalLimits", inPlace := ["internal/bytealg.IndexByteString", "internal/bytealg.IndexString"], unfollowed := true, recurses := true, named := ["internal/bytealg.MaxLen", "unicode/utf8.first", "unicode/utf8.acceptRanges"], apart := false, laid := [("unicode/utf8.acceptRanges", laid_unicode_utf8_acceptRanges), ("unicode/utf8.first", laid_unicode_utf8_first)], narrowed := true }
def IvalLimitsUptoSaid : Prop := ivalLimitsUptoRow.holds Tryz.pinned (OpenSpec.upto ivalLimitsSpec)

/-- 'skymosaiclaw07.IvalResults', WHERE WHAT IT READS IS OF BULK AT MOST 1048576: true; the input reads as it did. -/
def ivalResultsUptoRow : OpenClaim := { program := "ytajehlgclnocoaagreatdoor", sum := "2930b93b84bf6095e0b85575e937b2ff3302cde38bb930cbb84d046578de9e9d", func := "skymosaic/skymosaiclaw07.IvalResults", spec := "ivalResults", inPlace := ["internal/bytealg.IndexByteString", "internal/bytealg.IndexString"], unfollowed := true, recurses := true, named := ["internal/bytealg.MaxLen", "unicode/utf8.first", "unicode/utf8.acceptRanges"], apart := false, laid := [("unicode/utf8.acceptRanges", laid_unicode_utf8_acceptRanges), ("unicode/utf8.first", laid_unicode_utf8_first)], narrowed := true }
def IvalResultsUptoSaid : Prop := ivalResultsUptoRow.holds Tryz.pinned (OpenSpec.upto ivalResultsSpec)

/-- 'skymosaiclaw07.IvalSets', WHERE WHAT IT READS IS OF BULK AT MOST 1048576: true; the input reads as it did. -/
def ivalSetsUptoRow : OpenClaim := { program := "ytajehlgclnocoaagreatdoor", sum := "2930b93b84bf6095e0b85575e937b2ff3302cde38bb930cbb84d046578de9e9d", func := "skymosaic/skymosaiclaw07.IvalSets", spec := "ivalSets", inPlace := ["internal/bytealg.IndexByteString", "internal/bytealg.IndexString"], unfollowed := true, recurses := true, named := ["internal/bytealg.MaxLen", "unicode/utf8.first", "unicode/utf8.acceptRanges"], apart := false, laid := [("unicode/utf8.acceptRanges", laid_unicode_utf8_acceptRanges), ("unicode/utf8.first", laid_unicode_utf8_first)], narrowed := true }
def IvalSetsUptoSaid : Prop := ivalSetsUptoRow.holds Tryz.pinned (OpenSpec.upto ivalSetsSpec)

/-- 'skymosaiclaw07.IvalEncloses', WHERE WHAT IT READS IS OF BULK AT MOST 1048576: true; the input reads as it did. -/
def ivalEnclosesUptoRow : OpenClaim := { program := "ytajehlgclnocoaagreatdoor", sum := "2930b93b84bf6095e0b85575e937b2ff3302cde38bb930cbb84d046578de9e9d", func := "skymosaic/skymosaiclaw07.IvalEncloses", spec := "ivalEncloses", inPlace := ["internal/bytealg.IndexByteString", "internal/bytealg.IndexString"], unfollowed := true, recurses := true, named := ["internal/bytealg.MaxLen", "unicode/utf8.first", "unicode/utf8.acceptRanges"], apart := false, laid := [("unicode/utf8.acceptRanges", laid_unicode_utf8_acceptRanges), ("unicode/utf8.first", laid_unicode_utf8_first)], narrowed := true }
def IvalEnclosesUptoSaid : Prop := ivalEnclosesUptoRow.holds Tryz.pinned (OpenSpec.upto ivalEnclosesSpec)

/-- 'skymosaiclaw07.IvalTight', WHERE WHAT IT READS IS OF BULK AT MOST 1048576: true; the input reads as it did. -/
def ivalTightUptoRow : OpenClaim := { program := "ytajehlgclnocoaagreatdoor", sum := "2930b93b84bf6095e0b85575e937b2ff3302cde38bb930cbb84d046578de9e9d", func := "skymosaic/skymosaiclaw07.IvalTight", spec := "ivalTight", inPlace := ["internal/bytealg.IndexByteString", "internal/bytealg.IndexString"], unfollowed := true, recurses := true, named := ["internal/bytealg.MaxLen", "unicode/utf8.first", "unicode/utf8.acceptRanges"], apart := false, laid := [("unicode/utf8.acceptRanges", laid_unicode_utf8_acceptRanges), ("unicode/utf8.first", laid_unicode_utf8_first)], narrowed := true }
def IvalTightUptoSaid : Prop := ivalTightUptoRow.holds Tryz.pinned (OpenSpec.upto ivalTightSpec)

/-- 'skymosaiclaw07.IvalIncludes', WHERE WHAT IT READS IS OF BULK AT MOST 1048576: true; the input reads as it did. -/
def ivalIncludesUptoRow : OpenClaim := { program := "ytajehlgclnocoaagreatdoor", sum := "2930b93b84bf6095e0b85575e937b2ff3302cde38bb930cbb84d046578de9e9d", func := "skymosaic/skymosaiclaw07.IvalIncludes", spec := "ivalIncludes", inPlace := ["internal/bytealg.IndexByteString", "internal/bytealg.IndexString"], unfollowed := true, recurses := true, named := ["internal/bytealg.MaxLen", "unicode/utf8.first", "unicode/utf8.acceptRanges"], apart := false, laid := [("unicode/utf8.acceptRanges", laid_unicode_utf8_acceptRanges), ("unicode/utf8.first", laid_unicode_utf8_first)], narrowed := true }
def IvalIncludesUptoSaid : Prop := ivalIncludesUptoRow.holds Tryz.pinned (OpenSpec.upto ivalIncludesSpec)

/-- 'skymosaiclaw07.IvalLattice', WHERE WHAT IT READS IS OF BULK AT MOST 1048576: true; the input reads as it did. -/
def ivalLatticeUptoRow : OpenClaim := { program := "ytajehlgclnocoaagreatdoor", sum := "2930b93b84bf6095e0b85575e937b2ff3302cde38bb930cbb84d046578de9e9d", func := "skymosaic/skymosaiclaw07.IvalLattice", spec := "ivalLattice", inPlace := ["internal/bytealg.IndexByteString", "internal/bytealg.IndexString"], unfollowed := true, recurses := true, named := ["internal/bytealg.MaxLen", "unicode/utf8.first", "unicode/utf8.acceptRanges"], apart := false, laid := [("unicode/utf8.acceptRanges", laid_unicode_utf8_acceptRanges), ("unicode/utf8.first", laid_unicode_utf8_first)], narrowed := true }
def IvalLatticeUptoSaid : Prop := ivalLatticeUptoRow.holds Tryz.pinned (OpenSpec.upto ivalLatticeSpec)

end Rows
end Go.Proofs.YtajehlgclnocoaaGreatDoor
