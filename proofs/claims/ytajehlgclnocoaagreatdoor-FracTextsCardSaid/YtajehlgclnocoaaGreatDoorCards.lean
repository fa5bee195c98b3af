/-
  DERIVED. GIVEN WITH THE SEED: THE CARDS: each row of YtajehlgclnocoaaGreatDoorRows.lean that lists a variable, with what it lists TIED to the program's text (the seventh form; the later family's looks); each row that meets fmt, with fmt's text TOLD by the authors' own Lean function (tested against real Go, not proved from fmt's source: count such statements apart). THE CARD IS WHAT COUNTS. Prove the row's statement (the work); the ties are given (YtajehlgclnocoaaGreatDoorTie.lean); close each card by the builder's one call (the guide's Derived/Test/ToyasCard.lean, 'card_holds'). Laid BY PROGRAM, IN A SANDBOX (cutbox-door.mjs). By AI agents, Wed Nov 11 2026. No macro, syntax, notation, axiom, sorry.
-/
import Derived.Test.YtajehlgclnocoaaGreatDoorRows
import GoSem.ClaimSeven
namespace Go.Proofs.YtajehlgclnocoaaGreatDoor
namespace Rows

/-- THE TIED CARD OF 'skymosaiclaw04.FracSums'. -/
def fracSumsCard : Claim7 := { stood := { row := fracSumsRow, standIns := [], harness := (true, "4dada53060c435b42bc52aee3db88a2d1a097434505908526842e2d414f8294b"), looks := false }, kinds := [], alts := [], laidByText := true, laidKinds := [.data, .pinned], laidTests := true, laidLooks := .later }
def FracSumsCardSaid : Prop := Claim7.holds Tryz.pinned (.plain (OpenSpec.ofChange fracSumsSpec)) fracSumsCard

/-- THE TIED CARD OF 'skymosaiclaw04.FracBounds'. -/
def fracBoundsCard : Claim7 := { stood := { row := fracBoundsRow, standIns := [], harness := (true, "4dada53060c435b42bc52aee3db88a2d1a097434505908526842e2d414f8294b"), looks := false }, kinds := [], alts := [], laidByText := true, laidKinds := [.data, .pinned], laidTests := true, laidLooks := .later }
def FracBoundsCardSaid : Prop := Claim7.holds Tryz.pinned (.plain (OpenSpec.ofChange fracBoundsSpec)) fracBoundsCard

/-- THE TIED CARD OF 'skymosaiclaw04.FracOrder'. -/
def fracOrderCard : Claim7 := { stood := { row := fracOrderRow, standIns := [], harness := (true, "4dada53060c435b42bc52aee3db88a2d1a097434505908526842e2d414f8294b"), looks := false }, kinds := [], alts := [], laidByText := true, laidKinds := [.data, .pinned], laidTests := true, laidLooks := .later }
def FracOrderCardSaid : Prop := Claim7.holds Tryz.pinned (.plain (OpenSpec.ofChange fracOrderSpec)) fracOrderCard

/-- THE TIED CARD OF 'skymosaiclaw04.FracTexts'. -/
def fracTextsCard : Claim7 := { stood := { row := fracTextsRow, standIns := [], harness := (true, "4dada53060c435b42bc52aee3db88a2d1a097434505908526842e2d414f8294b"), looks := false }, kinds := [], alts := [], laidByText := true, laidKinds := [.data, .pinned], laidTests := true, laidLooks := .later }
def FracTextsCardSaid : Prop := Claim7.holds Tryz.pinned (.plain (OpenSpec.ofChange fracTextsSpec)) fracTextsCard

/-- THE TIED CARD OF 'skymosaiclaw04.FracWritten'. -/
def fracWrittenCard : Claim7 := { stood := { row := fracWrittenRow, standIns := [], harness := (true, "4dada53060c435b42bc52aee3db88a2d1a097434505908526842e2d414f8294b"), looks := false }, kinds := [], alts := [], laidByText := true, laidKinds := [.data, .pinned], laidTests := true, laidLooks := .later }
def FracWrittenCardSaid : Prop := Claim7.holds Tryz.pinned (.plain (OpenSpec.ofChange fracWrittenSpec)) fracWrittenCard

/-- THE TIED CARD OF 'skymosaiclaw07.IvalMakes'. -/
def ivalMakesCard : Claim7 := { stood := { row := ivalMakesRow, standIns := [], harness := (true, "4dada53060c435b42bc52aee3db88a2d1a097434505908526842e2d414f8294b"), looks := false }, kinds := [], alts := [], laidByText := true, laidKinds := [.data, .pinned], laidTests := true, laidLooks := .later }
def IvalMakesCardSaid : Prop := Claim7.holds Tryz.pinned (.plain (OpenSpec.ofChange ivalMakesSpec)) ivalMakesCard

/-- THE TIED CARD OF 'skymosaiclaw07.IvalLimits'. -/
def ivalLimitsCard : Claim7 := { stood := { row := ivalLimitsRow, standIns := [], harness := (true, "4dada53060c435b42bc52aee3db88a2d1a097434505908526842e2d414f8294b"), looks := false }, kinds := [], alts := [], laidByText := true, laidKinds := [.data, .pinned], laidTests := true, laidLooks := .later }
def IvalLimitsCardSaid : Prop := Claim7.holds Tryz.pinned (.plain (OpenSpec.ofChange ivalLimitsSpec)) ivalLimitsCard

/-- THE TIED CARD OF 'skymosaiclaw07.IvalResults'. -/
def ivalResultsCard : Claim7 := { stood := { row := ivalResultsRow, standIns := [], harness := (true, "4dada53060c435b42bc52aee3db88a2d1a097434505908526842e2d414f8294b"), looks := false }, kinds := [], alts := [], laidByText := true, laidKinds := [.data, .pinned], laidTests := true, laidLooks := .later }
def IvalResultsCardSaid : Prop := Claim7.holds Tryz.pinned (.plain (OpenSpec.ofChange ivalResultsSpec)) ivalResultsCard

/-- THE TIED CARD OF 'skymosaiclaw07.IvalSets'. -/
def ivalSetsCard : Claim7 := { stood := { row := ivalSetsRow, standIns := [], harness := (true, "4dada53060c435b42bc52aee3db88a2d1a097434505908526842e2d414f8294b"), looks := false }, kinds := [], alts := [], laidByText := true, laidKinds := [.data, .pinned], laidTests := true, laidLooks := .later }
def IvalSetsCardSaid : Prop := Claim7.holds Tryz.pinned (.plain (OpenSpec.ofChange ivalSetsSpec)) ivalSetsCard

/-- THE TIED CARD OF 'skymosaiclaw07.IvalEncloses'. -/
def ivalEnclosesCard : Claim7 := { stood := { row := ivalEnclosesRow, standIns := [], harness := (true, "4dada53060c435b42bc52aee3db88a2d1a097434505908526842e2d414f8294b"), looks := false }, kinds := [], alts := [], laidByText := true, laidKinds := [.data, .pinned], laidTests := true, laidLooks := .later }
def IvalEnclosesCardSaid : Prop := Claim7.holds Tryz.pinned (.plain (OpenSpec.ofChange ivalEnclosesSpec)) ivalEnclosesCard

/-- THE TIED CARD OF 'skymosaiclaw07.IvalTight'. -/
def ivalTightCard : Claim7 := { stood := { row := ivalTightRow, standIns := [], harness := (true, "4dada53060c435b42bc52aee3db88a2d1a097434505908526842e2d414f8294b"), looks := false }, kinds := [], alts := [], laidByText := true, laidKinds := [.data, .pinned], laidTests := true, laidLooks := .later }
def IvalTightCardSaid : Prop := Claim7.holds Tryz.pinned (.plain (OpenSpec.ofChange ivalTightSpec)) ivalTightCard

/-- THE TIED CARD OF 'skymosaiclaw07.IvalIncludes'. -/
def ivalIncludesCard : Claim7 := { stood := { row := ivalIncludesRow, standIns := [], harness := (true, "4dada53060c435b42bc52aee3db88a2d1a097434505908526842e2d414f8294b"), looks := false }, kinds := [], alts := [], laidByText := true, laidKinds := [.data, .pinned], laidTests := true, laidLooks := .later }
def IvalIncludesCardSaid : Prop := Claim7.holds Tryz.pinned (.plain (OpenSpec.ofChange ivalIncludesSpec)) ivalIncludesCard

/-- THE TIED CARD OF 'skymosaiclaw07.IvalLattice'. -/
def ivalLatticeCard : Claim7 := { stood := { row := ivalLatticeRow, standIns := [], harness := (true, "4dada53060c435b42bc52aee3db88a2d1a097434505908526842e2d414f8294b"), looks := false }, kinds := [], alts := [], laidByText := true, laidKinds := [.data, .pinned], laidTests := true, laidLooks := .later }
def IvalLatticeCardSaid : Prop := Claim7.holds Tryz.pinned (.plain (OpenSpec.ofChange ivalLatticeSpec)) ivalLatticeCard

/-- THE SECOND FORM's CARD OF 'skymosaiclaw04.FracSums'. -/
def fracSumsUptoCard : Claim7 := { stood := { row := fracSumsUptoRow, standIns := [], harness := (true, "4dada53060c435b42bc52aee3db88a2d1a097434505908526842e2d414f8294b"), looks := false }, kinds := [], alts := [], laidByText := true, laidKinds := [.data, .pinned], laidTests := true, laidLooks := .later }
def FracSumsUptoCardSaid : Prop := Claim7.holds Tryz.pinned (.plain (OpenSpec.upto fracSumsSpec)) fracSumsUptoCard

/-- THE SECOND FORM's CARD OF 'skymosaiclaw04.FracBounds'. -/
def fracBoundsUptoCard : Claim7 := { stood := { row := fracBoundsUptoRow, standIns := [], harness := (true, "4dada53060c435b42bc52aee3db88a2d1a097434505908526842e2d414f8294b"), looks := false }, kinds := [], alts := [], laidByText := true, laidKinds := [.data, .pinned], laidTests := true, laidLooks := .later }
def FracBoundsUptoCardSaid : Prop := Claim7.holds Tryz.pinned (.plain (OpenSpec.upto fracBoundsSpec)) fracBoundsUptoCard

/-- THE SECOND FORM's CARD OF 'skymosaiclaw04.FracOrder'. -/
def fracOrderUptoCard : Claim7 := { stood := { row := fracOrderUptoRow, standIns := [], harness := (true, "4dada53060c435b42bc52aee3db88a2d1a097434505908526842e2d414f8294b"), looks := false }, kinds := [], alts := [], laidByText := true, laidKinds := [.data, .pinned], laidTests := true, laidLooks := .later }
def FracOrderUptoCardSaid : Prop := Claim7.holds Tryz.pinned (.plain (OpenSpec.upto fracOrderSpec)) fracOrderUptoCard

/-- THE SECOND FORM's CARD OF 'skymosaiclaw04.FracTexts'. -/
def fracTextsUptoCard : Claim7 := { stood := { row := fracTextsUptoRow, standIns := [], harness := (true, "4dada53060c435b42bc52aee3db88a2d1a097434505908526842e2d414f8294b"), looks := false }, kinds := [], alts := [], laidByText := true, laidKinds := [.data, .pinned], laidTests := true, laidLooks := .later }
def FracTextsUptoCardSaid : Prop := Claim7.holds Tryz.pinned (.plain (OpenSpec.upto fracTextsSpec)) fracTextsUptoCard

/-- THE SECOND FORM's CARD OF 'skymosaiclaw04.FracWritten'. -/
def fracWrittenUptoCard : Claim7 := { stood := { row := fracWrittenUptoRow, standIns := [], harness := (true, "4dada53060c435b42bc52aee3db88a2d1a097434505908526842e2d414f8294b"), looks := false }, kinds := [], alts := [], laidByText := true, laidKinds := [.data, .pinned], laidTests := true, laidLooks := .later }
def FracWrittenUptoCardSaid : Prop := Claim7.holds Tryz.pinned (.plain (OpenSpec.upto fracWrittenSpec)) fracWrittenUptoCard

/-- THE SECOND FORM's CARD OF 'skymosaiclaw07.IvalMakes'. -/
def ivalMakesUptoCard : Claim7 := { stood := { row := ivalMakesUptoRow, standIns := [], harness := (true, "4dada53060c435b42bc52aee3db88a2d1a097434505908526842e2d414f8294b"), looks := false }, kinds := [], alts := [], laidByText := true, laidKinds := [.data, .pinned], laidTests := true, laidLooks := .later }
def IvalMakesUptoCardSaid : Prop := Claim7.holds Tryz.pinned (.plain (OpenSpec.upto ivalMakesSpec)) ivalMakesUptoCard

/-- THE SECOND FORM's CARD OF 'skymosaiclaw07.IvalLimits'. -/
def ivalLimitsUptoCard : Claim7 := { stood := { row := ivalLimitsUptoRow, standIns := [], harness := (true, "4dada53060c435b42bc52aee3db88a2d1a097434505908526842e2d414f8294b"), looks := false }, kinds := [], alts := [], laidByText := true, laidKinds := [.data, .pinned], laidTests := true, laidLooks := .later }
def IvalLimitsUptoCardSaid : Prop := Claim7.holds Tryz.pinned (.plain (OpenSpec.upto ivalLimitsSpec)) ivalLimitsUptoCard

/-- THE SECOND FORM's CARD OF 'skymosaiclaw07.IvalResults'. -/
def ivalResultsUptoCard : Claim7 := { stood := { row := ivalResultsUptoRow, standIns := [], harness := (true, "4dada53060c435b42bc52aee3db88a2d1a097434505908526842e2d414f8294b"), looks := false }, kinds := [], alts := [], laidByText := true, laidKinds := [.data, .pinned], laidTests := true, laidLooks := .later }
def IvalResultsUptoCardSaid : Prop := Claim7.holds Tryz.pinned (.plain (OpenSpec.upto ivalResultsSpec)) ivalResultsUptoCard

/-- THE SECOND FORM's CARD OF 'skymosaiclaw07.IvalSets'. -/
def ivalSetsUptoCard : Claim7 := { stood := { row := ivalSetsUptoRow, standIns := [], harness := (true, "4dada53060c435b42bc52aee3db88a2d1a097434505908526842e2d414f8294b"), looks := false }, kinds := [], alts := [], laidByText := true, laidKinds := [.data, .pinned], laidTests := true, laidLooks := .later }
def IvalSetsUptoCardSaid : Prop := Claim7.holds Tryz.pinned (.plain (OpenSpec.upto ivalSetsSpec)) ivalSetsUptoCard

/-- THE SECOND FORM's CARD OF 'skymosaiclaw07.IvalEncloses'. -/
def ivalEnclosesUptoCard : Claim7 := { stood := { row := ivalEnclosesUptoRow, standIns := [], harness := (true, "4dada53060c435b42bc52aee3db88a2d1a097434505908526842e2d414f8294b"), looks := false }, kinds := [], alts := [], laidByText := true, laidKinds := [.data, .pinned], laidTests := true, laidLooks := .later }
def IvalEnclosesUptoCardSaid : Prop := Claim7.holds Tryz.pinned (.plain (OpenSpec.upto ivalEnclosesSpec)) ivalEnclosesUptoCard

/-- THE SECOND FORM's CARD OF 'skymosaiclaw07.IvalTight'. -/
def ivalTightUptoCard : Claim7 := { stood := { row := ivalTightUptoRow, standIns := [], harness := (true, "4dada53060c435b42bc52aee3db88a2d1a097434505908526842e2d414f8294b"), looks := false }, kinds := [], alts := [], laidByText := true, laidKinds := [.data, .pinned], laidTests := true, laidLooks := .later }
def IvalTightUptoCardSaid : Prop := Claim7.holds Tryz.pinned (.plain (OpenSpec.upto ivalTightSpec)) ivalTightUptoCard

/-- THE SECOND FORM's CARD OF 'skymosaiclaw07.IvalIncludes'. -/
def ivalIncludesUptoCard : Claim7 := { stood := { row := ivalIncludesUptoRow, standIns := [], harness := (true, "4dada53060c435b42bc52aee3db88a2d1a097434505908526842e2d414f8294b"), looks := false }, kinds := [], alts := [], laidByText := true, laidKinds := [.data, .pinned], laidTests := true, laidLooks := .later }
def IvalIncludesUptoCardSaid : Prop := Claim7.holds Tryz.pinned (.plain (OpenSpec.upto ivalIncludesSpec)) ivalIncludesUptoCard

/-- THE SECOND FORM's CARD OF 'skymosaiclaw07.IvalLattice'. -/
def ivalLatticeUptoCard : Claim7 := { stood := { row := ivalLatticeUptoRow, standIns := [], harness := (true, "4dada53060c435b42bc52aee3db88a2d1a097434505908526842e2d414f8294b"), looks := false }, kinds := [], alts := [], laidByText := true, laidKinds := [.data, .pinned], laidTests := true, laidLooks := .later }
def IvalLatticeUptoCardSaid : Prop := Claim7.holds Tryz.pinned (.plain (OpenSpec.upto ivalLatticeSpec)) ivalLatticeUptoCard
end Rows
end Go.Proofs.YtajehlgclnocoaaGreatDoor
