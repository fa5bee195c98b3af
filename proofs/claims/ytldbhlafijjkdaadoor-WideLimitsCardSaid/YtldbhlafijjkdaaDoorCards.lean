/-
  DERIVED. GIVEN WITH THE SEED: THE CARDS: each row of YtldbhlafijjkdaaDoorRows.lean that lists a variable, with what it lists TIED to the program's text (the seventh form; the later family's looks); each row that meets fmt, with fmt's text TOLD by the authors' own Lean function (tested against real Go, not proved from fmt's source: count such statements apart). THE CARD IS WHAT COUNTS. Prove the row's statement (the work); the ties are given (YtldbhlafijjkdaaDoorTie.lean); close each card by the builder's one call (the guide's Derived/Test/ToyasCard.lean, 'card_holds'). Laid BY PROGRAM, IN A SANDBOX (cutbox-door.mjs). By AI agents, Wed Nov 11 2026. No macro, syntax, notation, axiom, sorry.
-/
import Derived.Test.YtldbhlafijjkdaaDoorRows
import GoSem.ClaimSeven
namespace Go.Proofs.YtldbhlafijjkdaaDoor
namespace Rows

/-- THE TIED CARD OF 'skymosaiclaw03.WideTexts'. -/
def wideTextsCard : Claim7 := { stood := { row := wideTextsRow, standIns := [], harness := (true, "db66884c6f88a4baca4c997049fd43ad0fa27af868c0b1b296bd0da6c055a645"), looks := false }, kinds := [], alts := [], laidByText := true, laidKinds := [.data, .pinned], laidTests := true, laidLooks := .later }
def WideTextsCardSaid : Prop := Claim7.holds Tryd.pinned (.plain (OpenSpec.ofChange wideTextsSpec)) wideTextsCard

/-- THE TIED CARD OF 'skymosaiclaw03.WideFrom'. -/
def wideFromCard : Claim7 := { stood := { row := wideFromRow, standIns := [], harness := (true, "db66884c6f88a4baca4c997049fd43ad0fa27af868c0b1b296bd0da6c055a645"), looks := false }, kinds := [], alts := [], laidByText := true, laidKinds := [.data, .pinned], laidTests := true, laidLooks := .later }
def WideFromCardSaid : Prop := Claim7.holds Tryd.pinned (.plain (OpenSpec.ofChange wideFromSpec)) wideFromCard

/-- THE TIED CARD OF 'skymosaiclaw03.WideQuotients'. -/
def wideQuotientsCard : Claim7 := { stood := { row := wideQuotientsRow, standIns := [], harness := (true, "db66884c6f88a4baca4c997049fd43ad0fa27af868c0b1b296bd0da6c055a645"), looks := false }, kinds := [], alts := [], laidByText := true, laidKinds := [.data, .pinned], laidTests := true, laidLooks := .later }
def WideQuotientsCardSaid : Prop := Claim7.holds Tryd.pinned (.plain (OpenSpec.ofChange wideQuotientsSpec)) wideQuotientsCard

/-- THE TIED CARD OF 'skymosaiclaw03.WideOrder'. -/
def wideOrderCard : Claim7 := { stood := { row := wideOrderRow, standIns := [], harness := (true, "db66884c6f88a4baca4c997049fd43ad0fa27af868c0b1b296bd0da6c055a645"), looks := false }, kinds := [], alts := [], laidByText := true, laidKinds := [.data, .pinned], laidTests := true, laidLooks := .later }
def WideOrderCardSaid : Prop := Claim7.holds Tryd.pinned (.plain (OpenSpec.ofChange wideOrderSpec)) wideOrderCard

/-- THE TIED CARD OF 'skymosaiclaw03.WideLimits'. -/
def wideLimitsCard : Claim7 := { stood := { row := wideLimitsRow, standIns := [], harness := (true, "db66884c6f88a4baca4c997049fd43ad0fa27af868c0b1b296bd0da6c055a645"), looks := false }, kinds := [], alts := [], laidByText := true, laidKinds := [.data, .pinned], laidTests := true, laidLooks := .later }
def WideLimitsCardSaid : Prop := Claim7.holds Tryd.pinned (.plain (OpenSpec.ofChange wideLimitsSpec)) wideLimitsCard

/-- THE SECOND FORM's CARD OF 'skymosaiclaw03.WideTexts'. -/
def wideTextsUptoCard : Claim7 := { stood := { row := wideTextsUptoRow, standIns := [], harness := (true, "db66884c6f88a4baca4c997049fd43ad0fa27af868c0b1b296bd0da6c055a645"), looks := false }, kinds := [], alts := [], laidByText := true, laidKinds := [.data, .pinned], laidTests := true, laidLooks := .later }
def WideTextsUptoCardSaid : Prop := Claim7.holds Tryd.pinned (.plain (OpenSpec.upto wideTextsSpec)) wideTextsUptoCard

/-- THE SECOND FORM's CARD OF 'skymosaiclaw03.WideFrom'. -/
def wideFromUptoCard : Claim7 := { stood := { row := wideFromUptoRow, standIns := [], harness := (true, "db66884c6f88a4baca4c997049fd43ad0fa27af868c0b1b296bd0da6c055a645"), looks := false }, kinds := [], alts := [], laidByText := true, laidKinds := [.data, .pinned], laidTests := true, laidLooks := .later }
def WideFromUptoCardSaid : Prop := Claim7.holds Tryd.pinned (.plain (OpenSpec.upto wideFromSpec)) wideFromUptoCard

/-- THE SECOND FORM's CARD OF 'skymosaiclaw03.WideQuotients'. -/
def wideQuotientsUptoCard : Claim7 := { stood := { row := wideQuotientsUptoRow, standIns := [], harness := (true, "db66884c6f88a4baca4c997049fd43ad0fa27af868c0b1b296bd0da6c055a645"), looks := false }, kinds := [], alts := [], laidByText := true, laidKinds := [.data, .pinned], laidTests := true, laidLooks := .later }
def WideQuotientsUptoCardSaid : Prop := Claim7.holds Tryd.pinned (.plain (OpenSpec.upto wideQuotientsSpec)) wideQuotientsUptoCard

/-- THE SECOND FORM's CARD OF 'skymosaiclaw03.WideOrder'. -/
def wideOrderUptoCard : Claim7 := { stood := { row := wideOrderUptoRow, standIns := [], harness := (true, "db66884c6f88a4baca4c997049fd43ad0fa27af868c0b1b296bd0da6c055a645"), looks := false }, kinds := [], alts := [], laidByText := true, laidKinds := [.data, .pinned], laidTests := true, laidLooks := .later }
def WideOrderUptoCardSaid : Prop := Claim7.holds Tryd.pinned (.plain (OpenSpec.upto wideOrderSpec)) wideOrderUptoCard

/-- THE SECOND FORM's CARD OF 'skymosaiclaw03.WideLimits'. -/
def wideLimitsUptoCard : Claim7 := { stood := { row := wideLimitsUptoRow, standIns := [], harness := (true, "db66884c6f88a4baca4c997049fd43ad0fa27af868c0b1b296bd0da6c055a645"), looks := false }, kinds := [], alts := [], laidByText := true, laidKinds := [.data, .pinned], laidTests := true, laidLooks := .later }
def WideLimitsUptoCardSaid : Prop := Claim7.holds Tryd.pinned (.plain (OpenSpec.upto wideLimitsSpec)) wideLimitsUptoCard
end Rows
end Go.Proofs.YtldbhlafijjkdaaDoor
