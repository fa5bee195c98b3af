/-
  DERIVED. GIVEN WITH THE SEED: THE CARDS: each row of YtepakogbbomaoaaGreatDoorRows.lean that lists a variable, with what it lists TIED to the program's text (the seventh form; the later family's looks); each row that meets fmt, with fmt's text TOLD by the authors' own Lean function (tested against real Go, not proved from fmt's source: count such statements apart). THE CARD IS WHAT COUNTS. Prove the row's statement (the work); the ties are given (YtepakogbbomaoaaGreatDoorTie.lean); close each card by the builder's one call (the guide's Derived/Test/ToyasCard.lean, 'card_holds'). Laid BY PROGRAM, IN A SANDBOX (cutbox-door.mjs). By AI agents, Wed Nov 11 2026. No macro, syntax, notation, axiom, sorry.
-/
import Derived.Test.YtepakogbbomaoaaGreatDoorRows
import GoSem.ClaimSeven
namespace Go.Proofs.YtepakogbbomaoaaGreatDoor
namespace Rows

/-- THE TIED CARD OF 'skymosaiclaw04.FracOrder'. -/
def fracOrderCard : Claim7 := { stood := { row := fracOrderRow, standIns := [], harness := (true, "7167052595a52d985eedf6789dadaf08b19b556ee1aa35a615e0d24a753bd4e9"), looks := false }, kinds := [], alts := [], laidByText := true, laidKinds := [.data, .pinned], laidTests := true, laidLooks := .later }
def FracOrderCardSaid : Prop := Claim7.holds Tryz.pinned (.plain (OpenSpec.ofChange fracOrderSpec)) fracOrderCard

/-- THE TIED CARD OF 'skymosaiclaw04.FracWritten'. -/
def fracWrittenCard : Claim7 := { stood := { row := fracWrittenRow, standIns := [], harness := (true, "7167052595a52d985eedf6789dadaf08b19b556ee1aa35a615e0d24a753bd4e9"), looks := false }, kinds := [], alts := [], laidByText := true, laidKinds := [.data, .pinned], laidTests := true, laidLooks := .later }
def FracWrittenCardSaid : Prop := Claim7.holds Tryz.pinned (.plain (OpenSpec.ofChange fracWrittenSpec)) fracWrittenCard

/-- THE SECOND FORM's CARD OF 'skymosaiclaw04.FracOrder'. -/
def fracOrderUptoCard : Claim7 := { stood := { row := fracOrderUptoRow, standIns := [], harness := (true, "7167052595a52d985eedf6789dadaf08b19b556ee1aa35a615e0d24a753bd4e9"), looks := false }, kinds := [], alts := [], laidByText := true, laidKinds := [.data, .pinned], laidTests := true, laidLooks := .later }
def FracOrderUptoCardSaid : Prop := Claim7.holds Tryz.pinned (.plain (OpenSpec.upto fracOrderSpec)) fracOrderUptoCard

/-- THE SECOND FORM's CARD OF 'skymosaiclaw04.FracWritten'. -/
def fracWrittenUptoCard : Claim7 := { stood := { row := fracWrittenUptoRow, standIns := [], harness := (true, "7167052595a52d985eedf6789dadaf08b19b556ee1aa35a615e0d24a753bd4e9"), looks := false }, kinds := [], alts := [], laidByText := true, laidKinds := [.data, .pinned], laidTests := true, laidLooks := .later }
def FracWrittenUptoCardSaid : Prop := Claim7.holds Tryz.pinned (.plain (OpenSpec.upto fracWrittenSpec)) fracWrittenUptoCard
end Rows
end Go.Proofs.YtepakogbbomaoaaGreatDoor
