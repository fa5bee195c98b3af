/-
  DERIVED. GIVEN WITH THE SEED: THE CARDS: each row of YtjoablphojkimaaGreatDoorRows.lean that lists a variable, with what it lists TIED to the program's text (the seventh form; the later family's looks); each row that meets fmt, with fmt's text TOLD by the authors' own Lean function (tested against real Go, not proved from fmt's source: count such statements apart). THE CARD IS WHAT COUNTS. Prove the row's statement (the work); the ties are given (YtjoablphojkimaaGreatDoorTie.lean); close each card by the builder's one call (the guide's Derived/Test/ToyasCard.lean, 'card_holds'). Laid BY PROGRAM, IN A SANDBOX (cutbox-door.mjs). By AI agents, Wed Nov 11 2026. No macro, syntax, notation, axiom, sorry.
-/
import Derived.Test.YtjoablphojkimaaGreatDoorRows
import GoSem.ClaimSeven
namespace Go.Proofs.YtjoablphojkimaaGreatDoor
namespace Rows

/-- THE TIED CARD OF 'skymosaiclaw05.DiskNumbers'. -/
def diskNumbersCard : Claim7 := { stood := { row := diskNumbersRow, standIns := [], harness := (true, "5c46f64182ac4bed453573ab731ab88482c2fdfc27cd5723801d0e6390e8529c"), looks := false }, kinds := [], alts := [], laidByText := true, laidKinds := [.data, .pinned], laidTests := true, laidLooks := .later }
def DiskNumbersCardSaid : Prop := Claim7.holds Tryz.pinned (.plain (OpenSpec.ofChange diskNumbersSpec)) diskNumbersCard

/-- THE TIED CARD OF 'skymosaiclaw06.JournalReplays'. -/
def journalReplaysCard : Claim7 := { stood := { row := journalReplaysRow, standIns := [], harness := (true, "5c46f64182ac4bed453573ab731ab88482c2fdfc27cd5723801d0e6390e8529c"), looks := false }, kinds := [], alts := [], laidByText := true, laidKinds := [.data, .pinned], laidTests := true, laidLooks := .later }
def JournalReplaysCardSaid : Prop := Claim7.holds Tryz.pinned (.plain (OpenSpec.ofChange journalReplaysSpec)) journalReplaysCard

/-- THE SECOND FORM's CARD OF 'skymosaiclaw05.DiskNumbers'. -/
def diskNumbersUptoCard : Claim7 := { stood := { row := diskNumbersUptoRow, standIns := [], harness := (true, "5c46f64182ac4bed453573ab731ab88482c2fdfc27cd5723801d0e6390e8529c"), looks := false }, kinds := [], alts := [], laidByText := true, laidKinds := [.data, .pinned], laidTests := true, laidLooks := .later }
def DiskNumbersUptoCardSaid : Prop := Claim7.holds Tryz.pinned (.plain (OpenSpec.upto diskNumbersSpec)) diskNumbersUptoCard

/-- THE SECOND FORM's CARD OF 'skymosaiclaw06.JournalReplays'. -/
def journalReplaysUptoCard : Claim7 := { stood := { row := journalReplaysUptoRow, standIns := [], harness := (true, "5c46f64182ac4bed453573ab731ab88482c2fdfc27cd5723801d0e6390e8529c"), looks := false }, kinds := [], alts := [], laidByText := true, laidKinds := [.data, .pinned], laidTests := true, laidLooks := .later }
def JournalReplaysUptoCardSaid : Prop := Claim7.holds Tryz.pinned (.plain (OpenSpec.upto journalReplaysSpec)) journalReplaysUptoCard
end Rows
end Go.Proofs.YtjoablphojkimaaGreatDoor
