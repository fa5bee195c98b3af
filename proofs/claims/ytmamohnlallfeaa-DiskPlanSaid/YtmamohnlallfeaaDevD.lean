/-
  The program's reader: its state; one byte.
-/
import Derived.Test.YtmamohnlallfeaaDevC
namespace Go.Proofs.Ytmamohnlallfeaa
open Go.RowKit Go.Shelf
set_option linter.unusedVariables false
set_option maxRecDepth 100000

/-- Reading one byte. -/
def rNext (s : RS) : Nat × RS :=
  if s.2 ≠ 0 then (0, s) else match s.1 with
  | [] => (0, ([], 3))
  | c :: l => (c, (l, 0))

end Go.Proofs.Ytmamohnlallfeaa
