/-
  The reference of package wide: Div.
-/
import Derived.Test.YtjoablphojkimaaGreatDoorDvd
import Derived.Test.YtjoablphojkimaaGreatDoorBgO
import Derived.Test.YtjoablphojkimaaGreatDoorNmQ
import Derived.Deep.RegionHeld3
namespace Go.Proofs.YtjoablphojkimaaGreatDoor
open Go.RowKit Go.Shelf
set_option linter.unusedVariables false
set_option maxRecDepth 100000

def NDivEnd (a b : Int) (w : World) (e : Ending) (w' : World) : Prop := ∃ x y, e = .returned (.tuple #[x, y]) ∧ NAt w' x (a / b) ∧ NAt w' y (a % b) ∧ Below w.heap.size w w'

theorem sgn_sum (s : Bool) (q : Nat) : sgn s q + sgn s 1 = sgn s (q + 1) := by cases s <;> simp [sgn] <;> omega

end Go.Proofs.YtjoablphojkimaaGreatDoor
