/-
  The reference of package wide: Gcd.
-/
import Derived.Test.YtjoablphojkimaaGreatDoorDvr
namespace Go.Proofs.YtjoablphojkimaaGreatDoor
open Go.RowKit Go.Shelf
set_option linter.unusedVariables false
set_option maxRecDepth 100000

theorem row_lenN {W : World} {a : Option Addr} {m k n : Nat} (h : Row .i64 W (.slice a m k) (natI (digs n))) : (digs n).length = m := by
  obtain ⟨_, _, e, _, _⟩ := h
  injection e with _ e _
  rw [e, natI_length]

end Go.Proofs.YtjoablphojkimaaGreatDoor
