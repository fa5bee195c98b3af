/-
  The reference of package wide: divided.
-/
import Derived.Test.YtjoablphojkimaaGreatDoorNmH
import Derived.Deep.LoopGhost
namespace Go.Proofs.YtjoablphojkimaaGreatDoor
open Go.RowKit Go.Shelf
set_option linter.unusedVariables false
set_option maxRecDepth 100000

theorem nat_rowAt {W : World} {b : Bool} {p : Option Addr} {m k r : Nat} (h : NAt W (.agg #[.bool b, .slice p m k]) (r : Int)) : Row .i64 W (.slice p m k) (natI (digs r)) := by
  have := nat_row2 h
  rwa [Int.natAbs_natCast] at this

theorem below_one2 (W : World) (o : Obj) : Below W.heap.size W (W.alloc o) := (Below.refl _ W).alloc (Nat.le_refl _) _

end Go.Proofs.YtjoablphojkimaaGreatDoor
