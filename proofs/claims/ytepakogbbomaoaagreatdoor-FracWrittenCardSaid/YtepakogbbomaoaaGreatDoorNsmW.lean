/-
 The reference of package wide: Small and Fits.
-/
import Derived.Test.YtepakogbbomaoaaGreatDoorCmrW
import Derived.Test.YtepakogbbomaoaaGreatDoorTxAW
namespace Go.Proofs.YtepakogbbomaoaaGreatDoor
open Go.RowKit Go.Shelf
set_option linter.unusedVariables false
set_option maxRecDepth 100000
theorem nat_sign {W : World} {s : Bool} {a : Option Addr} {m c : Nat} {z : Int} (h : NAt W (.agg #[.bool s, .slice a m c]) z) : s = decide (z < 0) := by
 obtain ⟨v, e, _⟩ := h
 injection e with e
 have e1 : Value.bool s = .bool (decide (z < 0)) := by simpa using congrArg (fun t => t[0]!) e
 simpa using e1
end Go.Proofs.YtepakogbbomaoaaGreatDoor
