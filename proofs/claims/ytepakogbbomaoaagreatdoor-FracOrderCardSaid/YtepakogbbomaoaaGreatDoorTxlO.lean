/-
 What the law FracTexts needs: bytes that a string was converted to (BA), strings in a slice (SRowT), both packages' Parse side by side.
-/
import Derived.Test.YtepakogbbomaoaaGreatDoorRpaO
import Derived.Test.YtepakogbbomaoaaGreatDoorLfbO
namespace Go.Proofs.YtepakogbbomaoaaGreatDoor
open Go.RowKit Go.Shelf
set_option linter.unusedVariables false
set_option maxRecDepth 100000
theorem ftext_of {p q : Int} (h : Nb p q) : FText (fTxt p q) p q := ⟨h.low, h.n, h.d, strB_fTxt p q⟩
end Go.Proofs.YtepakogbbomaoaaGreatDoor
