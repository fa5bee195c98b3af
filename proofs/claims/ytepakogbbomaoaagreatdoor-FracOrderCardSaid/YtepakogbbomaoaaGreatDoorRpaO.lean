/-
 The reference of package frac: Parse. (tools/genRpa.py makes this text.)
-/
import Derived.Test.YtepakogbbomaoaaGreatDoorNboO
import Derived.Test.YtepakogbbomaoaaGreatDoorFcDO
import Derived.Test.YtepakogbbomaoaaGreatDoorCmrO
import Derived.Test.YtepakogbbomaoaaGreatDoorNmQO
import Derived.Test.YtepakogbbomaoaaGreatDoorBgIO
import Derived.Test.YtepakogbbomaoaaGreatDoorTxAO
import Derived.Test.YtepakogbbomaoaaGreatDoorTxHO
namespace Go.Proofs.YtepakogbbomaoaaGreatDoor
open Go.RowKit Go.Shelf
set_option linter.unusedVariables false
set_option maxRecDepth 100000
theorem list_ne {S s : ByteArray} (h : S ≠ s) : (S.toList == s.toList) = false := by
 cases hb : (S.toList == s.toList) with
 | false => rfl
 | true =>
  exfalso
  have h1 : S.toList = s.toList := by simpa using hb
  rw [ByteArray.toList_eq, ByteArray.toList_eq] at h1
  exact h (strB_inj (by unfold strB; rw [h1]))
end Go.Proofs.YtepakogbbomaoaaGreatDoor
