/-
 What the walks of later stages take from those of earlier ones (taken out by wip/tools/shake.py).
-/
import Derived.Test.YtepakogbbomaoaaGreatDoorFootW
import Derived.Test.YtepakogbbomaoaaGreatDoorWkAW
import Derived.Test.YtepakogbbomaoaaGreatDoorLwAW
import Derived.Test.YtepakogbbomaoaaGreatDoorWrAW
import Derived.Test.YtepakogbbomaoaaGreatDoorWrMW
import Derived.Test.YtepakogbbomaoaaGreatDoorDvAW
import Derived.Test.YtepakogbbomaoaaGreatDoorDvBW
import Derived.Test.YtepakogbbomaoaaGreatDoorRows
import Derived.RangeFuncRecord
import Derived.Laws.Bits64
import Derived.Laws.Bits64b
import Derived.Below
import Derived.WalkKit
import Derived.WalkSpells
import Derived.WalkLawsBesides
import Derived.Deep.DeepFit
import Derived.Lib.Hide
import Derived.Shelf.Abstract
import Derived.Shelf.RegionOpen
import Derived.OwnWalkIn
import Derived.TacticsInMore
import Derived.LoopNIn
import Derived.LoopIn
import Derived.Lib.ConvBytes
import Derived.Maps.AppendAt
import Derived.Laws.AppendOwnNone
import Derived.Deep.QuietTactic
import Derived.BigQuiet
import Derived.WalkSmall
import Derived.Deep.RegionWith
import Derived.Laws.BytesArg
import Derived.Laws.BitsAllLaws
import Derived.Laws.OwnMore
import Derived.Deep.RegionLaw
import Derived.Deep.AppendLies
import Derived.Lib.AppendStr
import Derived.Deep.AppendSrc
import Derived.Lib.SliceRun
namespace Go.Proofs.YtepakogbbomaoaaGreatDoor
open Go.RowKit Go.Shelf
set_option linter.unusedVariables false
set_option maxRecDepth 100000
theorem fresh_span {B : Nat} {e : TypeId} {k : IntKind} {w : World} {v : Value} {zs : List Int} (h : Fresh B e k w v zs) : ∀ j, blockOf v j → B ≤ j ∧ j < w.heap.size := by
 intro j hj
 rcases h.2 with ⟨rfl, _⟩ | ⟨g, cap, cur, rfl, hb, h3, _⟩
 ·exact hj.elim
 ·have : j = g := hj
  subst this
  exact ⟨hb, (Array.getElem?_eq_some_iff.1 h3).1⟩
theorem row_bytes (w : World) (s : ByteArray) (hs : s.size ≤ maxLen) :
  Row .u8 (Lib.bytesWorld w 5 s) (.slice (some ⟨w.heap.size, 0, none⟩) s.size (grownCap w s.size 0 5)) (natI (strB s)) := by
 have hl : (natI (strB s)).length = s.size := by rw [natI_length, strB_length]
 refine ⟨_, _, by rw [hl], by rw [hl]; exact grownCap_ge _ _ _ _, ?_, fun _ => ⟨_, _, rfl, fun j hj => ?_⟩, fun h => by cases h⟩
 ·have := grownCap_le_maxLen w s.size 0 5 hs
  unfold maxLen at this; omega
 ·rw [hl] at hj
  rw [Nat.zero_add, Lib.bytesWorld_cell w _ s j hj]
  have h1 : (natI (strB s))[j]?.getD 0 = (((strB s)[j]?.getD 0 : Nat) : Int) := natI_getD _ _
  have h2 : (strB s)[j]?.getD 0 = (s.data.toList.getD j 0).toNat := strN_get s j hj
  rw [h1, h2]
end Go.Proofs.YtepakogbbomaoaaGreatDoor
