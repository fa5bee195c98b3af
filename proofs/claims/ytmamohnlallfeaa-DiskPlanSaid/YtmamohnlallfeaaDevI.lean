/-
  The laws' examples.
-/
import Derived.Test.YtmamohnlallfeaaDevH
namespace Go.Proofs.Ytmamohnlallfeaa
open Go.RowKit Go.Shelf
set_option linter.unusedVariables false
set_option maxRecDepth 100000

theorem var300 : varN 300 = [172, 2] := by rw [varN_big (by decide), varN_small (by decide)]
theorem zigm1 : varN (zigN (-1)) = [1] := by rw [show zigN (-1) = 1 by decide, varN_small (by decide)]
theorem var2 : varN 2 = [2] := varN_small (by decide)

/-- A step that touches only blocks from B on. -/
theorem below_foot {A : Foot} {B : Nat} {w W W2 : World} (h : Below B w W) (hk : Keeps A W W2) (hB : B ≤ W.heap.size) (hA : ∀ k, A k → B ≤ k) : Below B w W2 := h.trans (hk.below hB hA)

end Go.Proofs.Ytmamohnlallfeaa
