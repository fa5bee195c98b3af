/-
  The program's writer: Uint.
-/
import Derived.Test.YtmamohnlallfeaaDevA
namespace Go.Proofs.Ytmamohnlallfeaa
open Go.RowKit Go.Shelf
set_option linter.unusedVariables false
set_option maxRecDepth 100000

/-- A literal of one byte, in a block of its own. -/
theorem lit_src {W : World} {H : Nat} {x : Int} (h : W.heap[H]? = some (.cells #[.int .u8 x] 5 (0, 0))) : BSrc W 33 (.slice (some ⟨H, 0, none⟩) 1 1) [x] := by
  refine .inl ⟨rfl, _, 1, rfl, Nat.le_refl _, by decide, fun _ => ⟨H, 0, rfl, fun j hj => ?_⟩, fun h => by cases h⟩
  have : j = 0 := by simpa using hj
  subst this
  rw [cell_at h]
  rfl

set_option maxRecDepth 100000 in
theorem or_fin : ∀ x : Fin 256, bits BinOp.or IntKind.u8 (x.val : Int) 128 = ((128 + x.val % 128 : Nat) : Int) := by decide
theorem or_more (m : Nat) : bits BinOp.or IntKind.u8 ((m : Int) % 256) 128 = ((128 + m % 128 : Nat) : Int) := by
  have := or_fin ⟨m % 256, Nat.mod_lt _ (by decide)⟩
  simp only at this
  rw [show m % 256 % 128 = m % 128 by omega] at this
  rw [← this, Int.natCast_emod]
  rfl

end Go.Proofs.Ytmamohnlallfeaa
