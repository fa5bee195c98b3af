/-
  The reference's encodings: zigzag, varints.
-/
import Derived.Test.YtadnbakniibmfaaLawG
import Derived.Test.YtadnbakniibmfaaVar
namespace Go.Proofs.Ytadnbakniibmfaa
open Go.RowKit Go.Shelf
set_option linter.unusedVariables false

theorem wrap_u64_small {n : Int} (h : 0 ≤ n) (h2 : n < 18446744073709551616) : IntKind.u64.wrap n = n := by rw [IntKind.wrap_u64]; omega

theorem natI_append (a b : List Nat) : natI (a ++ b) = natI a ++ natI b := List.map_append

end Go.Proofs.Ytadnbakniibmfaa
