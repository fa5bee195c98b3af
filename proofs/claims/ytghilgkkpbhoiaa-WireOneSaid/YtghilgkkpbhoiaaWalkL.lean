/-
  The reference's pairs and hashes of bytes.
-/
import Derived.Test.YtghilgkkpbhoiaaWalkK
namespace Go.Proofs.Ytghilgkkpbhoiaa
open Go.RowKit Go.Shelf
set_option linter.unusedVariables false

end Go.Proofs.Ytghilgkkpbhoiaa
