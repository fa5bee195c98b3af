/-
  The reference's pairs and hashes of bytes.
-/
import Derived.Test.YtmamohnlallfeaaWalkK
namespace Go.Proofs.Ytmamohnlallfeaa
open Go.RowKit Go.Shelf
set_option linter.unusedVariables false

end Go.Proofs.Ytmamohnlallfeaa
