/-
  The reference's pairs and hashes of bytes.
-/
import Derived.Test.YtjapbopdpohebaaWalkK
namespace Go.Proofs.Ytjapbopdpohebaa
open Go.RowKit Go.Shelf
set_option linter.unusedVariables false

end Go.Proofs.Ytjapbopdpohebaa
