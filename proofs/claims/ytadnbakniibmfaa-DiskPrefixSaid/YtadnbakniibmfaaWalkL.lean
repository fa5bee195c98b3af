/-
  The reference's pairs and hashes of bytes.
-/
import Derived.Test.YtadnbakniibmfaaWalkK
namespace Go.Proofs.Ytadnbakniibmfaa
open Go.RowKit Go.Shelf
set_option linter.unusedVariables false

end Go.Proofs.Ytadnbakniibmfaa
