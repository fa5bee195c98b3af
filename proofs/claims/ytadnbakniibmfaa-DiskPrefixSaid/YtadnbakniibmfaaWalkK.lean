/-
  The reference's sums, hashes of bytes, and pairs.
-/
import Derived.Test.YtadnbakniibmfaaWalkJ
namespace Go.Proofs.Ytadnbakniibmfaa
open Go.RowKit Go.Shelf
set_option linter.unusedVariables false

theorem natI_get (l : List Nat) {k : Nat} (hk : k < l.length) : (natI l)[k]?.getD 0 = ((l[k]'hk : Nat) : Int) := by simp [natI, hk]
theorem natI_length (l : List Nat) : (natI l).length = l.length := by simp [natI]
theorem fold_take_nat (s : Nat) (ws : List Nat) {k : Nat} (hk : k < ws.length) : fold s (ws.take (k + 1)) = mixN (fold s (ws.take k)) ws[k] := by
  rw [List.take_succ_eq_append_getElem hk, fold_snoc]
end Go.Proofs.Ytadnbakniibmfaa
