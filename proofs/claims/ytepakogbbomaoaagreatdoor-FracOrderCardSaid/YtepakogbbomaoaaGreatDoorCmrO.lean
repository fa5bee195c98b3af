/-
 Words that the laws of package wide share: slices of integers of the reference, products, regions that make two boxes.
-/
import Derived.Test.YtepakogbbomaoaaGreatDoorCmnO
import Derived.Test.YtepakogbbomaoaaGreatDoorNmBO
namespace Go.Proofs.YtepakogbbomaoaaGreatDoor
open Go.RowKit Go.Shelf
set_option linter.unusedVariables false
set_option maxRecDepth 100000
theorem len_pos {W : World} {s : Bool} {a : Option Addr} {m c : Nat} {n : Int} (h : NAt W (.agg #[.bool s, .slice a m c]) n) (hn : ¬ n = 0) : ¬ m = 0 := by
 have h1 := row_lenN (nat_row2 h)
 have h2 := digs_len_pos (n := n.natAbs) (by omega)
 omega
theorem below_set2 {W X : World} {p : Nat} {u v : Value} (h : Below W.heap.size W X) (hp : W.heap.size ≤ p) : Below W.heap.size W ((X.setCell ⟨p, 0, none⟩ u).setCell ⟨p, 1, none⟩ v) := (h.setCell (p := ⟨p, 0, none⟩) hp _).setCell (p := ⟨p, 1, none⟩) hp _
theorem lo_int {n : Int} (h : -9223372036854775808 ≤ n ∧ n ≤ 9223372036854775807) : Lo 63 n := by
 unfold Lo
 rw [show (2 : Nat) ^ 63 = 9223372036854775808 by decide]
 omega
theorem cmp_one (a b : Int) : cmpI a b = cmpZ a b := by rfl
end Go.Proofs.YtepakogbbomaoaaGreatDoor
