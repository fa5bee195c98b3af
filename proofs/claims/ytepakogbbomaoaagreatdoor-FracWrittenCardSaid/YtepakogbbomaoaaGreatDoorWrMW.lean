/-
 Plain facts: what is read from what has been written; one encoding; prefixes. The reference's values: compared, read. The reference's reader: a value of a kind. The reference's encoding of values. A slice of values of the call's own: its cells, its parts, what append makes of it; the reference's Bound. The reference's generator of values: some list of at most 8 proper values comes out.
-/
import Derived.Test.YtepakogbbomaoaaGreatDoorWrAW
import Derived.Deep.RegionLaw
import Derived.Deep.AppendLies
namespace Go.Proofs.YtepakogbbomaoaaGreatDoor
open Go.RowKit Go.Shelf
set_option linter.unusedVariables false
set_option maxRecDepth 100000
/-! ### Round trip -/
theorem rUint_round {n : Nat} (hn : n < 18446744073709551616) (r : List Nat) : rUint (varN n ++ r, 0) = (n, (r, 0)) := by
 unfold rUint
 rw [if_pos rfl, readVar_round n 0 r (by decide) (lt64 hn) (fun h => absurd h (by decide))]
 rfl
theorem rLen_round {n : Nat} (hn : n < 18446744073709551616) {r : List Nat} (hr : n ≤ r.length) : rLen (varN n ++ r, 0) = (n, (r, 0)) := by
 unfold rLen
 rw [rUint_round hn]
 rw [if_neg (fun h => h rfl), if_neg (by show ¬ r.length < n; omega)]
theorem rRaw_round {l : List Nat} (hl : l.length < 18446744073709551616) (r : List Nat) : rRaw (varN l.length ++ l ++ r, 0) = (l, (r, 0)) := by
 unfold rRaw
 rw [List.append_assoc, rLen_round hl (by simp), if_neg (fun h => h rfl)]
 show ((l ++ r).take l.length, ((l ++ r).drop l.length, 0)) = _
 rw [List.take_left, List.drop_left]
/-! ### One encoding -/
/-! ### Prefixes -/
theorem keeps_own {A : Foot} {w W : World} (h : Keeps A w W) {p : Addr} (hp : w.heap.size ≤ p.block) (u : Value) : Keeps A w (W.setCell p u) :=
 ⟨h.os, h.tape, h.output, by have := h.size; simp [World.setCell]; exact this, fun k hk hn => (Below.heap_setCell _ _ _ _ (by omega)).trans (h.same k hk hn)⟩
-- END K
end Go.Proofs.YtepakogbbomaoaaGreatDoor
