/-
  The reference's reader: a value of a kind.
-/
import Derived.Test.YtadnbakniibmfaaWireN
namespace Go.Proofs.Ytadnbakniibmfaa
open Go.RowKit Go.Shelf
set_option linter.unusedVariables false

def rRead (kind : Int) (s : RS) : VV × RS :=
  if kind = 0 then (⟨0, (rUint s).1, 0, [], []⟩, (rUint s).2)
  else if kind = 1 then (⟨1, 0, (rInt s).1, [], []⟩, (rInt s).2)
  else if kind = 2 then (⟨2, 0, if (rBool s).1 then 1 else 0, [], []⟩, (rBool s).2)
  else if kind = 3 ∨ kind = 4 then (⟨kind, 0, 0, (rRaw s).1, []⟩, (rRaw s).2)
  else (⟨kind, 0, 0, [], (rInts s).1⟩, (rInts s).2)

/-- A store into what the call has laid itself. -/
theorem keeps_own {A : Foot} {w W : World} (h : Keeps A w W) {p : Addr} (hp : w.heap.size ≤ p.block) (u : Value) : Keeps A w (W.setCell p u) :=
  ⟨h.os, h.tape, h.output, by have := h.size; simp [World.setCell]; exact this, fun k hk hn => (Below.heap_setCell _ _ _ _ (by omega)).trans (h.same k hk hn)⟩

/-- The empty value of a kind, in two blocks of the call's own. -/
def zeroV (kind : Int) : List Value := [.int .i64 kind, .int .u64 0, .int .i64 0, .slice none 0 0, .slice none 0 0]
-- END K
end Go.Proofs.Ytadnbakniibmfaa
