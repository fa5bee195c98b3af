/-
  The reference's reader: a value of a kind.
-/
import Derived.Test.YtlljcnhcknmoaaaGreatWireN
namespace Go.Proofs.YtlljcnhcknmoaaaGreat
open Go.RowKit Go.Shelf
set_option linter.unusedVariables false

def rRead (kind : Int) (s : RS) : VV × RS :=
  if kind = 0 then (⟨0, (rUint s).1, 0, [], []⟩, (rUint s).2)
  else if kind = 1 then (⟨1, 0, (rInt s).1, [], []⟩, (rInt s).2)
  else if kind = 2 then (⟨2, 0, if (rBool s).1 then 1 else 0, [], []⟩, (rBool s).2)
  else if kind = 3 ∨ kind = 4 then (⟨kind, 0, 0, (rRaw s).1, []⟩, (rRaw s).2)
  else (⟨kind, 0, 0, [], (rInts s).1⟩, (rInts s).2)

def ReadEnd (r b : Nat) (v : VV) (s : RS) (w : World) (e : Ending) (w' : World) : Prop :=
  ∃ x, e = .returned x ∧ ValAt w' x v ∧ Rd w' r b s ∧ Keeps (fun k => k = r) w w'

/-- A store into what the call has laid itself. -/
theorem keeps_own {A : Foot} {w W : World} (h : Keeps A w W) {p : Addr} (hp : w.heap.size ≤ p.block) (u : Value) : Keeps A w (W.setCell p u) :=
  ⟨h.os, h.tape, h.output, by have := h.size; simp [World.setCell]; exact this, fun k hk hn => (Below.heap_setCell _ _ _ _ (by omega)).trans (h.same k hk hn)⟩

/-- The empty value of a kind, in two blocks of the call's own. -/
def zeroV (kind : Int) : List Value := [.int .i64 kind, .int .u64 0, .int .i64 0, .slice none 0 0, .slice none 0 0]
theorem read_end {r b : Nat} {v : VV} {s : RS} {w W1 W2 : World} {vb vl : Value} (hK : Keeps (fun k => k = r) w W1) (hR : Rd W1 r b s) (hs : Keeps (fun k => k = w.heap.size ∨ k = w.heap.size + 1) W1 W2)
    (hb : b < w.heap.size) (hr : r < w.heap.size) (h1 : Row .u8 W1 vb (natI v.b)) (h2 : Row .i64 W1 vl v.l) (n1 : ∀ j, blockOf vb j → j < w.heap.size) (n2 : ∀ j, blockOf vl j → w.heap.size + 2 ≤ j) {k n : Int} {u : Int}
    (ek : k = v.kind) (eu : u = (v.u : Int)) (en : n = v.n) :
    ReadEnd r b v s w (.returned (.agg #[.int .i64 k, .int .u64 u, .int .i64 n, vb, vl])) W2 := by
  subst ek eu en
  refine ⟨_, rfl, ⟨vb, vl, rfl, row_foot h1 hs (fun j hj h => by have := n1 j hj; omega), row_foot h2 hs (fun j hj h => by have := n2 j hj; omega)⟩, rd_keeps hR hs (by omega) (by omega), ?_⟩
  exact ⟨hs.os.trans hK.os, hs.tape.trans hK.tape, hs.output.trans hK.output, Nat.le_trans hK.size hs.size, fun j hj hn => (hs.same j (Nat.lt_of_lt_of_le hj hK.size) (by omega)).trans (hK.same j hj hn)⟩

-- END K
end Go.Proofs.YtlljcnhcknmoaaaGreat
