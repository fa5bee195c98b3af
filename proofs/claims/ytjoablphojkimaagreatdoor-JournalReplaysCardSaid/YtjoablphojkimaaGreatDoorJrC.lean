/-
  The reference of package journal: the frame; the record at the beginning. The reference of package journal: the record at the beginning; Scan. The reference of package journal: Scan.
-/
import Derived.Test.YtjoablphojkimaaGreatDoorJrB
namespace Go.Proofs.YtjoablphojkimaaGreatDoor
open Go.RowKit Go.Shelf
set_option linter.unusedVariables false
set_option maxRecDepth 100000

theorem fresh_plain {B : Nat} {e : TypeId} {k : IntKind} {w : World} {v : Value} {zs : List Int} (h : Fresh B e k w v zs) : PlainS v := by
  rcases h.2 with ⟨rfl, _⟩ | ⟨g, cap, cur, rfl, _⟩
  · exact .inl rfl
  · exact .inr ⟨g, 0, _, _, rfl⟩

def FirstEnd (F X l : List Nat) (b : Nat) (w : World) (e : Ending) (w' : World) : Prop :=
  ∃ u, e = .returned (.tuple #[u, .bool (decide (F <+: l))]) ∧ (F <+: l → Row .u8 w' u (natI X) ∧ ∀ j, blockOf u j → j = b) ∧ Below w.heap.size w w'

/-- The state of the reference's Scan. -/
structure RsIs (w : World) (l : List Nat) (pre : List (List Nat × Nat)) (us : List Value) (n : Nat) (s4 : Value) (wr : World) : Prop where
  own : LOwn w.heap.size wr s4 us (pre.map Prod.fst)
  all : scanP 0 l = pre ++ scanP pre.length (l.drop n)
  sum : (pre.map Prod.snd).sum = n
  le : n ≤ l.length
  cnt : pre.length ≤ n
  below : Below w.heap.size w wr

/-- As ScanEnd: and the records lie in the bytes that were scanned. -/
def ScanOwn (v : Value) (l : List Nat) (w : World) (e : Ending) (w' : World) : Prop :=
  ∃ u us, e = .returned (.tuple #[u, .int .i64 ((((scanP 0 l).map Prod.snd).sum : Nat) : Int)]) ∧ LOwn w.heap.size w' u us ((scanP 0 l).map Prod.fst) ∧ Below w.heap.size w w' ∧ ∀ y ∈ us, ∀ k, blockOf y k → blockOf v k

end Go.Proofs.YtjoablphojkimaaGreatDoor
