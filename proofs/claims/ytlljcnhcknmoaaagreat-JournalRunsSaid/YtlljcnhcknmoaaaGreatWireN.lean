/-
  The reference's values: compared, read.
-/
import Derived.Test.YtlljcnhcknmoaaaGreatWireM
namespace Go.Proofs.YtlljcnhcknmoaaaGreat
open Go.RowKit Go.Shelf
set_option linter.unusedVariables false

/-- A value of the reference, plainly. -/
structure VV where
  kind : Int
  u : Nat
  n : Int
  b : List Nat
  l : List Int
  deriving DecidableEq

def ValAt (W : World) (x : Value) (v : VV) : Prop :=
  ∃ vb vl, x = .agg #[.int .i64 v.kind, .int .u64 (v.u : Int), .int .i64 v.n, vb, vl] ∧ Row .u8 W vb (natI v.b) ∧ Row .i64 W vl v.l

theorem Elems.of_row {k : IntKind} {w : World} {v : Value} {zs : List Int} (h : Row k w v zs) : Elems k w v zs := by
  obtain ⟨a, cap, h1, h2, h3, h4, h5⟩ := h
  exact ⟨a, cap, h1, h4⟩

end Go.Proofs.YtlljcnhcknmoaaaGreat
