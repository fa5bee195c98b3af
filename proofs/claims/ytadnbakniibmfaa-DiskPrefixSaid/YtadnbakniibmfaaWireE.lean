/-
  The reference's reader: lists.
-/
import Derived.Test.YtadnbakniibmfaaWireD
namespace Go.Proofs.Ytadnbakniibmfaa
open Go.RowKit Go.Shelf
set_option linter.unusedVariables false

theorem fresh_foot {A : Foot} {B : Nat} {e : TypeId} {k : IntKind} {w w' : World} {v : Value} {zs : List Int} (h : Fresh B e k w v zs) (hk : Keeps A w w') (hn : ∀ j, B ≤ j → ¬ A j) : Fresh B e k w' v zs := by
  refine ⟨h.1, ?_⟩
  rcases h.2 with h0 | ⟨g, cap, cur, rfl, h2, h3, h4⟩
  · exact .inl h0
  · exact .inr ⟨g, cap, cur, rfl, h2, hk.obj h3 (hn g h2), h4⟩

/-- A row of the call's own has grown: what lay before the call minds it not. -/
theorem keeps_grown {A : Foot} {e : TypeId} {k : IntKind} {w W W' : World} {v : Value} {zs : List Int} (hk : Keeps A w W) (hf : Fresh w.heap.size e k W v zs) (hg : W.grownBy W' v.ownBlock) : Keeps A w W' :=
  ⟨hg.os.trans hk.os, hg.tape.trans hk.tape, hg.output.trans hk.output, Nat.le_trans hk.size hg.size, fun j hj hn =>
    (hg.block j (Nat.lt_of_lt_of_le hj hk.size) (fun e => by have := (hf.lt j e.symm).1; omega)).trans (hk.same j hj hn)⟩

end Go.Proofs.Ytadnbakniibmfaa
