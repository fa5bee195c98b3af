/-
  The reference's reader: lists.
-/
import Derived.Test.YtlljcnhcknmoaaaGreatWireD
namespace Go.Proofs.YtlljcnhcknmoaaaGreat
open Go.RowKit Go.Shelf
set_option linter.unusedVariables false

theorem rd_keeps {A : Foot} {W W2 : World} {r b : Nat} {s : RS} (h : Rd W r b s) (hk : Keeps A W W2) (hr : ¬ A r) (hb : ¬ A b) : Rd W2 r b s := by
  obtain ⟨v, h1, h2, h3, h4, h5, h6⟩ := h
  exact ⟨v, h1.keeps hk hr, row_foot h2 hk (fun j hj => by rw [h3.2 j hj]; exact hb), h3, h4, h5, h6⟩

theorem rd_below {W W2 : World} {r b : Nat} {s : RS} (h : Rd W r b s) (hb : b < W.heap.size) (hk : Below W.heap.size W W2) : Rd W2 r b s := by
  have hr : r < W.heap.size := by obtain ⟨v, h1, _⟩ := h; exact h1.lt
  exact rd_keeps h (Keeps.of_below hk) (by omega) (by omega)

theorem fresh_foot {A : Foot} {B : Nat} {e : TypeId} {k : IntKind} {w w' : World} {v : Value} {zs : List Int} (h : Fresh B e k w v zs) (hk : Keeps A w w') (hn : ∀ j, B ≤ j → ¬ A j) : Fresh B e k w' v zs := by
  refine ⟨h.1, ?_⟩
  rcases h.2 with h0 | ⟨g, cap, cur, rfl, h2, h3, h4⟩
  · exact .inl h0
  · exact .inr ⟨g, cap, cur, rfl, h2, hk.obj h3 (hn g h2), h4⟩

/-- A row of the call's own has grown: what lay before the call minds it not. -/
theorem keeps_grown {A : Foot} {e : TypeId} {k : IntKind} {w W W' : World} {v : Value} {zs : List Int} (hk : Keeps A w W) (hf : Fresh w.heap.size e k W v zs) (hg : W.grownBy W' v.ownBlock) : Keeps A w W' :=
  ⟨hg.os.trans hk.os, hg.tape.trans hk.tape, hg.output.trans hk.output, Nat.le_trans hk.size hg.size, fun j hj hn =>
    (hg.block j (Nat.lt_of_lt_of_le hj hk.size) (fun e => by have := (hf.lt j e.symm).1; omega)).trans (hk.same j hj hn)⟩

theorem rLen_small {W : World} {r b : Nat} {s : RS} (h : Rd W r b (rLen s).2) : (rLen s).1 ≤ 1000000 := by
  by_cases he : (rLen s).2.2 = 0
  · have := rLen_le s he
    have := h.short
    omega
  · unfold rLen at *
    split
    · exact Nat.zero_le _
    · rename_i h1
      rw [if_neg h1] at he
      split
      · exact Nat.zero_le _
      · rename_i h2
        rw [if_neg h2] at he
        exact absurd he h1

def IntsEnd (r b : Nat) (l : List Int) (s : RS) (w : World) (e : Ending) (w' : World) : Prop :=
  ∃ v, e = .returned v ∧ Fresh w.heap.size 3 .i64 w' v l ∧ Rd w' r b s ∧ Keeps (fun k => k = r) w w'

theorem rInt_range {W : World} {r b : Nat} {s : RS} (h : Rd W r b s) : -9223372036854775808 ≤ (rInt s).1 ∧ (rInt s).1 ≤ 9223372036854775807 := zagI_range (rUint_lt h.bytes)

end Go.Proofs.YtlljcnhcknmoaaaGreat
