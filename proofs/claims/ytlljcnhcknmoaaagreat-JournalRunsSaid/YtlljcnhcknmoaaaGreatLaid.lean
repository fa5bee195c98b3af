/-
  A struct (or an array) that lies in a block of its own: its cells, what a store makes of them, what keeps them.
-/
import Derived.Test.YtlljcnhcknmoaaaGreatWireB
namespace Go.Proofs.YtlljcnhcknmoaaaGreat
open Go.RowKit Go.Shelf
set_option linter.unusedVariables false

/-- Block r holds the cells vs, unfrozen. -/
def Laid (W : World) (r : Nat) (t : TypeId) (vs : List Value) : Prop := W.heap[r]? = some (.cells vs.toArray t (0, 0))

theorem Laid.lt {W : World} {r : Nat} {t : TypeId} {vs : List Value} (h : Laid W r t vs) : r < W.heap.size := (Array.getElem?_eq_some_iff.1 h).1
theorem Laid.cell {W : World} {r : Nat} {t : TypeId} {vs : List Value} (h : Laid W r t vs) (j : Nat) : W.cell? ⟨r, j, none⟩ = vs[j]? := by
  rw [cell_at h]; simp
theorem Laid.frozen {W : World} {r : Nat} {t : TypeId} {vs : List Value} (h : Laid W r t vs) (j : Nat) : W.frozen? ⟨r, j, none⟩ = false := by
  simp [World.frozen?, show W.heap[r]? = _ from h]
theorem Laid.new (W : World) (t : TypeId) (vs : List Value) : Laid (W.alloc (.cells vs.toArray t)) W.heap.size t vs := World.alloc_heap_new W _
theorem Laid.set {W : World} {r : Nat} {t : TypeId} {vs : List Value} (h : Laid W r t vs) (j : Nat) (u : Value) : Laid (W.setCell ⟨r, j, none⟩ u) r t (vs.set j u) := by
  obtain ⟨hlt, hk⟩ := Array.getElem?_eq_some_iff.1 h
  show (W.heap.modify r _)[r]? = _
  rw [Array.getElem?_eq_getElem (by rw [Array.size_modify]; exact hlt), Array.getElem_modify_self, hk]
  simp
theorem Laid.keeps {W W2 : World} {r : Nat} {t : TypeId} {vs : List Value} {A : Foot} (h : Laid W r t vs) (hk : Keeps A W W2) (hn : ¬ A r) : Laid W2 r t vs := hk.obj h hn
theorem Laid.below {W W2 : World} {r : Nat} {t : TypeId} {vs : List Value} (h : Laid W r t vs) (hb : Below W.heap.size W W2) : Laid W2 r t vs := (hb.block r h.lt).trans h

theorem row_foot {A : Foot} {k : IntKind} {w w' : World} {v : Value} {zs : List Int} (h : Row k w v zs) (hk : Keeps A w w') (hn : ∀ j, blockOf v j → ¬ A j) : Row k w' v zs := by
  obtain ⟨a, cap, rfl, h2, h3, h4, h5⟩ := h
  refine ⟨a, cap, rfl, h2, h3, fun hne => ?_, h5⟩
  obtain ⟨b, off, rfl, hc⟩ := h4 hne
  exact ⟨b, off, rfl, fun j hj => hk.cell (hc j hj) (hn b rfl)⟩

/-- A store into one's own block. -/
theorem keeps_set (W : World) (r j : Nat) (u : Value) : Keeps (fun k => k = r) W (W.setCell ⟨r, j, none⟩ u) := (Keeps.refl _ W).setCell ⟨r, j, none⟩ u rfl
end Go.Proofs.YtlljcnhcknmoaaaGreat
