/-
  hash.Pair; the laws' check that the documented examples hold.
-/
import Derived.Test.YtlljcnhcknmoaaaGreatWalkD
namespace Go.Proofs.YtlljcnhcknmoaaaGreat
open Go.RowKit Go.Shelf
set_option linter.unusedVariables false

theorem wrap_toInt {n : Nat} (h : n < T64) : wrap64 (n : Int) = toInt n := by
  unfold T64 at h
  unfold wrap64 toInt
  split <;> omega

theorem cell_at {W : World} {b j : Nat} {cs : Array Value} {t : TypeId} {m : Nat × Nat} (h : W.heap[b]? = some (.cells cs t m)) : W.cell? ⟨b, j, none⟩ = cs[j]? := by
  unfold World.cell?
  rw [h]; simp

/-- A row that has just been laid reads as the integers that it was laid with. -/
theorem ints_new (w : World) (k : IntKind) (t : TypeId) (zs : List Int) (hz : zs.length ≤ 4611686018427387904) :
    Ints k (w.alloc (.cells (zs.map (Value.int k)).toArray t)) (.slice (some ⟨w.heap.size, 0, none⟩) zs.length zs.length) zs := by
  refine ⟨_, _, rfl, Nat.le_refl _, hz, fun _ => ⟨_, _, rfl, fun j hj => ?_⟩⟩
  have h : (w.alloc (.cells (zs.map (Value.int k)).toArray t)).heap[w.heap.size]? = _ := World.alloc_heap_new w _
  rw [Nat.zero_add, cell_at h]
  simp [hj]

theorem bytes_new (w : World) (t : TypeId) (l : List Nat) (h8 : ∀ c ∈ l, c < 256) (hz : l.length ≤ 4611686018427387904) :
    Bytes (w.alloc (.cells (l.map fun c : Nat => Value.int .u8 (c : Int)).toArray t)) (.slice (some ⟨w.heap.size, 0, none⟩) l.length l.length) l := by
  refine ⟨h8, _, _, rfl, Nat.le_refl _, hz, fun _ => ⟨_, _, rfl, fun j hj => ?_⟩⟩
  have h : (w.alloc (.cells (l.map fun c : Nat => Value.int .u8 (c : Int)).toArray t)).heap[w.heap.size]? = _ := World.alloc_heap_new w _
  rw [Nat.zero_add, cell_at h]
  simp [hj]

theorem below_new (w : World) (o : Obj) {w2 : World} (h : Below (w.alloc o).heap.size (w.alloc o) w2) : Below w.heap.size w w2 :=
  ((Below.refl _ w).alloc (Nat.le_refl _) o).trans (h.mono (by simp))

theorem below_then {w a b : World} (h : Below w.heap.size w a) (k : Below a.heap.size a b) : Below w.heap.size w b := h.trans (k.mono h.size)

end Go.Proofs.YtlljcnhcknmoaaaGreat
