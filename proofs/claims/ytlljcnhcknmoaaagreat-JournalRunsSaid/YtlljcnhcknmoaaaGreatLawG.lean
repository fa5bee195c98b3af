/-
  The walk of the law HashOneLabel: a label that is another in one byte changes the sum.
-/
import Derived.Test.YtlljcnhcknmoaaaGreatLawE
import Derived.Test.YtlljcnhcknmoaaaGreatPlainC
import Derived.Lib.ConvBytes
namespace Go.Proofs.YtlljcnhcknmoaaaGreat
open Go.RowKit Go.Shelf
set_option linter.unusedVariables false

theorem size_x (s : ByteArray) : (s ++ (⟨#[120]⟩ : ByteArray)).size = s.size + 1 := ByteArray.size_append

theorem Ints.of_row {k : IntKind} {w : World} {v : Value} {zs : List Int} (h : Row k w v zs) (hz : zs.length ≤ 4611686018427387904) : Ints k w v zs := by
  obtain ⟨a, cap, h1, h2, h3, h4, h5⟩ := h
  exact ⟨a, cap, h1, h2, hz, h4⟩

theorem row_below {B : Nat} {k : IntKind} {w w' : World} {v : Value} {zs : List Int} (h : Row k w v zs) (hB : ∀ j, blockOf v j → j < B) (hb : Below B w w') : Row k w' v zs := by
  obtain ⟨a, cap, rfl, h2, h3, h4, h5⟩ := h
  refine ⟨a, cap, rfl, h2, h3, fun hne => ?_, h5⟩
  obtain ⟨b, off, rfl, hc⟩ := h4 hne
  exact ⟨b, off, rfl, fun j hj => (hb.cell (p := ⟨b, off + j, none⟩) (hB b rfl)).trans (hc j hj)⟩

/-- A string as a byte slice, as a row of integers. -/
theorem row_of_string (w : World) (s : ByteArray) (hs : s.size ≤ maxLen) (h1 : 1 ≤ s.size) :
    Row .u8 (Lib.bytesWorld w 5 s) (.slice (some ⟨w.heap.size, 0, none⟩) (natI (strN s)).length (grownCap w s.size 0 5)) (natI (strN s)) := by
  have hl : (natI (strN s)).length = s.size := by unfold natI; rw [List.length_map, strN_length]
  refine ⟨_, _, rfl, by rw [hl]; exact grownCap_ge _ _ _ _, ?_, fun _ => ⟨_, _, rfl, fun j hj => ?_⟩, fun h => by cases h⟩
  · have := grownCap_le_maxLen w s.size 0 5 hs
    unfold maxLen at this; omega
  · rw [hl] at hj
    rw [Nat.zero_add, Lib.bytesWorld_cell w _ s j hj]
    have : (natI (strN s))[j]?.getD 0 = (((strN s)[j]?.getD 0 : Nat) : Int) := by
      have hj2 : j < (strN s).length := by rw [strN_length]; exact hj
      unfold natI
      rw [List.getElem?_map, List.getElem?_eq_getElem hj2]; rfl
    rw [this, strN_get s j hj]

/-- The three slices of the law. -/
def Three (w : World) (u v x : Value) (ws xs ys : List Int) (W : World) : Prop :=
  Row .i64 W u ws ∧ Row .u8 W v xs ∧ Row .u8 W x ys ∧ Below w.heap.size w W

theorem Three.step {w : World} {u v x : Value} {ws xs ys : List Int} {W W2 : World} (h : Three w u v x ws xs ys W) (hb : Below W.heap.size W W2) : Three w u v x ws xs ys W2 :=
  ⟨row_keeps h.1 hb, row_keeps h.2.1 hb, row_keeps h.2.2.1 hb, below_then h.2.2.2 hb⟩

/-- A byte slice as a string. -/
theorem row_string {W : World} {g len cap : Nat} {xs : List Int} (h : Row .u8 W (.slice (some ⟨g, 0, none⟩) len cap) xs) (hl : len = xs.length) :
    (convert 39 9 (.slice (some ⟨g, 0, none⟩) len cap)).run Tryz.prog W = .ok (.string (strOfNums xs)) W := by
  obtain ⟨a, c, h1, h2, h3, h4, h5⟩ := h
  refine run_convert_bytes_arg (P := Tryz.prog) W 39 5 Tryz.underlying39 Tryz.underlying5 g 0 len cap xs hl.symm (fun i hi => ?_) _ Tryz.underlying9
  obtain ⟨b, off, e, hc⟩ := h4 (fun e => by rw [e] at hl; simp at hl; omega)
  cases h1
  cases e
  rw [hc i (by omega), List.getD_eq_getElem?_getD]

end Go.Proofs.YtlljcnhcknmoaaaGreat
