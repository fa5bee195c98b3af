/-
 The walks of the laws HashSum and HashBytes: Sum, Bytes and Pair agree with the reference. Plain facts: sums and hashes of lists that differ at one place, or within one group. The walk of the law HashOneGroup: changes within one group of a byte slice change its hash. The walk of the law HashOneWord: one word that is another changes the sum. Plain facts: the sums of two labels that differ in one byte. The walk of the law HashOneLabel: a label that is another in one byte changes the sum.
-/
import Derived.Test.YtepakogbbomaoaaGreatDoorWkAW
import Derived.Deep.RegionWith
import Derived.Laws.BytesArg
import Derived.Laws.BitsAllLaws
import Derived.Lib.ConvBytes
namespace Go.Proofs.YtepakogbbomaoaaGreatDoor
open Go.RowKit Go.Shelf
set_option linter.unusedVariables false
set_option maxRecDepth 100000
open Go.RowKit
theorem row_of_fresh {B : Nat} {e : TypeId} {k : IntKind} {w : World} {v : Value} {zs : List Int} (h : Fresh B e k w v zs) : Row k w v zs := by
 obtain ⟨a, cap, h1, h2, h3⟩ := fresh_elems h
 refine ⟨a, cap, h1, h2, ?_, h3, ?_⟩
 ·rcases h.2 with ⟨rfl, _⟩ | ⟨g, cap', cur, rfl, _, _, _, hm, _⟩
  ·injection h1 with e1 e2 e3; omega
  ·injection h1 with e1 e2 e3; unfold maxLen at hm; omega
 ·rintro rfl
  rcases h.2 with ⟨rfl, h0⟩ | ⟨g, cap', cur, rfl, _⟩
  ·injection h1 with e1 e2 e3
   exact ⟨List.eq_nil_of_length_eq_zero h0, e3.symm⟩
  ·injection h1 with e1; cases e1
theorem fresh_some {B : Nat} {e : TypeId} {k : IntKind} {w : World} {v : Value} {zs : List Int} (h : Fresh B e k w v zs) (hz : zs ≠ []) :
  ∃ g cap, v = .slice (some ⟨g, 0, none⟩) zs.length cap ∧ B ≤ g ∧ g < w.heap.size ∧ zs.length ≤ cap := by
 rcases h.2 with ⟨_, h0⟩ | ⟨g, cap, cur, rfl, h1, h2, h3, _⟩
 ·exact (hz (List.eq_nil_of_length_eq_zero h0)).elim
 ·exact ⟨g, cap, rfl, h1, (Array.getElem?_eq_some_iff.1 h2).1, h3⟩
theorem fresh_store {B : Nat} {e : TypeId} {k : IntKind} {w : World} {g cap : Nat} {zs : List Int} (h : Fresh B e k w (.slice (some ⟨g, 0, none⟩) zs.length cap) zs) (j : Nat) (c : Int) :
  Fresh B e k (w.setCell ⟨g, j, none⟩ (.int k c)) (.slice (some ⟨g, 0, none⟩) zs.length cap) (zs.set j c) ∧ w.grownBy (w.setCell ⟨g, j, none⟩ (.int k c)) (some g) := by
 have := World.ownsRow.stored h j (.int k c)
 unfold Fresh
 rw [List.length_set, List.map_set]
 exact this
theorem fresh_store2 {B : Nat} {e : TypeId} {k : IntKind} {w : World} {g cap n : Nat} {zs : List Int} (h : Fresh B e k w (.slice (some ⟨g, 0, none⟩) n cap) zs) (hn : n = zs.length) (j : Nat) (c : Int) :
  Fresh B e k (w.setCell ⟨g, j, none⟩ (.int k c)) (.slice (some ⟨g, 0, none⟩) n cap) (zs.set j c) ∧ w.grownBy (w.setCell ⟨g, j, none⟩ (.int k c)) (some g) := by
 subst hn; exact fresh_store h j c
theorem fresh_cell {B : Nat} {e : TypeId} {k : IntKind} {w : World} {g cap n : Nat} {zs : List Int} (h : Fresh B e k w (.slice (some ⟨g, 0, none⟩) n cap) zs) {j : Nat} (hj : j < zs.length) : w.cell? ⟨g, j, none⟩ = some (.int k (zs[j]?.getD 0)) := by
 obtain ⟨a, c, h1, h2, h3⟩ := fresh_elems h
 obtain ⟨b, off, h4, h5⟩ := h3 (fun e => by rw [e] at hj; simp at hj)
 cases h1
 cases h4
 have := h5 j hj
 rwa [Nat.zero_add] at this
theorem fresh_frozen {B : Nat} {e : TypeId} {k : IntKind} {w : World} {g cap : Nat} {zs : List Int} (h : Fresh B e k w (.slice (some ⟨g, 0, none⟩) zs.length cap) zs) (j : Nat) : w.frozen? ⟨g, j, none⟩ = false :=
 World.ownsRow.frozenAt h j
open Go.RowKit
end Go.Proofs.YtepakogbbomaoaaGreatDoor
