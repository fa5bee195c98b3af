/-
 append onto a slice that is full: the new block; rows of integers and of fractions of the reference in blocks of their own.
-/
import Derived.Test.YtepakogbbomaoaaGreatDoorRgAO
import Derived.Test.YtepakogbbomaoaaGreatDoorCmrO
import Derived.Test.YtepakogbbomaoaaGreatDoorFcCO
import Derived.Maps.AppendAt
namespace Go.Proofs.YtepakogbbomaoaaGreatDoor
open Go.RowKit Go.Shelf
set_option linter.unusedVariables false
set_option maxRecDepth 100000
section
variable {P : Program}
theorem addr_add (g j : Nat) : (⟨g, 0, none⟩ : Addr).add j = ⟨g, j, none⟩ := by unfold Addr.add; split <;> simp_all
theorem run_append_full {w : World} (t ty e : TypeId) (i : TypeInfo) (z : Value) (size bytes : Nat) (ht : P.underlying t = some (.slice e)) (hi : P.info? e = some i) (hz : i.zero = some z)
  (hsize : i.size = size) (hby : i.bytes = bytes) (g n cap g2 m c : Nat) (olds news : List Value) (hlo : olds.length = n * size) (holds : ∀ j v, olds[j]? = some v → w.cell? ⟨g, j, none⟩ = some v)
  (hl : news.length = m * size) (hnews : ∀ j v, news[j]? = some v → w.cell? ⟨g2, j, none⟩ = some v) (hcap : cap < n + m) (h63 : n + m ≤ 1000000000) (hbytes : (n + m) * bytes ≤ 140737488355328) :
  ∃ cap' w', (Builtin.append_ #[t, t] ty #[.slice (some ⟨g, 0, none⟩) n cap, .slice (some ⟨g2, 0, none⟩) m c]).run P w = .ok (.slice (some ⟨w.heap.size, 0, none⟩) (n + m) cap') w' ∧
   n + m ≤ cap' ∧ cap' ≤ 9223372036854775807 ∧ Below w.heap.size w w' ∧ w.heap.size < w'.heap.size ∧ ∀ j v, (olds ++ news)[j]? = some v → w'.cell? ⟨w.heap.size, j, none⟩ = some v := by
 subst hsize
 subst hby
 have hm : n + m ≤ maxLen := by unfold maxLen; omega
 have hr := run_append_grow (P := P) w t ty e i z ht hi hz ⟨g, 0, none⟩ n cap olds hlo (fun j v h => by rw [addr_add]; exact holds j v h) ⟨g2, 0, none⟩ m c news hl (fun j v h => by rw [addr_add]; exact hnews j v h) hcap (by omega) (growslice_fits hcap hbytes)
 refine ⟨_, _, hr, grownCap_ge w (n + m) cap e, ?_, ?_, ?_, ?_⟩
 ·have := grownCap_le_maxLen w (n + m) cap e hm
  unfold maxLen at this
  exact this
 ·exact ⟨rfl, rfl, rfl, by simp, fun k hk => Below.heap_alloc w.drew _ k hk⟩
 ·simp
 ·intro j v hj
  have h0 := heap_alloc_new w.drew (.cells (olds.toArray ++ news.toArray ++ Builtin.zeroCells z.cells (grownCap w (n + m) cap e - (n + m))) e)
  rw [cell_of_row _ w.heap.size j _ _ _ h0]
  rw [Array.getElem?_append, if_pos (by have := (List.getElem?_eq_some_iff.1 hj).1; simp at this ⊢; omega)]
  simpa using hj
theorem op_append_full {o : Oper} {a : Act} {K : Act → World → Prop} {Q : Exit → Act → World → Prop} {w : World} (s x : Operand) (t e : TypeId)
  (ho : o.op = .call { callee := .builtin .append, args := #[s, x], argTypes := #[t, t] }) (i : TypeInfo) (z : Value) (size bytes : Nat) (ht : P.underlying t = some (.slice e)) (hi : P.info? e = some i) (hz : i.zero = some z)
  (hsize : i.size = size) (hby : i.bytes = bytes) (g n cap g2 m c : Nat) (olds news : List Value) (hs : a.eval s = .slice (some ⟨g, 0, none⟩) n cap) (hx : a.eval x = .slice (some ⟨g2, 0, none⟩) m c) (hlo : olds.length = n * size) (holds : ∀ j v, olds[j]? = some v → w.cell? ⟨g, j, none⟩ = some v)
  (hl : news.length = m * size) (hnews : ∀ j v, news[j]? = some v → w.cell? ⟨g2, j, none⟩ = some v) (hcap : cap < n + m) (h63 : n + m ≤ 1000000000) (hbytes : (n + m) * bytes ≤ 140737488355328)
  (h : ∀ cap' w', n + m ≤ cap' → cap' ≤ 9223372036854775807 → Below w.heap.size w w' → w.heap.size < w'.heap.size → (∀ j v, (olds ++ news)[j]? = some v → w'.cell? ⟨w.heap.size, j, none⟩ = some v) → K (a.put o.dst (.slice (some ⟨w.heap.size, 0, none⟩) (n + m) cap')) w') : o.wp P a w K Q := by
 obtain ⟨cap', w', hr, h1, h2, h3, h4, h5⟩ := run_append_full (P := P) (w := w) t o.type e i z size bytes ht hi hz hsize hby g n cap g2 m c olds news hlo holds hl hnews hcap h63 hbytes
 unfold Oper.wp execOp
 simp only [ho, resolve, invoke, builtin, Sem.run_bind, Sem.run_pure, Result.andThen_ok, List.map_toArray, List.map_cons, List.map_nil, hs, hx, hr]
 exact h cap' w' h1 h2 h3 h4 h5
end
def RRow (W : World) (b : Nat) (zs : List (Int × Int)) : Prop := b < W.heap.size ∧ ∀ k z, zs[k]? = some z → ∃ (s t : Bool) (a d : Option Addr) (m i c j : Nat), (W.cell? ⟨b, k * 4, none⟩ = some (.bool s) ∧ W.cell? ⟨b, k * 4 + 1, none⟩ = some (.slice a m c) ∧ W.cell? ⟨b, k * 4 + 2, none⟩ = some (.bool t) ∧ W.cell? ⟨b, k * 4 + 3, none⟩ = some (.slice d i j)) ∧ RFAt W (.agg #[.bool s, .slice a m c, .bool t, .slice d i j]) z.1 z.2
theorem rrow_keeps {W W2 : World} {b : Nat} {zs : List (Int × Int)} (h : RRow W b zs) (hb : Below W.heap.size W W2) : RRow W2 b zs := by
 refine ⟨Nat.lt_of_lt_of_le h.1 hb.size, fun k z hz => ?_⟩
 obtain ⟨s, t, a, d, m, i, c, j, ⟨h1, h2, h3, h4⟩, h5⟩ := h.2 k z hz
 exact ⟨s, t, a, d, m, i, c, j, ⟨(hb.cell (p := ⟨b, k * 4, none⟩) h.1).trans h1, (hb.cell (p := ⟨b, k * 4 + 1, none⟩) h.1).trans h2, (hb.cell (p := ⟨b, k * 4 + 2, none⟩) h.1).trans h3, (hb.cell (p := ⟨b, k * 4 + 3, none⟩) h.1).trans h4⟩, rf_keeps h5 hb⟩
end Go.Proofs.YtepakogbbomaoaaGreatDoor
