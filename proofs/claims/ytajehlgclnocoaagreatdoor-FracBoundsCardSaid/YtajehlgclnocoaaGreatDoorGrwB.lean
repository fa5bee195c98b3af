/-
 append onto a slice that is full: the new block; rows of integers and of fractions of the reference in blocks of their own.
-/
import Derived.Test.YtajehlgclnocoaaGreatDoorRgAB
import Derived.Test.YtajehlgclnocoaaGreatDoorCmrB
import Derived.Test.YtajehlgclnocoaaGreatDoorFcCB
import Derived.Maps.AppendAt
namespace Go.Proofs.YtajehlgclnocoaaGreatDoor
open Go.RowKit Go.Shelf
set_option linter.unusedVariables false
set_option maxRecDepth 100000
section
variable {P : Program}
theorem addr_add (g j : Nat) : (⟨g, 0, none⟩ : Addr).add j = ⟨g, j, none⟩ := by unfold Addr.add; split <;> simp_all
theorem run_append_full {w : World} (t ty e : TypeId) (i : TypeInfo) (z : Value) (size bytes : Nat) (ht : P.underlying t = some (.slice e)) (hi : P.info? e = some i) (hz : i.zero = some z)
  (hsize : i.size = size) (hby : i.bytes = bytes) (g n cap g2 m c : Nat) (olds news : List Value) (hlo : olds.length = n * size) (holds : ∀ j v, olds[j]? = some v → w.cell? ⟨g, j, none⟩ = some v)
  (hl : news.length = m * size) (hnews : ∀ j v, news[j]? = some v → w.cell? ⟨g2, j, none⟩ = some v) (hcap : cap < n + m) (h63 : n + m ≤ 1000000000) (hbytes : (n + m) * bytes ≤ 140737488355328) :
  ∃ cap' w', (Builtin.append_ #[t, t] ty #[.slice (some ⟨g, 0, none⟩) n cap, .slice (some ⟨g2, 0, none⟩) m c]).run P w = .ok (.slice (some ⟨w.heap.size, 0, none⟩) (n + m) cap') w' ∧
   n + m ≤ cap' ∧ cap' ≤ 9223372036854775807 ∧ Below w.heap.size w w' ∧ w.heap.size < w'.heap.size ∧ ∀ j v, (olds ++ news)[j]? = some v → w'.cell? ⟨w.heap.size, j, none⟩ = some v := by
 subst hsize
 subst hby
 have hm : n + m ≤ maxLen := by unfold maxLen; omega
 have hr := run_append_grow (P := P) w t ty e i z ht hi hz ⟨g, 0, none⟩ n cap olds hlo (fun j v h => by rw [addr_add]; exact holds j v h) ⟨g2, 0, none⟩ m c news hl (fun j v h => by rw [addr_add]; exact hnews j v h) hcap (by omega) (growslice_fits hcap hbytes)
 refine ⟨_, _, hr, grownCap_ge w (n + m) cap e, ?_, ?_, ?_, ?_⟩
 ·have := grownCap_le_maxLen w (n + m) cap e hm
  unfold maxLen at this
  exact this
 ·exact ⟨rfl, rfl, rfl, by simp, fun k hk => Below.heap_alloc w.drew _ k hk⟩
 ·simp
 ·intro j v hj
  have h0 := heap_alloc_new w.drew (.cells (olds.toArray ++ news.toArray ++ Builtin.zeroCells z.cells (grownCap w (n + m) cap e - (n + m))) e)
  rw [cell_of_row _ w.heap.size j _ _ _ h0]
  rw [Array.getElem?_append, if_pos (by have := (List.getElem?_eq_some_iff.1 hj).1; simp at this ⊢; omega)]
  simpa using hj
theorem op_append_full {o : Oper} {a : Act} {K : Act → World → Prop} {Q : Exit → Act → World → Prop} {w : World} (s x : Operand) (t e : TypeId)
  (ho : o.op = .call { callee := .builtin .append, args := #[s, x], argTypes := #[t, t] }) (i : TypeInfo) (z : Value) (size bytes : Nat) (ht : P.underlying t = some (.slice e)) (hi : P.info? e = some i) (hz : i.zero = some z)
  (hsize : i.size = size) (hby : i.bytes = bytes) (g n cap g2 m c : Nat) (olds news : List Value) (hs : a.eval s = .slice (some ⟨g, 0, none⟩) n cap) (hx : a.eval x = .slice (some ⟨g2, 0, none⟩) m c) (hlo : olds.length = n * size) (holds : ∀ j v, olds[j]? = some v → w.cell? ⟨g, j, none⟩ = some v)
  (hl : news.length = m * size) (hnews : ∀ j v, news[j]? = some v → w.cell? ⟨g2, j, none⟩ = some v) (hcap : cap < n + m) (h63 : n + m ≤ 1000000000) (hbytes : (n + m) * bytes ≤ 140737488355328)
  (h : ∀ cap' w', n + m ≤ cap' → cap' ≤ 9223372036854775807 → Below w.heap.size w w' → w.heap.size < w'.heap.size → (∀ j v, (olds ++ news)[j]? = some v → w'.cell? ⟨w.heap.size, j, none⟩ = some v) → K (a.put o.dst (.slice (some ⟨w.heap.size, 0, none⟩) (n + m) cap')) w') : o.wp P a w K Q := by
 obtain ⟨cap', w', hr, h1, h2, h3, h4, h5⟩ := run_append_full (P := P) (w := w) t o.type e i z size bytes ht hi hz hsize hby g n cap g2 m c olds news hlo holds hl hnews hcap h63 hbytes
 unfold Oper.wp execOp
 simp only [ho, resolve, invoke, builtin, Sem.run_bind, Sem.run_pure, Result.andThen_ok, List.map_toArray, List.map_cons, List.map_nil, hs, hx, hr]
 exact h cap' w' h1 h2 h3 h4 h5
end
theorem info_nn : (Tryz.prog.info? 24).map (fun i => (i.zero, i.size, i.bytes)) = some (some (.agg #[.bool false, .slice none 0 0]), 2, 32) := by kernel_rfl
theorem cells6 {w : World} {g : Nat} {u0 u1 u2 u3 u4 u5 : Value} (h0 : w.cell? ⟨g, 0, none⟩ = some u0) (h1 : w.cell? ⟨g, 1, none⟩ = some u1) (h2 : w.cell? ⟨g, 2, none⟩ = some u2) (h3 : w.cell? ⟨g, 3, none⟩ = some u3) (h4 : w.cell? ⟨g, 4, none⟩ = some u4) (h5 : w.cell? ⟨g, 5, none⟩ = some u5) :
  ∀ j v, [u0, u1, u2, u3, u4, u5][j]? = some v → w.cell? ⟨g, j, none⟩ = some v := by
 intro j v hj
 match j, hj with
 | 0, hj => cases hj; exact h0
 | 1, hj => cases hj; exact h1
 | 2, hj => cases hj; exact h2
 | 3, hj => cases hj; exact h3
 | 4, hj => cases hj; exact h4
 | 5, hj => cases hj; exact h5
theorem cellsB {w : World} {g : Nat} {u0 u1 : Value} (h0 : w.cell? ⟨g, 0, none⟩ = some u0) (h1 : w.cell? ⟨g, 1, none⟩ = some u1) : ∀ j v, [u0, u1][j]? = some v → w.cell? ⟨g, j, none⟩ = some v := by
 intro j v hj
 match j, hj with
 | 0, hj => cases hj; exact h0
 | 1, hj => cases hj; exact h1
def KS1 (L : Nat) (z0 : Int) (w : World) (x : Value) : Prop := ∃ g : Nat, x = .slice (some ⟨g, 0, none⟩) 1 1 ∧ L ≤ g ∧ NRow w g [z0]
def KS3 (L : Nat) (z0 z1 z2 : Int) (w : World) (x : Value) : Prop := ∃ g : Nat, x = .slice (some ⟨g, 0, none⟩) 3 3 ∧ L ≤ g ∧ NRow w g [z0, z1, z2]
def KG4 (L : Nat) (z0 z1 z2 z3 : Int) (w : World) (x : Value) : Prop := ∃ g cap : Nat, x = .slice (some ⟨g, 0, none⟩) 4 cap ∧ L ≤ g ∧ (4 ≤ cap ∧ cap ≤ 9223372036854775807) ∧ NRow w g [z0, z1, z2, z3]
theorem m_s1 {L : Nat} {z0 : Int} : MonoK (KS1 L z0) := fun _ _ _ h hb => by
 obtain ⟨g, e, h1, h2⟩ := h
 exact ⟨g, e, h1, nrow_keeps h2 hb⟩
theorem m_s3 {L : Nat} {z0 z1 z2 : Int} : MonoK (KS3 L z0 z1 z2) := fun _ _ _ h hb => by
 obtain ⟨g, e, h1, h2⟩ := h
 exact ⟨g, e, h1, nrow_keeps h2 hb⟩
theorem m_g4 {L : Nat} {z0 z1 z2 z3 : Int} : MonoK (KG4 L z0 z1 z2 z3) := fun _ _ _ h hb => by
 obtain ⟨g, c, e, h1, hc, h2⟩ := h
 exact ⟨g, c, e, h1, hc, nrow_keeps h2 hb⟩
theorem ks3_new {L : Nat} {w : World} {z0 z1 z2 : Int} {s0 s1 s2 : Bool} {a0 a1 a2 : Option Addr} {m0 c0 m1 c1 m2 c2 : Nat} (hL : L ≤ w.heap.size) (h0 : NAt w (.agg #[.bool s0, .slice a0 m0 c0]) z0) (h1 : NAt w (.agg #[.bool s1, .slice a1 m1 c1]) z1) (h2 : NAt w (.agg #[.bool s2, .slice a2 m2 c2]) z2) :
  KS3 L z0 z1 z2 (w.alloc (.cells #[.bool s0, .slice a0 m0 c0, .bool s1, .slice a1 m1 c1, .bool s2, .slice a2 m2 c2] 24)) (.slice (some ⟨w.heap.size, 0, none⟩) 3 3) := ⟨_, rfl, hL, nrow_three h0 h1 h2⟩
theorem ks1_new {L : Nat} {w : World} {z0 : Int} {s0 : Bool} {a0 : Option Addr} {m0 c0 : Nat} (hL : L ≤ w.heap.size) (h0 : NAt w (.agg #[.bool s0, .slice a0 m0 c0]) z0) :
  KS1 L z0 (w.alloc (.cells #[.bool s0, .slice a0 m0 c0] 24)) (.slice (some ⟨w.heap.size, 0, none⟩) 1 1) := by
 have hl := Laid.new w 24 [.bool s0, .slice a0 m0 c0]
 have hb := below_one w (.cells #[.bool s0, .slice a0 m0 c0] 24)
 refine ⟨_, rfl, hL, hl.lt, fun k z hz => ?_⟩
 match k, hz with
 | 0, hz => cases hz; exact ⟨s0, a0, m0, c0, ⟨hl.cell 0, hl.cell 1⟩, nat_keeps h0 hb⟩
theorem op_append_n31 {o : Oper} {a : Act} {K : Act → World → Prop} {Q : Exit → Act → World → Prop} {w : World} {L g g2 : Nat} {z0 z1 z2 z3 : Int} (s x : Operand)
  (ho : o.op = .call { callee := .builtin .append, args := #[s, x], argTypes := #[128, 128] }) (hs : a.eval s = .slice (some ⟨g, 0, none⟩) 3 3) (hx : a.eval x = .slice (some ⟨g2, 0, none⟩) 1 1)
  (h1 : NRow w g [z0, z1, z2]) (h2 : NRow w g2 [z3]) (hL : L ≤ w.heap.size) (h : ∀ v w', Below w.heap.size w w' → KG4 L z0 z1 z2 z3 w' v → K (a.put o.dst v) w') : o.wp Tryz.prog a w K Q := by
 obtain ⟨i0, hi, hz0, hz1, hz2⟩ := info_parts info_nn
 obtain ⟨s0, a0, m0, c0, ⟨e00, e01⟩, n0⟩ := h1.2 0 z0 rfl
 obtain ⟨s1, a1, m1, c1, ⟨e10, e11⟩, n1⟩ := h1.2 1 z1 rfl
 obtain ⟨s2, a2, m2, c2, ⟨e20, e21⟩, n2⟩ := h1.2 2 z2 rfl
 obtain ⟨s3, a3, m3, c3, ⟨e30, e31⟩, n3⟩ := h2.2 0 z3 rfl
 refine op_append_full s x _ 24 ho i0 (.agg #[.bool false, .slice none 0 0]) 2 32 (by kernel_rfl) hi hz0 hz1 hz2 g 3 3 g2 1 1 [.bool s0, .slice a0 m0 c0, .bool s1, .slice a1 m1 c1, .bool s2, .slice a2 m2 c2] [.bool s3, .slice a3 m3 c3] hs hx rfl
  (cells6 e00 e01 e10 e11 e20 e21) rfl (cellsB e30 e31) (by decide) (by decide) (by decide) ?_
 intro cap' w' hc1 hc2 hb hlt hcell
 refine h _ w' hb ⟨w.heap.size, cap', rfl, hL, ⟨hc1, hc2⟩, hlt, fun k z hz => ?_⟩
 match k, hz with
 | 0, hz => cases hz; exact ⟨s0, a0, m0, c0, ⟨hcell 0 _ rfl, hcell 1 _ rfl⟩, nat_keeps n0 hb⟩
 | 1, hz => cases hz; exact ⟨s1, a1, m1, c1, ⟨hcell 2 _ rfl, hcell 3 _ rfl⟩, nat_keeps n1 hb⟩
 | 2, hz => cases hz; exact ⟨s2, a2, m2, c2, ⟨hcell 4 _ rfl, hcell 5 _ rfl⟩, nat_keeps n2 hb⟩
 | 3, hz => cases hz; exact ⟨s3, a3, m3, c3, ⟨hcell 6 _ rfl, hcell 7 _ rfl⟩, nat_keeps n3 hb⟩
end Go.Proofs.YtajehlgclnocoaaGreatDoor
