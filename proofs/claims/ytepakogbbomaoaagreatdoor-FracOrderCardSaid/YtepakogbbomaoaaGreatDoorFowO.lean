/-
 A slice of fractions of the package that grows by append (FOwn, FSl): what lies in other blocks stays, for a row of fractions holds no integers of its own.
-/
import Derived.Test.YtepakogbbomaoaaGreatDoorGrwO
namespace Go.Proofs.YtepakogbbomaoaaGreatDoor
open Go.RowKit Go.Shelf
set_option linter.unusedVariables false
set_option maxRecDepth 100000
def NI (x : Value) : Prop := ∀ k n, x ≠ .int k n
theorem ni_b (b : Bool) : NI (.bool b) := fun _ _ h => by cases h
theorem ni_s (a : Option Addr) (m c : Nat) : NI (.slice a m c) := fun _ _ h => by cases h
def FOwn (W : World) (g cap : Nat) (zs : List (Int × Int)) : Prop := ∃ cs : List Value, W.heap[g]? = some (.cells cs.toArray 34 (0, 0)) ∧ cs.length = cap * 4 ∧ zs.length ≤ cap ∧ cap ≤ 9223372036854775807 ∧ (∀ x ∈ cs, NI x) ∧
 ∀ k z, zs[k]? = some z → ∃ (s t : Bool) (a d : Option Addr) (m i c j : Nat), (cs[k * 4]? = some (.bool s) ∧ cs[k * 4 + 1]? = some (.slice a m c) ∧ cs[k * 4 + 2]? = some (.bool t) ∧ cs[k * 4 + 3]? = some (.slice d i j)) ∧ FAt W (.agg #[.bool s, .slice a m c, .bool t, .slice d i j]) z.1 z.2
theorem FOwn.lt {W : World} {g cap : Nat} {zs : List (Int × Int)} (h : FOwn W g cap zs) : g < W.heap.size := by obtain ⟨_, h, _⟩ := h; exact (Array.getElem?_eq_some_iff.1 h).1
theorem FOwn.below {W W2 : World} {g cap : Nat} {zs : List (Int × Int)} (h : FOwn W g cap zs) (hb : Below W.heap.size W W2) : FOwn W2 g cap zs := by
 have hl := h.lt
 obtain ⟨cs, h1, h2, h3, h4, h5, h6⟩ := h
 refine ⟨cs, (hb.block g hl).trans h1, h2, h3, h4, h5, fun k z hz => ?_⟩
 obtain ⟨s, t, a, d, m, i, c, j, hc, hf⟩ := h6 k z hz
 exact ⟨s, t, a, d, m, i, c, j, hc, fat_keeps hf hb⟩
theorem FOwn.cells {W : World} {g cap : Nat} {zs : List (Int × Int)} (h : FOwn W g cap zs) {k : Nat} {z : Int × Int} (hz : zs[k]? = some z) :
  ∃ (s t : Bool) (a d : Option Addr) (m i c j : Nat), (W.cell? ⟨g, k * 4, none⟩ = some (.bool s) ∧ W.cell? ⟨g, k * 4 + 1, none⟩ = some (.slice a m c) ∧ W.cell? ⟨g, k * 4 + 2, none⟩ = some (.bool t) ∧ W.cell? ⟨g, k * 4 + 3, none⟩ = some (.slice d i j)) ∧ FAt W (.agg #[.bool s, .slice a m c, .bool t, .slice d i j]) z.1 z.2 := by
 obtain ⟨cs, h1, h2, h3, h4, h5, h6⟩ := h
 obtain ⟨s, t, a, d, m, i, c, j, ⟨c0, c1, c2, c3⟩, hf⟩ := h6 k z hz
 have hc : ∀ n, W.cell? ⟨g, n, none⟩ = cs[n]? := fun n => by rw [cell_of_row _ _ _ _ _ _ h1]; simp
 exact ⟨s, t, a, d, m, i, c, j, ⟨(hc _).trans c0, (hc _).trans c1, (hc _).trans c2, (hc _).trans c3⟩, hf⟩
theorem row_away {k : IntKind} {W W2 : World} {g : Nat} {cs : List Value} {t : TypeId} (hg : W.heap[g]? = some (.cells cs.toArray t (0, 0))) (hn : ∀ x ∈ cs, NI x) (hk : ∀ b, b < W.heap.size → b ≠ g → W2.heap[b]? = W.heap[b]?) {v : Value} {zs : List Int} (h : Row k W v zs) : Row k W2 v zs := by
 obtain ⟨a, cap, e, h2, h3, h4, h5⟩ := h
 refine ⟨a, cap, e, h2, h3, fun hne => ?_, h5⟩
 obtain ⟨b, off, e2, hc⟩ := h4 hne
 refine ⟨b, off, e2, fun j hj => ?_⟩
 have h1 := hc j hj
 have hlt := World.block_lt_of_cell? W _ h1
 rcases Classical.em (b = g) with e3 | e3
 ·subst e3
  rw [cell_of_row _ _ _ _ _ _ hg] at h1
  have h6 : cs[off + j]? = some (.int k (zs[j]?.getD 0)) := by simpa using h1
  exact absurd rfl (hn _ (List.mem_of_getElem? h6) k _)
 ·rw [← h1]
  exact World.cell?_of_block (hk b hlt e3)
theorem fat_away {W W2 : World} {g : Nat} {cs : List Value} {t : TypeId} (hg : W.heap[g]? = some (.cells cs.toArray t (0, 0))) (hn : ∀ x ∈ cs, NI x) (hk : ∀ b, b < W.heap.size → b ≠ g → W2.heap[b]? = W.heap[b]?) {v : Value} {p q : Int} (h : FAt W v p q) : FAt W2 v p q := by
 obtain ⟨s, u, a, b, m, n, c, d, e, ⟨v1, e1, r1⟩, ⟨v2, e2, r2⟩⟩ := h
 exact ⟨s, u, a, b, m, n, c, d, e, ⟨v1, e1, row_away hg hn hk r1⟩, ⟨v2, e2, row_away hg hn hk r2⟩⟩
theorem rf_away {W W2 : World} {g : Nat} {cs : List Value} {t : TypeId} (hg : W.heap[g]? = some (.cells cs.toArray t (0, 0))) (hn : ∀ x ∈ cs, NI x) (hk : ∀ b, b < W.heap.size → b ≠ g → W2.heap[b]? = W.heap[b]?) {v : Value} {p q : Int} (h : RFAt W v p q) : RFAt W2 v p q := by
 obtain ⟨s, u, a, b, m, n, c, d, e, ⟨v1, e1, r1⟩, ⟨v2, e2, r2⟩⟩ := h
 exact ⟨s, u, a, b, m, n, c, d, e, ⟨v1, e1, row_away hg hn hk r1⟩, ⟨v2, e2, row_away hg hn hk r2⟩⟩
def FSl (W : World) (L : Nat) (v : Value) (zs : List (Int × Int)) : Prop := (v = .slice none 0 0 ∧ zs = []) ∨ ∃ g cap, v = .slice (some ⟨g, 0, none⟩) zs.length cap ∧ L ≤ g ∧ FOwn W g cap zs
theorem FSl.below {W W2 : World} {L : Nat} {v : Value} {zs : List (Int × Int)} (h : FSl W L v zs) (hb : Below W.heap.size W W2) : FSl W2 L v zs := by
 rcases h with h | ⟨g, cap, h1, h2, h3⟩
 ·exact .inl h
 ·exact .inr ⟨g, cap, h1, h2, h3.below hb⟩
structure Onw (L : Nat) (W W2 : World) : Prop where
 below : Below L W W2
 f : ∀ v p q, FAt W v p q → FAt W2 v p q
 r : ∀ v p q, RFAt W v p q → RFAt W2 v p q
theorem Onw.rrow {L b : Nat} {W W2 : World} {zs : List (Int × Int)} (h : Onw L W W2) (hb : b < L) (k : RRow W b zs) : RRow W2 b zs := by
 refine ⟨Nat.lt_of_lt_of_le k.1 h.below.size, fun i z hz => ?_⟩
 obtain ⟨s, t, a, d, m, n, c, j, ⟨h1, h2, h3, h4⟩, h5⟩ := k.2 i z hz
 exact ⟨s, t, a, d, m, n, c, j, ⟨(h.below.cell (p := ⟨b, i * 4, none⟩) hb).trans h1, (h.below.cell (p := ⟨b, i * 4 + 1, none⟩) hb).trans h2, (h.below.cell (p := ⟨b, i * 4 + 2, none⟩) hb).trans h3, (h.below.cell (p := ⟨b, i * 4 + 3, none⟩) hb).trans h4⟩, h.r _ _ _ h5⟩
theorem zero_ni (n : Nat) : ∀ x ∈ (Builtin.zeroCells #[Value.bool false, .slice none 0 0, .bool false, .slice none 0 0] n).toList, NI x := by
 intro x hx
 simp only [Builtin.zeroCells, Array.toList_map, List.mem_map] at hx
 obtain ⟨i, _, rfl⟩ := hx
 have h : i % 4 < 4 := Nat.mod_lt _ (by decide)
 show NI (#[Value.bool false, .slice none 0 0, .bool false, .slice none 0 0][i % 4]!)
 generalize i % 4 = r at *
 match r, h with
 | 0, _ => exact ni_b _
 | 1, _ => exact ni_s _ _ _
 | 2, _ => exact ni_b _
 | 3, _ => exact ni_s _ _ _
theorem fown_snoc {W W2 : World} {g g2 cap cap2 : Nat} {zs : List (Int × Int)} {z : Int × Int} {cs tail : List Value} {s t : Bool} {a d : Option Addr} {m i c j : Nat}
  (h6 : ∀ k z, zs[k]? = some z → ∃ (s t : Bool) (a d : Option Addr) (m i c j : Nat), (cs[k * 4]? = some (.bool s) ∧ cs[k * 4 + 1]? = some (.slice a m c) ∧ cs[k * 4 + 2]? = some (.bool t) ∧ cs[k * 4 + 3]? = some (.slice d i j)) ∧ FAt W (.agg #[.bool s, .slice a m c, .bool t, .slice d i j]) z.1 z.2)
  (hl : cs.length = zs.length * 4) (hn : ∀ x ∈ cs, NI x) (ht : ∀ x ∈ tail, NI x) (hz : FAt W (.agg #[.bool s, .slice a m c, .bool t, .slice d i j]) z.1 z.2)
  (hg : W2.heap[g2]? = some (.cells (cs ++ [Value.bool s, .slice a m c, .bool t, .slice d i j] ++ tail).toArray 34 (0, 0))) (hc : (cs ++ [Value.bool s, .slice a m c, .bool t, .slice d i j] ++ tail).length = cap2 * 4) (h1 : zs.length + 1 ≤ cap2) (h2 : cap2 ≤ 9223372036854775807)
  (hk : ∀ v p q, FAt W v p q → FAt W2 v p q) : FOwn W2 g2 cap2 (zs ++ [z]) := by
 refine ⟨_, hg, hc, by rw [List.length_append]; exact h1, h2, fun x hx => ?_, fun k y hy => ?_⟩
 ·rcases List.mem_append.1 hx with hx | hx
  ·rcases List.mem_append.1 hx with hx | hx
   ·exact hn x hx
   ·simp only [List.mem_cons, List.not_mem_nil, or_false] at hx
    rcases hx with rfl | rfl | rfl | rfl
    ·exact ni_b _
    ·exact ni_s _ _ _
    ·exact ni_b _
    ·exact ni_s _ _ _
  ·exact ht x hx
 ·have pre : ∀ n, n < cs.length → (cs ++ [Value.bool s, .slice a m c, .bool t, .slice d i j] ++ tail)[n]? = cs[n]? := fun n hn => by
   rw [List.append_assoc, List.getElem?_append_left hn]
  have mid : ∀ n, n < 4 → (cs ++ [Value.bool s, .slice a m c, .bool t, .slice d i j] ++ tail)[cs.length + n]? = [Value.bool s, .slice a m c, .bool t, .slice d i j][n]? := fun n hn => by
   rw [List.append_assoc, List.getElem?_append_right (Nat.le_add_right _ _), Nat.add_sub_cancel_left, List.getElem?_append_left (by simpa using hn)]
  rcases Nat.lt_or_ge k zs.length with hlt | hge
  ·rw [List.getElem?_append_left hlt] at hy
   obtain ⟨s', t', a', d', m', i', c', j', ⟨e0, e1, e2, e3⟩, hf⟩ := h6 k y hy
   exact ⟨s', t', a', d', m', i', c', j', ⟨(pre _ (by omega)).trans e0, (pre _ (by omega)).trans e1, (pre _ (by omega)).trans e2, (pre _ (by omega)).trans e3⟩, hk _ _ _ hf⟩
  ·rw [List.getElem?_append_right hge] at hy
   have h0 : k - zs.length = 0 := by
    have := (List.getElem?_eq_some_iff.1 hy).1
    simpa using this
   have hkk : k = zs.length := by omega
   subst hkk
   rw [h0] at hy
   have hy2 : z = y := by simpa using hy
   subst hy2
   refine ⟨s, t, a, d, m, i, c, j, ⟨?_, ?_, ?_, ?_⟩, hk _ _ _ hz⟩
   ·have := mid 0 (by decide); rw [hl] at this; exact this
   ·have := mid 1 (by decide); rw [hl] at this; exact this
   ·have := mid 2 (by decide); rw [hl] at this; exact this
   ·have := mid 3 (by decide); rw [hl] at this; exact this
theorem info_frac : (Tryz.prog.info? 34).map (fun i => (i.zero, i.size, i.bytes)) = some (some (.agg #[.bool false, .slice none 0 0, .bool false, .slice none 0 0]), 4, 64) := by kernel_rfl
theorem run_append_frac {W : World} {L g2 : Nat} {sv : Value} {zs : List (Int × Int)} {z : Int × Int} {s t : Bool} {a d : Option Addr} {m i c j : Nat} (ty : TypeId) (h : FSl W L sv zs) (hL : L ≤ W.heap.size) (hlen : zs.length ≤ 1000000)
  (c0 : W.cell? ⟨g2, 0, none⟩ = some (.bool s)) (c1 : W.cell? ⟨g2, 1, none⟩ = some (.slice a m c)) (c2 : W.cell? ⟨g2, 2, none⟩ = some (.bool t)) (c3 : W.cell? ⟨g2, 3, none⟩ = some (.slice d i j)) (hz : FAt W (.agg #[.bool s, .slice a m c, .bool t, .slice d i j]) z.1 z.2) :
  ∃ v' W', (Builtin.append_ #[29, 29] ty #[sv, .slice (some ⟨g2, 0, none⟩) 1 1]).run Tryz.prog W = .ok v' W' ∧ FSl W' L v' (zs ++ [z]) ∧ Onw L W W' := by
 obtain ⟨i0, hi, hz0, hz1, hz2⟩ := info_parts info_frac
 have hnew : ∀ q v, [Value.bool s, .slice a m c, .bool t, .slice d i j][q]? = some v → W.cell? ((⟨g2, 0, none⟩ : Addr).add q) = some v := by
  intro q v hq
  rw [addr_add]
  match q, hq with
  | 0, hq => cases hq; exact c0
  | 1, hq => cases hq; exact c1
  | 2, hq => cases hq; exact c2
  | 3, hq => cases hq; exact c3
 have ht : Tryz.prog.underlying 29 = some (.slice 34) := by kernel_rfl
 have mk : ∀ o : Obj, Onw L W (W.drew.alloc o) := fun o => by
  have hb : Below W.heap.size W (W.drew.alloc o) := ⟨rfl, rfl, rfl, by simp, fun k hk => Below.heap_alloc W.drew _ k hk⟩
  exact ⟨hb.mono hL, fun v p q h => fat_keeps h hb, fun v p q h => rf_keeps h hb⟩
 rcases h with ⟨rfl, rfl⟩ | ⟨g, cap, rfl, hLg, cs, hg, hcl, hzc, hcm, hni, h6⟩
 ·have hr := run_append_nil (P := Tryz.prog) W 29 ty 34 i0 _ ht hi hz0 ⟨g2, 0, none⟩ 1 1 [Value.bool s, .slice a m c, .bool t, .slice d i j] (by rw [hz1]; rfl) hnew (by decide) (by decide) (by rw [hz2]; decide)
  have h1 := grownCap_ge W 1 0 34
  have h2 := grownCap_le_maxLen W 1 0 34 (by decide)
  unfold maxLen at h2
  refine ⟨_, _, hr, .inr ⟨_, _, rfl, hL, ?_⟩, mk _⟩
  refine fown_snoc (W := W) (g := 0) (cap := 0) (zs := []) (cs := []) (tail := (Builtin.zeroCells #[Value.bool false, .slice none 0 0, .bool false, .slice none 0 0] (grownCap W 1 0 34 - 1)).toList) (fun k z h => by simp at h) rfl (fun x hx => by cases hx) (zero_ni _) hz ?_ ?_ h1 h2 (mk _).f
  ·have := Go.heap_alloc_new W.drew (.cells ([Value.bool s, .slice a m c, .bool t, .slice d i j].toArray ++ Builtin.zeroCells #[Value.bool false, .slice none 0 0, .bool false, .slice none 0 0] (grownCap W 1 0 34 - 1)) 34)
   have e : (([] : List Value) ++ [Value.bool s, .slice a m c, .bool t, .slice d i j] ++ (Builtin.zeroCells #[Value.bool false, .slice none 0 0, .bool false, .slice none 0 0] (grownCap W 1 0 34 - 1)).toList).toArray = [Value.bool s, .slice a m c, .bool t, .slice d i j].toArray ++ Builtin.zeroCells #[Value.bool false, .slice none 0 0, .bool false, .slice none 0 0] (grownCap W 1 0 34 - 1) := by simp
   rw [e]
   exact this
  ·have := size_zeroCells #[Value.bool false, .slice none 0 0, .bool false, .slice none 0 0] (grownCap W 1 0 34 - 1)
   simp only [List.nil_append, List.length_append, Array.length_toList, this, List.length_cons, List.length_nil, List.size_toArray]
   omega
 ·have hfar : ∀ (W2 : World), (∀ b, b < W.heap.size → b ≠ g → W2.heap[b]? = W.heap[b]?) → W2.os = W.os → W2.tape = W.tape → W2.output = W.output → W.heap.size ≤ W2.heap.size → Onw L W W2 := fun W2 hk e1 e2 e3 e4 =>
   ⟨⟨e1, e2, e3, e4, fun b hb => hk b (by omega) (by omega)⟩, fun v p q h => fat_away hg hni hk h, fun v p q h => rf_away hg hni hk h⟩
  rcases Nat.lt_or_ge cap (zs.length + 1) with hfull | hroom
  ·have hr := run_append_grow (P := Tryz.prog) W 29 ty 34 i0 _ ht hi hz0 ⟨g, 0, none⟩ zs.length cap (cs.take (zs.length * 4)) (by rw [hz1, List.length_take]; omega) (fun q v hq => by
    rw [addr_add, cell_of_row _ _ _ _ _ _ hg]
    have := List.getElem?_take_of_lt (l := cs) (i := q) (j := zs.length * 4) (by have := (List.getElem?_eq_some_iff.1 hq).1; rw [List.length_take] at this; omega)
    rw [this] at hq
    simpa using hq) ⟨g2, 0, none⟩ 1 1 [Value.bool s, .slice a m c, .bool t, .slice d i j] (by rw [hz1]; rfl) hnew hfull (by omega) (growslice_fits hfull (by rw [hz2]; omega))
   have h1 := grownCap_ge W (zs.length + 1) cap 34
   have h2 := grownCap_le_maxLen W (zs.length + 1) cap 34 (by unfold maxLen; omega)
   unfold maxLen at h2
   refine ⟨_, _, hr, .inr ⟨_, _, by rw [List.length_append]; rfl, hL, ?_⟩, mk _⟩
   refine fown_snoc (W := W) (g := 0) (cap := 0) (zs := zs) (cs := cs.take (zs.length * 4)) (tail := (Builtin.zeroCells #[Value.bool false, .slice none 0 0, .bool false, .slice none 0 0] (grownCap W (zs.length + 1) cap 34 - (zs.length + 1))).toList) (fun k y hy => ?_) (by rw [List.length_take]; omega) (fun x hx => hni x (List.mem_of_mem_take hx)) (zero_ni _) hz ?_ ?_ h1 h2 (mk _).f
   ·obtain ⟨s', t', a', d', m', i', c', j', ⟨e0, e1, e2, e3⟩, hf⟩ := h6 k y hy
    have hk := (List.getElem?_eq_some_iff.1 hy).1
    exact ⟨s', t', a', d', m', i', c', j', ⟨(List.getElem?_take_of_lt (by omega)).trans e0, (List.getElem?_take_of_lt (by omega)).trans e1, (List.getElem?_take_of_lt (by omega)).trans e2, (List.getElem?_take_of_lt (by omega)).trans e3⟩, hf⟩
   ·have := Go.heap_alloc_new W.drew (.cells ((cs.take (zs.length * 4)).toArray ++ [Value.bool s, .slice a m c, .bool t, .slice d i j].toArray ++ Builtin.zeroCells #[Value.bool false, .slice none 0 0, .bool false, .slice none 0 0] (grownCap W (zs.length + 1) cap 34 - (zs.length + 1))) 34)
    have e : ((cs.take (zs.length * 4)) ++ [Value.bool s, .slice a m c, .bool t, .slice d i j] ++ (Builtin.zeroCells #[Value.bool false, .slice none 0 0, .bool false, .slice none 0 0] (grownCap W (zs.length + 1) cap 34 - (zs.length + 1))).toList).toArray = (cs.take (zs.length * 4)).toArray ++ [Value.bool s, .slice a m c, .bool t, .slice d i j].toArray ++ Builtin.zeroCells #[Value.bool false, .slice none 0 0, .bool false, .slice none 0 0] (grownCap W (zs.length + 1) cap 34 - (zs.length + 1)) := by simp
    rw [e]
    exact this
   ·have := size_zeroCells #[Value.bool false, .slice none 0 0, .bool false, .slice none 0 0] (grownCap W (zs.length + 1) cap 34 - (zs.length + 1))
    simp only [List.length_append, Array.length_toList, this, List.length_cons, List.length_nil, List.size_toArray, List.length_take]
    omega
  ·have hr := run_append_room (P := Tryz.prog) W 29 ty 34 i0 ht hi g zs.length cap cs.toArray hg ⟨g2, 0, none⟩ 1 1 [Value.bool s, .slice a m c, .bool t, .slice d i j] (by rw [hz1]; rfl) hnew (fun u hu => by
    simp only [List.mem_cons, List.not_mem_nil, or_false] at hu
    rcases hu with rfl | rfl | rfl | rfl <;> rfl) hroom (by rw [hz1]; simp; omega)
   rw [hz1] at hr
   have ho := hfar (W.setRow g (cs.take (zs.length * 4) ++ [Value.bool s, .slice a m c, .bool t, .slice d i j] ++ cs.drop (zs.length * 4 + 4)).toArray) (fun b _ hb => setRow_other W g b _ hb) rfl rfl rfl (by simp)
   refine ⟨_, _, hr, .inr ⟨g, cap, by rw [List.length_append]; rfl, hLg, ?_⟩, by simpa using ho⟩
   refine fown_snoc (W := W) (g := 0) (cap := 0) (zs := zs) (cs := cs.take (zs.length * 4)) (tail := cs.drop (zs.length * 4 + 4)) (fun k y hy => ?_) (by rw [List.length_take]; omega) (fun x hx => hni x (List.mem_of_mem_take hx)) (fun x hx => hni x (List.mem_of_mem_drop hx)) hz ?_ ?_ hroom hcm (by simpa using ho.f)
   ·obtain ⟨s', t', a', d', m', i', c', j', ⟨e0, e1, e2, e3⟩, hf⟩ := h6 k y hy
    have hk := (List.getElem?_eq_some_iff.1 hy).1
    exact ⟨s', t', a', d', m', i', c', j', ⟨(List.getElem?_take_of_lt (by omega)).trans e0, (List.getElem?_take_of_lt (by omega)).trans e1, (List.getElem?_take_of_lt (by omega)).trans e2, (List.getElem?_take_of_lt (by omega)).trans e3⟩, hf⟩
   ·have := setRow_heap W g cs.toArray (cs.take (zs.length * 4) ++ [Value.bool s, .slice a m c, .bool t, .slice d i j] ++ cs.drop (zs.length * 4 + 4)).toArray _ _ hg
    simpa using this
   ·simp only [List.length_append, List.length_cons, List.length_nil, List.length_take, List.length_drop]
    omega
theorem wpList_append_frac {W : World} {L g2 : Nat} {sv : Value} {zs : List (Int × Int)} {z : Int × Int} {s t : Bool} {a d : Option Addr} {m i c j : Nat} {ops : Array Oper} {rest : List Oper} {o : Oper} {A : Act} {Q : Exit → Act → World → Prop} (hgd : o.guard = none) (x y : Operand)
  (ho : o.op = .call { callee := .builtin .append, args := #[x, y], argTypes := #[29, 29] }) (hx : A.eval x = sv) (hy : A.eval y = .slice (some ⟨g2, 0, none⟩) 1 1) (h : FSl W L sv zs) (hL : L ≤ W.heap.size) (hlen : zs.length ≤ 1000000)
  (c0 : W.cell? ⟨g2, 0, none⟩ = some (.bool s)) (c1 : W.cell? ⟨g2, 1, none⟩ = some (.slice a m c)) (c2 : W.cell? ⟨g2, 2, none⟩ = some (.bool t)) (c3 : W.cell? ⟨g2, 3, none⟩ = some (.slice d i j)) (hz : FAt W (.agg #[.bool s, .slice a m c, .bool t, .slice d i j]) z.1 z.2)
  (k : ∀ v' W', FSl W' L v' (zs ++ [z]) → Onw L W W' → wpList Tryz.prog ops Q rest (A.put o.dst v') W') : wpList Tryz.prog ops Q (o :: rest) A W := by
 refine wpList_plain hgd fun K hK => ?_
 obtain ⟨v', W', hr, h1, h2⟩ := run_append_frac (W := W) o.type h hL hlen c0 c1 c2 c3 hz
 unfold Oper.wp execOp
 simp only [ho, resolve, invoke, builtin, Sem.run_bind, Sem.run_pure, Result.andThen_ok, List.map_toArray, List.map_cons, List.map_nil, hx, hy, hr]
 exact hK _ _ (k v' W' h1 h2)
end Go.Proofs.YtepakogbbomaoaaGreatDoor
