/-
  A slice of integers of package wide that grows by append: what lies in other blocks stays.
-/
import Derived.Test.YtjoablphojkimaaGreatDoorDnM
import Derived.Test.YtjoablphojkimaaGreatDoorWnw
namespace Go.Proofs.YtjoablphojkimaaGreatDoor
open Go.RowKit Go.Shelf
set_option linter.unusedVariables false
set_option maxRecDepth 100000

/-- Not an integer. -/
def NI (x : Value) : Prop := ∀ k n, x ≠ .int k n
theorem ni_b (b : Bool) : NI (.bool b) := fun _ _ h => by cases h
theorem ni_s (a : Option Addr) (m c : Nat) : NI (.slice a m c) := fun _ _ h => by cases h
theorem addr_addZ (g j : Nat) : (⟨g, 0, none⟩ : Addr).add j = ⟨g, j, none⟩ := by unfold Addr.add; split <;> simp_all
/-- A number's words lie outside A. -/
def FarV (A : Foot) (z : Int) (a : Option Addr) (m c : Nat) : Prop := digsW z.natAbs = [] ∨ ∀ j, blockOf (.slice a m c) j → ¬ A j
def IOwn (W : World) (A : Foot) (g cap : Nat) (zs : List Int) : Prop := ∃ cs : List Value, W.heap[g]? = some (.cells cs.toArray 29 (0, 0)) ∧ cs.length = cap * 2 ∧ zs.length ≤ cap ∧ cap ≤ 9223372036854775807 ∧ (∀ x ∈ cs, NI x) ∧ ¬ A g ∧
  ∀ k z, zs[k]? = some z → (∃ (s : Bool) (a : Option Addr) (m c : Nat), (cs[k * 2]? = some (.bool s) ∧ cs[k * 2 + 1]? = some (.slice a m c)) ∧ IAt W (.agg #[.bool s, .slice a m c]) z ∧ FarV A z a m c)
section
variable {W W2 : World} {A A2 : Foot} {g cap : Nat} {zs : List Int}
theorem IOwn.lt (h : IOwn W A g cap zs) : g < W.heap.size := by obtain ⟨_, h, _⟩ := h; exact (Array.getElem?_eq_some_iff.1 h).1
theorem IOwn.below (h : IOwn W A g cap zs) (hb : Below W.heap.size W W2) : IOwn W2 A g cap zs := by
  have hl := h.lt
  obtain ⟨cs, h1, h2, h3, h4, h5, h7, h6⟩ := h
  refine ⟨cs, (hb.block g hl).trans h1, h2, h3, h4, h5, h7, fun k z hz => ?_⟩
  obtain ⟨s, a, m, c, hc, hf, hv⟩ := h6 k z hz
  exact ⟨s, a, m, c, hc, iat_keeps hf hb, hv⟩
theorem iat_step {z : Int} {s : Bool} {a : Option Addr} {m c : Nat} (hf : IAt W (.agg #[.bool s, .slice a m c]) z) (hv : FarV A z a m c) (hk : Keeps A W W2) : IAt W2 (.agg #[.bool s, .slice a m c]) z := by
  obtain ⟨v, e, hr⟩ := hf
  refine ⟨v, e, ?_⟩
  injection e with e
  obtain rfl : v = .slice a m c := (by have e2 := congrArg Array.toList e; simp at e2; exact e2.2.symm)
  rcases hv with hb | hb
  · rw [hb] at hr ⊢
    exact row_nil hr
  · exact row_foot hr hk hb
theorem farv_step {z : Int} {s : Bool} {a : Option Addr} {m c : Nat} (hf : IAt W (.agg #[.bool s, .slice a m c]) z) (hv : FarV A z a m c) (h2 : ∀ k, A2 k → A k ∨ W.heap.size ≤ k) : FarV A2 z a m c := by
  obtain ⟨v, e, hr⟩ := hf
  injection e with e
  obtain rfl : v = .slice a m c := (by have e2 := congrArg Array.toList e; simp at e2; exact e2.2.symm)
  rcases hv with hb | hb
  · exact .inl hb
  · cases hz : natI (digsW z.natAbs) with
    | nil =>
      refine .inl ?_
      unfold natI at hz
      exact List.map_eq_nil_iff.1 hz
    | cons y ys =>
      rw [hz] at hr
      refine .inr (fun k hk h => (h2 k h).elim (hb k hk) (fun h3 => ?_))
      obtain ⟨off, u, hc⟩ := row_here hr hk
      have := World.block_lt_of_cell? _ _ hc
      have h4 : k < W.heap.size := this
      omega
theorem IOwn.step (h : IOwn W A g cap zs) (hk : Keeps A W W2) (hf : ∀ k, A2 k → A k ∨ W.heap.size ≤ k) : IOwn W2 A2 g cap zs := by
  have hl := h.lt
  obtain ⟨cs, h1, h2, h3, h4, h5, h7, h6⟩ := h
  refine ⟨cs, hk.obj h1 h7, h2, h3, h4, h5, fun hA => (hf g hA).elim h7 (fun h => by omega), fun k z hz => ?_⟩
  obtain ⟨s, a, m, c, hc, hi, hv⟩ := h6 k z hz
  exact ⟨s, a, m, c, hc, iat_step hi hv hk, farv_step hi hv hf⟩
theorem IOwn.cells (h : IOwn W A g cap zs) {k : Nat} {z : Int} (hz : zs[k]? = some z) :
    ∃ (s : Bool) (a : Option Addr) (m c : Nat), (W.cell? ⟨g, k * 2, none⟩ = some (.bool s) ∧ W.cell? ⟨g, k * 2 + 1, none⟩ = some (.slice a m c)) ∧ IAt W (.agg #[.bool s, .slice a m c]) z := by
  obtain ⟨cs, h1, h2, h3, h4, h5, h7, h6⟩ := h
  obtain ⟨s, a, m, c, ⟨c0, c1⟩, hf, _⟩ := h6 k z hz
  have hc : ∀ n, W.cell? ⟨g, n, none⟩ = cs[n]? := fun n => by rw [cell_of_row _ _ _ _ _ _ h1]; simp
  exact ⟨s, a, m, c, ⟨(hc _).trans c0, (hc _).trans c1⟩, hf⟩
end
theorem row_away {k : IntKind} {W W2 : World} {g : Nat} {cs : List Value} {t : TypeId} (hg : W.heap[g]? = some (.cells cs.toArray t (0, 0))) (hn : ∀ x ∈ cs, NI x) (hk : ∀ b, b < W.heap.size → b ≠ g → W2.heap[b]? = W.heap[b]?) {v : Value} {zs : List Int} (h : Row k W v zs) : Row k W2 v zs := by
  obtain ⟨a, cap, e, h2, h3, h4, h5⟩ := h
  refine ⟨a, cap, e, h2, h3, fun hne => ?_, h5⟩
  obtain ⟨b, off, e2, hc⟩ := h4 hne
  refine ⟨b, off, e2, fun j hj => ?_⟩
  have h1 := hc j hj
  have hlt := World.block_lt_of_cell? W _ h1
  rcases Classical.em (b = g) with e3 | e3
  · subst e3
    rw [cell_of_row _ _ _ _ _ _ hg] at h1
    have h6 : cs[off + j]? = some (.int k (zs[j]?.getD 0)) := by simpa using h1
    exact absurd rfl (hn _ (List.mem_of_getElem? h6) k _)
  · rw [← h1]
    exact World.cell?_of_block (hk b hlt e3)
theorem iat_away {W W2 : World} {g : Nat} {cs : List Value} {t : TypeId} (hg : W.heap[g]? = some (.cells cs.toArray t (0, 0))) (hn : ∀ x ∈ cs, NI x) (hk : ∀ b, b < W.heap.size → b ≠ g → W2.heap[b]? = W.heap[b]?) {v : Value} {p : Int} (h : IAt W v p) : IAt W2 v p := by
  obtain ⟨v1, e1, r1⟩ := h
  exact ⟨v1, e1, row_away hg hn hk r1⟩
/-- What such an append leaves: all other blocks. -/
structure Ont (g : Nat) (W W2 : World) : Prop where
  keeps : Keeps (fun k => k = g) W W2
  i : ∀ v p, IAt W v p → IAt W2 v p
theorem zero_ni (n : Nat) : ∀ x ∈ (Builtin.zeroCells #[Value.bool false, .slice none 0 0] n).toList, NI x := by
  intro x hx
  simp only [Builtin.zeroCells, Array.toList_map, List.mem_map] at hx
  obtain ⟨i, _, rfl⟩ := hx
  have h : i % 2 < 2 := Nat.mod_lt _ (by decide)
  show NI (#[Value.bool false, .slice none 0 0][i % 2]!)
  generalize i % 2 = r at *
  match r, h with
  | 0, _ => exact ni_b _
  | 1, _ => exact ni_s _ _ _
theorem iown_snoc {W W2 : World} {A : Foot} {g2 cap2 : Nat} {zs : List Int} {z : Int} {cs tail : List Value} {s : Bool} {a : Option Addr} {m c : Nat}
    (h6 : ∀ k z, zs[k]? = some z → (∃ (s : Bool) (a : Option Addr) (m c : Nat), (cs[k * 2]? = some (.bool s) ∧ cs[k * 2 + 1]? = some (.slice a m c)) ∧ IAt W (.agg #[.bool s, .slice a m c]) z ∧ FarV A z a m c))
    (hl : cs.length = zs.length * 2) (hn : ∀ x ∈ cs, NI x) (ht : ∀ x ∈ tail, NI x) (hz : IAt W (.agg #[.bool s, .slice a m c]) z) (hv : FarV A z a m c)
    (hg : W2.heap[g2]? = some (.cells (cs ++ [Value.bool s, .slice a m c] ++ tail).toArray 29 (0, 0))) (hc : (cs ++ [Value.bool s, .slice a m c] ++ tail).length = cap2 * 2) (h1 : zs.length + 1 ≤ cap2) (h2 : cap2 ≤ 9223372036854775807) (hA : ¬ A g2)
    (hk : ∀ v p, IAt W v p → IAt W2 v p) : IOwn W2 A g2 cap2 (zs ++ [z]) := by
  refine ⟨_, hg, hc, by rw [List.length_append]; exact h1, h2, fun x hx => ?_, hA, fun k y hy => ?_⟩
  · rcases List.mem_append.1 hx with hx | hx
    · rcases List.mem_append.1 hx with hx | hx
      · exact hn x hx
      · simp only [List.mem_cons, List.not_mem_nil, or_false] at hx
        rcases hx with rfl | rfl
        · exact ni_b _
        · exact ni_s _ _ _
    · exact ht x hx
  · have pre : ∀ n, n < cs.length → (cs ++ [Value.bool s, .slice a m c] ++ tail)[n]? = cs[n]? := fun n hn => by
      rw [List.append_assoc, List.getElem?_append_left hn]
    have mid : ∀ n, n < 2 → (cs ++ [Value.bool s, .slice a m c] ++ tail)[cs.length + n]? = [Value.bool s, .slice a m c][n]? := fun n hn => by
      rw [List.append_assoc, List.getElem?_append_right (Nat.le_add_right _ _), Nat.add_sub_cancel_left, List.getElem?_append_left (by simpa using hn)]
    rcases Nat.lt_or_ge k zs.length with hlt | hge
    · rw [List.getElem?_append_left hlt] at hy
      obtain ⟨s', a', m', c', ⟨e0, e1⟩, hf, hv'⟩ := h6 k y hy
      exact ⟨s', a', m', c', ⟨(pre _ (by omega)).trans e0, (pre _ (by omega)).trans e1⟩, hk _ _ hf, hv'⟩
    · rw [List.getElem?_append_right hge] at hy
      have h0 : k - zs.length = 0 := by
        have := (List.getElem?_eq_some_iff.1 hy).1
        simpa using this
      have hkk : k = zs.length := by omega
      subst hkk
      rw [h0] at hy
      have hy2 : z = y := by simpa using hy
      subst hy2
      refine ⟨s, a, m, c, ⟨?_, ?_⟩, hk _ _ hz, hv⟩
      · have := mid 0 (by decide); rw [hl] at this; exact this
      · have := mid 1 (by decide); rw [hl] at this; exact this
theorem info_wint : (Tryz.prog.info? 29).map (fun i => (i.zero, i.size, i.bytes)) = some (some (.agg #[.bool false, .slice none 0 0]), 2, 32) := by kernel_rfl
theorem run_append_wint {W : World} {A : Foot} {g cap g2 : Nat} {zs : List Int} {z : Int} {s : Bool} {a : Option Addr} {m c : Nat} (ty : TypeId) (h : IOwn W A g cap zs) (hlo : ∀ k, A k → k < W.heap.size) (hlen : zs.length ≤ 1000000)
    (c0 : W.cell? ⟨g2, 0, none⟩ = some (.bool s)) (c1 : W.cell? ⟨g2, 1, none⟩ = some (.slice a m c)) (hz : IAt W (.agg #[.bool s, .slice a m c]) z) (hv : FarV A z a m c) :
    ∃ g' cap' W', (Builtin.append_ #[61, 61] ty #[.slice (some ⟨g, 0, none⟩) zs.length cap, .slice (some ⟨g2, 0, none⟩) 1 1]).run Tryz.prog W = .ok (.slice (some ⟨g', 0, none⟩) (zs.length + 1) cap') W' ∧ IOwn W' A g' cap' (zs ++ [z]) ∧ Ont g W W' ∧ (g' = g ∨ W.heap.size ≤ g') := by
  obtain ⟨i0, hi, hz0, hz1, hz2⟩ := info_parts info_wint
  have hnew : ∀ q v, [Value.bool s, .slice a m c][q]? = some v → W.cell? ((⟨g2, 0, none⟩ : Addr).add q) = some v := by
    intro q v hq
    rw [addr_addZ]
    match q, hq with
    | 0, hq => cases hq; exact c0
    | 1, hq => cases hq; exact c1
  have ht : Tryz.prog.underlying 61 = some (.slice 29) := by kernel_rfl
  have mk : ∀ o : Obj, Ont g W (W.drew.alloc o) := fun o => by
    have hb : Below W.heap.size W (W.drew.alloc o) := ⟨rfl, rfl, rfl, by simp, fun k hk => Below.heap_alloc W.drew _ k hk⟩
    exact ⟨Keeps.of_below_size hb, fun v p h => iat_keeps h hb⟩
  obtain ⟨cs, hg, hcl, hzc, hcm, hni, hnA, h6⟩ := h
  have hgl : g < W.heap.size := (Array.getElem?_eq_some_iff.1 hg).1
  rcases Nat.lt_or_ge cap (zs.length + 1) with hfull | hroom
  · have hr := run_append_grow (P := Tryz.prog) W 61 ty 29 i0 _ ht hi hz0 ⟨g, 0, none⟩ zs.length cap (cs.take (zs.length * 2)) (by rw [hz1, List.length_take]; omega) (fun q v hq => by
      rw [addr_addZ, cell_of_row _ _ _ _ _ _ hg]
      have := List.getElem?_take_of_lt (l := cs) (i := q) (j := zs.length * 2) (by have := (List.getElem?_eq_some_iff.1 hq).1; rw [List.length_take] at this; omega)
      rw [this] at hq
      simpa using hq) ⟨g2, 0, none⟩ 1 1 [Value.bool s, .slice a m c] (by rw [hz1]; rfl) hnew hfull (by omega) (growslice_fits hfull (by rw [hz2]; omega))
    have h1 := grownCap_ge W (zs.length + 1) cap 29
    have h2 := grownCap_le_maxLen W (zs.length + 1) cap 29 (by unfold maxLen; omega)
    unfold maxLen at h2
    refine ⟨_, _, _, hr, ?_, mk _, .inr (Nat.le_refl _)⟩
    refine iown_snoc (W := W) (zs := zs) (cs := cs.take (zs.length * 2)) (tail := (Builtin.zeroCells #[Value.bool false, .slice none 0 0] (grownCap W (zs.length + 1) cap 29 - (zs.length + 1))).toList) (fun k y hy => ?_) (by rw [List.length_take]; omega) (fun x hx => hni x (List.mem_of_mem_take hx)) (zero_ni _) hz hv ?_ ?_ h1 h2 (fun hA => by have := hlo _ hA; omega) (mk _).i
    · obtain ⟨s', a', m', c', ⟨e0, e1⟩, hf⟩ := h6 k y hy
      have hk := (List.getElem?_eq_some_iff.1 hy).1
      exact ⟨s', a', m', c', ⟨(List.getElem?_take_of_lt (by omega)).trans e0, (List.getElem?_take_of_lt (by omega)).trans e1⟩, hf⟩
    · have := Go.heap_alloc_new W.drew (.cells ((cs.take (zs.length * 2)).toArray ++ [Value.bool s, .slice a m c].toArray ++ Builtin.zeroCells #[Value.bool false, .slice none 0 0] (grownCap W (zs.length + 1) cap 29 - (zs.length + 1))) 29)
      have e : ((cs.take (zs.length * 2)) ++ [Value.bool s, .slice a m c] ++ (Builtin.zeroCells #[Value.bool false, .slice none 0 0] (grownCap W (zs.length + 1) cap 29 - (zs.length + 1))).toList).toArray = (cs.take (zs.length * 2)).toArray ++ [Value.bool s, .slice a m c].toArray ++ Builtin.zeroCells #[Value.bool false, .slice none 0 0] (grownCap W (zs.length + 1) cap 29 - (zs.length + 1)) := by simp
      rw [e]
      exact this
    · have := size_zeroCells #[Value.bool false, .slice none 0 0] (grownCap W (zs.length + 1) cap 29 - (zs.length + 1))
      simp only [List.length_append, Array.length_toList, this, List.length_cons, List.length_nil, List.size_toArray, List.length_take]
      omega
  · have hr := run_append_room (P := Tryz.prog) W 61 ty 29 i0 ht hi g zs.length cap cs.toArray hg ⟨g2, 0, none⟩ 1 1 [Value.bool s, .slice a m c] (by rw [hz1]; rfl) hnew (fun u hu => by
      simp only [List.mem_cons, List.not_mem_nil, or_false] at hu
      rcases hu with rfl | rfl <;> rfl) hroom (by rw [hz1]; simp; omega)
    rw [hz1] at hr
    have hb0 : ∀ b, b ≠ g → (W.setRow g (cs.take (zs.length * 2) ++ [Value.bool s, .slice a m c] ++ cs.drop (zs.length * 2 + 2)).toArray).heap[b]? = W.heap[b]? := fun b hb => setRow_other W g b _ hb
    have ho : Ont g W (W.setRow g (cs.take (zs.length * 2) ++ [Value.bool s, .slice a m c] ++ cs.drop (zs.length * 2 + 2)).toArray) :=
      ⟨⟨rfl, rfl, rfl, by simp, fun b _ hb => hb0 b hb⟩, fun v p h => iat_away hg hni (fun b _ hb => hb0 b hb) h⟩
    refine ⟨g, cap, _, hr, ?_, by simpa using ho, .inl rfl⟩
    refine iown_snoc (W := W) (zs := zs) (cs := cs.take (zs.length * 2)) (tail := cs.drop (zs.length * 2 + 2)) (fun k y hy => ?_) (by rw [List.length_take]; omega) (fun x hx => hni x (List.mem_of_mem_take hx)) (fun x hx => hni x (List.mem_of_mem_drop hx)) hz hv ?_ ?_ hroom hcm hnA (by simpa using ho.i)
    · obtain ⟨s', a', m', c', ⟨e0, e1⟩, hf⟩ := h6 k y hy
      have hk := (List.getElem?_eq_some_iff.1 hy).1
      exact ⟨s', a', m', c', ⟨(List.getElem?_take_of_lt (by omega)).trans e0, (List.getElem?_take_of_lt (by omega)).trans e1⟩, hf⟩
    · have := setRow_heap W g cs.toArray (cs.take (zs.length * 2) ++ [Value.bool s, .slice a m c] ++ cs.drop (zs.length * 2 + 2)).toArray _ _ hg
      simpa using this
    · simp only [List.length_append, List.length_cons, List.length_nil, List.length_take, List.length_drop]
      omega
/-- At the list of a plain region. -/
theorem wpList_append_wint {W : World} {A : Foot} {g cap g2 : Nat} {zs : List Int} {z : Int} {s : Bool} {a : Option Addr} {m c : Nat} {ops : Array Oper} {rest : List Oper} {o : Oper} {B : Act} {Q : Exit → Act → World → Prop} (hgd : o.guard = none) (x y : Operand)
    (ho : o.op = .call { callee := .builtin .append, args := #[x, y], argTypes := #[61, 61] }) (hx : B.eval x = .slice (some ⟨g, 0, none⟩) zs.length cap) (hy : B.eval y = .slice (some ⟨g2, 0, none⟩) 1 1) (h : IOwn W A g cap zs) (hlo : ∀ k, A k → k < W.heap.size) (hlen : zs.length ≤ 1000000)
    (c0 : W.cell? ⟨g2, 0, none⟩ = some (.bool s)) (c1 : W.cell? ⟨g2, 1, none⟩ = some (.slice a m c)) (hz : IAt W (.agg #[.bool s, .slice a m c]) z) (hv : FarV A z a m c)
    (k : ∀ g' cap' W', IOwn W' A g' cap' (zs ++ [z]) → Ont g W W' → (g' = g ∨ W.heap.size ≤ g') → wpList Tryz.prog ops Q rest (B.put o.dst (.slice (some ⟨g', 0, none⟩) (zs.length + 1) cap')) W') : wpList Tryz.prog ops Q (o :: rest) B W := by
  refine wpList_plain hgd fun K hK => ?_
  obtain ⟨g', cap', W', hr, h1, h2, h3⟩ := run_append_wint (W := W) o.type h hlo hlen c0 c1 hz hv
  unfold Oper.wp execOp
  simp only [ho, resolve, invoke, builtin, Sem.run_bind, Sem.run_pure, Result.andThen_ok, List.map_toArray, List.map_cons, List.map_nil, hx, hy, hr]
  exact hK _ _ (k g' cap' W' h1 h2 h3)
end Go.Proofs.YtjoablphojkimaaGreatDoor
