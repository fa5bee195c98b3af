/-
  The program's writer: what append makes of its bytes, as one law; the writer's state; Uint. The program's writer: Uint. The program's writer: Int, Bool, Text, Raw, Ints; Clone, Done. The program's reader: its state; one byte.
-/
import Derived.Test.YtadnbakniibmfaaWireR
import Derived.Deep.RegionLaw
import Derived.Deep.AppendLies
import Derived.Lib.AppendStr
import Derived.Deep.AppendSrc
import Derived.Lib.SliceRun
namespace Go.Proofs.Ytadnbakniibmfaa
open Go.RowKit Go.Shelf
set_option linter.unusedVariables false
set_option maxRecDepth 100000

/-- A string's bytes. -/
def strB (s : ByteArray) : List Nat := s.data.toList.map UInt8.toNat
theorem strB_length (s : ByteArray) : (strB s).length = s.size := by unfold strB; rw [List.length_map, Array.length_toList]; rfl
theorem strB_lt (s : ByteArray) : ∀ c ∈ strB s, c < 256 := by
  intro c hc
  obtain ⟨b, _, rfl⟩ := List.mem_map.1 hc
  exact UInt8.toNat_lt b
theorem strB_cells (s : ByteArray) : Lib.strCells s = (natI (strB s)).map (Value.int .u8) := by
  unfold Lib.strCells natI strB
  rw [List.map_map, List.map_map]
  rfl

/-- What append takes: a row of bytes, or a string. -/
def BSrc (W : World) (tx : TypeId) (u : Value) (ys : List Int) : Prop :=
  (tx = 33 ∧ Row .u8 W u ys) ∨ (tx = 9 ∧ ∃ s : ByteArray, u = .string s ∧ ys = natI (strB s))

theorem fresh_form {B : Nat} {e : TypeId} {k : IntKind} {w : World} {v : Value} {zs : List Int} (h : Fresh B e k w v zs) :
    (v = .slice none 0 0 ∧ zs = []) ∨ ∃ g cap, v = .slice (some ⟨g, 0, none⟩) zs.length cap ∧ B ≤ g ∧ g < w.heap.size ∧ zs.length ≤ cap ∧ cap ≤ maxLen := by
  rcases h.2 with ⟨rfl, h0⟩ | ⟨g, cap, cur, rfl, h2, h3, h4, h5, _⟩
  · exact .inl ⟨rfl, List.eq_nil_of_length_eq_zero h0⟩
  · exact .inr ⟨g, cap, rfl, h2, (Array.getElem?_eq_some_iff.1 h3).1, h4, h5⟩

theorem under_bytes : Try.prog.underlying 33 = some (.slice 5) := by kernel_rfl
theorem under_str : Try.prog.underlying 9 = some .string := by kernel_rfl

/-- append to bytes of the call's own, and where the new slice lies. -/
theorem run_append_buf {W : World} {B : Nat} {v : Value} {zs : List Int} (hown : Fresh B 5 .u8 W v zs) {tx ty : TypeId} {u : Value} {ys : List Int} (hs : BSrc W tx u ys) (hlen : zs.length + ys.length ≤ 1000000000) (hB : B ≤ W.heap.size) :
    ∃ a c w', (Builtin.append_ #[33, tx] ty #[v, u]).run Try.prog W = .ok (.slice a (zs ++ ys).length c) w' ∧ Fresh B 5 .u8 w' (.slice a (zs ++ ys).length c) (zs ++ ys) ∧ W.grownBy w' v.ownBlock ∧
      (Value.ownBlock (.slice a (zs ++ ys).length c) = v.ownBlock ∨ Value.ownBlock (.slice a (zs ++ ys).length c) = some W.heap.size) := by
  obtain ⟨i0, hi, hz0, hz1, hz2⟩ := info_parts info_u8
  have fin : ∀ {v' : Value} {w' : World}, (Builtin.append_ #[33, tx] ty #[v, u]).run Try.prog W = .ok v' w' → Fresh B 5 .u8 w' v' (zs ++ ys) → W.grownBy w' v.ownBlock → (v'.ownBlock = v.ownBlock ∨ v'.ownBlock = some W.heap.size) →
      ∃ a c w', (Builtin.append_ #[33, tx] ty #[v, u]).run Try.prog W = .ok (.slice a (zs ++ ys).length c) w' ∧ Fresh B 5 .u8 w' (.slice a (zs ++ ys).length c) (zs ++ ys) ∧ W.grownBy w' v.ownBlock ∧
      (Value.ownBlock (.slice a (zs ++ ys).length c) = v.ownBlock ∨ Value.ownBlock (.slice a (zs ++ ys).length c) = some W.heap.size) := by
    intro v' w' h1 h2 h3 h4
    obtain ⟨a, c, rfl, _⟩ := fresh_elems h2
    exact ⟨a, c, w', h1, h2, h3, h4⟩
  rcases hs with ⟨rfl, hrow⟩ | ⟨rfl, s, rfl, rfl⟩
  · obtain ⟨p, cap, rfl, hcap, hcm, hne, hnil⟩ := hrow
    rcases p with _ | p
    · obtain ⟨rfl, rfl⟩ := hnil rfl
      refine fin (run_append_owned_none (P := Try.prog) W B _ ty _ i0 1 under_bytes hi v _ _ hown) (by rw [List.append_nil]; exact hown) ⟨rfl, rfl, rfl, Nat.le_refl _, fun _ _ _ => rfl⟩ (.inl rfl)
    · obtain ⟨v', w', h1, h2, h3, _, h5⟩ := run_append_own_at (P := Try.prog) W B 33 ty 5 i0 (.int .u8 0) 1 1 under_bytes hi hz0 hz1 hz2 rfl (by decide) v zs.length (zs.map (Value.int .u8)) hown p ys.length cap (ys.map (Value.int .u8)) (by simp) (by
          intro j q hq
          have hj : j < ys.length := by
            rcases Nat.lt_or_ge j ys.length with h | h
            · exact h
            · rw [List.getElem?_eq_none (by simp; omega)] at hq; cases hq
          obtain ⟨b, off, hp, hc⟩ := hne (fun h => by rw [h] at hj; simp at hj)
          injection hp with hp
          subst hp
          rw [add_none, hc j hj, ← hq, List.getElem?_map, List.getElem?_eq_getElem hj]; rfl) (by
          intro q hq
          obtain ⟨z, _, rfl⟩ := List.mem_map.1 hq
          rfl) (by unfold maxLen; omega) (by omega) hB
      refine fin h1 ?_ h3 h5
      unfold Fresh
      rw [List.length_append, List.map_append]
      exact h2
  · have hsz : (natI (strB s)).length = s.size := by rw [natI_length, strB_length]
    rw [hsz] at hlen
    obtain ⟨v', w', h1, h2, h3, h4⟩ := Lib.run_append_own_string (P := Try.prog) W B 33 9 ty 5 i0 under_bytes under_str hi hz0 hz1 hz2 v zs.length (zs.map (Value.int .u8)) hown s (by unfold maxLen; omega) (by omega) hB
    have hsrc : Src Try.prog i0.size 9 (.string s) s.size (byteCells s) W := by rw [hz1]; exact Src.ofString W under_str s
    refine fin h1 ?_ h3 ?_
    · unfold Fresh
      rw [List.length_append, List.map_append, hsz, ← strB_cells]
      exact h2
    · have hw := hown
      rcases hown.2 with ⟨rfl, h0⟩ | ⟨g, cap, cur, rfl, hbg, hg, hnc, hcm, hcs, htake⟩
      · have hzs : zs = [] := List.eq_nil_of_length_eq_zero h0
        subst hzs
        rcases Nat.eq_zero_or_pos s.size with hs0 | hs0
        · rw [h4.2 ⟨rfl, hs0⟩]
          exact .inl rfl
        · right
          have hr := run_append_grow_src (P := Try.prog) W 33 9 ty 5 i0 (.int .u8 0) under_bytes hi hz0 none 0 0 [] (run_firstCells_none W.drew i0.size 0 0 0) (.string s) s.size (byteCells s) hsrc (by omega) (by omega) (growslice_fits (by omega) (by rw [hz2]; omega))
          rw [hr] at h1
          injection h1 with h1 _
          rw [← h1]
          rfl
      · by_cases hroom : zs.length + s.size ≤ cap
        · left
          have hk : ∀ j, j < (byteCells s).length → g < W.heap.size ∧ zs.length + j < cur.size := by
            intro j hj
            rw [byteCells_length] at hj
            exact ⟨(Array.getElem?_eq_some_iff.1 hg).1, by omega⟩
          have hr := run_append_room_src (P := Try.prog) W 33 9 ty 5 i0 under_bytes hi g 0 zs.length cap (.string s) s.size (byteCells s) hsrc hroom (by
              intro j hj
              rw [hz1, cell_of_row W g _ cur _ _ hg]
              have := (hk j hj).2
              rw [Array.getElem?_eq_getElem (by omega)]
              rfl) (by
              intro j hj
              exact Lib.frozen_of_heap hg _)
          rw [hr] at h1
          injection h1 with h1 _
          rw [← h1]
          rfl
        · right
          have hr := run_append_grow_src (P := Try.prog) W 33 9 ty 5 i0 (.int .u8 0) under_bytes hi hz0 (some ⟨g, 0, none⟩) zs.length cap (zs.map (Value.int .u8)) (by
              refine run_firstCells_some W.drew i0.size zs.length ⟨g, 0, none⟩ zs.length cap _ (by rw [hz1]; simp) (fun j u' hu' => ?_)
              exact hw.cells (g := g) rfl j u' hu') (.string s) s.size (byteCells s) hsrc (by omega) (by omega) (growslice_fits (by omega) (by rw [hz2]; omega))
          rw [hr] at h1
          injection h1 with h1 _
          rw [← h1]
          rfl

/-- At a step of a region that draws its order. -/
theorem step_append_buf {ops : Array Oper} {o : Oper} {a : Act} {W : World} {K : Act → World → Prop} {Q : Exit → Act → World → Prop} {E : Prop} (hgd : o.guard = none) (s x : Operand) (tx : TypeId)
    (ho : o.op = .call { callee := .builtin .append, args := #[s, x], argTypes := #[33, tx] })
    (B : Nat) (v : Value) (zs : List Int) (hv : a.eval s = v) (hown : Fresh B 5 .u8 W v zs) (u : Value) (ys : List Int) (hx : a.eval x = u) (hs : BSrc W tx u ys) (hlen : zs.length + ys.length ≤ 1000000000) (hB : B ≤ W.heap.size)
    (h : ∀ b n c w', n = (zs ++ ys).length → Fresh B 5 .u8 w' (.slice b n c) (zs ++ ys) → W.grownBy w' v.ownBlock → (Value.ownBlock (.slice b n c) = v.ownBlock ∨ Value.ownBlock (.slice b n c) = some W.heap.size) →
      K (a.put o.dst (.slice b n c)) w') :
    if Region.wanted o (yielded ops a.tmps) = true then Oper.wp Try.prog o a W K Q else E := by
  have hw : Region.wanted o (yielded ops a.tmps) = true := by simp [Region.wanted, hgd]
  rw [if_pos hw]
  obtain ⟨b, c, w', hr, h1, h2, h3⟩ := run_append_buf (ty := o.type) hown hs hlen hB
  unfold Oper.wp execOp
  simp only [ho, resolve, invoke, builtin, Sem.run_bind, Sem.run_pure, Result.andThen_ok, List.map_toArray, List.map_cons, List.map_nil, hv, hx, hr]
  exact h b _ c w' rfl h1 h2 h3

/-- At the list of a plain region's operations. -/
theorem wpList_append_buf {W : World} {ops : Array Oper} {rest : List Oper} {o : Oper} {a : Act} {Q : Exit → Act → World → Prop} (hgd : o.guard = none) (s x : Operand) (tx : TypeId)
    (ho : o.op = .call { callee := .builtin .append, args := #[s, x], argTypes := #[33, tx] })
    (B : Nat) (v : Value) (zs : List Int) (hv : a.eval s = v) (hown : Fresh B 5 .u8 W v zs) (u : Value) (ys : List Int) (hx : a.eval x = u) (hs : BSrc W tx u ys) (hlen : zs.length + ys.length ≤ 1000000000) (hB : B ≤ W.heap.size)
    (h : ∀ b n c w', n = (zs ++ ys).length → Fresh B 5 .u8 w' (.slice b n c) (zs ++ ys) → W.grownBy w' v.ownBlock → (Value.ownBlock (.slice b n c) = v.ownBlock ∨ Value.ownBlock (.slice b n c) = some W.heap.size) →
      wpList Try.prog ops Q rest (a.put o.dst (.slice b n c)) w') : wpList Try.prog ops Q (o :: rest) a W := by
  refine wpList_plain hgd fun K hK => ?_
  obtain ⟨b, c, w', hr, h1, h2, h3⟩ := run_append_buf (ty := o.type) hown hs hlen hB
  unfold Oper.wp execOp
  simp only [ho, resolve, invoke, builtin, Sem.run_bind, Sem.run_pure, Result.andThen_ok, List.map_toArray, List.map_cons, List.map_nil, hv, hx, hr]
  exact hK _ _ (h b _ c w' rfl h1 h2 h3)

/-! ### The writer's state -/
/-- One writing behind another. -/
theorem wr_then {r g g1 g2 : Nat} {w w1 w2 : World} (h1 : g1 = g ∨ w.heap.size ≤ g1) (k1 : Keeps (fun k => k = r ∨ k = g) w w1) (h2 : g2 = g1 ∨ w1.heap.size ≤ g2) (k2 : Keeps (fun k => k = r ∨ k = g1) w1 w2) :
    (g2 = g ∨ w.heap.size ≤ g2) ∧ Keeps (fun k => k = r ∨ k = g) w w2 := by
  refine ⟨by have := k1.size; omega, ⟨k2.os.trans k1.os, k2.tape.trans k1.tape, k2.output.trans k1.output, Nat.le_trans k1.size k2.size, fun i hi hn => ?_⟩⟩
  refine (k2.same i (Nat.lt_of_lt_of_le hi k1.size) (fun hb => ?_)).trans (k1.same i hi hn)
  rcases hb with hb | hb
  · exact hn (.inl hb)
  · rcases h1 with h1 | h1
    · exact hn (.inr (by omega))
    · omega

/-- A literal of one byte, in a block of its own. -/
theorem lit_src {W : World} {H : Nat} {x : Int} (h : W.heap[H]? = some (.cells #[.int .u8 x] 5 (0, 0))) : BSrc W 33 (.slice (some ⟨H, 0, none⟩) 1 1) [x] := by
  refine .inl ⟨rfl, _, 1, rfl, Nat.le_refl _, by decide, fun _ => ⟨H, 0, rfl, fun j hj => ?_⟩, fun h => by cases h⟩
  have : j = 0 := by simpa using hj
  subst this
  rw [cell_at h]
  rfl

set_option maxRecDepth 100000 in
theorem or_fin : ∀ x : Fin 256, bits BinOp.or IntKind.u8 (x.val : Int) 128 = ((128 + x.val % 128 : Nat) : Int) := by decide
theorem or_more (m : Nat) : bits BinOp.or IntKind.u8 ((m : Int) % 256) 128 = ((128 + m % 128 : Nat) : Int) := by
  have := or_fin ⟨m % 256, Nat.mod_lt _ (by decide)⟩
  simp only at this
  rw [show m % 256 % 128 = m % 128 by omega] at this
  rw [← this, Int.natCast_emod]
  rfl

theorem xor_ones {x : Nat} (h : x < 18446744073709551616) : x ^^^ 18446744073709551615 = 18446744073709551615 - x := by
  have h1 := BitVec.xor_allOnes (x := BitVec.ofNat 64 x)
  have h2 := congrArg BitVec.toNat h1
  rw [BitVec.toNat_xor, BitVec.toNat_not, BitVec.toNat_ofNat, BitVec.toNat_allOnes, Nat.mod_eq_of_lt (by exact h)] at h2
  exact h2
theorem zig_form {n : Int} (hn : -9223372036854775808 ≤ n ∧ n ≤ 9223372036854775807) :
    bits BinOp.xor IntKind.u64 (IntKind.u64.wrap (IntKind.u64.wrap n * 2)) (IntKind.u64.wrap (n / 9223372036854775808)) = ((zigN n : Nat) : Int) := by
  by_cases h : n < 0
  · have e1 : IntKind.u64.wrap (n / 9223372036854775808) = ((18446744073709551615 : Nat) : Int) := by rw [IntKind.wrap_u64]; omega
    have e2 : IntKind.u64.wrap (IntKind.u64.wrap n * 2) = ((2 * n + 18446744073709551616).toNat : Int) := by rw [IntKind.wrap_u64, IntKind.wrap_u64]; omega
    rw [e1, e2, bits_xor_u64_nat _ _ (by omega) (by decide), xor_ones (by omega)]
    unfold zigN
    rw [if_pos h]
    omega
  · have e1 : IntKind.u64.wrap (n / 9223372036854775808) = ((0 : Nat) : Int) := by rw [IntKind.wrap_u64]; omega
    have e2 : IntKind.u64.wrap (IntKind.u64.wrap n * 2) = ((2 * n).toNat : Int) := by rw [IntKind.wrap_u64, IntKind.wrap_u64]; omega
    rw [e1, e2, bits_xor_u64_nat _ _ (by omega) (by decide), Nat.xor_zero]
    unfold zigN
    rw [if_neg h]

/-- Reading one byte. -/
def rNext (s : RS) : Nat × RS :=
  if s.2 ≠ 0 then (0, s) else match s.1 with
  | [] => (0, ([], 3))
  | c :: l => (c, (l, 0))

end Go.Proofs.Ytadnbakniibmfaa
