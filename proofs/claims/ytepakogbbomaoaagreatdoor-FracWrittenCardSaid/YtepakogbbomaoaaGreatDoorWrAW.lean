/-
 The reference's encodings: zigzag, varints. append of a row to a slice of the call's own, as one law; the reference's encodings of truth values, byte slices and lists. A struct (or an array) that lies in a block of its own: its cells, what a store makes of them, what keeps them. The reference's reader. The reference's reader: signed numbers, truth values, lengths, byte slices, lists, the end. The reference's reader: lists.
-/
import Derived.Test.YtepakogbbomaoaaGreatDoorLwAW
import Derived.Test.YtepakogbbomaoaaGreatDoorVarW
import Derived.Laws.OwnMore
namespace Go.Proofs.YtepakogbbomaoaaGreatDoor
open Go.RowKit Go.Shelf
set_option linter.unusedVariables false
set_option maxRecDepth 100000
theorem wrap_u64_small {n : Int} (h : 0 ≤ n) (h2 : n < 18446744073709551616) : IntKind.u64.wrap n = n := by rw [IntKind.wrap_u64]; omega
theorem natI_append (a b : List Nat) : natI (a ++ b) = natI a ++ natI b := List.map_append
theorem add_none (b off j : Nat) : (⟨b, off, none⟩ : Addr).add j = ⟨b, off + j, none⟩ := by unfold Addr.add; split <;> simp_all
theorem wpList_append_fresh {w : World} {ops : Array Oper} {rest : List Oper} {o : Oper} {a : Act} {Q : Exit → Act → World → Prop} (hgd : o.guard = none) (s x : Operand) (t : TypeId)
  (ho : o.op = .call { callee := .builtin .append, args := #[s, x], argTypes := #[t, t] })
  (B : Nat) (e : TypeId) (i : TypeInfo) (k : IntKind) (bytes : Nat) (ht : Tryz.prog.underlying t = some (.slice e)) (hi : Tryz.prog.info? e = some i) (hz : i.zero = some (.int k 0))
  (hsize : i.size = 1) (hby : i.bytes = bytes) (hb8 : bytes ≤ 8) (v : Value) (zs : List Int) (hs : a.eval s = v) (hown : Fresh B e k w v zs) (u : Value) (ys : List Int) (hx : a.eval x = u) (hu : Row k w u ys)
  (hlen : zs.length + ys.length ≤ 1000000000) (hbase : B ≤ w.heap.size)
  (h : ∀ v' w', Fresh B e k w' v' (zs ++ ys) → w.grownBy w' v.ownBlock → wpList Tryz.prog ops Q rest (a.put o.dst v') w') : wpList Tryz.prog ops Q (o :: rest) a w := by
 obtain ⟨p, cap, rfl, hcap, hcm, hne, hnil⟩ := hu
 have hm1 : zs.length + ys.length ≤ maxLen := by unfold maxLen; omega
 have hm2 : (zs.length + ys.length) * bytes ≤ 140737488355328 := by
  have : (zs.length + ys.length) * bytes ≤ (zs.length + ys.length) * 8 := Nat.mul_le_mul_left _ hb8
  omega
 rcases p with _ | p
 ·obtain ⟨rfl, rfl⟩ := hnil rfl
  refine wpList_append_own_none hgd s x t ho B e i 1 ht hi v _ _ hs hown hx ?_
  refine h v w (by rw [List.append_nil]; exact hown) ⟨rfl, rfl, rfl, Nat.le_refl _, fun _ _ _ => rfl⟩
 ·refine wpList_append_own w hgd s x t ho B e i (.int k 0) 1 bytes ht hi hz hsize hby rfl (by decide) v zs.length (zs.map (Value.int k)) hs hown p ys.length cap (ys.map (Value.int k)) hx (by simp) ?_ ?_ hm1 hm2 hbase ?_
  ·intro j q hq
   have hj : j < ys.length := by
    rcases Nat.lt_or_ge j ys.length with h | h
    ·exact h
    ·rw [List.getElem?_eq_none (by simp; omega)] at hq; cases hq
   obtain ⟨b, off, hp, hc⟩ := hne (fun h => by rw [h] at hj; simp at hj)
   injection hp with hp
   subst hp
   rw [add_none, hc j hj, ← hq, List.getElem?_map, List.getElem?_eq_getElem hj]; rfl
  ·intro q hq
   obtain ⟨z, _, rfl⟩ := List.mem_map.1 hq
   rfl
  ·intro v' w' h1 h2 _
   refine h v' w' ?_ h2
   unfold Fresh
   rw [List.length_append, List.map_append]
   exact h1
theorem fresh_lit (w : World) (B : Nat) (e : TypeId) (k : IntKind) (zs : List Int) (hB : B ≤ w.heap.size) (hz : zs.length ≤ 1000000) :
  Fresh B e k (w.alloc (.cells (zs.map (Value.int k)).toArray e)) (.slice (some ⟨w.heap.size, 0, none⟩) zs.length zs.length) zs := by
 refine ⟨by simp, .inr ⟨w.heap.size, zs.length, (zs.map (Value.int k)).toArray, rfl, hB, World.alloc_heap_new w _, Nat.le_refl _, by unfold maxLen; omega, by simp, List.take_of_length_le (by simp)⟩⟩
theorem below_grown {B : Nat} {w W W' : World} {e : TypeId} {k : IntKind} {v : Value} {zs : List Int} (hb : Below B w W) (hf : Fresh B e k W v zs) (hg : W.grownBy W' v.ownBlock) (hB : B ≤ W.heap.size) : Below B w W' :=
 hb.grown hg hB (fun k hk => (hf.lt k hk).1)
def Laid (W : World) (r : Nat) (t : TypeId) (vs : List Value) : Prop := W.heap[r]? = some (.cells vs.toArray t (0, 0))
theorem Laid.lt {W : World} {r : Nat} {t : TypeId} {vs : List Value} (h : Laid W r t vs) : r < W.heap.size := (Array.getElem?_eq_some_iff.1 h).1
theorem Laid.cell {W : World} {r : Nat} {t : TypeId} {vs : List Value} (h : Laid W r t vs) (j : Nat) : W.cell? ⟨r, j, none⟩ = vs[j]? := by
 rw [cell_at h]; simp
theorem Laid.frozen {W : World} {r : Nat} {t : TypeId} {vs : List Value} (h : Laid W r t vs) (j : Nat) : W.frozen? ⟨r, j, none⟩ = false := by
 simp [World.frozen?, show W.heap[r]? = _ from h]
theorem Laid.new (W : World) (t : TypeId) (vs : List Value) : Laid (W.alloc (.cells vs.toArray t)) W.heap.size t vs := World.alloc_heap_new W _
theorem Laid.set {W : World} {r : Nat} {t : TypeId} {vs : List Value} (h : Laid W r t vs) (j : Nat) (u : Value) : Laid (W.setCell ⟨r, j, none⟩ u) r t (vs.set j u) := by
 obtain ⟨hlt, hk⟩ := Array.getElem?_eq_some_iff.1 h
 show (W.heap.modify r _)[r]? = _
 rw [Array.getElem?_eq_getElem (by rw [Array.size_modify]; exact hlt), Array.getElem_modify_self, hk]
 simp
theorem Laid.keeps {W W2 : World} {r : Nat} {t : TypeId} {vs : List Value} {A : Foot} (h : Laid W r t vs) (hk : Keeps A W W2) (hn : ¬ A r) : Laid W2 r t vs := hk.obj h hn
theorem Laid.below {W W2 : World} {r : Nat} {t : TypeId} {vs : List Value} (h : Laid W r t vs) (hb : Below W.heap.size W W2) : Laid W2 r t vs := (hb.block r h.lt).trans h
theorem row_foot {A : Foot} {k : IntKind} {w w' : World} {v : Value} {zs : List Int} (h : Row k w v zs) (hk : Keeps A w w') (hn : ∀ j, blockOf v j → ¬ A j) : Row k w' v zs := by
 obtain ⟨a, cap, rfl, h2, h3, h4, h5⟩ := h
 refine ⟨a, cap, rfl, h2, h3, fun hne => ?_, h5⟩
 obtain ⟨b, off, rfl, hc⟩ := h4 hne
 exact ⟨b, off, rfl, fun j hj => hk.cell (hc j hj) (hn b rfl)⟩
theorem keeps_set (W : World) (r j : Nat) (u : Value) : Keeps (fun k => k = r) W (W.setCell ⟨r, j, none⟩ u) := (Keeps.refl _ W).setCell ⟨r, j, none⟩ u rfl
abbrev RS := List Nat × Nat
def gotUint (s : RS) : Got Nat → Nat × RS
 | .err k => (0, (s.1, k))
 | .val n r => (n, (r, 0))
def rUint (s : RS) : Nat × RS := if s.2 = 0 then gotUint s (readVar 0 s.1) else (0, s)
def PlainS (v : Value) : Prop := v = .slice none 0 0 ∨ ∃ b off len cap, v = .slice (some ⟨b, off, none⟩) len cap
theorem natI_getD (l : List Nat) (j : Nat) : (natI l)[j]?.getD 0 = ((l[j]?.getD 0 : Nat) : Int) := by
 unfold natI
 rw [List.getElem?_map]
 cases l[j]? <;> rfl
theorem pow8_le {i U : Nat} (hU : 128 ^ i = U) (hi : i ≤ 8) : U ≤ 72057594037927936 := by
 rw [← hU]; exact Nat.le_trans (Nat.pow_le_pow_right (by decide) hi) (by decide)
theorem acc_lt {acc U c i : Nat} (hU : 128 ^ i = U) (ha : acc < U) (hc : c < 256) : acc + U * (c - 128) < 128 ^ (i + 1) := by
 have h1 : U * (c - 128) ≤ U * 127 := Nat.mul_le_mul_left _ (by omega)
 rw [Nat.pow_succ, hU]
 omega
def rLen (s : RS) : Nat × RS :=
 if (rUint s).2.2 ≠ 0 then (0, (rUint s).2) else if (rUint s).2.1.length < (rUint s).1 then (0, ((rUint s).2.1, 3)) else rUint s
def rRaw (s : RS) : List Nat × RS :=
 if (rLen s).2.2 ≠ 0 then ([], (rLen s).2) else ((rLen s).2.1.take (rLen s).1, ((rLen s).2.1.drop (rLen s).1, 0))
def rEnd (s : RS) : Nat := if s.2 = 0 ∧ s.1 ≠ [] then 2 else s.2
theorem rUint_lt {s : RS} (h8 : ∀ c ∈ s.1, c < 256) : (rUint s).1 < 18446744073709551616 := by
 unfold rUint
 split
 ·cases h : readVar 0 s.1 with
  | err e => show 0 < _; exact (by decide)
  | val n r => exact (readVar_one s.1 h8 0 (by decide) n r h).2.1
 ·show 0 < _; exact (by decide)
theorem rUint_err {s : RS} (h : s.2 ≠ 0) : rUint s = (0, s) := by unfold rUint; rw [if_neg h]
theorem fresh_foot {A : Foot} {B : Nat} {e : TypeId} {k : IntKind} {w w' : World} {v : Value} {zs : List Int} (h : Fresh B e k w v zs) (hk : Keeps A w w') (hn : ∀ j, B ≤ j → ¬ A j) : Fresh B e k w' v zs := by
 refine ⟨h.1, ?_⟩
 rcases h.2 with h0 | ⟨g, cap, cur, rfl, h2, h3, h4⟩
 ·exact .inl h0
 ·exact .inr ⟨g, cap, cur, rfl, h2, hk.obj h3 (hn g h2), h4⟩
end Go.Proofs.YtepakogbbomaoaaGreatDoor
