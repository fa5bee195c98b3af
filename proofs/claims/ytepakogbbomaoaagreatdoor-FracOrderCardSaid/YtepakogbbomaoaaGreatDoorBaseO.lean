/-
 What the walks of later stages take from those of earlier ones (taken out by wip/tools/shake.py).
-/
import Derived.Test.YtepakogbbomaoaaGreatDoorRows
import Derived.RangeFuncRecord
import Derived.Laws.Bits64
import Derived.Laws.Bits64b
import Derived.Below
import Derived.WalkKit
import Derived.WalkSpells
import Derived.WalkLawsBesides
import Derived.Deep.DeepFit
import Derived.Lib.Hide
import Derived.Shelf.Abstract
import Derived.Shelf.RegionOpen
import Derived.OwnWalkIn
import Derived.TacticsInMore
import Derived.LoopNIn
import Derived.LoopIn
import Derived.Lib.ConvBytes
import Derived.Maps.AppendAt
import Derived.Laws.AppendOwnNone
import Derived.Deep.QuietTactic
import Derived.BigQuiet
import Derived.WalkSmall
import Derived.Deep.RegionWith
import Derived.Laws.BytesArg
import Derived.Laws.BitsAllLaws
import Derived.Laws.OwnMore
import Derived.Deep.RegionLaw
import Derived.Deep.AppendLies
import Derived.Lib.AppendStr
import Derived.Deep.AppendSrc
import Derived.Lib.SliceRun
namespace Go.Proofs.YtepakogbbomaoaaGreatDoor
open Go.RowKit Go.Shelf
set_option linter.unusedVariables false
set_option maxRecDepth 100000
abbrev Foot := Nat → Prop
structure Keeps (A : Foot) (W W2 : World) : Prop where
 os : W2.os = W.os
 tape : W2.tape = W.tape
 output : W2.output = W.output
 size : W.heap.size ≤ W2.heap.size
 same : ∀ k, k < W.heap.size → ¬ A k → W2.heap[k]? = W.heap[k]?
theorem Keeps.refl (A : Foot) (W : World) : Keeps A W W := ⟨rfl, rfl, rfl, Nat.le_refl _, fun _ _ _ => rfl⟩
theorem Keeps.trans {A : Foot} {a b c : World} (h : Keeps A a b) (k : Keeps A b c) : Keeps A a c :=
 ⟨k.os.trans h.os, k.tape.trans h.tape, k.output.trans h.output, Nat.le_trans h.size k.size,
  fun i hi hn => (k.same i (Nat.lt_of_lt_of_le hi h.size) hn).trans (h.same i hi hn)⟩
theorem Keeps.mono {A B : Foot} {a b : World} (h : Keeps A a b) (hAB : ∀ k, k < a.heap.size → A k → B k) : Keeps B a b :=
 ⟨h.os, h.tape, h.output, h.size, fun i hi hn => h.same i hi (fun ha => hn (hAB i hi ha))⟩
theorem Keeps.drew {A : Foot} {a b : World} (h : Keeps A a b) : Keeps A a b.drew := ⟨h.os, h.tape, h.output, h.size, h.same⟩
theorem Keeps.alloc {A : Foot} {a b : World} (h : Keeps A a b) (o : Obj) : Keeps A a (b.alloc o) :=
 h.trans ⟨rfl, rfl, rfl, by simp, fun k hk _ => Below.heap_alloc _ _ _ hk⟩
theorem Keeps.putObj {A : Foot} {a b : World} (h : Keeps A a b) (l : Nat) (o : Obj) (hl : A l) : Keeps A a (b.putObj l o) :=
 h.trans ⟨rfl, rfl, rfl, by simp, fun k _ hn => World.putObj_heap_other (fun e => hn (e ▸ hl))⟩
theorem Keeps.setCell {A : Foot} {a b : World} (h : Keeps A a b) (p : Addr) (v : Value) (hp : A p.block) : Keeps A a (b.setCell p v) :=
 h.trans ⟨rfl, rfl, rfl, by simp [World.setCell], fun k _ hn => Below.heap_setCell _ _ _ _ (fun e => hn (e ▸ hp))⟩
theorem Keeps.of_below_size {A : Foot} {a b : World} (h : Below a.heap.size a b) : Keeps A a b :=
 ⟨h.os, h.tape, h.output, h.size, fun k hk _ => h.block k hk⟩
theorem Keeps.below {A : Foot} {a b : World} {B : Nat} (h : Keeps A a b) (hB : B ≤ a.heap.size) (hA : ∀ k, A k → B ≤ k) : Below B a b :=
 ⟨h.os, h.tape, h.output, h.size, fun k hk => h.same k (by omega) (fun ha => by have := hA k ha; omega)⟩
theorem Keeps.obj {A : Foot} {a b : World} (h : Keeps A a b) {k : Nat} {o : Obj} (ho : a.heap[k]? = some o) (hn : ¬ A k) : b.heap[k]? = some o :=
 (h.same k (Array.getElem?_eq_some_iff.1 ho).1 hn).trans ho
theorem Keeps.cell {A : Foot} {a b : World} (h : Keeps A a b) {p : Addr} {v : Value} (hc : a.cell? p = some v) (hn : ¬ A p.block) : b.cell? p = some v := by
 have hlt := World.block_lt_of_cell? a p hc
 exact (World.cell?_of_block (h.same p.block hlt hn)).trans hc
structure Round (A A2 : Foot) (W W2 : World) : Prop where
 keeps : Keeps A W W2
 foot : ∀ k, A2 k → A k ∨ W.heap.size ≤ k
theorem Round.refl (A : Foot) (W : World) : Round A A W W := ⟨Keeps.refl _ _, fun _ h => .inl h⟩
theorem Round.trans {A B C : Foot} {a b c : World} (h : Round A B a b) (k : Round B C b c) : Round A C a c where
 keeps := ⟨k.keeps.os.trans h.keeps.os, k.keeps.tape.trans h.keeps.tape, k.keeps.output.trans h.keeps.output, Nat.le_trans h.keeps.size k.keeps.size, fun i hi hn => by
  refine (k.keeps.same i (Nat.lt_of_lt_of_le hi h.keeps.size) (fun hb => ?_)).trans (h.keeps.same i hi hn)
  rcases h.foot i hb with h1 | h1
  ·exact hn h1
  ·omega⟩
 foot := fun i hi => by
  rcases k.foot i hi with h1 | h1
  ·exact h.foot i h1
  ·have := h.keeps.size; right; omega
theorem Round.same {A : Foot} {a b : World} (h : Keeps A a b) : Round A A a b := ⟨h, fun _ hk => .inl hk⟩
theorem ret_int {k : IntKind} {a b : Int} (h : a = b) : Ending.returned (.int k a) = .returned (.int k b) := by rw [h]
def blockOf : Value → Foot
 | .slice (some a) _ _ => fun k => k = a.block
 | _ => fun _ => False
def strN (s : ByteArray) : List Nat := s.data.toList.map UInt8.toNat
theorem strN_get (s : ByteArray) (j : Nat) (hj : j < s.size) : (strN s)[j]?.getD 0 = (s.data.toList.getD j 0).toNat := by
 have h : j < s.data.toList.length := by simpa using hj
 rw [strN, List.getElem?_map, List.getD_eq_getElem?_getD, List.getElem?_eq_getElem h]
 rfl
theorem cell_at {W : World} {b j : Nat} {cs : Array Value} {t : TypeId} {m : Nat × Nat} (h : W.heap[b]? = some (.cells cs t m)) : W.cell? ⟨b, j, none⟩ = cs[j]? := by
 unfold World.cell?
 rw [h]; simp
theorem below_then {w a b : World} (h : Below w.heap.size w a) (k : Below a.heap.size a b) : Below w.heap.size w b := h.trans (k.mono h.size)
theorem info_int : (Tryz.prog.info? 3).map (fun i => (i.zero, i.size, i.bytes)) = some (some (.int .i64 0), 1, 8) := by kernel_rfl
def Row (k : IntKind) (w : World) (v : Value) (zs : List Int) : Prop :=
 ∃ a cap, v = .slice a zs.length cap ∧ zs.length ≤ cap ∧ cap ≤ 9223372036854775807 ∧
  (zs ≠ [] → ∃ b off, a = some ⟨b, off, none⟩ ∧ ∀ j, j < zs.length → w.cell? ⟨b, off + j, none⟩ = some (.int k (zs[j]?.getD 0))) ∧ (a = none → zs = [] ∧ cap = 0)
def Fresh (B : Nat) (e : TypeId) (k : IntKind) (w : World) (v : Value) (zs : List Int) : Prop := w.ownsRow B e 1 v zs.length (zs.map (Value.int k))
def natI (l : List Nat) : List Int := l.map fun c : Nat => (c : Int)
def Copies (e : TypeId) (k : IntKind) (zs : List Int) (w : World) (en : Ending) (w' : World) : Prop :=
 ∃ v, en = .returned v ∧ Fresh w.heap.size e k w' v zs ∧ Below w.heap.size w w'
theorem fresh_nil (B : Nat) (e : TypeId) (k : IntKind) (w : World) : Fresh B e k w (.slice none 0 0) [] := World.ownsRow_nil w B e 1
theorem copies_mk {e : TypeId} {k : IntKind} {zs : List Int} {w w' : World} {v : Value} (h1 : Fresh w.heap.size e k w' v zs) (h2 : Below w.heap.size w w') : Copies e k zs w (.returned v) w' :=
 ⟨v, rfl, h1, h2⟩
theorem row_none (k : IntKind) (w : World) : Row k w (.slice none 0 0) [] := ⟨none, 0, rfl, Nat.le_refl _, by decide, fun h => (h rfl).elim, fun _ => ⟨rfl, rfl⟩⟩
theorem row_some {k : IntKind} {w : World} {x : Addr} {len cap : Nat} {zs : List Int} (hl : len ≤ cap) (hm : cap ≤ maxLen) (hz : zs.length = cap)
  (hc : ∀ i, i < zs.length → w.cell? (x.add i) = some (.int k (zs.getD i 0))) : Row k w (.slice (some x) len cap) (zs.take len) := by
 have e : (zs.take len).length = len := by rw [List.length_take]; omega
 refine ⟨some x, cap, by rw [e], by rw [e]; exact hl, by unfold maxLen at hm; omega, fun hne => ?_, fun h => by cases h⟩
 have h0 : 0 < zs.length := by
  rcases Nat.eq_zero_or_pos zs.length with h | h
  ·exact (hne (by rw [List.eq_nil_of_length_eq_zero h]; simp)).elim
  ·exact h
 obtain ⟨b, off, s⟩ := x
 have hs : s = none := by
  have h1 := hc 0 h0
  cases s with
  | none => rfl
  | some s =>
   unfold World.cell? at h1
   simp [Addr.add] at h1
   split at h1 <;> simp_all
 subst hs
 refine ⟨b, off, rfl, fun j hj => ?_⟩
 rw [e] at hj
 have h2 := hc j (by omega)
 have e2 : (⟨b, off, none⟩ : Addr).add j = ⟨b, off + j, none⟩ := by unfold Addr.add; split <;> simp_all
 rw [e2] at h2
 rw [h2, List.getElem?_take_of_lt hj, List.getD_eq_getElem?_getD]
theorem info_u8 : (Tryz.prog.info? 5).map (fun i => (i.zero, i.size, i.bytes)) = some (some (.int .u8 0), 1, 1) := by kernel_rfl
theorem fresh_keeps {B : Nat} {e : TypeId} {k : IntKind} {w w' : World} {v : Value} {zs : List Int} (h : Fresh B e k w v zs) (hb : Below w.heap.size w w') : Fresh B e k w' v zs := by
 refine ⟨h.1, ?_⟩
 rcases h.2 with hn | ⟨g, cap, cur, rfl, h2, h3, h4⟩
 ·exact .inl hn
 ·exact .inr ⟨g, cap, cur, rfl, h2, (hb.block g (Array.getElem?_eq_some_iff.1 h3).1).trans h3, h4⟩
theorem fresh_elems {B : Nat} {e : TypeId} {k : IntKind} {w : World} {v : Value} {zs : List Int} (h : Fresh B e k w v zs) :
  ∃ a cap, v = .slice a zs.length cap ∧ zs.length ≤ cap ∧ (zs ≠ [] → ∃ b off, a = some ⟨b, off, none⟩ ∧ ∀ j, j < zs.length → w.cell? ⟨b, off + j, none⟩ = some (.int k (zs[j]?.getD 0))) := by
 have hf := h
 rcases h.2 with ⟨rfl, h0⟩ | ⟨g, cap, cur, rfl, h2, h3, h4, _⟩
 ·have : zs = [] := List.eq_nil_of_length_eq_zero h0
  subst this
  exact ⟨none, 0, rfl, Nat.le_refl _, fun h => (h rfl).elim⟩
 ·refine ⟨_, cap, rfl, h4, fun _ => ⟨g, 0, rfl, fun j hj => ?_⟩⟩
  have := World.ownsRow.cells hf (g := g) rfl j (.int k (zs[j]?.getD 0)) (by simp [hj])
  have e : (⟨g, 0, none⟩ : Addr).add j = ⟨g, 0 + j, none⟩ := by unfold Addr.add; split <;> simp_all
  rwa [e] at this
theorem row_keeps {k : IntKind} {w w' : World} {v : Value} {zs : List Int} (h : Row k w v zs) (hb : Below w.heap.size w w') : Row k w' v zs := by
 obtain ⟨a, cap, h1, h2, h3, h4, h5⟩ := h
 refine ⟨a, cap, h1, h2, h3, fun hne => ?_, h5⟩
 obtain ⟨b, off, e, hc⟩ := h4 hne
 exact ⟨b, off, e, fun j hj => (hb.cell (p := ⟨b, off + j, none⟩) (World.block_lt_of_cell? _ _ (hc j hj))).trans (hc j hj)⟩
theorem natI_length (l : List Nat) : (natI l).length = l.length := by simp [natI]
theorem row_of_fresh {B : Nat} {e : TypeId} {k : IntKind} {w : World} {v : Value} {zs : List Int} (h : Fresh B e k w v zs) : Row k w v zs := by
 obtain ⟨a, cap, h1, h2, h3⟩ := fresh_elems h
 refine ⟨a, cap, h1, h2, ?_, h3, ?_⟩
 ·rcases h.2 with ⟨rfl, _⟩ | ⟨g, cap', cur, rfl, _, _, _, hm, _⟩
  ·injection h1 with e1 e2 e3; omega
  ·injection h1 with e1 e2 e3; unfold maxLen at hm; omega
 ·rintro rfl
  rcases h.2 with ⟨rfl, h0⟩ | ⟨g, cap', cur, rfl, _⟩
  ·injection h1 with e1 e2 e3
   exact ⟨List.eq_nil_of_length_eq_zero h0, e3.symm⟩
  ·injection h1 with e1; cases e1
theorem fresh_some {B : Nat} {e : TypeId} {k : IntKind} {w : World} {v : Value} {zs : List Int} (h : Fresh B e k w v zs) (hz : zs ≠ []) :
  ∃ g cap, v = .slice (some ⟨g, 0, none⟩) zs.length cap ∧ B ≤ g ∧ g < w.heap.size ∧ zs.length ≤ cap := by
 rcases h.2 with ⟨_, h0⟩ | ⟨g, cap, cur, rfl, h1, h2, h3, _⟩
 ·exact (hz (List.eq_nil_of_length_eq_zero h0)).elim
 ·exact ⟨g, cap, rfl, h1, (Array.getElem?_eq_some_iff.1 h2).1, h3⟩
theorem fresh_store {B : Nat} {e : TypeId} {k : IntKind} {w : World} {g cap : Nat} {zs : List Int} (h : Fresh B e k w (.slice (some ⟨g, 0, none⟩) zs.length cap) zs) (j : Nat) (c : Int) :
  Fresh B e k (w.setCell ⟨g, j, none⟩ (.int k c)) (.slice (some ⟨g, 0, none⟩) zs.length cap) (zs.set j c) ∧ w.grownBy (w.setCell ⟨g, j, none⟩ (.int k c)) (some g) := by
 have := World.ownsRow.stored h j (.int k c)
 unfold Fresh
 rw [List.length_set, List.map_set]
 exact this
theorem fresh_store2 {B : Nat} {e : TypeId} {k : IntKind} {w : World} {g cap n : Nat} {zs : List Int} (h : Fresh B e k w (.slice (some ⟨g, 0, none⟩) n cap) zs) (hn : n = zs.length) (j : Nat) (c : Int) :
  Fresh B e k (w.setCell ⟨g, j, none⟩ (.int k c)) (.slice (some ⟨g, 0, none⟩) n cap) (zs.set j c) ∧ w.grownBy (w.setCell ⟨g, j, none⟩ (.int k c)) (some g) := by
 subst hn; exact fresh_store h j c
theorem fresh_cell {B : Nat} {e : TypeId} {k : IntKind} {w : World} {g cap n : Nat} {zs : List Int} (h : Fresh B e k w (.slice (some ⟨g, 0, none⟩) n cap) zs) {j : Nat} (hj : j < zs.length) : w.cell? ⟨g, j, none⟩ = some (.int k (zs[j]?.getD 0)) := by
 obtain ⟨a, c, h1, h2, h3⟩ := fresh_elems h
 obtain ⟨b, off, h4, h5⟩ := h3 (fun e => by rw [e] at hj; simp at hj)
 cases h1
 cases h4
 have := h5 j hj
 rwa [Nat.zero_add] at this
theorem fresh_frozen {B : Nat} {e : TypeId} {k : IntKind} {w : World} {g cap : Nat} {zs : List Int} (h : Fresh B e k w (.slice (some ⟨g, 0, none⟩) zs.length cap) zs) (j : Nat) : w.frozen? ⟨g, j, none⟩ = false :=
 World.ownsRow.frozenAt h j
theorem wrap_u64_small {n : Int} (h : 0 ≤ n) (h2 : n < 18446744073709551616) : IntKind.u64.wrap n = n := by rw [IntKind.wrap_u64]; omega
theorem natI_append (a b : List Nat) : natI (a ++ b) = natI a ++ natI b := List.map_append
theorem add_none (b off j : Nat) : (⟨b, off, none⟩ : Addr).add j = ⟨b, off + j, none⟩ := by unfold Addr.add; split <;> simp_all
theorem wpList_append_fresh {w : World} {ops : Array Oper} {rest : List Oper} {o : Oper} {a : Act} {Q : Exit → Act → World → Prop} (hgd : o.guard = none) (s x : Operand) (t : TypeId)
  (ho : o.op = .call { callee := .builtin .append, args := #[s, x], argTypes := #[t, t] })
  (B : Nat) (e : TypeId) (i : TypeInfo) (k : IntKind) (bytes : Nat) (ht : Tryz.prog.underlying t = some (.slice e)) (hi : Tryz.prog.info? e = some i) (hz : i.zero = some (.int k 0))
  (hsize : i.size = 1) (hby : i.bytes = bytes) (hb8 : bytes ≤ 8) (v : Value) (zs : List Int) (hs : a.eval s = v) (hown : Fresh B e k w v zs) (u : Value) (ys : List Int) (hx : a.eval x = u) (hu : Row k w u ys)
  (hlen : zs.length + ys.length ≤ 1000000000) (hbase : B ≤ w.heap.size)
  (h : ∀ v' w', Fresh B e k w' v' (zs ++ ys) → w.grownBy w' v.ownBlock → wpList Tryz.prog ops Q rest (a.put o.dst v') w') : wpList Tryz.prog ops Q (o :: rest) a w := by
 obtain ⟨p, cap, rfl, hcap, hcm, hne, hnil⟩ := hu
 have hm1 : zs.length + ys.length ≤ maxLen := by unfold maxLen; omega
 have hm2 : (zs.length + ys.length) * bytes ≤ 140737488355328 := by
  have : (zs.length + ys.length) * bytes ≤ (zs.length + ys.length) * 8 := Nat.mul_le_mul_left _ hb8
  omega
 rcases p with _ | p
 ·obtain ⟨rfl, rfl⟩ := hnil rfl
  refine wpList_append_own_none hgd s x t ho B e i 1 ht hi v _ _ hs hown hx ?_
  refine h v w (by rw [List.append_nil]; exact hown) ⟨rfl, rfl, rfl, Nat.le_refl _, fun _ _ _ => rfl⟩
 ·refine wpList_append_own w hgd s x t ho B e i (.int k 0) 1 bytes ht hi hz hsize hby rfl (by decide) v zs.length (zs.map (Value.int k)) hs hown p ys.length cap (ys.map (Value.int k)) hx (by simp) ?_ ?_ hm1 hm2 hbase ?_
  ·intro j q hq
   have hj : j < ys.length := by
    rcases Nat.lt_or_ge j ys.length with h | h
    ·exact h
    ·rw [List.getElem?_eq_none (by simp; omega)] at hq; cases hq
   obtain ⟨b, off, hp, hc⟩ := hne (fun h => by rw [h] at hj; simp at hj)
   injection hp with hp
   subst hp
   rw [add_none, hc j hj, ← hq, List.getElem?_map, List.getElem?_eq_getElem hj]; rfl
  ·intro q hq
   obtain ⟨z, _, rfl⟩ := List.mem_map.1 hq
   rfl
  ·intro v' w' h1 h2 _
   refine h v' w' ?_ h2
   unfold Fresh
   rw [List.length_append, List.map_append]
   exact h1
theorem fresh_lit (w : World) (B : Nat) (e : TypeId) (k : IntKind) (zs : List Int) (hB : B ≤ w.heap.size) (hz : zs.length ≤ 1000000) :
  Fresh B e k (w.alloc (.cells (zs.map (Value.int k)).toArray e)) (.slice (some ⟨w.heap.size, 0, none⟩) zs.length zs.length) zs := by
 refine ⟨by simp, .inr ⟨w.heap.size, zs.length, (zs.map (Value.int k)).toArray, rfl, hB, World.alloc_heap_new w _, Nat.le_refl _, by unfold maxLen; omega, by simp, List.take_of_length_le (by simp)⟩⟩
theorem below_grown {B : Nat} {w W W' : World} {e : TypeId} {k : IntKind} {v : Value} {zs : List Int} (hb : Below B w W) (hf : Fresh B e k W v zs) (hg : W.grownBy W' v.ownBlock) (hB : B ≤ W.heap.size) : Below B w W' :=
 hb.grown hg hB (fun k hk => (hf.lt k hk).1)
def Laid (W : World) (r : Nat) (t : TypeId) (vs : List Value) : Prop := W.heap[r]? = some (.cells vs.toArray t (0, 0))
theorem Laid.lt {W : World} {r : Nat} {t : TypeId} {vs : List Value} (h : Laid W r t vs) : r < W.heap.size := (Array.getElem?_eq_some_iff.1 h).1
theorem Laid.cell {W : World} {r : Nat} {t : TypeId} {vs : List Value} (h : Laid W r t vs) (j : Nat) : W.cell? ⟨r, j, none⟩ = vs[j]? := by
 rw [cell_at h]; simp
theorem Laid.frozen {W : World} {r : Nat} {t : TypeId} {vs : List Value} (h : Laid W r t vs) (j : Nat) : W.frozen? ⟨r, j, none⟩ = false := by
 simp [World.frozen?, show W.heap[r]? = _ from h]
theorem Laid.new (W : World) (t : TypeId) (vs : List Value) : Laid (W.alloc (.cells vs.toArray t)) W.heap.size t vs := World.alloc_heap_new W _
theorem Laid.set {W : World} {r : Nat} {t : TypeId} {vs : List Value} (h : Laid W r t vs) (j : Nat) (u : Value) : Laid (W.setCell ⟨r, j, none⟩ u) r t (vs.set j u) := by
 obtain ⟨hlt, hk⟩ := Array.getElem?_eq_some_iff.1 h
 show (W.heap.modify r _)[r]? = _
 rw [Array.getElem?_eq_getElem (by rw [Array.size_modify]; exact hlt), Array.getElem_modify_self, hk]
 simp
theorem Laid.keeps {W W2 : World} {r : Nat} {t : TypeId} {vs : List Value} {A : Foot} (h : Laid W r t vs) (hk : Keeps A W W2) (hn : ¬ A r) : Laid W2 r t vs := hk.obj h hn
theorem Laid.below {W W2 : World} {r : Nat} {t : TypeId} {vs : List Value} (h : Laid W r t vs) (hb : Below W.heap.size W W2) : Laid W2 r t vs := (hb.block r h.lt).trans h
theorem row_foot {A : Foot} {k : IntKind} {w w' : World} {v : Value} {zs : List Int} (h : Row k w v zs) (hk : Keeps A w w') (hn : ∀ j, blockOf v j → ¬ A j) : Row k w' v zs := by
 obtain ⟨a, cap, rfl, h2, h3, h4, h5⟩ := h
 refine ⟨a, cap, rfl, h2, h3, fun hne => ?_, h5⟩
 obtain ⟨b, off, rfl, hc⟩ := h4 hne
 exact ⟨b, off, rfl, fun j hj => hk.cell (hc j hj) (hn b rfl)⟩
theorem keeps_set (W : World) (r j : Nat) (u : Value) : Keeps (fun k => k = r) W (W.setCell ⟨r, j, none⟩ u) := (Keeps.refl _ W).setCell ⟨r, j, none⟩ u rfl
theorem natI_getD (l : List Nat) (j : Nat) : (natI l)[j]?.getD 0 = ((l[j]?.getD 0 : Nat) : Int) := by
 unfold natI
 rw [List.getElem?_map]
 cases l[j]? <;> rfl
theorem keeps_own {A : Foot} {w W : World} (h : Keeps A w W) {p : Addr} (hp : w.heap.size ≤ p.block) (u : Value) : Keeps A w (W.setCell p u) :=
 ⟨h.os, h.tape, h.output, by have := h.size; simp [World.setCell]; exact this, fun k hk hn => (Below.heap_setCell _ _ _ _ (by omega)).trans (h.same k hk hn)⟩
def strB (s : ByteArray) : List Nat := s.data.toList.map UInt8.toNat
theorem strB_length (s : ByteArray) : (strB s).length = s.size := by unfold strB; rw [List.length_map, Array.length_toList]; rfl
theorem strB_cells (s : ByteArray) : Lib.strCells s = (natI (strB s)).map (Value.int .u8) := by
 unfold Lib.strCells natI strB
 rw [List.map_map, List.map_map]
 rfl
def BSrc (W : World) (tx : TypeId) (u : Value) (ys : List Int) : Prop :=
 (tx = 50 ∧ Row .u8 W u ys) ∨ (tx = 9 ∧ ∃ s : ByteArray, u = .string s ∧ ys = natI (strB s))
theorem fresh_form {B : Nat} {e : TypeId} {k : IntKind} {w : World} {v : Value} {zs : List Int} (h : Fresh B e k w v zs) :
  (v = .slice none 0 0 ∧ zs = []) ∨ ∃ g cap, v = .slice (some ⟨g, 0, none⟩) zs.length cap ∧ B ≤ g ∧ g < w.heap.size ∧ zs.length ≤ cap ∧ cap ≤ maxLen := by
 rcases h.2 with ⟨rfl, h0⟩ | ⟨g, cap, cur, rfl, h2, h3, h4, h5, _⟩
 ·exact .inl ⟨rfl, List.eq_nil_of_length_eq_zero h0⟩
 ·exact .inr ⟨g, cap, rfl, h2, (Array.getElem?_eq_some_iff.1 h3).1, h4, h5⟩
theorem under_bytes : Tryz.prog.underlying 50 = some (.slice 5) := by kernel_rfl
theorem under_str : Tryz.prog.underlying 9 = some .string := by kernel_rfl
theorem run_append_buf {W : World} {B : Nat} {v : Value} {zs : List Int} (hown : Fresh B 5 .u8 W v zs) {tx ty : TypeId} {u : Value} {ys : List Int} (hs : BSrc W tx u ys) (hlen : zs.length + ys.length ≤ 1000000000) (hB : B ≤ W.heap.size) :
  ∃ a c w', (Builtin.append_ #[50, tx] ty #[v, u]).run Tryz.prog W = .ok (.slice a (zs ++ ys).length c) w' ∧ Fresh B 5 .u8 w' (.slice a (zs ++ ys).length c) (zs ++ ys) ∧ W.grownBy w' v.ownBlock ∧
   (Value.ownBlock (.slice a (zs ++ ys).length c) = v.ownBlock ∨ Value.ownBlock (.slice a (zs ++ ys).length c) = some W.heap.size) := by
 obtain ⟨i0, hi, hz0, hz1, hz2⟩ := info_parts info_u8
 have fin : ∀ {v' : Value} {w' : World}, (Builtin.append_ #[50, tx] ty #[v, u]).run Tryz.prog W = .ok v' w' → Fresh B 5 .u8 w' v' (zs ++ ys) → W.grownBy w' v.ownBlock → (v'.ownBlock = v.ownBlock ∨ v'.ownBlock = some W.heap.size) →
   ∃ a c w', (Builtin.append_ #[50, tx] ty #[v, u]).run Tryz.prog W = .ok (.slice a (zs ++ ys).length c) w' ∧ Fresh B 5 .u8 w' (.slice a (zs ++ ys).length c) (zs ++ ys) ∧ W.grownBy w' v.ownBlock ∧
   (Value.ownBlock (.slice a (zs ++ ys).length c) = v.ownBlock ∨ Value.ownBlock (.slice a (zs ++ ys).length c) = some W.heap.size) := by
  intro v' w' h1 h2 h3 h4
  obtain ⟨a, c, rfl, _⟩ := fresh_elems h2
  exact ⟨a, c, w', h1, h2, h3, h4⟩
 rcases hs with ⟨rfl, hrow⟩ | ⟨rfl, s, rfl, rfl⟩
 ·obtain ⟨p, cap, rfl, hcap, hcm, hne, hnil⟩ := hrow
  rcases p with _ | p
  ·obtain ⟨rfl, rfl⟩ := hnil rfl
   refine fin (run_append_owned_none (P := Tryz.prog) W B _ ty _ i0 1 under_bytes hi v _ _ hown) (by rw [List.append_nil]; exact hown) ⟨rfl, rfl, rfl, Nat.le_refl _, fun _ _ _ => rfl⟩ (.inl rfl)
  ·obtain ⟨v', w', h1, h2, h3, _, h5⟩ := run_append_own_at (P := Tryz.prog) W B 50 ty 5 i0 (.int .u8 0) 1 1 under_bytes hi hz0 hz1 hz2 rfl (by decide) v zs.length (zs.map (Value.int .u8)) hown p ys.length cap (ys.map (Value.int .u8)) (by simp) (by
     intro j q hq
     have hj : j < ys.length := by
      rcases Nat.lt_or_ge j ys.length with h | h
      ·exact h
      ·rw [List.getElem?_eq_none (by simp; omega)] at hq; cases hq
     obtain ⟨b, off, hp, hc⟩ := hne (fun h => by rw [h] at hj; simp at hj)
     injection hp with hp
     subst hp
     rw [add_none, hc j hj, ← hq, List.getElem?_map, List.getElem?_eq_getElem hj]; rfl) (by
     intro q hq
     obtain ⟨z, _, rfl⟩ := List.mem_map.1 hq
     rfl) (by unfold maxLen; omega) (by omega) hB
   refine fin h1 ?_ h3 h5
   unfold Fresh
   rw [List.length_append, List.map_append]
   exact h2
 ·have hsz : (natI (strB s)).length = s.size := by rw [natI_length, strB_length]
  rw [hsz] at hlen
  obtain ⟨v', w', h1, h2, h3, h4⟩ := Lib.run_append_own_string (P := Tryz.prog) W B 50 9 ty 5 i0 under_bytes under_str hi hz0 hz1 hz2 v zs.length (zs.map (Value.int .u8)) hown s (by unfold maxLen; omega) (by omega) hB
  have hsrc : Src Tryz.prog i0.size 9 (.string s) s.size (byteCells s) W := by rw [hz1]; exact Src.ofString W under_str s
  refine fin h1 ?_ h3 ?_
  ·unfold Fresh
   rw [List.length_append, List.map_append, hsz, ← strB_cells]
   exact h2
  ·have hw := hown
   rcases hown.2 with ⟨rfl, h0⟩ | ⟨g, cap, cur, rfl, hbg, hg, hnc, hcm, hcs, htake⟩
   ·have hzs : zs = [] := List.eq_nil_of_length_eq_zero h0
    subst hzs
    rcases Nat.eq_zero_or_pos s.size with hs0 | hs0
    ·rw [h4.2 ⟨rfl, hs0⟩]
     exact .inl rfl
    ·right
     have hr := run_append_grow_src (P := Tryz.prog) W 50 9 ty 5 i0 (.int .u8 0) under_bytes hi hz0 none 0 0 [] (run_firstCells_none W.drew i0.size 0 0 0) (.string s) s.size (byteCells s) hsrc (by omega) (by omega) (growslice_fits (by omega) (by rw [hz2]; omega))
     rw [hr] at h1
     injection h1 with h1 _
     rw [← h1]
     rfl
   ·by_cases hroom : zs.length + s.size ≤ cap
    ·left
     have hk : ∀ j, j < (byteCells s).length → g < W.heap.size ∧ zs.length + j < cur.size := by
      intro j hj
      rw [byteCells_length] at hj
      exact ⟨(Array.getElem?_eq_some_iff.1 hg).1, by omega⟩
     have hr := run_append_room_src (P := Tryz.prog) W 50 9 ty 5 i0 under_bytes hi g 0 zs.length cap (.string s) s.size (byteCells s) hsrc hroom (by
       intro j hj
       rw [hz1, cell_of_row W g _ cur _ _ hg]
       have := (hk j hj).2
       rw [Array.getElem?_eq_getElem (by omega)]
       rfl) (by
       intro j hj
       exact Lib.frozen_of_heap hg _)
     rw [hr] at h1
     injection h1 with h1 _
     rw [← h1]
     rfl
    ·right
     have hr := run_append_grow_src (P := Tryz.prog) W 50 9 ty 5 i0 (.int .u8 0) under_bytes hi hz0 (some ⟨g, 0, none⟩) zs.length cap (zs.map (Value.int .u8)) (by
       refine run_firstCells_some W.drew i0.size zs.length ⟨g, 0, none⟩ zs.length cap _ (by rw [hz1]; simp) (fun j u' hu' => ?_)
       exact hw.cells (g := g) rfl j u' hu') (.string s) s.size (byteCells s) hsrc (by omega) (by omega) (growslice_fits (by omega) (by rw [hz2]; omega))
     rw [hr] at h1
     injection h1 with h1 _
     rw [← h1]
     rfl
theorem wpList_append_buf {W : World} {ops : Array Oper} {rest : List Oper} {o : Oper} {a : Act} {Q : Exit → Act → World → Prop} (hgd : o.guard = none) (s x : Operand) (tx : TypeId)
  (ho : o.op = .call { callee := .builtin .append, args := #[s, x], argTypes := #[50, tx] })
  (B : Nat) (v : Value) (zs : List Int) (hv : a.eval s = v) (hown : Fresh B 5 .u8 W v zs) (u : Value) (ys : List Int) (hx : a.eval x = u) (hs : BSrc W tx u ys) (hlen : zs.length + ys.length ≤ 1000000000) (hB : B ≤ W.heap.size)
  (h : ∀ b n c w', n = (zs ++ ys).length → Fresh B 5 .u8 w' (.slice b n c) (zs ++ ys) → W.grownBy w' v.ownBlock → (Value.ownBlock (.slice b n c) = v.ownBlock ∨ Value.ownBlock (.slice b n c) = some W.heap.size) →
   wpList Tryz.prog ops Q rest (a.put o.dst (.slice b n c)) w') : wpList Tryz.prog ops Q (o :: rest) a W := by
 refine wpList_plain hgd fun K hK => ?_
 obtain ⟨b, c, w', hr, h1, h2, h3⟩ := run_append_buf (ty := o.type) hown hs hlen hB
 unfold Oper.wp execOp
 simp only [ho, resolve, invoke, builtin, Sem.run_bind, Sem.run_pure, Result.andThen_ok, List.map_toArray, List.map_cons, List.map_nil, hv, hx, hr]
 exact hK _ _ (h b _ c w' rfl h1 h2 h3)
theorem lit_src {W : World} {H : Nat} {x : Int} (h : W.heap[H]? = some (.cells #[.int .u8 x] 5 (0, 0))) : BSrc W 50 (.slice (some ⟨H, 0, none⟩) 1 1) [x] := by
 refine .inl ⟨rfl, _, 1, rfl, Nat.le_refl _, by decide, fun _ => ⟨H, 0, rfl, fun j hj => ?_⟩, fun h => by cases h⟩
 have : j = 0 := by simpa using hj
 subst this
 rw [cell_at h]
 rfl
theorem wrap_i64 (n : Int) : IntKind.i64.wrap n = wrap64 n := by
 unfold wrap64
 simp only [IntKind.wrap, IntKind.bits, IntKind.signed]
 simp
 try omega
theorem made_zero (k : IntKind) (n : Nat) : (madeCells (Value.int k 0).cells (n * 1)).toList = (List.replicate n (0 : Int)).map (Value.int k) := by
 refine List.ext_getElem (by simp [madeCells]) fun j h1 h2 => ?_
 simp [madeCells, Value.cells, Nat.mod_one]
theorem wpList_make_fresh {W : World} {ops : Array Oper} {rest : List Oper} {o : Oper} {a : Act} {Q : Exit → Act → World → Prop} (hg : o.guard = none) (l c : Operand) (t : TypeId) (hop : o.op = Op.makeSlice t l c)
  (B : Nat) (e : TypeId) (i : TypeInfo) (k : IntKind) (bytes : Nat) (ht : Tryz.prog.underlying t = some (.slice e)) (hi : Tryz.prog.info? e = some i) (hz : i.zero = some (.int k 0)) (hsize : i.size = 1) (hby : i.bytes = bytes) (hb8 : bytes ≤ 8)
  (kl kc : IntKind) (L C : Int) (n : Nat) (hl : a.eval l = .int kl L) (hc : a.eval c = .int kc C) (hL : L = (n : Int)) (hC : C = (n : Int)) (hn : n ≤ 1000000000) (hB : B ≤ W.heap.size)
  (hK : ∀ w', Fresh B e k w' (.slice (some ⟨W.heap.size, 0, none⟩) n n) (List.replicate n 0) → Below W.heap.size W w' → w'.heap.size ≥ W.heap.size → wpList Tryz.prog ops Q rest (a.put o.dst (.slice (some ⟨W.heap.size, 0, none⟩) n n)) w') :
  wpList Tryz.prog ops Q (o :: rest) a W := by
 have h2 : i.bytes * n ≤ 281474976710656 := by
  rw [hby]
  have : bytes * n ≤ 8 * n := Nat.mul_le_mul_right _ hb8
  omega
 refine wpList_make_full W hg l c t hop B e i (.int k 0) 1 ht hi hz hsize kl kc L C n hl hc hL hC h2 (by unfold maxLen; omega) hB (fun w' h1 h2 => ?_)
 refine hK w' ?_ ((Below.refl _ W).grown h2 (Nat.le_refl _) (fun k h => by cases h)) h2.size
 unfold Fresh
 rw [List.length_replicate, ← made_zero]
 exact h1
theorem fresh_frozen2 {H : Nat} {e : TypeId} {k : IntKind} {w : World} {g cap n : Nat} {zs : List Int} (h : Fresh H e k w (.slice (some ⟨g, 0, none⟩) n cap) zs) (hn : n = zs.length) (j : Nat) : w.frozen? ⟨g, j, none⟩ = false := by
 subst hn; exact fresh_frozen h j
theorem strB_nums {l : List Nat} (h : ∀ c ∈ l, c < 256) : strB (strOfNums (natI l)) = l := by
 unfold strB
 rw [strOfNums_data, List.map_map]
 unfold natI
 rw [List.map_map]
 conv => rhs; rw [← List.map_id l]
 refine List.map_congr_left fun c hc => ?_
 have := h c hc
 simp only [Function.comp, id, Int.toNat_natCast]
 exact UInt8.toNat_ofNat_of_lt' this
theorem conv_string {W : World} {v : Value} {xs : List Int} (h : Row .u8 W v xs) : (convert 50 9 v).run Tryz.prog W = .ok (.string (strOfNums xs)) W := by
 obtain ⟨a, c, rfl, h2, h3, h4, h5⟩ := h
 cases a with
 | none =>
  obtain ⟨rfl, rfl⟩ := h5 rfl
  exact run_convert_bytes_nil (P := Tryz.prog) W _ _ under_bytes Tryz.underlying5 _ _ _ under_str
 | some a =>
  by_cases hx : xs = []
  ·subst hx
   obtain ⟨b, off, s⟩ := a
   rw [run_convert_bytes_string (P := Tryz.prog) W _ _ _ _ _ _ under_bytes Tryz.underlying5 under_str]
   simp [Conv.bytesToString, loadCells, loadCellsFrom]
   rfl
  ·obtain ⟨b, off, e, hc⟩ := h4 hx
   injection e with e
   subst e
   refine run_convert_bytes_arg (P := Tryz.prog) W 50 5 under_bytes Tryz.underlying5 b off xs.length c xs rfl (fun i hi => ?_) _ under_str
   rw [hc i hi, List.getD_eq_getElem?_getD]
theorem fresh_span {B : Nat} {e : TypeId} {k : IntKind} {w : World} {v : Value} {zs : List Int} (h : Fresh B e k w v zs) : ∀ j, blockOf v j → B ≤ j ∧ j < w.heap.size := by
 intro j hj
 rcases h.2 with ⟨rfl, _⟩ | ⟨g, cap, cur, rfl, hb, h3, _⟩
 ·exact hj.elim
 ·have : j = g := hj
  subst this
  exact ⟨hb, (Array.getElem?_eq_some_iff.1 h3).1⟩
theorem row_bytes (w : World) (s : ByteArray) (hs : s.size ≤ maxLen) :
  Row .u8 (Lib.bytesWorld w 5 s) (.slice (some ⟨w.heap.size, 0, none⟩) s.size (grownCap w s.size 0 5)) (natI (strB s)) := by
 have hl : (natI (strB s)).length = s.size := by rw [natI_length, strB_length]
 refine ⟨_, _, by rw [hl], by rw [hl]; exact grownCap_ge _ _ _ _, ?_, fun _ => ⟨_, _, rfl, fun j hj => ?_⟩, fun h => by cases h⟩
 ·have := grownCap_le_maxLen w s.size 0 5 hs
  unfold maxLen at this; omega
 ·rw [hl] at hj
  rw [Nat.zero_add, Lib.bytesWorld_cell w _ s j hj]
  have h1 : (natI (strB s))[j]?.getD 0 = (((strB s)[j]?.getD 0 : Nat) : Int) := natI_getD _ _
  have h2 : (strB s)[j]?.getD 0 = (s.data.toList.getD j 0).toNat := strN_get s j hj
  rw [h1, h2]
end Go.Proofs.YtepakogbbomaoaaGreatDoor
