/-
 The program's writer: what append makes of its bytes, as one law; the writer's state; Uint. The program's writer: Uint. The program's writer: Int, Bool, Text, Raw, Ints; Clone, Done. The program's reader: its state; one byte.
-/
import Derived.Test.YtepakogbbomaoaaGreatDoorWrMW
import Derived.Deep.RegionLaw
import Derived.Deep.AppendLies
import Derived.Lib.AppendStr
import Derived.Deep.AppendSrc
import Derived.Lib.SliceRun
namespace Go.Proofs.YtepakogbbomaoaaGreatDoor
open Go.RowKit Go.Shelf
set_option linter.unusedVariables false
set_option maxRecDepth 100000
def strB (s : ByteArray) : List Nat := s.data.toList.map UInt8.toNat
theorem strB_length (s : ByteArray) : (strB s).length = s.size := by unfold strB; rw [List.length_map, Array.length_toList]; rfl
theorem strB_lt (s : ByteArray) : ∀ c ∈ strB s, c < 256 := by
 intro c hc
 obtain ⟨b, _, rfl⟩ := List.mem_map.1 hc
 exact UInt8.toNat_lt b
theorem strB_cells (s : ByteArray) : Lib.strCells s = (natI (strB s)).map (Value.int .u8) := by
 unfold Lib.strCells natI strB
 rw [List.map_map, List.map_map]
 rfl
def BSrc (W : World) (tx : TypeId) (u : Value) (ys : List Int) : Prop :=
 (tx = 50 ∧ Row .u8 W u ys) ∨ (tx = 9 ∧ ∃ s : ByteArray, u = .string s ∧ ys = natI (strB s))
theorem fresh_form {B : Nat} {e : TypeId} {k : IntKind} {w : World} {v : Value} {zs : List Int} (h : Fresh B e k w v zs) :
  (v = .slice none 0 0 ∧ zs = []) ∨ ∃ g cap, v = .slice (some ⟨g, 0, none⟩) zs.length cap ∧ B ≤ g ∧ g < w.heap.size ∧ zs.length ≤ cap ∧ cap ≤ maxLen := by
 rcases h.2 with ⟨rfl, h0⟩ | ⟨g, cap, cur, rfl, h2, h3, h4, h5, _⟩
 ·exact .inl ⟨rfl, List.eq_nil_of_length_eq_zero h0⟩
 ·exact .inr ⟨g, cap, rfl, h2, (Array.getElem?_eq_some_iff.1 h3).1, h4, h5⟩
theorem under_bytes : Tryz.prog.underlying 50 = some (.slice 5) := by kernel_rfl
theorem under_str : Tryz.prog.underlying 9 = some .string := by kernel_rfl
theorem run_append_buf {W : World} {B : Nat} {v : Value} {zs : List Int} (hown : Fresh B 5 .u8 W v zs) {tx ty : TypeId} {u : Value} {ys : List Int} (hs : BSrc W tx u ys) (hlen : zs.length + ys.length ≤ 1000000000) (hB : B ≤ W.heap.size) :
  ∃ a c w', (Builtin.append_ #[50, tx] ty #[v, u]).run Tryz.prog W = .ok (.slice a (zs ++ ys).length c) w' ∧ Fresh B 5 .u8 w' (.slice a (zs ++ ys).length c) (zs ++ ys) ∧ W.grownBy w' v.ownBlock ∧
   (Value.ownBlock (.slice a (zs ++ ys).length c) = v.ownBlock ∨ Value.ownBlock (.slice a (zs ++ ys).length c) = some W.heap.size) := by
 obtain ⟨i0, hi, hz0, hz1, hz2⟩ := info_parts info_u8
 have fin : ∀ {v' : Value} {w' : World}, (Builtin.append_ #[50, tx] ty #[v, u]).run Tryz.prog W = .ok v' w' → Fresh B 5 .u8 w' v' (zs ++ ys) → W.grownBy w' v.ownBlock → (v'.ownBlock = v.ownBlock ∨ v'.ownBlock = some W.heap.size) →
   ∃ a c w', (Builtin.append_ #[50, tx] ty #[v, u]).run Tryz.prog W = .ok (.slice a (zs ++ ys).length c) w' ∧ Fresh B 5 .u8 w' (.slice a (zs ++ ys).length c) (zs ++ ys) ∧ W.grownBy w' v.ownBlock ∧
   (Value.ownBlock (.slice a (zs ++ ys).length c) = v.ownBlock ∨ Value.ownBlock (.slice a (zs ++ ys).length c) = some W.heap.size) := by
  intro v' w' h1 h2 h3 h4
  obtain ⟨a, c, rfl, _⟩ := fresh_elems h2
  exact ⟨a, c, w', h1, h2, h3, h4⟩
 rcases hs with ⟨rfl, hrow⟩ | ⟨rfl, s, rfl, rfl⟩
 ·obtain ⟨p, cap, rfl, hcap, hcm, hne, hnil⟩ := hrow
  rcases p with _ | p
  ·obtain ⟨rfl, rfl⟩ := hnil rfl
   refine fin (run_append_owned_none (P := Tryz.prog) W B _ ty _ i0 1 under_bytes hi v _ _ hown) (by rw [List.append_nil]; exact hown) ⟨rfl, rfl, rfl, Nat.le_refl _, fun _ _ _ => rfl⟩ (.inl rfl)
  ·obtain ⟨v', w', h1, h2, h3, _, h5⟩ := run_append_own_at (P := Tryz.prog) W B 50 ty 5 i0 (.int .u8 0) 1 1 under_bytes hi hz0 hz1 hz2 rfl (by decide) v zs.length (zs.map (Value.int .u8)) hown p ys.length cap (ys.map (Value.int .u8)) (by simp) (by
     intro j q hq
     have hj : j < ys.length := by
      rcases Nat.lt_or_ge j ys.length with h | h
      ·exact h
      ·rw [List.getElem?_eq_none (by simp; omega)] at hq; cases hq
     obtain ⟨b, off, hp, hc⟩ := hne (fun h => by rw [h] at hj; simp at hj)
     injection hp with hp
     subst hp
     rw [add_none, hc j hj, ← hq, List.getElem?_map, List.getElem?_eq_getElem hj]; rfl) (by
     intro q hq
     obtain ⟨z, _, rfl⟩ := List.mem_map.1 hq
     rfl) (by unfold maxLen; omega) (by omega) hB
   refine fin h1 ?_ h3 h5
   unfold Fresh
   rw [List.length_append, List.map_append]
   exact h2
 ·have hsz : (natI (strB s)).length = s.size := by rw [natI_length, strB_length]
  rw [hsz] at hlen
  obtain ⟨v', w', h1, h2, h3, h4⟩ := Lib.run_append_own_string (P := Tryz.prog) W B 50 9 ty 5 i0 under_bytes under_str hi hz0 hz1 hz2 v zs.length (zs.map (Value.int .u8)) hown s (by unfold maxLen; omega) (by omega) hB
  have hsrc : Src Tryz.prog i0.size 9 (.string s) s.size (byteCells s) W := by rw [hz1]; exact Src.ofString W under_str s
  refine fin h1 ?_ h3 ?_
  ·unfold Fresh
   rw [List.length_append, List.map_append, hsz, ← strB_cells]
   exact h2
  ·have hw := hown
   rcases hown.2 with ⟨rfl, h0⟩ | ⟨g, cap, cur, rfl, hbg, hg, hnc, hcm, hcs, htake⟩
   ·have hzs : zs = [] := List.eq_nil_of_length_eq_zero h0
    subst hzs
    rcases Nat.eq_zero_or_pos s.size with hs0 | hs0
    ·rw [h4.2 ⟨rfl, hs0⟩]
     exact .inl rfl
    ·right
     have hr := run_append_grow_src (P := Tryz.prog) W 50 9 ty 5 i0 (.int .u8 0) under_bytes hi hz0 none 0 0 [] (run_firstCells_none W.drew i0.size 0 0 0) (.string s) s.size (byteCells s) hsrc (by omega) (by omega) (growslice_fits (by omega) (by rw [hz2]; omega))
     rw [hr] at h1
     injection h1 with h1 _
     rw [← h1]
     rfl
   ·by_cases hroom : zs.length + s.size ≤ cap
    ·left
     have hk : ∀ j, j < (byteCells s).length → g < W.heap.size ∧ zs.length + j < cur.size := by
      intro j hj
      rw [byteCells_length] at hj
      exact ⟨(Array.getElem?_eq_some_iff.1 hg).1, by omega⟩
     have hr := run_append_room_src (P := Tryz.prog) W 50 9 ty 5 i0 under_bytes hi g 0 zs.length cap (.string s) s.size (byteCells s) hsrc hroom (by
       intro j hj
       rw [hz1, cell_of_row W g _ cur _ _ hg]
       have := (hk j hj).2
       rw [Array.getElem?_eq_getElem (by omega)]
       rfl) (by
       intro j hj
       exact Lib.frozen_of_heap hg _)
     rw [hr] at h1
     injection h1 with h1 _
     rw [← h1]
     rfl
    ·right
     have hr := run_append_grow_src (P := Tryz.prog) W 50 9 ty 5 i0 (.int .u8 0) under_bytes hi hz0 (some ⟨g, 0, none⟩) zs.length cap (zs.map (Value.int .u8)) (by
       refine run_firstCells_some W.drew i0.size zs.length ⟨g, 0, none⟩ zs.length cap _ (by rw [hz1]; simp) (fun j u' hu' => ?_)
       exact hw.cells (g := g) rfl j u' hu') (.string s) s.size (byteCells s) hsrc (by omega) (by omega) (growslice_fits (by omega) (by rw [hz2]; omega))
     rw [hr] at h1
     injection h1 with h1 _
     rw [← h1]
     rfl
theorem wpList_append_buf {W : World} {ops : Array Oper} {rest : List Oper} {o : Oper} {a : Act} {Q : Exit → Act → World → Prop} (hgd : o.guard = none) (s x : Operand) (tx : TypeId)
  (ho : o.op = .call { callee := .builtin .append, args := #[s, x], argTypes := #[50, tx] })
  (B : Nat) (v : Value) (zs : List Int) (hv : a.eval s = v) (hown : Fresh B 5 .u8 W v zs) (u : Value) (ys : List Int) (hx : a.eval x = u) (hs : BSrc W tx u ys) (hlen : zs.length + ys.length ≤ 1000000000) (hB : B ≤ W.heap.size)
  (h : ∀ b n c w', n = (zs ++ ys).length → Fresh B 5 .u8 w' (.slice b n c) (zs ++ ys) → W.grownBy w' v.ownBlock → (Value.ownBlock (.slice b n c) = v.ownBlock ∨ Value.ownBlock (.slice b n c) = some W.heap.size) →
   wpList Tryz.prog ops Q rest (a.put o.dst (.slice b n c)) w') : wpList Tryz.prog ops Q (o :: rest) a W := by
 refine wpList_plain hgd fun K hK => ?_
 obtain ⟨b, c, w', hr, h1, h2, h3⟩ := run_append_buf (ty := o.type) hown hs hlen hB
 unfold Oper.wp execOp
 simp only [ho, resolve, invoke, builtin, Sem.run_bind, Sem.run_pure, Result.andThen_ok, List.map_toArray, List.map_cons, List.map_nil, hv, hx, hr]
 exact hK _ _ (h b _ c w' rfl h1 h2 h3)
/-! ### The writer's state -/
structure WrIs (W : World) (r g : Nat) (zs : List Nat) (a : Option Addr) (cap : Nat) : Prop where
 laid : Laid W r 52 [.slice a zs.length cap]
 own : Fresh 0 5 .u8 W (.slice a zs.length cap) (natI zs)
 blk : ∀ j, Value.ownBlock (.slice a zs.length cap) = some j → j = g
 lt : g < W.heap.size
def Wr (W : World) (r g : Nat) (zs : List Nat) : Prop := ∃ a cap, WrIs W r g zs a cap
theorem WrIs.apart {W : World} {r g : Nat} {zs : List Nat} {a : Option Addr} {cap : Nat} (h : WrIs W r g zs a cap) : Value.ownBlock (.slice a zs.length cap) ≠ some r := by
 intro e
 rcases h.own.2 with ⟨e1, _⟩ | ⟨g', cap', cur, e1, _, hg, _⟩
 ·rw [e1] at e; cases e
 ·rw [e1] at e
  have e2 : g' = r := by simpa [Value.ownBlock] using e
  subst e2
  have h1 : W.heap[g']? = _ := h.laid
  rw [hg] at h1
  injection h1 with h1
  injection h1 with _ h2
  exact absurd h2 (by decide)
theorem WrIs.row {W : World} {r g : Nat} {zs : List Nat} {a : Option Addr} {cap : Nat} (h : WrIs W r g zs a cap) : Row .u8 W (.slice a zs.length cap) (natI zs) := row_of_fresh h.own
theorem wr_new (w : World) : Wr (w.alloc (.cells #[.slice none 0 0] 52)) w.heap.size w.heap.size [] :=
 ⟨none, 0, Laid.new w _ _, fresh_nil _ _ _ _, fun j h => (by cases h), by simp⟩
theorem wr_keeps {A : Foot} {W W2 : World} {r g : Nat} {zs : List Nat} (h : Wr W r g zs) (hk : Keeps A W W2) (hr : ¬ A r) (hg : ¬ A g) : Wr W2 r g zs := by
 obtain ⟨a, cap, h1, h2, h3, h4⟩ := h
 refine ⟨a, cap, h1.keeps hk hr, ⟨h2.1, ?_⟩, h3, Nat.lt_of_lt_of_le h4 hk.size⟩
 rcases h2.2 with hn | ⟨g', cap', cur, e1, hb, hg', hc⟩
 ·exact .inl hn
 ·refine .inr ⟨g', cap', cur, e1, hb, hk.obj hg' ?_, hc⟩
  rw [h3 g' (by rw [e1]; rfl)]
  exact hg
theorem wr_below {W W2 : World} {r g : Nat} {zs : List Nat} (h : Wr W r g zs) (hk : Below W.heap.size W W2) : Wr W2 r g zs := by
 obtain ⟨a, cap, hi⟩ := h
 exact wr_keeps ⟨a, cap, hi⟩ (Keeps.of_below hk) (by have := hi.laid.lt; omega) (by have := hi.lt; omega)
theorem wr_put {w W W2 : World} {r g : Nat} {zs ys : List Nat} {a : Option Addr} {cap : Nat} (h : WrIs w r g zs a cap) (hb : Below w.heap.size w W) {b : Option Addr} {c n : Nat}
  (hf : Fresh 0 5 .u8 W2 (.slice b n c) (natI ys)) (hn : n = ys.length) (hg : W.grownBy W2 (Value.ownBlock (.slice a zs.length cap))) {H : Nat}
  (hat : Value.ownBlock (.slice b n c) = Value.ownBlock (.slice a zs.length cap) ∨ Value.ownBlock (.slice b n c) = some H) (hH : H = W.heap.size) :
  ∃ g', Wr (W2.setCell ⟨r, 0, none⟩ (.slice b n c)) r g' ys ∧ (g' = g ∨ w.heap.size ≤ g') ∧ Keeps (fun k => k = r ∨ k = g) w (W2.setCell ⟨r, 0, none⟩ (.slice b n c)) := by
 subst hn hH
 have hr := h.laid.lt
 have hL : Laid W2 r 52 [.slice a zs.length cap] := (hg.block r (Nat.lt_of_lt_of_le hr hb.size) (fun e => h.apart e.symm)).trans ((hb.block r hr).trans h.laid)
 have hL2 := hL.set 0 (.slice b ys.length c)
 have hlt : ∀ j, Value.ownBlock (.slice b ys.length c) = some j → j < W2.heap.size ∧ j ≠ r := by
  intro j hj
  refine ⟨(hf.lt j hj).2, fun e => ?_⟩
  subst e
  rcases hf.2 with ⟨e1, _⟩ | ⟨g', cap', cur, e1, _, hg', _⟩
  ·rw [e1] at hj; cases hj
  ·rw [e1] at hj
   have e2 : g' = j := by simpa [Value.ownBlock] using hj
   subst e2
   have h1 : W2.heap[g']? = _ := hL
   rw [hg'] at h1
   injection h1 with h1
   injection h1 with _ h2
   exact absurd h2 (by decide)
 have hF : Fresh 0 5 .u8 (W2.setCell ⟨r, 0, none⟩ (.slice b ys.length c)) (.slice b ys.length c) (natI ys) := by
  refine ⟨hf.1, ?_⟩
  rcases hf.2 with hn | ⟨g', cap', cur, e1, hb', hg', hc⟩
  ·exact .inl hn
  ·exact .inr ⟨g', cap', cur, e1, hb', (keeps_set W2 r 0 _).obj hg' (hlt g' (by rw [e1]; rfl)).2, hc⟩
 have hK : Keeps (fun k => k = r ∨ k = g) w (W2.setCell ⟨r, 0, none⟩ (.slice b ys.length c)) := by
  refine Keeps.trans (b := W2) ?_ ((keeps_set W2 r 0 _).mono fun k _ hk => .inl hk)
  refine Keeps.trans (Keeps.of_below_size hb) (Keeps.of_grown hg fun k hk => .inr (h.blk k hk))
 have hsz : W.heap.size ≤ W2.heap.size := hg.size
 have hsz2 : (W2.setCell ⟨r, 0, none⟩ (.slice b ys.length c)).heap.size = W2.heap.size := by simp [World.setCell]
 rcases hat with he | he
 ·refine ⟨g, ⟨b, c, hL2, hF, fun j hj => h.blk j (he ▸ hj), ?_⟩, .inl rfl, hK⟩
  have := h.lt; have := hb.size; omega
 ·refine ⟨W.heap.size, ⟨b, c, hL2, hF, fun j hj => ?_, ?_⟩, .inr hb.size, hK⟩
  ·rw [he] at hj; injection hj with hj; exact hj.symm
  ·have := (hlt _ he).1; omega
def WrEnd (r g : Nat) (zs : List Nat) (w : World) (e : Ending) (w' : World) : Prop :=
 e = .returned (.tuple #[]) ∧ ∃ g', Wr w' r g' zs ∧ (g' = g ∨ w.heap.size ≤ g') ∧ Keeps (fun k => k = r ∨ k = g) w w'
theorem wr_then {r g g1 g2 : Nat} {w w1 w2 : World} (h1 : g1 = g ∨ w.heap.size ≤ g1) (k1 : Keeps (fun k => k = r ∨ k = g) w w1) (h2 : g2 = g1 ∨ w1.heap.size ≤ g2) (k2 : Keeps (fun k => k = r ∨ k = g1) w1 w2) :
  (g2 = g ∨ w.heap.size ≤ g2) ∧ Keeps (fun k => k = r ∨ k = g) w w2 := by
 refine ⟨by have := k1.size; omega, ⟨k2.os.trans k1.os, k2.tape.trans k1.tape, k2.output.trans k1.output, Nat.le_trans k1.size k2.size, fun i hi hn => ?_⟩⟩
 refine (k2.same i (Nat.lt_of_lt_of_le hi k1.size) (fun hb => ?_)).trans (k1.same i hi hn)
 rcases hb with hb | hb
 ·exact hn (.inl hb)
 ·rcases h1 with h1 | h1
  ·exact hn (.inr (by omega))
  ·omega
theorem lit_src {W : World} {H : Nat} {x : Int} (h : W.heap[H]? = some (.cells #[.int .u8 x] 5 (0, 0))) : BSrc W 50 (.slice (some ⟨H, 0, none⟩) 1 1) [x] := by
 refine .inl ⟨rfl, _, 1, rfl, Nat.le_refl _, by decide, fun _ => ⟨H, 0, rfl, fun j hj => ?_⟩, fun h => by cases h⟩
 have : j = 0 := by simpa using hj
 subst this
 rw [cell_at h]
 rfl
set_option maxRecDepth 100000 in
theorem or_fin : ∀ x : Fin 256, bits BinOp.or IntKind.u8 (x.val : Int) 128 = ((128 + x.val % 128 : Nat) : Int) := by decide
theorem or_more (m : Nat) : bits BinOp.or IntKind.u8 ((m : Int) % 256) 128 = ((128 + m % 128 : Nat) : Int) := by
 have := or_fin ⟨m % 256, Nat.mod_lt _ (by decide)⟩
 simp only at this
 rw [show m % 256 % 128 = m % 128 by omega] at this
 rw [← this, Int.natCast_emod]
 rfl
theorem wr_end {r g g1 g2 : Nat} {zs : List Nat} {w w1 w2 : World} (h1 : g1 = g ∨ w.heap.size ≤ g1) (k1 : Keeps (fun k => k = r ∨ k = g) w w1) (h : Wr w2 r g2 zs) (h2 : g2 = g1 ∨ w1.heap.size ≤ g2) (k2 : Keeps (fun k => k = r ∨ k = g1) w1 w2) :
  WrEnd r g zs w (.returned (.tuple #[])) w2 := by
 obtain ⟨a, b⟩ := wr_then h1 k1 h2 k2
 exact ⟨rfl, g2, h, a, b⟩
set_option maxRecDepth 100000 in
set_option maxHeartbeats 4000000 in
theorem devUint_any (r g : Nat) (zs : List Nat) (n : Nat) (w : World) (h : Wr w r g zs) (hn : n < 18446744073709551616) (hlen : zs.length ≤ 900000000) :
  Calls Tryz.prog 56 #[.pointer (some ⟨r, 0, none⟩), .int .u64 (n : Int)] w (WrEnd r g (zs ++ varN n) w) := by
 have HW := Lib.hid h
 clear h
 have H10 := Lib.hid (varN_len10 hn)
 go_enter Tryz.func56, Tryz.ntmps56
 go_wp2_with fail
 go_loopw [1] (fun nv wr => ∃ (m g' : Nat) (pre : List Nat), m ≤ n ∧ nv = .int .u64 (m : Int) ∧ Hid (varN n = pre ++ varN m) ∧ Hid (Wr wr r g' (zs ++ pre)) ∧ Hid (g' = g ∨ w.heap.size ≤ g') ∧ Hid (Keeps (fun k => k = r ∨ k = g) w wr)) (fun nv _ => (intOf nv).toNat)
 case atStart => exact ⟨n, g, [], Nat.le_refl _, rfl, Lib.hid rfl, Lib.hid (by rw [List.append_nil]; exact HW.out), Lib.hid (.inl rfl), Lib.hid (Keeps.refl _ _)⟩
 case round =>
  obtain ⟨m, g', pre, hm, rfl, HV, HWR, HG, HK⟩ := hrel
  clear HW
  have hpl : pre.length + 1 ≤ 10 := by have h1 := H10.out; rw [HV.out, List.length_append] at h1; have := varN_pos m; omega
  have hmm : m < 18446744073709551616 := by omega
  have hll : (zs ++ pre).length ≤ 900000010 := by rw [List.length_append]; omega
  obtain ⟨a, cap, hi⟩ := HWR.out
  have HL : Hid (∀ l, zs ++ (pre ++ l) = (zs ++ pre) ++ l) := Lib.hid (fun l => (List.append_assoc _ _ _).symm)
  clear HWR H10 hpl
  generalize zs ++ pre = L at *
  have HI := Lib.hid hi
  have hc0 := hi.laid.cell 0
  have hf0 := hi.laid.frozen 0
  simp only [List.getElem?_cons_zero] at hc0
  have hrlt := hi.laid.lt
  have HFR := Lib.hid hi.own
  have hA : ∀ o, (wr.alloc o).cell? ⟨r, 0, none⟩ = some (.slice a L.length cap) ∧ (wr.alloc o).frozen? ⟨r, 0, none⟩ = false := fun o => by
   have hb := (Below.refl wr.heap.size wr).alloc (Nat.le_refl _) o
   exact ⟨(hb.cell (p := ⟨r, 0, none⟩) hrlt).trans hc0, (hb.frozen (p := ⟨r, 0, none⟩) hrlt).trans hf0⟩
  have hD : ∀ o, (wr.alloc o).drew.cell? ⟨r, 0, none⟩ = some (.slice a L.length cap) ∧ (wr.alloc o).drew.frozen? ⟨r, 0, none⟩ = false := hA
  have HA := Lib.hid hA
  have HD := Lib.hid hD
  have HNE := Lib.hid (Ne.symm hi.apart)
  clear hA hD hi
  by_cases hlt : m < 128
  ·have HE : Hid (varN n = pre ++ [m]) := Lib.hid (by rw [HV.out, varN_small hlt])
   go_wp2_with (at_builtin; go_must (refine wpList_append_buf rfl _ _ 50 rfl 0 (.slice a L.length cap) (natI L) rfl (fresh_keeps HFR.out ((Below.refl _ wr).alloc (Nat.le_refl _) _)) _ [(m : Int)] rfl (lit_src (World.alloc_heap_new wr _)) (by rw [natI_length]; simp; omega) (Nat.zero_le _) ?_); intro b n2 c w3 hn2 hfr hgrow hat; obtain ⟨hs3, hs4⟩ := And.intro ((hgrow.cell_far ⟨r, 0, none⟩ (by simp; omega) HNE.out).trans (HA.out _).1) ((hgrow.frozen_far ⟨r, 0, none⟩ (by simp; omega) HNE.out).trans (HA.out _).2); have HP := Lib.hid (wr_put (ys := L ++ [m]) HI.out ((Below.refl _ wr).alloc (Nat.le_refl _) _) (by rw [natI_append]; exact hfr) (by rw [hn2]; simp [natI_length]) hgrow hat rfl); clear hfr hgrow hat hn2)
   go_end0
   obtain ⟨g2, hw2, hg2, hk2⟩ := HP.out
   rw [HE.out, HL.out]
   exact wr_end HG.out HK.out hw2 hg2 hk2
  ·have HE : Hid (varN n = (pre ++ [128 + m % 128]) ++ varN (m / 128)) := Lib.hid (by rw [HV.out, varN_big hlt, List.append_assoc]; rfl)
   have HB := Lib.hid (or_more m)
   go_wp2_with (at_builtin; go_must (refine wpList_append_buf rfl _ _ 50 rfl 0 (.slice a L.length cap) (natI L) rfl (fresh_keeps HFR.out ((Below.refl _ wr).alloc (Nat.le_refl _) _)) _ [bits BinOp.or IntKind.u8 ((m : Int) % 256) 128] rfl (lit_src (World.alloc_heap_new wr _)) (by rw [natI_length]; simp; omega) (Nat.zero_le _) ?_); intro b n2 c w3 hn2 hfr hgrow hat; obtain ⟨hs3, hs4⟩ := And.intro ((hgrow.cell_far ⟨r, 0, none⟩ (by simp; omega) HNE.out).trans (HA.out _).1) ((hgrow.frozen_far ⟨r, 0, none⟩ (by simp; omega) HNE.out).trans (HA.out _).2); have HP := Lib.hid (wr_put (ys := L ++ [128 + m % 128]) HI.out ((Below.refl _ wr).alloc (Nat.le_refl _) _) (by rw [HB.out] at hfr; rw [natI_append]; exact hfr) (by rw [hn2]; simp [natI_length]) hgrow hat rfl); clear hfr hgrow hat hn2)
   obtain ⟨g2, hw2, hg2, hk2⟩ := HP.out
   obtain ⟨hg3, hk3⟩ := wr_then HG.out HK.out hg2 hk2
   go_roundw
   case rel => exact ⟨m / 128, g2, pre ++ [128 + m % 128], by omega, by go_num, HE, Lib.hid (by rw [HL.out]; exact hw2), Lib.hid hg3, Lib.hid hk3⟩
   case measure => simp [intOf]; omega
set_option maxHeartbeats 1000000 in
theorem devText_any (r g : Nat) (zs : List Nat) (s : ByteArray) (w : World) (h : Wr w r g zs) (hlen : zs.length + s.size ≤ 900000000) :
  Calls Tryz.prog 19 #[.pointer (some ⟨r, 0, none⟩), .string s] w (WrEnd r g (zs ++ (varN s.size ++ strB s)) w) := by
 have H10 := Lib.hid (varN_len10 (n := s.size) (by omega))
 go_enter Tryz.func19, Tryz.ntmps19
 go_wp2_with fail
 refine (devUint_any r g zs s.size w h (by omega) (by omega)).mono ?_
 rintro e w1 ⟨rfl, g1, ⟨a, cap, hi⟩, hg1, hk1⟩
 have HL : Hid ((zs ++ varN s.size).length + s.size ≤ 900000010 ∧ zs ++ (varN s.size ++ strB s) = (zs ++ varN s.size) ++ strB s) := Lib.hid (by have := H10.out; rw [List.length_append]; exact ⟨by omega, (List.append_assoc _ _ _).symm⟩)
 have HG := Lib.hid hg1
 have HK := Lib.hid hk1
 have HSZ : Hid (s.size ≤ 900000000) := Lib.hid (by omega)
 clear h hg1 hk1 H10 hlen
 generalize zs ++ varN s.size = L at *
 have hll := HL.out.1
 have HI := Lib.hid hi
 have hc0 := hi.laid.cell 0
 have hf0 := hi.laid.frozen 0
 simp only [List.getElem?_cons_zero] at hc0
 have hrlt := hi.laid.lt
 have HFR := Lib.hid hi.own
 have HNE := Lib.hid (Ne.symm hi.apart)
 clear hi
 go_wp2_with (at_builtin; go_must (refine wpList_append_buf rfl _ _ 9 rfl 0 (.slice a L.length cap) (natI L) rfl HFR.out _ (natI (strB s)) rfl (.inr ⟨rfl, s, rfl, rfl⟩) (by have := HSZ.out; rw [natI_length, natI_length, strB_length]; omega) (Nat.zero_le _) ?_); intro b n2 c w3 hn2 hfr hgrow hat; obtain ⟨hs3, hs4⟩ := And.intro ((hgrow.cell_far ⟨r, 0, none⟩ hrlt HNE.out).trans hc0) ((hgrow.frozen_far ⟨r, 0, none⟩ hrlt HNE.out).trans hf0); have HP := Lib.hid (wr_put (ys := L ++ strB s) HI.out (Below.refl _ w1) (by rw [natI_append]; exact hfr) (by rw [hn2]; simp [natI_length]) hgrow hat rfl); clear hfr hgrow hat hn2)
 go_end0
 obtain ⟨g2, hw2, hg2, hk2⟩ := HP.out
 rw [HL.out.2]
 exact wr_end HG.out HK.out hw2 hg2 hk2
set_option maxHeartbeats 1000000 in
theorem clone_any (v : Value) (zs : List Int) (w : World) (hv : Row .u8 w v zs) (hlen : zs.length ≤ 990000000) :
  Calls Tryz.prog 59 #[v] w (Copies 5 .u8 zs w) := by
 obtain ⟨i0, hi, hz0, hz1, hz2⟩ := info_parts info_u8
 have HR := Lib.hid hv
 have q : ∀ (w : World) (a : Option Addr) (n c n' c' : Nat), (binOp .eql 50 (.slice a n c) (.slice none n' c')).run Tryz.prog w = .ok (.bool a.isNone) w := fun w a n c n' c' => Lib.run_eql_slice_nil w _ _ a n c n' c' under_bytes
 obtain ⟨p, cap, rfl, hcap, hcm, hne, hnil⟩ := hv
 rcases p with _ | p
 ·obtain ⟨rfl, rfl⟩ := hnil rfl
  clear hne hnil
  go_enter Tryz.func59, Tryz.ntmps59
  go_wp2_with fail
  go_ret
  exact copies_mk (fresh_nil _ _ _ _) (Below.refl _ _)
 ·clear hne hnil
  have HF := Lib.hid (fresh_lit w w.heap.size 5 .u8 [] (Nat.le_refl _) (by simp))
  have HR1 := Lib.hid (row_keeps HR.out ((Below.refl _ w).alloc (Nat.le_refl _) (.cells #[] 5)))
  have hsz : w.heap.size ≤ (w.alloc (.cells #[] 5)).heap.size := by simp
  go_enter Tryz.func59, Tryz.ntmps59
  go_wp2_with (at_builtin; go_must (refine wpList_append_fresh rfl _ _ 50 rfl w.heap.size 5 i0 .u8 1 Tryz.underlying50 hi hz0 hz1 hz2 (by decide) _ [] rfl HF.out _ zs rfl HR1.out (by simp; omega) hsz ?_); intro v2 w2 hfr hgrow; have hb2 : Below w.heap.size w w2 := below_grown ((Below.refl _ w).alloc (Nat.le_refl _) _) HF.out hgrow hsz; have HFR := Lib.hid hfr; clear hfr hgrow)
  go_ret
  exact copies_mk HFR.out hb2
set_option maxHeartbeats 1000000 in
theorem devDone_any (r g : Nat) (zs : List Nat) (w : World) (h : Wr w r g zs) (hlen : zs.length ≤ 990000000) :
  Calls Tryz.prog 22 #[.pointer (some ⟨r, 0, none⟩)] w (Copies 5 .u8 (natI zs) w) := by
 obtain ⟨a, cap, hi⟩ := h
 have hc0 := hi.laid.cell 0
 simp only [List.getElem?_cons_zero] at hc0
 have HR := Lib.hid hi.row
 clear hi
 go_enter Tryz.func22, Tryz.ntmps22
 go_wp2_with fail
 refine (clone_any _ (natI zs) w HR.out (by rw [natI_length]; exact hlen)).mono ?_
 rintro e w1 ⟨v, rfl, h1, h2⟩
 have H1 := Lib.hid h1
 clear h1
 go_wp2_with fail
 go_ret
 exact copies_mk H1.out h2
def Rw (W : World) (r b : Nat) (s : RS) : Prop :=
 ∃ v, Laid W r 91 [v, .int .i64 (s.2 : Int)] ∧ Row .u8 W v (natI s.1) ∧ (∀ j, blockOf v j → j = b ∧ b ≠ r) ∧ (∀ c ∈ s.1, c < 256) ∧ s.1.length ≤ 1000000 ∧ PlainS v
theorem rw_err {W : World} {r b : Nat} {s : RS} (h : Rw W r b s) (k : Nat) : Rw (W.setCell ⟨r, 1, none⟩ (.int .i64 (k : Int))) r b (s.1, k) := by
 obtain ⟨v, h1, h2, h3, h4, h5⟩ := h
 exact ⟨v, h1.set 1 _, row_foot h2 (keeps_set W r 1 _) (fun j hj e => (h3 j hj).2 ((h3 j hj).1.symm.trans e)), h3, h4, h5⟩
theorem rw_rest {W : World} {r b off cap m : Nat} {l : List Nat} {e : Nat} (hl : Laid W r 91 [.slice (some ⟨b, off, none⟩) l.length cap, .int .i64 (e : Int)])
  (hr : Row .u8 W (.slice (some ⟨b, off, none⟩) l.length cap) (natI l)) (hbr : b ≠ r) (h8 : ∀ c ∈ l, c < 256) (hlen : l.length ≤ 1000000) (hm : m ≤ l.length) {n2 c2 : Nat} (hn2 : n2 = l.length - m) (hc2 : c2 = cap - m) :
  Rw (W.setCell ⟨r, 0, none⟩ (.slice (some ⟨b, off + m, none⟩) n2 c2)) r b (l.drop m, e) := by
 subst hn2 hc2
 refine ⟨_, hl.set 0 _, row_foot (A := fun k => k = r) ?_ (keeps_set W r 0 _) (fun j hj e => hbr (by have : j = b := hj; omega)), fun j hj => ⟨hj, hbr⟩, fun c hc => h8 c (List.mem_of_mem_drop hc), by simp; omega, .inr ⟨_, _, _, _, rfl⟩⟩
 obtain ⟨a, cap', e1, h2, h3, h4, h5⟩ := hr
 rw [natI_length] at e1 h2
 injection e1 with e1 e2 e3
 subst e3
 have hdl : (natI (l.drop m)).length = l.length - m := by rw [natI_length, List.length_drop]
 refine ⟨_, cap - m, by rw [hdl], by rw [hdl]; omega, by omega, fun hne => ⟨b, off + m, rfl, fun j hj => ?_⟩, fun h => by cases h⟩
 rw [hdl] at hj
 obtain ⟨b', off', e4, hc⟩ := h4 (fun h => by have := congrArg List.length h; rw [natI_length, List.length_nil] at this; omega)
 rw [← e1] at e4
 cases e4
 have := hc (m + j) (by rw [natI_length]; omega)
 show W.cell? ⟨b, off + m + j, none⟩ = some (.int .u8 ((natI (l.drop m))[j]?.getD 0))
 rw [natI_getD] at this ⊢
 rw [List.getElem?_drop, Nat.add_assoc]
 exact this
def RwEnd (r b : Nat) (x : Value) (s : RS) (w : World) (e : Ending) (w' : World) : Prop := e = .returned x ∧ Rw w' r b s ∧ Keeps (fun k => k = r) w w'
theorem Rw.bytes {W : World} {r b : Nat} {s : RS} (h : Rw W r b s) : ∀ c ∈ s.1, c < 256 := by
 obtain ⟨_, _, _, _, h8, _, _⟩ := h; exact h8
theorem Rw.short {W : World} {r b : Nat} {s : RS} (h : Rw W r b s) : s.1.length ≤ 1000000 := by
 obtain ⟨_, _, _, _, _, h, _⟩ := h; exact h
theorem Rw.cells {W : World} {r b : Nat} {s : RS} (h : Rw W r b s) : ∃ (a : Option Addr) (cap : Nat),
  W.cell? ⟨r, 0, none⟩ = some (.slice a s.1.length cap) ∧ W.cell? ⟨r, 1, none⟩ = some (.int .i64 (s.2 : Int)) ∧ W.frozen? ⟨r, 0, none⟩ = false ∧ W.frozen? ⟨r, 1, none⟩ = false ∧ s.1.length ≤ cap ∧ cap ≤ 9223372036854775807 ∧
  Laid W r 91 [.slice a s.1.length cap, .int .i64 (s.2 : Int)] ∧ Row .u8 W (.slice a s.1.length cap) (natI s.1) ∧ (s.1 ≠ [] → ∃ off, a = some ⟨b, off, none⟩) ∧ (∀ j, blockOf (.slice a s.1.length cap) j → j = b ∧ b ≠ r) ∧ (a = none ∨ ∃ off, a = some ⟨b, off, none⟩) := by
 obtain ⟨v, hl, hrow, hnb, h8, hlen, hp⟩ := h
 have hrow' := hrow
 obtain ⟨a, cap, rfl, h2, h3, h4, h5⟩ := hrow
 rw [natI_length] at *
 refine ⟨a, cap, hl.cell 0, hl.cell 1, hl.frozen 0, hl.frozen 1, h2, h3, hl, hrow', fun hne => ?_, hnb, ?_⟩
 rotate_left
 ·rcases hp with hp | ⟨b', off, len, cap', hp⟩
  ·injection hp with hp; exact .inl hp
  ·injection hp with hp; subst hp; obtain rfl : b' = b := (hnb _ rfl).1; exact .inr ⟨off, rfl⟩
 obtain ⟨b', off, rfl, _⟩ := h4 (fun h => hne (by cases hs : s.1 with | nil => rfl | cons _ _ => rw [hs] at h; simp [natI] at h))
 obtain rfl : b' = b := (hnb _ rfl).1
 exact ⟨off, rfl⟩
theorem rw_skip {W : World} {r b off cap m : Nat} {s : RS} (HL : Laid W r 91 [.slice (some ⟨b, off, none⟩) s.1.length cap, .int .i64 (s.2 : Int)])
  (HROW : Row .u8 W (.slice (some ⟨b, off, none⟩) s.1.length cap) (natI s.1)) (hbr : b ≠ r) (h8 : ∀ c ∈ s.1, c < 256) (hlen : s.1.length ≤ 1000000) (hm : m ≤ s.1.length)
  {off2 n2 c2 : Nat} (hn2 : n2 = s.1.length - m) (hoc : (c2 = cap - m ∧ off2 = off + m) ∨ (cap = m ∧ c2 = 0 ∧ off2 = off)) :
  Rw (W.setCell ⟨r, 0, none⟩ (.slice (some ⟨b, off2, none⟩) n2 c2)) r b (s.1.drop m, s.2) := by
 rcases hoc with ⟨h1, rfl⟩ | ⟨h1, rfl, rfl⟩
 ·exact rw_rest HL HROW hbr h8 hlen hm hn2 h1
 ·have hcl : s.1.length ≤ cap := by
   obtain ⟨a, cap', e1, h2, _⟩ := HROW
   rw [natI_length] at e1 h2
   injection e1 with _ _ e3
   omega
  have hnil : s.1.drop m = [] := List.drop_of_length_le (by omega)
  refine ⟨_, HL.set 0 _, ?_, fun j hj => ⟨hj, hbr⟩, fun c hc => h8 c (List.mem_of_mem_drop hc), by simp; omega, .inr ⟨_, _, _, _, rfl⟩⟩
  show Row .u8 _ _ (natI (s.1.drop m))
  rw [hnil]
  have : n2 = 0 := by omega
  subst this
  exact ⟨_, 0, rfl, Nat.le_refl _, by decide, fun h => (h rfl).elim, fun h => by cases h⟩
theorem rw_keeps {A : Foot} {W W2 : World} {r b : Nat} {s : RS} (h : Rw W r b s) (hk : Keeps A W W2) (hr : ¬ A r) (hb : ¬ A b) : Rw W2 r b s := by
 obtain ⟨v, h1, h2, h3, h4, h5, h6⟩ := h
 exact ⟨v, h1.keeps hk hr, row_foot h2 hk (fun j hj => by rw [(h3 j hj).1]; exact hb), h3, h4, h5, h6⟩
theorem Rw.lts {W : World} {r b : Nat} {s : RS} (h : Rw W r b s) : r < W.heap.size := by
 obtain ⟨v, h1, _⟩ := h; exact h1.lt
def rNext (s : RS) : Nat × RS :=
 if s.2 ≠ 0 then (0, s) else match s.1 with
 | [] => (0, ([], 3))
 | c :: l => (c, (l, 0))
set_option maxHeartbeats 2000000 in
theorem devNext_any (r b : Nat) (s : RS) (w : World) (h : Rw w r b s) :
  Calls Tryz.prog 64 #[.pointer (some ⟨r, 0, none⟩)] w (RwEnd r b (.int .u8 ((rNext s).1 : Nat)) (rNext s).2 w) := by
 have HRD := Lib.hid h
 have h8 := h.bytes
 have hsh := h.short
 obtain ⟨a, cap, hc0, hc1, hf0, hf1, hcap, hcm, hl, hrow, hne, hnb, _⟩ := h.cells
 clear h
 obtain ⟨l, e⟩ := s
 simp only at *
 by_cases he : e = 0
 ·subst he
  cases l with
  | nil =>
   clear hl hrow hne h8
   have HN := Lib.hid hnb
   clear hnb
   go_enter Tryz.func64, Tryz.ntmps64
   go_wp2_with fail
   go_ret
   exact ⟨rfl, rw_err HRD.out 3, keeps_set w r 1 _⟩
  | cons c l =>
   obtain ⟨off, rfl⟩ := hne (by simp)
   have hbr := (hnb b rfl).2
   have hck : w.cell? ⟨b, off, none⟩ = some (.int .u8 (c : Int)) := by
    obtain ⟨a, cap', e1, _, _, h4, _⟩ := hrow
    obtain ⟨b', off', e4, hc⟩ := h4 (by simp [natI])
    injection e1 with e1
    rw [← e1] at e4
    cases e4
    exact hc 0 (by simp [natI])
   have hc256 : c < 256 := h8 c (by simp)
   have HL := Lib.hid hl
   have HROW := Lib.hid hrow
   have H8 := Lib.hid h8
   clear hl hrow h8 hne hnb
   have hlp : (c :: l).length = l.length + 1 := rfl
   go_enter Tryz.func64, Tryz.ntmps64
   go_wp2_with fail
   all_goals
    go_ret
    exact ⟨rfl, rw_skip (s := (c :: l, 0)) (m := 1) HL.out HROW.out hbr H8.out hsh (by simp) (by simp) (by first | exact .inl ⟨rfl, rfl⟩ | (right; omega)), keeps_set w r 0 _⟩
 ·have b1 : ((e : Int) == 0) = false := by simp; omega
  have b2 : ((e : Int) != 0) = true := by simp; omega
  have HE : Hid (rNext (l, e) = (0, (l, e))) := Lib.hid (by unfold rNext; rw [if_pos he])
  clear he hl hrow hne hnb h8
  go_enter Tryz.func64, Tryz.ntmps64
  go_wp2_with fail
  go_ret
  rw [HE.out]
  exact ⟨rfl, HRD.out, Keeps.refl _ _⟩
end Go.Proofs.YtepakogbbomaoaaGreatDoor
