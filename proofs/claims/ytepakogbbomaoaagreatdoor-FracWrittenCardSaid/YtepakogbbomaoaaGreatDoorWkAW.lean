/-
 The walks of package hash's small functions: mixing, a group of bytes as a number. The library's slices.Chunk at []byte: its iterator gives the groups of a slice, one after the other. hash.wordsOf: its iterator gives the words of a byte slice, one after the other. hash.Sum: the sum of a label and words. hash.Pair; the laws' check that the documented examples hold. hash.Bytes: the sum of a label, the words of a byte slice, and its length. The laws' check of the documented examples; the sum is injective in one word, in one group, in one label. The walks of the reference's small functions: a string cut short, copies of integers and bytes, a number around a size, slices compared. A slice of integers that came in, as the walks are told of it. The reference's copy of bytes; the comparison of slices. The reference's words, sums and pairs. The reference's sums, hashes of bytes, and pairs. The reference's pairs and hashes of bytes.
-/
import Derived.Test.YtepakogbbomaoaaGreatDoorRows
import Derived.Test.YtepakogbbomaoaaGreatDoorPlainW
import Derived.Test.YtepakogbbomaoaaGreatDoorFootW
import Derived.WalkKit
import Derived.WalkSpells
import Derived.WalkLawsBesides
import Derived.Deep.DeepFit
import Derived.Lib.Hide
import Derived.Shelf.Abstract
import Derived.Shelf.RegionOpen
import Derived.OwnWalkIn
import Derived.TacticsInMore
import Derived.LoopNIn
import Derived.LoopIn
import Derived.Lib.ConvBytes
import Derived.Maps.AppendAt
import Derived.Laws.AppendOwnNone
import Derived.Deep.QuietTactic
import Derived.BigQuiet
import Derived.WalkSmall
namespace Go.Proofs.YtepakogbbomaoaaGreatDoor
open Go.RowKit Go.Shelf
set_option linter.unusedVariables false
set_option maxRecDepth 100000
open Go.RowKit
theorem ret_int {k : IntKind} {a b : Int} (h : a = b) : Ending.returned (.int k a) = .returned (.int k b) := by rw [h]
set_option maxHeartbeats 400000 in
theorem mix_any (a b : Nat) (w : World) (ha : a < T64) (hb : b < T64) :
  Calls Tryz.prog 97 #[.int .u64 a, .int .u64 b] w fun e w' => e = .returned (.int .u64 (mixN a b)) ∧ w = w' := by
 have H := Lib.hid (mix_form a b ha hb)
 clear ha hb
 go_enter Tryz.func97, Tryz.ntmps97
 go_wp2
 go_ret
 exact ⟨ret_int H.out, rfl⟩
set_option maxHeartbeats 400000 in
theorem le_any (b off cap : Nat) (l : List Nat) (w : World) (h8 : l.length ≤ 8) (hl : ∀ c ∈ l, c < 256) (hcap : l.length ≤ cap)
  (hc : ∀ j, j < l.length → w.cell? ⟨b, off + j, none⟩ = some (.int .u8 ((l[j]?.getD 0 : Nat) : Int))) :
  Calls Tryz.prog 96 #[.slice (some ⟨b, off, none⟩) l.length cap] w fun e w' => e = .returned (.int .u64 (leN l)) ∧ w = w' := by
 go_enter Tryz.func96, Tryz.ntmps96
 go_wp2
 go_loop [3, 8] (fun t i => ∃ k : Nat, k ≤ l.length ∧ i = .int .i64 k ∧ t = .int .u64 (leN (l.take k) : Nat)) (fun _ i => l.length - (intOf i).toNat)
 case atStart => exact ⟨0, Nat.zero_le _, rfl, rfl⟩
 case round =>
  obtain ⟨k, hk, rfl, rfl⟩ := hrel
  by_cases hlt : k < l.length
  ·have hcell := hc k hlt
   have H := Lib.hid (le_step l h8 hl hlt)
   go_wp2
   go_round
   case rel => exact ⟨k + 1, by omega, by go_num, by rw [H.out]⟩
   case measure => simp [intOf]; omega
  ·go_wp2
   go_ret
   exact ⟨ret_int (by rw [List.take_of_length_le (by omega)]), rfl⟩
attribute [local go_sem] Oper.semAt_some
theorem range_prefix {k n : Nat} (h : k ≤ n) : List.range k <+: List.range n := by
 obtain ⟨m, rfl⟩ := Nat.exists_eq_add_of_le h
 exact ⟨_, (List.range_add (n := k) (m := m)).symm⟩
set_option maxHeartbeats 400000 in
theorem chunk_any (a : Option Addr) (len cap : Nat) (w : World) :
  Calls Tryz.prog 91 #[.slice a len cap, .int .i64 8] w fun e w' =>
   e = .returned (.func (.func 122) #[] #[.pointer (some ⟨w.heap.size, 0, none⟩), .pointer (some ⟨w.heap.size + 1, 0, none⟩)]) ∧
   w' = (w.alloc (.cells #[.slice a len cap] 50)).alloc (.cells #[.int .i64 8] 3) := by
 go_enter Tryz.func91, Tryz.ntmps91
 go_wp2
 go_ret
 exact ⟨rfl, rfl⟩
def chunkV (b off len k : Nat) : Array Value := #[.slice (some ⟨b, off + 8 * k, none⟩) (min 8 (len - 8 * k)) (min 8 (len - 8 * k))]
set_option maxRecDepth 100000 in
set_option maxHeartbeats 2000000 in
theorem chunk_gives (b off len cap Bs Bn : Nat) (w : World) (hlen : len ≤ cap) (hcap : len ≤ 4611686018427387904)
  (hs : w.cell? ⟨Bs, 0, none⟩ = some (.slice (some ⟨b, off, none⟩) len cap)) (hn : w.cell? ⟨Bn, 0, none⟩ = some (.int .i64 8)) :
  Gives Tryz.prog 122 #[.pointer (some ⟨Bs, 0, none⟩), .pointer (some ⟨Bn, 0, none⟩)] (chunkV b off len) (fun k => k = Bs ∨ k = Bn) (List.range ((len + 7) / 8)) w := by
 intro l J Jx A W hQ hJ hJx hY h0
 have hQs := hQ Bs (.inl rfl)
 have hQn := hQ Bn (.inr rfl)
 refine callsIn_of_wp Tryz.func122 rfl trivial ?_ rfl
 simp only [Tryz.ntmps122, List.size_toArray, List.length_cons, List.length_nil, Nat.reduceAdd, Nat.reduceSub, Array.replicate_succ, Array.replicate_zero, List.push_toArray, List.append_toArray, List.nil_append, List.cons_append]
 gi_wp2
 gi_loopw [4] (fun i wr => ∃ (k : Nat) (A1 : Foot), k ≤ (len + 7) / 8 ∧ i = .int .i64 ((8 * k : Nat) : Int) ∧ J (List.range k) A1 wr ∧ ¬ A1 Bs ∧ ¬ A1 Bn ∧
   wr.cell? ⟨Bs, 0, none⟩ = some (.slice (some ⟨b, off, none⟩) len cap) ∧ wr.cell? ⟨Bn, 0, none⟩ = some (.int .i64 8) ∧ W.heap.size ≤ wr.heap.size)
  (fun i _ => len + 8 - (intOf i).toNat)
 case atStart =>
  exact ⟨0, A, Nat.zero_le _, rfl, h0, hQs.2.1, hQn.2.1, (World.cell?_of_block hQs.1).trans hs, (World.cell?_of_block hQn.1).trans hn, Nat.le_refl _⟩
 case round =>
  obtain ⟨k, A1, hk, rfl, hJ1, ns, nn, cs, cn, hsz⟩ := hrel
  clear hs hn hQ hQs hQn
  by_cases hlt : 8 * k < len
  ·have hpk : List.range k ++ [k] <+: List.range ((len + 7) / 8) := by rw [← List.range_succ]; exact range_prefix (by omega)
   have hJd : J (List.range k) A1 wr.drew := hJ.abide _ _ _ _ hJ1 (Keeps.refl _ _).drew
   have hyy := hY (List.range k) k A1 wr.drew hpk hJd
   by_cases h8 : len - 8 * k < 8
   ·have hv : chunkV b off len k = #[.slice (some ⟨b, off + 8 * k, none⟩) (len - 8 * k) (len - 8 * k)] := by
     unfold chunkV; rw [Nat.min_eq_right (by omega)]
    rw [hv] at hyy
    obtain ⟨fn, tmps, assign, body, hy, hR⟩ := hyy
    clear hv
    gi_wp2
    gi_region
    gi_wp2
    refine ⟨rfl, hR.mono ?_⟩
    clear hy hR
    rintro e W2 ⟨A2, hr, (⟨rfl, hJ2⟩ | ⟨rfl, hJ2⟩)⟩
    ·have ds : wr.drew.cell? ⟨Bs, 0, none⟩ = some (.slice (some ⟨b, off, none⟩) len cap) := cs
     have dn : wr.drew.cell? ⟨Bn, 0, none⟩ = some (.int .i64 8) := cn
     have cs2 := hr.keeps.cell ds ns
     have cn2 := hr.keeps.cell dn nn
     have ns2 := hr.not ns (World.block_lt_of_cell? _ _ ds)
     have nn2 := hr.not nn (World.block_lt_of_cell? _ _ dn)
     have hsz2 : W.heap.size ≤ W2.heap.size := Nat.le_trans hsz hr.keeps.size
     have hJ3 : J (List.range (k + 1)) A2 W2 := by rw [List.range_succ]; exact hJ2
     clear hr ds dn hJ2
     gi_wp2
     go_roundw
     case rel => exact ⟨k + 1, A2, by omega, by go_num, hJ3, ns2, nn2, cs2, cn2, hsz2⟩
     case measure => simp [intOf]; omega
    ·gi_wp2
     refine bodyPost_ret (results_none rfl _ _ _) rfl ?_
     exact ⟨⟨_, rfl⟩, A2, .inr ⟨_, hpk, hJ2⟩⟩
   ·have hv : chunkV b off len k = #[.slice (some ⟨b, off + 8 * k, none⟩) 8 8] := by
     unfold chunkV; rw [Nat.min_eq_left (by omega)]
    rw [hv] at hyy
    obtain ⟨fn, tmps, assign, body, hy, hR⟩ := hyy
    clear hv
    gi_wp2
    gi_region
    gi_wp2
    refine ⟨rfl, hR.mono ?_⟩
    clear hy hR
    rintro e W2 ⟨A2, hr, (⟨rfl, hJ2⟩ | ⟨rfl, hJ2⟩)⟩
    ·have ds : wr.drew.cell? ⟨Bs, 0, none⟩ = some (.slice (some ⟨b, off, none⟩) len cap) := cs
     have dn : wr.drew.cell? ⟨Bn, 0, none⟩ = some (.int .i64 8) := cn
     have cs2 := hr.keeps.cell ds ns
     have cn2 := hr.keeps.cell dn nn
     have ns2 := hr.not ns (World.block_lt_of_cell? _ _ ds)
     have nn2 := hr.not nn (World.block_lt_of_cell? _ _ dn)
     have hsz2 : W.heap.size ≤ W2.heap.size := Nat.le_trans hsz hr.keeps.size
     have hJ3 : J (List.range (k + 1)) A2 W2 := by rw [List.range_succ]; exact hJ2
     clear hr ds dn hJ2
     gi_wp2
     go_roundw
     case rel => exact ⟨k + 1, A2, by omega, by go_num, hJ3, ns2, nn2, cs2, cn2, hsz2⟩
     case measure => simp [intOf]; omega
    ·gi_wp2
     refine bodyPost_ret (results_none rfl _ _ _) rfl ?_
     exact ⟨⟨_, rfl⟩, A2, .inr ⟨_, hpk, hJ2⟩⟩
  ·obtain rfl : k = (len + 7) / 8 := by omega
   gi_wp2
   go_end0
   exact ⟨⟨_, rfl⟩, A1, .inl hJ1⟩
attribute [local go_sem] Oper.semAt_some
theorem Inv.later {β : Type} {B C : Nat} {J : β → Foot → World → Prop} (h : Inv B J) (hBC : B ≤ C) : Inv C J :=
 ⟨fun s A W W2 hs hk => h.abide s A W W2 hs (hk.mono fun k _ ⟨h1, h2⟩ => ⟨by omega, h2⟩), h.bound⟩
def Bytes (w : World) (v : Value) (l : List Nat) : Prop :=
 (∀ c ∈ l, c < 256) ∧ ∃ a cap, v = .slice a l.length cap ∧ l.length ≤ cap ∧ l.length ≤ 4611686018427387904 ∧
  (l ≠ [] → ∃ b off, a = some ⟨b, off, none⟩ ∧ ∀ j, j < l.length → w.cell? ⟨b, off + j, none⟩ = some (.int .u8 ((l[j]?.getD 0 : Nat) : Int)))
def blockOf : Value → Foot
 | .slice (some a) _ _ => fun k => k = a.block
 | _ => fun _ => False
theorem wordsOf_any (a : Option Addr) (len cap : Nat) (w : World) :
  Calls Tryz.prog 65 #[.slice a len cap] w fun e w' =>
   e = .returned (.func (.func 95) #[] #[.pointer (some ⟨w.heap.size, 0, none⟩)]) ∧ w' = w.alloc (.cells #[.slice a len cap] 50) := by
 go_enter Tryz.func65, Tryz.ntmps65
 go_wp2
 go_ret
 exact ⟨rfl, rfl⟩
set_option maxRecDepth 100000 in
set_option maxHeartbeats 1000000 in
theorem chunk_none {α : Type} (encs : α → Array Value) (a : Option Addr) (cap Bs Bn : Nat) (w : World)
  (hs : w.cell? ⟨Bs, 0, none⟩ = some (.slice a 0 cap)) (hn : w.cell? ⟨Bn, 0, none⟩ = some (.int .i64 8)) :
  Gives Tryz.prog 122 #[.pointer (some ⟨Bs, 0, none⟩), .pointer (some ⟨Bn, 0, none⟩)] encs (fun k => k = Bs ∨ k = Bn) [] w := by
 intro l J Jx A W hQ hJ hJx hY h0
 have cs := (World.cell?_of_block (hQ Bs (.inl rfl)).1).trans hs
 clear hQ hs hn hY
 refine callsIn_of_wp Tryz.func122 rfl trivial ?_ rfl
 simp only [Tryz.ntmps122, List.size_toArray, List.length_cons, List.length_nil, Nat.reduceAdd, Nat.reduceSub, Array.replicate_succ, Array.replicate_zero, List.push_toArray, List.append_toArray, List.nil_append, List.cons_append]
 gi_wp2
 gi_loopw [4] (fun i wr => i = .int .i64 0 ∧ wr = W) (fun _ _ => 0)
 case atStart => exact ⟨rfl, rfl⟩
 case round =>
  obtain ⟨rfl, rfl⟩ := hrel
  gi_wp2
  go_end0
  exact ⟨⟨_, rfl⟩, A, .inl h0⟩
theorem grp_get (l : List Nat) (k j : Nat) (hj : j < (grp l k).length) : (grp l k)[j]?.getD 0 = l[8 * k + j]?.getD 0 := by
 unfold grp at *
 rw [List.getElem?_take_of_lt (by simp at hj; omega), List.getElem?_drop]
theorem grp_length (l : List Nat) (k : Nat) : (grp l k).length = min 8 (l.length - 8 * k) := by simp [grp]
theorem map_prefix {α β : Type} (f : α → β) {a b : List α} (h : a <+: b) : a.map f <+: b.map f := by
 obtain ⟨t, rfl⟩ := h
 exact ⟨t.map f, by simp⟩
set_option maxRecDepth 100000 in
set_option maxHeartbeats 2000000 in
theorem words_gives (Bb : Nat) (sv : Value) (l : List Nat) (w : World) (hb : w.cell? ⟨Bb, 0, none⟩ = some sv) (hl : Bytes w sv l) :
  Gives Tryz.prog 95 #[.pointer (some ⟨Bb, 0, none⟩)] (fun x : Nat => #[.int .u64 (x : Int)]) (fun k => k = Bb ∨ blockOf sv k) (wordsN l) w := by
 intro lo J Jx A W hQ hJ hJx hY h0
 obtain ⟨hl8, a, cap, rfl, hcap, hcm, hne⟩ := hl
 have hQb := hQ Bb (.inl rfl)
 have cb := (World.cell?_of_block hQb.1).trans hb
 refine callsIn_of_wp_marks Tryz.func95 rfl trivial ?_ rfl
 simp only [Tryz.ntmps95, List.size_toArray, List.length_cons, List.length_nil, Nat.reduceAdd, Nat.reduceSub, Array.replicate_succ, Array.replicate_zero, List.push_toArray, List.append_toArray, List.nil_append, List.cons_append]
 have cb2 : ∀ o, (W.alloc o).cell? ⟨Bb, 0, none⟩ = some (.slice a l.length cap) := fun o => (World.cell?_of_block (Below.heap_alloc W o _ hQb.2.2)).trans cb
 gi_wp2_with fail
 refine ⟨trivial, rfl, (callsIn_wide.2 (chunk_any a l.length cap _)).mono ?_⟩
 rintro e w' ⟨rfl, rfl⟩
 gi_wp2_with fail
 -- the world in which the loop begins
 obtain ⟨W3, hW3⟩ : ∃ W3, ((W.alloc (Obj.cells #[Value.func (Fn.yield lo) #[] #[]] 134)).alloc (.cells #[.slice a l.length cap] 50)).alloc (.cells #[.int .i64 8] 3) = W3 := ⟨_, rfl⟩
 have k3 : ∀ B : Foot, Keeps B W W3 := fun B => by rw [← hW3]; exact (((Keeps.refl B W).alloc _).alloc _).alloc _
 have z3 : W3.heap.size = W.heap.size + 3 := by rw [← hW3]; simp
 simp only [Nat.add_assoc, Nat.reduceAdd]
 rw [hW3]
 have y3 : W3.heap[W.heap.size]? = some (.cells #[.func (.yield lo) #[] #[]] 134 (0, 0)) := by
  rw [← hW3, Below.heap_alloc _ _ _ (by simp; omega), Below.heap_alloc _ _ _ (by simp)]
  exact World.alloc_heap_new W _
 have s3 : W3.cell? ⟨W.heap.size + 1, 0, none⟩ = some (.slice a l.length cap) := by
  rw [← hW3, World.cell?_of_block (w := (W.alloc _).alloc _) (Below.heap_alloc _ _ _ (by simp))]
  have := (Boxed.new (W.alloc (Obj.cells #[Value.func (Fn.yield lo) #[] #[]] 134)) 50 (.slice a l.length cap)).cell
  rwa [World.size_alloc] at this
 have n3 : W3.cell? ⟨W.heap.size + 2, 0, none⟩ = some (.int .i64 8) := by
  rw [← hW3]
  have := (Boxed.new ((W.alloc (Obj.cells #[Value.func (Fn.yield lo) #[] #[]] 134)).alloc (.cells #[.slice a l.length cap] 50)) 3 (.int .i64 8)).cell
  rwa [World.size_alloc, World.size_alloc] at this
 have hnA : ∀ k, W.heap.size ≤ k → ¬ A k := fun k hk ha => by have := hJ.bound _ _ _ h0 k ha; omega
 -- the groups, and where they lie
 obtain ⟨b, off, hg, hcells⟩ : ∃ b off, Gives Tryz.prog 122 #[.pointer (some ⟨W.heap.size + 1, 0, none⟩), .pointer (some ⟨W.heap.size + 2, 0, none⟩)] (chunkV b off l.length) (fun k => k = W.heap.size + 1 ∨ k = W.heap.size + 2) (List.range ((l.length + 7) / 8)) W3 ∧
   (l ≠ [] → ¬ A b ∧ b < W.heap.size ∧ ∀ j, j < l.length → W3.cell? ⟨b, off + j, none⟩ = some (.int .u8 ((l[j]?.getD 0 : Nat) : Int))) := by
  by_cases hl0 : l = []
  ·subst hl0
   exact ⟨0, 0, chunk_none _ a cap _ _ W3 s3 n3, fun h => (h rfl).elim⟩
  ·obtain ⟨b, off, rfl, hcs⟩ := hne hl0
   have hQd := hQ b (.inr rfl)
   refine ⟨b, off, chunk_gives b off l.length cap _ _ W3 hcap hcm s3 n3, fun _ => ⟨hQd.2.1, hQd.2.2, fun j hj => ?_⟩⟩
   exact (k3 (fun _ => False)).cell ((World.cell?_of_block hQd.1).trans (hcs j hj)) (fun h => h)
 clear hne hQ hQb hb cb cb2 s3 n3
 refine wp_range (gf := 122) (lb := #[.pointer (some ⟨W.heap.size + 1, 0, none⟩), .pointer (some ⟨W.heap.size + 2, 0, none⟩)]) rfl (enters_of Tryz.func122 (by kernel_rfl) rfl) hg A
  (fun k hk => ⟨rfl, hnA k (by rcases hk with rfl | rfl <;> omega), by rcases hk with rfl | rfl <;> omega⟩) (fun _ => rfl)
  (fun pre A1 W1 => J (pre.map fun k => leN (grp l k)) A1 W1 ∧ ¬ A1 W.heap.size ∧ W1.heap[W.heap.size]? = some (.cells #[.func (.yield lo) #[] #[]] 134 (0, 0)) ∧
   (l ≠ [] → ¬ A1 b ∧ b < W.heap.size ∧ ∀ j, j < l.length → W1.cell? ⟨b, off + j, none⟩ = some (.int .u8 ((l[j]?.getD 0 : Nat) : Int))))
  (fun c pre A1 W1 => c = .ret ∧ Jx (pre.map fun k => leN (grp l k)) A1 W1) ?inv ?invx ⟨hJ.abide _ _ _ _ h0 (k3 _), hnA _ (Nat.le_refl _), y3, hcells⟩
  (fun pre x a1 A1 W1 => (J (pre.map fun k => leN (grp l k)) A1 W1 ∧ ¬ A1 W.heap.size ∧ W1.heap[W.heap.size]? = some (.cells #[.func (.yield lo) #[] #[]] 134 (0, 0)) ∧
   (l ≠ [] → ¬ A1 b ∧ b < W.heap.size ∧ ∀ j, j < l.length → W1.cell? ⟨b, off + j, none⟩ = some (.int .u8 ((l[j]?.getD 0 : Nat) : Int)))) ∧
   a1 = { tmps := #[.func (.yield lo) #[] #[], .pointer (some ⟨Bb, 0, none⟩), .pointer (some ⟨W.heap.size, 0, none⟩), .slice (some ⟨b, off + 8 * x, none⟩) (grp l x).length (grp l x).length, .slice a l.length cap,
    .func (.func 122) #[] #[.pointer (some ⟨W.heap.size + 1, 0, none⟩), .pointer (some ⟨W.heap.size + 2, 0, none⟩)], .slice (some ⟨b, off + 8 * x, none⟩) (grp l x).length (grp l x).length, undef, undef, undef, undef, undef], defers := [] })
  ?invA ?assign ?body ?done ?stop
 case inv =>
  refine ⟨?_, fun s A1 W1 h => hJ.bound _ _ _ h.1⟩
  rintro s A1 W1 W2 ⟨h1, h2, h3, h4⟩ hk
  exact ⟨(hJ.later (by omega)).abide _ _ _ _ h1 hk, h2, hk.obj h3 (by simp; omega), fun hl0 => ⟨(h4 hl0).1, (h4 hl0).2.1, fun j hj => hk.cell ((h4 hl0).2.2 j hj) (by have := (h4 hl0).2.1; simp; omega)⟩⟩
 case invx =>
  intro c
  exact ⟨fun s A1 W1 W2 ⟨h1, h2⟩ hk => ⟨h1, (hJx.later (by omega)).abide _ _ _ _ h2 hk⟩, fun s A1 W1 h => hJx.bound _ _ _ h.2⟩
 case invA =>
  intro pre x a1
  refine ⟨?_, fun s A1 W1 h => hJ.bound _ _ _ h.1.1⟩
  rintro s A1 W1 W2 ⟨⟨h1, h2, h3, h4⟩, h5⟩ hk
  exact ⟨⟨(hJ.later (by omega)).abide _ _ _ _ h1 hk, h2, hk.obj h3 (by simp; omega), fun hl0 => ⟨(h4 hl0).1, (h4 hl0).2.1, fun j hj => hk.cell ((h4 hl0).2.2 j hj) (by have := (h4 hl0).2.1; simp; omega)⟩⟩, h5⟩
 case assign =>
  intro l2 pre x A1 W1 K hpre hI hK
  have hx : chunkV b off l.length x = #[.slice (some ⟨b, off + 8 * x, none⟩) (grp l x).length (grp l x).length] := by unfold chunkV; rw [grp_length]
  rw [hx]
  gi_wp2
  exact hK _ _ _ (Round.refl _ _) ⟨hI, rfl⟩
 case body =>
  rintro l2 pre x a1 A1 W1 hl2 hn2 hr2 hpre ⟨⟨hj, h2, h3, h4⟩, rfl⟩
  have hxn : x < (l.length + 7) / 8 := by
   have := hpre.subset (a := x) (by simp)
   simpa using this
  have hl0 : l ≠ [] := fun h => by rw [h] at hxn; simp at hxn
  obtain ⟨hnb, hbW, hcl⟩ := h4 hl0
  have hmx : Tryz.prog.follows .mixedOrders = true := by kernel_rfl
  have hle := le_any b (off + 8 * x) (grp l x).length (grp l x) W1.drew (grp_len_le l x) (fun c hc => hl8 c (grp_mem hc)) (Nat.le_refl _)
   (fun j hj' => by rw [grp_get l x j hj', Nat.add_assoc]; exact hcl _ (by rw [grp_length] at hj'; omega))
  have hjd : J (pre.map fun k => leN (grp l k)) A1 W1.drew := hJ.abide _ _ _ _ hj (Keeps.refl _ _).drew
  have hpm : (pre.map fun k => leN (grp l k)) ++ [leN (grp l x)] <+: wordsN l := by
   have := map_prefix (fun k => leN (grp l k)) hpre
   simpa [wordsN] using this
  obtain ⟨fn, tmps, assign, body, hy, hR⟩ := hY _ _ _ _ hpm hjd
  have hR2 : RoundIn (Fence.wide.inRound l2) 0 Tryz.prog lo fn tmps assign body W1.drew fun e W2 => ∃ t : Bool, e = .returned (.bool t) ∧ ∃ A2, Round A1 A2 W1.drew W2 ∧
    ((t = true ∧ J ((pre.map fun k => leN (grp l k)) ++ [leN (grp l x)]) A2 W2) ∨ (t = false ∧ Jx ((pre.map fun k => leN (grp l k)) ++ [leN (grp l x)]) A2 W2)) := by
   refine hR.mono ?_
   rintro e W2 ⟨A2, hr, (⟨rfl, hJ2⟩ | ⟨rfl, hJ2⟩)⟩
   ·exact ⟨true, rfl, A2, hr, .inl ⟨rfl, hJ2⟩⟩
   ·exact ⟨false, rfl, A2, hr, .inr ⟨rfl, hJ2⟩⟩
  have cy : W1.cell? ⟨W.heap.size, 0, none⟩ = some (.func (.yield lo) #[] #[]) := by simp [World.cell?, h3]
  clear hR hY hg hcells h4 hJ hJx
  gi_wp2
  gi_region_with_o (first
   | (refine ⟨trivial, rfl, ?_⟩; gi_at_call 96; refine (CallsIn.inRound l2 (callsIn_wide.2 hle)).mono ?_; rintro e w' ⟨rfl, rfl⟩)
   | (refine ⟨rfl, ?_⟩; refine hR2.mono ?_; clear hR2 hy; rintro e W2 ⟨t, rfl, hp⟩))
  all_goals
   obtain ⟨A2, hr, (⟨rfl, hJ2⟩ | ⟨rfl, hJ2⟩)⟩ := hp
   ·have hr1 : Round A1 A2 W1 W2 := (Round.same (Keeps.refl _ _).drew).trans hr
    gi_wp2
    refine ⟨A2, hr1, by rw [List.map_append]; exact hJ2, hr1.not h2 (Array.getElem?_eq_some_iff.1 h3).1, hr1.keeps.obj h3 h2, fun _ => ⟨hr1.not hnb ?_, hbW, fun j hj => hr1.keeps.cell (hcl j hj) hnb⟩⟩
    have := (Array.getElem?_eq_some_iff.1 h3).1
    omega
   ·have hr1 : Round A1 A2 W1 W2 := (Round.same (Keeps.refl _ _).drew).trans hr
    gi_wp2
    exact ⟨A2, hr1, rfl, by rw [List.map_append]; exact hJ2⟩
 case done =>
  rintro D A2 W2 hD hnD ⟨h1, h2, h3, h4⟩ hK
  gi_wp2
  refine ⟨by simp, .inl ⟨_, _, rfl, run_takeDeferred hK, ?_⟩⟩
  exact ⟨_, results_none rfl _ _ _, ⟨_, rfl⟩, A2, .inl ((hJ.later (by omega)).abide _ _ _ _ h1 ((Keeps.refl _ _).putObj D _ ⟨hD, hnD⟩))⟩
 case stop =>
  rintro D c pre A2 W2 hD hnD hpre ⟨rfl, h2⟩ hK
  gi_wp2
  refine ⟨by simp, .inl ⟨_, _, rfl, run_takeDeferred hK, ?_⟩⟩
  exact ⟨_, results_none rfl _ _ _, ⟨_, rfl⟩, A2, .inr ⟨_, map_prefix _ hpre, (hJx.later (by omega)).abide _ _ _ _ h2 ((Keeps.refl _ _).putObj D _ ⟨hD, hnD⟩)⟩⟩
attribute [local go_sem] Oper.semAt_some
def Ints (k : IntKind) (w : World) (v : Value) (zs : List Int) : Prop :=
 ∃ a cap, v = .slice a zs.length cap ∧ zs.length ≤ cap ∧ zs.length ≤ 4611686018427387904 ∧
  (zs ≠ [] → ∃ b off, a = some ⟨b, off, none⟩ ∧ ∀ j, j < zs.length → w.cell? ⟨b, off + j, none⟩ = some (.int k (zs[j]?.getD 0)))
def strN (s : ByteArray) : List Nat := s.data.toList.map UInt8.toNat
theorem strN_length (s : ByteArray) : (strN s).length = s.size := by simp [strN]
theorem strN_lt (s : ByteArray) : ∀ c ∈ strN s, c < 256 := by
 intro c hc
 obtain ⟨u, _, rfl⟩ := List.mem_map.1 hc
 exact u.toNat_lt
theorem strN_get (s : ByteArray) (j : Nat) (hj : j < s.size) : (strN s)[j]?.getD 0 = (s.data.toList.getD j 0).toNat := by
 have h : j < s.data.toList.length := by simpa using hj
 rw [strN, List.getElem?_map, List.getD_eq_getElem?_getD, List.getElem?_eq_getElem h]
 rfl
theorem bytes_of_string (w : World) (s : ByteArray) (hs : s.size ≤ 4611686018427387904) :
  Bytes (Lib.bytesWorld w 5 s) (.slice (some ⟨w.heap.size, 0, none⟩) s.size (grownCap w s.size 0 5)) (strN s) := by
 refine ⟨strN_lt s, some ⟨w.heap.size, 0, none⟩, _, by rw [strN_length], by rw [strN_length]; exact grownCap_ge _ _ _ _, by rw [strN_length]; exact hs, fun _ => ⟨_, _, rfl, fun j hj => ?_⟩⟩
 rw [strN_length] at hj
 rw [strN_get s j hj, Nat.zero_add]
 exact Lib.bytesWorld_cell w _ s j hj
theorem below_bytesWorld (B : Nat) (w : World) (s : ByteArray) (e : TypeId) (hB : B ≤ w.heap.size) : Below B w (Lib.bytesWorld w e s) :=
 ⟨rfl, rfl, rfl, by rw [Lib.bytesWorld_size]; omega, fun k hk => Lib.bytesWorld_at_old w e s k (by omega)⟩
theorem Bytes.below {w w' : World} {v : Value} {l : List Nat} (h : Bytes w v l) (hk : ∀ k, blockOf v k → w'.heap[k]? = w.heap[k]?) : Bytes w' v l := by
 obtain ⟨h1, a, cap, rfl, h2, h3, h4⟩ := h
 refine ⟨h1, a, cap, rfl, h2, h3, fun hl => ?_⟩
 obtain ⟨b, off, rfl, hc⟩ := h4 hl
 exact ⟨b, off, rfl, fun j hj => (World.cell?_of_block (hk b rfl)).trans (hc j hj)⟩
theorem wrap_ofInt (n : Int) : IntKind.u64.wrap n = ((ofInt n : Nat) : Int) := by
 rw [IntKind.wrap_u64]; unfold ofInt; omega
theorem mix_int (a : Nat) (n : Int) (w : World) (ha : a < T64) :
  Calls Tryz.prog 97 #[.int .u64 a, .int .u64 (IntKind.u64.wrap n)] w fun e w' => e = .returned (.int .u64 (mixN a (ofInt n))) ∧ w = w' := by
 rw [wrap_ofInt]; exact mix_any a _ w ha (ofInt_lt n)
theorem fold_take_succ (s : Nat) (zs : List Int) {k : Nat} (hk : k < zs.length) : fold s ((zs.take (k + 1)).map ofInt) = mixN (fold s ((zs.take k).map ofInt)) (ofInt zs[k]) := by
 rw [List.take_succ_eq_append_getElem hk, List.map_append, List.map_singleton, fold_snoc]
set_option maxRecDepth 100000 in
set_option maxHeartbeats 4000000 in
theorem sum_any (s : ByteArray) (v : Value) (zs : List Int) (w : World) (hs : s.size ≤ 4611686018427387904) (hz : Ints .i64 w v zs) :
  Calls Tryz.prog 66 #[.string s, v] w fun e w' => e = .returned (.int .u64 (sumN (strN s) zs)) ∧ Below w.heap.size w w' := by
 obtain ⟨a, cap, rfl, hcap, hcm, hne⟩ := hz
 refine (callsIn_wide (n := 0)).1 ?_
 refine callsIn_of_wp_marks Tryz.func66 rfl trivial ?_ rfl
 simp only [Tryz.ntmps66, List.size_toArray, List.length_cons, List.length_nil, Nat.reduceAdd, Nat.reduceSub, Array.replicate_succ, Array.replicate_zero, List.push_toArray, List.append_toArray, List.nil_append, List.cons_append]
 have hcv := fun (w : World) => Lib.run_convert_string_bytes (P := Tryz.prog) w 9 50 5 s Tryz.underlying9 Tryz.underlying50 Tryz.underlying5
 gi_wp2_with fail
 clear hcv
 refine ⟨trivial, rfl, (callsIn_wide.2 (wordsOf_any _ _ _ _)).mono ?_⟩
 rintro e w' ⟨rfl, rfl⟩
 gi_wp2_with fail
 -- the world in which the loop begins
 have hby := bytes_of_string (w.alloc (Obj.cells #[Value.int IntKind.u64 0] 60)) s hs
 have hbel := below_bytesWorld w.heap.size (w.alloc (Obj.cells #[Value.int IntKind.u64 0] 60)) s 5 (by simp)
 have hz2 := Lib.bytesWorld_size (w.alloc (Obj.cells #[Value.int IntKind.u64 0] 60)) 5 s
 have hold := Lib.bytesWorld_at_old (w.alloc (Obj.cells #[Value.int IntKind.u64 0] 60)) 5 s w.heap.size (by simp)
 rw [World.size_alloc] at hz2 hby
 generalize hC : grownCap (w.alloc (Obj.cells #[Value.int IntKind.u64 0] 60)) s.size 0 5 = C at *
 generalize hW2 : Lib.bytesWorld (w.alloc (Obj.cells #[Value.int IntKind.u64 0] 60)) 5 s = W2 at *
 clear hC hW2
 rw [hz2]
 simp only [Nat.add_assoc, Nat.reduceAdd] at hz2 ⊢
 have bx2 : Boxed W2 w.heap.size 60 (.int .u64 0) := hold.trans (World.alloc_heap_new w _)
 have bl2 : Below w.heap.size w W2 := ((Below.refl _ w).alloc (Nat.le_refl _) _).trans hbel
 clear hold hbel
 have c3 : (W2.alloc (.cells #[.slice (some ⟨w.heap.size + 1, 0, none⟩) s.size C] 50)).cell? ⟨w.heap.size + 2, 0, none⟩ = some (.slice (some ⟨w.heap.size + 1, 0, none⟩) s.size C) := by
  rw [← hz2]; exact (Boxed.new W2 _ _).cell
 have hby3 : Bytes (W2.alloc (.cells #[.slice (some ⟨w.heap.size + 1, 0, none⟩) s.size C] 50)) (.slice (some ⟨w.heap.size + 1, 0, none⟩) s.size C) (strN s) :=
  hby.below (fun k hk => Below.heap_alloc _ _ _ (by have : k = w.heap.size + 1 := hk; omega))
 have bx3 := bx2.alloc (.cells #[.slice (some ⟨w.heap.size + 1, 0, none⟩) s.size C] 50)
 have bl3 := bl2.alloc (by omega : w.heap.size ≤ W2.heap.size) (.cells #[.slice (some ⟨w.heap.size + 1, 0, none⟩) s.size C] 50)
 have z3 : (W2.alloc (.cells #[.slice (some ⟨w.heap.size + 1, 0, none⟩) s.size C] 50)).heap.size = w.heap.size + 3 := by rw [World.size_alloc, hz2]
 generalize W2.alloc (.cells #[.slice (some ⟨w.heap.size + 1, 0, none⟩) s.size C] 50) = W3 at *
 clear hby bx2 bl2 hz2
 have hg := words_gives (w.heap.size + 2) _ (strN s) W3 c3 hby3
 refine wp_range (gf := 95) (lb := #[.pointer (some ⟨w.heap.size + 2, 0, none⟩)]) rfl (enters_of Tryz.func95 (by kernel_rfl) rfl) hg (fun k => k = w.heap.size)
  (fun k hk => ⟨rfl, by rcases hk with rfl | hk; omega; (have : k = w.heap.size + 1 := hk); omega, by rcases hk with rfl | hk; omega; (have : k = w.heap.size + 1 := hk); omega⟩) (fun _ => rfl)
  (fun pre A1 W1 => (∀ k, A1 k ↔ k = w.heap.size) ∧ Boxed W1 w.heap.size 60 (.int .u64 (fold 0 pre : Nat)) ∧ Below w.heap.size w W1)
  (fun _ _ _ _ => False) ?inv ?invx ⟨fun _ => Iff.rfl, bx3, bl3⟩
  (fun pre x a1 A1 W1 => ((∀ k, A1 k ↔ k = w.heap.size) ∧ Boxed W1 w.heap.size 60 (.int .u64 (fold 0 pre : Nat)) ∧ Below w.heap.size w W1) ∧
   a1 = { tmps := #[.string s, .slice a zs.length cap, undef, undef, .int .u64 0, .pointer (some ⟨w.heap.size, 0, none⟩), .int .u64 (x : Nat), undef, undef, .string s, .slice (some ⟨w.heap.size + 1, 0, none⟩) s.size C, .func (.func 95) #[] #[.pointer (some ⟨w.heap.size + 2, 0, none⟩)], .int .u64 (x : Nat), undef, undef, undef, undef, undef, undef, undef, undef, undef, undef, undef, undef, undef, undef, undef, undef, undef, undef, undef, undef, undef, undef, undef, undef, undef, undef], defers := [] })
  ?invA ?assign ?body ?done ?stop
 case inv =>
  refine ⟨?_, fun s A1 W1 ⟨h1, h2, _⟩ k hk => by rw [(h1 k).1 hk]; exact h2.lt⟩
  rintro pre A1 W1 W4 ⟨h1, h2, h3⟩ hk
  exact ⟨h1, hk.obj h2 (by simp; omega), h3.trans (hk.below h3.size (by simp; omega))⟩
 case invx => exact fun c => ⟨fun _ _ _ _ h _ => h.elim, fun _ _ _ h => h.elim⟩
 case invA =>
  intro pre x a1
  refine ⟨?_, fun s A1 W1 ⟨⟨h1, h2, _⟩, _⟩ k hk => by rw [(h1 k).1 hk]; exact h2.lt⟩
  rintro _ A1 W1 W4 ⟨⟨h1, h2, h3⟩, h4⟩ hk
  exact ⟨⟨h1, hk.obj h2 (by simp; omega), h3.trans (hk.below h3.size (by simp; omega))⟩, h4⟩
 case assign =>
  intro l2 pre x A1 W1 K hpre hI hK
  gi_wp2
  exact hK _ _ _ (Round.refl _ _) ⟨hI, rfl⟩
 case body =>
  rintro l2 pre x a1 A1 W1 hl2 hn2 hr2 hpre ⟨⟨h1, h2, h3⟩, rfl⟩
  have hx : x < T64 := words_lt (strN_lt s) x (hpre.subset (by simp))
  have hc := h2.cell
  have hf := h2.frozen
  have hm := mix_any (fold 0 pre) x W1 (fold_lt (by decide) pre) hx
  clear hr2 hg hn2 c3 hby3 bx3
  gi_wp2_with fail
  refine ⟨trivial, rfl, (CallsIn.inRound l2 (callsIn_wide.2 hm)).mono ?_⟩
  clear hm
  rintro e w' ⟨rfl, rfl⟩
  gi_wp2
  refine ⟨A1, Round.same ((Keeps.refl _ _).setCell _ _ ((h1 _).2 rfl)), h1, ?_, h3.setCell (p := ⟨w.heap.size, 0, none⟩) (Nat.le_refl _) _⟩
  rw [fold_snoc]
  exact h2.set _
 case done =>
  rintro D A2 W2 hD hnD ⟨h1, h2, h3⟩ hK
  have hc := h2.cell
  have hf := h2.frozen
  have hDS : D ≠ w.heap.size := by omega
  clear hnD h1 hg c3 hby3 bx3 bl3
  have hm := mix_any (fold 0 (wordsN (strN s))) s.size W2 (fold_lt (by decide) _) (by unfold T64; omega)
  gi_wp2_with fail
  refine ⟨trivial, rfl, (callsIn_wide.2 hm).mono ?_⟩
  clear hm
  rintro e w' ⟨rfl, rfl⟩
  -- the length of the label is mixed in
  have b4 : Boxed (W2.setCell ⟨w.heap.size, 0, none⟩ (.int .u64 (mixN (fold 0 (wordsN (strN s))) s.size : Nat))) w.heap.size 60 (.int .u64 (mixN (fold 0 (wordsN (strN s))) s.size : Nat)) := h2.set _
  have l4 : Below w.heap.size w (W2.setCell ⟨w.heap.size, 0, none⟩ (.int .u64 (mixN (fold 0 (wordsN (strN s))) s.size : Nat))) := h3.setCell (p := ⟨w.heap.size, 0, none⟩) (Nat.le_refl _) _
  have k4 : (W2.setCell ⟨w.heap.size, 0, none⟩ (.int .u64 (mixN (fold 0 (wordsN (strN s))) s.size : Nat))).heap[D]? = some (.deferred (some [])) := (Below.heap_setCell _ _ _ _ hDS).trans hK
  have hc4 := b4.cell
  have hf4 := b4.frozen
  gi_wp2_with fail
  have hs0 : mixN (fold 0 (wordsN (strN s))) s.size < T64 := mixN_lt _ _
  generalize W2.setCell ⟨w.heap.size, 0, none⟩ (.int .u64 (mixN (fold 0 (wordsN (strN s))) s.size : Nat)) = W4 at *
  generalize hst : mixN (fold 0 (wordsN (strN s))) s.size = st at *
  have Hst := Lib.hid hst
  clear hst h2 h3 hK hc hf
  have hm := mix_any st zs.length W4 hs0 (by unfold T64; omega)
  refine ⟨trivial, rfl, (callsIn_wide.2 hm).mono ?_⟩
  clear hm
  rintro e w' ⟨rfl, rfl⟩
  -- the number of the words is mixed in
  have b5 : Boxed (W4.setCell ⟨w.heap.size, 0, none⟩ (.int .u64 (mixN st zs.length : Nat))) w.heap.size 60 (.int .u64 (mixN st zs.length : Nat)) := b4.set _
  have l5 : Below w.heap.size w (W4.setCell ⟨w.heap.size, 0, none⟩ (.int .u64 (mixN st zs.length : Nat))) := l4.setCell (p := ⟨w.heap.size, 0, none⟩) (Nat.le_refl _) _
  have k5 : (W4.setCell ⟨w.heap.size, 0, none⟩ (.int .u64 (mixN st zs.length : Nat))).heap[D]? = some (.deferred (some [])) := (Below.heap_setCell _ _ _ _ hDS).trans k4
  have hs1 : mixN st zs.length < T64 := mixN_lt _ _
  gi_wp2_with fail
  generalize W4.setCell ⟨w.heap.size, 0, none⟩ (.int .u64 (mixN st zs.length : Nat)) = W5 at *
  clear b4 l4 k4 hc4 hf4
  gi_loopw [28] (fun i wr => ∃ k : Nat, k ≤ zs.length ∧ i = .int .i64 k ∧ Boxed wr w.heap.size 60 (.int .u64 (fold (mixN st zs.length) ((zs.take k).map ofInt) : Nat)) ∧ Below w.heap.size w wr ∧ wr.heap[D]? = some (.deferred (some [])))
   (fun i _ => zs.length - (intOf i).toNat)
  case atStart => exact ⟨0, Nat.zero_le _, rfl, b5, l5, k5⟩
  case round =>
   obtain ⟨k, hk, rfl, b6, l6, k6⟩ := hrel
   clear b5 l5 k5
   have hc := b6.cell
   have hf := b6.frozen
   have hs6 : fold (mixN st zs.length) ((zs.take k).map ofInt) < T64 := fold_lt hs1 _
   by_cases hlt : k < zs.length
   ·obtain ⟨b, off, rfl, hcs⟩ := hne (fun h => by simp [h] at hlt)
    have hck : wr.cell? ⟨b, off + k, none⟩ = some (.int .i64 (zs[k]?.getD 0)) := by
     have h0 := hcs k hlt
     exact (l6.cell (p := ⟨b, off + k, none⟩) (World.block_lt_of_cell? _ _ h0)).trans h0
    clear hne hcs
    have hm := mix_int (fold (mixN st zs.length) ((zs.take k).map ofInt)) zs[k] wr hs6
    have HS := Lib.hid (fold_take_succ (mixN st zs.length) zs hlt)
    generalize hft : fold (mixN st zs.length) ((zs.take k).map ofInt) = ft at *
    clear hft
    gi_wp2_with fail
    refine ⟨trivial, rfl, (callsIn_wide.2 hm).mono ?_⟩
    clear hm
    rintro e w' ⟨rfl, rfl⟩
    have b7 : Boxed (wr.setCell ⟨w.heap.size, 0, none⟩ (.int .u64 (mixN ft (ofInt zs[k]) : Nat))) w.heap.size 60 (.int .u64 (mixN ft (ofInt zs[k]) : Nat)) := b6.set _
    have l7 : Below w.heap.size w (wr.setCell ⟨w.heap.size, 0, none⟩ (.int .u64 (mixN ft (ofInt zs[k]) : Nat))) := l6.setCell (p := ⟨w.heap.size, 0, none⟩) (Nat.le_refl _) _
    have k7 : (wr.setCell ⟨w.heap.size, 0, none⟩ (.int .u64 (mixN ft (ofInt zs[k]) : Nat))).heap[D]? = some (.deferred (some [])) := (Below.heap_setCell _ _ _ _ hDS).trans k6
    gi_wp2_with fail
    go_roundw
    case rel => exact ⟨k + 1, by omega, by go_num, by rw [HS.out]; exact b7, l7, k7⟩
    case measure => simp [intOf]; omega
   ·obtain rfl : k = zs.length := by omega
    clear hne
    have hm := mix_any (fold (mixN st zs.length) ((zs.take zs.length).map ofInt)) 0 wr hs6 (by decide)
    have HF : Hid (mixN (fold (mixN st zs.length) ((zs.take zs.length).map ofInt)) 0 = sumN (strN s) zs) := by
     rw [List.take_length, ← Hst.out, ← strN_length]; rfl
    generalize hft : fold (mixN st zs.length) ((zs.take zs.length).map ofInt) = ft at *
    clear hft
    gi_wp2_with fail
    refine ⟨trivial, rfl, (callsIn_wide.2 hm).mono ?_⟩
    clear hm
    rintro e w' ⟨rfl, rfl⟩
    gi_wp2_with fail
    refine ⟨by simp, .inl ⟨_, _, rfl, run_takeDeferred k6, ?_⟩⟩
    rw [← HF.out]
    refine ⟨_, results_tmp (t := 4) rfl _ _ _, rfl, l6.trans ((Keeps.refl (fun k => w.heap.size ≤ k) wr).putObj D _ ?_ |>.below l6.size (fun _ h => h))⟩
    omega
 case stop =>
  intro D c pre A2 W2 hD hnD hpre h hK
  exact h.elim
theorem wrap_toInt {n : Nat} (h : n < T64) : wrap64 (n : Int) = toInt n := by
 unfold T64 at h
 unfold wrap64 toInt
 split <;> omega
theorem cell_at {W : World} {b j : Nat} {cs : Array Value} {t : TypeId} {m : Nat × Nat} (h : W.heap[b]? = some (.cells cs t m)) : W.cell? ⟨b, j, none⟩ = cs[j]? := by
 unfold World.cell?
 rw [h]; simp
theorem below_then {w a b : World} (h : Below w.heap.size w a) (k : Below a.heap.size a b) : Below w.heap.size w b := h.trans (k.mono h.size)
attribute [local go_sem] Oper.semAt_some
theorem info_int : (Tryz.prog.info? 3).map (fun i => (i.zero, i.size, i.bytes)) = some (some (.int .i64 0), 1, 8) := by kernel_rfl
theorem ownsRow_keeps {A : Foot} {W W2 : World} (hk : Keeps A W W2) {base : Nat} {e : TypeId} {size g n cap : Nat} {xs : List Value}
  (h : W.ownsRow base e size (.slice (some ⟨g, 0, none⟩) n cap) n xs) (hg : ¬ A g) : W2.ownsRow base e size (.slice (some ⟨g, 0, none⟩) n cap) n xs := by
 refine ⟨h.1, ?_⟩
 rcases h.2 with ⟨h1, _⟩ | ⟨g', cap', cur, h1, h2, h3, h4⟩
 ·cases h1
 ·have hg' : g' = g := by injection h1 with h1 _ _; injection h1 with h1; injection h1 with h1; exact h1.symm
  subst hg'
  exact .inr ⟨g', cap', cur, h1, h2, hk.obj h3 hg, h4⟩
theorem ints_of_owns {W : World} {base : Nat} {e : TypeId} {g cap : Nat} {k : IntKind} {zs : List Int} (hcap : zs.length ≤ cap) (hz : zs.length ≤ 4611686018427387904)
  (h : W.ownsRow base e 1 (.slice (some ⟨g, 0, none⟩) zs.length cap) zs.length (zs.map (Value.int k))) : Ints k W (.slice (some ⟨g, 0, none⟩) zs.length cap) zs := by
 refine ⟨_, _, rfl, hcap, hz, fun _ => ⟨g, 0, rfl, fun j hj => ?_⟩⟩
 have := h.cells (g := g) rfl j (.int k (zs[j]?.getD 0)) (by simp [hj])
 have e : (⟨g, 0, none⟩ : Addr).add j = ⟨g, 0 + j, none⟩ := by unfold Addr.add; split <;> simp_all
 rwa [e] at this
set_option maxRecDepth 100000 in
set_option maxHeartbeats 4000000 in
theorem bytes_any (s : ByteArray) (v : Value) (l : List Nat) (w : World) (hs : s.size ≤ 4611686018427387904) (hl : Bytes w v l) (hv : ∀ k, blockOf v k → k < w.heap.size) (hlen : l.length ≤ 140737488351232) :
  Calls Tryz.prog 27 #[.string s, v] w fun e w' => e = .returned (.int .u64 (bytesN (strN s) l)) ∧ Below w.heap.size w w' := by
 obtain ⟨i0, hi, hz0, hz1, hz2⟩ := info_parts info_int
 obtain ⟨a, cap, rfl⟩ : ∃ a cap, v = .slice a l.length cap := by obtain ⟨_, a, cap, h, _⟩ := hl; exact ⟨a, cap, h⟩
 have hl8 := hl.1
 refine (callsIn_wide (n := 0)).1 ?_
 refine callsIn_of_wp_marks Tryz.func27 rfl trivial ?_ rfl
 simp only [Tryz.ntmps27, List.size_toArray, List.length_cons, List.length_nil, Nat.reduceAdd, Nat.reduceSub, Array.replicate_succ, Array.replicate_zero, List.push_toArray, List.append_toArray, List.nil_append, List.cons_append]
 gi_wp2_with (gi_at_make; refine wpListIn_make_own _ rfl _ _ 22 rfl w.heap.size 3 i0 (.int .i64 0) 1 Tryz.underlying22 hi hz0 hz1 _ _ _ (l.length / 8 + 2) rfl rfl (by omega) (by rw [hz2]; omega) (by unfold maxLen; omega) (Nat.le_refl _) ?_; intro w1 hrow1 hg1)
 have hgB : w.heap.size < w1.heap.size := (hrow1.lt _ rfl).2
 refine ⟨trivial, rfl, (callsIn_wide.2 (wordsOf_any _ _ _ _)).mono ?_⟩
 rintro e w' ⟨rfl, rfl⟩
 gi_wp2_with fail
 have bel1 : Below w.heap.size w w1 := (Below.refl _ w).grown hg1 (Nat.le_refl _) (fun k h => by cases h)
 obtain ⟨W3, hW3⟩ : ∃ W3, (w1.alloc (Obj.cells #[Value.slice (some ⟨w.heap.size, 0, none⟩) 0 (l.length / 8 + 2)] 22)).alloc (.cells #[.slice a l.length cap] 50) = W3 := ⟨_, rfl⟩
 rw [hW3]
 have k3 : ∀ A : Foot, Keeps A w1 W3 := fun A => by rw [← hW3]; exact ((Keeps.refl A w1).alloc _).alloc _
 have z3 : W3.heap.size = w1.heap.size + 2 := by rw [← hW3]; simp
 have bx3 : Boxed W3 w1.heap.size 22 (.slice (some ⟨w.heap.size, 0, none⟩) 0 (l.length / 8 + 2)) := by rw [← hW3]; exact (Boxed.new w1 _ _).alloc _
 have c3 : W3.cell? ⟨w1.heap.size + 1, 0, none⟩ = some (.slice a l.length cap) := by
  rw [← hW3]
  have := (Boxed.new (w1.alloc (Obj.cells #[Value.slice (some ⟨w.heap.size, 0, none⟩) 0 (l.length / 8 + 2)] 22)) 50 (.slice a l.length cap)).cell
  rwa [World.size_alloc] at this
 have or3 := ownsRow_keeps (k3 (fun _ => False)) hrow1 (fun h => h)
 have bl3 : Below w.heap.size w W3 := bel1.trans ((k3 (fun k => w.heap.size ≤ k)).below (Nat.le_of_lt hgB) (fun _ h => h))
 have hby3 : Bytes W3 (.slice a l.length cap) l := hl.below (fun k hk => bl3.block k (hv k hk))
 generalize w1.heap.size = B at *
 clear hW3 k3 hrow1 hg1 bel1 hl
 have hg := words_gives (B + 1) _ l W3 c3 hby3
 refine wp_range (gf := 95) (lb := #[.pointer (some ⟨B + 1, 0, none⟩)]) rfl (enters_of Tryz.func95 (by kernel_rfl) rfl) hg (fun k => k = B ∨ k = w.heap.size)
  (fun k hk => ⟨rfl, by rcases hk with rfl | hk; omega; (have := hv k hk); omega, by rcases hk with rfl | hk; omega; (have := hv k hk); omega⟩) (fun _ => rfl)
  (fun pre A1 W1 => (∀ k, A1 k ↔ k = B ∨ k = w.heap.size) ∧ Boxed W1 B 22 (.slice (some ⟨w.heap.size, 0, none⟩) pre.length (l.length / 8 + 2)) ∧
   W1.ownsRow w.heap.size 3 1 (.slice (some ⟨w.heap.size, 0, none⟩) pre.length (l.length / 8 + 2)) pre.length ((pre.map toInt).map (Value.int .i64)) ∧ Below w.heap.size w W1)
  (fun _ _ _ _ => False) ?inv ?invx ⟨fun _ => Iff.rfl, bx3, or3, bl3⟩
  (fun pre x a1 A1 W1 => ((∀ k, A1 k ↔ k = B ∨ k = w.heap.size) ∧ Boxed W1 B 22 (.slice (some ⟨w.heap.size, 0, none⟩) pre.length (l.length / 8 + 2)) ∧
   W1.ownsRow w.heap.size 3 1 (.slice (some ⟨w.heap.size, 0, none⟩) pre.length (l.length / 8 + 2)) pre.length ((pre.map toInt).map (Value.int .i64)) ∧ Below w.heap.size w W1) ∧
   a1 = { tmps := #[.string s, .slice a l.length cap, undef, undef, .int .u64 0, .pointer (some ⟨B, 0, none⟩), .int .u64 (x : Nat), .slice a l.length cap, .int .i64 l.length, .int .i64 ((l.length : Int) / 8), .int .i64 ((l.length : Int) / 8 + 2), .slice (some ⟨w.heap.size, 0, none⟩) 0 (l.length / 8 + 2), .slice a l.length cap, .func (.func 95) #[] #[.pointer (some ⟨B + 1, 0, none⟩)], .int .u64 (x : Nat), undef, undef, undef, undef, undef, undef, undef, undef, undef, undef, undef, undef], defers := [] })
  ?invA ?assign ?body ?done ?stop
 case inv =>
  refine ⟨?_, fun s A1 W1 ⟨h1, h2, h3, _⟩ k hk => ?_⟩
  ·rintro pre A1 W1 W4 ⟨h1, h2, h3, h4⟩ hk
   exact ⟨h1, hk.obj h2 (by simp; omega), ownsRow_keeps hk h3 (by simp; omega), h4.trans (hk.below h4.size (by simp; omega))⟩
  ·rcases (h1 k).1 hk with rfl | rfl
   ·exact h2.lt
   ·exact (h3.lt _ rfl).2
 case invx => exact fun c => ⟨fun _ _ _ _ h _ => h.elim, fun _ _ _ h => h.elim⟩
 case invA =>
  intro pre x a1
  refine ⟨?_, fun s A1 W1 ⟨⟨h1, h2, h3, _⟩, _⟩ k hk => ?_⟩
  ·rintro _ A1 W1 W4 ⟨⟨h1, h2, h3, h4⟩, h5⟩ hk
   exact ⟨⟨h1, hk.obj h2 (by simp; omega), ownsRow_keeps hk h3 (by simp; omega), h4.trans (hk.below h4.size (by simp; omega))⟩, h5⟩
  ·rcases (h1 k).1 hk with rfl | rfl
   ·exact h2.lt
   ·exact (h3.lt _ rfl).2
 case assign =>
  intro l2 pre x A1 W1 K hpre hI hK
  gi_wp2
  exact hK _ _ _ (Round.refl _ _) ⟨hI, rfl⟩
 case body =>
  rintro l2 pre x a1 A1 W1 hl2 hn2 hr2 hpre ⟨⟨h1, h2, h3, h4⟩, rfl⟩
  have hx : x < T64 := words_lt hl8 x (hpre.subset (by simp))
  have hn : pre.length + 1 ≤ (l.length + 7) / 8 := by
   have := hpre.length_le
   rwa [List.length_append, words_length] at this
  have HX := Lib.hid (wrap_toInt hx)
  have hc := h2.cell
  have hf := h2.frozen
  clear hr2 hg hn2 c3 hby3 bx3 or3 hx
  gi_wp2_with (gi_at_builtin; refine wpListIn_append_fits _ rfl _ _ 22 rfl w.heap.size 3 i0 1 Tryz.underlying22 hi hz1 w.heap.size pre.length (l.length / 8 + 2) _ rfl (h3.alloc _) ⟨W1.heap.size, 0, none⟩ 1 1 [.int .i64 (wrap64 (x : Int))] rfl rfl (cell_one_new _ _ _) (by simp [Value.oneCell']) (by omega) ?_; intro w2 hown2 hgrow2; have hb2 := (h2.alloc _).kept hgrow2 (by simp; omega); have hc2 := hb2.cell; have hf2 := hb2.frozen)
  have kk : Keeps A1 W1 (w2.setCell ⟨B, 0, none⟩ (.slice (some ⟨w.heap.size, 0, none⟩) (pre.length + 1) (l.length / 8 + 2))) :=
   (((Keeps.refl A1 W1).alloc _).trans (Keeps.of_grown hgrow2 (fun k e => by cases e; exact (h1 _).2 (.inr rfl)))).setCell _ _ ((h1 _).2 (.inl rfl))
  refine ⟨A1, Round.same kk, h1, ?_, ?_, h4.trans (kk.below h4.size (fun k hk => by rcases (h1 k).1 hk with rfl | rfl <;> omega))⟩
  ·rw [List.length_append, List.length_singleton]; exact hb2.set _
  ·rw [List.length_append, List.length_singleton, List.map_append, List.map_append, List.map_singleton, List.map_singleton, ← HX.out]
   exact hown2.kept (grownBy_setCell' w2 B _) (.inr (by simp [Value.ownBlock]; omega))
 case done =>
  rintro D A2 W2 hD hnD ⟨h1, h2, h3, h4⟩ hK
  have hc := h2.cell
  have hf := h2.frozen
  have hwl : (wordsN l).length + 1 ≤ l.length / 8 + 2 := by rw [words_length]; omega
  have hDg : D ≠ w.heap.size := by omega
  have hDl : D < W2.heap.size := (Array.getElem?_eq_some_iff.1 hK).1
  clear hg c3 hby3 bx3 or3 bl3
  gi_wp2_with (gi_at_builtin; refine wpListIn_append_fits _ rfl _ _ 22 rfl w.heap.size 3 i0 1 Tryz.underlying22 hi hz1 w.heap.size (wordsN l).length (l.length / 8 + 2) _ rfl (h3.alloc _) ⟨W2.heap.size, 0, none⟩ 1 1 [.int .i64 (l.length : Int)] rfl rfl (cell_one_new _ _ _) (by simp [Value.oneCell']) (by omega) ?_; intro w2 hown2 hgrow2)
  have bel2 : Below w.heap.size w w2 := (h4.alloc h4.size _).grown hgrow2 (by have := h4.size; simp; omega) (fun k e => by cases e; exact Nat.le_refl _)
  have hK2 : w2.heap[D]? = some (.deferred (some [])) := (hgrow2.block D (by simp; omega) (by simp; omega)).trans ((Below.heap_alloc _ _ _ hDl).trans hK)
  have hmm : (wordsN l).length + 1 = ((wordsN l).map toInt ++ [(l.length : Int)]).length := by simp
  have hint : Ints .i64 w2 (.slice (some ⟨w.heap.size, 0, none⟩) ((wordsN l).length + 1) (l.length / 8 + 2)) ((wordsN l).map toInt ++ [(l.length : Int)]) := by
   rw [hmm] at hown2 ⊢
   exact ints_of_owns (by rw [← hmm]; omega) (by rw [← hmm]; omega) (by rw [List.map_append, List.map_singleton]; exact hown2)
  refine ⟨trivial, rfl, (callsIn_wide.2 (sum_any s _ _ w2 hs hint)).mono ?_⟩
  rintro e w5 ⟨rfl, hb5⟩
  have hK5 : w5.heap[D]? = some (.deferred (some [])) := (hb5.block D (Array.getElem?_eq_some_iff.1 hK2).1).trans hK2
  clear hi hz0 hz1 hz2 hown2 hgrow2 hint hK hK2 hmm
  gi_wp2_with fail
  refine ⟨by simp, .inl ⟨_, _, rfl, run_takeDeferred hK5, ?_⟩⟩
  refine ⟨_, results_tmp (t := 4) rfl _ _ _, rfl, (below_then bel2 hb5).trans ((Keeps.refl (fun k => w.heap.size ≤ k) _).putObj D _ ?_ |>.below (below_then bel2 hb5).size (fun _ h => h))⟩
  omega
 case stop =>
  intro D c pre A2 W2 hD hnD hpre h hK
  exact h.elim
/-! ### One word -/
/-! ### The documented examples -/
def Row (k : IntKind) (w : World) (v : Value) (zs : List Int) : Prop :=
 ∃ a cap, v = .slice a zs.length cap ∧ zs.length ≤ cap ∧ cap ≤ 9223372036854775807 ∧
  (zs ≠ [] → ∃ b off, a = some ⟨b, off, none⟩ ∧ ∀ j, j < zs.length → w.cell? ⟨b, off + j, none⟩ = some (.int k (zs[j]?.getD 0))) ∧ (a = none → zs = [] ∧ cap = 0)
def Fresh (B : Nat) (e : TypeId) (k : IntKind) (w : World) (v : Value) (zs : List Int) : Prop := w.ownsRow B e 1 v zs.length (zs.map (Value.int k))
def natI (l : List Nat) : List Int := l.map fun c : Nat => (c : Int)
def Copies (e : TypeId) (k : IntKind) (zs : List Int) (w : World) (en : Ending) (w' : World) : Prop :=
 ∃ v, en = .returned v ∧ Fresh w.heap.size e k w' v zs ∧ Below w.heap.size w w'
theorem fresh_nil (B : Nat) (e : TypeId) (k : IntKind) (w : World) : Fresh B e k w (.slice none 0 0) [] := World.ownsRow_nil w B e 1
theorem copies_mk {e : TypeId} {k : IntKind} {zs : List Int} {w w' : World} {v : Value} (h1 : Fresh w.heap.size e k w' v zs) (h2 : Below w.heap.size w w') : Copies e k zs w (.returned v) w' :=
 ⟨v, rfl, h1, h2⟩
-- BEGIN COPY
-- END COPY
open Go.RowKit
theorem row_none (k : IntKind) (w : World) : Row k w (.slice none 0 0) [] := ⟨none, 0, rfl, Nat.le_refl _, by decide, fun h => (h rfl).elim, fun _ => ⟨rfl, rfl⟩⟩
theorem row_some {k : IntKind} {w : World} {x : Addr} {len cap : Nat} {zs : List Int} (hl : len ≤ cap) (hm : cap ≤ maxLen) (hz : zs.length = cap)
  (hc : ∀ i, i < zs.length → w.cell? (x.add i) = some (.int k (zs.getD i 0))) : Row k w (.slice (some x) len cap) (zs.take len) := by
 have e : (zs.take len).length = len := by rw [List.length_take]; omega
 refine ⟨some x, cap, by rw [e], by rw [e]; exact hl, by unfold maxLen at hm; omega, fun hne => ?_, fun h => by cases h⟩
 have h0 : 0 < zs.length := by
  rcases Nat.eq_zero_or_pos zs.length with h | h
  ·exact (hne (by rw [List.eq_nil_of_length_eq_zero h]; simp)).elim
  ·exact h
 obtain ⟨b, off, s⟩ := x
 have hs : s = none := by
  have h1 := hc 0 h0
  cases s with
  | none => rfl
  | some s =>
   unfold World.cell? at h1
   simp [Addr.add] at h1
   split at h1 <;> simp_all
 subst hs
 refine ⟨b, off, rfl, fun j hj => ?_⟩
 rw [e] at hj
 have h2 := hc j (by omega)
 have e2 : (⟨b, off, none⟩ : Addr).add j = ⟨b, off + j, none⟩ := by unfold Addr.add; split <;> simp_all
 rw [e2] at h2
 rw [h2, List.getElem?_take_of_lt hj, List.getD_eq_getElem?_getD]
theorem info_u8 : (Tryz.prog.info? 5).map (fun i => (i.zero, i.size, i.bytes)) = some (some (.int .u8 0), 1, 1) := by kernel_rfl
-- BEGIN SAME
-- END SAME
/-! ### From one word for a slice to another -/
theorem fresh_keeps {B : Nat} {e : TypeId} {k : IntKind} {w w' : World} {v : Value} {zs : List Int} (h : Fresh B e k w v zs) (hb : Below w.heap.size w w') : Fresh B e k w' v zs := by
 refine ⟨h.1, ?_⟩
 rcases h.2 with hn | ⟨g, cap, cur, rfl, h2, h3, h4⟩
 ·exact .inl hn
 ·exact .inr ⟨g, cap, cur, rfl, h2, (hb.block g (Array.getElem?_eq_some_iff.1 h3).1).trans h3, h4⟩
theorem fresh_elems {B : Nat} {e : TypeId} {k : IntKind} {w : World} {v : Value} {zs : List Int} (h : Fresh B e k w v zs) :
  ∃ a cap, v = .slice a zs.length cap ∧ zs.length ≤ cap ∧ (zs ≠ [] → ∃ b off, a = some ⟨b, off, none⟩ ∧ ∀ j, j < zs.length → w.cell? ⟨b, off + j, none⟩ = some (.int k (zs[j]?.getD 0))) := by
 have hf := h
 rcases h.2 with ⟨rfl, h0⟩ | ⟨g, cap, cur, rfl, h2, h3, h4, _⟩
 ·have : zs = [] := List.eq_nil_of_length_eq_zero h0
  subst this
  exact ⟨none, 0, rfl, Nat.le_refl _, fun h => (h rfl).elim⟩
 ·refine ⟨_, cap, rfl, h4, fun _ => ⟨g, 0, rfl, fun j hj => ?_⟩⟩
  have := World.ownsRow.cells hf (g := g) rfl j (.int k (zs[j]?.getD 0)) (by simp [hj])
  have e : (⟨g, 0, none⟩ : Addr).add j = ⟨g, 0 + j, none⟩ := by unfold Addr.add; split <;> simp_all
  rwa [e] at this
theorem row_keeps {k : IntKind} {w w' : World} {v : Value} {zs : List Int} (h : Row k w v zs) (hb : Below w.heap.size w w') : Row k w' v zs := by
 obtain ⟨a, cap, h1, h2, h3, h4, h5⟩ := h
 refine ⟨a, cap, h1, h2, h3, fun hne => ?_, h5⟩
 obtain ⟨b, off, e, hc⟩ := h4 hne
 exact ⟨b, off, e, fun j hj => (hb.cell (p := ⟨b, off + j, none⟩) (World.block_lt_of_cell? _ _ (hc j hj))).trans (hc j hj)⟩
theorem natI_length (l : List Nat) : (natI l).length = l.length := by simp [natI]
end Go.Proofs.YtepakogbbomaoaaGreatDoor
