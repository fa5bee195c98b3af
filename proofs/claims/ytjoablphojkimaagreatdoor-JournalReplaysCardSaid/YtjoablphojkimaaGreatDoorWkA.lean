/-
  The walks of package hash's small functions: mixing, a group of bytes as a number. The library's slices.Chunk at []byte: its iterator gives the groups of a slice, one after the other. hash.wordsOf: its iterator gives the words of a byte slice, one after the other. hash.Sum: the sum of a label and words. hash.Pair; the laws' check that the documented examples hold. hash.Bytes: the sum of a label, the words of a byte slice, and its length. The laws' check of the documented examples; the sum is injective in one word, in one group, in one label. The walks of the reference's small functions: a string cut short, copies of integers and bytes, a number around a size, slices compared. A slice of integers that came in, as the walks are told of it. The reference's copy of bytes; the comparison of slices. The reference's words, sums and pairs. The reference's sums, hashes of bytes, and pairs. The reference's pairs and hashes of bytes.
-/
import Derived.Test.YtjoablphojkimaaGreatDoorRows
import Derived.Test.YtjoablphojkimaaGreatDoorPlain
import Derived.WalkKit
import Derived.WalkSpells
import Derived.WalkLawsBesides
import Derived.Deep.DeepFit
import Derived.Lib.Hide
import Derived.Test.YtjoablphojkimaaGreatDoorFoot
import Derived.Shelf.Abstract
import Derived.Shelf.RegionOpen
import Derived.OwnWalkIn
import Derived.TacticsInMore
import Derived.LoopNIn
import Derived.LoopIn
import Derived.Lib.ConvBytes
import Derived.Maps.AppendAt
import Derived.Laws.AppendOwnNone
import Derived.Deep.QuietTactic
import Derived.BigQuiet
import Derived.WalkSmall
namespace Go.Proofs.YtjoablphojkimaaGreatDoor
open Go.RowKit Go.Shelf
set_option linter.unusedVariables false
set_option maxRecDepth 100000

open Go.RowKit

theorem ret_int {k : IntKind} {a b : Int} (h : a = b) : Ending.returned (.int k a) = .returned (.int k b) := by rw [h]

set_option maxHeartbeats 400000 in
theorem mix_any (a b : Nat) (w : World) (ha : a < T64) (hb : b < T64) :
    Calls Tryz.prog 115 #[.int .u64 a, .int .u64 b] w fun e w' => e = .returned (.int .u64 (mixN a b)) ∧ w = w' := by
  have H := Lib.hid (mix_form a b ha hb)
  clear ha hb
  go_enter Tryz.func115, Tryz.ntmps115
  go_wp2
  go_ret
  exact ⟨ret_int H.out, rfl⟩

set_option maxHeartbeats 400000 in
theorem le_any (b off cap : Nat) (l : List Nat) (w : World) (h8 : l.length ≤ 8) (hl : ∀ c ∈ l, c < 256) (hcap : l.length ≤ cap)
    (hc : ∀ j, j < l.length → w.cell? ⟨b, off + j, none⟩ = some (.int .u8 ((l[j]?.getD 0 : Nat) : Int))) :
    Calls Tryz.prog 114 #[.slice (some ⟨b, off, none⟩) l.length cap] w fun e w' => e = .returned (.int .u64 (leN l)) ∧ w = w' := by
  go_enter Tryz.func114, Tryz.ntmps114
  go_wp2
  go_loop [3, 8] (fun t i => ∃ k : Nat, k ≤ l.length ∧ i = .int .i64 k ∧ t = .int .u64 (leN (l.take k) : Nat)) (fun _ i => l.length - (intOf i).toNat)
  case atStart => exact ⟨0, Nat.zero_le _, rfl, rfl⟩
  case round =>
    obtain ⟨k, hk, rfl, rfl⟩ := hrel
    by_cases hlt : k < l.length
    · have hcell := hc k hlt
      have H := Lib.hid (le_step l h8 hl hlt)
      go_wp2
      go_round
      case rel => exact ⟨k + 1, by omega, by go_num, by rw [H.out]⟩
      case measure => simp [intOf]; omega
    · go_wp2
      go_ret
      exact ⟨ret_int (by rw [List.take_of_length_le (by omega)]), rfl⟩

attribute [local go_sem] Oper.semAt_some

theorem range_prefix {k n : Nat} (h : k ≤ n) : List.range k <+: List.range n := by
  obtain ⟨m, rfl⟩ := Nat.exists_eq_add_of_le h
  exact ⟨_, (List.range_add (n := k) (m := m)).symm⟩

set_option maxHeartbeats 400000 in
theorem chunk_any (a : Option Addr) (len cap : Nat) (w : World) :
    Calls Tryz.prog 52 #[.slice a len cap, .int .i64 8] w fun e w' =>
      e = .returned (.func (.func 81) #[] #[.pointer (some ⟨w.heap.size, 0, none⟩), .pointer (some ⟨w.heap.size + 1, 0, none⟩)]) ∧
      w' = (w.alloc (.cells #[.slice a len cap] 33)).alloc (.cells #[.int .i64 8] 3) := by
  go_enter Tryz.func52, Tryz.ntmps52
  go_wp2
  go_ret
  exact ⟨rfl, rfl⟩

/-- The k-th group of a slice. -/
def chunkV (b off len k : Nat) : Array Value := #[.slice (some ⟨b, off + 8 * k, none⟩) (min 8 (len - 8 * k)) (min 8 (len - 8 * k))]

set_option maxRecDepth 100000 in
set_option maxHeartbeats 2000000 in
theorem chunk_gives (b off len cap Bs Bn : Nat) (w : World) (hlen : len ≤ cap) (hcap : len ≤ 4611686018427387904)
    (hs : w.cell? ⟨Bs, 0, none⟩ = some (.slice (some ⟨b, off, none⟩) len cap)) (hn : w.cell? ⟨Bn, 0, none⟩ = some (.int .i64 8)) :
    Gives Tryz.prog 81 #[.pointer (some ⟨Bs, 0, none⟩), .pointer (some ⟨Bn, 0, none⟩)] (chunkV b off len) (fun k => k = Bs ∨ k = Bn) (List.range ((len + 7) / 8)) w := by
  intro l J Jx A W hQ hJ hJx hY h0
  have hQs := hQ Bs (.inl rfl)
  have hQn := hQ Bn (.inr rfl)
  refine callsIn_of_wp Tryz.func81 rfl trivial ?_ rfl
  simp only [Tryz.ntmps81, List.size_toArray, List.length_cons, List.length_nil, Nat.reduceAdd, Nat.reduceSub, Array.replicate_succ, Array.replicate_zero, List.push_toArray, List.append_toArray, List.nil_append, List.cons_append]
  gi_wp2
  gi_loopw [4] (fun i wr => ∃ (k : Nat) (A1 : Foot), k ≤ (len + 7) / 8 ∧ i = .int .i64 ((8 * k : Nat) : Int) ∧ J (List.range k) A1 wr ∧ ¬ A1 Bs ∧ ¬ A1 Bn ∧
      wr.cell? ⟨Bs, 0, none⟩ = some (.slice (some ⟨b, off, none⟩) len cap) ∧ wr.cell? ⟨Bn, 0, none⟩ = some (.int .i64 8) ∧ W.heap.size ≤ wr.heap.size)
    (fun i _ => len + 8 - (intOf i).toNat)
  case atStart =>
    exact ⟨0, A, Nat.zero_le _, rfl, h0, hQs.2.1, hQn.2.1, (World.cell?_of_block hQs.1).trans hs, (World.cell?_of_block hQn.1).trans hn, Nat.le_refl _⟩
  case round =>
    obtain ⟨k, A1, hk, rfl, hJ1, ns, nn, cs, cn, hsz⟩ := hrel
    clear hs hn hQ hQs hQn
    by_cases hlt : 8 * k < len
    · have hpk : List.range k ++ [k] <+: List.range ((len + 7) / 8) := by rw [← List.range_succ]; exact range_prefix (by omega)
      have hJd : J (List.range k) A1 wr.drew := hJ.abide _ _ _ _ hJ1 (Keeps.refl _ _).drew
      have hyy := hY (List.range k) k A1 wr.drew hpk hJd
      by_cases h8 : len - 8 * k < 8
      · have hv : chunkV b off len k = #[.slice (some ⟨b, off + 8 * k, none⟩) (len - 8 * k) (len - 8 * k)] := by
          unfold chunkV; rw [Nat.min_eq_right (by omega)]
        rw [hv] at hyy
        obtain ⟨fn, tmps, assign, body, hy, hR⟩ := hyy
        clear hv
        gi_wp2
        gi_region
        gi_wp2
        refine ⟨rfl, hR.mono ?_⟩
        clear hy hR
        rintro e W2 ⟨A2, hr, (⟨rfl, hJ2⟩ | ⟨rfl, hJ2⟩)⟩
        · have ds : wr.drew.cell? ⟨Bs, 0, none⟩ = some (.slice (some ⟨b, off, none⟩) len cap) := cs
          have dn : wr.drew.cell? ⟨Bn, 0, none⟩ = some (.int .i64 8) := cn
          have cs2 := hr.keeps.cell ds ns
          have cn2 := hr.keeps.cell dn nn
          have ns2 := hr.not ns (World.block_lt_of_cell? _ _ ds)
          have nn2 := hr.not nn (World.block_lt_of_cell? _ _ dn)
          have hsz2 : W.heap.size ≤ W2.heap.size := Nat.le_trans hsz hr.keeps.size
          have hJ3 : J (List.range (k + 1)) A2 W2 := by rw [List.range_succ]; exact hJ2
          clear hr ds dn hJ2
          gi_wp2
          go_roundw
          case rel => exact ⟨k + 1, A2, by omega, by go_num, hJ3, ns2, nn2, cs2, cn2, hsz2⟩
          case measure => simp [intOf]; omega
        · gi_wp2
          refine bodyPost_ret (results_none rfl _ _ _) rfl ?_
          exact ⟨⟨_, rfl⟩, A2, .inr ⟨_, hpk, hJ2⟩⟩
      · have hv : chunkV b off len k = #[.slice (some ⟨b, off + 8 * k, none⟩) 8 8] := by
          unfold chunkV; rw [Nat.min_eq_left (by omega)]
        rw [hv] at hyy
        obtain ⟨fn, tmps, assign, body, hy, hR⟩ := hyy
        clear hv
        gi_wp2
        gi_region
        gi_wp2
        refine ⟨rfl, hR.mono ?_⟩
        clear hy hR
        rintro e W2 ⟨A2, hr, (⟨rfl, hJ2⟩ | ⟨rfl, hJ2⟩)⟩
        · have ds : wr.drew.cell? ⟨Bs, 0, none⟩ = some (.slice (some ⟨b, off, none⟩) len cap) := cs
          have dn : wr.drew.cell? ⟨Bn, 0, none⟩ = some (.int .i64 8) := cn
          have cs2 := hr.keeps.cell ds ns
          have cn2 := hr.keeps.cell dn nn
          have ns2 := hr.not ns (World.block_lt_of_cell? _ _ ds)
          have nn2 := hr.not nn (World.block_lt_of_cell? _ _ dn)
          have hsz2 : W.heap.size ≤ W2.heap.size := Nat.le_trans hsz hr.keeps.size
          have hJ3 : J (List.range (k + 1)) A2 W2 := by rw [List.range_succ]; exact hJ2
          clear hr ds dn hJ2
          gi_wp2
          go_roundw
          case rel => exact ⟨k + 1, A2, by omega, by go_num, hJ3, ns2, nn2, cs2, cn2, hsz2⟩
          case measure => simp [intOf]; omega
        · gi_wp2
          refine bodyPost_ret (results_none rfl _ _ _) rfl ?_
          exact ⟨⟨_, rfl⟩, A2, .inr ⟨_, hpk, hJ2⟩⟩
    · obtain rfl : k = (len + 7) / 8 := by omega
      gi_wp2
      go_end0
      exact ⟨⟨_, rfl⟩, A1, .inl hJ1⟩

attribute [local go_sem] Oper.semAt_some

theorem Inv.later {β : Type} {B C : Nat} {J : β → Foot → World → Prop} (h : Inv B J) (hBC : B ≤ C) : Inv C J :=
  ⟨fun s A W W2 hs hk => h.abide s A W W2 hs (hk.mono fun k _ ⟨h1, h2⟩ => ⟨by omega, h2⟩), h.bound⟩

/-- The slice value v holds the bytes l in world w. -/
def Bytes (w : World) (v : Value) (l : List Nat) : Prop :=
  (∀ c ∈ l, c < 256) ∧ ∃ a cap, v = .slice a l.length cap ∧ l.length ≤ cap ∧ l.length ≤ 4611686018427387904 ∧
    (l ≠ [] → ∃ b off, a = some ⟨b, off, none⟩ ∧ ∀ j, j < l.length → w.cell? ⟨b, off + j, none⟩ = some (.int .u8 ((l[j]?.getD 0 : Nat) : Int)))

/-- The block that a slice value lies in. -/
def blockOf : Value → Foot
  | .slice (some a) _ _ => fun k => k = a.block
  | _ => fun _ => False

theorem wordsOf_any (a : Option Addr) (len cap : Nat) (w : World) :
    Calls Tryz.prog 95 #[.slice a len cap] w fun e w' =>
      e = .returned (.func (.func 113) #[] #[.pointer (some ⟨w.heap.size, 0, none⟩)]) ∧ w' = w.alloc (.cells #[.slice a len cap] 33) := by
  go_enter Tryz.func95, Tryz.ntmps95
  go_wp2
  go_ret
  exact ⟨rfl, rfl⟩

set_option maxRecDepth 100000 in
set_option maxHeartbeats 1000000 in
/-- A slice without elements has no groups. -/
theorem chunk_none {α : Type} (encs : α → Array Value) (a : Option Addr) (cap Bs Bn : Nat) (w : World)
    (hs : w.cell? ⟨Bs, 0, none⟩ = some (.slice a 0 cap)) (hn : w.cell? ⟨Bn, 0, none⟩ = some (.int .i64 8)) :
    Gives Tryz.prog 81 #[.pointer (some ⟨Bs, 0, none⟩), .pointer (some ⟨Bn, 0, none⟩)] encs (fun k => k = Bs ∨ k = Bn) [] w := by
  intro l J Jx A W hQ hJ hJx hY h0
  have cs := (World.cell?_of_block (hQ Bs (.inl rfl)).1).trans hs
  clear hQ hs hn hY
  refine callsIn_of_wp Tryz.func81 rfl trivial ?_ rfl
  simp only [Tryz.ntmps81, List.size_toArray, List.length_cons, List.length_nil, Nat.reduceAdd, Nat.reduceSub, Array.replicate_succ, Array.replicate_zero, List.push_toArray, List.append_toArray, List.nil_append, List.cons_append]
  gi_wp2
  gi_loopw [4] (fun i wr => i = .int .i64 0 ∧ wr = W) (fun _ _ => 0)
  case atStart => exact ⟨rfl, rfl⟩
  case round =>
    obtain ⟨rfl, rfl⟩ := hrel
    gi_wp2
    go_end0
    exact ⟨⟨_, rfl⟩, A, .inl h0⟩

theorem grp_get (l : List Nat) (k j : Nat) (hj : j < (grp l k).length) : (grp l k)[j]?.getD 0 = l[8 * k + j]?.getD 0 := by
  unfold grp at *
  rw [List.getElem?_take_of_lt (by simp at hj; omega), List.getElem?_drop]
theorem grp_length (l : List Nat) (k : Nat) : (grp l k).length = min 8 (l.length - 8 * k) := by simp [grp]

theorem map_prefix {α β : Type} (f : α → β) {a b : List α} (h : a <+: b) : a.map f <+: b.map f := by
  obtain ⟨t, rfl⟩ := h
  exact ⟨t.map f, by simp⟩

set_option maxRecDepth 100000 in
set_option maxHeartbeats 2000000 in
theorem words_gives (Bb : Nat) (sv : Value) (l : List Nat) (w : World) (hb : w.cell? ⟨Bb, 0, none⟩ = some sv) (hl : Bytes w sv l) :
    Gives Tryz.prog 113 #[.pointer (some ⟨Bb, 0, none⟩)] (fun x : Nat => #[.int .u64 (x : Int)]) (fun k => k = Bb ∨ blockOf sv k) (wordsN l) w := by
  intro lo J Jx A W hQ hJ hJx hY h0
  obtain ⟨hl8, a, cap, rfl, hcap, hcm, hne⟩ := hl
  have hQb := hQ Bb (.inl rfl)
  have cb := (World.cell?_of_block hQb.1).trans hb
  refine callsIn_of_wp_marks Tryz.func113 rfl trivial ?_ rfl
  simp only [Tryz.ntmps113, List.size_toArray, List.length_cons, List.length_nil, Nat.reduceAdd, Nat.reduceSub, Array.replicate_succ, Array.replicate_zero, List.push_toArray, List.append_toArray, List.nil_append, List.cons_append]
  have cb2 : ∀ o, (W.alloc o).cell? ⟨Bb, 0, none⟩ = some (.slice a l.length cap) := fun o => (World.cell?_of_block (Below.heap_alloc W o _ hQb.2.2)).trans cb
  gi_wp2_with fail
  refine ⟨trivial, rfl, (callsIn_wide.2 (chunk_any a l.length cap _)).mono ?_⟩
  rintro e w' ⟨rfl, rfl⟩
  gi_wp2_with fail
  -- the world in which the loop begins
  obtain ⟨W3, hW3⟩ : ∃ W3, ((W.alloc (Obj.cells #[Value.func (Fn.yield lo) #[] #[]] 157)).alloc (.cells #[.slice a l.length cap] 33)).alloc (.cells #[.int .i64 8] 3) = W3 := ⟨_, rfl⟩
  have k3 : ∀ B : Foot, Keeps B W W3 := fun B => by rw [← hW3]; exact (((Keeps.refl B W).alloc _).alloc _).alloc _
  have z3 : W3.heap.size = W.heap.size + 3 := by rw [← hW3]; simp
  simp only [Nat.add_assoc, Nat.reduceAdd]
  rw [hW3]
  have y3 : W3.heap[W.heap.size]? = some (.cells #[.func (.yield lo) #[] #[]] 157 (0, 0)) := by
    rw [← hW3, Below.heap_alloc _ _ _ (by simp; omega), Below.heap_alloc _ _ _ (by simp)]
    exact World.alloc_heap_new W _
  have s3 : W3.cell? ⟨W.heap.size + 1, 0, none⟩ = some (.slice a l.length cap) := by
    rw [← hW3, World.cell?_of_block (w := (W.alloc _).alloc _) (Below.heap_alloc _ _ _ (by simp))]
    have := (Boxed.new (W.alloc (Obj.cells #[Value.func (Fn.yield lo) #[] #[]] 157)) 33 (.slice a l.length cap)).cell
    rwa [World.size_alloc] at this
  have n3 : W3.cell? ⟨W.heap.size + 2, 0, none⟩ = some (.int .i64 8) := by
    rw [← hW3]
    have := (Boxed.new ((W.alloc (Obj.cells #[Value.func (Fn.yield lo) #[] #[]] 157)).alloc (.cells #[.slice a l.length cap] 33)) 3 (.int .i64 8)).cell
    rwa [World.size_alloc, World.size_alloc] at this
  have hnA : ∀ k, W.heap.size ≤ k → ¬ A k := fun k hk ha => by have := hJ.bound _ _ _ h0 k ha; omega
  -- the groups, and where they lie
  obtain ⟨b, off, hg, hcells⟩ : ∃ b off, Gives Tryz.prog 81 #[.pointer (some ⟨W.heap.size + 1, 0, none⟩), .pointer (some ⟨W.heap.size + 2, 0, none⟩)] (chunkV b off l.length) (fun k => k = W.heap.size + 1 ∨ k = W.heap.size + 2) (List.range ((l.length + 7) / 8)) W3 ∧
      (l ≠ [] → ¬ A b ∧ b < W.heap.size ∧ ∀ j, j < l.length → W3.cell? ⟨b, off + j, none⟩ = some (.int .u8 ((l[j]?.getD 0 : Nat) : Int))) := by
    by_cases hl0 : l = []
    · subst hl0
      exact ⟨0, 0, chunk_none _ a cap _ _ W3 s3 n3, fun h => (h rfl).elim⟩
    · obtain ⟨b, off, rfl, hcs⟩ := hne hl0
      have hQd := hQ b (.inr rfl)
      refine ⟨b, off, chunk_gives b off l.length cap _ _ W3 hcap hcm s3 n3, fun _ => ⟨hQd.2.1, hQd.2.2, fun j hj => ?_⟩⟩
      exact (k3 (fun _ => False)).cell ((World.cell?_of_block hQd.1).trans (hcs j hj)) (fun h => h)
  clear hne hQ hQb hb cb cb2 s3 n3
  refine wp_range (gf := 81) (lb := #[.pointer (some ⟨W.heap.size + 1, 0, none⟩), .pointer (some ⟨W.heap.size + 2, 0, none⟩)]) rfl (enters_of Tryz.func81 (by kernel_rfl) rfl) hg A
    (fun k hk => ⟨rfl, hnA k (by rcases hk with rfl | rfl <;> omega), by rcases hk with rfl | rfl <;> omega⟩) (fun _ => rfl)
    (fun pre A1 W1 => J (pre.map fun k => leN (grp l k)) A1 W1 ∧ ¬ A1 W.heap.size ∧ W1.heap[W.heap.size]? = some (.cells #[.func (.yield lo) #[] #[]] 157 (0, 0)) ∧
      (l ≠ [] → ¬ A1 b ∧ b < W.heap.size ∧ ∀ j, j < l.length → W1.cell? ⟨b, off + j, none⟩ = some (.int .u8 ((l[j]?.getD 0 : Nat) : Int))))
    (fun c pre A1 W1 => c = .ret ∧ Jx (pre.map fun k => leN (grp l k)) A1 W1) ?inv ?invx ⟨hJ.abide _ _ _ _ h0 (k3 _), hnA _ (Nat.le_refl _), y3, hcells⟩
    (fun pre x a1 A1 W1 => (J (pre.map fun k => leN (grp l k)) A1 W1 ∧ ¬ A1 W.heap.size ∧ W1.heap[W.heap.size]? = some (.cells #[.func (.yield lo) #[] #[]] 157 (0, 0)) ∧
      (l ≠ [] → ¬ A1 b ∧ b < W.heap.size ∧ ∀ j, j < l.length → W1.cell? ⟨b, off + j, none⟩ = some (.int .u8 ((l[j]?.getD 0 : Nat) : Int)))) ∧
      a1 = { tmps := #[.func (.yield lo) #[] #[], .pointer (some ⟨Bb, 0, none⟩), .pointer (some ⟨W.heap.size, 0, none⟩), .slice (some ⟨b, off + 8 * x, none⟩) (grp l x).length (grp l x).length, .slice a l.length cap,
        .func (.func 81) #[] #[.pointer (some ⟨W.heap.size + 1, 0, none⟩), .pointer (some ⟨W.heap.size + 2, 0, none⟩)], .slice (some ⟨b, off + 8 * x, none⟩) (grp l x).length (grp l x).length, undef, undef, undef, undef, undef], defers := [] })
    ?invA ?assign ?body ?done ?stop
  case inv =>
    refine ⟨?_, fun s A1 W1 h => hJ.bound _ _ _ h.1⟩
    rintro s A1 W1 W2 ⟨h1, h2, h3, h4⟩ hk
    exact ⟨(hJ.later (by omega)).abide _ _ _ _ h1 hk, h2, hk.obj h3 (by simp; omega), fun hl0 => ⟨(h4 hl0).1, (h4 hl0).2.1, fun j hj => hk.cell ((h4 hl0).2.2 j hj) (by have := (h4 hl0).2.1; simp; omega)⟩⟩
  case invx =>
    intro c
    exact ⟨fun s A1 W1 W2 ⟨h1, h2⟩ hk => ⟨h1, (hJx.later (by omega)).abide _ _ _ _ h2 hk⟩, fun s A1 W1 h => hJx.bound _ _ _ h.2⟩
  case invA =>
    intro pre x a1
    refine ⟨?_, fun s A1 W1 h => hJ.bound _ _ _ h.1.1⟩
    rintro s A1 W1 W2 ⟨⟨h1, h2, h3, h4⟩, h5⟩ hk
    exact ⟨⟨(hJ.later (by omega)).abide _ _ _ _ h1 hk, h2, hk.obj h3 (by simp; omega), fun hl0 => ⟨(h4 hl0).1, (h4 hl0).2.1, fun j hj => hk.cell ((h4 hl0).2.2 j hj) (by have := (h4 hl0).2.1; simp; omega)⟩⟩, h5⟩
  case assign =>
    intro l2 pre x A1 W1 K hpre hI hK
    have hx : chunkV b off l.length x = #[.slice (some ⟨b, off + 8 * x, none⟩) (grp l x).length (grp l x).length] := by unfold chunkV; rw [grp_length]
    rw [hx]
    gi_wp2
    exact hK _ _ _ (Round.refl _ _) ⟨hI, rfl⟩
  case body =>
    rintro l2 pre x a1 A1 W1 hl2 hn2 hr2 hpre ⟨⟨hj, h2, h3, h4⟩, rfl⟩
    have hxn : x < (l.length + 7) / 8 := by
      have := hpre.subset (a := x) (by simp)
      simpa using this
    have hl0 : l ≠ [] := fun h => by rw [h] at hxn; simp at hxn
    obtain ⟨hnb, hbW, hcl⟩ := h4 hl0
    have hmx : Tryz.prog.follows .mixedOrders = true := by kernel_rfl
    have hle := le_any b (off + 8 * x) (grp l x).length (grp l x) W1.drew (grp_len_le l x) (fun c hc => hl8 c (grp_mem hc)) (Nat.le_refl _)
      (fun j hj' => by rw [grp_get l x j hj', Nat.add_assoc]; exact hcl _ (by rw [grp_length] at hj'; omega))
    have hjd : J (pre.map fun k => leN (grp l k)) A1 W1.drew := hJ.abide _ _ _ _ hj (Keeps.refl _ _).drew
    have hpm : (pre.map fun k => leN (grp l k)) ++ [leN (grp l x)] <+: wordsN l := by
      have := map_prefix (fun k => leN (grp l k)) hpre
      simpa [wordsN] using this
    obtain ⟨fn, tmps, assign, body, hy, hR⟩ := hY _ _ _ _ hpm hjd
    have hR2 : RoundIn (Fence.wide.inRound l2) 0 Tryz.prog lo fn tmps assign body W1.drew fun e W2 => ∃ t : Bool, e = .returned (.bool t) ∧ ∃ A2, Round A1 A2 W1.drew W2 ∧
        ((t = true ∧ J ((pre.map fun k => leN (grp l k)) ++ [leN (grp l x)]) A2 W2) ∨ (t = false ∧ Jx ((pre.map fun k => leN (grp l k)) ++ [leN (grp l x)]) A2 W2)) := by
      refine hR.mono ?_
      rintro e W2 ⟨A2, hr, (⟨rfl, hJ2⟩ | ⟨rfl, hJ2⟩)⟩
      · exact ⟨true, rfl, A2, hr, .inl ⟨rfl, hJ2⟩⟩
      · exact ⟨false, rfl, A2, hr, .inr ⟨rfl, hJ2⟩⟩
    have cy : W1.cell? ⟨W.heap.size, 0, none⟩ = some (.func (.yield lo) #[] #[]) := by simp [World.cell?, h3]
    clear hR hY hg hcells h4 hJ hJx
    gi_wp2
    gi_region_with_o (first
      | (refine ⟨trivial, rfl, ?_⟩; gi_at_call 114; refine (CallsIn.inRound l2 (callsIn_wide.2 hle)).mono ?_; rintro e w' ⟨rfl, rfl⟩)
      | (refine ⟨rfl, ?_⟩; refine hR2.mono ?_; clear hR2 hy; rintro e W2 ⟨t, rfl, hp⟩))
    all_goals
      obtain ⟨A2, hr, (⟨rfl, hJ2⟩ | ⟨rfl, hJ2⟩)⟩ := hp
      · have hr1 : Round A1 A2 W1 W2 := (Round.same (Keeps.refl _ _).drew).trans hr
        gi_wp2
        refine ⟨A2, hr1, by rw [List.map_append]; exact hJ2, hr1.not h2 (Array.getElem?_eq_some_iff.1 h3).1, hr1.keeps.obj h3 h2, fun _ => ⟨hr1.not hnb ?_, hbW, fun j hj => hr1.keeps.cell (hcl j hj) hnb⟩⟩
        have := (Array.getElem?_eq_some_iff.1 h3).1
        omega
      · have hr1 : Round A1 A2 W1 W2 := (Round.same (Keeps.refl _ _).drew).trans hr
        gi_wp2
        exact ⟨A2, hr1, rfl, by rw [List.map_append]; exact hJ2⟩
  case done =>
    rintro D A2 W2 hD hnD ⟨h1, h2, h3, h4⟩ hK
    gi_wp2
    refine ⟨by simp, .inl ⟨_, _, rfl, run_takeDeferred hK, ?_⟩⟩
    exact ⟨_, results_none rfl _ _ _, ⟨_, rfl⟩, A2, .inl ((hJ.later (by omega)).abide _ _ _ _ h1 ((Keeps.refl _ _).putObj D _ ⟨hD, hnD⟩))⟩
  case stop =>
    rintro D c pre A2 W2 hD hnD hpre ⟨rfl, h2⟩ hK
    gi_wp2
    refine ⟨by simp, .inl ⟨_, _, rfl, run_takeDeferred hK, ?_⟩⟩
    exact ⟨_, results_none rfl _ _ _, ⟨_, rfl⟩, A2, .inr ⟨_, map_prefix _ hpre, (hJx.later (by omega)).abide _ _ _ _ h2 ((Keeps.refl _ _).putObj D _ ⟨hD, hnD⟩)⟩⟩

attribute [local go_sem] Oper.semAt_some

/-- The slice value v holds the integers zs of kind k in world w. -/
def Ints (k : IntKind) (w : World) (v : Value) (zs : List Int) : Prop :=
  ∃ a cap, v = .slice a zs.length cap ∧ zs.length ≤ cap ∧ zs.length ≤ 4611686018427387904 ∧
    (zs ≠ [] → ∃ b off, a = some ⟨b, off, none⟩ ∧ ∀ j, j < zs.length → w.cell? ⟨b, off + j, none⟩ = some (.int k (zs[j]?.getD 0)))

/-- A string's bytes. -/
def strN (s : ByteArray) : List Nat := s.data.toList.map UInt8.toNat

theorem strN_length (s : ByteArray) : (strN s).length = s.size := by simp [strN]
theorem strN_lt (s : ByteArray) : ∀ c ∈ strN s, c < 256 := by
  intro c hc
  obtain ⟨u, _, rfl⟩ := List.mem_map.1 hc
  exact u.toNat_lt
theorem strN_get (s : ByteArray) (j : Nat) (hj : j < s.size) : (strN s)[j]?.getD 0 = (s.data.toList.getD j 0).toNat := by
  have h : j < s.data.toList.length := by simpa using hj
  rw [strN, List.getElem?_map, List.getD_eq_getElem?_getD, List.getElem?_eq_getElem h]
  rfl

/-- A string as a byte slice: the bytes of the new row. -/
theorem bytes_of_string (w : World) (s : ByteArray) (hs : s.size ≤ 4611686018427387904) :
    Bytes (Lib.bytesWorld w 5 s) (.slice (some ⟨w.heap.size, 0, none⟩) s.size (grownCap w s.size 0 5)) (strN s) := by
  refine ⟨strN_lt s, some ⟨w.heap.size, 0, none⟩, _, by rw [strN_length], by rw [strN_length]; exact grownCap_ge _ _ _ _, by rw [strN_length]; exact hs, fun _ => ⟨_, _, rfl, fun j hj => ?_⟩⟩
  rw [strN_length] at hj
  rw [strN_get s j hj, Nat.zero_add]
  exact Lib.bytesWorld_cell w _ s j hj

theorem below_bytesWorld (B : Nat) (w : World) (s : ByteArray) (e : TypeId) (hB : B ≤ w.heap.size) : Below B w (Lib.bytesWorld w e s) :=
  ⟨rfl, rfl, rfl, by rw [Lib.bytesWorld_size]; omega, fun k hk => Lib.bytesWorld_at_old w e s k (by omega)⟩

theorem Bytes.below {w w' : World} {v : Value} {l : List Nat} (h : Bytes w v l) (hk : ∀ k, blockOf v k → w'.heap[k]? = w.heap[k]?) : Bytes w' v l := by
  obtain ⟨h1, a, cap, rfl, h2, h3, h4⟩ := h
  refine ⟨h1, a, cap, rfl, h2, h3, fun hl => ?_⟩
  obtain ⟨b, off, rfl, hc⟩ := h4 hl
  exact ⟨b, off, rfl, fun j hj => (World.cell?_of_block (hk b rfl)).trans (hc j hj)⟩

theorem wrap_ofInt (n : Int) : IntKind.u64.wrap n = ((ofInt n : Nat) : Int) := by
  rw [IntKind.wrap_u64]; unfold ofInt; omega
theorem mix_int (a : Nat) (n : Int) (w : World) (ha : a < T64) :
    Calls Tryz.prog 115 #[.int .u64 a, .int .u64 (IntKind.u64.wrap n)] w fun e w' => e = .returned (.int .u64 (mixN a (ofInt n))) ∧ w = w' := by
  rw [wrap_ofInt]; exact mix_any a _ w ha (ofInt_lt n)
theorem fold_take_succ (s : Nat) (zs : List Int) {k : Nat} (hk : k < zs.length) : fold s ((zs.take (k + 1)).map ofInt) = mixN (fold s ((zs.take k).map ofInt)) (ofInt zs[k]) := by
  rw [List.take_succ_eq_append_getElem hk, List.map_append, List.map_singleton, fold_snoc]

set_option maxRecDepth 100000 in
set_option maxHeartbeats 4000000 in
theorem sum_any (s : ByteArray) (v : Value) (zs : List Int) (w : World) (hs : s.size ≤ 4611686018427387904) (hz : Ints .i64 w v zs) :
    Calls Tryz.prog 96 #[.string s, v] w fun e w' => e = .returned (.int .u64 (sumN (strN s) zs)) ∧ Below w.heap.size w w' := by
  obtain ⟨a, cap, rfl, hcap, hcm, hne⟩ := hz
  refine (callsIn_wide (n := 0)).1 ?_
  refine callsIn_of_wp_marks Tryz.func96 rfl trivial ?_ rfl
  simp only [Tryz.ntmps96, List.size_toArray, List.length_cons, List.length_nil, Nat.reduceAdd, Nat.reduceSub, Array.replicate_succ, Array.replicate_zero, List.push_toArray, List.append_toArray, List.nil_append, List.cons_append]
  have hcv := fun (w : World) => Lib.run_convert_string_bytes (P := Tryz.prog) w 9 33 5 s Tryz.underlying9 Tryz.underlying33 Tryz.underlying5
  gi_wp2_with fail
  clear hcv
  refine ⟨trivial, rfl, (callsIn_wide.2 (wordsOf_any _ _ _ _)).mono ?_⟩
  rintro e w' ⟨rfl, rfl⟩
  gi_wp2_with fail
  -- the world in which the loop begins
  have hby := bytes_of_string (w.alloc (Obj.cells #[Value.int IntKind.u64 0] 67)) s hs
  have hbel := below_bytesWorld w.heap.size (w.alloc (Obj.cells #[Value.int IntKind.u64 0] 67)) s 5 (by simp)
  have hz2 := Lib.bytesWorld_size (w.alloc (Obj.cells #[Value.int IntKind.u64 0] 67)) 5 s
  have hold := Lib.bytesWorld_at_old (w.alloc (Obj.cells #[Value.int IntKind.u64 0] 67)) 5 s w.heap.size (by simp)
  rw [World.size_alloc] at hz2 hby
  generalize hC : grownCap (w.alloc (Obj.cells #[Value.int IntKind.u64 0] 67)) s.size 0 5 = C at *
  generalize hW2 : Lib.bytesWorld (w.alloc (Obj.cells #[Value.int IntKind.u64 0] 67)) 5 s = W2 at *
  clear hC hW2
  rw [hz2]
  simp only [Nat.add_assoc, Nat.reduceAdd] at hz2 ⊢
  have bx2 : Boxed W2 w.heap.size 67 (.int .u64 0) := hold.trans (World.alloc_heap_new w _)
  have bl2 : Below w.heap.size w W2 := ((Below.refl _ w).alloc (Nat.le_refl _) _).trans hbel
  clear hold hbel
  have c3 : (W2.alloc (.cells #[.slice (some ⟨w.heap.size + 1, 0, none⟩) s.size C] 33)).cell? ⟨w.heap.size + 2, 0, none⟩ = some (.slice (some ⟨w.heap.size + 1, 0, none⟩) s.size C) := by
    rw [← hz2]; exact (Boxed.new W2 _ _).cell
  have hby3 : Bytes (W2.alloc (.cells #[.slice (some ⟨w.heap.size + 1, 0, none⟩) s.size C] 33)) (.slice (some ⟨w.heap.size + 1, 0, none⟩) s.size C) (strN s) :=
    hby.below (fun k hk => Below.heap_alloc _ _ _ (by have : k = w.heap.size + 1 := hk; omega))
  have bx3 := bx2.alloc (.cells #[.slice (some ⟨w.heap.size + 1, 0, none⟩) s.size C] 33)
  have bl3 := bl2.alloc (by omega : w.heap.size ≤ W2.heap.size) (.cells #[.slice (some ⟨w.heap.size + 1, 0, none⟩) s.size C] 33)
  have z3 : (W2.alloc (.cells #[.slice (some ⟨w.heap.size + 1, 0, none⟩) s.size C] 33)).heap.size = w.heap.size + 3 := by rw [World.size_alloc, hz2]
  generalize W2.alloc (.cells #[.slice (some ⟨w.heap.size + 1, 0, none⟩) s.size C] 33) = W3 at *
  clear hby bx2 bl2 hz2
  have hg := words_gives (w.heap.size + 2) _ (strN s) W3 c3 hby3
  refine wp_range (gf := 113) (lb := #[.pointer (some ⟨w.heap.size + 2, 0, none⟩)]) rfl (enters_of Tryz.func113 (by kernel_rfl) rfl) hg (fun k => k = w.heap.size)
    (fun k hk => ⟨rfl, by rcases hk with rfl | hk; omega; (have : k = w.heap.size + 1 := hk); omega, by rcases hk with rfl | hk; omega; (have : k = w.heap.size + 1 := hk); omega⟩) (fun _ => rfl)
    (fun pre A1 W1 => (∀ k, A1 k ↔ k = w.heap.size) ∧ Boxed W1 w.heap.size 67 (.int .u64 (fold 0 pre : Nat)) ∧ Below w.heap.size w W1)
    (fun _ _ _ _ => False) ?inv ?invx ⟨fun _ => Iff.rfl, bx3, bl3⟩
    (fun pre x a1 A1 W1 => ((∀ k, A1 k ↔ k = w.heap.size) ∧ Boxed W1 w.heap.size 67 (.int .u64 (fold 0 pre : Nat)) ∧ Below w.heap.size w W1) ∧
      a1 = { tmps := #[.string s, .slice a zs.length cap, undef, undef, .int .u64 0, .pointer (some ⟨w.heap.size, 0, none⟩), .int .u64 (x : Nat), undef, undef, .string s, .slice (some ⟨w.heap.size + 1, 0, none⟩) s.size C, .func (.func 113) #[] #[.pointer (some ⟨w.heap.size + 2, 0, none⟩)], .int .u64 (x : Nat), undef, undef, undef, undef, undef, undef, undef, undef, undef, undef, undef, undef, undef, undef, undef, undef, undef, undef, undef, undef, undef, undef, undef, undef, undef, undef], defers := [] })
    ?invA ?assign ?body ?done ?stop
  case inv =>
    refine ⟨?_, fun s A1 W1 ⟨h1, h2, _⟩ k hk => by rw [(h1 k).1 hk]; exact h2.lt⟩
    rintro pre A1 W1 W4 ⟨h1, h2, h3⟩ hk
    exact ⟨h1, hk.obj h2 (by simp; omega), h3.trans (hk.below h3.size (by simp; omega))⟩
  case invx => exact fun c => ⟨fun _ _ _ _ h _ => h.elim, fun _ _ _ h => h.elim⟩
  case invA =>
    intro pre x a1
    refine ⟨?_, fun s A1 W1 ⟨⟨h1, h2, _⟩, _⟩ k hk => by rw [(h1 k).1 hk]; exact h2.lt⟩
    rintro _ A1 W1 W4 ⟨⟨h1, h2, h3⟩, h4⟩ hk
    exact ⟨⟨h1, hk.obj h2 (by simp; omega), h3.trans (hk.below h3.size (by simp; omega))⟩, h4⟩
  case assign =>
    intro l2 pre x A1 W1 K hpre hI hK
    gi_wp2
    exact hK _ _ _ (Round.refl _ _) ⟨hI, rfl⟩
  case body =>
    rintro l2 pre x a1 A1 W1 hl2 hn2 hr2 hpre ⟨⟨h1, h2, h3⟩, rfl⟩
    have hx : x < T64 := words_lt (strN_lt s) x (hpre.subset (by simp))
    have hc := h2.cell
    have hf := h2.frozen
    have hm := mix_any (fold 0 pre) x W1 (fold_lt (by decide) pre) hx
    clear hr2 hg hn2 c3 hby3 bx3
    gi_wp2_with fail
    refine ⟨trivial, rfl, (CallsIn.inRound l2 (callsIn_wide.2 hm)).mono ?_⟩
    clear hm
    rintro e w' ⟨rfl, rfl⟩
    gi_wp2
    refine ⟨A1, Round.same ((Keeps.refl _ _).setCell _ _ ((h1 _).2 rfl)), h1, ?_, h3.setCell (p := ⟨w.heap.size, 0, none⟩) (Nat.le_refl _) _⟩
    rw [fold_snoc]
    exact h2.set _
  case done =>
    rintro D A2 W2 hD hnD ⟨h1, h2, h3⟩ hK
    have hc := h2.cell
    have hf := h2.frozen
    have hDS : D ≠ w.heap.size := by omega
    clear hnD h1 hg c3 hby3 bx3 bl3
    have hm := mix_any (fold 0 (wordsN (strN s))) s.size W2 (fold_lt (by decide) _) (by unfold T64; omega)
    gi_wp2_with fail
    refine ⟨trivial, rfl, (callsIn_wide.2 hm).mono ?_⟩
    clear hm
    rintro e w' ⟨rfl, rfl⟩
    -- the length of the label is mixed in
    have b4 : Boxed (W2.setCell ⟨w.heap.size, 0, none⟩ (.int .u64 (mixN (fold 0 (wordsN (strN s))) s.size : Nat))) w.heap.size 67 (.int .u64 (mixN (fold 0 (wordsN (strN s))) s.size : Nat)) := h2.set _
    have l4 : Below w.heap.size w (W2.setCell ⟨w.heap.size, 0, none⟩ (.int .u64 (mixN (fold 0 (wordsN (strN s))) s.size : Nat))) := h3.setCell (p := ⟨w.heap.size, 0, none⟩) (Nat.le_refl _) _
    have k4 : (W2.setCell ⟨w.heap.size, 0, none⟩ (.int .u64 (mixN (fold 0 (wordsN (strN s))) s.size : Nat))).heap[D]? = some (.deferred (some [])) := (Below.heap_setCell _ _ _ _ hDS).trans hK
    have hc4 := b4.cell
    have hf4 := b4.frozen
    gi_wp2_with fail
    have hs0 : mixN (fold 0 (wordsN (strN s))) s.size < T64 := mixN_lt _ _
    generalize W2.setCell ⟨w.heap.size, 0, none⟩ (.int .u64 (mixN (fold 0 (wordsN (strN s))) s.size : Nat)) = W4 at *
    generalize hst : mixN (fold 0 (wordsN (strN s))) s.size = st at *
    have Hst := Lib.hid hst
    clear hst h2 h3 hK hc hf
    have hm := mix_any st zs.length W4 hs0 (by unfold T64; omega)
    refine ⟨trivial, rfl, (callsIn_wide.2 hm).mono ?_⟩
    clear hm
    rintro e w' ⟨rfl, rfl⟩
    -- the number of the words is mixed in
    have b5 : Boxed (W4.setCell ⟨w.heap.size, 0, none⟩ (.int .u64 (mixN st zs.length : Nat))) w.heap.size 67 (.int .u64 (mixN st zs.length : Nat)) := b4.set _
    have l5 : Below w.heap.size w (W4.setCell ⟨w.heap.size, 0, none⟩ (.int .u64 (mixN st zs.length : Nat))) := l4.setCell (p := ⟨w.heap.size, 0, none⟩) (Nat.le_refl _) _
    have k5 : (W4.setCell ⟨w.heap.size, 0, none⟩ (.int .u64 (mixN st zs.length : Nat))).heap[D]? = some (.deferred (some [])) := (Below.heap_setCell _ _ _ _ hDS).trans k4
    have hs1 : mixN st zs.length < T64 := mixN_lt _ _
    gi_wp2_with fail
    generalize W4.setCell ⟨w.heap.size, 0, none⟩ (.int .u64 (mixN st zs.length : Nat)) = W5 at *
    clear b4 l4 k4 hc4 hf4
    gi_loopw [28] (fun i wr => ∃ k : Nat, k ≤ zs.length ∧ i = .int .i64 k ∧ Boxed wr w.heap.size 67 (.int .u64 (fold (mixN st zs.length) ((zs.take k).map ofInt) : Nat)) ∧ Below w.heap.size w wr ∧ wr.heap[D]? = some (.deferred (some [])))
      (fun i _ => zs.length - (intOf i).toNat)
    case atStart => exact ⟨0, Nat.zero_le _, rfl, b5, l5, k5⟩
    case round =>
      obtain ⟨k, hk, rfl, b6, l6, k6⟩ := hrel
      clear b5 l5 k5
      have hc := b6.cell
      have hf := b6.frozen
      have hs6 : fold (mixN st zs.length) ((zs.take k).map ofInt) < T64 := fold_lt hs1 _
      by_cases hlt : k < zs.length
      · obtain ⟨b, off, rfl, hcs⟩ := hne (fun h => by simp [h] at hlt)
        have hck : wr.cell? ⟨b, off + k, none⟩ = some (.int .i64 (zs[k]?.getD 0)) := by
          have h0 := hcs k hlt
          exact (l6.cell (p := ⟨b, off + k, none⟩) (World.block_lt_of_cell? _ _ h0)).trans h0
        clear hne hcs
        have hm := mix_int (fold (mixN st zs.length) ((zs.take k).map ofInt)) zs[k] wr hs6
        have HS := Lib.hid (fold_take_succ (mixN st zs.length) zs hlt)
        generalize hft : fold (mixN st zs.length) ((zs.take k).map ofInt) = ft at *
        clear hft
        gi_wp2_with fail
        refine ⟨trivial, rfl, (callsIn_wide.2 hm).mono ?_⟩
        clear hm
        rintro e w' ⟨rfl, rfl⟩
        have b7 : Boxed (wr.setCell ⟨w.heap.size, 0, none⟩ (.int .u64 (mixN ft (ofInt zs[k]) : Nat))) w.heap.size 67 (.int .u64 (mixN ft (ofInt zs[k]) : Nat)) := b6.set _
        have l7 : Below w.heap.size w (wr.setCell ⟨w.heap.size, 0, none⟩ (.int .u64 (mixN ft (ofInt zs[k]) : Nat))) := l6.setCell (p := ⟨w.heap.size, 0, none⟩) (Nat.le_refl _) _
        have k7 : (wr.setCell ⟨w.heap.size, 0, none⟩ (.int .u64 (mixN ft (ofInt zs[k]) : Nat))).heap[D]? = some (.deferred (some [])) := (Below.heap_setCell _ _ _ _ hDS).trans k6
        gi_wp2_with fail
        go_roundw
        case rel => exact ⟨k + 1, by omega, by go_num, by rw [HS.out]; exact b7, l7, k7⟩
        case measure => simp [intOf]; omega
      · obtain rfl : k = zs.length := by omega
        clear hne
        have hm := mix_any (fold (mixN st zs.length) ((zs.take zs.length).map ofInt)) 0 wr hs6 (by decide)
        have HF : Hid (mixN (fold (mixN st zs.length) ((zs.take zs.length).map ofInt)) 0 = sumN (strN s) zs) := by
          rw [List.take_length, ← Hst.out, ← strN_length]; rfl
        generalize hft : fold (mixN st zs.length) ((zs.take zs.length).map ofInt) = ft at *
        clear hft
        gi_wp2_with fail
        refine ⟨trivial, rfl, (callsIn_wide.2 hm).mono ?_⟩
        clear hm
        rintro e w' ⟨rfl, rfl⟩
        gi_wp2_with fail
        refine ⟨by simp, .inl ⟨_, _, rfl, run_takeDeferred k6, ?_⟩⟩
        rw [← HF.out]
        refine ⟨_, results_tmp (t := 4) rfl _ _ _, rfl, l6.trans ((Keeps.refl (fun k => w.heap.size ≤ k) wr).putObj D _ ?_ |>.below l6.size (fun _ h => h))⟩
        omega
  case stop =>
    intro D c pre A2 W2 hD hnD hpre h hK
    exact h.elim

theorem wrap_toInt {n : Nat} (h : n < T64) : wrap64 (n : Int) = toInt n := by
  unfold T64 at h
  unfold wrap64 toInt
  split <;> omega

theorem cell_at {W : World} {b j : Nat} {cs : Array Value} {t : TypeId} {m : Nat × Nat} (h : W.heap[b]? = some (.cells cs t m)) : W.cell? ⟨b, j, none⟩ = cs[j]? := by
  unfold World.cell?
  rw [h]; simp

/-- A row that has just been laid reads as the integers that it was laid with. -/
theorem ints_new (w : World) (k : IntKind) (t : TypeId) (zs : List Int) (hz : zs.length ≤ 4611686018427387904) :
    Ints k (w.alloc (.cells (zs.map (Value.int k)).toArray t)) (.slice (some ⟨w.heap.size, 0, none⟩) zs.length zs.length) zs := by
  refine ⟨_, _, rfl, Nat.le_refl _, hz, fun _ => ⟨_, _, rfl, fun j hj => ?_⟩⟩
  have h : (w.alloc (.cells (zs.map (Value.int k)).toArray t)).heap[w.heap.size]? = _ := World.alloc_heap_new w _
  rw [Nat.zero_add, cell_at h]
  simp [hj]

theorem bytes_new (w : World) (t : TypeId) (l : List Nat) (h8 : ∀ c ∈ l, c < 256) (hz : l.length ≤ 4611686018427387904) :
    Bytes (w.alloc (.cells (l.map fun c : Nat => Value.int .u8 (c : Int)).toArray t)) (.slice (some ⟨w.heap.size, 0, none⟩) l.length l.length) l := by
  refine ⟨h8, _, _, rfl, Nat.le_refl _, hz, fun _ => ⟨_, _, rfl, fun j hj => ?_⟩⟩
  have h : (w.alloc (.cells (l.map fun c : Nat => Value.int .u8 (c : Int)).toArray t)).heap[w.heap.size]? = _ := World.alloc_heap_new w _
  rw [Nat.zero_add, cell_at h]
  simp [hj]

theorem below_new (w : World) (o : Obj) {w2 : World} (h : Below (w.alloc o).heap.size (w.alloc o) w2) : Below w.heap.size w w2 :=
  ((Below.refl _ w).alloc (Nat.le_refl _) o).trans (h.mono (by simp))

theorem below_then {w a b : World} (h : Below w.heap.size w a) (k : Below a.heap.size a b) : Below w.heap.size w b := h.trans (k.mono h.size)

attribute [local go_sem] Oper.semAt_some

theorem info_int : (Tryz.prog.info? 3).map (fun i => (i.zero, i.size, i.bytes)) = some (some (.int .i64 0), 1, 8) := by kernel_rfl

/-- What a slice owns lies on where its row is not touched. -/
theorem ownsRow_keeps {A : Foot} {W W2 : World} (hk : Keeps A W W2) {base : Nat} {e : TypeId} {size g n cap : Nat} {xs : List Value}
    (h : W.ownsRow base e size (.slice (some ⟨g, 0, none⟩) n cap) n xs) (hg : ¬ A g) : W2.ownsRow base e size (.slice (some ⟨g, 0, none⟩) n cap) n xs := by
  refine ⟨h.1, ?_⟩
  rcases h.2 with ⟨h1, _⟩ | ⟨g', cap', cur, h1, h2, h3, h4⟩
  · cases h1
  · have hg' : g' = g := by injection h1 with h1 _ _; injection h1 with h1; injection h1 with h1; exact h1.symm
    subst hg'
    exact .inr ⟨g', cap', cur, h1, h2, hk.obj h3 hg, h4⟩

theorem ints_of_owns {W : World} {base : Nat} {e : TypeId} {g cap : Nat} {k : IntKind} {zs : List Int} (hcap : zs.length ≤ cap) (hz : zs.length ≤ 4611686018427387904)
    (h : W.ownsRow base e 1 (.slice (some ⟨g, 0, none⟩) zs.length cap) zs.length (zs.map (Value.int k))) : Ints k W (.slice (some ⟨g, 0, none⟩) zs.length cap) zs := by
  refine ⟨_, _, rfl, hcap, hz, fun _ => ⟨g, 0, rfl, fun j hj => ?_⟩⟩
  have := h.cells (g := g) rfl j (.int k (zs[j]?.getD 0)) (by simp [hj])
  have e : (⟨g, 0, none⟩ : Addr).add j = ⟨g, 0 + j, none⟩ := by unfold Addr.add; split <;> simp_all
  rwa [e] at this

set_option maxRecDepth 100000 in
set_option maxHeartbeats 4000000 in
theorem bytes_any (s : ByteArray) (v : Value) (l : List Nat) (w : World) (hs : s.size ≤ 4611686018427387904) (hl : Bytes w v l) (hv : ∀ k, blockOf v k → k < w.heap.size) (hlen : l.length ≤ 140737488351232) :
    Calls Tryz.prog 67 #[.string s, v] w fun e w' => e = .returned (.int .u64 (bytesN (strN s) l)) ∧ Below w.heap.size w w' := by
  obtain ⟨i0, hi, hz0, hz1, hz2⟩ := info_parts info_int
  obtain ⟨a, cap, rfl⟩ : ∃ a cap, v = .slice a l.length cap := by obtain ⟨_, a, cap, h, _⟩ := hl; exact ⟨a, cap, h⟩
  have hl8 := hl.1
  refine (callsIn_wide (n := 0)).1 ?_
  refine callsIn_of_wp_marks Tryz.func67 rfl trivial ?_ rfl
  simp only [Tryz.ntmps67, List.size_toArray, List.length_cons, List.length_nil, Nat.reduceAdd, Nat.reduceSub, Array.replicate_succ, Array.replicate_zero, List.push_toArray, List.append_toArray, List.nil_append, List.cons_append]
  gi_wp2_with (gi_at_make; refine wpListIn_make_own _ rfl _ _ 22 rfl w.heap.size 3 i0 (.int .i64 0) 1 Tryz.underlying22 hi hz0 hz1 _ _ _ (l.length / 8 + 2) rfl rfl (by omega) (by rw [hz2]; omega) (by unfold maxLen; omega) (Nat.le_refl _) ?_; intro w1 hrow1 hg1)
  have hgB : w.heap.size < w1.heap.size := (hrow1.lt _ rfl).2
  refine ⟨trivial, rfl, (callsIn_wide.2 (wordsOf_any _ _ _ _)).mono ?_⟩
  rintro e w' ⟨rfl, rfl⟩
  gi_wp2_with fail
  have bel1 : Below w.heap.size w w1 := (Below.refl _ w).grown hg1 (Nat.le_refl _) (fun k h => by cases h)
  obtain ⟨W3, hW3⟩ : ∃ W3, (w1.alloc (Obj.cells #[Value.slice (some ⟨w.heap.size, 0, none⟩) 0 (l.length / 8 + 2)] 22)).alloc (.cells #[.slice a l.length cap] 33) = W3 := ⟨_, rfl⟩
  rw [hW3]
  have k3 : ∀ A : Foot, Keeps A w1 W3 := fun A => by rw [← hW3]; exact ((Keeps.refl A w1).alloc _).alloc _
  have z3 : W3.heap.size = w1.heap.size + 2 := by rw [← hW3]; simp
  have bx3 : Boxed W3 w1.heap.size 22 (.slice (some ⟨w.heap.size, 0, none⟩) 0 (l.length / 8 + 2)) := by rw [← hW3]; exact (Boxed.new w1 _ _).alloc _
  have c3 : W3.cell? ⟨w1.heap.size + 1, 0, none⟩ = some (.slice a l.length cap) := by
    rw [← hW3]
    have := (Boxed.new (w1.alloc (Obj.cells #[Value.slice (some ⟨w.heap.size, 0, none⟩) 0 (l.length / 8 + 2)] 22)) 33 (.slice a l.length cap)).cell
    rwa [World.size_alloc] at this
  have or3 := ownsRow_keeps (k3 (fun _ => False)) hrow1 (fun h => h)
  have bl3 : Below w.heap.size w W3 := bel1.trans ((k3 (fun k => w.heap.size ≤ k)).below (Nat.le_of_lt hgB) (fun _ h => h))
  have hby3 : Bytes W3 (.slice a l.length cap) l := hl.below (fun k hk => bl3.block k (hv k hk))
  generalize w1.heap.size = B at *
  clear hW3 k3 hrow1 hg1 bel1 hl
  have hg := words_gives (B + 1) _ l W3 c3 hby3
  refine wp_range (gf := 113) (lb := #[.pointer (some ⟨B + 1, 0, none⟩)]) rfl (enters_of Tryz.func113 (by kernel_rfl) rfl) hg (fun k => k = B ∨ k = w.heap.size)
    (fun k hk => ⟨rfl, by rcases hk with rfl | hk; omega; (have := hv k hk); omega, by rcases hk with rfl | hk; omega; (have := hv k hk); omega⟩) (fun _ => rfl)
    (fun pre A1 W1 => (∀ k, A1 k ↔ k = B ∨ k = w.heap.size) ∧ Boxed W1 B 22 (.slice (some ⟨w.heap.size, 0, none⟩) pre.length (l.length / 8 + 2)) ∧
      W1.ownsRow w.heap.size 3 1 (.slice (some ⟨w.heap.size, 0, none⟩) pre.length (l.length / 8 + 2)) pre.length ((pre.map toInt).map (Value.int .i64)) ∧ Below w.heap.size w W1)
    (fun _ _ _ _ => False) ?inv ?invx ⟨fun _ => Iff.rfl, bx3, or3, bl3⟩
    (fun pre x a1 A1 W1 => ((∀ k, A1 k ↔ k = B ∨ k = w.heap.size) ∧ Boxed W1 B 22 (.slice (some ⟨w.heap.size, 0, none⟩) pre.length (l.length / 8 + 2)) ∧
      W1.ownsRow w.heap.size 3 1 (.slice (some ⟨w.heap.size, 0, none⟩) pre.length (l.length / 8 + 2)) pre.length ((pre.map toInt).map (Value.int .i64)) ∧ Below w.heap.size w W1) ∧
      a1 = { tmps := #[.string s, .slice a l.length cap, undef, undef, .int .u64 0, .pointer (some ⟨B, 0, none⟩), .int .u64 (x : Nat), .slice a l.length cap, .int .i64 l.length, .int .i64 ((l.length : Int) / 8), .int .i64 ((l.length : Int) / 8 + 2), .slice (some ⟨w.heap.size, 0, none⟩) 0 (l.length / 8 + 2), .slice a l.length cap, .func (.func 113) #[] #[.pointer (some ⟨B + 1, 0, none⟩)], .int .u64 (x : Nat), undef, undef, undef, undef, undef, undef, undef, undef, undef, undef, undef, undef], defers := [] })
    ?invA ?assign ?body ?done ?stop
  case inv =>
    refine ⟨?_, fun s A1 W1 ⟨h1, h2, h3, _⟩ k hk => ?_⟩
    · rintro pre A1 W1 W4 ⟨h1, h2, h3, h4⟩ hk
      exact ⟨h1, hk.obj h2 (by simp; omega), ownsRow_keeps hk h3 (by simp; omega), h4.trans (hk.below h4.size (by simp; omega))⟩
    · rcases (h1 k).1 hk with rfl | rfl
      · exact h2.lt
      · exact (h3.lt _ rfl).2
  case invx => exact fun c => ⟨fun _ _ _ _ h _ => h.elim, fun _ _ _ h => h.elim⟩
  case invA =>
    intro pre x a1
    refine ⟨?_, fun s A1 W1 ⟨⟨h1, h2, h3, _⟩, _⟩ k hk => ?_⟩
    · rintro _ A1 W1 W4 ⟨⟨h1, h2, h3, h4⟩, h5⟩ hk
      exact ⟨⟨h1, hk.obj h2 (by simp; omega), ownsRow_keeps hk h3 (by simp; omega), h4.trans (hk.below h4.size (by simp; omega))⟩, h5⟩
    · rcases (h1 k).1 hk with rfl | rfl
      · exact h2.lt
      · exact (h3.lt _ rfl).2
  case assign =>
    intro l2 pre x A1 W1 K hpre hI hK
    gi_wp2
    exact hK _ _ _ (Round.refl _ _) ⟨hI, rfl⟩
  case body =>
    rintro l2 pre x a1 A1 W1 hl2 hn2 hr2 hpre ⟨⟨h1, h2, h3, h4⟩, rfl⟩
    have hx : x < T64 := words_lt hl8 x (hpre.subset (by simp))
    have hn : pre.length + 1 ≤ (l.length + 7) / 8 := by
      have := hpre.length_le
      rwa [List.length_append, words_length] at this
    have HX := Lib.hid (wrap_toInt hx)
    have hc := h2.cell
    have hf := h2.frozen
    clear hr2 hg hn2 c3 hby3 bx3 or3 hx
    gi_wp2_with (gi_at_builtin; refine wpListIn_append_fits _ rfl _ _ 22 rfl w.heap.size 3 i0 1 Tryz.underlying22 hi hz1 w.heap.size pre.length (l.length / 8 + 2) _ rfl (h3.alloc _) ⟨W1.heap.size, 0, none⟩ 1 1 [.int .i64 (wrap64 (x : Int))] rfl rfl (cell_one_new _ _ _) (by simp [Value.oneCell']) (by omega) ?_; intro w2 hown2 hgrow2; have hb2 := (h2.alloc _).kept hgrow2 (by simp; omega); have hc2 := hb2.cell; have hf2 := hb2.frozen)
    have kk : Keeps A1 W1 (w2.setCell ⟨B, 0, none⟩ (.slice (some ⟨w.heap.size, 0, none⟩) (pre.length + 1) (l.length / 8 + 2))) :=
      (((Keeps.refl A1 W1).alloc _).trans (Keeps.of_grown hgrow2 (fun k e => by cases e; exact (h1 _).2 (.inr rfl)))).setCell _ _ ((h1 _).2 (.inl rfl))
    refine ⟨A1, Round.same kk, h1, ?_, ?_, h4.trans (kk.below h4.size (fun k hk => by rcases (h1 k).1 hk with rfl | rfl <;> omega))⟩
    · rw [List.length_append, List.length_singleton]; exact hb2.set _
    · rw [List.length_append, List.length_singleton, List.map_append, List.map_append, List.map_singleton, List.map_singleton, ← HX.out]
      exact hown2.kept (grownBy_setCell' w2 B _) (.inr (by simp [Value.ownBlock]; omega))
  case done =>
    rintro D A2 W2 hD hnD ⟨h1, h2, h3, h4⟩ hK
    have hc := h2.cell
    have hf := h2.frozen
    have hwl : (wordsN l).length + 1 ≤ l.length / 8 + 2 := by rw [words_length]; omega
    have hDg : D ≠ w.heap.size := by omega
    have hDl : D < W2.heap.size := (Array.getElem?_eq_some_iff.1 hK).1
    clear hg c3 hby3 bx3 or3 bl3
    gi_wp2_with (gi_at_builtin; refine wpListIn_append_fits _ rfl _ _ 22 rfl w.heap.size 3 i0 1 Tryz.underlying22 hi hz1 w.heap.size (wordsN l).length (l.length / 8 + 2) _ rfl (h3.alloc _) ⟨W2.heap.size, 0, none⟩ 1 1 [.int .i64 (l.length : Int)] rfl rfl (cell_one_new _ _ _) (by simp [Value.oneCell']) (by omega) ?_; intro w2 hown2 hgrow2)
    have bel2 : Below w.heap.size w w2 := (h4.alloc h4.size _).grown hgrow2 (by have := h4.size; simp; omega) (fun k e => by cases e; exact Nat.le_refl _)
    have hK2 : w2.heap[D]? = some (.deferred (some [])) := (hgrow2.block D (by simp; omega) (by simp; omega)).trans ((Below.heap_alloc _ _ _ hDl).trans hK)
    have hmm : (wordsN l).length + 1 = ((wordsN l).map toInt ++ [(l.length : Int)]).length := by simp
    have hint : Ints .i64 w2 (.slice (some ⟨w.heap.size, 0, none⟩) ((wordsN l).length + 1) (l.length / 8 + 2)) ((wordsN l).map toInt ++ [(l.length : Int)]) := by
      rw [hmm] at hown2 ⊢
      exact ints_of_owns (by rw [← hmm]; omega) (by rw [← hmm]; omega) (by rw [List.map_append, List.map_singleton]; exact hown2)
    refine ⟨trivial, rfl, (callsIn_wide.2 (sum_any s _ _ w2 hs hint)).mono ?_⟩
    rintro e w5 ⟨rfl, hb5⟩
    have hK5 : w5.heap[D]? = some (.deferred (some [])) := (hb5.block D (Array.getElem?_eq_some_iff.1 hK2).1).trans hK2
    clear hi hz0 hz1 hz2 hown2 hgrow2 hint hK hK2 hmm
    gi_wp2_with fail
    refine ⟨by simp, .inl ⟨_, _, rfl, run_takeDeferred hK5, ?_⟩⟩
    refine ⟨_, results_tmp (t := 4) rfl _ _ _, rfl, (below_then bel2 hb5).trans ((Keeps.refl (fun k => w.heap.size ≤ k) _).putObj D _ ?_ |>.below (below_then bel2 hb5).size (fun _ h => h))⟩
    omega
  case stop =>
    intro D c pre A2 W2 hD hnD hpre h hK
    exact h.elim

/-! ### One word -/
theorem fold_word {s : Nat} (hs : s < T64) (us vs : List Nat) {a b : Nat} (ha : a < T64) (hb : b < T64) (hv : ∀ w ∈ vs, w < T64)
    (h : fold s (us ++ a :: vs) = fold s (us ++ b :: vs)) : a = b := by
  rw [fold_append, fold_append, fold_cons, fold_cons] at h
  exact mixN_word (fold_lt hs us) ha hb (fold_state (mixN_lt _ _) (mixN_lt _ _) vs hv h)

theorem map_ofInt_lt (zs : List Int) : ∀ w ∈ zs.map ofInt, w < T64 := by
  intro w hw
  obtain ⟨z, _, rfl⟩ := List.mem_map.1 hw
  exact ofInt_lt z

theorem sumN_word (label : List Nat) (us vs : List Int) {a b : Int} (h : sumN label (us ++ a :: vs) = sumN label (us ++ b :: vs)) : ofInt a = ofInt b := by
  unfold sumN at h
  have h2 := mixN_state (by decide) (fold_lt (mixN_lt _ _) _) (fold_lt (mixN_lt _ _) _) h
  rw [List.map_append, List.map_append, List.map_cons, List.map_cons] at h2
  rw [show (us ++ a :: vs).length = (us ++ b :: vs).length by simp] at h2
  exact fold_word (mixN_lt _ _) _ _ (ofInt_lt a) (ofInt_lt b) (map_ofInt_lt vs) h2

theorem pairN_first {a b c : Nat} (ha : a < T64) (hb : b < T64) (h : pairN a c = pairN b c) : a = b := by
  have := sumN_word _ [] [toInt c] h
  rwa [ofInt_toInt ha, ofInt_toInt hb] at this
theorem pairN_second {a b c : Nat} (ha : a < T64) (hb : b < T64) (h : pairN c a = pairN c b) : a = b := by
  have := sumN_word _ [toInt c] [] h
  rwa [ofInt_toInt ha, ofInt_toInt hb] at this

/-! ### The documented examples -/
theorem ne_bool {a b : Nat} (h : a ≠ b) : ((a : Int) != (b : Int)) = true := by
  rw [bne_iff_ne]; intro e; exact h (Int.ofNat.inj e)
theorem eq_bool {a b : Nat} (h : a = b) : ((a : Int) == (b : Int)) = true := by
  rw [beq_iff_eq, h]
theorem eq_false {a b : Nat} (h : a ≠ b) : ((a : Int) == (b : Int)) = false := by
  rw [beq_eq_false_iff_ne]; intro e; exact h (Int.ofNat.inj e)

theorem ex_sum : sumN (strN ⟨#[97]⟩) [5] ≠ sumN (strN ⟨#[97]⟩) [6] := fun h => by
  have := sumN_word _ [] [] h
  revert this; decide
theorem ex_bytes : bytesN (strN ⟨#[97]⟩) [1, 2] = sumN (strN ⟨#[97]⟩) [513, 2] := by
  unfold bytesN
  rw [show (wordsN [1, 2]).map toInt ++ [(([1, 2] : List Nat).length : Int)] = [513, 2] by decide]
theorem ex_pair : pairN 1 2 ≠ pairN 1 3 := fun h => by
  have := pairN_second (by decide) (by decide) h
  revert this; decide

/-- A slice value as an argument may come: its elements are the integers zs. -/
def Row (k : IntKind) (w : World) (v : Value) (zs : List Int) : Prop :=
  ∃ a cap, v = .slice a zs.length cap ∧ zs.length ≤ cap ∧ cap ≤ 9223372036854775807 ∧
    (zs ≠ [] → ∃ b off, a = some ⟨b, off, none⟩ ∧ ∀ j, j < zs.length → w.cell? ⟨b, off + j, none⟩ = some (.int k (zs[j]?.getD 0))) ∧ (a = none → zs = [] ∧ cap = 0)

/-- A slice that the call has made: v holds the integers zs, in a row of its own from block B on; or it is nil and there are none. -/
def Fresh (B : Nat) (e : TypeId) (k : IntKind) (w : World) (v : Value) (zs : List Int) : Prop := w.ownsRow B e 1 v zs.length (zs.map (Value.int k))

def natI (l : List Nat) : List Int := l.map fun c : Nat => (c : Int)

def CutTo (m : Nat) (w : World) (e : Ending) (w' : World) : Prop := ∃ t : ByteArray, e = .returned (.string t) ∧ t.size ≤ m ∧ w = w'

/-- n brought to the range from 0 on below m. -/
def aroundI (n : Int) (m : Int) : Int := (if n < 0 then -(n + 1) else n) % m

set_option maxHeartbeats 400000 in
theorem around_any (n : Int) (m : Nat) (w : World) (hn : -9223372036854775808 ≤ n ∧ n ≤ 9223372036854775807) (hm : 1 ≤ m) (hm2 : m ≤ 4611686018427387904) :
    Calls Tryz.prog 11 #[.int .i64 n, .int .i64 (m : Int)] w fun e w' => e = .returned (.int .i64 (aroundI n m)) ∧ w = w' := by
  by_cases h : n < 0
  · go_enter Tryz.func11, Tryz.ntmps11
    go_wp2
    go_ret
    exact ⟨ret_int (by unfold aroundI; rw [if_pos h, ← Int.neg_tmod, Int.tmod_eq_emod_of_nonneg (by omega)]), rfl⟩
  · have h0 : 0 ≤ n := by omega
    clear h
    go_enter Tryz.func11, Tryz.ntmps11
    go_wp2
    go_ret
    exact ⟨ret_int (by unfold aroundI; rw [if_neg (by omega)]), rfl⟩

def Copies (e : TypeId) (k : IntKind) (zs : List Int) (w : World) (en : Ending) (w' : World) : Prop :=
  ∃ v, en = .returned v ∧ Fresh w.heap.size e k w' v zs ∧ Below w.heap.size w w'

theorem fresh_nil (B : Nat) (e : TypeId) (k : IntKind) (w : World) : Fresh B e k w (.slice none 0 0) [] := World.ownsRow_nil w B e 1

theorem copies_mk {e : TypeId} {k : IntKind} {zs : List Int} {w w' : World} {v : Value} (h1 : Fresh w.heap.size e k w' v zs) (h2 : Below w.heap.size w w') : Copies e k zs w (.returned v) w' :=
  ⟨v, rfl, h1, h2⟩

-- BEGIN COPY
set_option maxHeartbeats 1000000 in
theorem refInts_any (v : Value) (zs : List Int) (m : Nat) (w : World) (hv : Row .i64 w v zs) (hm : m ≤ 1000000) :
    Calls Tryz.prog 15 #[v, .int .i64 (m : Int)] w (Copies 3 .i64 (zs.take m) w) := by
  obtain ⟨i0, hi, hz0, hz1, hz2⟩ := info_parts info_int
  obtain ⟨a, cap, rfl, hcap, hcm, hne, hnil⟩ := hv
  rcases a with _ | x
  · obtain ⟨rfl, rfl⟩ := hnil rfl
    clear hne hnil
    go_enter Tryz.func15, Tryz.ntmps15
    go_wp2
    go_ret
    rw [List.take_nil]
    exact copies_mk (fresh_nil _ _ _ _) (Below.refl _ _)
  · clear hnil
    by_cases hz : zs = []
    · subst hz
      clear hne
      rw [List.take_nil]
      go_enter Tryz.func15, Tryz.ntmps15
      go_wp2_with (at_builtin; refine wpList_append_own _ rfl _ _ 22 rfl w.heap.size 3 i0 (.int .i64 0) 1 8 Tryz.underlying22 hi hz0 hz1 hz2 rfl (by decide) _ _ _ rfl (World.ownsRow_nil _ _ _ _) x 0 cap [] rfl rfl (by simp) (by simp) (by decide) (by decide) (Nat.le_refl _) ?_; intro v' w1 hown hgrow _)
      go_ret
      exact copies_mk (by simpa [Fresh] using hown) ((Below.refl _ w).grown hgrow (Nat.le_refl _) (fun k h => by cases h))
    · obtain ⟨b, off, hx, hc⟩ := hne hz
      obtain rfl : x = ⟨b, off, none⟩ := by simpa using hx
      clear hne hx hz
      have hnews : ∀ (n : Nat) (j : Nat) (u : Value), ((zs.take n).map (Value.int .i64))[j]? = some u → w.cell? ((⟨b, off, none⟩ : Addr).add j) = some u := by
        intro n j u hu
        have hj : j < zs.length := by
          rcases Nat.lt_or_ge j zs.length with h | h
          · exact h
          · rw [List.getElem?_eq_none (by simp; omega)] at hu; cases hu
        have e : (⟨b, off, none⟩ : Addr).add j = ⟨b, off + j, none⟩ := by unfold Addr.add; split <;> simp_all
        rw [e, hc j hj, ← hu]
        rw [List.getElem?_map, List.getElem?_take]
        split
        · simp [hj]
        · rename_i hjn
          rw [List.getElem?_eq_none (by simp; omega)] at hu; cases hu
      have hone : ∀ (n : Nat), ∀ u ∈ (zs.take n).map (Value.int .i64), u.oneCell' = true := by
        intro n u hu
        obtain ⟨z, _, rfl⟩ := List.mem_map.1 hu
        rfl
      by_cases h : ¬ m < zs.length
      · have hl : ((zs.take m).map (Value.int .i64)).length = zs.length * 1 := by simp; omega
        have hN := hnews m
        have hO := hone m
        have HL := Lib.hid hl
        have HN := Lib.hid hN
        have HO := Lib.hid hO
        clear hnews hone hc hl hN hO
        go_enter Tryz.func15, Tryz.ntmps15
        go_wp2_with (at_builtin; refine wpList_append_own _ rfl _ _ 22 rfl w.heap.size 3 i0 (.int .i64 0) 1 8 Tryz.underlying22 hi hz0 hz1 hz2 rfl (by decide) _ _ _ rfl (World.ownsRow_nil _ _ _ _) ⟨b, off, none⟩ zs.length cap ((zs.take m).map (Value.int .i64)) rfl HL.out HN.out HO.out (by unfold maxLen; omega) (by omega) (Nat.le_refl _) ?_; intro v' w1 hown hgrow _)
        go_ret
        refine copies_mk ?_ ((Below.refl _ w).grown hgrow (Nat.le_refl _) (fun k h => by cases h))
        have hlen : (zs.take m).length = 0 + zs.length := by simp; omega
        unfold Fresh
        rw [hlen]
        simpa using hown
      · have h : m < zs.length := by omega
        have hl : ((zs.take m).map (Value.int .i64)).length = m * 1 := by simp; omega
        have hN := hnews m
        have hO := hone m
        have HL := Lib.hid hl
        have HN := Lib.hid hN
        have HO := Lib.hid hO
        clear hnews hone hc hl hN hO
        go_enter Tryz.func15, Tryz.ntmps15
        go_wp2_with (at_builtin; refine wpList_append_own _ rfl _ _ 22 rfl w.heap.size 3 i0 (.int .i64 0) 1 8 Tryz.underlying22 hi hz0 hz1 hz2 rfl (by decide) _ _ _ rfl (World.ownsRow_nil _ _ _ _) ⟨b, off, none⟩ m cap ((zs.take m).map (Value.int .i64)) rfl HL.out HN.out HO.out (by unfold maxLen; omega) (by omega) (Nat.le_refl _) ?_; intro v' w1 hown hgrow _)
        go_ret
        refine copies_mk ?_ ((Below.refl _ w).grown hgrow (Nat.le_refl _) (fun k h => by cases h))
        have hlen : (zs.take m).length = 0 + m := by simp; omega
        unfold Fresh
        rw [hlen]
        simpa using hown
-- END COPY

open Go.RowKit

theorem row_none (k : IntKind) (w : World) : Row k w (.slice none 0 0) [] := ⟨none, 0, rfl, Nat.le_refl _, by decide, fun h => (h rfl).elim, fun _ => ⟨rfl, rfl⟩⟩

theorem row_some {k : IntKind} {w : World} {x : Addr} {len cap : Nat} {zs : List Int} (hl : len ≤ cap) (hm : cap ≤ maxLen) (hz : zs.length = cap)
    (hc : ∀ i, i < zs.length → w.cell? (x.add i) = some (.int k (zs.getD i 0))) : Row k w (.slice (some x) len cap) (zs.take len) := by
  have e : (zs.take len).length = len := by rw [List.length_take]; omega
  refine ⟨some x, cap, by rw [e], by rw [e]; exact hl, by unfold maxLen at hm; omega, fun hne => ?_, fun h => by cases h⟩
  have h0 : 0 < zs.length := by
    rcases Nat.eq_zero_or_pos zs.length with h | h
    · exact (hne (by rw [List.eq_nil_of_length_eq_zero h]; simp)).elim
    · exact h
  obtain ⟨b, off, s⟩ := x
  have hs : s = none := by
    have h1 := hc 0 h0
    cases s with
    | none => rfl
    | some s =>
      unfold World.cell? at h1
      simp [Addr.add] at h1
      split at h1 <;> simp_all
  subst hs
  refine ⟨b, off, rfl, fun j hj => ?_⟩
  rw [e] at hj
  have h2 := hc j (by omega)
  have e2 : (⟨b, off, none⟩ : Addr).add j = ⟨b, off + j, none⟩ := by unfold Addr.add; split <;> simp_all
  rw [e2] at h2
  rw [h2, List.getElem?_take_of_lt hj, List.getD_eq_getElem?_getD]

theorem info_u8 : (Tryz.prog.info? 5).map (fun i => (i.zero, i.size, i.bytes)) = some (some (.int .u8 0), 1, 1) := by kernel_rfl

/-- What the elements of a slice are, for a walk that reads them. -/
def Elems (k : IntKind) (w : World) (v : Value) (zs : List Int) : Prop :=
  ∃ a cap, v = .slice a zs.length cap ∧ (zs ≠ [] → ∃ b off, a = some ⟨b, off, none⟩ ∧ ∀ j, j < zs.length → w.cell? ⟨b, off + j, none⟩ = some (.int k (zs[j]?.getD 0)))

def SameEnd (a b : List Int) (w : World) (e : Ending) (w' : World) : Prop := e = .returned (.bool (decide (a = b))) ∧ Below w.heap.size w w'
theorem same_end_yes {a b : List Int} {w w' : World} (h : a = b) (hb : Below w.heap.size w w') : SameEnd a b w (.returned (.bool true)) w' := ⟨by simp [h], hb⟩
theorem same_end_no {a b : List Int} {w w' : World} (h : a ≠ b) (hb : Below w.heap.size w w') : SameEnd a b w (.returned (.bool false)) w' := ⟨by simp [h], hb⟩

-- BEGIN SAME
set_option maxHeartbeats 1000000 in
theorem sameBytes_any (u v : Value) (a b : List Int) (w : World) (hu : Elems .u8 w u a) (hv : Elems .u8 w v b) (ha : a.length ≤ 1000000) (hb : b.length ≤ 1000000) :
    Calls Tryz.prog 61 #[u, v] w (SameEnd a b w) := by
  obtain ⟨pa, ca, rfl, hca⟩ := hu
  obtain ⟨pb, cb, rfl, hcb⟩ := hv
  by_cases hl : a.length = b.length
  · have hlen := Lib.hid hl
    generalize hla : a.length = la at *
    subst hl
    go_enter Tryz.func61, Tryz.ntmps61
    go_wp2_with fail
    have HA := Lib.hid hla
    clear hla hlen
    go_loopw [5] (fun i wr => ∃ k : Nat, k ≤ b.length ∧ i = .int .i64 k ∧ Hid (∀ j, j < k → a[j]?.getD 0 = b[j]?.getD 0) ∧ Below w.heap.size w wr) (fun i _ => b.length - (intOf i).toNat)
    case atStart => exact ⟨0, Nat.zero_le _, rfl, fun j hj => absurd hj (Nat.not_lt_zero _), Below.refl _ _⟩
    case round =>
      obtain ⟨k, hk, rfl, hs, hbel⟩ := hrel
      by_cases hlt : k < b.length
      · obtain ⟨b1, o1, rfl, c1⟩ := hca (fun e => by have := HA.out; rw [e] at this; simp at this; omega)
        obtain ⟨b2, o2, rfl, c2⟩ := hcb (fun e => by rw [e] at hlt; simp at hlt)
        have d1 := c1 k hlt
        have d2 := c2 k hlt
        have e1 := (hbel.cell (p := ⟨b1, o1 + k, none⟩) (World.block_lt_of_cell? _ _ d1)).trans d1
        have e2 := (hbel.cell (p := ⟨b2, o2 + k, none⟩) (World.block_lt_of_cell? _ _ d2)).trans d2
        clear c1 c2 d1 d2 hca hcb
        have q2 : b[k]?.getD 0 = b[k] := by simp [hlt]
        rw [q2] at e2
        generalize hx : a[k]?.getD 0 = x at *
        generalize hy : b[k] = y at *
        have HX := Lib.hid hx
        have HY := Lib.hid q2
        clear hx q2
        have HYY := Lib.hid hy
        clear hy
        by_cases hxy : x = y
        · have ht : (x != y) = false := by simp [hxy]
          have HXY := Lib.hid hxy
          clear hxy
          go_wp2_with fail
          go_quiet (fail)
          go_wp2_with fail
          go_roundw
          case rel =>
            refine ⟨k + 1, by omega, by go_num, ?_, below_drewN hbel _⟩
            intro j hj
            by_cases hjk : j = k
            · subst hjk; rw [HX.out, HXY.out, HY.out]
            · exact hs j (by omega)
          case measure => simp [intOf]; omega
        · have ht : (x != y) = true := by simp [hxy]
          have HXY := Lib.hid hxy
          clear hxy
          go_wp2_with fail
          go_quiet (fail)
          go_wp2_with fail
          go_ret
          exact same_end_no (fun e => HXY.out (by rw [← HX.out, ← HY.out, e])) (below_drewN hbel _)
      · obtain rfl : k = b.length := by omega
        clear hca hcb
        go_wp2_with fail
        go_ret
        refine same_end_yes (List.ext_getElem HA.out (fun j h1 h2 => ?_)) hbel
        have := hs j h2
        simpa [h1, h2] using this
  · have hbool : ((a.length : Int) != (b.length : Int)) = true := by simp; omega
    have HL := Lib.hid hl
    clear hl hca hcb
    go_enter Tryz.func61, Tryz.ntmps61
    go_wp2_with fail
    go_ret
    exact same_end_no (fun e => HL.out (by rw [e])) (Below.refl _ _)
-- END SAME

/-! ### From one word for a slice to another -/
theorem fresh_keeps {B : Nat} {e : TypeId} {k : IntKind} {w w' : World} {v : Value} {zs : List Int} (h : Fresh B e k w v zs) (hb : Below w.heap.size w w') : Fresh B e k w' v zs := by
  refine ⟨h.1, ?_⟩
  rcases h.2 with hn | ⟨g, cap, cur, rfl, h2, h3, h4⟩
  · exact .inl hn
  · exact .inr ⟨g, cap, cur, rfl, h2, (hb.block g (Array.getElem?_eq_some_iff.1 h3).1).trans h3, h4⟩

theorem fresh_elems {B : Nat} {e : TypeId} {k : IntKind} {w : World} {v : Value} {zs : List Int} (h : Fresh B e k w v zs) :
    ∃ a cap, v = .slice a zs.length cap ∧ zs.length ≤ cap ∧ (zs ≠ [] → ∃ b off, a = some ⟨b, off, none⟩ ∧ ∀ j, j < zs.length → w.cell? ⟨b, off + j, none⟩ = some (.int k (zs[j]?.getD 0))) := by
  have hf := h
  rcases h.2 with ⟨rfl, h0⟩ | ⟨g, cap, cur, rfl, h2, h3, h4, _⟩
  · have : zs = [] := List.eq_nil_of_length_eq_zero h0
    subst this
    exact ⟨none, 0, rfl, Nat.le_refl _, fun h => (h rfl).elim⟩
  · refine ⟨_, cap, rfl, h4, fun _ => ⟨g, 0, rfl, fun j hj => ?_⟩⟩
    have := World.ownsRow.cells hf (g := g) rfl j (.int k (zs[j]?.getD 0)) (by simp [hj])
    have e : (⟨g, 0, none⟩ : Addr).add j = ⟨g, 0 + j, none⟩ := by unfold Addr.add; split <;> simp_all
    rwa [e] at this

theorem Elems.of_fresh {B : Nat} {e : TypeId} {k : IntKind} {w : World} {v : Value} {zs : List Int} (h : Fresh B e k w v zs) : Elems k w v zs := by
  obtain ⟨a, cap, h1, _, h3⟩ := fresh_elems h
  exact ⟨a, cap, h1, h3⟩

theorem Ints.of_fresh {B : Nat} {e : TypeId} {k : IntKind} {w : World} {v : Value} {zs : List Int} (h : Fresh B e k w v zs) (hz : zs.length ≤ 4611686018427387904) : Ints k w v zs := by
  obtain ⟨a, cap, h1, h2, h3⟩ := fresh_elems h
  exact ⟨a, cap, h1, h2, hz, h3⟩

def toNats (zs : List Int) : List Nat := zs.map Int.toNat
theorem toNats_length (zs : List Int) : (toNats zs).length = zs.length := by simp [toNats]

theorem Bytes.of_fresh {B : Nat} {e : TypeId} {w : World} {v : Value} {zs : List Int} (h : Fresh B e .u8 w v zs) (hz : zs.length ≤ 4611686018427387904) (hr : ∀ n ∈ zs, 0 ≤ n ∧ n ≤ 255) : Bytes w v (toNats zs) := by
  obtain ⟨a, cap, h1, h2, h3⟩ := fresh_elems h
  refine ⟨fun c hc => ?_, a, cap, by rw [toNats_length]; exact h1, by rw [toNats_length]; exact h2, by rw [toNats_length]; exact hz, fun hne => ?_⟩
  · obtain ⟨n, hn, rfl⟩ := List.mem_map.1 hc
    have := hr n hn
    omega
  · obtain ⟨b, off, h4, h5⟩ := h3 (fun e => hne (by rw [e]; rfl))
    refine ⟨b, off, h4, fun j hj => ?_⟩
    rw [toNats_length] at hj
    rw [h5 j hj]
    have hm := hr _ (List.getElem_mem hj)
    simp only [toNats, List.getElem?_map, List.getElem?_eq_getElem hj, Option.map_some, Option.getD_some]
    rw [Int.toNat_of_nonneg hm.1]

theorem fresh_block {B : Nat} {e : TypeId} {k : IntKind} {w : World} {v : Value} {zs : List Int} (h : Fresh B e k w v zs) : ∀ j, blockOf v j → j < w.heap.size := by
  intro j hj
  rcases h.2 with ⟨rfl, _⟩ | ⟨g, cap, cur, rfl, _, h3, _⟩
  · exact hj.elim
  · have : j = g := hj
    subst this
    exact (Array.getElem?_eq_some_iff.1 h3).1

theorem row_keeps {k : IntKind} {w w' : World} {v : Value} {zs : List Int} (h : Row k w v zs) (hb : Below w.heap.size w w') : Row k w' v zs := by
  obtain ⟨a, cap, h1, h2, h3, h4, h5⟩ := h
  refine ⟨a, cap, h1, h2, h3, fun hne => ?_, h5⟩
  obtain ⟨b, off, e, hc⟩ := h4 hne
  exact ⟨b, off, e, fun j hj => (hb.cell (p := ⟨b, off + j, none⟩) (World.block_lt_of_cell? _ _ (hc j hj))).trans (hc j hj)⟩

theorem info_u64 : (Tryz.prog.info? 67).map (fun i => (i.zero, i.size, i.bytes)) = some (some (.int .u64 0), 1, 8) := by kernel_rfl

theorem refMix_form (a b : Nat) (ha : a < T64) (hb : b < T64) :
    bits .xor .u64 (IntKind.u64.wrap (bits .xor .u64 (a : Int) (b : Int) * 11400714819323198485)) (IntKind.u64.wrap ((IntKind.u64.wrap (bits .xor .u64 (a : Int) (b : Int) * 11400714819323198485)).tdiv 4294967296)) = (mixN a b : Int) := by
  have h := mix_form a b ha hb
  generalize bits .xor .u64 (a : Int) (b : Int) * 11400714819323198485 = X at *
  have e : IntKind.u64.wrap ((IntKind.u64.wrap X).tdiv 4294967296) = IntKind.u64.wrap X / 4294967296 := by
    rw [IntKind.wrap_u64, IntKind.wrap_u64, Int.tdiv_eq_ediv_of_nonneg (by omega)]; omega
  rw [e]; exact h

theorem leN_drop (g : List Nat) {j : Nat} (hj : j < g.length) : leN (g.drop j) = g[j]?.getD 0 + 256 * leN (g.drop (j + 1)) := by
  rw [List.drop_eq_getElem_cons hj]
  simp [leN, hj]

theorem leN_drop_lt (g : List Nat) (h : ∀ c ∈ g, c < 256) (h8 : g.length ≤ 8) (j : Nat) : leN (g.drop (j + 1)) < 72057594037927936 := by
  have h1 := leN_lt (g.drop (j + 1)) (fun c hc => h c (List.mem_of_mem_drop hc))
  have h2 : 256 ^ (g.drop (j + 1)).length ≤ 256 ^ 7 := Nat.pow_le_pow_right (by decide) (by simp; omega)
  have h3 : (256 : Nat) ^ 7 = 72057594037927936 := by decide
  omega

theorem words_upto (l : List Nat) (q : Nat) : ((List.range (q + 1)).map fun k => leN (grp l k)) = ((List.range q).map fun k => leN (grp l k)) ++ [leN (grp l q)] := by
  rw [List.range_succ, List.map_append, List.map_singleton]

theorem natI_get (l : List Nat) {k : Nat} (hk : k < l.length) : (natI l)[k]?.getD 0 = ((l[k]'hk : Nat) : Int) := by simp [natI, hk]
theorem natI_length (l : List Nat) : (natI l).length = l.length := by simp [natI]
theorem fold_take_nat (s : Nat) (ws : List Nat) {k : Nat} (hk : k < ws.length) : fold s (ws.take (k + 1)) = mixN (fold s (ws.take k)) ws[k] := by
  rw [List.take_succ_eq_append_getElem hk, fold_snoc]
end Go.Proofs.YtjoablphojkimaaGreatDoor
