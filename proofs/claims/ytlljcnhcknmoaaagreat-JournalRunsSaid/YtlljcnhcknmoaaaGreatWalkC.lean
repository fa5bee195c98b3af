/-
  hash.wordsOf: its iterator gives the words of a byte slice, one after the other.
-/
import Derived.Test.YtlljcnhcknmoaaaGreatWalkB
namespace Go.Proofs.YtlljcnhcknmoaaaGreat
open Go.RowKit Go.Shelf
set_option linter.unusedVariables false
attribute [local go_sem] Oper.semAt_some

theorem Inv.later {β : Type} {B C : Nat} {J : β → Foot → World → Prop} (h : Inv B J) (hBC : B ≤ C) : Inv C J :=
  ⟨fun s A W W2 hs hk => h.abide s A W W2 hs (hk.mono fun k _ ⟨h1, h2⟩ => ⟨by omega, h2⟩), h.bound⟩

/-- The slice value v holds the bytes l in world w. -/
def Bytes (w : World) (v : Value) (l : List Nat) : Prop :=
  (∀ c ∈ l, c < 256) ∧ ∃ a cap, v = .slice a l.length cap ∧ l.length ≤ cap ∧ l.length ≤ 4611686018427387904 ∧
    (l ≠ [] → ∃ b off, a = some ⟨b, off, none⟩ ∧ ∀ j, j < l.length → w.cell? ⟨b, off + j, none⟩ = some (.int .u8 ((l[j]?.getD 0 : Nat) : Int)))

/-- The block that a slice value lies in. -/
def blockOf : Value → Foot
  | .slice (some a) _ _ => fun k => k = a.block
  | _ => fun _ => False

theorem wordsOf_any (a : Option Addr) (len cap : Nat) (w : World) :
    Calls Tryz.prog 61 #[.slice a len cap] w fun e w' =>
      e = .returned (.func (.func 77) #[] #[.pointer (some ⟨w.heap.size, 0, none⟩)]) ∧ w' = w.alloc (.cells #[.slice a len cap] 39) := by
  go_enter Tryz.func61, Tryz.ntmps61
  go_wp2
  go_ret
  exact ⟨rfl, rfl⟩

set_option maxRecDepth 100000 in
set_option maxHeartbeats 1000000 in
/-- A slice without elements has no groups. -/
theorem chunk_none {α : Type} (encs : α → Array Value) (a : Option Addr) (cap Bs Bn : Nat) (w : World)
    (hs : w.cell? ⟨Bs, 0, none⟩ = some (.slice a 0 cap)) (hn : w.cell? ⟨Bn, 0, none⟩ = some (.int .i64 8)) :
    Gives Tryz.prog 93 #[.pointer (some ⟨Bs, 0, none⟩), .pointer (some ⟨Bn, 0, none⟩)] encs (fun k => k = Bs ∨ k = Bn) [] w := by
  intro l J Jx A W hQ hJ hJx hY h0
  have cs := (World.cell?_of_block (hQ Bs (.inl rfl)).1).trans hs
  clear hQ hs hn hY
  refine callsIn_of_wp Tryz.func93 rfl trivial ?_ rfl
  simp only [Tryz.ntmps93, List.size_toArray, List.length_cons, List.length_nil, Nat.reduceAdd, Nat.reduceSub, Array.replicate_succ, Array.replicate_zero, List.push_toArray, List.append_toArray, List.nil_append, List.cons_append]
  gi_wp2
  gi_loopw [4] (fun i wr => i = .int .i64 0 ∧ wr = W) (fun _ _ => 0)
  case atStart => exact ⟨rfl, rfl⟩
  case round =>
    obtain ⟨rfl, rfl⟩ := hrel
    gi_wp2
    go_end0
    exact ⟨⟨_, rfl⟩, A, .inl h0⟩

theorem grp_get (l : List Nat) (k j : Nat) (hj : j < (grp l k).length) : (grp l k)[j]?.getD 0 = l[8 * k + j]?.getD 0 := by
  unfold grp at *
  rw [List.getElem?_take_of_lt (by simp at hj; omega), List.getElem?_drop]
theorem grp_length (l : List Nat) (k : Nat) : (grp l k).length = min 8 (l.length - 8 * k) := by simp [grp]

theorem map_prefix {α β : Type} (f : α → β) {a b : List α} (h : a <+: b) : a.map f <+: b.map f := by
  obtain ⟨t, rfl⟩ := h
  exact ⟨t.map f, by simp⟩

set_option maxRecDepth 100000 in
set_option maxHeartbeats 2000000 in
theorem words_gives (Bb : Nat) (sv : Value) (l : List Nat) (w : World) (hb : w.cell? ⟨Bb, 0, none⟩ = some sv) (hl : Bytes w sv l) :
    Gives Tryz.prog 77 #[.pointer (some ⟨Bb, 0, none⟩)] (fun x : Nat => #[.int .u64 (x : Int)]) (fun k => k = Bb ∨ blockOf sv k) (wordsN l) w := by
  intro lo J Jx A W hQ hJ hJx hY h0
  obtain ⟨hl8, a, cap, rfl, hcap, hcm, hne⟩ := hl
  have hQb := hQ Bb (.inl rfl)
  have cb := (World.cell?_of_block hQb.1).trans hb
  refine callsIn_of_wp_marks Tryz.func77 rfl trivial ?_ rfl
  simp only [Tryz.ntmps77, List.size_toArray, List.length_cons, List.length_nil, Nat.reduceAdd, Nat.reduceSub, Array.replicate_succ, Array.replicate_zero, List.push_toArray, List.append_toArray, List.nil_append, List.cons_append]
  have cb2 : ∀ o, (W.alloc o).cell? ⟨Bb, 0, none⟩ = some (.slice a l.length cap) := fun o => (World.cell?_of_block (Below.heap_alloc W o _ hQb.2.2)).trans cb
  gi_wp2_with fail
  refine ⟨trivial, rfl, (callsIn_wide.2 (chunk_any a l.length cap _)).mono ?_⟩
  rintro e w' ⟨rfl, rfl⟩
  gi_wp2_with fail
  -- the world in which the loop begins
  obtain ⟨W3, hW3⟩ : ∃ W3, ((W.alloc (Obj.cells #[Value.func (Fn.yield lo) #[] #[]] 108)).alloc (.cells #[.slice a l.length cap] 39)).alloc (.cells #[.int .i64 8] 3) = W3 := ⟨_, rfl⟩
  have k3 : ∀ B : Foot, Keeps B W W3 := fun B => by rw [← hW3]; exact (((Keeps.refl B W).alloc _).alloc _).alloc _
  have z3 : W3.heap.size = W.heap.size + 3 := by rw [← hW3]; simp
  simp only [Nat.add_assoc, Nat.reduceAdd]
  rw [hW3]
  have y3 : W3.heap[W.heap.size]? = some (.cells #[.func (.yield lo) #[] #[]] 108 (0, 0)) := by
    rw [← hW3, Below.heap_alloc _ _ _ (by simp; omega), Below.heap_alloc _ _ _ (by simp)]
    exact World.alloc_heap_new W _
  have s3 : W3.cell? ⟨W.heap.size + 1, 0, none⟩ = some (.slice a l.length cap) := by
    rw [← hW3, World.cell?_of_block (w := (W.alloc _).alloc _) (Below.heap_alloc _ _ _ (by simp))]
    have := (Boxed.new (W.alloc (Obj.cells #[Value.func (Fn.yield lo) #[] #[]] 108)) 39 (.slice a l.length cap)).cell
    rwa [World.size_alloc] at this
  have n3 : W3.cell? ⟨W.heap.size + 2, 0, none⟩ = some (.int .i64 8) := by
    rw [← hW3]
    have := (Boxed.new ((W.alloc (Obj.cells #[Value.func (Fn.yield lo) #[] #[]] 108)).alloc (.cells #[.slice a l.length cap] 39)) 3 (.int .i64 8)).cell
    rwa [World.size_alloc, World.size_alloc] at this
  have hnA : ∀ k, W.heap.size ≤ k → ¬ A k := fun k hk ha => by have := hJ.bound _ _ _ h0 k ha; omega
  -- the groups, and where they lie
  obtain ⟨b, off, hg, hcells⟩ : ∃ b off, Gives Tryz.prog 93 #[.pointer (some ⟨W.heap.size + 1, 0, none⟩), .pointer (some ⟨W.heap.size + 2, 0, none⟩)] (chunkV b off l.length) (fun k => k = W.heap.size + 1 ∨ k = W.heap.size + 2) (List.range ((l.length + 7) / 8)) W3 ∧
      (l ≠ [] → ¬ A b ∧ b < W.heap.size ∧ ∀ j, j < l.length → W3.cell? ⟨b, off + j, none⟩ = some (.int .u8 ((l[j]?.getD 0 : Nat) : Int))) := by
    by_cases hl0 : l = []
    · subst hl0
      exact ⟨0, 0, chunk_none _ a cap _ _ W3 s3 n3, fun h => (h rfl).elim⟩
    · obtain ⟨b, off, rfl, hcs⟩ := hne hl0
      have hQd := hQ b (.inr rfl)
      refine ⟨b, off, chunk_gives b off l.length cap _ _ W3 hcap hcm s3 n3, fun _ => ⟨hQd.2.1, hQd.2.2, fun j hj => ?_⟩⟩
      exact (k3 (fun _ => False)).cell ((World.cell?_of_block hQd.1).trans (hcs j hj)) (fun h => h)
  clear hne hQ hQb hb cb cb2 s3 n3
  refine wp_range (gf := 93) (lb := #[.pointer (some ⟨W.heap.size + 1, 0, none⟩), .pointer (some ⟨W.heap.size + 2, 0, none⟩)]) rfl (enters_of Tryz.func93 (by kernel_rfl) rfl) hg A
    (fun k hk => ⟨rfl, hnA k (by rcases hk with rfl | rfl <;> omega), by rcases hk with rfl | rfl <;> omega⟩) (fun _ => rfl)
    (fun pre A1 W1 => J (pre.map fun k => leN (grp l k)) A1 W1 ∧ ¬ A1 W.heap.size ∧ W1.heap[W.heap.size]? = some (.cells #[.func (.yield lo) #[] #[]] 108 (0, 0)) ∧
      (l ≠ [] → ¬ A1 b ∧ b < W.heap.size ∧ ∀ j, j < l.length → W1.cell? ⟨b, off + j, none⟩ = some (.int .u8 ((l[j]?.getD 0 : Nat) : Int))))
    (fun c pre A1 W1 => c = .ret ∧ Jx (pre.map fun k => leN (grp l k)) A1 W1) ?inv ?invx ⟨hJ.abide _ _ _ _ h0 (k3 _), hnA _ (Nat.le_refl _), y3, hcells⟩
    (fun pre x a1 A1 W1 => (J (pre.map fun k => leN (grp l k)) A1 W1 ∧ ¬ A1 W.heap.size ∧ W1.heap[W.heap.size]? = some (.cells #[.func (.yield lo) #[] #[]] 108 (0, 0)) ∧
      (l ≠ [] → ¬ A1 b ∧ b < W.heap.size ∧ ∀ j, j < l.length → W1.cell? ⟨b, off + j, none⟩ = some (.int .u8 ((l[j]?.getD 0 : Nat) : Int)))) ∧
      a1 = { tmps := #[.func (.yield lo) #[] #[], .pointer (some ⟨Bb, 0, none⟩), .pointer (some ⟨W.heap.size, 0, none⟩), .slice (some ⟨b, off + 8 * x, none⟩) (grp l x).length (grp l x).length, .slice a l.length cap,
        .func (.func 93) #[] #[.pointer (some ⟨W.heap.size + 1, 0, none⟩), .pointer (some ⟨W.heap.size + 2, 0, none⟩)], .slice (some ⟨b, off + 8 * x, none⟩) (grp l x).length (grp l x).length, undef, undef, undef, undef, undef], defers := [] })
    ?invA ?assign ?body ?done ?stop
  case inv =>
    refine ⟨?_, fun s A1 W1 h => hJ.bound _ _ _ h.1⟩
    rintro s A1 W1 W2 ⟨h1, h2, h3, h4⟩ hk
    exact ⟨(hJ.later (by omega)).abide _ _ _ _ h1 hk, h2, hk.obj h3 (by simp; omega), fun hl0 => ⟨(h4 hl0).1, (h4 hl0).2.1, fun j hj => hk.cell ((h4 hl0).2.2 j hj) (by have := (h4 hl0).2.1; simp; omega)⟩⟩
  case invx =>
    intro c
    exact ⟨fun s A1 W1 W2 ⟨h1, h2⟩ hk => ⟨h1, (hJx.later (by omega)).abide _ _ _ _ h2 hk⟩, fun s A1 W1 h => hJx.bound _ _ _ h.2⟩
  case invA =>
    intro pre x a1
    refine ⟨?_, fun s A1 W1 h => hJ.bound _ _ _ h.1.1⟩
    rintro s A1 W1 W2 ⟨⟨h1, h2, h3, h4⟩, h5⟩ hk
    exact ⟨⟨(hJ.later (by omega)).abide _ _ _ _ h1 hk, h2, hk.obj h3 (by simp; omega), fun hl0 => ⟨(h4 hl0).1, (h4 hl0).2.1, fun j hj => hk.cell ((h4 hl0).2.2 j hj) (by have := (h4 hl0).2.1; simp; omega)⟩⟩, h5⟩
  case assign =>
    intro l2 pre x A1 W1 K hpre hI hK
    have hx : chunkV b off l.length x = #[.slice (some ⟨b, off + 8 * x, none⟩) (grp l x).length (grp l x).length] := by unfold chunkV; rw [grp_length]
    rw [hx]
    gi_wp2
    exact hK _ _ _ (Round.refl _ _) ⟨hI, rfl⟩
  case body =>
    rintro l2 pre x a1 A1 W1 hl2 hn2 hr2 hpre ⟨⟨hj, h2, h3, h4⟩, rfl⟩
    have hxn : x < (l.length + 7) / 8 := by
      have := hpre.subset (a := x) (by simp)
      simpa using this
    have hl0 : l ≠ [] := fun h => by rw [h] at hxn; simp at hxn
    obtain ⟨hnb, hbW, hcl⟩ := h4 hl0
    have hmx : Tryz.prog.follows .mixedOrders = true := by kernel_rfl
    have hle := le_any b (off + 8 * x) (grp l x).length (grp l x) W1.drew (grp_len_le l x) (fun c hc => hl8 c (grp_mem hc)) (Nat.le_refl _)
      (fun j hj' => by rw [grp_get l x j hj', Nat.add_assoc]; exact hcl _ (by rw [grp_length] at hj'; omega))
    have hjd : J (pre.map fun k => leN (grp l k)) A1 W1.drew := hJ.abide _ _ _ _ hj (Keeps.refl _ _).drew
    have hpm : (pre.map fun k => leN (grp l k)) ++ [leN (grp l x)] <+: wordsN l := by
      have := map_prefix (fun k => leN (grp l k)) hpre
      simpa [wordsN] using this
    obtain ⟨fn, tmps, assign, body, hy, hR⟩ := hY _ _ _ _ hpm hjd
    have hR2 : RoundIn (Fence.wide.inRound l2) 0 Tryz.prog lo fn tmps assign body W1.drew fun e W2 => ∃ t : Bool, e = .returned (.bool t) ∧ ∃ A2, Round A1 A2 W1.drew W2 ∧
        ((t = true ∧ J ((pre.map fun k => leN (grp l k)) ++ [leN (grp l x)]) A2 W2) ∨ (t = false ∧ Jx ((pre.map fun k => leN (grp l k)) ++ [leN (grp l x)]) A2 W2)) := by
      refine hR.mono ?_
      rintro e W2 ⟨A2, hr, (⟨rfl, hJ2⟩ | ⟨rfl, hJ2⟩)⟩
      · exact ⟨true, rfl, A2, hr, .inl ⟨rfl, hJ2⟩⟩
      · exact ⟨false, rfl, A2, hr, .inr ⟨rfl, hJ2⟩⟩
    have cy : W1.cell? ⟨W.heap.size, 0, none⟩ = some (.func (.yield lo) #[] #[]) := by simp [World.cell?, h3]
    clear hR hY hg hcells h4 hJ hJx
    gi_wp2
    gi_region_with_o (first
      | (refine ⟨trivial, rfl, ?_⟩; gi_at_call 79; refine (CallsIn.inRound l2 (callsIn_wide.2 hle)).mono ?_; rintro e w' ⟨rfl, rfl⟩)
      | (refine ⟨rfl, ?_⟩; refine hR2.mono ?_; clear hR2 hy; rintro e W2 ⟨t, rfl, hp⟩))
    all_goals
      obtain ⟨A2, hr, (⟨rfl, hJ2⟩ | ⟨rfl, hJ2⟩)⟩ := hp
      · have hr1 : Round A1 A2 W1 W2 := (Round.same (Keeps.refl _ _).drew).trans hr
        gi_wp2
        refine ⟨A2, hr1, by rw [List.map_append]; exact hJ2, hr1.not h2 (Array.getElem?_eq_some_iff.1 h3).1, hr1.keeps.obj h3 h2, fun _ => ⟨hr1.not hnb ?_, hbW, fun j hj => hr1.keeps.cell (hcl j hj) hnb⟩⟩
        have := (Array.getElem?_eq_some_iff.1 h3).1
        omega
      · have hr1 : Round A1 A2 W1 W2 := (Round.same (Keeps.refl _ _).drew).trans hr
        gi_wp2
        exact ⟨A2, hr1, rfl, by rw [List.map_append]; exact hJ2⟩
  case done =>
    rintro D A2 W2 hD hnD ⟨h1, h2, h3, h4⟩ hK
    gi_wp2
    refine ⟨by simp, .inl ⟨_, _, rfl, run_takeDeferred hK, ?_⟩⟩
    exact ⟨_, results_none rfl _ _ _, ⟨_, rfl⟩, A2, .inl ((hJ.later (by omega)).abide _ _ _ _ h1 ((Keeps.refl _ _).putObj D _ ⟨hD, hnD⟩))⟩
  case stop =>
    rintro D c pre A2 W2 hD hnD hpre ⟨rfl, h2⟩ hK
    gi_wp2
    refine ⟨by simp, .inl ⟨_, _, rfl, run_takeDeferred hK, ?_⟩⟩
    exact ⟨_, results_none rfl _ _ _, ⟨_, rfl⟩, A2, .inr ⟨_, map_prefix _ hpre, (hJx.later (by omega)).abide _ _ _ _ h2 ((Keeps.refl _ _).putObj D _ ⟨hD, hnD⟩)⟩⟩
end Go.Proofs.YtlljcnhcknmoaaaGreat
