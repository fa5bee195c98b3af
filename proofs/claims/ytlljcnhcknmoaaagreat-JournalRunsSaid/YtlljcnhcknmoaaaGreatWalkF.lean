/-
  hash.Bytes: the sum of a label, the words of a byte slice, and its length.
-/
import Derived.Test.YtlljcnhcknmoaaaGreatWalkE
import Derived.Maps.AppendAt
namespace Go.Proofs.YtlljcnhcknmoaaaGreat
open Go.RowKit Go.Shelf
set_option linter.unusedVariables false
attribute [local go_sem] Oper.semAt_some

theorem info_int : (Tryz.prog.info? 3).map (fun i => (i.zero, i.size, i.bytes)) = some (some (.int .i64 0), 1, 8) := by kernel_rfl

/-- What a slice owns lies on where its row is not touched. -/
theorem ownsRow_keeps {A : Foot} {W W2 : World} (hk : Keeps A W W2) {base : Nat} {e : TypeId} {size g n cap : Nat} {xs : List Value}
    (h : W.ownsRow base e size (.slice (some ⟨g, 0, none⟩) n cap) n xs) (hg : ¬ A g) : W2.ownsRow base e size (.slice (some ⟨g, 0, none⟩) n cap) n xs := by
  refine ⟨h.1, ?_⟩
  rcases h.2 with ⟨h1, _⟩ | ⟨g', cap', cur, h1, h2, h3, h4⟩
  · cases h1
  · have hg' : g' = g := by injection h1 with h1 _ _; injection h1 with h1; injection h1 with h1; exact h1.symm
    subst hg'
    exact .inr ⟨g', cap', cur, h1, h2, hk.obj h3 hg, h4⟩

theorem ints_of_owns {W : World} {base : Nat} {e : TypeId} {g cap : Nat} {k : IntKind} {zs : List Int} (hcap : zs.length ≤ cap) (hz : zs.length ≤ 4611686018427387904)
    (h : W.ownsRow base e 1 (.slice (some ⟨g, 0, none⟩) zs.length cap) zs.length (zs.map (Value.int k))) : Ints k W (.slice (some ⟨g, 0, none⟩) zs.length cap) zs := by
  refine ⟨_, _, rfl, hcap, hz, fun _ => ⟨g, 0, rfl, fun j hj => ?_⟩⟩
  have := h.cells (g := g) rfl j (.int k (zs[j]?.getD 0)) (by simp [hj])
  have e : (⟨g, 0, none⟩ : Addr).add j = ⟨g, 0 + j, none⟩ := by unfold Addr.add; split <;> simp_all
  rwa [e] at this

set_option maxRecDepth 100000 in
set_option maxHeartbeats 4000000 in
theorem bytes_any (s : ByteArray) (v : Value) (l : List Nat) (w : World) (hs : s.size ≤ 4611686018427387904) (hl : Bytes w v l) (hv : ∀ k, blockOf v k → k < w.heap.size) (hlen : l.length ≤ 140737488351232) :
    Calls Tryz.prog 44 #[.string s, v] w fun e w' => e = .returned (.int .u64 (bytesN (strN s) l)) ∧ Below w.heap.size w w' := by
  obtain ⟨i0, hi, hz0, hz1, hz2⟩ := info_parts info_int
  obtain ⟨a, cap, rfl⟩ : ∃ a cap, v = .slice a l.length cap := by obtain ⟨_, a, cap, h, _⟩ := hl; exact ⟨a, cap, h⟩
  have hl8 := hl.1
  refine (callsIn_wide (n := 0)).1 ?_
  refine callsIn_of_wp_marks Tryz.func44 rfl trivial ?_ rfl
  simp only [Tryz.ntmps44, List.size_toArray, List.length_cons, List.length_nil, Nat.reduceAdd, Nat.reduceSub, Array.replicate_succ, Array.replicate_zero, List.push_toArray, List.append_toArray, List.nil_append, List.cons_append]
  gi_wp2_with (gi_at_make; refine wpListIn_make_own _ rfl _ _ 22 rfl w.heap.size 3 i0 (.int .i64 0) 1 Tryz.underlying22 hi hz0 hz1 _ _ _ (l.length / 8 + 2) rfl rfl (by omega) (by rw [hz2]; omega) (by unfold maxLen; omega) (Nat.le_refl _) ?_; intro w1 hrow1 hg1)
  have hgB : w.heap.size < w1.heap.size := (hrow1.lt _ rfl).2
  refine ⟨trivial, rfl, (callsIn_wide.2 (wordsOf_any _ _ _ _)).mono ?_⟩
  rintro e w' ⟨rfl, rfl⟩
  gi_wp2_with fail
  have bel1 : Below w.heap.size w w1 := (Below.refl _ w).grown hg1 (Nat.le_refl _) (fun k h => by cases h)
  obtain ⟨W3, hW3⟩ : ∃ W3, (w1.alloc (Obj.cells #[Value.slice (some ⟨w.heap.size, 0, none⟩) 0 (l.length / 8 + 2)] 22)).alloc (.cells #[.slice a l.length cap] 39) = W3 := ⟨_, rfl⟩
  rw [hW3]
  have k3 : ∀ A : Foot, Keeps A w1 W3 := fun A => by rw [← hW3]; exact ((Keeps.refl A w1).alloc _).alloc _
  have z3 : W3.heap.size = w1.heap.size + 2 := by rw [← hW3]; simp
  have bx3 : Boxed W3 w1.heap.size 22 (.slice (some ⟨w.heap.size, 0, none⟩) 0 (l.length / 8 + 2)) := by rw [← hW3]; exact (Boxed.new w1 _ _).alloc _
  have c3 : W3.cell? ⟨w1.heap.size + 1, 0, none⟩ = some (.slice a l.length cap) := by
    rw [← hW3]
    have := (Boxed.new (w1.alloc (Obj.cells #[Value.slice (some ⟨w.heap.size, 0, none⟩) 0 (l.length / 8 + 2)] 22)) 39 (.slice a l.length cap)).cell
    rwa [World.size_alloc] at this
  have or3 := ownsRow_keeps (k3 (fun _ => False)) hrow1 (fun h => h)
  have bl3 : Below w.heap.size w W3 := bel1.trans ((k3 (fun k => w.heap.size ≤ k)).below (Nat.le_of_lt hgB) (fun _ h => h))
  have hby3 : Bytes W3 (.slice a l.length cap) l := hl.below (fun k hk => bl3.block k (hv k hk))
  generalize w1.heap.size = B at *
  clear hW3 k3 hrow1 hg1 bel1 hl
  have hg := words_gives (B + 1) _ l W3 c3 hby3
  refine wp_range (gf := 77) (lb := #[.pointer (some ⟨B + 1, 0, none⟩)]) rfl (enters_of Tryz.func77 (by kernel_rfl) rfl) hg (fun k => k = B ∨ k = w.heap.size)
    (fun k hk => ⟨rfl, by rcases hk with rfl | hk; omega; (have := hv k hk); omega, by rcases hk with rfl | hk; omega; (have := hv k hk); omega⟩) (fun _ => rfl)
    (fun pre A1 W1 => (∀ k, A1 k ↔ k = B ∨ k = w.heap.size) ∧ Boxed W1 B 22 (.slice (some ⟨w.heap.size, 0, none⟩) pre.length (l.length / 8 + 2)) ∧
      W1.ownsRow w.heap.size 3 1 (.slice (some ⟨w.heap.size, 0, none⟩) pre.length (l.length / 8 + 2)) pre.length ((pre.map toInt).map (Value.int .i64)) ∧ Below w.heap.size w W1)
    (fun _ _ _ _ => False) ?inv ?invx ⟨fun _ => Iff.rfl, bx3, or3, bl3⟩
    (fun pre x a1 A1 W1 => ((∀ k, A1 k ↔ k = B ∨ k = w.heap.size) ∧ Boxed W1 B 22 (.slice (some ⟨w.heap.size, 0, none⟩) pre.length (l.length / 8 + 2)) ∧
      W1.ownsRow w.heap.size 3 1 (.slice (some ⟨w.heap.size, 0, none⟩) pre.length (l.length / 8 + 2)) pre.length ((pre.map toInt).map (Value.int .i64)) ∧ Below w.heap.size w W1) ∧
      a1 = { tmps := #[.string s, .slice a l.length cap, undef, undef, .int .u64 0, .pointer (some ⟨B, 0, none⟩), .int .u64 (x : Nat), .slice a l.length cap, .int .i64 l.length, .int .i64 ((l.length : Int) / 8), .int .i64 ((l.length : Int) / 8 + 2), .slice (some ⟨w.heap.size, 0, none⟩) 0 (l.length / 8 + 2), .slice a l.length cap, .func (.func 77) #[] #[.pointer (some ⟨B + 1, 0, none⟩)], .int .u64 (x : Nat), undef, undef, undef, undef, undef, undef, undef, undef, undef, undef, undef, undef], defers := [] })
    ?invA ?assign ?body ?done ?stop
  case inv =>
    refine ⟨?_, fun s A1 W1 ⟨h1, h2, h3, _⟩ k hk => ?_⟩
    · rintro pre A1 W1 W4 ⟨h1, h2, h3, h4⟩ hk
      exact ⟨h1, hk.obj h2 (by simp; omega), ownsRow_keeps hk h3 (by simp; omega), h4.trans (hk.below h4.size (by simp; omega))⟩
    · rcases (h1 k).1 hk with rfl | rfl
      · exact h2.lt
      · exact (h3.lt _ rfl).2
  case invx => exact fun c => ⟨fun _ _ _ _ h _ => h.elim, fun _ _ _ h => h.elim⟩
  case invA =>
    intro pre x a1
    refine ⟨?_, fun s A1 W1 ⟨⟨h1, h2, h3, _⟩, _⟩ k hk => ?_⟩
    · rintro _ A1 W1 W4 ⟨⟨h1, h2, h3, h4⟩, h5⟩ hk
      exact ⟨⟨h1, hk.obj h2 (by simp; omega), ownsRow_keeps hk h3 (by simp; omega), h4.trans (hk.below h4.size (by simp; omega))⟩, h5⟩
    · rcases (h1 k).1 hk with rfl | rfl
      · exact h2.lt
      · exact (h3.lt _ rfl).2
  case assign =>
    intro l2 pre x A1 W1 K hpre hI hK
    gi_wp2
    exact hK _ _ _ (Round.refl _ _) ⟨hI, rfl⟩
  case body =>
    rintro l2 pre x a1 A1 W1 hl2 hn2 hr2 hpre ⟨⟨h1, h2, h3, h4⟩, rfl⟩
    have hx : x < T64 := words_lt hl8 x (hpre.subset (by simp))
    have hn : pre.length + 1 ≤ (l.length + 7) / 8 := by
      have := hpre.length_le
      rwa [List.length_append, words_length] at this
    have HX := Lib.hid (wrap_toInt hx)
    have hc := h2.cell
    have hf := h2.frozen
    clear hr2 hg hn2 c3 hby3 bx3 or3 hx
    gi_wp2_with (gi_at_builtin; refine wpListIn_append_fits _ rfl _ _ 22 rfl w.heap.size 3 i0 1 Tryz.underlying22 hi hz1 w.heap.size pre.length (l.length / 8 + 2) _ rfl (h3.alloc _) ⟨W1.heap.size, 0, none⟩ 1 1 [.int .i64 (wrap64 (x : Int))] rfl rfl (cell_one_new _ _ _) (by simp [Value.oneCell']) (by omega) ?_; intro w2 hown2 hgrow2; have hb2 := (h2.alloc _).kept hgrow2 (by simp; omega); have hc2 := hb2.cell; have hf2 := hb2.frozen)
    have kk : Keeps A1 W1 (w2.setCell ⟨B, 0, none⟩ (.slice (some ⟨w.heap.size, 0, none⟩) (pre.length + 1) (l.length / 8 + 2))) :=
      (((Keeps.refl A1 W1).alloc _).trans (Keeps.of_grown hgrow2 (fun k e => by cases e; exact (h1 _).2 (.inr rfl)))).setCell _ _ ((h1 _).2 (.inl rfl))
    refine ⟨A1, Round.same kk, h1, ?_, ?_, h4.trans (kk.below h4.size (fun k hk => by rcases (h1 k).1 hk with rfl | rfl <;> omega))⟩
    · rw [List.length_append, List.length_singleton]; exact hb2.set _
    · rw [List.length_append, List.length_singleton, List.map_append, List.map_append, List.map_singleton, List.map_singleton, ← HX.out]
      exact hown2.kept (grownBy_setCell' w2 B _) (.inr (by simp [Value.ownBlock]; omega))
  case done =>
    rintro D A2 W2 hD hnD ⟨h1, h2, h3, h4⟩ hK
    have hc := h2.cell
    have hf := h2.frozen
    have hwl : (wordsN l).length + 1 ≤ l.length / 8 + 2 := by rw [words_length]; omega
    have hDg : D ≠ w.heap.size := by omega
    have hDl : D < W2.heap.size := (Array.getElem?_eq_some_iff.1 hK).1
    clear hg c3 hby3 bx3 or3 bl3
    gi_wp2_with (gi_at_builtin; refine wpListIn_append_fits _ rfl _ _ 22 rfl w.heap.size 3 i0 1 Tryz.underlying22 hi hz1 w.heap.size (wordsN l).length (l.length / 8 + 2) _ rfl (h3.alloc _) ⟨W2.heap.size, 0, none⟩ 1 1 [.int .i64 (l.length : Int)] rfl rfl (cell_one_new _ _ _) (by simp [Value.oneCell']) (by omega) ?_; intro w2 hown2 hgrow2)
    have bel2 : Below w.heap.size w w2 := (h4.alloc h4.size _).grown hgrow2 (by have := h4.size; simp; omega) (fun k e => by cases e; exact Nat.le_refl _)
    have hK2 : w2.heap[D]? = some (.deferred (some [])) := (hgrow2.block D (by simp; omega) (by simp; omega)).trans ((Below.heap_alloc _ _ _ hDl).trans hK)
    have hmm : (wordsN l).length + 1 = ((wordsN l).map toInt ++ [(l.length : Int)]).length := by simp
    have hint : Ints .i64 w2 (.slice (some ⟨w.heap.size, 0, none⟩) ((wordsN l).length + 1) (l.length / 8 + 2)) ((wordsN l).map toInt ++ [(l.length : Int)]) := by
      rw [hmm] at hown2 ⊢
      exact ints_of_owns (by rw [← hmm]; omega) (by rw [← hmm]; omega) (by rw [List.map_append, List.map_singleton]; exact hown2)
    refine ⟨trivial, rfl, (callsIn_wide.2 (sum_any s _ _ w2 hs hint)).mono ?_⟩
    rintro e w5 ⟨rfl, hb5⟩
    have hK5 : w5.heap[D]? = some (.deferred (some [])) := (hb5.block D (Array.getElem?_eq_some_iff.1 hK2).1).trans hK2
    clear hi hz0 hz1 hz2 hown2 hgrow2 hint hK hK2 hmm
    gi_wp2_with fail
    refine ⟨by simp, .inl ⟨_, _, rfl, run_takeDeferred hK5, ?_⟩⟩
    refine ⟨_, results_tmp (t := 4) rfl _ _ _, rfl, (below_then bel2 hb5).trans ((Keeps.refl (fun k => w.heap.size ≤ k) _).putObj D _ ?_ |>.below (below_then bel2 hb5).size (fun _ h => h))⟩
    omega
  case stop =>
    intro D c pre A2 W2 hD hnD hpre h hK
    exact h.elim
end Go.Proofs.YtlljcnhcknmoaaaGreat
