/-
  hash.Sum: the sum of a label and words.
-/
import Derived.Test.YtlljcnhcknmoaaaGreatWalkC
import Derived.Lib.ConvBytes
namespace Go.Proofs.YtlljcnhcknmoaaaGreat
open Go.RowKit Go.Shelf
set_option linter.unusedVariables false
attribute [local go_sem] Oper.semAt_some

/-- The slice value v holds the integers zs of kind k in world w. -/
def Ints (k : IntKind) (w : World) (v : Value) (zs : List Int) : Prop :=
  ∃ a cap, v = .slice a zs.length cap ∧ zs.length ≤ cap ∧ zs.length ≤ 4611686018427387904 ∧
    (zs ≠ [] → ∃ b off, a = some ⟨b, off, none⟩ ∧ ∀ j, j < zs.length → w.cell? ⟨b, off + j, none⟩ = some (.int k (zs[j]?.getD 0)))

/-- A string's bytes. -/
def strN (s : ByteArray) : List Nat := s.data.toList.map UInt8.toNat

theorem strN_length (s : ByteArray) : (strN s).length = s.size := by simp [strN]
theorem strN_lt (s : ByteArray) : ∀ c ∈ strN s, c < 256 := by
  intro c hc
  obtain ⟨u, _, rfl⟩ := List.mem_map.1 hc
  exact u.toNat_lt
theorem strN_get (s : ByteArray) (j : Nat) (hj : j < s.size) : (strN s)[j]?.getD 0 = (s.data.toList.getD j 0).toNat := by
  have h : j < s.data.toList.length := by simpa using hj
  rw [strN, List.getElem?_map, List.getD_eq_getElem?_getD, List.getElem?_eq_getElem h]
  rfl

/-- A string as a byte slice: the bytes of the new row. -/
theorem bytes_of_string (w : World) (s : ByteArray) (hs : s.size ≤ 4611686018427387904) :
    Bytes (Lib.bytesWorld w 5 s) (.slice (some ⟨w.heap.size, 0, none⟩) s.size (grownCap w s.size 0 5)) (strN s) := by
  refine ⟨strN_lt s, some ⟨w.heap.size, 0, none⟩, _, by rw [strN_length], by rw [strN_length]; exact grownCap_ge _ _ _ _, by rw [strN_length]; exact hs, fun _ => ⟨_, _, rfl, fun j hj => ?_⟩⟩
  rw [strN_length] at hj
  rw [strN_get s j hj, Nat.zero_add]
  exact Lib.bytesWorld_cell w _ s j hj

theorem below_bytesWorld (B : Nat) (w : World) (s : ByteArray) (e : TypeId) (hB : B ≤ w.heap.size) : Below B w (Lib.bytesWorld w e s) :=
  ⟨rfl, rfl, rfl, by rw [Lib.bytesWorld_size]; omega, fun k hk => Lib.bytesWorld_at_old w e s k (by omega)⟩

theorem Bytes.below {w w' : World} {v : Value} {l : List Nat} (h : Bytes w v l) (hk : ∀ k, blockOf v k → w'.heap[k]? = w.heap[k]?) : Bytes w' v l := by
  obtain ⟨h1, a, cap, rfl, h2, h3, h4⟩ := h
  refine ⟨h1, a, cap, rfl, h2, h3, fun hl => ?_⟩
  obtain ⟨b, off, rfl, hc⟩ := h4 hl
  exact ⟨b, off, rfl, fun j hj => (World.cell?_of_block (hk b rfl)).trans (hc j hj)⟩

theorem wrap_ofInt (n : Int) : IntKind.u64.wrap n = ((ofInt n : Nat) : Int) := by
  rw [IntKind.wrap_u64]; unfold ofInt; omega
theorem mix_int (a : Nat) (n : Int) (w : World) (ha : a < T64) :
    Calls Tryz.prog 80 #[.int .u64 a, .int .u64 (IntKind.u64.wrap n)] w fun e w' => e = .returned (.int .u64 (mixN a (ofInt n))) ∧ w = w' := by
  rw [wrap_ofInt]; exact mix_any a _ w ha (ofInt_lt n)
theorem fold_take_succ (s : Nat) (zs : List Int) {k : Nat} (hk : k < zs.length) : fold s ((zs.take (k + 1)).map ofInt) = mixN (fold s ((zs.take k).map ofInt)) (ofInt zs[k]) := by
  rw [List.take_succ_eq_append_getElem hk, List.map_append, List.map_singleton, fold_snoc]

set_option maxRecDepth 100000 in
set_option maxHeartbeats 4000000 in
theorem sum_any (s : ByteArray) (v : Value) (zs : List Int) (w : World) (hs : s.size ≤ 4611686018427387904) (hz : Ints .i64 w v zs) :
    Calls Tryz.prog 62 #[.string s, v] w fun e w' => e = .returned (.int .u64 (sumN (strN s) zs)) ∧ Below w.heap.size w w' := by
  obtain ⟨a, cap, rfl, hcap, hcm, hne⟩ := hz
  refine (callsIn_wide (n := 0)).1 ?_
  refine callsIn_of_wp_marks Tryz.func62 rfl trivial ?_ rfl
  simp only [Tryz.ntmps62, List.size_toArray, List.length_cons, List.length_nil, Nat.reduceAdd, Nat.reduceSub, Array.replicate_succ, Array.replicate_zero, List.push_toArray, List.append_toArray, List.nil_append, List.cons_append]
  have hcv := fun (w : World) => Lib.run_convert_string_bytes (P := Tryz.prog) w 9 39 5 s Tryz.underlying9 Tryz.underlying39 Tryz.underlying5
  gi_wp2_with fail
  clear hcv
  refine ⟨trivial, rfl, (callsIn_wide.2 (wordsOf_any _ _ _ _)).mono ?_⟩
  rintro e w' ⟨rfl, rfl⟩
  gi_wp2_with fail
  -- the world in which the loop begins
  have hby := bytes_of_string (w.alloc (Obj.cells #[Value.int IntKind.u64 0] 76)) s hs
  have hbel := below_bytesWorld w.heap.size (w.alloc (Obj.cells #[Value.int IntKind.u64 0] 76)) s 5 (by simp)
  have hz2 := Lib.bytesWorld_size (w.alloc (Obj.cells #[Value.int IntKind.u64 0] 76)) 5 s
  have hold := Lib.bytesWorld_at_old (w.alloc (Obj.cells #[Value.int IntKind.u64 0] 76)) 5 s w.heap.size (by simp)
  rw [World.size_alloc] at hz2 hby
  generalize hC : grownCap (w.alloc (Obj.cells #[Value.int IntKind.u64 0] 76)) s.size 0 5 = C at *
  generalize hW2 : Lib.bytesWorld (w.alloc (Obj.cells #[Value.int IntKind.u64 0] 76)) 5 s = W2 at *
  clear hC hW2
  rw [hz2]
  simp only [Nat.add_assoc, Nat.reduceAdd] at hz2 ⊢
  have bx2 : Boxed W2 w.heap.size 76 (.int .u64 0) := hold.trans (World.alloc_heap_new w _)
  have bl2 : Below w.heap.size w W2 := ((Below.refl _ w).alloc (Nat.le_refl _) _).trans hbel
  clear hold hbel
  have c3 : (W2.alloc (.cells #[.slice (some ⟨w.heap.size + 1, 0, none⟩) s.size C] 39)).cell? ⟨w.heap.size + 2, 0, none⟩ = some (.slice (some ⟨w.heap.size + 1, 0, none⟩) s.size C) := by
    rw [← hz2]; exact (Boxed.new W2 _ _).cell
  have hby3 : Bytes (W2.alloc (.cells #[.slice (some ⟨w.heap.size + 1, 0, none⟩) s.size C] 39)) (.slice (some ⟨w.heap.size + 1, 0, none⟩) s.size C) (strN s) :=
    hby.below (fun k hk => Below.heap_alloc _ _ _ (by have : k = w.heap.size + 1 := hk; omega))
  have bx3 := bx2.alloc (.cells #[.slice (some ⟨w.heap.size + 1, 0, none⟩) s.size C] 39)
  have bl3 := bl2.alloc (by omega : w.heap.size ≤ W2.heap.size) (.cells #[.slice (some ⟨w.heap.size + 1, 0, none⟩) s.size C] 39)
  have z3 : (W2.alloc (.cells #[.slice (some ⟨w.heap.size + 1, 0, none⟩) s.size C] 39)).heap.size = w.heap.size + 3 := by rw [World.size_alloc, hz2]
  generalize W2.alloc (.cells #[.slice (some ⟨w.heap.size + 1, 0, none⟩) s.size C] 39) = W3 at *
  clear hby bx2 bl2 hz2
  have hg := words_gives (w.heap.size + 2) _ (strN s) W3 c3 hby3
  refine wp_range (gf := 77) (lb := #[.pointer (some ⟨w.heap.size + 2, 0, none⟩)]) rfl (enters_of Tryz.func77 (by kernel_rfl) rfl) hg (fun k => k = w.heap.size)
    (fun k hk => ⟨rfl, by rcases hk with rfl | hk; omega; (have : k = w.heap.size + 1 := hk); omega, by rcases hk with rfl | hk; omega; (have : k = w.heap.size + 1 := hk); omega⟩) (fun _ => rfl)
    (fun pre A1 W1 => (∀ k, A1 k ↔ k = w.heap.size) ∧ Boxed W1 w.heap.size 76 (.int .u64 (fold 0 pre : Nat)) ∧ Below w.heap.size w W1)
    (fun _ _ _ _ => False) ?inv ?invx ⟨fun _ => Iff.rfl, bx3, bl3⟩
    (fun pre x a1 A1 W1 => ((∀ k, A1 k ↔ k = w.heap.size) ∧ Boxed W1 w.heap.size 76 (.int .u64 (fold 0 pre : Nat)) ∧ Below w.heap.size w W1) ∧
      a1 = { tmps := #[.string s, .slice a zs.length cap, undef, undef, .int .u64 0, .pointer (some ⟨w.heap.size, 0, none⟩), .int .u64 (x : Nat), undef, undef, .string s, .slice (some ⟨w.heap.size + 1, 0, none⟩) s.size C, .func (.func 77) #[] #[.pointer (some ⟨w.heap.size + 2, 0, none⟩)], .int .u64 (x : Nat), undef, undef, undef, undef, undef, undef, undef, undef, undef, undef, undef, undef, undef, undef, undef, undef, undef, undef, undef, undef, undef, undef, undef, undef, undef, undef], defers := [] })
    ?invA ?assign ?body ?done ?stop
  case inv =>
    refine ⟨?_, fun s A1 W1 ⟨h1, h2, _⟩ k hk => by rw [(h1 k).1 hk]; exact h2.lt⟩
    rintro pre A1 W1 W4 ⟨h1, h2, h3⟩ hk
    exact ⟨h1, hk.obj h2 (by simp; omega), h3.trans (hk.below h3.size (by simp; omega))⟩
  case invx => exact fun c => ⟨fun _ _ _ _ h _ => h.elim, fun _ _ _ h => h.elim⟩
  case invA =>
    intro pre x a1
    refine ⟨?_, fun s A1 W1 ⟨⟨h1, h2, _⟩, _⟩ k hk => by rw [(h1 k).1 hk]; exact h2.lt⟩
    rintro _ A1 W1 W4 ⟨⟨h1, h2, h3⟩, h4⟩ hk
    exact ⟨⟨h1, hk.obj h2 (by simp; omega), h3.trans (hk.below h3.size (by simp; omega))⟩, h4⟩
  case assign =>
    intro l2 pre x A1 W1 K hpre hI hK
    gi_wp2
    exact hK _ _ _ (Round.refl _ _) ⟨hI, rfl⟩
  case body =>
    rintro l2 pre x a1 A1 W1 hl2 hn2 hr2 hpre ⟨⟨h1, h2, h3⟩, rfl⟩
    have hx : x < T64 := words_lt (strN_lt s) x (hpre.subset (by simp))
    have hc := h2.cell
    have hf := h2.frozen
    have hm := mix_any (fold 0 pre) x W1 (fold_lt (by decide) pre) hx
    clear hr2 hg hn2 c3 hby3 bx3
    gi_wp2_with fail
    refine ⟨trivial, rfl, (CallsIn.inRound l2 (callsIn_wide.2 hm)).mono ?_⟩
    clear hm
    rintro e w' ⟨rfl, rfl⟩
    gi_wp2
    refine ⟨A1, Round.same ((Keeps.refl _ _).setCell _ _ ((h1 _).2 rfl)), h1, ?_, h3.setCell (p := ⟨w.heap.size, 0, none⟩) (Nat.le_refl _) _⟩
    rw [fold_snoc]
    exact h2.set _
  case done =>
    rintro D A2 W2 hD hnD ⟨h1, h2, h3⟩ hK
    have hc := h2.cell
    have hf := h2.frozen
    have hDS : D ≠ w.heap.size := by omega
    clear hnD h1 hg c3 hby3 bx3 bl3
    have hm := mix_any (fold 0 (wordsN (strN s))) s.size W2 (fold_lt (by decide) _) (by unfold T64; omega)
    gi_wp2_with fail
    refine ⟨trivial, rfl, (callsIn_wide.2 hm).mono ?_⟩
    clear hm
    rintro e w' ⟨rfl, rfl⟩
    -- the length of the label is mixed in
    have b4 : Boxed (W2.setCell ⟨w.heap.size, 0, none⟩ (.int .u64 (mixN (fold 0 (wordsN (strN s))) s.size : Nat))) w.heap.size 76 (.int .u64 (mixN (fold 0 (wordsN (strN s))) s.size : Nat)) := h2.set _
    have l4 : Below w.heap.size w (W2.setCell ⟨w.heap.size, 0, none⟩ (.int .u64 (mixN (fold 0 (wordsN (strN s))) s.size : Nat))) := h3.setCell (p := ⟨w.heap.size, 0, none⟩) (Nat.le_refl _) _
    have k4 : (W2.setCell ⟨w.heap.size, 0, none⟩ (.int .u64 (mixN (fold 0 (wordsN (strN s))) s.size : Nat))).heap[D]? = some (.deferred (some [])) := (Below.heap_setCell _ _ _ _ hDS).trans hK
    have hc4 := b4.cell
    have hf4 := b4.frozen
    gi_wp2_with fail
    have hs0 : mixN (fold 0 (wordsN (strN s))) s.size < T64 := mixN_lt _ _
    generalize W2.setCell ⟨w.heap.size, 0, none⟩ (.int .u64 (mixN (fold 0 (wordsN (strN s))) s.size : Nat)) = W4 at *
    generalize hst : mixN (fold 0 (wordsN (strN s))) s.size = st at *
    have Hst := Lib.hid hst
    clear hst h2 h3 hK hc hf
    have hm := mix_any st zs.length W4 hs0 (by unfold T64; omega)
    refine ⟨trivial, rfl, (callsIn_wide.2 hm).mono ?_⟩
    clear hm
    rintro e w' ⟨rfl, rfl⟩
    -- the number of the words is mixed in
    have b5 : Boxed (W4.setCell ⟨w.heap.size, 0, none⟩ (.int .u64 (mixN st zs.length : Nat))) w.heap.size 76 (.int .u64 (mixN st zs.length : Nat)) := b4.set _
    have l5 : Below w.heap.size w (W4.setCell ⟨w.heap.size, 0, none⟩ (.int .u64 (mixN st zs.length : Nat))) := l4.setCell (p := ⟨w.heap.size, 0, none⟩) (Nat.le_refl _) _
    have k5 : (W4.setCell ⟨w.heap.size, 0, none⟩ (.int .u64 (mixN st zs.length : Nat))).heap[D]? = some (.deferred (some [])) := (Below.heap_setCell _ _ _ _ hDS).trans k4
    have hs1 : mixN st zs.length < T64 := mixN_lt _ _
    gi_wp2_with fail
    generalize W4.setCell ⟨w.heap.size, 0, none⟩ (.int .u64 (mixN st zs.length : Nat)) = W5 at *
    clear b4 l4 k4 hc4 hf4
    gi_loopw [28] (fun i wr => ∃ k : Nat, k ≤ zs.length ∧ i = .int .i64 k ∧ Boxed wr w.heap.size 76 (.int .u64 (fold (mixN st zs.length) ((zs.take k).map ofInt) : Nat)) ∧ Below w.heap.size w wr ∧ wr.heap[D]? = some (.deferred (some [])))
      (fun i _ => zs.length - (intOf i).toNat)
    case atStart => exact ⟨0, Nat.zero_le _, rfl, b5, l5, k5⟩
    case round =>
      obtain ⟨k, hk, rfl, b6, l6, k6⟩ := hrel
      clear b5 l5 k5
      have hc := b6.cell
      have hf := b6.frozen
      have hs6 : fold (mixN st zs.length) ((zs.take k).map ofInt) < T64 := fold_lt hs1 _
      by_cases hlt : k < zs.length
      · obtain ⟨b, off, rfl, hcs⟩ := hne (fun h => by simp [h] at hlt)
        have hck : wr.cell? ⟨b, off + k, none⟩ = some (.int .i64 (zs[k]?.getD 0)) := by
          have h0 := hcs k hlt
          exact (l6.cell (p := ⟨b, off + k, none⟩) (World.block_lt_of_cell? _ _ h0)).trans h0
        clear hne hcs
        have hm := mix_int (fold (mixN st zs.length) ((zs.take k).map ofInt)) zs[k] wr hs6
        have HS := Lib.hid (fold_take_succ (mixN st zs.length) zs hlt)
        generalize hft : fold (mixN st zs.length) ((zs.take k).map ofInt) = ft at *
        clear hft
        gi_wp2_with fail
        refine ⟨trivial, rfl, (callsIn_wide.2 hm).mono ?_⟩
        clear hm
        rintro e w' ⟨rfl, rfl⟩
        have b7 : Boxed (wr.setCell ⟨w.heap.size, 0, none⟩ (.int .u64 (mixN ft (ofInt zs[k]) : Nat))) w.heap.size 76 (.int .u64 (mixN ft (ofInt zs[k]) : Nat)) := b6.set _
        have l7 : Below w.heap.size w (wr.setCell ⟨w.heap.size, 0, none⟩ (.int .u64 (mixN ft (ofInt zs[k]) : Nat))) := l6.setCell (p := ⟨w.heap.size, 0, none⟩) (Nat.le_refl _) _
        have k7 : (wr.setCell ⟨w.heap.size, 0, none⟩ (.int .u64 (mixN ft (ofInt zs[k]) : Nat))).heap[D]? = some (.deferred (some [])) := (Below.heap_setCell _ _ _ _ hDS).trans k6
        gi_wp2_with fail
        go_roundw
        case rel => exact ⟨k + 1, by omega, by go_num, by rw [HS.out]; exact b7, l7, k7⟩
        case measure => simp [intOf]; omega
      · obtain rfl : k = zs.length := by omega
        clear hne
        have hm := mix_any (fold (mixN st zs.length) ((zs.take zs.length).map ofInt)) 0 wr hs6 (by decide)
        have HF : Hid (mixN (fold (mixN st zs.length) ((zs.take zs.length).map ofInt)) 0 = sumN (strN s) zs) := by
          rw [List.take_length, ← Hst.out, ← strN_length]; rfl
        generalize hft : fold (mixN st zs.length) ((zs.take zs.length).map ofInt) = ft at *
        clear hft
        gi_wp2_with fail
        refine ⟨trivial, rfl, (callsIn_wide.2 hm).mono ?_⟩
        clear hm
        rintro e w' ⟨rfl, rfl⟩
        gi_wp2_with fail
        refine ⟨by simp, .inl ⟨_, _, rfl, run_takeDeferred k6, ?_⟩⟩
        rw [← HF.out]
        refine ⟨_, results_tmp (t := 4) rfl _ _ _, rfl, l6.trans ((Keeps.refl (fun k => w.heap.size ≤ k) wr).putObj D _ ?_ |>.below l6.size (fun _ h => h))⟩
        omega
  case stop =>
    intro D c pre A2 W2 hD hnD hpre h hK
    exact h.elim
end Go.Proofs.YtlljcnhcknmoaaaGreat
