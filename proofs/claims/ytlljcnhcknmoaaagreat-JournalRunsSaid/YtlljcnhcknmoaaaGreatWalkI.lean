/-
  The reference's copy of bytes; the comparison of slices.
-/
import Derived.Test.YtlljcnhcknmoaaaGreatRowIn
import Derived.Deep.QuietTactic
import Derived.BigQuiet
import Derived.WalkSmall
namespace Go.Proofs.YtlljcnhcknmoaaaGreat
open Go.RowKit Go.Shelf
set_option linter.unusedVariables false

theorem info_u8 : (Tryz.prog.info? 5).map (fun i => (i.zero, i.size, i.bytes)) = some (some (.int .u8 0), 1, 1) := by kernel_rfl

/-- What the elements of a slice are, for a walk that reads them. -/
def Elems (k : IntKind) (w : World) (v : Value) (zs : List Int) : Prop :=
  ∃ a cap, v = .slice a zs.length cap ∧ (zs ≠ [] → ∃ b off, a = some ⟨b, off, none⟩ ∧ ∀ j, j < zs.length → w.cell? ⟨b, off + j, none⟩ = some (.int k (zs[j]?.getD 0)))

def SameEnd (a b : List Int) (w : World) (e : Ending) (w' : World) : Prop := e = .returned (.bool (decide (a = b))) ∧ Below w.heap.size w w'
theorem same_end_yes {a b : List Int} {w w' : World} (h : a = b) (hb : Below w.heap.size w w') : SameEnd a b w (.returned (.bool true)) w' := ⟨by simp [h], hb⟩
theorem same_end_no {a b : List Int} {w w' : World} (h : a ≠ b) (hb : Below w.heap.size w w') : SameEnd a b w (.returned (.bool false)) w' := ⟨by simp [h], hb⟩

-- BEGIN SAME
set_option maxHeartbeats 1000000 in
theorem sameBytes_any (u v : Value) (a b : List Int) (w : World) (hu : Elems .u8 w u a) (hv : Elems .u8 w v b) (ha : a.length ≤ 1000000) (hb : b.length ≤ 1000000) :
    Calls Tryz.prog 20 #[u, v] w (SameEnd a b w) := by
  obtain ⟨pa, ca, rfl, hca⟩ := hu
  obtain ⟨pb, cb, rfl, hcb⟩ := hv
  by_cases hl : a.length = b.length
  · have hlen := Lib.hid hl
    generalize hla : a.length = la at *
    subst hl
    go_enter Tryz.func20, Tryz.ntmps20
    go_wp2_with fail
    have HA := Lib.hid hla
    clear hla hlen
    go_loopw [5] (fun i wr => ∃ k : Nat, k ≤ b.length ∧ i = .int .i64 k ∧ Hid (∀ j, j < k → a[j]?.getD 0 = b[j]?.getD 0) ∧ Below w.heap.size w wr) (fun i _ => b.length - (intOf i).toNat)
    case atStart => exact ⟨0, Nat.zero_le _, rfl, fun j hj => absurd hj (Nat.not_lt_zero _), Below.refl _ _⟩
    case round =>
      obtain ⟨k, hk, rfl, hs, hbel⟩ := hrel
      by_cases hlt : k < b.length
      · obtain ⟨b1, o1, rfl, c1⟩ := hca (fun e => by have := HA.out; rw [e] at this; simp at this; omega)
        obtain ⟨b2, o2, rfl, c2⟩ := hcb (fun e => by rw [e] at hlt; simp at hlt)
        have d1 := c1 k hlt
        have d2 := c2 k hlt
        have e1 := (hbel.cell (p := ⟨b1, o1 + k, none⟩) (World.block_lt_of_cell? _ _ d1)).trans d1
        have e2 := (hbel.cell (p := ⟨b2, o2 + k, none⟩) (World.block_lt_of_cell? _ _ d2)).trans d2
        clear c1 c2 d1 d2 hca hcb
        have q2 : b[k]?.getD 0 = b[k] := by simp [hlt]
        rw [q2] at e2
        generalize hx : a[k]?.getD 0 = x at *
        generalize hy : b[k] = y at *
        have HX := Lib.hid hx
        have HY := Lib.hid q2
        clear hx q2
        have HYY := Lib.hid hy
        clear hy
        by_cases hxy : x = y
        · have ht : (x != y) = false := by simp [hxy]
          have HXY := Lib.hid hxy
          clear hxy
          go_wp2_with fail
          go_quiet (fail)
          go_wp2_with fail
          go_roundw
          case rel =>
            refine ⟨k + 1, by omega, by go_num, ?_, below_drewN hbel _⟩
            intro j hj
            by_cases hjk : j = k
            · subst hjk; rw [HX.out, HXY.out, HY.out]
            · exact hs j (by omega)
          case measure => simp [intOf]; omega
        · have ht : (x != y) = true := by simp [hxy]
          have HXY := Lib.hid hxy
          clear hxy
          go_wp2_with fail
          go_quiet (fail)
          go_wp2_with fail
          go_ret
          exact same_end_no (fun e => HXY.out (by rw [← HX.out, ← HY.out, e])) (below_drewN hbel _)
      · obtain rfl : k = b.length := by omega
        clear hca hcb
        go_wp2_with fail
        go_ret
        refine same_end_yes (List.ext_getElem HA.out (fun j h1 h2 => ?_)) hbel
        have := hs j h2
        simpa [h1, h2] using this
  · have hbool : ((a.length : Int) != (b.length : Int)) = true := by simp; omega
    have HL := Lib.hid hl
    clear hl hca hcb
    go_enter Tryz.func20, Tryz.ntmps20
    go_wp2_with fail
    go_ret
    exact same_end_no (fun e => HL.out (by rw [e])) (Below.refl _ _)
-- END SAME

/-! ### From one word for a slice to another -/
theorem fresh_keeps {B : Nat} {e : TypeId} {k : IntKind} {w w' : World} {v : Value} {zs : List Int} (h : Fresh B e k w v zs) (hb : Below w.heap.size w w') : Fresh B e k w' v zs := by
  refine ⟨h.1, ?_⟩
  rcases h.2 with hn | ⟨g, cap, cur, rfl, h2, h3, h4⟩
  · exact .inl hn
  · exact .inr ⟨g, cap, cur, rfl, h2, (hb.block g (Array.getElem?_eq_some_iff.1 h3).1).trans h3, h4⟩

theorem fresh_elems {B : Nat} {e : TypeId} {k : IntKind} {w : World} {v : Value} {zs : List Int} (h : Fresh B e k w v zs) :
    ∃ a cap, v = .slice a zs.length cap ∧ zs.length ≤ cap ∧ (zs ≠ [] → ∃ b off, a = some ⟨b, off, none⟩ ∧ ∀ j, j < zs.length → w.cell? ⟨b, off + j, none⟩ = some (.int k (zs[j]?.getD 0))) := by
  have hf := h
  rcases h.2 with ⟨rfl, h0⟩ | ⟨g, cap, cur, rfl, h2, h3, h4, _⟩
  · have : zs = [] := List.eq_nil_of_length_eq_zero h0
    subst this
    exact ⟨none, 0, rfl, Nat.le_refl _, fun h => (h rfl).elim⟩
  · refine ⟨_, cap, rfl, h4, fun _ => ⟨g, 0, rfl, fun j hj => ?_⟩⟩
    have := World.ownsRow.cells hf (g := g) rfl j (.int k (zs[j]?.getD 0)) (by simp [hj])
    have e : (⟨g, 0, none⟩ : Addr).add j = ⟨g, 0 + j, none⟩ := by unfold Addr.add; split <;> simp_all
    rwa [e] at this

theorem Elems.of_fresh {B : Nat} {e : TypeId} {k : IntKind} {w : World} {v : Value} {zs : List Int} (h : Fresh B e k w v zs) : Elems k w v zs := by
  obtain ⟨a, cap, h1, _, h3⟩ := fresh_elems h
  exact ⟨a, cap, h1, h3⟩

theorem Ints.of_fresh {B : Nat} {e : TypeId} {k : IntKind} {w : World} {v : Value} {zs : List Int} (h : Fresh B e k w v zs) (hz : zs.length ≤ 4611686018427387904) : Ints k w v zs := by
  obtain ⟨a, cap, h1, h2, h3⟩ := fresh_elems h
  exact ⟨a, cap, h1, h2, hz, h3⟩

def toNats (zs : List Int) : List Nat := zs.map Int.toNat
theorem toNats_length (zs : List Int) : (toNats zs).length = zs.length := by simp [toNats]

theorem Bytes.of_fresh {B : Nat} {e : TypeId} {w : World} {v : Value} {zs : List Int} (h : Fresh B e .u8 w v zs) (hz : zs.length ≤ 4611686018427387904) (hr : ∀ n ∈ zs, 0 ≤ n ∧ n ≤ 255) : Bytes w v (toNats zs) := by
  obtain ⟨a, cap, h1, h2, h3⟩ := fresh_elems h
  refine ⟨fun c hc => ?_, a, cap, by rw [toNats_length]; exact h1, by rw [toNats_length]; exact h2, by rw [toNats_length]; exact hz, fun hne => ?_⟩
  · obtain ⟨n, hn, rfl⟩ := List.mem_map.1 hc
    have := hr n hn
    omega
  · obtain ⟨b, off, h4, h5⟩ := h3 (fun e => hne (by rw [e]; rfl))
    refine ⟨b, off, h4, fun j hj => ?_⟩
    rw [toNats_length] at hj
    rw [h5 j hj]
    have hm := hr _ (List.getElem_mem hj)
    simp only [toNats, List.getElem?_map, List.getElem?_eq_getElem hj, Option.map_some, Option.getD_some]
    rw [Int.toNat_of_nonneg hm.1]

theorem fresh_block {B : Nat} {e : TypeId} {k : IntKind} {w : World} {v : Value} {zs : List Int} (h : Fresh B e k w v zs) : ∀ j, blockOf v j → j < w.heap.size := by
  intro j hj
  rcases h.2 with ⟨rfl, _⟩ | ⟨g, cap, cur, rfl, _, h3, _⟩
  · exact hj.elim
  · have : j = g := hj
    subst this
    exact (Array.getElem?_eq_some_iff.1 h3).1

theorem row_keeps {k : IntKind} {w w' : World} {v : Value} {zs : List Int} (h : Row k w v zs) (hb : Below w.heap.size w w') : Row k w' v zs := by
  obtain ⟨a, cap, h1, h2, h3, h4, h5⟩ := h
  refine ⟨a, cap, h1, h2, h3, fun hne => ?_, h5⟩
  obtain ⟨b, off, e, hc⟩ := h4 hne
  exact ⟨b, off, e, fun j hj => (hb.cell (p := ⟨b, off + j, none⟩) (World.block_lt_of_cell? _ _ (hc j hj))).trans (hc j hj)⟩
end Go.Proofs.YtlljcnhcknmoaaaGreat
