/-
  The walk of the law HashOneWord: one word that is another changes the sum.
-/
import Derived.Test.YtdcgdgejoalfdaaLawD
import Derived.Deep.RegionWith
namespace Go.Proofs.Ytdcgdgejoalfdaa
open Go.RowKit Go.Shelf
set_option linter.unusedVariables false

/-- Two slices of the call's own hold xs and ys; nothing that lay before the call has changed. -/
def Two (B1 B2 : Nat) (e : TypeId) (k : IntKind) (w : World) (u v : Value) (xs ys : List Int) (W : World) : Prop :=
  Fresh B1 e k W u xs ∧ Fresh B2 e k W v ys ∧ Below w.heap.size w W

theorem Two.step {B1 B2 : Nat} {e : TypeId} {k : IntKind} {w : World} {u v : Value} {xs ys : List Int} {W W2 : World} (h : Two B1 B2 e k w u v xs ys W) (hb : Below W.heap.size W W2) : Two B1 B2 e k w u v xs ys W2 :=
  ⟨fresh_keeps h.1 hb, fresh_keeps h.2.1 hb, below_then h.2.2 hb⟩

theorem word_eq (label : List Nat) {xs : List Int} (hx : ∀ n ∈ xs, -9223372036854775808 ≤ n ∧ n ≤ 9223372036854775807) {k : Nat} (hk : k < xs.length) {v : Int} (hv : -9223372036854775808 ≤ v ∧ v ≤ 9223372036854775807) :
    ((sumN label xs : Int) == (sumN label (xs.set k v) : Int)) = (xs[k] == v) := by
  by_cases h : xs[k] = v
  · have : xs.set k v = xs := by rw [← h]; exact List.set_getElem_self hk
    rw [this, h]; simp
  · rw [show (xs[k] == v) = false by simp [h]]
    refine eq_false (fun e => h ?_)
    have := sumN_at label (by simp) hk (fun i hi => (List.getElem?_set_ne (Ne.symm hi)).symm) e
    rw [List.getElem_set_self] at this
    exact ofInt_inj (hx _ (List.getElem_mem hk)) hv this

set_option maxRecDepth 100000 in
set_option maxHeartbeats 8000000 in
theorem walk_HashOneWord (label : ByteArray) (u : Value) (l : List Int) (at' vv : Int) (w : World) (hs : label.size ≤ maxLen) (hu : Row .i64 w u l) (hl : ∀ n ∈ l, -9223372036854775808 ≤ n ∧ n ≤ 9223372036854775807)
    (hat : -9223372036854775808 ≤ at' ∧ at' ≤ 9223372036854775807) (hvv : -9223372036854775808 ≤ vv ∧ vv ≤ 9223372036854775807) :
    Calls Try.prog 5 #[.string label, u, .int .i64 at', .int .i64 vv] w fun e w' => e = .returned (.bool true) ∧ Below w.heap.size w w' := by
  obtain ⟨i0, hi, hz0, hz1, hz2⟩ := info_parts info_int
  have h9 : (l.take 9).length ≤ 9 := by simp; omega
  have hr : ∀ n ∈ l.take 9, -9223372036854775808 ≤ n ∧ n ≤ 9223372036854775807 := fun n hn => hl n (List.mem_of_mem_take hn)
  have HU := Lib.hid hu
  have HS := Lib.hid hs
  have HR := Lib.hid hr
  have H9 := Lib.hid h9
  have HAT := Lib.hid hat
  have HVV := Lib.hid hvv
  have L := Lib.hid (fun W => lives_any W)
  clear hu hs h9 hl hr hat hvv
  generalize hcb : l.take 9 = cb at *
  have HCB := Lib.hid hcb
  clear hcb
  go_enter Try.func5, Try.ntmps5
  go_wp2_with fail
  refine (short_any label 20 w HS.out (by decide)).mono ?_
  rintro e w0 ⟨s, rfl, hs20, rfl⟩
  have HS20 := Lib.hid hs20
  clear hs20
  go_wp2_with fail
  refine (refInts_any u l 9 _ HU.out (by decide)).mono ?_
  rintro e w1 ⟨v1, rfl, hf1, hb1⟩
  rw [HCB.out] at hf1
  have F1 := Lib.hid hf1
  clear hf1
  go_wp2_with (at_builtin; refine wpList_append_own _ rfl _ _ 22 rfl w.heap.size 3 i0 (.int .i64 0) 1 8 Try.underlying22 hi hz0 hz1 hz2 rfl (by decide) _ _ _ rfl (World.ownsRow.alloc F1.out _) ⟨w1.heap.size, 0, none⟩ 1 1 [.int .i64 7] rfl rfl (cell_one_new _ _ _) (by simp [Value.oneCell']) (by unfold maxLen; have := H9.out; omega) (by have := H9.out; omega) (by have := hb1.size; simp; omega) ?_; intro v2 w2 hown hgrow _; have hf2 : Fresh w.heap.size 3 .i64 w2 v2 (cb ++ [7]) := (by (unfold Fresh); (rw [List.length_append, List.length_singleton, List.map_append]); exact hown); have hb2 : Below w.heap.size w w2 := ((hb1.alloc hb1.size _).grown hgrow (by have := hb1.size; simp; omega) (fun k hk => (F1.out.lt k hk).1)); have F2 := Lib.hid hf2; clear hf2 hown hgrow)
  have hxr : ∀ n ∈ cb ++ [7], -9223372036854775808 ≤ n ∧ n ≤ 9223372036854775807 := by
    intro n hn
    rcases List.mem_append.1 hn with h | h
    · exact HR.out n h
    · have : n = 7 := by simpa using h
      omega
  have hxl : 1 ≤ (cb ++ [7]).length ∧ (cb ++ [7]).length ≤ 10 := by have := H9.out; simp; omega
  generalize cb ++ [7] = xs at *
  have HXR := Lib.hid hxr
  clear hxr HR H9 F1 HCB hb1
  refine (refInts_any v2 xs 10 w2 (row_of_fresh F2.out) (by decide)).mono ?_
  rintro e w3 ⟨v3, rfl, hf3, hb3⟩
  rw [List.take_of_length_le hxl.2] at hf3
  have hne : xs ≠ [] := fun h => by rw [h] at hxl; simp at hxl
  obtain ⟨g2, c2, rfl, hg2a, hg2b, hc2⟩ := fresh_some F2.out hne
  obtain ⟨g3, c3, rfl, hg3a, hg3b, hc3⟩ := fresh_some hf3 hne
  have hX3 := Lib.hid (fresh_keeps F2.out hb3)
  have hY3 := Lib.hid hf3
  have hbel3 := below_then hb2 hb3
  have hgw : w.heap.size ≤ g3 := Nat.le_trans hb2.size hg3a
  clear hf3 F2 hb2 hb3 hne
  go_wp2_with fail
  refine (around_nat at' xs.length w3 HAT.out hxl.1 (by omega)).mono ?_
  rintro e w4 ⟨k, hk, rfl, rfl⟩
  have hcell := fresh_cell hY3.out hk
  have hfr := fresh_frozen hY3.out k
  have hst := fresh_store hY3.out k vv
  have HST := Lib.hid hst
  clear hst
  go_wp2_with fail
  have hgk : xs[k]?.getD 0 = xs[k] := by simp [hk]
  have hX4 := fresh_grown hX3.out HST.out.2 (by omega)
  have hbel4 : Below w.heap.size w (w3.setCell ⟨g3, k, none⟩ (.int .i64 vv)) := hbel3.setCell (p := ⟨g3, k, none⟩) hgw _
  have st : Two w.heap.size w2.heap.size 3 .i64 w (.slice (some ⟨g2, 0, none⟩) xs.length c2) (.slice (some ⟨g3, 0, none⟩) xs.length c3) xs (xs.set k vv) (w3.setCell ⟨g3, k, none⟩ (.int .i64 vv)) := ⟨hX4, HST.out.1, hbel4⟩
  have hXY := word_eq (strN s) HXR.out hk HVV.out
  have S1 : Hid (∀ W, Two w.heap.size w2.heap.size 3 .i64 w (.slice (some ⟨g2, 0, none⟩) xs.length c2) (.slice (some ⟨g3, 0, none⟩) xs.length c3) xs (xs.set k vv) W →
      Calls Try.prog 13 #[.string s, .slice (some ⟨g2, 0, none⟩) xs.length c2] W fun e w' => e = .returned (.int .u64 (sumN (strN s) xs)) ∧ Below W.heap.size W w') :=
    fun W h => sum_any s _ xs W (by have := HS20.out; omega) (Ints.of_fresh h.1 (by omega))
  have S2 : Hid (∀ W, Two w.heap.size w2.heap.size 3 .i64 w (.slice (some ⟨g2, 0, none⟩) xs.length c2) (.slice (some ⟨g3, 0, none⟩) xs.length c3) xs (xs.set k vv) W →
      Calls Try.prog 13 #[.string s, .slice (some ⟨g3, 0, none⟩) xs.length c3] W fun e w' => e = .returned (.int .u64 (sumN (strN s) (xs.set k vv))) ∧ Below W.heap.size W w') :=
    fun W h => sum_any s _ _ W (by have := HS20.out; omega) (Ints.of_fresh h.2.1 (by rw [List.length_set]; omega))
  have SC : Hid (∀ W, Two w.heap.size w2.heap.size 3 .i64 w (.slice (some ⟨g2, 0, none⟩) xs.length c2) (.slice (some ⟨g3, 0, none⟩) xs.length c3) xs (xs.set k vv) W → W.cell? ⟨g2, k, none⟩ = some (.int .i64 xs[k])) :=
    fun W h => by rw [← hgk]; exact fresh_cell h.1 hk
  have SB : Hid (∀ W, Two w.heap.size w2.heap.size 3 .i64 w (.slice (some ⟨g2, 0, none⟩) xs.length c2) (.slice (some ⟨g3, 0, none⟩) xs.length c3) xs (xs.set k vv) W → Below w.heap.size w W) := fun W h => h.2.2
  have SS : Hid (∀ W W2, Two w.heap.size w2.heap.size 3 .i64 w (.slice (some ⟨g2, 0, none⟩) xs.length c2) (.slice (some ⟨g3, 0, none⟩) xs.length c3) xs (xs.set k vv) W → Below W.heap.size W W2 → Two w.heap.size w2.heap.size 3 .i64 w (.slice (some ⟨g2, 0, none⟩) xs.length c2) (.slice (some ⟨g3, 0, none⟩) xs.length c3) xs (xs.set k vv) W2) := fun W W2 h hb => h.step hb
  generalize sumN (strN s) xs = X at *
  generalize sumN (strN s) (xs.set k vv) = Y at *
  generalize Two w.heap.size w2.heap.size 3 .i64 w (.slice (some ⟨g2, 0, none⟩) xs.length c2) (.slice (some ⟨g3, 0, none⟩) xs.length c3) xs (xs.set k vv) = P at *
  generalize w3.setCell ⟨g3, k, none⟩ (.int .i64 vv) = W5 at *
  have hc0 := SC.out _ st
  have st0 := SS.out _ W5.drew st (Below.refl _ _).drew
  clear hX3 hY3 hbel3 hcell hfr HST hX4 hbel4 st hgk
  have hkl : (k : Int) < (xs.length : Int) := by omega
  generalize hxk : xs[k] = z at *
  clear hxk
  generalize hzt : (z == vv) = t at *
  have hp : P W5 = P W5 := rfl
  clear hp
  cases t
  all_goals
    go_region_with (first
      | (go_at_call 13; ((with_reducible refine (S1.out _ ?_).mono ?_); exact st0); rintro e w' ⟨rfl, hb⟩; have st1 := SS.out _ _ st0 hb; clear st0 hb; have st0 := st1; clear st1; have hc1 := SC.out _ st0)
      | (go_at_call 13; ((with_reducible refine (S2.out _ ?_).mono ?_); exact st0); rintro e w' ⟨rfl, hb⟩; have st1 := SS.out _ _ st0 hb; clear st0 hb; have st0 := st1; clear st1; have hc2 := SC.out _ st0)
      | (go_at_call 15; refine (L.out _).mono ?_; rintro e w' ⟨rfl, hb⟩; have st1 := SS.out _ _ st0 hb; clear st0 hb; have st0 := st1; clear st1))
    all_goals
      have hfin := SB.out _ st0
      go_wp2_with fail
      go_ret
      exact ⟨rfl, hfin⟩
end Go.Proofs.Ytdcgdgejoalfdaa
