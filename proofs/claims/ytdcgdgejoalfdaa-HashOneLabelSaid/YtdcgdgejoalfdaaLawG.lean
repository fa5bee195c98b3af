/-
  The walk of the law HashOneLabel: a label that is another in one byte changes the sum.
-/
import Derived.Test.YtdcgdgejoalfdaaLawE
import Derived.Test.YtdcgdgejoalfdaaPlainC
import Derived.Lib.ConvBytes
namespace Go.Proofs.Ytdcgdgejoalfdaa
open Go.RowKit Go.Shelf
set_option linter.unusedVariables false

theorem size_x (s : ByteArray) : (s ++ (⟨#[120]⟩ : ByteArray)).size = s.size + 1 := ByteArray.size_append

theorem Ints.of_row {k : IntKind} {w : World} {v : Value} {zs : List Int} (h : Row k w v zs) (hz : zs.length ≤ 4611686018427387904) : Ints k w v zs := by
  obtain ⟨a, cap, h1, h2, h3, h4, h5⟩ := h
  exact ⟨a, cap, h1, h2, hz, h4⟩

theorem row_below {B : Nat} {k : IntKind} {w w' : World} {v : Value} {zs : List Int} (h : Row k w v zs) (hB : ∀ j, blockOf v j → j < B) (hb : Below B w w') : Row k w' v zs := by
  obtain ⟨a, cap, rfl, h2, h3, h4, h5⟩ := h
  refine ⟨a, cap, rfl, h2, h3, fun hne => ?_, h5⟩
  obtain ⟨b, off, rfl, hc⟩ := h4 hne
  exact ⟨b, off, rfl, fun j hj => (hb.cell (p := ⟨b, off + j, none⟩) (hB b rfl)).trans (hc j hj)⟩

/-- A string as a byte slice, as a row of integers. -/
theorem row_of_string (w : World) (s : ByteArray) (hs : s.size ≤ maxLen) (h1 : 1 ≤ s.size) :
    Row .u8 (Lib.bytesWorld w 5 s) (.slice (some ⟨w.heap.size, 0, none⟩) (natI (strN s)).length (grownCap w s.size 0 5)) (natI (strN s)) := by
  have hl : (natI (strN s)).length = s.size := by unfold natI; rw [List.length_map, strN_length]
  refine ⟨_, _, rfl, by rw [hl]; exact grownCap_ge _ _ _ _, ?_, fun _ => ⟨_, _, rfl, fun j hj => ?_⟩, fun h => by cases h⟩
  · have := grownCap_le_maxLen w s.size 0 5 hs
    unfold maxLen at this; omega
  · rw [hl] at hj
    rw [Nat.zero_add, Lib.bytesWorld_cell w _ s j hj]
    have : (natI (strN s))[j]?.getD 0 = (((strN s)[j]?.getD 0 : Nat) : Int) := by
      have hj2 : j < (strN s).length := by rw [strN_length]; exact hj
      unfold natI
      rw [List.getElem?_map, List.getElem?_eq_getElem hj2]; rfl
    rw [this, strN_get s j hj]

/-- The three slices of the law. -/
def Three (w : World) (u v x : Value) (ws xs ys : List Int) (W : World) : Prop :=
  Row .i64 W u ws ∧ Row .u8 W v xs ∧ Row .u8 W x ys ∧ Below w.heap.size w W

theorem Three.step {w : World} {u v x : Value} {ws xs ys : List Int} {W W2 : World} (h : Three w u v x ws xs ys W) (hb : Below W.heap.size W W2) : Three w u v x ws xs ys W2 :=
  ⟨row_keeps h.1 hb, row_keeps h.2.1 hb, row_keeps h.2.2.1 hb, below_then h.2.2.2 hb⟩

/-- A byte slice as a string. -/
theorem row_string {W : World} {g len cap : Nat} {xs : List Int} (h : Row .u8 W (.slice (some ⟨g, 0, none⟩) len cap) xs) (hl : len = xs.length) :
    (convert 30 9 (.slice (some ⟨g, 0, none⟩) len cap)).run Try.prog W = .ok (.string (strOfNums xs)) W := by
  obtain ⟨a, c, h1, h2, h3, h4, h5⟩ := h
  refine run_convert_bytes_arg (P := Try.prog) W 30 5 Try.underlying30 Try.underlying5 g 0 len cap xs hl.symm (fun i hi => ?_) _ Try.underlying9
  obtain ⟨b, off, e, hc⟩ := h4 (fun e => by rw [e] at hl; simp at hl; omega)
  cases h1
  cases e
  rw [hc i (by omega), List.getD_eq_getElem?_getD]

set_option maxRecDepth 100000 in
set_option maxHeartbeats 8000000 in
theorem walk_HashOneLabel (label : ByteArray) (u : Value) (l : List Int) (at' by' : Int) (w : World) (hs : label.size ≤ maxLen) (hu : Row .i64 w u l) (hl : ∀ n ∈ l, -9223372036854775808 ≤ n ∧ n ≤ 9223372036854775807)
    (hat : -9223372036854775808 ≤ at' ∧ at' ≤ 9223372036854775807) (hby : 0 ≤ by' ∧ by' ≤ 255) :
    Calls Try.prog 7 #[.string label, u, .int .i64 at', .int .u8 by'] w fun e w' => e = .returned (.bool true) ∧ Below w.heap.size w w' := by
  have h6 : (l.take 6).length ≤ 6 := by simp; omega
  have HU := Lib.hid hu
  have HS := Lib.hid hs
  have H6 := Lib.hid h6
  have HAT := Lib.hid hat
  have HBY := Lib.hid hby
  have L := Lib.hid (fun W => lives_any W)
  clear hu hs h6 hl hat hby
  generalize hcb : l.take 6 = cb at *
  have HCB := Lib.hid hcb
  clear hcb
  go_enter Try.func7, Try.ntmps7
  go_wp2_with fail
  refine (refInts_any u l 6 _ HU.out (by decide)).mono ?_
  rintro e w1 ⟨v1, rfl, hf1, hb1⟩
  rw [HCB.out] at hf1
  have F1 := Lib.hid hf1
  clear hf1 HCB
  go_wp2_with fail
  refine (short_any label 29 w1 HS.out (by decide)).mono ?_
  rintro e w0 ⟨s, rfl, hs29, rfl⟩
  have HS29 := Lib.hid hs29
  have hcv := fun (w : World) (s : ByteArray) => Lib.run_convert_string_bytes (P := Try.prog) w 9 30 5 s Try.underlying9 Try.underlying30 Try.underlying5
  go_wp2_with fail
  clear hcv hs29
  obtain ⟨xs, hxl, hxr, hrow⟩ : ∃ xs : List Int, xs.length = s.size + 1 ∧ (∀ n ∈ xs, 0 ≤ n ∧ n ≤ 255) ∧ Row .u8 (Lib.bytesWorld w1 5 (s ++ ⟨#[120]⟩)) (.slice (some ⟨w1.heap.size, 0, none⟩) (s.size + 1) (grownCap w1 (s.size + 1) 0 5)) xs := by
    have hsz := size_x s
    have hnl : (natI (strN (s ++ ⟨#[120]⟩))).length = s.size + 1 := by unfold natI; rw [List.length_map, strN_length, hsz]
    have := row_of_string w1 (s ++ ⟨#[120]⟩) (by rw [hsz]; unfold maxLen; have := HS29.out; omega) (by omega)
    rw [hnl, hsz] at this
    exact ⟨_, hnl, natI_range (strN_lt _), this⟩
  have hx30 : xs.length ≤ 30 := by have := HS29.out; omega
  have hx1 : 1 ≤ xs.length := by omega
  have hb2 : Below w1.heap.size w1 (Lib.bytesWorld w1 5 (s ++ ⟨#[120]⟩)) := below_bytesWorld _ _ _ _ (Nat.le_refl _)
  have hz2 := Lib.bytesWorld_size w1 5 (s ++ ⟨#[120]⟩)
  generalize Lib.bytesWorld w1 5 (s ++ ⟨#[120]⟩) = w2 at *
  generalize grownCap w1 (s.size + 1) 0 5 = c2 at *
  rw [← hxl] at hrow ⊢
  have HXR := Lib.hid hxr
  have HROW := Lib.hid hrow
  clear hxr hrow hxl HS29
  refine (refFew_any _ xs 30 w2 HROW.out (by decide)).mono ?_
  rintro e w3 ⟨v3, rfl, hf3, hb3⟩
  rw [List.take_of_length_le hx30] at hf3
  have hne : xs ≠ [] := fun h => by rw [h] at hx1; simp at hx1
  obtain ⟨g3, c3, rfl, hg3a, hg3b, hc3⟩ := fresh_some hf3 hne
  have hY3 := Lib.hid hf3
  have hbel2 := below_then hb1 hb2
  have hbel3 := below_then hbel2 hb3
  have hgw : w.heap.size ≤ g3 := Nat.le_trans hbel2.size hg3a
  have hU3 := row_keeps (row_keeps (row_of_fresh F1.out) hb2) hb3
  have hV3 := row_keeps HROW.out hb3
  have hub : ∀ j, blockOf v1 j → j < g3 := fun j hj => by have := fresh_block F1.out j hj; omega
  have hvb : ∀ j, blockOf (.slice (some ⟨w1.heap.size, 0, none⟩) xs.length c2) j → j < g3 := fun j hj => by have : j = w1.heap.size := hj; omega
  have HU3 := Lib.hid hU3
  have HV3 := Lib.hid hV3
  have HUB := Lib.hid hub
  have HVB := Lib.hid hvb
  clear hf3 hb2 hb3 hne hU3 hV3 hub hvb HROW F1 hb1 hbel2 hz2
  go_wp2_with fail
  refine (around_nat at' xs.length w3 HAT.out hx1 (by omega)).mono ?_
  rintro e w4 ⟨k, hk, rfl, rfl⟩
  have hcell := fresh_cell hY3.out hk
  have hfr := fresh_frozen hY3.out k
  have hgk : xs[k]?.getD 0 = xs[k] := by simp [hk]
  rw [hgk] at hcell
  have HST := Lib.hid (fresh_store hY3.out k (bits .xor .u8 xs[k] by'))
  clear hgk
  go_wp2_with fail
  have hb5 : Below g3 w3 (w3.setCell ⟨g3, k, none⟩ (.int .u8 (bits .xor .u8 xs[k] by'))) := (Below.refl g3 w3).setCell (p := ⟨g3, k, none⟩) (Nat.le_refl _) _
  have hbel5 : Below w.heap.size w (w3.setCell ⟨g3, k, none⟩ (.int .u8 (bits .xor .u8 xs[k] by'))) := hbel3.setCell (p := ⟨g3, k, none⟩) hgw _
  have st : Three w v1 (.slice (some ⟨w1.heap.size, 0, none⟩) xs.length c2) (.slice (some ⟨g3, 0, none⟩) xs.length c3) cb xs (xs.set k (bits .xor .u8 xs[k] by')) (w3.setCell ⟨g3, k, none⟩ (.int .u8 (bits .xor .u8 xs[k] by'))) :=
    ⟨row_below HU3.out HUB.out hb5, row_below HV3.out HVB.out hb5, row_of_fresh HST.out.1, hbel5⟩
  have hXY := label_eq cb (by have := H6.out; omega) (by omega) HXR.out hk HBY.out
  have hyl : (xs.set k (bits .xor .u8 xs[k] by')).length = xs.length := List.length_set
  have HYL := Lib.hid hyl
  clear hb5 hbel5 hcell hfr HST HU3 HV3 HUB HVB hY3 hbel3 hyl
  generalize w3.setCell ⟨g3, k, none⟩ (.int .u8 (bits .xor .u8 xs[k] by')) = W5 at *
  generalize xs.set k (bits .xor .u8 xs[k] by') = ys at *
  have S1 : Hid (∀ W, Three w v1 (.slice (some ⟨w1.heap.size, 0, none⟩) xs.length c2) (.slice (some ⟨g3, 0, none⟩) xs.length c3) cb xs ys W →
      Calls Try.prog 13 #[.string (strOfNums xs), v1] W fun e w' => e = .returned (.int .u64 (sumN (strN (strOfNums xs)) cb)) ∧ Below W.heap.size W w') :=
    fun W h => sum_any _ _ cb W (by rw [strOfNums_size]; omega) (Ints.of_row h.1 (by have := H6.out; omega))
  have S2 : Hid (∀ W, Three w v1 (.slice (some ⟨w1.heap.size, 0, none⟩) xs.length c2) (.slice (some ⟨g3, 0, none⟩) xs.length c3) cb xs ys W →
      Calls Try.prog 13 #[.string (strOfNums ys), v1] W fun e w' => e = .returned (.int .u64 (sumN (strN (strOfNums ys)) cb)) ∧ Below W.heap.size W w') :=
    fun W h => sum_any _ _ cb W (by rw [strOfNums_size, HYL.out]; omega) (Ints.of_row h.1 (by have := H6.out; omega))
  have SA : Hid (∀ W, Three w v1 (.slice (some ⟨w1.heap.size, 0, none⟩) xs.length c2) (.slice (some ⟨g3, 0, none⟩) xs.length c3) cb xs ys W →
      (convert 30 9 (.slice (some ⟨w1.heap.size, 0, none⟩) xs.length c2)).run Try.prog W = .ok (.string (strOfNums xs)) W) := fun W h => row_string h.2.1 rfl
  have SD : Hid (∀ W, Three w v1 (.slice (some ⟨w1.heap.size, 0, none⟩) xs.length c2) (.slice (some ⟨g3, 0, none⟩) xs.length c3) cb xs ys W →
      (convert 30 9 (.slice (some ⟨g3, 0, none⟩) xs.length c3)).run Try.prog W = .ok (.string (strOfNums ys)) W) := fun W h => row_string h.2.2.1 HYL.out.symm
  have SB : Hid (∀ W, Three w v1 (.slice (some ⟨w1.heap.size, 0, none⟩) xs.length c2) (.slice (some ⟨g3, 0, none⟩) xs.length c3) cb xs ys W → Below w.heap.size w W) := fun W h => h.2.2.2
  have SS : Hid (∀ W W2, Three w v1 (.slice (some ⟨w1.heap.size, 0, none⟩) xs.length c2) (.slice (some ⟨g3, 0, none⟩) xs.length c3) cb xs ys W → Below W.heap.size W W2 → Three w v1 (.slice (some ⟨w1.heap.size, 0, none⟩) xs.length c2) (.slice (some ⟨g3, 0, none⟩) xs.length c3) cb xs ys W2) := fun W W2 h hb => h.step hb
  clear HYL HXR H6 HBY
  generalize Three w v1 (.slice (some ⟨w1.heap.size, 0, none⟩) xs.length c2) (.slice (some ⟨g3, 0, none⟩) xs.length c3) cb xs ys = P at *
  generalize sumN (strN (strOfNums xs)) cb = X at *
  generalize sumN (strN (strOfNums ys)) cb = Y at *
  generalize strOfNums xs = sx at *
  generalize strOfNums ys = sy at *
  have st0 := SS.out _ W5.drew st (Below.refl _ _).drew
  have ha0 := SA.out _ st0
  have hd0 := SD.out _ st0
  clear st
  generalize hzt : (by' == 0) = t at *
  cases t
  all_goals
    go_region_with (first
      | (go_at_call 13; ((with_reducible refine (S1.out _ ?_).mono ?_); exact st0); rintro e w' ⟨rfl, hb⟩; have st1 := SS.out _ _ st0 hb; clear st0 hb; have st0 := st1; clear st1; have ha1 := SA.out _ st0; have hd1 := SD.out _ st0)
      | (go_at_call 13; ((with_reducible refine (S2.out _ ?_).mono ?_); exact st0); rintro e w' ⟨rfl, hb⟩; have st1 := SS.out _ _ st0 hb; clear st0 hb; have st0 := st1; clear st1; have ha2 := SA.out _ st0; have hd2 := SD.out _ st0)
      | (go_at_call 15; refine (L.out _).mono ?_; rintro e w' ⟨rfl, hb⟩; have st1 := SS.out _ _ st0 hb; clear st0 hb; have st0 := st1; clear st1))
    all_goals
      have hfin := SB.out _ st0
      go_wp2_with fail
      go_ret
      exact ⟨rfl, hfin⟩
end Go.Proofs.Ytdcgdgejoalfdaa
