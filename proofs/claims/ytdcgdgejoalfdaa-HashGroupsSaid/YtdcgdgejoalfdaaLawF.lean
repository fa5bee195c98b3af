/-
  The walk of the law HashGroups: Bytes is Sum over the words and the length; a zero byte behind a slice changes its hash.
-/
import Derived.Test.YtdcgdgejoalfdaaLawD
namespace Go.Proofs.Ytdcgdgejoalfdaa
open Go.RowKit Go.Shelf
set_option linter.unusedVariables false

theorem toNats_append (a b : List Int) : toNats (a ++ b) = toNats a ++ toNats b := by simp [toNats]

/-- A zero byte behind a list whose length is no multiple of 8 leaves its words as they are. -/
theorem words_zero (l : List Nat) (h : ¬ l.length % 8 = 0) : wordsN (l ++ [0]) = wordsN l := by
  unfold wordsN
  have e0 : ((l ++ [0]).length + 7) / 8 = (l.length + 7) / 8 := by simp; omega
  rw [e0]
  apply List.map_congr_left
  intro k hk
  have hk : k < (l.length + 7) / 8 := by simpa using hk
  have e : grp (l ++ [0]) k = grp l k ∨ grp (l ++ [0]) k = grp l k ++ [0] := by
    by_cases h8 : 8 * k + 8 ≤ l.length
    · left
      apply List.ext_getElem?
      intro j
      rw [grp_getElem?, grp_getElem?]
      split
      · rw [List.getElem?_append_left (by omega)]
      · rfl
    · right
      apply List.ext_getElem?
      intro j
      have hgl : (grp l k).length = l.length - 8 * k := by rw [grp_length]; omega
      rw [grp_getElem?]
      by_cases hj : j < l.length - 8 * k
      · rw [if_pos (by omega), List.getElem?_append_left (by omega), List.getElem?_append_left (by omega), grp_getElem?, if_pos (by omega)]
      · rw [List.getElem?_append_right (l₁ := grp l k) (by omega), hgl]
        by_cases hj2 : j = l.length - 8 * k
        · have e1 : 8 * k + j - l.length = 0 := by omega
          have e2 : j - (l.length - 8 * k) = 0 := by omega
          rw [if_pos (by omega), List.getElem?_append_right (l₁ := l) (by omega), e1, e2]
        · rw [List.getElem?_eq_none (l := [0]) (i := j - (l.length - 8 * k)) (by simp; omega)]
          split
          · rw [List.getElem?_eq_none (by simp; omega)]
          · rfl
  rcases e with e | e
  · rw [e]
  · rw [e, leN_append]; simp [leN]

theorem zero_ne (label l : List Nat) (hl : l.length ≤ 1000) (h : ¬ l.length % 8 = 0) : bytesN label (l ++ [0]) ≠ bytesN label l := fun e => by
  unfold bytesN at e
  rw [words_zero l h] at e
  have := sumN_word label _ [] e
  have h1 : ((l ++ [0]).length : Int) = (l.length : Int) :=
    ofInt_inj (by simp; omega) (by omega) this
  simp at h1
  omega

set_option maxRecDepth 100000 in
set_option maxHeartbeats 8000000 in
theorem walk_HashGroups (label : ByteArray) (u : Value) (b : List Int) (w : World) (hs : label.size ≤ maxLen) (hu : Row .u8 w u b) (hb : ∀ n ∈ b, 0 ≤ n ∧ n ≤ 255) :
    Calls Try.prog 8 #[.string label, u] w fun e w' => e = .returned (.bool true) ∧ Below w.heap.size w w' := by
  obtain ⟨i0, hi, hz0, hz1, hz2⟩ := info_parts info_int
  obtain ⟨j0, hj, hy0, hy1, hy2⟩ := info_parts info_u8
  have h60 : (b.take 60).length ≤ 60 := by simp; omega
  have hr : ∀ n ∈ b.take 60, 0 ≤ n ∧ n ≤ 255 := fun n hn => hb n (List.mem_of_mem_take hn)
  have HU := Lib.hid hu
  have HS := Lib.hid hs
  have HR := Lib.hid hr
  have L := Lib.hid (fun W => lives_any W)
  clear hu hs hb hr
  generalize hcb : b.take 60 = cb at *
  have HCB := Lib.hid hcb
  clear hcb
  go_enter Try.func8, Try.ntmps8
  go_wp2_with fail
  refine (short_any label 20 w HS.out (by decide)).mono ?_
  rintro e w0 ⟨s, rfl, hs20, rfl⟩
  have HS20 := Lib.hid hs20
  clear hs20
  go_wp2_with fail
  refine (refFew_any u b 60 _ HU.out (by decide)).mono ?_
  rintro e w1 ⟨v1, rfl, hf1, hb1⟩
  rw [HCB.out] at hf1
  obtain ⟨a1, c1, rfl, hc1, _⟩ := fresh_elems hf1
  have F1 := Lib.hid hf1
  clear hf1
  go_wp2_with fail
  refine (refWords_any _ (toNats cb) w1 (Bytes.of_fresh F1.out (by omega) HR.out) (by rw [toNats_length]; omega)).mono ?_
  rintro e w2 ⟨v2, rfl, hf2, hb2⟩
  obtain ⟨pa, pc, rfl, hpc, hpe⟩ := fresh_elems hf2
  have hb3 := below_then hb1 hb2
  replace F1 : Hid _ := Lib.hid (fresh_keeps F1.out hb2)
  have FX : Hid (∀ W, Below w2.heap.size w2 W → Fresh w.heap.size 5 .u8 W (.slice a1 cb.length c1) cb) := fun W h => fresh_keeps F1.out h
  have hwl : ∀ x ∈ wordsN (toNats cb), x < T64 := words_lt (toNats_mem HR.out)
  have HF : Hid (bytesN (strN s) (toNats cb) = sumN (strN s) ((wordsN (toNats cb)).map toInt ++ [(cb.length : Int)])) := by rw [← toNats_length cb]; rfl
  clear hf2 hb1 hb2
  rw [natI_length] at hpc hpe ⊢
  have hwb : (wordsN (toNats cb)).length ≤ 1000000 := by rw [words_length, toNats_length]; omega
  have hex : ∃ ws, wordsN (toNats cb) = ws := ⟨_, rfl⟩
  obtain ⟨ws, hws⟩ := hex
  rw [hws] at hwl hwb hpc hpe ⊢
  have HF2 : Hid (bytesN (strN s) (toNats cb) = sumN (strN s) (ws.map toInt ++ [(cb.length : Int)])) := by rw [← hws]; exact HF.out
  clear hws HF
  have hpe2 : ∀ k, (hk : k < ws.length) → ∃ b off, pa = some ⟨b, off, none⟩ ∧ b < w2.heap.size ∧ w2.cell? ⟨b, off + k, none⟩ = some (.int .u64 ((ws[k] : Nat) : Int)) := by
    intro k hk
    obtain ⟨b, off, h1, h2⟩ := hpe (fun e => by have h0 := natI_length ws; rw [e] at h0; simp at h0; omega)
    have h3 := h2 k hk
    exact ⟨b, off, h1, World.block_lt_of_cell? _ _ h3, by rw [h3, natI_get ws hk]⟩
  have HPE := Lib.hid hpe2
  have HWL := Lib.hid hwl
  clear hpe hpe2 hwl
  go_wp2_with fail
  go_loopw [8, 9] (fun out i wr => ∃ k : Nat, k ≤ ws.length ∧ i = .int .i64 k ∧ wr.ownsRow w2.heap.size 3 1 out k (((ws.take k).map toInt).map (Value.int .i64)) ∧ Below w2.heap.size w2 wr) (fun _ i _ => ws.length - (intOf i).toNat)
  case atStart => exact ⟨0, Nat.zero_le _, rfl, World.ownsRow_nil _ _ _ _, Below.refl _ _⟩
  case round =>
    obtain ⟨k, hk, rfl, hrow, hbel⟩ := hrel
    have HRW := Lib.hid hrow
    clear hrow
    by_cases hlt : k < ws.length
    · obtain ⟨b1, o1, rfl, hb1, hc⟩ := HPE.out k hlt
      have hcell : wr.cell? ⟨b1, o1 + k, none⟩ = some (.int .u64 ((ws[k] : Nat) : Int)) := (hbel.cell (p := ⟨b1, o1 + k, none⟩) hb1).trans hc
      have HT := Lib.hid (wrap_toInt (HWL.out _ (List.getElem_mem hlt)))
      have HTS : Hid (((ws.take (k + 1)).map toInt).map (Value.int .i64) = ((ws.take k).map toInt).map (Value.int .i64) ++ [.int .i64 (wrap64 ((ws[k] : Nat) : Int))]) := by
        rw [HT.out, List.take_succ_eq_append_getElem hlt, List.map_append, List.map_append, List.map_singleton, List.map_singleton]; rfl
      clear hc
      generalize ws[k] = x at *
      go_wp2_with (at_builtin; refine wpList_append_own _ rfl _ _ 22 rfl w2.heap.size 3 i0 (.int .i64 0) 1 8 Try.underlying22 hi hz0 hz1 hz2 rfl (by decide) _ _ _ rfl (HRW.out.alloc _) ⟨wr.heap.size, 0, none⟩ 1 1 [.int .i64 (wrap64 (x : Int))] rfl rfl (cell_one_new _ _ _) (by simp [Value.oneCell']) (by unfold maxLen; omega) (by omega) (by have := hbel.size; simp; omega) ?_; intro v' w4 hown hgrow _; have hbel2 : Below w2.heap.size w2 w4 := ((hbel.alloc hbel.size _).grown hgrow (by have := hbel.size; simp; omega) (fun k hk => (HRW.out.lt k hk).1)); have HO := Lib.hid hown; clear hown hgrow)
      go_roundw
      case rel => exact ⟨k + 1, by omega, by go_num, by rw [HTS.out]; exact HO.out, hbel2⟩
      case measure => simp [intOf]; omega
    · obtain rfl : k = ws.length := by omega
      clear HPE
      replace F1 : Hid _ := Lib.hid (fresh_keeps F1.out hbel)
      have B1 := Lib.hid (fun (W : World) (v : Value) h1 h2 => bytes_any s v (toNats cb) W (by have := HS20.out; omega) h1 h2 (by rw [toNats_length]; omega))
      have B2 := Lib.hid (fun (W : World) (v : Value) h1 h2 => bytes_any s v (toNats (cb ++ [0])) W (by have := HS20.out; omega) h1 h2 (by rw [toNats_length]; simp; omega))
      have S1 := Lib.hid (fun (W : World) (v : Value) => sum_any s v (ws.map toInt ++ [(cb.length : Int)]) W (by have := HS20.out; omega))
      rw [← HF2.out] at S1
      have hne8 : ¬ cb.length % 8 = 0 → ((bytesN (strN s) (toNats (cb ++ [0])) : Int) != (bytesN (strN s) (toNats cb) : Int)) = true := fun h => by
        rw [toNats_append]
        exact ne_bool (zero_ne _ _ (by rw [toNats_length]; omega) (by rw [toNats_length]; exact h))
      have HN8 := Lib.hid hne8
      clear hne8 HF2
      generalize bytesN (strN s) (toNats (cb ++ [0])) = Z at *
      generalize bytesN (strN s) (toNats cb) = X at *
      have qx : ((X : Int) != (X : Int)) = false := by simp
      go_wp2_with fail
      refine (B1.out wr _ (Bytes.of_fresh F1.out (by omega) HR.out) (fresh_block F1.out)).mono ?_
      rintro e w5 ⟨rfl, hb5⟩
      have hb6 := below_then hbel hb5
      have hrw5 : w5.ownsRow w2.heap.size 3 1 u8 ws.length (((ws.take ws.length).map toInt).map (Value.int .i64)) := by
        refine ⟨HRW.out.1, ?_⟩
        rcases HRW.out.2 with hn | ⟨g, cap, cur, e1, e2, e3, e4⟩
        · exact .inl hn
        · exact .inr ⟨g, cap, cur, e1, e2, (hb5.block g (Array.getElem?_eq_some_iff.1 e3).1).trans e3, e4⟩
      have HR5 := Lib.hid hrw5
      replace F1 : Hid _ := Lib.hid (fresh_keeps F1.out hb5)
      clear hrw5 HRW hbel hb5
      go_wp2_with (at_builtin; refine wpList_append_own _ rfl _ _ 22 rfl w2.heap.size 3 i0 (.int .i64 0) 1 8 Try.underlying22 hi hz0 hz1 hz2 rfl (by decide) _ _ _ rfl (HR5.out.alloc _) ⟨w5.heap.size, 0, none⟩ 1 1 [.int .i64 (cb.length : Int)] rfl rfl (cell_one_new _ _ _) (by simp [Value.oneCell']) (by unfold maxLen; omega) (by omega) (by have := hb6.size; simp; omega) ?_; intro v' w6 hown hgrow _; have hbel2 : Below w2.heap.size w2 w6 := ((hb6.alloc hb6.size _).grown hgrow (by have := hb6.size; simp; omega) (fun k hk => (HR5.out.lt k hk).1)); have hbF : Below (w5.alloc (.cells #[.int .i64 (cb.length : Int)] 3)).heap.size (w5.alloc (.cells #[.int .i64 (cb.length : Int)] 3)) (w5.alloc (.cells #[.int .i64 (cb.length : Int)] 3)) := Below.refl _ _; have HO := Lib.hid hown; have HGR := Lib.hid hgrow; clear hown hgrow hbF)
      have hfr : Fresh w2.heap.size 3 .i64 w6 v' (ws.map toInt ++ [(cb.length : Int)]) := by
        have h0 := HO.out
        rw [List.take_length] at h0
        unfold Fresh
        rw [show (ws.map toInt ++ [(cb.length : Int)]).length = ws.length + 1 by simp, List.map_append]
        exact h0
      -- the bytes lie below the words
      have F6 : Hid (Fresh w.heap.size 5 .u8 w6 (.slice a1 cb.length c1) cb) := FX.out w6 hbel2
      clear F1
      refine (S1.out w6 v' (Ints.of_fresh hfr (by simp; omega))).mono ?_
      clear hfr HO HGR
      rintro e w7 ⟨rfl, hb7⟩
      have hb8 := below_then (below_then hb3 hbel2) hb7
      replace F6 : Hid _ := Lib.hid (fresh_keeps F6.out hb7)
      clear hb6 hb7 hbel2
      go_wp2_with fail
      refine (refFew_any _ cb 60 w7 (row_of_fresh F6.out) (by decide)).mono ?_
      rintro e w8 ⟨v8, rfl, hf8, hb9⟩
      rw [List.take_of_length_le h60] at hf8
      have F8 := Lib.hid hf8
      clear hf8
      have HZR : Hid (∀ n ∈ cb ++ [0], 0 ≤ n ∧ n ≤ 255) := by
        intro n hn
        rcases List.mem_append.1 hn with h | h
        · exact HR.out n h
        · have : n = 0 := by simpa using h
          omega
      by_cases h8 : cb.length % 8 = 0
      · have q8 : ((cb.length : Int) % 8 == 0) = true := by rw [beq_iff_eq]; omega
        clear h8
        go_wp2_with (at_builtin; refine wpList_append_own _ rfl _ _ 30 rfl w7.heap.size 5 j0 (.int .u8 0) 1 1 Try.underlying30 hj hy0 hy1 hy2 rfl (by decide) _ _ _ rfl (World.ownsRow.alloc F8.out _) ⟨w8.heap.size, 0, none⟩ 1 1 [.int .u8 0] rfl rfl (cell_one_new _ _ _) (by simp [Value.oneCell']) (by unfold maxLen; omega) (by omega) (by have := hb9.size; simp; omega) ?_; intro v9 w9 hown hgrow _; have hb79 : Below w7.heap.size w7 w9 := ((hb9.alloc hb9.size _).grown hgrow (by have := hb9.size; simp; omega) (fun k hk => (F8.out.lt k hk).1)); have hf9 : Fresh w7.heap.size 5 .u8 w9 v9 (cb ++ [0]) := (by (unfold Fresh); (rw [List.length_append, List.length_singleton, List.map_append]); exact hown); have F9 := Lib.hid hf9; clear hown hgrow hf9)
        have hb12 := below_then hb8 hb79
        clear hb8 hb9 hb79
        refine (L.out w9).mono ?_
        rintro e w10 ⟨rfl, hb13⟩
        have hb14 := below_then hb12 hb13
        clear hb12 hb13
        go_wp2_with fail
        go_ret
        exact ⟨rfl, hb14⟩
      · have q8 : ((cb.length : Int) % 8 == 0) = false := by rw [beq_eq_false_iff_ne]; omega
        have qn := HN8.out h8
        clear h8
        go_wp2_with (at_builtin; refine wpList_append_own _ rfl _ _ 30 rfl w7.heap.size 5 j0 (.int .u8 0) 1 1 Try.underlying30 hj hy0 hy1 hy2 rfl (by decide) _ _ _ rfl (World.ownsRow.alloc F8.out _) ⟨w8.heap.size, 0, none⟩ 1 1 [.int .u8 0] rfl rfl (cell_one_new _ _ _) (by simp [Value.oneCell']) (by unfold maxLen; omega) (by omega) (by have := hb9.size; simp; omega) ?_; intro v9 w9 hown hgrow _; have hb79 : Below w7.heap.size w7 w9 := ((hb9.alloc hb9.size _).grown hgrow (by have := hb9.size; simp; omega) (fun k hk => (F8.out.lt k hk).1)); have hf9 : Fresh w7.heap.size 5 .u8 w9 v9 (cb ++ [0]) := (by (unfold Fresh); (rw [List.length_append, List.length_singleton, List.map_append]); exact hown); have F9 := Lib.hid hf9; clear hown hgrow hf9)
        have hb12 := below_then hb8 hb79
        replace F6 : Hid _ := Lib.hid (fresh_keeps F6.out hb79)
        clear hb8 hb9 hb79
        refine (B2.out w9 v9 (Bytes.of_fresh F9.out (by simp; omega) HZR.out) (fresh_block F9.out)).mono ?_
        rintro e w10 ⟨rfl, hb13⟩
        have hb14 := below_then hb12 hb13
        replace F6 : Hid _ := Lib.hid (fresh_keeps F6.out hb13)
        clear hb12 hb13
        go_wp2_with fail
        refine (B1.out w10 _ (Bytes.of_fresh F6.out (by omega) HR.out) (fresh_block F6.out)).mono ?_
        rintro e w11 ⟨rfl, hb15⟩
        have hb16 := below_then hb14 hb15
        clear hb14 hb15
        go_wp2_with fail
        refine (L.out w11).mono ?_
        rintro e w12 ⟨rfl, hb17⟩
        have hb18 := below_then hb16 hb17
        clear hb16 hb17
        go_wp2_with fail
        go_ret
        exact ⟨rfl, hb18⟩
end Go.Proofs.Ytdcgdgejoalfdaa
