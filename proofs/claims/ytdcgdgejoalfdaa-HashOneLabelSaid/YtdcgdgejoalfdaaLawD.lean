/-
  The walk of the law HashOneGroup: changes within one group of a byte slice change its hash.
-/
import Derived.Test.YtdcgdgejoalfdaaPlainB
import Derived.Test.YtdcgdgejoalfdaaLawC
namespace Go.Proofs.Ytdcgdgejoalfdaa
open Go.RowKit Go.Shelf
set_option linter.unusedVariables false

def AroundEnd (m : Nat) (w : World) (e : Ending) (w' : World) : Prop := ∃ k : Nat, k < m ∧ e = .returned (.int .i64 (k : Int)) ∧ w = w'
theorem around_nat (n : Int) (m : Nat) (w : World) (hn : -9223372036854775808 ≤ n ∧ n ≤ 9223372036854775807) (hm : 1 ≤ m) (hm2 : m ≤ 4611686018427387904) :
    Calls Try.prog 21 #[.int .i64 n, .int .i64 (m : Int)] w (AroundEnd m w) := by
  refine (around_any n m w hn hm hm2).mono ?_
  rintro e w' ⟨rfl, rfl⟩
  have h1 : 0 ≤ aroundI n m := Int.emod_nonneg _ (by omega)
  have h2 : aroundI n m < m := Int.emod_lt_of_pos _ (by omega)
  obtain ⟨k, hk⟩ := Int.eq_ofNat_of_zero_le h1
  exact ⟨k, by omega, by rw [hk], rfl⟩

theorem row_of_fresh {B : Nat} {e : TypeId} {k : IntKind} {w : World} {v : Value} {zs : List Int} (h : Fresh B e k w v zs) : Row k w v zs := by
  obtain ⟨a, cap, h1, h2, h3⟩ := fresh_elems h
  refine ⟨a, cap, h1, h2, ?_, h3, ?_⟩
  · rcases h.2 with ⟨rfl, _⟩ | ⟨g, cap', cur, rfl, _, _, _, hm, _⟩
    · injection h1 with e1 e2 e3; omega
    · injection h1 with e1 e2 e3; unfold maxLen at hm; omega
  · rintro rfl
    rcases h.2 with ⟨rfl, h0⟩ | ⟨g, cap', cur, rfl, _⟩
    · injection h1 with e1 e2 e3
      exact ⟨List.eq_nil_of_length_eq_zero h0, e3.symm⟩
    · injection h1 with e1; cases e1

/-- A slice of the call's own that is not empty, written out. -/
theorem fresh_some {B : Nat} {e : TypeId} {k : IntKind} {w : World} {v : Value} {zs : List Int} (h : Fresh B e k w v zs) (hz : zs ≠ []) :
    ∃ g cap, v = .slice (some ⟨g, 0, none⟩) zs.length cap ∧ B ≤ g ∧ g < w.heap.size ∧ zs.length ≤ cap := by
  rcases h.2 with ⟨_, h0⟩ | ⟨g, cap, cur, rfl, h1, h2, h3, _⟩
  · exact (hz (List.eq_nil_of_length_eq_zero h0)).elim
  · exact ⟨g, cap, rfl, h1, (Array.getElem?_eq_some_iff.1 h2).1, h3⟩

theorem fresh_grown {B : Nat} {e : TypeId} {k : IntKind} {w w' : World} {g cap n : Nat} {zs : List Int} {row : Nat} (h : Fresh B e k w (.slice (some ⟨g, 0, none⟩) n cap) zs) (hg : w.grownBy w' (some row)) (hne : g ≠ row) : Fresh B e k w' (.slice (some ⟨g, 0, none⟩) n cap) zs :=
  World.ownsRow.kept h hg (.inr (by simpa [Value.ownBlock] using hne))

theorem fresh_store {B : Nat} {e : TypeId} {k : IntKind} {w : World} {g cap : Nat} {zs : List Int} (h : Fresh B e k w (.slice (some ⟨g, 0, none⟩) zs.length cap) zs) (j : Nat) (c : Int) :
    Fresh B e k (w.setCell ⟨g, j, none⟩ (.int k c)) (.slice (some ⟨g, 0, none⟩) zs.length cap) (zs.set j c) ∧ w.grownBy (w.setCell ⟨g, j, none⟩ (.int k c)) (some g) := by
  have := World.ownsRow.stored h j (.int k c)
  unfold Fresh
  rw [List.length_set, List.map_set]
  exact this

theorem fresh_store2 {B : Nat} {e : TypeId} {k : IntKind} {w : World} {g cap n : Nat} {zs : List Int} (h : Fresh B e k w (.slice (some ⟨g, 0, none⟩) n cap) zs) (hn : n = zs.length) (j : Nat) (c : Int) :
    Fresh B e k (w.setCell ⟨g, j, none⟩ (.int k c)) (.slice (some ⟨g, 0, none⟩) n cap) (zs.set j c) ∧ w.grownBy (w.setCell ⟨g, j, none⟩ (.int k c)) (some g) := by
  subst hn; exact fresh_store h j c

theorem fresh_cell {B : Nat} {e : TypeId} {k : IntKind} {w : World} {g cap n : Nat} {zs : List Int} (h : Fresh B e k w (.slice (some ⟨g, 0, none⟩) n cap) zs) {j : Nat} (hj : j < zs.length) : w.cell? ⟨g, j, none⟩ = some (.int k (zs[j]?.getD 0)) := by
  obtain ⟨a, c, h1, h2, h3⟩ := fresh_elems h
  obtain ⟨b, off, h4, h5⟩ := h3 (fun e => by rw [e] at hj; simp at hj)
  cases h1
  cases h4
  have := h5 j hj
  rwa [Nat.zero_add] at this

theorem fresh_frozen {B : Nat} {e : TypeId} {k : IntKind} {w : World} {g cap : Nat} {zs : List Int} (h : Fresh B e k w (.slice (some ⟨g, 0, none⟩) zs.length cap) zs) (j : Nat) : w.frozen? ⟨g, j, none⟩ = false :=
  World.ownsRow.frozenAt h j

theorem bytes_range_set {zs : List Int} (h : ∀ n ∈ zs, 0 ≤ n ∧ n ≤ 255) (j : Nat) {c : Int} (hc : 0 ≤ c ∧ c ≤ 255) : ∀ n ∈ zs.set j c, 0 ≤ n ∧ n ≤ 255 := by
  intro n hn
  rcases List.mem_or_eq_of_mem_set hn with h1 | h1
  · exact h n h1
  · rw [h1]; exact hc

theorem toNats_mem {zs : List Int} (h : ∀ n ∈ zs, 0 ≤ n ∧ n ≤ 255) : ∀ c ∈ toNats zs, c < 256 := by
  intro c hc
  obtain ⟨n, hn, rfl⟩ := List.mem_map.1 hc
  have := h n hn
  omega

theorem toNats_inj {x y : List Int} (hx : ∀ n ∈ x, 0 ≤ n ∧ n ≤ 255) (hy : ∀ n ∈ y, 0 ≤ n ∧ n ≤ 255) (h : toNats x = toNats y) : x = y := by
  induction x generalizing y with
  | nil => cases y with
    | nil => rfl
    | cons _ _ => simp [toNats] at h
  | cons a l ih =>
    cases y with
    | nil => simp [toNats] at h
    | cons b m =>
      have h1 : a.toNat = b.toNat ∧ toNats l = toNats m := by simpa [toNats] using h
      have h2 := hx a (by simp)
      have h3 := hy b (by simp)
      rw [ih (fun n hn => hx n (by simp [hn])) (fun n hn => hy n (by simp [hn])) h1.2, show a = b by omega]

/-- The hashes of two byte lists that differ within one group are equal just where the lists are. -/
theorem group_eq (label : List Nat) {x y : List Int} (hl : x.length = y.length) (hx : ∀ n ∈ x, 0 ≤ n ∧ n ≤ 255) (hy : ∀ n ∈ y, 0 ≤ n ∧ n ≤ 255) {q : Nat} (he : ∀ i, i / 8 ≠ q → x[i]? = y[i]?) (h : x ≠ y) :
    bytesN label (toNats x) ≠ bytesN label (toNats y) := fun e =>
  h (toNats_inj hx hy (group_inj label (by rw [toNats_length, toNats_length, hl]) (toNats_mem hx) (toNats_mem hy) (q := q) (fun i hi => by
    unfold toNats; rw [List.getElem?_map, List.getElem?_map, he i hi]) e))

set_option maxRecDepth 100000 in
set_option maxHeartbeats 4000000 in
theorem walk_HashOneGroup (label : ByteArray) (u : Value) (b : List Int) (at' one two : Int) (w : World) (hs : label.size ≤ maxLen) (hu : Row .u8 w u b) (hb : ∀ n ∈ b, 0 ≤ n ∧ n ≤ 255)
    (hat : -9223372036854775808 ≤ at' ∧ at' ≤ 9223372036854775807) (hone : 0 ≤ one ∧ one ≤ 255) (htwo : 0 ≤ two ∧ two ≤ 255) :
    Calls Try.prog 6 #[.string label, u, .int .i64 at', .int .u8 one, .int .u8 two] w fun e w' => e = .returned (.bool true) ∧ Below w.heap.size w w' := by
  obtain ⟨i0, hi, hz0, hz1, hz2⟩ := info_parts info_u8
  have h39 : (b.take 39).length ≤ 39 := by simp; omega
  have hr : ∀ n ∈ b.take 39, 0 ≤ n ∧ n ≤ 255 := fun n hn => hb n (List.mem_of_mem_take hn)
  have HU := Lib.hid hu
  have HS := Lib.hid hs
  have HR := Lib.hid hr
  have H39 := Lib.hid h39
  have HAT := Lib.hid hat
  have L := Lib.hid (fun W => lives_any W)
  clear hu hs h39 hb hr hat
  generalize hcb : b.take 39 = cb at *
  have HCB := Lib.hid hcb
  clear hcb
  go_enter Try.func6, Try.ntmps6
  go_wp2_with fail
  refine (short_any label 20 w HS.out (by decide)).mono ?_
  rintro e w0 ⟨s, rfl, hs20, rfl⟩
  have HS20 := Lib.hid hs20
  clear hs20
  go_wp2_with fail
  refine (refFew_any u b 39 _ HU.out (by decide)).mono ?_
  rintro e w1 ⟨v1, rfl, hf1, hb1⟩
  rw [HCB.out] at hf1
  have F1 := Lib.hid hf1
  clear hf1
  go_wp2_with (at_builtin; refine wpList_append_own _ rfl _ _ 30 rfl w.heap.size 5 i0 (.int .u8 0) 1 1 Try.underlying30 hi hz0 hz1 hz2 rfl (by decide) _ _ _ rfl (World.ownsRow.alloc F1.out _) ⟨w1.heap.size, 0, none⟩ 1 1 [.int .u8 65] rfl rfl (cell_one_new _ _ _) (by simp [Value.oneCell']) (by unfold maxLen; have := H39.out; omega) (by have := H39.out; omega) (by have := hb1.size; simp; omega) ?_; intro v2 w2 hown hgrow _; have hf2 : Fresh w.heap.size 5 .u8 w2 v2 (cb ++ [65]) := (by (unfold Fresh); (rw [List.length_append, List.length_singleton, List.map_append]); exact hown); have hb2 : Below w.heap.size w w2 := ((hb1.alloc hb1.size _).grown hgrow (by have := hb1.size; simp; omega) (fun k hk => (F1.out.lt k hk).1)); have F2 := Lib.hid hf2; clear hf2 hown hgrow)
  have hxr : ∀ n ∈ cb ++ [65], 0 ≤ n ∧ n ≤ 255 := by
    intro n hn
    rcases List.mem_append.1 hn with h | h
    · exact HR.out n h
    · have : n = 65 := by simpa using h
      omega
  have hxl : 1 ≤ (cb ++ [65]).length ∧ (cb ++ [65]).length ≤ 40 := by have := H39.out; simp; omega
  generalize cb ++ [65] = xs at *
  have HXR := Lib.hid hxr
  clear hxr HR H39 F1 HCB hb1
  refine (refFew_any v2 xs 40 w2 (row_of_fresh F2.out) (by decide)).mono ?_
  rintro e w3 ⟨v3, rfl, hf3, hb3⟩
  rw [List.take_of_length_le hxl.2] at hf3
  have hne : xs ≠ [] := fun h => by rw [h] at hxl; simp at hxl
  obtain ⟨g2, c2, rfl, hg2a, hg2b, hc2⟩ := fresh_some F2.out hne
  obtain ⟨g3, c3, rfl, hg3a, hg3b, hc3⟩ := fresh_some hf3 hne
  have hX3 := Lib.hid (fresh_keeps F2.out hb3)
  have hY3 := Lib.hid hf3
  have hbel3 := below_then hb2 hb3
  have hgw : w.heap.size ≤ g3 := Nat.le_trans hb2.size hg3a
  clear hf3 F2 hb2 hb3 hne
  go_wp2_with fail
  refine (around_nat at' xs.length w3 HAT.out hxl.1 (by omega)).mono ?_
  rintro e w4 ⟨k, hk, rfl, rfl⟩
  have hcell := fresh_cell hY3.out hk
  have hfr := fresh_frozen hY3.out k
  have hgk : xs[k]?.getD 0 = xs[k] := by simp [hk]
  rw [hgk] at hcell
  have hst := fresh_store hY3.out k (bits .xor .u8 xs[k] one)
  have hc1 : 0 ≤ bits .xor .u8 xs[k] one ∧ bits .xor .u8 xs[k] one ≤ 255 := ⟨bits_lo_u8 _ _ _, bits_hi_u8 _ _ _⟩
  have hys : ∀ n ∈ xs.set k (bits .xor .u8 xs[k] one), 0 ≤ n ∧ n ≤ 255 := bytes_range_set HXR.out k hc1
  have hyd : ∀ i, i ≠ k → xs[i]? = (xs.set k (bits .xor .u8 xs[k] one))[i]? := fun i hi => (List.getElem?_set_ne (Ne.symm hi)).symm
  have hyl : (xs.set k (bits .xor .u8 xs[k] one)).length = xs.length := List.length_set
  have HST := Lib.hid hst
  have HYS := Lib.hid hys
  have HYD := Lib.hid hyd
  have HYL := Lib.hid hyl
  clear hst hgk hys hyd hyl
  have hcases : ¬ k + 1 < xs.length ∨ (k + 1 < xs.length ∧ (k + 1) % 8 = 0) ∨ (k + 1 < xs.length ∧ ¬ (k + 1) % 8 = 0) := by omega
  rcases hcases with hA | ⟨hB, hB2⟩ | ⟨hC, hC2⟩
  · go_wp2_with fail
    have X5 : Hid (Fresh w.heap.size 5 .u8 (w3.setCell ⟨g3, k, none⟩ (.int .u8 (bits .xor .u8 xs[k] one))) (.slice (some ⟨g2, 0, none⟩) xs.length c2) xs) := fresh_grown hX3.out HST.out.2 (by omega)
    have Y5 : Hid (Fresh w2.heap.size 5 .u8 (w3.setCell ⟨g3, k, none⟩ (.int .u8 (bits .xor .u8 xs[k] one))) (.slice (some ⟨g3, 0, none⟩) xs.length c3) (xs.set k (bits .xor .u8 xs[k] one))) := HST.out.1
    have hbel5 : Below w.heap.size w (w3.setCell ⟨g3, k, none⟩ (.int .u8 (bits .xor .u8 xs[k] one))) := hbel3.setCell (p := ⟨g3, k, none⟩) hgw _
    have HDF : Hid (∀ i, i / 8 ≠ k / 8 → xs[i]? = (xs.set k (bits .xor .u8 xs[k] one))[i]?) := fun i hi => HYD.out i (fun e => hi (by rw [e]))
    generalize w3.setCell ⟨g3, k, none⟩ (.int .u8 (bits .xor .u8 xs[k] one)) = w5 at *
    generalize xs.set k (bits .xor .u8 xs[k] one) = ys at *
    clear hX3 hY3 hbel3 hcell hfr HST HYD hc1
    clear hA
    have hXY : ((bytesN (strN s) (toNats xs) : Int) == (bytesN (strN s) (toNats ys) : Int)) = decide (xs = ys) := by
      by_cases h : xs = ys
      · rw [← h]; simp
      · rw [decide_eq_false h]; exact eq_false (group_eq _ HYL.out.symm HXR.out HYS.out (q := k / 8) HDF.out h)
    have B1 := Lib.hid (fun (W : World) (v : Value) h1 h2 => bytes_any s v (toNats xs) W (by have := HS20.out; omega) h1 h2 (by rw [toNats_length]; omega))
    have B2 := Lib.hid (fun (W : World) (v : Value) h1 h2 => bytes_any s v (toNats ys) W (by have := HS20.out; omega) h1 h2 (by rw [toNats_length, HYL.out]; omega))
    have SB := Lib.hid (fun (W : World) (u v : Value) h1 h2 => sameBytes_any u v xs ys W h1 h2 (by omega) (by rw [HYL.out]; omega))
    unfold SameEnd at SB
    generalize decide (xs = ys) = t at *
    generalize bytesN (strN s) (toNats xs) = X at *
    generalize bytesN (strN s) (toNats ys) = Y at *
    refine (B1.out w5 _ (Bytes.of_fresh X5.out (by omega) HXR.out) (fresh_block X5.out)).mono ?_
    rintro e w6 ⟨rfl, hb6⟩
    have hb7 := below_then hbel5 hb6
    replace X5 : Hid _ := Lib.hid (fresh_keeps X5.out hb6)
    replace Y5 : Hid _ := Lib.hid (fresh_keeps Y5.out hb6)
    clear hbel5 hb6
    go_wp2_with fail
    refine (B2.out w6 _ (Bytes.of_fresh Y5.out (by rw [HYL.out]; omega) HYS.out) (fresh_block Y5.out)).mono ?_
    rintro e w7 ⟨rfl, hb8⟩
    have hb9 := below_then hb7 hb8
    replace X5 : Hid _ := Lib.hid (fresh_keeps X5.out hb8)
    replace Y5 : Hid _ := Lib.hid (fresh_keeps Y5.out hb8)
    clear hb7 hb8
    go_wp2_with fail
    refine (SB.out w7 _ _ (Elems.of_fresh X5.out) (Elems.of_fresh Y5.out)).mono ?_
    rintro e w8 ⟨rfl, hb10⟩
    have hb11 := below_then hb9 hb10
    clear hb9 hb10 X5 Y5
    cases t
    all_goals
      go_wp2_with fail
      refine (L.out w8).mono ?_
      rintro e w9 ⟨rfl, hb12⟩
      have hb13 := below_then hb11 hb12
      clear hb11 hb12
      go_wp2_with fail
      go_ret
      exact ⟨rfl, hb13⟩
  · have hb0 : (((k : Int) + 1) % 8 != 0) = false := by rw [bne_eq_false_iff_eq]; omega
    go_wp2_with fail
    have X5 : Hid (Fresh w.heap.size 5 .u8 (w3.setCell ⟨g3, k, none⟩ (.int .u8 (bits .xor .u8 xs[k] one))) (.slice (some ⟨g2, 0, none⟩) xs.length c2) xs) := fresh_grown hX3.out HST.out.2 (by omega)
    have Y5 : Hid (Fresh w2.heap.size 5 .u8 (w3.setCell ⟨g3, k, none⟩ (.int .u8 (bits .xor .u8 xs[k] one))) (.slice (some ⟨g3, 0, none⟩) xs.length c3) (xs.set k (bits .xor .u8 xs[k] one))) := HST.out.1
    have hbel5 : Below w.heap.size w (w3.setCell ⟨g3, k, none⟩ (.int .u8 (bits .xor .u8 xs[k] one))) := hbel3.setCell (p := ⟨g3, k, none⟩) hgw _
    have HDF : Hid (∀ i, i / 8 ≠ k / 8 → xs[i]? = (xs.set k (bits .xor .u8 xs[k] one))[i]?) := fun i hi => HYD.out i (fun e => hi (by rw [e]))
    generalize w3.setCell ⟨g3, k, none⟩ (.int .u8 (bits .xor .u8 xs[k] one)) = w5 at *
    generalize xs.set k (bits .xor .u8 xs[k] one) = ys at *
    clear hX3 hY3 hbel3 hcell hfr HST HYD hc1
    clear hB hB2 hb0
    have hXY : ((bytesN (strN s) (toNats xs) : Int) == (bytesN (strN s) (toNats ys) : Int)) = decide (xs = ys) := by
      by_cases h : xs = ys
      · rw [← h]; simp
      · rw [decide_eq_false h]; exact eq_false (group_eq _ HYL.out.symm HXR.out HYS.out (q := k / 8) HDF.out h)
    have B1 := Lib.hid (fun (W : World) (v : Value) h1 h2 => bytes_any s v (toNats xs) W (by have := HS20.out; omega) h1 h2 (by rw [toNats_length]; omega))
    have B2 := Lib.hid (fun (W : World) (v : Value) h1 h2 => bytes_any s v (toNats ys) W (by have := HS20.out; omega) h1 h2 (by rw [toNats_length, HYL.out]; omega))
    have SB := Lib.hid (fun (W : World) (u v : Value) h1 h2 => sameBytes_any u v xs ys W h1 h2 (by omega) (by rw [HYL.out]; omega))
    unfold SameEnd at SB
    generalize decide (xs = ys) = t at *
    generalize bytesN (strN s) (toNats xs) = X at *
    generalize bytesN (strN s) (toNats ys) = Y at *
    refine (B1.out w5 _ (Bytes.of_fresh X5.out (by omega) HXR.out) (fresh_block X5.out)).mono ?_
    rintro e w6 ⟨rfl, hb6⟩
    have hb7 := below_then hbel5 hb6
    replace X5 : Hid _ := Lib.hid (fresh_keeps X5.out hb6)
    replace Y5 : Hid _ := Lib.hid (fresh_keeps Y5.out hb6)
    clear hbel5 hb6
    go_wp2_with fail
    refine (B2.out w6 _ (Bytes.of_fresh Y5.out (by rw [HYL.out]; omega) HYS.out) (fresh_block Y5.out)).mono ?_
    rintro e w7 ⟨rfl, hb8⟩
    have hb9 := below_then hb7 hb8
    replace X5 : Hid _ := Lib.hid (fresh_keeps X5.out hb8)
    replace Y5 : Hid _ := Lib.hid (fresh_keeps Y5.out hb8)
    clear hb7 hb8
    go_wp2_with fail
    refine (SB.out w7 _ _ (Elems.of_fresh X5.out) (Elems.of_fresh Y5.out)).mono ?_
    rintro e w8 ⟨rfl, hb10⟩
    have hb11 := below_then hb9 hb10
    clear hb9 hb10 X5 Y5
    cases t
    all_goals
      go_wp2_with fail
      refine (L.out w8).mono ?_
      rintro e w9 ⟨rfl, hb12⟩
      have hb13 := below_then hb11 hb12
      clear hb11 hb12
      go_wp2_with fail
      go_ret
      exact ⟨rfl, hb13⟩
  · have hb0 : (((k : Int) + 1) % 8 != 0) = true := by rw [bne_iff_ne]; omega
    have hcell2 := fresh_cell hY3.out hC
    have hgk2 : xs[k + 1]?.getD 0 = xs[k + 1] := by simp [hC]
    rw [hgk2] at hcell2
    have hfr2 := fresh_frozen hY3.out (k + 1)
    clear hgk2
    go_wp2_with fail
    have hd2 : 0 ≤ bits .xor .u8 xs[k + 1] two ∧ bits .xor .u8 xs[k + 1] two ≤ 255 := ⟨bits_lo_u8 _ _ _, bits_hi_u8 _ _ _⟩
    generalize bits .xor .u8 xs[k + 1] two = d2 at *
    generalize bits .xor .u8 xs[k] one = d1 at *
    have X4 := fresh_grown hX3.out HST.out.2 (by omega)
    obtain ⟨Y5', hgr5⟩ := fresh_store2 HST.out.1 HYL.out.symm (k + 1) d2
    have X5 : Hid (Fresh w.heap.size 5 .u8 ((w3.setCell ⟨g3, k, none⟩ (.int .u8 d1)).setCell ⟨g3, k + 1, none⟩ (.int .u8 d2)) (.slice (some ⟨g2, 0, none⟩) xs.length c2) xs) := fresh_grown X4 hgr5 (by omega)
    have Y5 := Lib.hid Y5'
    have hbel5 : Below w.heap.size w ((w3.setCell ⟨g3, k, none⟩ (.int .u8 d1)).setCell ⟨g3, k + 1, none⟩ (.int .u8 d2)) := (hbel3.setCell (p := ⟨g3, k, none⟩) hgw _).setCell (p := ⟨g3, k + 1, none⟩) hgw _
    have hdf : ∀ i, i / 8 ≠ k / 8 → xs[i]? = ((xs.set k d1).set (k + 1) d2)[i]? := fun i hi => by
      rw [List.getElem?_set_ne (fun e => hi (by omega))]; exact HYD.out i (fun e => hi (by rw [e]))
    have HDF := Lib.hid hdf
    have hyl2 : ((xs.set k d1).set (k + 1) d2).length = xs.length := by rw [List.length_set, List.length_set]
    have hys2 := bytes_range_set HYS.out (k + 1) hd2
    clear HYL HYS
    have HYL := Lib.hid hyl2
    have HYS := Lib.hid hys2
    generalize (w3.setCell ⟨g3, k, none⟩ (.int .u8 d1)).setCell ⟨g3, k + 1, none⟩ (.int .u8 d2) = w5 at *
    clear hX3 hY3 hbel3 hcell hfr HST HYD hc1 hdf hyl2 hys2 hb0 hcell2 hfr2 X4 Y5' hgr5
    generalize (xs.set k d1).set (k + 1) d2 = ys at *
    have hXY : ((bytesN (strN s) (toNats xs) : Int) == (bytesN (strN s) (toNats ys) : Int)) = decide (xs = ys) := by
      by_cases h : xs = ys
      · rw [← h]; simp
      · rw [decide_eq_false h]; exact eq_false (group_eq _ HYL.out.symm HXR.out HYS.out (q := k / 8) HDF.out h)
    have B1 := Lib.hid (fun (W : World) (v : Value) h1 h2 => bytes_any s v (toNats xs) W (by have := HS20.out; omega) h1 h2 (by rw [toNats_length]; omega))
    have B2 := Lib.hid (fun (W : World) (v : Value) h1 h2 => bytes_any s v (toNats ys) W (by have := HS20.out; omega) h1 h2 (by rw [toNats_length, HYL.out]; omega))
    have SB := Lib.hid (fun (W : World) (u v : Value) h1 h2 => sameBytes_any u v xs ys W h1 h2 (by omega) (by rw [HYL.out]; omega))
    unfold SameEnd at SB
    generalize decide (xs = ys) = t at *
    generalize bytesN (strN s) (toNats xs) = X at *
    generalize bytesN (strN s) (toNats ys) = Y at *
    refine (B1.out w5 _ (Bytes.of_fresh X5.out (by omega) HXR.out) (fresh_block X5.out)).mono ?_
    rintro e w6 ⟨rfl, hb6⟩
    have hb7 := below_then hbel5 hb6
    replace X5 : Hid _ := Lib.hid (fresh_keeps X5.out hb6)
    replace Y5 : Hid _ := Lib.hid (fresh_keeps Y5.out hb6)
    clear hbel5 hb6
    go_wp2_with fail
    refine (B2.out w6 _ (Bytes.of_fresh Y5.out (by rw [HYL.out]; omega) HYS.out) (fresh_block Y5.out)).mono ?_
    rintro e w7 ⟨rfl, hb8⟩
    have hb9 := below_then hb7 hb8
    replace X5 : Hid _ := Lib.hid (fresh_keeps X5.out hb8)
    replace Y5 : Hid _ := Lib.hid (fresh_keeps Y5.out hb8)
    clear hb7 hb8
    go_wp2_with fail
    refine (SB.out w7 _ _ (Elems.of_fresh X5.out) (Elems.of_fresh Y5.out)).mono ?_
    rintro e w8 ⟨rfl, hb10⟩
    have hb11 := below_then hb9 hb10
    clear hb9 hb10 X5 Y5
    cases t
    all_goals
      go_wp2_with fail
      refine (L.out w8).mono ?_
      rintro e w9 ⟨rfl, hb12⟩
      have hb13 := below_then hb11 hb12
      clear hb11 hb12
      go_wp2_with fail
      go_ret
      exact ⟨rfl, hb13⟩
end Go.Proofs.Ytdcgdgejoalfdaa
