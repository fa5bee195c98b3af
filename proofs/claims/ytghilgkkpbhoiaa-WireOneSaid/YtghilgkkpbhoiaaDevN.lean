/-
  The laws' read.
-/
import Derived.Test.YtghilgkkpbhoiaaDevM
namespace Go.Proofs.Ytghilgkkpbhoiaa
open Go.RowKit Go.Shelf
set_option linter.unusedVariables false

/-- A string's bytes, converted, as a row. -/
theorem row_bytes (w : World) (s : ByteArray) (hs : s.size ≤ maxLen) :
    Row .u8 (Lib.bytesWorld w 5 s) (.slice (some ⟨w.heap.size, 0, none⟩) s.size (grownCap w s.size 0 5)) (natI (strB s)) := by
  have hl : (natI (strB s)).length = s.size := by rw [natI_length, strB_length]
  refine ⟨_, _, by rw [hl], by rw [hl]; exact grownCap_ge _ _ _ _, ?_, fun _ => ⟨_, _, rfl, fun j hj => ?_⟩, fun h => by cases h⟩
  · have := grownCap_le_maxLen w s.size 0 5 hs
    unfold maxLen at this; omega
  · rw [hl] at hj
    rw [Nat.zero_add, Lib.bytesWorld_cell w _ s j hj]
    have h1 : (natI (strB s))[j]?.getD 0 = (((strB s)[j]?.getD 0 : Nat) : Int) := natI_getD _ _
    have h2 : (strB s)[j]?.getD 0 = (s.data.toList.getD j 0).toNat := strN_get s j hj
    rw [h1, h2]

/-! ### What is left is an end of what was there -/
theorem readVar_end2 (l : List Nat) : ∀ i n r, readVar i l = .val n r → r <:+ l := by
  induction l with
  | nil => intro i n r h; cases h
  | cons c l ih =>
    intro i n r h
    by_cases hb : badByte i c
    · rw [readVar_bad l hb] at h; cases h
    · by_cases h128 : c < 128
      · rw [readVar_last l hb h128] at h; cases h; exact List.suffix_cons _ _
      · rw [readVar_more l hb h128] at h
        cases hr : readVar (i + 1) l with
        | err e => rw [hr] at h; cases h
        | val m r' =>
          rw [hr] at h
          injection h with _ h2
          subst h2
          exact (ih _ _ _ hr).trans (List.suffix_cons _ _)
theorem rUint_suf (s : RS) : (rUint s).2.1 <:+ s.1 := by
  unfold rUint
  split
  · cases h : readVar 0 s.1 with
    | err e => exact List.suffix_refl _
    | val n r => exact readVar_end2 _ _ _ _ h
  · exact List.suffix_refl _
theorem rInt_suf (s : RS) : (rInt s).2.1 <:+ s.1 := rUint_suf s
theorem rBool_suf (s : RS) : (rBool s).2.1 <:+ s.1 := by
  obtain ⟨l, e⟩ := s
  unfold rBool
  split
  · exact List.suffix_refl _
  · cases l with
    | nil => exact List.suffix_refl _
    | cons c l =>
      show (if 1 < c then ((false : Bool), ((c :: l, 2) : RS)) else (decide (c = 1), ((l, 0) : RS))).2.1 <:+ _
      split
      · exact List.suffix_refl _
      · exact List.suffix_cons _ _
theorem rLen_suf (s : RS) : (rLen s).2.1 <:+ s.1 := by
  unfold rLen
  split
  · exact rUint_suf s
  · split
    · exact rUint_suf s
    · exact rUint_suf s
theorem rRaw_suf (s : RS) : (rRaw s).2.1 <:+ s.1 := by
  unfold rRaw
  split
  · exact rLen_suf s
  · exact (List.drop_suffix _ _).trans (rLen_suf s)
theorem rMany_suf (n : Nat) : ∀ s : RS, (rMany n s).2.1 <:+ s.1 := by
  induction n with
  | zero => intro s; exact List.suffix_refl _
  | succ n ih => intro s; exact (ih (rInt s).2).trans (rInt_suf s)
theorem rInts_suf (s : RS) : (rInts s).2.1 <:+ s.1 := by
  unfold rInts
  split
  · exact (rMany_suf _ _).trans (rLen_suf s)
  · exact (rMany_suf _ _).trans (rLen_suf s)
theorem rRead_suf (k : Int) (s : RS) : (rRead k s).2.1 <:+ s.1 := by
  unfold rRead
  split
  · exact rUint_suf s
  · split
    · exact rInt_suf s
    · split
      · exact rBool_suf s
      · split
        · exact rRaw_suf s
        · exact rInts_suf s
theorem rRaw_lt {s : RS} (h : ∀ c ∈ s.1, c < 256) : ∀ c ∈ (rRaw s).1, c < 256 := by
  intro c hc
  unfold rRaw at hc
  split at hc
  · simp at hc
  · exact h c ((rLen_suf s).subset (List.mem_of_mem_take hc))
theorem rRaw_len (s : RS) : (rRaw s).1.length ≤ s.1.length := by
  unfold rRaw
  split
  · exact Nat.zero_le _
  · refine Nat.le_trans ?_ (rLen_suf s).length_le
    show ((rLen s).2.1.take _).length ≤ _
    rw [List.length_take]
    omega

/-- What read gives: a value with parts of the call's own. -/
def GotEnd (r b : Nat) (v : VV) (s : RS) (w : World) (e : Ending) (w' : World) : Prop :=
  ∃ vb vl, e = .returned (.agg #[.int .i64 v.kind, .int .u64 (v.u : Int), .int .i64 v.n, vb, vl]) ∧ Row .u8 w' vb (natI v.b) ∧ Row .i64 w' vl v.l ∧ Rx w' r b s ∧ Keeps (fun k => k = r) w w' ∧
    ∀ j, (blockOf vb j ∨ blockOf vl j) → w.heap.size ≤ j ∧ j < w'.heap.size

theorem got_end {r b : Nat} {v : VV} {s : RS} {w W1 W2 : World} {vb vl : Value} (hK : Keeps (fun k => k = r) w W1) (hR : Rx W1 r b s) (hs : Keeps (fun k => k = w.heap.size ∨ k = w.heap.size + 1) W1 W2)
    (hb : b < w.heap.size) (hr : r < w.heap.size) (h1 : Row .u8 W1 vb (natI v.b)) (h2 : Row .i64 W1 vl v.l) (n1 : ∀ j, blockOf vb j → w.heap.size + 2 ≤ j ∧ j < W1.heap.size) (n2 : ∀ j, blockOf vl j → w.heap.size + 2 ≤ j ∧ j < W1.heap.size) {k n : Int} {u : Int}
    (ek : k = v.kind) (eu : u = (v.u : Int)) (en : n = v.n) :
    GotEnd r b v s w (.returned (.agg #[.int .i64 k, .int .u64 u, .int .i64 n, vb, vl])) W2 := by
  subst ek eu en
  refine ⟨vb, vl, rfl, row_foot h1 hs (fun j hj h => by have := n1 j hj; omega), row_foot h2 hs (fun j hj h => by have := n2 j hj; omega), rx_keeps hR hs (by omega) (by omega), ?_, fun j hj => ?_⟩
  · exact ⟨hs.os.trans hK.os, hs.tape.trans hK.tape, hs.output.trans hK.output, Nat.le_trans hK.size hs.size, fun j hj hn => (hs.same j (Nat.lt_of_lt_of_le hj hK.size) (by omega)).trans (hK.same j hj hn)⟩
  · have hsz := hs.size
    rcases hj with hj | hj
    · have := n1 j hj; omega
    · have := n2 j hj; omega

set_option maxRecDepth 100000 in
set_option maxHeartbeats 4000000 in
theorem read_any (r b : Nat) (kind : Int) (s : RS) (w : World) (h : Rx w r b s) (hs : ∀ c ∈ s.1, c < 256) (hsh : s.1.length ≤ 1000000) (hb : b < w.heap.size) :
    Calls Try.prog 22 #[.pointer (some ⟨r, 0, none⟩), .int .i64 kind] w (GotEnd r b (rRead kind s).1 (rRead kind s).2 w) := by
  have hr0 : r < w.heap.size := h.lts
  have HS8 := Lib.hid hs
  have HSH := Lib.hid hsh
  have HT := Lib.hid (twins_new w 0 kind)
  have HRD : Hid (Rx ((w.alloc (.cells #[.int .i64 0, .int .u64 0, .int .i64 0, .slice none 0 0, .slice none 0 0] 28)).alloc (.cells #[.int .i64 kind, .int .u64 0, .int .i64 0, .slice none 0 0, .slice none 0 0] 28)) r b s) :=
    Lib.hid (rx_below h hb (((Below.refl _ w).alloc (Nat.le_refl _) _).alloc (by simp) _))
  have HK0 : Hid (Keeps (fun k => k = r) w ((w.alloc (.cells #[.int .i64 0, .int .u64 0, .int .i64 0, .slice none 0 0, .slice none 0 0] 28)).alloc (.cells #[.int .i64 kind, .int .u64 0, .int .i64 0, .slice none 0 0, .slice none 0 0] 28))) :=
    Lib.hid (((Keeps.refl _ w).alloc _).alloc _)
  clear h hs hsh
  have hz0 : ((w.alloc (.cells #[.int .i64 0, .int .u64 0, .int .i64 0, .slice none 0 0, .slice none 0 0] 28)).alloc (.cells #[.int .i64 kind, .int .u64 0, .int .i64 0, .slice none 0 0, .slice none 0 0] 28)).heap.size = w.heap.size + 2 := by simp
  have hk : kind = 0 ∨ kind = 1 ∨ kind = 2 ∨ kind = 3 ∨ kind = 4 ∨ (kind ≠ 0 ∧ kind ≠ 1 ∧ kind ≠ 2 ∧ kind ≠ 3 ∧ kind ≠ 4) := by omega
  rcases hk with rfl | rfl | rfl | rfl | rfl | ⟨h0, h1, h2, h3, h4⟩
  · have HO : Hid (rRead 0 s = (⟨0, (rUint s).1, 0, [], []⟩, (rUint s).2)) := Lib.hid rfl
    go_enter Try.func22, Try.ntmps22
    go_wp2_with fail
    generalize (w.alloc (.cells #[.int .i64 0, .int .u64 0, .int .i64 0, .slice none 0 0, .slice none 0 0] 28)).alloc (.cells #[.int .i64 0, .int .u64 0, .int .i64 0, .slice none 0 0, .slice none 0 0] 28) = W0 at *
    refine (devRdUint_any r b s W0 HRD.out).mono ?_
    rintro e w1 ⟨rfl, hrd, hk⟩
    obtain ⟨a0, a1, a2, a3, a4, b0, b1, b2, b3, b4, fa, fb⟩ := twins_cells (twins_keeps HT.out hr0 hk)
    have HR1 := Lib.hid hrd
    have HK1 := Lib.hid (HK0.out.trans hk)
    clear hrd hk HRD HT HK0 hz0
    go_wp2_with fail
    refine bodyPost_ret (v := .agg #[.int .i64 0, .int .u64 ((rUint s).1 : Nat), .int .i64 0, .slice none 0 0, .slice none 0 0]) (by simp [results, Try.results22, go_sem, a0, a1, a2, a3, a4]) rfl ?_
    rw [HO.out]
    refine got_end (vb := .slice none 0 0) (vl := .slice none 0 0) HK1.out HR1.out ?_ hb hr0 (row_none _ _) (row_none _ _) (fun j h => h.elim) (fun j h => h.elim) rfl rfl rfl
    repeat (with_reducible refine Keeps.setCell ?_ _ _ ?_; rotate_left; (first | exact .inl rfl | exact .inr rfl))
    exact Keeps.refl _ _
  · have HO : Hid (rRead 1 s = (⟨1, 0, (rInt s).1, [], []⟩, (rInt s).2)) := Lib.hid rfl
    go_enter Try.func22, Try.ntmps22
    go_wp2_with fail
    generalize (w.alloc (.cells #[.int .i64 0, .int .u64 0, .int .i64 0, .slice none 0 0, .slice none 0 0] 28)).alloc (.cells #[.int .i64 1, .int .u64 0, .int .i64 0, .slice none 0 0, .slice none 0 0] 28) = W0 at *
    refine (devRdInt_any r b s W0 HRD.out HS8.out).mono ?_
    rintro e w1 ⟨rfl, hrd, hk⟩
    obtain ⟨a0, a1, a2, a3, a4, b0, b1, b2, b3, b4, fa, fb⟩ := twins_cells (twins_keeps HT.out hr0 hk)
    have HR1 := Lib.hid hrd
    have HK1 := Lib.hid (HK0.out.trans hk)
    clear hrd hk HRD HT HK0 hz0
    go_wp2_with fail
    refine bodyPost_ret (v := .agg #[.int .i64 1, .int .u64 0, .int .i64 (rInt s).1, .slice none 0 0, .slice none 0 0]) (by simp [results, Try.results22, go_sem, a0, a1, a2, a3, a4]) rfl ?_
    rw [HO.out]
    refine got_end (vb := .slice none 0 0) (vl := .slice none 0 0) HK1.out HR1.out ?_ hb hr0 (row_none _ _) (row_none _ _) (fun j h => h.elim) (fun j h => h.elim) rfl rfl rfl
    repeat (with_reducible refine Keeps.setCell ?_ _ _ ?_; rotate_left; (first | exact .inl rfl | exact .inr rfl))
    exact Keeps.refl _ _
  · have HO : Hid (rRead 2 s = (⟨2, 0, if (rBool s).1 then 1 else 0, [], []⟩, (rBool s).2)) := Lib.hid rfl
    go_enter Try.func22, Try.ntmps22
    go_wp2_with fail
    generalize (w.alloc (.cells #[.int .i64 0, .int .u64 0, .int .i64 0, .slice none 0 0, .slice none 0 0] 28)).alloc (.cells #[.int .i64 2, .int .u64 0, .int .i64 0, .slice none 0 0, .slice none 0 0] 28) = W0 at *
    refine (devRdBool_any r b s W0 HRD.out HS8.out).mono ?_
    rintro e w1 ⟨rfl, hrd, hk⟩
    obtain ⟨a0, a1, a2, a3, a4, b0, b1, b2, b3, b4, fa, fb⟩ := twins_cells (twins_keeps HT.out hr0 hk)
    have HR1 := Lib.hid hrd
    have HK1 := Lib.hid (HK0.out.trans hk)
    clear hrd hk HRD HT HK0 hz0
    generalize (rBool s).1 = t at *
    generalize (rBool s).2 = s2 at *
    cases t
    · go_wp2_with fail
      refine bodyPost_ret (v := .agg #[.int .i64 2, .int .u64 0, .int .i64 0, .slice none 0 0, .slice none 0 0]) (by simp [results, Try.results22, go_sem, a0, a1, a2, a3, a4]) rfl ?_
      rw [HO.out]
      refine got_end (vb := .slice none 0 0) (vl := .slice none 0 0) HK1.out HR1.out ?_ hb hr0 (row_none _ _) (row_none _ _) (fun j h => h.elim) (fun j h => h.elim) rfl rfl rfl
      repeat (with_reducible refine Keeps.setCell ?_ _ _ ?_; rotate_left; (first | exact .inl rfl | exact .inr rfl))
      exact Keeps.refl _ _
    · go_wp2_with fail
      refine bodyPost_ret (v := .agg #[.int .i64 2, .int .u64 0, .int .i64 1, .slice none 0 0, .slice none 0 0]) (by simp [results, Try.results22, go_sem, a0, a1, a2, a3, a4]) rfl ?_
      rw [HO.out]
      refine got_end (vb := .slice none 0 0) (vl := .slice none 0 0) HK1.out HR1.out ?_ hb hr0 (row_none _ _) (row_none _ _) (fun j h => h.elim) (fun j h => h.elim) rfl rfl rfl
      repeat (with_reducible refine Keeps.setCell ?_ _ _ ?_; rotate_left; (first | exact .inl rfl | exact .inr rfl))
      exact Keeps.refl _ _
  · have HO : Hid (rRead 3 s = (⟨3, 0, 0, (rRaw s).1, []⟩, (rRaw s).2)) := Lib.hid rfl
    go_enter Try.func22, Try.ntmps22
    go_wp2_with fail
    generalize (w.alloc (.cells #[.int .i64 0, .int .u64 0, .int .i64 0, .slice none 0 0, .slice none 0 0] 28)).alloc (.cells #[.int .i64 3, .int .u64 0, .int .i64 0, .slice none 0 0, .slice none 0 0] 28) = W0 at *
    refine (devRdText_any r b s W0 HRD.out HS8.out (by omega)).mono ?_
    rintro e w0 ⟨rfl, hrd0, hk0⟩
    have HSS : Hid (strB (strOfNums (natI (rRaw s).1)) = (rRaw s).1) := Lib.hid (strB_nums (rRaw_lt HS8.out))
    have hq := Lib.run_convert_string_bytes (P := Try.prog) w0 9 24 5 (strOfNums (natI (rRaw s).1)) under_str under_bytes Try.underlying5
    have hz1 : W0.heap.size ≤ w0.heap.size := hk0.size
    have hrow := row_bytes w0 (strOfNums (natI (rRaw s).1)) (by rw [strOfNums_size, natI_length]; have := rRaw_len s; have := HSH.out; unfold maxLen; omega)
    rw [HSS.out] at hrow
    have hbe : Below w0.heap.size w0 (Lib.bytesWorld w0 5 (strOfNums (natI (rRaw s).1))) := below_bytesWorld _ _ _ _ (Nat.le_refl _)
    have hszB := Lib.bytesWorld_size w0 5 (strOfNums (natI (rRaw s).1))
    have hk : Keeps (fun k => k = r) W0 (Lib.bytesWorld w0 5 (strOfNums (natI (rRaw s).1))) := hk0.trans (Keeps.of_below_size hbe)
    have hrd := rx_below hrd0 (by omega) hbe
    obtain ⟨a0, a1, a2, a3, a4, b0, b1, b2, b3, b4, fa, fb⟩ := twins_cells (twins_keeps HT.out hr0 hk)
    have HR1 := Lib.hid hrd
    have HK1 := Lib.hid (HK0.out.trans hk)
    have HVB := Lib.hid hrow
    have hHB : w.heap.size + 2 ≤ w0.heap.size := by omega
    have HBB : Hid (∀ j, blockOf (.slice (some ⟨w0.heap.size, 0, none⟩) (strOfNums (natI (rRaw s).1)).size (grownCap w0 (strOfNums (natI (rRaw s).1)).size 0 5)) j → w.heap.size + 2 ≤ j ∧ j < (Lib.bytesWorld w0 5 (strOfNums (natI (rRaw s).1))).heap.size) := Lib.hid (fun j hj => by have : j = w0.heap.size := hj; omega)
    clear hrd hk hrd0 hk0 HRD HT HK0 hz0 hrow hbe hszB
    go_wp2_with fail
    refine bodyPost_ret (v := .agg #[.int .i64 3, .int .u64 0, .int .i64 0, (.slice (some ⟨w0.heap.size, 0, none⟩) (strOfNums (natI (rRaw s).1)).size (grownCap w0 (strOfNums (natI (rRaw s).1)).size 0 5)), .slice none 0 0]) (by simp [results, Try.results22, go_sem, a0, a1, a2, a3, a4]) rfl ?_
    rw [HO.out]
    refine got_end (vb := (.slice (some ⟨w0.heap.size, 0, none⟩) (strOfNums (natI (rRaw s).1)).size (grownCap w0 (strOfNums (natI (rRaw s).1)).size 0 5))) (vl := .slice none 0 0) HK1.out HR1.out ?_ hb hr0 HVB.out (row_none _ _) HBB.out (fun j h => h.elim) rfl rfl rfl
    repeat (with_reducible refine Keeps.setCell ?_ _ _ ?_; rotate_left; (first | exact .inl rfl | exact .inr rfl))
    exact Keeps.refl _ _
  · have HO : Hid (rRead 4 s = (⟨4, 0, 0, (rRaw s).1, []⟩, (rRaw s).2)) := Lib.hid rfl
    go_enter Try.func22, Try.ntmps22
    go_wp2_with fail
    generalize (w.alloc (.cells #[.int .i64 0, .int .u64 0, .int .i64 0, .slice none 0 0, .slice none 0 0] 28)).alloc (.cells #[.int .i64 4, .int .u64 0, .int .i64 0, .slice none 0 0, .slice none 0 0] 28) = W0 at *
    refine (devRdRaw_any r b s W0 HRD.out HS8.out (by omega)).mono ?_
    rintro e w1 ⟨vb, rfl, hvb, hrd, hk⟩
    obtain ⟨a0, a1, a2, a3, a4, b0, b1, b2, b3, b4, fa, fb⟩ := twins_cells (twins_keeps HT.out hr0 hk)
    have HR1 := Lib.hid hrd
    have HK1 := Lib.hid (HK0.out.trans hk)
    have HVB := Lib.hid (row_of_fresh hvb)
    have HBB : Hid (∀ j, blockOf vb j → w.heap.size + 2 ≤ j ∧ j < w1.heap.size) := Lib.hid (fun j hj => by have := fresh_span hvb j hj; omega)
    obtain ⟨a, cap, rfl, _, _⟩ := fresh_elems hvb
    clear hrd hk HRD HT HK0 hz0 hvb
    go_wp2_with fail
    refine bodyPost_ret (v := .agg #[.int .i64 4, .int .u64 0, .int .i64 0, (.slice a (natI (rRaw s).1).length cap), .slice none 0 0]) (by simp [results, Try.results22, go_sem, a0, a1, a2, a3, a4]) rfl ?_
    rw [HO.out]
    refine got_end (vb := (.slice a (natI (rRaw s).1).length cap)) (vl := .slice none 0 0) HK1.out HR1.out ?_ hb hr0 HVB.out (row_none _ _) HBB.out (fun j h => h.elim) rfl rfl rfl
    repeat (with_reducible refine Keeps.setCell ?_ _ _ ?_; rotate_left; (first | exact .inl rfl | exact .inr rfl))
    exact Keeps.refl _ _
  · have HO : Hid (rRead kind s = (⟨kind, 0, 0, [], (rInts s).1⟩, (rInts s).2)) := Lib.hid (by unfold rRead; rw [if_neg h0, if_neg h1, if_neg h2, if_neg (by omega)])
    have c0 : (kind == 0) = false := by simp; omega
    have c1 : (kind == 1) = false := by simp; omega
    have c2 : (kind == 2) = false := by simp; omega
    have c3 : (kind == 3) = false := by simp; omega
    have c4 : (kind == 4) = false := by simp; omega
    clear h0 h1 h2 h3 h4
    go_enter Try.func22, Try.ntmps22
    go_wp2_with fail
    generalize (w.alloc (.cells #[.int .i64 0, .int .u64 0, .int .i64 0, .slice none 0 0, .slice none 0 0] 28)).alloc (.cells #[.int .i64 kind, .int .u64 0, .int .i64 0, .slice none 0 0, .slice none 0 0] 28) = W0 at *
    refine (devRdInts_any r b s W0 HRD.out HS8.out (by omega)).mono ?_
    rintro e w1 ⟨vl, rfl, hvl, hrd, hk⟩
    obtain ⟨a0, a1, a2, a3, a4, b0, b1, b2, b3, b4, fa, fb⟩ := twins_cells (twins_keeps HT.out hr0 hk)
    have HR1 := Lib.hid hrd
    have HK1 := Lib.hid (HK0.out.trans hk)
    have HVL := Lib.hid (row_of_fresh hvl)
    have HLB : Hid (∀ j, blockOf vl j → w.heap.size + 2 ≤ j ∧ j < w1.heap.size) := Lib.hid (fun j hj => by have := fresh_span hvl j hj; omega)
    obtain ⟨a, cap, rfl, _, _⟩ := fresh_elems hvl
    clear hrd hk HRD HT HK0 hz0 hvl
    go_wp2_with fail
    refine bodyPost_ret (v := .agg #[.int .i64 kind, .int .u64 0, .int .i64 0, .slice none 0 0, (.slice a (rInts s).1.length cap)]) (by simp [results, Try.results22, go_sem, a0, a1, a2, a3, a4]) rfl ?_
    rw [HO.out]
    refine got_end (vb := .slice none 0 0) (vl := (.slice a (rInts s).1.length cap)) HK1.out HR1.out ?_ hb hr0 (row_none _ _) HVL.out (fun j h => h.elim) HLB.out rfl rfl rfl
    repeat (with_reducible refine Keeps.setCell ?_ _ _ ?_; rotate_left; (first | exact .inl rfl | exact .inr rfl))
    exact Keeps.refl _ _
end Go.Proofs.Ytghilgkkpbhoiaa
