/-
  The reference's reader: a value of a kind.
-/
import Derived.Test.YtghilgkkpbhoiaaWireN
namespace Go.Proofs.Ytghilgkkpbhoiaa
open Go.RowKit Go.Shelf
set_option linter.unusedVariables false

def rRead (kind : Int) (s : RS) : VV × RS :=
  if kind = 0 then (⟨0, (rUint s).1, 0, [], []⟩, (rUint s).2)
  else if kind = 1 then (⟨1, 0, (rInt s).1, [], []⟩, (rInt s).2)
  else if kind = 2 then (⟨2, 0, if (rBool s).1 then 1 else 0, [], []⟩, (rBool s).2)
  else if kind = 3 ∨ kind = 4 then (⟨kind, 0, 0, (rRaw s).1, []⟩, (rRaw s).2)
  else (⟨kind, 0, 0, [], (rInts s).1⟩, (rInts s).2)

def ReadEnd (r b : Nat) (v : VV) (s : RS) (w : World) (e : Ending) (w' : World) : Prop :=
  ∃ x, e = .returned x ∧ ValAt w' x v ∧ Rd w' r b s ∧ Keeps (fun k => k = r) w w'

/-- A store into what the call has laid itself. -/
theorem keeps_own {A : Foot} {w W : World} (h : Keeps A w W) {p : Addr} (hp : w.heap.size ≤ p.block) (u : Value) : Keeps A w (W.setCell p u) :=
  ⟨h.os, h.tape, h.output, by have := h.size; simp [World.setCell]; exact this, fun k hk hn => (Below.heap_setCell _ _ _ _ (by omega)).trans (h.same k hk hn)⟩

/-- The empty value of a kind, in two blocks of the call's own. -/
def zeroV (kind : Int) : List Value := [.int .i64 kind, .int .u64 0, .int .i64 0, .slice none 0 0, .slice none 0 0]
def Twins (w : World) (ka kb : Int) (W : World) : Prop := Laid W w.heap.size 28 (zeroV ka) ∧ Laid W (w.heap.size + 1) 28 (zeroV kb)
theorem twins_new (w : World) (ka kb : Int) : Twins w ka kb ((w.alloc (.cells #[.int .i64 ka, .int .u64 0, .int .i64 0, .slice none 0 0, .slice none 0 0] 28)).alloc (.cells #[.int .i64 kb, .int .u64 0, .int .i64 0, .slice none 0 0, .slice none 0 0] 28)) := by
  have hA := (Laid.new w 28 (zeroV ka)).below ((Below.refl _ _).alloc (Nat.le_refl _) (.cells (zeroV kb).toArray 28))
  have hB := Laid.new (w.alloc (.cells (zeroV ka).toArray 28)) 28 (zeroV kb)
  rw [World.size_alloc] at hB
  exact ⟨hA, hB⟩
theorem twins_cells {w W : World} {ka kb : Int} (h : Twins w ka kb W) :
    W.cell? ⟨w.heap.size, 0, none⟩ = some (.int .i64 ka) ∧ W.cell? ⟨w.heap.size, 1, none⟩ = some (.int .u64 0) ∧ W.cell? ⟨w.heap.size, 2, none⟩ = some (.int .i64 0) ∧ W.cell? ⟨w.heap.size, 3, none⟩ = some (.slice none 0 0) ∧ W.cell? ⟨w.heap.size, 4, none⟩ = some (.slice none 0 0) ∧
    W.cell? ⟨w.heap.size + 1, 0, none⟩ = some (.int .i64 kb) ∧ W.cell? ⟨w.heap.size + 1, 1, none⟩ = some (.int .u64 0) ∧ W.cell? ⟨w.heap.size + 1, 2, none⟩ = some (.int .i64 0) ∧ W.cell? ⟨w.heap.size + 1, 3, none⟩ = some (.slice none 0 0) ∧ W.cell? ⟨w.heap.size + 1, 4, none⟩ = some (.slice none 0 0) ∧
    (∀ j, W.frozen? ⟨w.heap.size, j, none⟩ = false) ∧ (∀ j, W.frozen? ⟨w.heap.size + 1, j, none⟩ = false) :=
  ⟨h.1.cell 0, h.1.cell 1, h.1.cell 2, h.1.cell 3, h.1.cell 4, h.2.cell 0, h.2.cell 1, h.2.cell 2, h.2.cell 3, h.2.cell 4, h.1.frozen, h.2.frozen⟩
theorem twins_keeps {w W W2 : World} {ka kb : Int} {r : Nat} (h : Twins w ka kb W) (hr : r < w.heap.size) (hk : Keeps (fun k => k = r) W W2) : Twins w ka kb W2 :=
  ⟨h.1.keeps hk (by omega), h.2.keeps hk (by omega)⟩

theorem read_end {r b : Nat} {v : VV} {s : RS} {w W1 W2 : World} {vb vl : Value} (hK : Keeps (fun k => k = r) w W1) (hR : Rd W1 r b s) (hs : Keeps (fun k => k = w.heap.size ∨ k = w.heap.size + 1) W1 W2)
    (hb : b < w.heap.size) (hr : r < w.heap.size) (h1 : Row .u8 W1 vb (natI v.b)) (h2 : Row .i64 W1 vl v.l) (n1 : ∀ j, blockOf vb j → j < w.heap.size) (n2 : ∀ j, blockOf vl j → w.heap.size + 2 ≤ j) {k n : Int} {u : Int}
    (ek : k = v.kind) (eu : u = (v.u : Int)) (en : n = v.n) :
    ReadEnd r b v s w (.returned (.agg #[.int .i64 k, .int .u64 u, .int .i64 n, vb, vl])) W2 := by
  subst ek eu en
  refine ⟨_, rfl, ⟨vb, vl, rfl, row_foot h1 hs (fun j hj h => by have := n1 j hj; omega), row_foot h2 hs (fun j hj h => by have := n2 j hj; omega)⟩, rd_keeps hR hs (by omega) (by omega), ?_⟩
  exact ⟨hs.os.trans hK.os, hs.tape.trans hK.tape, hs.output.trans hK.output, Nat.le_trans hK.size hs.size, fun j hj hn => (hs.same j (Nat.lt_of_lt_of_le hj hK.size) (by omega)).trans (hK.same j hj hn)⟩

set_option maxRecDepth 100000 in
set_option maxHeartbeats 4000000 in
theorem refRead_any (r b : Nat) (kind : Int) (s : RS) (w : World) (h : Rd w r b s) (hb : b < w.heap.size) :
    Calls Try.prog 23 #[.pointer (some ⟨r, 0, none⟩), .int .i64 kind] w (ReadEnd r b (rRead kind s).1 (rRead kind s).2 w) := by
  have hr0 : r < w.heap.size := by obtain ⟨v, h1, _⟩ := h; exact h1.lt
  have HT := Lib.hid (twins_new w 0 kind)
  have HRD : Hid (Rd ((w.alloc (.cells #[.int .i64 0, .int .u64 0, .int .i64 0, .slice none 0 0, .slice none 0 0] 28)).alloc (.cells #[.int .i64 kind, .int .u64 0, .int .i64 0, .slice none 0 0, .slice none 0 0] 28)) r b s) :=
    Lib.hid (rd_below h hb (((Below.refl _ w).alloc (Nat.le_refl _) _).alloc (by simp) _))
  have HK0 : Hid (Keeps (fun k => k = r) w ((w.alloc (.cells #[.int .i64 0, .int .u64 0, .int .i64 0, .slice none 0 0, .slice none 0 0] 28)).alloc (.cells #[.int .i64 kind, .int .u64 0, .int .i64 0, .slice none 0 0, .slice none 0 0] 28))) :=
    Lib.hid (((Keeps.refl _ w).alloc _).alloc _)
  clear h
  have hz0 : ((w.alloc (.cells #[.int .i64 0, .int .u64 0, .int .i64 0, .slice none 0 0, .slice none 0 0] 28)).alloc (.cells #[.int .i64 kind, .int .u64 0, .int .i64 0, .slice none 0 0, .slice none 0 0] 28)).heap.size = w.heap.size + 2 := by simp
  have hk : kind = 0 ∨ kind = 1 ∨ kind = 2 ∨ kind = 3 ∨ kind = 4 ∨ (kind ≠ 0 ∧ kind ≠ 1 ∧ kind ≠ 2 ∧ kind ≠ 3 ∧ kind ≠ 4) := by omega
  rcases hk with rfl | rfl | rfl | rfl | rfl | ⟨h0, h1, h2, h3, h4⟩
-- BEGIN K
  · have HO : Hid (rRead 0 s = (⟨0, (rUint s).1, 0, [], []⟩, (rUint s).2)) := Lib.hid rfl
    go_enter Try.func23, Try.ntmps23
    go_wp2_with fail
    generalize (w.alloc (.cells #[.int .i64 0, .int .u64 0, .int .i64 0, .slice none 0 0, .slice none 0 0] 28)).alloc (.cells #[.int .i64 0, .int .u64 0, .int .i64 0, .slice none 0 0, .slice none 0 0] 28) = W0 at *
    refine (refRdUint_any r b s W0 HRD.out).mono ?_
    rintro e w1 ⟨rfl, hrd, hk⟩
    obtain ⟨a0, a1, a2, a3, a4, b0, b1, b2, b3, b4, fa, fb⟩ := twins_cells (twins_keeps HT.out hr0 hk)
    have HR1 := Lib.hid hrd
    have HK1 := Lib.hid (HK0.out.trans hk)
    clear hrd hk HRD HT HK0 hz0
    go_wp2_with fail
    refine bodyPost_ret (v := .agg #[.int .i64 0, .int .u64 ((rUint s).1 : Nat), .int .i64 0, .slice none 0 0, .slice none 0 0]) (by simp [results, Try.results23, go_sem, a0, a1, a2, a3, a4]) rfl ?_
    rw [HO.out]
    refine read_end (vb := .slice none 0 0) (vl := .slice none 0 0) HK1.out HR1.out ?_ hb hr0 (row_none _ _) (row_none _ _) (fun j h => h.elim) (fun j h => h.elim) rfl rfl rfl
    repeat (with_reducible refine Keeps.setCell ?_ _ _ ?_; rotate_left; (first | exact .inl rfl | exact .inr rfl))
    exact Keeps.refl _ _
  · have HO : Hid (rRead 1 s = (⟨1, 0, (rInt s).1, [], []⟩, (rInt s).2)) := Lib.hid rfl
    go_enter Try.func23, Try.ntmps23
    go_wp2_with fail
    generalize (w.alloc (.cells #[.int .i64 0, .int .u64 0, .int .i64 0, .slice none 0 0, .slice none 0 0] 28)).alloc (.cells #[.int .i64 1, .int .u64 0, .int .i64 0, .slice none 0 0, .slice none 0 0] 28) = W0 at *
    refine (refRdInt_any r b s W0 HRD.out).mono ?_
    rintro e w1 ⟨rfl, hrd, hk⟩
    obtain ⟨a0, a1, a2, a3, a4, b0, b1, b2, b3, b4, fa, fb⟩ := twins_cells (twins_keeps HT.out hr0 hk)
    have HR1 := Lib.hid hrd
    have HK1 := Lib.hid (HK0.out.trans hk)
    clear hrd hk HRD HT HK0 hz0
    go_wp2_with fail
    refine bodyPost_ret (v := .agg #[.int .i64 1, .int .u64 0, .int .i64 (rInt s).1, .slice none 0 0, .slice none 0 0]) (by simp [results, Try.results23, go_sem, a0, a1, a2, a3, a4]) rfl ?_
    rw [HO.out]
    refine read_end (vb := .slice none 0 0) (vl := .slice none 0 0) HK1.out HR1.out ?_ hb hr0 (row_none _ _) (row_none _ _) (fun j h => h.elim) (fun j h => h.elim) rfl rfl rfl
    repeat (with_reducible refine Keeps.setCell ?_ _ _ ?_; rotate_left; (first | exact .inl rfl | exact .inr rfl))
    exact Keeps.refl _ _
  · have HO : Hid (rRead 2 s = (⟨2, 0, if (rBool s).1 then 1 else 0, [], []⟩, (rBool s).2)) := Lib.hid rfl
    go_enter Try.func23, Try.ntmps23
    go_wp2_with fail
    generalize (w.alloc (.cells #[.int .i64 0, .int .u64 0, .int .i64 0, .slice none 0 0, .slice none 0 0] 28)).alloc (.cells #[.int .i64 2, .int .u64 0, .int .i64 0, .slice none 0 0, .slice none 0 0] 28) = W0 at *
    refine (refRdBool_any r b s W0 HRD.out).mono ?_
    rintro e w1 ⟨rfl, hrd, hk⟩
    obtain ⟨a0, a1, a2, a3, a4, b0, b1, b2, b3, b4, fa, fb⟩ := twins_cells (twins_keeps HT.out hr0 hk)
    have HR1 := Lib.hid hrd
    have HK1 := Lib.hid (HK0.out.trans hk)
    clear hrd hk HRD HT HK0 hz0
    generalize (rBool s).1 = t at *
    generalize (rBool s).2 = s2 at *
    cases t
    · go_wp2_with fail
      refine bodyPost_ret (v := .agg #[.int .i64 2, .int .u64 0, .int .i64 0, .slice none 0 0, .slice none 0 0]) (by simp [results, Try.results23, go_sem, a0, a1, a2, a3, a4]) rfl ?_
      rw [HO.out]
      refine read_end (vb := .slice none 0 0) (vl := .slice none 0 0) HK1.out HR1.out ?_ hb hr0 (row_none _ _) (row_none _ _) (fun j h => h.elim) (fun j h => h.elim) rfl rfl rfl
      repeat (with_reducible refine Keeps.setCell ?_ _ _ ?_; rotate_left; (first | exact .inl rfl | exact .inr rfl))
      exact Keeps.refl _ _
    · go_wp2_with fail
      refine bodyPost_ret (v := .agg #[.int .i64 2, .int .u64 0, .int .i64 1, .slice none 0 0, .slice none 0 0]) (by simp [results, Try.results23, go_sem, a0, a1, a2, a3, a4]) rfl ?_
      rw [HO.out]
      refine read_end (vb := .slice none 0 0) (vl := .slice none 0 0) HK1.out HR1.out ?_ hb hr0 (row_none _ _) (row_none _ _) (fun j h => h.elim) (fun j h => h.elim) rfl rfl rfl
      repeat (with_reducible refine Keeps.setCell ?_ _ _ ?_; rotate_left; (first | exact .inl rfl | exact .inr rfl))
      exact Keeps.refl _ _
  · have HO : Hid (rRead 3 s = (⟨3, 0, 0, (rRaw s).1, []⟩, (rRaw s).2)) := Lib.hid rfl
    go_enter Try.func23, Try.ntmps23
    go_wp2_with fail
    generalize (w.alloc (.cells #[.int .i64 0, .int .u64 0, .int .i64 0, .slice none 0 0, .slice none 0 0] 28)).alloc (.cells #[.int .i64 3, .int .u64 0, .int .i64 0, .slice none 0 0, .slice none 0 0] 28) = W0 at *
    refine (refRdRaw_any r b s W0 HRD.out).mono ?_
    rintro e w1 ⟨vb, rfl, hvb, hbb, hrd, hk⟩
    obtain ⟨a0, a1, a2, a3, a4, b0, b1, b2, b3, b4, fa, fb⟩ := twins_cells (twins_keeps HT.out hr0 hk)
    have HR1 := Lib.hid hrd
    have HK1 := Lib.hid (HK0.out.trans hk)
    have HVB := Lib.hid hvb
    have HBB := Lib.hid hbb
    obtain ⟨a, cap, rfl, _, _, _, _⟩ := hvb
    clear hrd hk HRD HT HK0 hz0 hbb
    go_wp2_with fail
    refine bodyPost_ret (v := .agg #[.int .i64 3, .int .u64 0, .int .i64 0, .slice a (natI (rRaw s).1).length cap, .slice none 0 0]) (by simp [results, Try.results23, go_sem, a0, a1, a2, a3, a4]) rfl ?_
    rw [HO.out]
    refine read_end (vb := .slice a (natI (rRaw s).1).length cap) (vl := .slice none 0 0) HK1.out HR1.out ?_ hb hr0 HVB.out (row_none _ _) (fun j h => by rw [HBB.out j h]; exact hb) (fun j h => h.elim) rfl rfl rfl
    repeat (with_reducible refine Keeps.setCell ?_ _ _ ?_; rotate_left; (first | exact .inl rfl | exact .inr rfl))
    exact Keeps.refl _ _
  · have HO : Hid (rRead 4 s = (⟨4, 0, 0, (rRaw s).1, []⟩, (rRaw s).2)) := Lib.hid rfl
    go_enter Try.func23, Try.ntmps23
    go_wp2_with fail
    generalize (w.alloc (.cells #[.int .i64 0, .int .u64 0, .int .i64 0, .slice none 0 0, .slice none 0 0] 28)).alloc (.cells #[.int .i64 4, .int .u64 0, .int .i64 0, .slice none 0 0, .slice none 0 0] 28) = W0 at *
    refine (refRdRaw_any r b s W0 HRD.out).mono ?_
    rintro e w1 ⟨vb, rfl, hvb, hbb, hrd, hk⟩
    obtain ⟨a0, a1, a2, a3, a4, b0, b1, b2, b3, b4, fa, fb⟩ := twins_cells (twins_keeps HT.out hr0 hk)
    have HR1 := Lib.hid hrd
    have HK1 := Lib.hid (HK0.out.trans hk)
    have HVB := Lib.hid hvb
    have HBB := Lib.hid hbb
    obtain ⟨a, cap, rfl, _, _, _, _⟩ := hvb
    clear hrd hk HRD HT HK0 hz0 hbb
    go_wp2_with fail
    refine bodyPost_ret (v := .agg #[.int .i64 4, .int .u64 0, .int .i64 0, .slice a (natI (rRaw s).1).length cap, .slice none 0 0]) (by simp [results, Try.results23, go_sem, a0, a1, a2, a3, a4]) rfl ?_
    rw [HO.out]
    refine read_end (vb := .slice a (natI (rRaw s).1).length cap) (vl := .slice none 0 0) HK1.out HR1.out ?_ hb hr0 HVB.out (row_none _ _) (fun j h => by rw [HBB.out j h]; exact hb) (fun j h => h.elim) rfl rfl rfl
    repeat (with_reducible refine Keeps.setCell ?_ _ _ ?_; rotate_left; (first | exact .inl rfl | exact .inr rfl))
    exact Keeps.refl _ _
  · have HO : Hid (rRead kind s = (⟨kind, 0, 0, [], (rInts s).1⟩, (rInts s).2)) := Lib.hid (by unfold rRead; rw [if_neg h0, if_neg h1, if_neg h2, if_neg (by omega)])
    have c0 : (kind == 0) = false := by simp; omega
    have c1 : (kind == 1) = false := by simp; omega
    have c2 : (kind == 2) = false := by simp; omega
    have c3 : (kind == 3) = false := by simp; omega
    have c4 : (kind == 4) = false := by simp; omega
    clear h0 h1 h2 h3 h4
    go_enter Try.func23, Try.ntmps23
    go_wp2_with fail
    generalize (w.alloc (.cells #[.int .i64 0, .int .u64 0, .int .i64 0, .slice none 0 0, .slice none 0 0] 28)).alloc (.cells #[.int .i64 kind, .int .u64 0, .int .i64 0, .slice none 0 0, .slice none 0 0] 28) = W0 at *
    refine (refRdInts_any r b s W0 HRD.out (by omega)).mono ?_
    rintro e w1 ⟨vl, rfl, hvl, hrd, hk⟩
    obtain ⟨a0, a1, a2, a3, a4, b0, b1, b2, b3, b4, fa, fb⟩ := twins_cells (twins_keeps HT.out hr0 hk)
    have HR1 := Lib.hid hrd
    have HK1 := Lib.hid (HK0.out.trans hk)
    have HVL := Lib.hid (row_of_fresh hvl)
    have HLB : Hid (∀ j, blockOf vl j → w.heap.size + 2 ≤ j) := by
      refine Lib.hid fun j hj => ?_
      rcases hvl.2 with ⟨rfl, _⟩ | ⟨g, cap, cur, rfl, hg, _⟩
      · exact hj.elim
      · have : j = g := hj
        omega
    obtain ⟨a, cap, rfl, _, _⟩ := fresh_elems hvl
    clear hrd hk HRD HT HK0 hz0 hvl
    go_wp2_with fail
    refine bodyPost_ret (v := .agg #[.int .i64 kind, .int .u64 0, .int .i64 0, .slice none 0 0, .slice a (rInts s).1.length cap]) (by simp [results, Try.results23, go_sem, a0, a1, a2, a3, a4]) rfl ?_
    rw [HO.out]
    refine read_end (vb := .slice none 0 0) (vl := .slice a (rInts s).1.length cap) HK1.out HR1.out ?_ hb hr0 (row_none _ _) HVL.out (fun j h => h.elim) HLB.out rfl rfl rfl
    repeat (with_reducible refine Keeps.setCell ?_ _ _ ?_; rotate_left; (first | exact .inl rfl | exact .inr rfl))
    exact Keeps.refl _ _
-- END K
end Go.Proofs.Ytghilgkkpbhoiaa
