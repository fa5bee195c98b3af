/-
  The laws' write.
-/
import Derived.Test.YtghilgkkpbhoiaaDevL
import Derived.Lib.ConvBytes
namespace Go.Proofs.Ytghilgkkpbhoiaa
open Go.RowKit Go.Shelf
set_option linter.unusedVariables false

theorem wr_end_alloc {r g : Nat} {zs : List Nat} {w w' : World} {e : Ending} {o : Obj} (h : WrEnd r g zs (w.alloc o) e w') : WrEnd r g zs w e w' := by
  obtain ⟨rfl, g', h1, h2, h3⟩ := h
  refine ⟨rfl, g', h1, ?_, ((Keeps.refl _ w).alloc o).trans h3⟩
  rw [World.size_alloc] at h2
  omega

set_option maxRecDepth 100000 in
set_option maxHeartbeats 4000000 in
theorem write_any (r g : Nat) (zs : List Nat) (vb vl : Value) (v : VV) (w : World) (h : Wr w r g zs) (hvb : Row .u8 w vb (natI v.b)) (hvl : Row .i64 w vl v.l)
    (hb : ∀ j, blockOf vb j ∨ blockOf vl j → j ≠ r ∧ j ≠ g ∧ j < w.heap.size) (ok : v.ok) (hlen : zs.length ≤ 100000000) :
    Calls Try.prog 14 #[.pointer (some ⟨r, 0, none⟩), .agg #[.int .i64 v.kind, .int .u64 (v.u : Int), .int .i64 v.n, vb, vl]] w (WrEnd r g (zs ++ encV v) w) := by
  obtain ⟨kind, vu, vn, b, l⟩ := v
  simp only at *
  have hL := Laid.new w 28 [.int .i64 kind, .int .u64 (vu : Int), .int .i64 vn, vb, vl]
  have c0 := hL.cell 0
  have c1 := hL.cell 1
  have c2 := hL.cell 2
  have c3 := hL.cell 3
  have c4 := hL.cell 4
  simp only [List.getElem?_cons_zero, List.getElem?_cons_succ] at c0 c1 c2 c3 c4
  have hbe : Below w.heap.size w (w.alloc (.cells #[.int .i64 kind, .int .u64 (vu : Int), .int .i64 vn, vb, vl] 28)) := (Below.refl _ w).alloc (Nat.le_refl _) _
  have HW := Lib.hid (wr_below h hbe)
  have HB := Lib.hid (row_keeps hvb hbe)
  have HL := Lib.hid (row_keeps hvl hbe)
  have hsz : (w.alloc (.cells #[.int .i64 kind, .int .u64 (vu : Int), .int .i64 vn, vb, vl] 28)).heap.size = w.heap.size + 1 := by simp
  have HBL : Hid (∀ j, blockOf vb j → j ≠ r ∧ j ≠ g) := Lib.hid (fun j hj => ⟨(hb j (.inl hj)).1, (hb j (.inl hj)).2.1⟩)
  have HLL : Hid (∀ j, blockOf vl j → j ≠ r ∧ j ≠ g ∧ j < (w.alloc (.cells #[.int .i64 kind, .int .u64 (vu : Int), .int .i64 vn, vb, vl] 28)).heap.size) := Lib.hid (fun j hj => by have := hb j (.inr hj); omega)
  have HWA : Hid (∀ zs e w', WrEnd r g zs (w.alloc (.cells #[.int .i64 kind, .int .u64 (vu : Int), .int .i64 vn, vb, vl] 28)) e w' → WrEnd r g zs w e w') := Lib.hid (fun zs e w' h => wr_end_alloc h)
  have HOK := Lib.hid ok
  have hq := conv_string (HB.out)
  clear hL hbe h hvb hvl hb ok
  have hk : kind = 0 ∨ kind = 1 ∨ kind = 2 ∨ kind = 3 ∨ kind = 4 ∨ (kind ≠ 0 ∧ kind ≠ 1 ∧ kind ≠ 2 ∧ kind ≠ 3 ∧ kind ≠ 4) := by omega
  rcases hk with rfl | rfl | rfl | rfl | rfl | ⟨h0, h1, h2, h3, h4⟩
  · go_enter Try.func14, Try.ntmps14
    go_wp2_with fail
    generalize w.alloc (.cells #[.int .i64 0, .int .u64 (vu : Int), .int .i64 vn, vb, vl] 28) = w0 at *
    refine (devUint_any r g zs vu w0 HW.out HOK.out.u (by omega)).mono ?_
    rintro e w1 ⟨rfl, he⟩
    have HE := Lib.hid he
    clear he
    go_wp2_with fail
    go_end0
    exact HWA.out _ _ _ ⟨rfl, HE.out⟩
  · go_enter Try.func14, Try.ntmps14
    go_wp2_with fail
    generalize w.alloc (.cells #[.int .i64 1, .int .u64 (vu : Int), .int .i64 vn, vb, vl] 28) = w0 at *
    refine (devInt_any r g zs vn w0 HW.out HOK.out.n (by omega)).mono ?_
    rintro e w1 ⟨rfl, he⟩
    have HE := Lib.hid he
    clear he
    go_wp2_with fail
    go_end0
    exact HWA.out _ _ _ ⟨rfl, HE.out⟩
  · go_enter Try.func14, Try.ntmps14
    go_wp2_with fail
    generalize w.alloc (.cells #[.int .i64 2, .int .u64 (vu : Int), .int .i64 vn, vb, vl] 28) = w0 at *
    refine (devBool_any r g zs (decide (vn = 1)) w0 HW.out (by omega)).mono ?_
    rintro e w1 ⟨rfl, he⟩
    have HE := Lib.hid he
    clear he
    go_wp2_with fail
    go_end0
    exact HWA.out _ _ _ ⟨rfl, HE.out⟩
  · have hbl : b.length ≤ 1000 := HOK.out.bl
    go_enter Try.func14, Try.ntmps14
    go_wp2_with fail
    generalize w.alloc (.cells #[.int .i64 3, .int .u64 (vu : Int), .int .i64 vn, vb, vl] 28) = w0 at *
    have HSS : Hid ((strOfNums (natI b)).size = b.length ∧ strB (strOfNums (natI b)) = b) := Lib.hid ⟨by rw [strOfNums_size, natI_length], strB_nums HOK.out.b⟩
    refine (devText_any r g zs (strOfNums (natI b)) w0 HW.out (by rw [HSS.out.1]; omega)).mono ?_
    rintro e w1 ⟨rfl, he⟩
    rw [HSS.out.1, HSS.out.2] at he
    have HE := Lib.hid he
    clear he
    go_wp2_with fail
    go_end0
    exact HWA.out _ _ _ ⟨rfl, HE.out⟩
  · have hbl : b.length ≤ 1000 := HOK.out.bl
    go_enter Try.func14, Try.ntmps14
    go_wp2_with fail
    generalize w.alloc (.cells #[.int .i64 4, .int .u64 (vu : Int), .int .i64 vn, vb, vl] 28) = w0 at *
    refine (devRaw_any r g zs vb b w0 HW.out HB.out HBL.out (by omega)).mono ?_
    rintro e w1 ⟨rfl, he⟩
    have HE := Lib.hid he
    clear he
    go_wp2_with fail
    go_end0
    exact HWA.out _ _ _ ⟨rfl, HE.out⟩
  · have hll : l.length ≤ 1000 := HOK.out.ll
    have c0' : (kind == 0) = false := by simp; omega
    have c1' : (kind == 1) = false := by simp; omega
    have c2' : (kind == 2) = false := by simp; omega
    have c3' : (kind == 3) = false := by simp; omega
    have c4' : (kind == 4) = false := by simp; omega
    have HC : Hid (encV ⟨kind, vu, vn, b, l⟩ = varN l.length ++ zigsN l) := Lib.hid (by unfold encV; rw [if_neg h0, if_neg h1, if_neg h2, if_neg (fun h => h.elim h3 h4)])
    clear h0 h1 h2 h3 h4
    go_enter Try.func14, Try.ntmps14
    go_wp2_with fail
    generalize w.alloc (.cells #[.int .i64 kind, .int .u64 (vu : Int), .int .i64 vn, vb, vl] 28) = w0 at *
    refine (devInts_any r g zs vl l w0 HW.out HL.out HLL.out HOK.out.l (by omega) (by omega)).mono ?_
    rintro e w1 ⟨rfl, he⟩
    have HE := Lib.hid he
    clear he
    go_wp2_with fail
    go_end0
    rw [HC.out]
    exact HWA.out _ _ _ ⟨rfl, HE.out⟩
end Go.Proofs.Ytghilgkkpbhoiaa
