/-
  The law WideQuotients. (tools/genLwwD.py makes this text.)
-/
import Derived.Test.YtldbhlafijjkdaaDoorCmn
import Derived.Deep.DeepCutAuto
namespace Go.Proofs.YtldbhlafijjkdaaDoor
open Go.RowKit Go.Shelf
set_option linter.unusedVariables false
set_option maxRecDepth 100000

/-- A slice of integers of the reference, in a block of its own. -/
def NRow (W : World) (b : Nat) (zs : List Int) : Prop := b < W.heap.size ∧ ∀ k z, zs[k]? = some z → ∃ (s : Bool) (a : Option Addr) (m c : Nat), (W.cell? ⟨b, k * 2, none⟩ = some (.bool s) ∧ W.cell? ⟨b, k * 2 + 1, none⟩ = some (.slice a m c)) ∧ NAt W (.agg #[.bool s, .slice a m c]) z
theorem nrow_keeps {W W2 : World} {b : Nat} {zs : List Int} (h : NRow W b zs) (hb : Below W.heap.size W W2) : NRow W2 b zs := by
  refine ⟨Nat.lt_of_lt_of_le h.1 hb.size, fun k z hz => ?_⟩
  obtain ⟨s, a, m, c, ⟨h1, h2⟩, h3⟩ := h.2 k z hz
  exact ⟨s, a, m, c, ⟨(hb.cell (p := ⟨b, k * 2, none⟩) h.1).trans h1, (hb.cell (p := ⟨b, k * 2 + 1, none⟩) h.1).trans h2⟩, nat_keeps h3 hb⟩
theorem nrow_three {W : World} {z0 z1 z2 : Int} {s0 s1 s2 : Bool} {a0 a1 a2 : Option Addr} {m0 m1 m2 c0 c1 c2 : Nat} (h0 : NAt W (.agg #[.bool s0, .slice a0 m0 c0]) z0) (h1 : NAt W (.agg #[.bool s1, .slice a1 m1 c1]) z1) (h2 : NAt W (.agg #[.bool s2, .slice a2 m2 c2]) z2) :
    NRow (W.alloc (.cells #[.bool s0, .slice a0 m0 c0, .bool s1, .slice a1 m1 c1, .bool s2, .slice a2 m2 c2] 25)) W.heap.size [z0, z1, z2] := by
  have hl := Laid.new W 25 [.bool s0, .slice a0 m0 c0, .bool s1, .slice a1 m1 c1, .bool s2, .slice a2 m2 c2]
  have hb := below_one W (.cells #[.bool s0, .slice a0 m0 c0, .bool s1, .slice a1 m1 c1, .bool s2, .slice a2 m2 c2] 25)
  refine ⟨hl.lt, fun k z hz => ?_⟩
  match k, hz with
  | 0, hz => cases hz; exact ⟨s0, a0, m0, c0, ⟨hl.cell 0, hl.cell 1⟩, nat_keeps h0 hb⟩
  | 1, hz => cases hz; exact ⟨s1, a1, m1, c1, ⟨hl.cell 2, hl.cell 3⟩, nat_keeps h1 hb⟩
  | 2, hz => cases hz; exact ⟨s2, a2, m2, c2, ⟨hl.cell 4, hl.cell 5⟩, nat_keeps h2 hb⟩
theorem list3 {z0 z1 z2 : Int} {P : Int → Prop} (h0 : P z0) (h1 : P z1) (h2 : P z2) : ∀ k, k < 3 → ∃ z, [z0, z1, z2][k]? = some z ∧ P z := by
  intro k hk
  match k, hk with
  | 0, _ => exact ⟨z0, rfl, h0⟩
  | 1, _ => exact ⟨z1, rfl, h1⟩
  | 2, _ => exact ⟨z2, rfl, h2⟩
theorem len_pos {W : World} {s : Bool} {a : Option Addr} {m c : Nat} {n : Int} (h : NAt W (.agg #[.bool s, .slice a m c]) n) (hn : ¬ n = 0) : ¬ m = 0 := by
  have h1 := row_lenN (nat_row2 h)
  have h2 := digs_len_pos (n := n.natAbs) (by omega)
  omega
theorem below_set2 {W X : World} {p : Nat} {u v : Value} (h : Below W.heap.size W X) (hp : W.heap.size ≤ p) : Below W.heap.size W ((X.setCell ⟨p, 0, none⟩ u).setCell ⟨p, 1, none⟩ v) := (h.setCell (p := ⟨p, 0, none⟩) hp _).setCell (p := ⟨p, 1, none⟩) hp _
theorem nbox_zero2 (W : World) : NBox ((W.alloc (.cells #[.bool false, .slice none 0 0] 25)).alloc (.cells #[.bool false, .slice none 0 0] 25)) W.heap.size 0 ∧ NBox ((W.alloc (.cells #[.bool false, .slice none 0 0] 25)).alloc (.cells #[.bool false, .slice none 0 0] 25)) (W.heap.size + 1) 0 := by
  refine ⟨(NBox.new (nat_zero W)).below (below_one _ _), ?_⟩
  have := NBox.new (nat_zero (W.alloc (.cells #[.bool false, .slice none 0 0] 25)))
  simpa using this
/-- Two boxes of new integers, and all else as it was. -/
def Two (W F : World) (p q : Nat) (a b : Int) : Prop := NBox F p a ∧ NBox F q b ∧ Below W.heap.size W F
theorem nbox_end {W F : World} {p q : Nat} {a b : Int} (h : Two W F p q a b) : ∃ p2 q2 : Nat, Value.pointer (some ⟨p, 0, none⟩) = .pointer (some ⟨p2, 0, none⟩) ∧ Value.pointer (some ⟨q, 0, none⟩) = .pointer (some ⟨q2, 0, none⟩) ∧ Hid (NBox F p2 a) ∧ Hid (NBox F q2 b) ∧ Hid (Below W.heap.size W F) := ⟨p, q, rfl, rfl, Lib.hid h.1, Lib.hid h.2.1, Lib.hid h.2.2⟩
theorem nbox_end2 {W F : World} {p q : Nat} {a b : Int} (h : Two W F q p b a) : ∃ p2 q2 : Nat, Value.pointer (some ⟨p, 0, none⟩) = .pointer (some ⟨p2, 0, none⟩) ∧ Value.pointer (some ⟨q, 0, none⟩) = .pointer (some ⟨q2, 0, none⟩) ∧ Hid (NBox F p2 a) ∧ Hid (NBox F q2 b) ∧ Hid (Below W.heap.size W F) := ⟨p, q, rfl, rfl, Lib.hid h.2.1, Lib.hid h.1, Lib.hid h.2.2⟩
section
variable {W w10 : World} {a b : Int} {s t : Bool} {x y : Option Addr} {i j c d : Nat}
theorem nbox_two (hx : NAt w10 (.agg #[.bool s, .slice x i c]) a) (hy : NAt w10 (.agg #[.bool t, .slice y j d]) b) (hb : Below W.heap.size W w10) :
    Two W ((w10.alloc (.cells #[.bool s, .slice x i c] 25)).alloc (.cells #[.bool t, .slice y j d] 25)) w10.heap.size (w10.heap.size + 1) a b := by
  refine ⟨(NBox.new hx).below (below_one _ _), ?_, below_then (below_then hb (below_one _ _)) (below_one _ _)⟩
  have := NBox.new (nat_keeps hy (below_one w10 (.cells #[.bool s, .slice x i c] 25)))
  simpa using this
theorem nbox_pre1 {p : Nat} (h0 : NBox w10 p 0) (hp : W.heap.size ≤ p) (hx : NAt w10 (.agg #[.bool s, .slice x i c]) a) (hy : NAt w10 (.agg #[.bool t, .slice y j d]) b) (hb : Below W.heap.size W w10) :
    Two W (((w10.setCell ⟨p, 0, none⟩ (.bool s)).setCell ⟨p, 1, none⟩ (.slice x i c)).alloc (.cells #[.bool t, .slice y j d] 25)) p w10.heap.size a b := by
  have k0 := h0.store hx
  obtain ⟨_, _, _, _, l0, _⟩ := h0
  have hy2 : NAt ((w10.setCell ⟨p, 0, none⟩ (.bool s)).setCell ⟨p, 1, none⟩ (.slice x i c)) (.agg #[.bool t, .slice y j d]) b := nat_set (nat_set hy l0 0 _) (l0.set 0 _) 1 _
  have k1 := NBox.new hy2
  simp only [World.size_setCell] at k1
  exact ⟨k0.below (below_one _ _), k1, below_then (below_set2 hb hp) (below_one _ _)⟩
theorem nbox_pre2 {p q : Nat} (h0 : NBox w10 p 0) (h1 : NBox w10 q 0) (hp : W.heap.size ≤ p) (hq : W.heap.size ≤ q) (hx : NAt w10 (.agg #[.bool s, .slice x i c]) a) (hy : NAt w10 (.agg #[.bool t, .slice y j d]) b) (hb : Below W.heap.size W w10) (hne : p ≠ q) :
    Two W ((((w10.setCell ⟨p, 0, none⟩ (.bool s)).setCell ⟨p, 1, none⟩ (.slice x i c)).setCell ⟨q, 0, none⟩ (.bool t)).setCell ⟨q, 1, none⟩ (.slice y j d)) p q a b := by
  have k0 := h0.store hx
  have k1 := h0.other h1 (Ne.symm hne) (s := s) (a := x) (m := i) (c := c)
  obtain ⟨_, _, _, _, l0, _⟩ := h0
  have hy2 : NAt ((w10.setCell ⟨p, 0, none⟩ (.bool s)).setCell ⟨p, 1, none⟩ (.slice x i c)) (.agg #[.bool t, .slice y j d]) b := nat_set (nat_set hy l0 0 _) (l0.set 0 _) 1 _
  exact ⟨k1.other k0 hne, k1.store hy2, (((hb.setCell (p := ⟨p, 0, none⟩) hp _).setCell (p := ⟨p, 1, none⟩) hp _).setCell (p := ⟨q, 0, none⟩) hq _).setCell (p := ⟨q, 1, none⟩) hq _⟩
end
theorem quot_rng {a b n : Int} (ha : Lo 240 a) (hb : Lo 240 b) (hn : Lo 63 n) : ∀ k, k < 3 → ∃ z, [a, a * b + n, b * b * a][k]? = some z ∧ Lo 720 z :=
  list3 (ha.more (by decide)) (((ha.mul hb).add (hn.more (by decide))).more (by decide)) (((hb.mul hb).mul ha).more (by decide))
theorem lo_int {n : Int} (h : -9223372036854775808 ≤ n ∧ n ≤ 9223372036854775807) : Lo 63 n := by
  unfold Lo
  rw [show (2 : Nat) ^ 63 = 9223372036854775808 by decide]
  omega
/-- Two integers of the reference and their product. -/
def Prod (W : World) (x y : Value) (z : Int) : Prop := ∃ a b, NAt W x a ∧ NAt W y b ∧ a * b = z ∧ (digs a.natAbs).length ≤ 500000 ∧ (digs b.natAbs).length ≤ 500000
theorem prod_mk {W : World} {x y : Value} {a b : Int} (h1 : NAt W x a) (h2 : NAt W y b) (h3 : Small a) (h4 : Small b) : Prod W x y (a * b) := ⟨a, b, h1, h2, rfl, digs_of_small h3, digs_of_small h4⟩
theorem prod_mul (w : World) (x y : Value) (z : Int) (h : Prod w x y z) : Calls Tryd.prog 24 #[x, y] w (NEnd z w) := by
  obtain ⟨a, b, h1, h2, rfl, h3, h4⟩ := h
  exact mul_any x y a b w h1 h2 h3 h4

set_option maxHeartbeats 8000000 in
theorem walk_WideQuotients (v : Value) (l : List Int) (n : Int) (w : World) (hv : Row .i64 w v l) (hr : ∀ n ∈ l, -9223372036854775808 ≤ n ∧ n ≤ 9223372036854775807) (hn : -9223372036854775808 ≤ n ∧ n ≤ 9223372036854775807) :
    Calls Tryd.prog 5 #[v, .int .i64 n] w fun e w' => e = .returned (.bool true) ∧ Below w.heap.size w w' := by
  obtain ⟨pv, cv, rfl, hcv, hcvm⟩ := (show ∃ p c, v = .slice p l.length c ∧ l.length ≤ c ∧ c ≤ 9223372036854775807 by obtain ⟨p, c, e, h1, h2, _⟩ := hv; exact ⟨p, c, e, h1, h2⟩)
  have HL := Lib.hid hv
  have HR := Lib.hid hr
  have HN := Lib.hid hn
  have HB : Hid (Below w.heap.size w w) := Lib.hid (Below.refl _ _)
  clear hv hr
  generalize hll : l.length = ll at *
  clear hll
  go_enter Tryd.func5, Tryd.ntmps5
  go_wp2_with fail
  have C0 := number_ref _ l 0 w HL.out HR.out (by decide)
  unfold NumEnd at C0
  unfold NEnd at C0
  have HC0 := Lib.hid C0
  clear C0
  go_must (refine HC0.out.mono ?_)
  rintro e w0 ⟨zA, hzA, y0, rfl, hx0, hb0⟩
  have HZA := Lib.hid hzA
  clear hzA
  obtain ⟨b0, p0, n0, q0, rfl⟩ := nat_shape hx0
  have hbb := below_then hb0 (below_one w0 (.cells #[.bool b0, .slice p0 n0 q0] 25))
  have U := Lib.hid (row_keeps HL.out hbb)
  clear HL
  have HL := U
  clear U
  have U := Lib.hid (below_then HB.out hbb)
  clear HB
  have HB := U
  clear U
  have TA := Lib.hid (NBox.new hx0)
  clear HC0 hb0 hbb hx0
  go_wp2_with fail
  generalize w0.alloc (.cells #[.bool b0, .slice p0 n0 q0] 25) = W0 at *
  generalize w0.heap.size = t0 at *
  have C1 := number_ref _ l 6 W0 HL.out HR.out (by decide)
  unfold NumEnd at C1
  unfold NEnd at C1
  have HC1 := Lib.hid C1
  clear C1
  go_must (refine HC1.out.mono ?_)
  rintro e w1 ⟨zB, hzB, y1, rfl, hx1, hb1⟩
  have HZB := Lib.hid hzB
  clear hzB
  obtain ⟨b1, p1, n1, q1, rfl⟩ := nat_shape hx1
  have hbb := below_then hb1 (below_one w1 (.cells #[.bool b1, .slice p1 n1 q1] 25))
  have U := Lib.hid (TA.out.below hbb)
  clear TA
  have TA := U
  clear U
  have U := Lib.hid (row_keeps HL.out hbb)
  clear HL
  have HL := U
  clear U
  have U := Lib.hid (below_then HB.out hbb)
  clear HB
  have HB := U
  clear U
  have TB := Lib.hid (NBox.new hx1)
  clear HC1 hb1 hbb hx1
  go_wp2_with fail
  generalize w1.alloc (.cells #[.bool b1, .slice p1 n1 q1] 25) = W1 at *
  generalize w1.heap.size = t1 at *
  obtain ⟨sAE, aAE, mAE, kAE, lAE, hAE⟩ := TA.out
  have GA := Lib.hid hAE
  have LA := Lib.hid lAE
  clear hAE lAE
  obtain ⟨sBE, aBE, mBE, kBE, lBE, hBE⟩ := TB.out
  have GB := Lib.hid hBE
  have LB := Lib.hid lBE
  clear hBE lBE
  have CELLS : Hid (∀ X : World, Below W1.heap.size W1 X → X.cell? ⟨t0, 0, none⟩ = some (.bool sAE) ∧ X.cell? ⟨t0, 1, none⟩ = some (.slice aAE mAE kAE) ∧ X.cell? ⟨t1, 0, none⟩ = some (.bool sBE) ∧ X.cell? ⟨t1, 1, none⟩ = some (.slice aBE mBE kBE)) := Lib.hid (fun X h => by
    obtain ⟨eA0, eA1, _, _⟩ := cells2 (LA.out.below h)
    obtain ⟨eB0, eB1, _, _⟩ := cells2 (LB.out.below h)
    exact ⟨eA0, eA1, eB0, eB1⟩)
  have HW0 := HB
  clear HB
  have HB : Hid (Below W1.heap.size W1 W1.drew) := Lib.hid (Below.refl _ _).drew
  have HZN : Hid (Lo 63 n) := Lib.hid (lo_int HN.out)
  have MUL : Hid (∀ w' x y z, Prod w' x y z → Calls Tryd.prog 24 #[x, y] w' (NEnd z w')) := Lib.hid (fun w' x y z h => prod_mul w' x y z h)
  have OF : Hid (∀ w', Calls Tryd.prog 19 #[.int .i64 n] w' (NEnd n w')) := Lib.hid (fun w' => of_any n w' HN.out)
  have ADD : Hid (∀ w' x y a b, NAt w' x a → NAt w' y b → Lo 480 a → Lo 63 b → Calls Tryd.prog 23 #[x, y] w' (NEnd (a + b) w')) := Lib.hid (fun w' x y a b h1 h2 h3 h4 => add_any x y a b w' h1 h2 (digs_of_small (h3.small (by decide))) (digs_of_small (h4.small (by decide))))
  unfold NEnd at MUL OF ADD
  have PAB : Hid (∀ w', Below W1.heap.size W1 w' → Prod w' (.agg #[.bool sAE, .slice aAE mAE kAE]) (.agg #[.bool sBE, .slice aBE mBE kBE]) (zA * zB)) := Lib.hid (fun w' h => prod_mk (nat_keeps GA.out h) (nat_keeps GB.out h) (Lo.small HZA.out (by decide)) (Lo.small HZB.out (by decide)))
  have PBB : Hid (∀ w', Below W1.heap.size W1 w' → Prod w' (.agg #[.bool sBE, .slice aBE mBE kBE]) (.agg #[.bool sBE, .slice aBE mBE kBE]) (zB * zB)) := Lib.hid (fun w' h => prod_mk (nat_keeps GB.out h) (nat_keeps GB.out h) (Lo.small HZB.out (by decide)) (Lo.small HZB.out (by decide)))
  have PXA : Hid (∀ w' x z, Below W1.heap.size W1 w' → NAt w' x z → Lo 480 z → Prod w' x (.agg #[.bool sAE, .slice aAE mAE kAE]) (z * zA)) := Lib.hid (fun w' x z h h1 h2 => prod_mk h1 (nat_keeps GA.out h) (h2.small (by decide)) (Lo.small HZA.out (by decide)))
  have BAB : Hid (Lo 480 (zA * zB)) := Lib.hid (Lo.mul (K := 240) (L := 240) HZA.out HZB.out)
  have BBB : Hid (Lo 480 (zB * zB)) := Lib.hid (Lo.mul (K := 240) (L := 240) HZB.out HZB.out)
  go_cut [7] (fun s7 wx => ∃ t : Nat, s7 = .slice (some ⟨t, 0, none⟩) 3 3 ∧ Hid (NRow wx t [zA, zA * zB + n, zB * zB * zA]) ∧ Hid (Below W1.heap.size W1 wx))
  case first =>
   go_region_held3 (fun X : World => X.cell? ⟨t0, 0, none⟩ = some (.bool sAE) ∧ X.cell? ⟨t0, 1, none⟩ = some (.slice aAE mAE kAE) ∧ X.cell? ⟨t1, 0, none⟩ = some (.bool sBE) ∧ X.cell? ⟨t1, 1, none⟩ = some (.slice aBE mBE kBE)) (first | exact CELLS.out _ HB.out | exact CELLS.out _ (below_then HB.out (below_one _ _))) (first
    | (go_at_call 24; ((with_reducible refine (MUL.out _ _ _ _ (PAB.out _ HB.out)).mono ?_); rintro e w10 ⟨y10, rfl, hx10, hb10⟩); have HX1 := Lib.hid hx10; have UB := Lib.hid (below_then HB.out hb10); clear hx10 hb10 HB; have HB := UB; clear UB)
    | (go_at_call 19; ((with_reducible refine (OF.out _).mono ?_); rintro e w11 ⟨y11, rfl, hx11, hb11⟩); have HX2 := Lib.hid hx11; have U1 := Lib.hid (nat_keeps HX1.out hb11); have UB := Lib.hid (below_then HB.out hb11); clear hx11 hb11 HB HX1; have HB := UB; have HX1 := U1; clear UB U1)
    | (go_at_call 23; ((with_reducible refine (ADD.out _ _ _ _ _ HX1.out HX2.out BAB.out HZN.out).mono ?_); rintro e w12 ⟨y12, rfl, hx12, hb12⟩); obtain ⟨b12, p12, n12, q12, rfl⟩ := nat_shape hx12; have HX3 := Lib.hid hx12; have UB := Lib.hid (below_then HB.out hb12); clear hx12 hb12 HB HX1 HX2; have HB := UB; clear UB)
    | (go_at_call 24; ((with_reducible refine (MUL.out _ _ _ _ (PBB.out _ HB.out)).mono ?_); rintro e w13 ⟨y13, rfl, hx13, hb13⟩); have HX4 := Lib.hid hx13; have U1 := Lib.hid (nat_keeps HX3.out hb13); have UB := Lib.hid (below_then HB.out hb13); clear hx13 hb13 HB HX3; have HB := UB; have HX3 := U1; clear UB U1)
    | (go_at_call 24; ((with_reducible refine (MUL.out _ _ _ _ (PXA.out _ _ _ HB.out HX4.out BBB.out)).mono ?_); rintro e w14 ⟨y14, rfl, hx14, hb14⟩); obtain ⟨b14, p14, n14, q14, rfl⟩ := nat_shape hx14; have HX5 := Lib.hid hx14; have U1 := Lib.hid (nat_keeps HX3.out hb14); have UB := Lib.hid (below_then HB.out hb14); clear hx14 hb14 HB HX3 HX4; have HB := UB; have HX3 := U1; clear UB U1))
   go_wp2_with fail
   go_meet
   exact ⟨_, rfl, Lib.hid (nrow_three (nat_keeps GA.out HB.out) HX3.out HX5.out), Lib.hid (below_then HB.out (below_one _ _))⟩
  obtain ⟨t7, rfl, HRW, HBx⟩ := hcut
  clear HB MUL OF ADD PAB PBB PXA BAB BBB
  have HB := HBx
  clear HBx
  have hbb := HB.out
  clear HB CELLS GA LA GB LB
  have U := Lib.hid (TA.out.below hbb)
  clear TA
  have TA := U
  clear U
  have U := Lib.hid (TB.out.below hbb)
  clear TB
  have TB := U
  clear U
  have U := Lib.hid (row_keeps HL.out hbb)
  clear HL
  have HL := U
  clear U
  have HB := Lib.hid (below_then HW0.out hbb)
  clear HW0 hbb
  clear TA
  have HRNG := Lib.hid (quot_rng HZA.out HZB.out HZN.out)
  generalize hzs : [zA, zA * zB + n, zB * zB * zA] = zs at *
  clear hzs
  obtain ⟨sB2, aB2, mB2, kB2, ⟨cB20, cB21⟩, _, hB2, _⟩ := TB.out.open
  go_wp2_with fail
  have C2 := wider_any _ zB wc hB2 (Lo.small HZB.out (by decide))
  unfold WiderEnd at C2
  have HC2 := Lib.hid C2
  clear C2
  clear cB20 cB21 hB2
  go_must (refine HC2.out.mono ?_)
  rintro e w2 ⟨b2, p2, n2, q2, rfl, hx2, hb2⟩
  have hbb := below_then hb2 (below_one w2 (.cells #[.bool b2, .slice p2 n2 q2] 33))
  have U := Lib.hid (TB.out.below hbb)
  clear TB
  have TB := U
  clear U
  have U := Lib.hid (nrow_keeps HRW.out hbb)
  clear HRW
  have HRW := U
  clear U
  have U := Lib.hid (below_then HB.out hbb)
  clear HB
  have HB := U
  clear U
  have TY := Lib.hid (IBox.new hx2)
  clear HC2 hb2 hbb hx2
  go_wp2_with fail
  generalize w2.alloc (.cells #[.bool b2, .slice p2 n2 q2] 33) = W2 at *
  generalize w2.heap.size = t2 at *
  go_loopw [10, 11, 12, 13, 14, 15, 16, 17] (fun iv _ _ _ _ _ _ _ wr => ∃ k : Nat, iv = .int .i64 (k : Int) ∧ k ≤ 3 ∧ Hid (NRow wr t7 zs) ∧ Hid (NBox wr t1 zB) ∧ Hid (IBox wr t2 zB) ∧ Hid (Below w.heap.size w wr)) (fun iv _ _ _ _ _ _ _ _ => (3 - intOf iv).toNat)
  case atStart => exact ⟨0, rfl, by decide, HRW, TB, TY, HB⟩
  case round =>
    clear HRW TB TY HB
    obtain ⟨k, rfl, hk3, HRW, TB, TY, HB⟩ := hrel
    rcases Nat.lt_or_ge k 3 with hlt | hge
    · obtain ⟨z, hz, hzl⟩ := HRNG.out k hlt
      have HZ := Lib.hid hzl
      have HZS := Lib.hid hz
      have hlti : (k : Int) < 3 := by omega
      obtain ⟨sK, aK, mK, qK, ⟨cK0, cK1⟩, hK⟩ := HRW.out.2 k z hz
      clear hzl hz
      rcases Classical.em (zB = 0) with h0 | h0
      · have HBZ := Lib.hid h0
        clear h0
        go_wp2_with fail
        have C3 := wider_any _ z wr hK (Lo.small HZ.out (by decide))
        unfold WiderEnd at C3
        have HC3 := Lib.hid C3
        clear C3
        go_must (refine HC3.out.mono ?_)
        rintro e w3 ⟨b3, p3, n3, q3, rfl, hx3, hb3⟩
        have hbb := below_then hb3 (below_one w3 (.cells #[.bool b3, .slice p3 n3 q3] 33))
        have U := Lib.hid (TB.out.below hbb)
        clear TB
        have TB := U
        clear U
        have U := Lib.hid (TY.out.below hbb)
        clear TY
        have TY := U
        clear U
        have U := Lib.hid (nrow_keeps HRW.out hbb)
        clear HRW
        have HRW := U
        clear U
        have U := Lib.hid (below_then HB.out hbb)
        clear HB
        have HB := U
        clear U
        have TX := Lib.hid (IBox.new hx3)
        clear HC3 hb3 hbb hx3
        obtain ⟨sX4, aX4, mX4, kX4, ⟨cX40, cX41⟩, hX4⟩ := TX.out.open
        obtain ⟨sY4, aY4, mY4, kY4, ⟨cY40, cY41⟩, hY4⟩ := TY.out.open
        go_wp2_with fail
        generalize w3.alloc (.cells #[.bool b3, .slice p3 n3 q3] 33) = W3 at *
        generalize w3.heap.size = t3 at *
        have C4 := wDiv_zero _ _ _ W3 hX4 (HBZ.out ▸ hY4)
        unfold DivZEnd at C4
        have HC4 := Lib.hid C4
        clear C4
        clear cX40 cX41 hX4
        clear cY40 cY41 hY4
        go_must (refine HC4.out.mono ?_)
        rintro e w4 ⟨b4q, p4q, n4q, q4q, b4r, p4r, n4r, q4r, rfl, hx4q, hx4r, hb4⟩
        obtain ⟨p1, p2, p3⟩ := ibox_two hx4q hx4r
        have hbb := below_then hb4 p3
        have U := Lib.hid (TB.out.below hbb)
        clear TB
        have TB := U
        clear U
        have U := Lib.hid (TY.out.below hbb)
        clear TY
        have TY := U
        clear U
        have U := Lib.hid (TX.out.below hbb)
        clear TX
        have TX := U
        clear U
        have U := Lib.hid (nrow_keeps HRW.out hbb)
        clear HRW
        have HRW := U
        clear U
        have U := Lib.hid (below_then HB.out hbb)
        clear HB
        have HB := U
        clear U
        have TQ := Lib.hid (p1)
        have TR := Lib.hid (p2)
        clear HC4 hb4 hbb hx4q hx4r p1 p2 p3
        obtain ⟨sQE, aQE, mQE, kQE, ⟨cQE0, cQE1⟩, hQE⟩ := TQ.out.open
        obtain ⟨sBE, aBE, mBE, kBE, ⟨cBE0, cBE1⟩, _, hBE, _⟩ := TB.out.open
        obtain rfl : mBE = 0 := zero_len hBE HBZ.out
        clear hBE
        go_wp2_with fail
        generalize (w4.alloc (.cells #[.bool b4q, .slice p4q n4q q4q] 33)).alloc (.cells #[.bool b4r, .slice p4r n4r q4r] 33) = W4 at *
        generalize w4.heap.size = t4 at *
        have CP := equal_any _ _ _ (same_mk hQE (nat_zero W4) (small_zero rfl))
        unfold TrueEnd at CP
        have HCP := Lib.hid CP
        clear CP
        go_must (refine HCP.out.mono ?_)
        rintro e w40 ⟨rfl, hbe⟩
        clear HCP
        have U := Lib.hid (TB.out.below hbe)
        clear TB
        have TB := U
        clear U
        have U := Lib.hid (TY.out.below hbe)
        clear TY
        have TY := U
        clear U
        have U := Lib.hid (TR.out.below hbe)
        clear TR
        have TR := U
        clear U
        have U := Lib.hid (nrow_keeps HRW.out hbe)
        clear HRW
        have HRW := U
        clear U
        have U := Lib.hid (below_then HB.out hbe)
        clear HB hbe
        have HB := U
        clear U
        clear hQE cQE0 cQE1 cBE0 cBE1
        obtain ⟨sRF, aRF, mRF, kRF, ⟨cRF0, cRF1⟩, hRF⟩ := TR.out.open
        go_wp2_with fail
        have CP := equal_any _ _ _ (same_mk hRF (nat_zero w40) (small_zero rfl))
        unfold TrueEnd at CP
        have HCP := Lib.hid CP
        clear CP
        go_must (refine HCP.out.mono ?_)
        rintro e w41 ⟨rfl, hbe⟩
        clear HCP
        have U := Lib.hid (TB.out.below hbe)
        clear TB
        have TB := U
        clear U
        have U := Lib.hid (TY.out.below hbe)
        clear TY
        have TY := U
        clear U
        have U := Lib.hid (nrow_keeps HRW.out hbe)
        clear HRW
        have HRW := U
        clear U
        have U := Lib.hid (below_then HB.out hbe)
        clear HB hbe
        have HB := U
        clear U
        clear hRF cRF0 cRF1
        go_wp2_with fail
        go_roundw
        case rel => exact ⟨k + 1, by go_num, by omega, HRW, TB, TY, HB⟩
        case measure => simp [intOf] <;> omega
      · have HB0 := Lib.hid h0
        clear h0
        go_wp2_with fail
        have C3 := wider_any _ z wr hK (Lo.small HZ.out (by decide))
        unfold WiderEnd at C3
        have HC3 := Lib.hid C3
        clear C3
        go_must (refine HC3.out.mono ?_)
        rintro e w3 ⟨b3, p3, n3, q3, rfl, hx3, hb3⟩
        have hbb := below_then hb3 (below_one w3 (.cells #[.bool b3, .slice p3 n3 q3] 33))
        have U := Lib.hid (TB.out.below hbb)
        clear TB
        have TB := U
        clear U
        have U := Lib.hid (TY.out.below hbb)
        clear TY
        have TY := U
        clear U
        have U := Lib.hid (nrow_keeps HRW.out hbb)
        clear HRW
        have HRW := U
        clear U
        have U := Lib.hid (below_then HB.out hbb)
        clear HB
        have HB := U
        clear U
        have TX := Lib.hid (IBox.new hx3)
        clear HC3 hb3 hbb hx3
        obtain ⟨sX4, aX4, mX4, kX4, ⟨cX40, cX41⟩, hX4⟩ := TX.out.open
        obtain ⟨sY4, aY4, mY4, kY4, ⟨cY40, cY41⟩, hY4⟩ := TY.out.open
        go_wp2_with fail
        generalize w3.alloc (.cells #[.bool b3, .slice p3 n3 q3] 33) = W3 at *
        generalize w3.heap.size = t3 at *
        have C4 := wDiv_any _ _ _ _ W3 hX4 hY4 (Lo.small HZ.out (by decide)).words (Lo.small HZB.out (by decide)).words HB0.out
        unfold DivEndW at C4
        have HC4 := Lib.hid C4
        clear C4
        clear cX40 cX41 hX4
        clear cY40 cY41 hY4
        go_must (refine HC4.out.mono ?_)
        rintro e w4 ⟨b4q, p4q, n4q, q4q, b4r, p4r, n4r, q4r, rfl, hx4q, hx4r, hb4⟩
        obtain ⟨p1, p2, p3⟩ := ibox_two hx4q hx4r
        have hbb := below_then hb4 p3
        have U := Lib.hid (TB.out.below hbb)
        clear TB
        have TB := U
        clear U
        have U := Lib.hid (TY.out.below hbb)
        clear TY
        have TY := U
        clear U
        have U := Lib.hid (TX.out.below hbb)
        clear TX
        have TX := U
        clear U
        have U := Lib.hid (nrow_keeps HRW.out hbb)
        clear HRW
        have HRW := U
        clear U
        have U := Lib.hid (below_then HB.out hbb)
        clear HB
        have HB := U
        clear U
        have TQ := Lib.hid (p1)
        have TR := Lib.hid (p2)
        clear HC4 hb4 hbb hx4q hx4r p1 p2 p3
        obtain ⟨sBE, aBE, mBE, kBE, ⟨cBE0, cBE1⟩, _, hBE, _⟩ := TB.out.open
        have hm0 : ¬ mBE = 0 := len_pos hBE HB0.out
        have hm1 : ((mBE : Int) == 0) = false := by simpa using hm0
        have GB := Lib.hid hBE
        clear hBE
        go_wp2_with fail
        generalize (w4.alloc (.cells #[.bool b4q, .slice p4q n4q q4q] 33)).alloc (.cells #[.bool b4r, .slice p4r n4r q4r] 33) = W4 at *
        generalize w4.heap.size = t4 at *
        obtain ⟨sV, aV, mV, qV, ⟨cV0, cV1⟩, hV⟩ := HRW.out.2 k z HZS.out
        have CELLS : Hid (∀ X : World, Below W4.heap.size W4 X → X.cell? ⟨t7, k * 2, none⟩ = some (.bool sV) ∧ X.cell? ⟨t7, k * 2 + 1, none⟩ = some (.slice aV mV qV) ∧ X.cell? ⟨t1, 0, none⟩ = some (.bool sBE) ∧ X.cell? ⟨t1, 1, none⟩ = some (.slice aBE mBE kBE)) := Lib.hid (fun X h => ⟨(h.cell (p := ⟨t7, k * 2, none⟩) HRW.out.1).trans cV0, (h.cell (p := ⟨t7, k * 2 + 1, none⟩) HRW.out.1).trans cV1, (h.cell (p := ⟨t1, 0, none⟩) TB.out.lt).trans cBE0, (h.cell (p := ⟨t1, 1, none⟩) TB.out.lt).trans cBE1⟩)
        have DIVC : Hid (∀ w', Below W4.heap.size W4 w' → Calls Tryd.prog 26 #[.agg #[.bool sV, .slice aV mV qV], .agg #[.bool sBE, .slice aBE mBE kBE]] w' (NDivEnd z zB w')) := Lib.hid (fun w' h => nDiv_any _ _ z zB w' (nat_keeps hV h) (nat_keeps GB.out h) (Lo.small HZ.out (by decide)).digs (Lo.small HZB.out (by decide)).digs HB0.out)
        unfold NDivEnd at DIVC
        have HW0 := HB
        clear HB cV0 cV1 cBE0 cBE1 hV
        have HB : Hid (Below W4.heap.size W4 W4.drew) := Lib.hid (Below.refl _ _).drew
        go_cut [16, 17] (fun s16 s17 wx => ∃ p q : Nat, s16 = .pointer (some ⟨p, 0, none⟩) ∧ s17 = .pointer (some ⟨q, 0, none⟩) ∧ Hid (NBox wx p (z / zB)) ∧ Hid (NBox wx q (z % zB)) ∧ Hid (Below W4.heap.size W4 wx))
        case first =>
          go_region_held3 (fun X : World => X.cell? ⟨t7, k * 2, none⟩ = some (.bool sV) ∧ X.cell? ⟨t7, k * 2 + 1, none⟩ = some (.slice aV mV qV) ∧ X.cell? ⟨t1, 0, none⟩ = some (.bool sBE) ∧ X.cell? ⟨t1, 1, none⟩ = some (.slice aBE mBE kBE)) (with_reducible first | exact CELLS.out _ HB1.out | exact CELLS.out _ HB.out | exact CELLS.out _ (below_one _ _).drew | exact CELLS.out _ (below_then HB1.out (below_one _ _)) | exact CELLS.out _ (below_set2 HB1.out HT.out) | exact CELLS.out _ (below_then (below_one _ _) (below_one _ _)).drew | exact CELLS.out _ (below_then (below_then HB1.out (below_one _ _)) (below_one _ _)) | exact CELLS.out _ (below_then (below_set2 HB1.out HT.out) (below_one _ _)) | exact CELLS.out _ (below_set2 HB1.out HT2.out) | exact CELLS.out _ (below_set2 (below_set2 HB1.out HT.out) HT2.out) | exact CELLS.out _ (below_set2 (below_set2 HB1.out HT2.out) HT.out)) (first
            | (go_at_call 26; ((with_reducible refine (DIVC.out _ HB.out).mono ?_); rintro e w10 ⟨x10, y10, rfl, hx10, hy10, hb10⟩); obtain ⟨b10, p10, n10, q10, rfl⟩ := nat_shape hx10; obtain ⟨b11, p11, n11, q11, rfl⟩ := nat_shape hy10; have HX := Lib.hid hx10; have HY := Lib.hid hy10; have HB1 := Lib.hid (below_then HB.out hb10); clear hx10 hy10 hb10 HB)
            | (go_at_call 26; ((refine (DIVC.out _ (below_one _ _).drew).mono ?_); rintro e w10 ⟨x10, y10, rfl, hx10, hy10, hb10⟩); obtain ⟨b10, p10, n10, q10, rfl⟩ := nat_shape hx10; obtain ⟨b11, p11, n11, q11, rfl⟩ := nat_shape hy10; have HX := Lib.hid hx10; have HY := Lib.hid hy10; have HB1 := Lib.hid (below_then (below_one _ _).drew hb10); have HT := Lib.hid (Nat.le_refl W4.heap.size); have TZ := Lib.hid (((NBox.new (nat_zero W4)).below (Below.refl _ _).drew).below hb10); obtain ⟨_, _, _, _, LZ, _⟩ := TZ.out; obtain ⟨z0, z1, z2, z3⟩ := cells2 LZ; have hlt8 := TZ.out.lt; clear hx10 hy10 hb10 HB LZ)
            | (go_at_call 26; ((refine (DIVC.out _ (below_then (below_one _ _) (below_one _ _)).drew).mono ?_); rintro e w10 ⟨x10, y10, rfl, hx10, hy10, hb10⟩); obtain ⟨b10, p10, n10, q10, rfl⟩ := nat_shape hx10; obtain ⟨b11, p11, n11, q11, rfl⟩ := nat_shape hy10; have HX := Lib.hid hx10; have HY := Lib.hid hy10; have HB1 := Lib.hid (below_then (below_then (below_one _ _) (below_one _ _)).drew hb10); have HT := Lib.hid (Nat.le_refl W4.heap.size); have HT2 := Lib.hid (Nat.le_succ W4.heap.size); have TZ := Lib.hid (((nbox_zero2 W4).1.below (Below.refl _ _).drew).below hb10); have TZ2 := Lib.hid (((nbox_zero2 W4).2.below (Below.refl _ _).drew).below hb10); obtain ⟨_, _, _, _, LZ, _⟩ := TZ.out; obtain ⟨z0, z1, z2, z3⟩ := cells2 LZ; obtain ⟨_, _, _, _, LZ2, _⟩ := TZ2.out; obtain ⟨z4, z5, z6, z7⟩ := cells2 LZ2; have hlt8 := TZ.out.lt; have hlt9 := TZ2.out.lt; clear hx10 hy10 hb10 HB LZ LZ2))
          all_goals
            go_wp2_with fail
            go_meet
            (with_reducible first
              | exact nbox_end (nbox_two HX.out HY.out HB1.out)
              | exact nbox_end2 (nbox_two HY.out HX.out HB1.out)
              | exact nbox_end (nbox_pre1 TZ.out HT.out HX.out HY.out HB1.out)
              | exact nbox_end2 (nbox_pre1 TZ.out HT.out HY.out HX.out HB1.out)
              | exact nbox_end (nbox_pre2 TZ.out TZ2.out HT.out HT2.out HX.out HY.out HB1.out (Nat.ne_of_lt (Nat.lt_succ_self _)))
              | exact nbox_end (nbox_pre2 TZ2.out TZ.out HT2.out HT.out HX.out HY.out HB1.out (Nat.ne_of_gt (Nat.lt_succ_self _))))
        obtain ⟨tC, tD, rfl, rfl, TC, TD, HBx⟩ := hcut
        clear DIVC HB CELLS
        have BQ : Hid (Small (z / zB)) := Lib.hid (Lo.small (K := 720) (Nat.le_trans (ediv_le _ _) HZ.out) (by decide))
        have BR : Hid (Small (z % zB)) := Lib.hid (Lo.small (K := 240) (Nat.le_trans (emod_le _ HB0.out) HZB.out) (by decide))
        have HB := Lib.hid (below_then HW0.out HBx.out)
        clear HW0
        have U := Lib.hid (TB.out.below HBx.out)
        clear TB
        have TB := U
        clear U
        have U := Lib.hid (TY.out.below HBx.out)
        clear TY
        have TY := U
        clear U
        have U := Lib.hid (TQ.out.below HBx.out)
        clear TQ
        have TQ := U
        clear U
        have U := Lib.hid (TR.out.below HBx.out)
        clear TR
        have TR := U
        clear U
        have U := Lib.hid (nrow_keeps HRW.out HBx.out)
        clear HRW HBx
        have HRW := U
        clear U
        obtain ⟨sQ50, aQ50, mQ50, kQ50, ⟨cQ500, cQ501⟩, hQ50⟩ := TQ.out.open
        obtain ⟨sC50, aC50, mC50, kC50, ⟨cC500, cC501⟩, _, hC50, _⟩ := TC.out.open
        go_wp2_with fail
        have CP := equal_any _ _ _ (same_mk hQ50 hC50 BQ.out)
        unfold TrueEnd at CP
        have HCP := Lib.hid CP
        clear CP
        go_must (refine HCP.out.mono ?_)
        rintro e w50 ⟨rfl, hbe⟩
        clear HCP
        clear cQ500 cQ501 hQ50
        clear cC500 cC501 hC50
        have U := Lib.hid (TB.out.below hbe)
        clear TB
        have TB := U
        clear U
        have U := Lib.hid (TY.out.below hbe)
        clear TY
        have TY := U
        clear U
        have U := Lib.hid (TR.out.below hbe)
        clear TR
        have TR := U
        clear U
        have U := Lib.hid (TD.out.below hbe)
        clear TD
        have TD := U
        clear U
        have U := Lib.hid (nrow_keeps HRW.out hbe)
        clear HRW
        have HRW := U
        clear U
        have U := Lib.hid (below_then HB.out hbe)
        clear HB hbe
        have HB := U
        clear U
        obtain ⟨sR51, aR51, mR51, kR51, ⟨cR510, cR511⟩, hR51⟩ := TR.out.open
        obtain ⟨sD51, aD51, mD51, kD51, ⟨cD510, cD511⟩, _, hD51, _⟩ := TD.out.open
        go_wp2_with fail
        have CP := equal_any _ _ _ (same_mk hR51 hD51 BR.out)
        unfold TrueEnd at CP
        have HCP := Lib.hid CP
        clear CP
        go_must (refine HCP.out.mono ?_)
        rintro e w51 ⟨rfl, hbe⟩
        clear HCP
        clear cR510 cR511 hR51
        clear cD510 cD511 hD51
        have U := Lib.hid (TB.out.below hbe)
        clear TB
        have TB := U
        clear U
        have U := Lib.hid (TY.out.below hbe)
        clear TY
        have TY := U
        clear U
        have U := Lib.hid (nrow_keeps HRW.out hbe)
        clear HRW
        have HRW := U
        clear U
        have U := Lib.hid (below_then HB.out hbe)
        clear HB hbe
        have HB := U
        clear U
        go_wp2_with fail
        go_roundw
        case rel => exact ⟨k + 1, by go_num, by omega, HRW, TB, TY, HB⟩
        case measure => simp [intOf] <;> omega
    · obtain rfl : k = 3 := by omega
      go_wp2_with fail
      have LV := lives_any wr
      unfold TrueEnd at LV
      have HLV := Lib.hid LV
      clear LV
      go_must (refine HLV.out.mono ?_)
      rintro e w96 ⟨rfl, hbe⟩
      have HE := Lib.hid (below_then HB.out hbe)
      clear hbe HLV
      go_wp2_with fail
      go_ret
      exact ⟨rfl, HE.out⟩
end Go.Proofs.YtldbhlafijjkdaaDoor
