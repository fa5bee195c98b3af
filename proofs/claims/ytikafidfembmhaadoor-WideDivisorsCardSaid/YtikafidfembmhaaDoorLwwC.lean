/-
  The laws WideSums and WideProducts. (tools/genLwwC.py makes this text.)
-/
import Derived.Test.YtikafidfembmhaaDoorLwa
import Derived.Test.YtikafidfembmhaaDoorNmH
import Derived.Test.YtikafidfembmhaaDoorBgI
namespace Go.Proofs.YtikafidfembmhaaDoor
open Go.RowKit Go.Shelf
set_option linter.unusedVariables false
set_option maxRecDepth 100000

theorem sm_add {a b : Int} {K : Nat} (ha : a.natAbs ≤ 2 ^ K) (hb : b.natAbs ≤ 2 ^ K) : (a + b).natAbs ≤ 2 ^ (K + 1) ∧ (a - b).natAbs ≤ 2 ^ (K + 1) := by
  rw [Nat.pow_succ]; omega
theorem sm_mul {a b : Int} {K L : Nat} (ha : a.natAbs ≤ 2 ^ K) (hb : b.natAbs ≤ 2 ^ L) : (a * b).natAbs ≤ 2 ^ (K + L) := by
  rw [Int.natAbs_mul, Nat.pow_add]; exact Nat.mul_le_mul ha hb
/-- What two of a text's sides stand for. -/
def Same (W : World) (x y : Value) : Prop := ∃ n, IAt W x n ∧ NAt W y n ∧ (digsW n.natAbs).length ≤ 400000 ∧ (digs n.natAbs).length ≤ 500000
theorem same_mk {W : World} {x y : Value} {n : Int} (hx : IAt W x n) (hy : NAt W y n) (h : Small n) : Same W x y := ⟨n, hx, hy, h.words, by have := h.digs; omega⟩
theorem digs_of_small {n : Int} (h : Small n) : (digs n.natAbs).length ≤ 500000 := by have := h.digs; omega


set_option maxHeartbeats 8000000 in
theorem walk_WideSums (v : Value) (l : List Int) (w : World) (hv : Row .i64 w v l) (hr : ∀ n ∈ l, -9223372036854775808 ≤ n ∧ n ≤ 9223372036854775807) :
    Calls Tryd.prog 5 #[v] w fun e w' => e = .returned (.bool true) ∧ Below w.heap.size w w' := by
  obtain ⟨pv, cv, rfl, hcv, hcvm⟩ := (show ∃ p c, v = .slice p l.length c ∧ l.length ≤ c ∧ c ≤ 9223372036854775807 by obtain ⟨p, c, e, h1, h2, _⟩ := hv; exact ⟨p, c, e, h1, h2⟩)
  have HL := Lib.hid hv
  have HR := Lib.hid hr
  have HB : Hid (Below w.heap.size w w) := Lib.hid (Below.refl _ _)
  clear hv hr
  generalize hll : l.length = ll at *
  clear hll
  go_enter Tryd.func5, Tryd.ntmps5
  go_wp2_with fail
  have C0 := number_ref _ l 0 w HL.out HR.out (by decide)
  unfold NumEnd at C0
  unfold NEnd at C0
  have HC0 := Lib.hid C0
  clear C0
  go_must (refine HC0.out.mono ?_)
  rintro e w0 ⟨zA, hzA, y0, rfl, hx0, hb0⟩
  have HZA := Lib.hid hzA
  clear hzA
  obtain ⟨b0, p0, n0, q0, rfl⟩ := nat_shape hx0
  have hbb := below_then hb0 (below_one w0 (.cells #[.bool b0, .slice p0 n0 q0] 25))
  have U := Lib.hid (row_keeps HL.out hbb)
  clear HL
  have HL := U
  clear U
  have U := Lib.hid (below_then HB.out hbb)
  clear HB
  have HB := U
  clear U
  have TA := Lib.hid (NBox.new hx0)
  clear HC0 hb0 hbb hx0
  go_wp2_with fail
  generalize w0.alloc (.cells #[.bool b0, .slice p0 n0 q0] 25) = W0 at *
  generalize w0.heap.size = t0 at *
  have C1 := number_ref _ l 6 W0 HL.out HR.out (by decide)
  unfold NumEnd at C1
  unfold NEnd at C1
  have HC1 := Lib.hid C1
  clear C1
  go_must (refine HC1.out.mono ?_)
  rintro e w1 ⟨zB, hzB, y1, rfl, hx1, hb1⟩
  have HZB := Lib.hid hzB
  clear hzB
  obtain ⟨b1, p1, n1, q1, rfl⟩ := nat_shape hx1
  have hbb := below_then hb1 (below_one w1 (.cells #[.bool b1, .slice p1 n1 q1] 25))
  have U := Lib.hid (TA.out.below hbb)
  clear TA
  have TA := U
  clear U
  have U := Lib.hid (row_keeps HL.out hbb)
  clear HL
  have HL := U
  clear U
  have U := Lib.hid (below_then HB.out hbb)
  clear HB
  have HB := U
  clear U
  have TB := Lib.hid (NBox.new hx1)
  clear HC1 hb1 hbb hx1
  obtain ⟨sA2, aA2, mA2, kA2, ⟨cA20, cA21⟩, _, hA2, _⟩ := TA.out.open
  go_wp2_with fail
  generalize w1.alloc (.cells #[.bool b1, .slice p1 n1 q1] 25) = W1 at *
  generalize w1.heap.size = t1 at *
  have C2 := wider_any _ zA W1 hA2 (small_of HZA.out (by decide))
  unfold WiderEnd at C2
  have HC2 := Lib.hid C2
  clear C2
  clear cA20 cA21 hA2
  go_must (refine HC2.out.mono ?_)
  rintro e w2 ⟨b2, p2, n2, q2, rfl, hx2, hb2⟩
  have hbb := below_then hb2 (below_one w2 (.cells #[.bool b2, .slice p2 n2 q2] 33))
  have U := Lib.hid (TA.out.below hbb)
  clear TA
  have TA := U
  clear U
  have U := Lib.hid (TB.out.below hbb)
  clear TB
  have TB := U
  clear U
  have U := Lib.hid (row_keeps HL.out hbb)
  clear HL
  have HL := U
  clear U
  have U := Lib.hid (below_then HB.out hbb)
  clear HB
  have HB := U
  clear U
  have TX := Lib.hid (IBox.new hx2)
  clear HC2 hb2 hbb hx2
  obtain ⟨sB3, aB3, mB3, kB3, ⟨cB30, cB31⟩, _, hB3, _⟩ := TB.out.open
  go_wp2_with fail
  generalize w2.alloc (.cells #[.bool b2, .slice p2 n2 q2] 33) = W2 at *
  generalize w2.heap.size = t2 at *
  have C3 := wider_any _ zB W2 hB3 (small_of HZB.out (by decide))
  unfold WiderEnd at C3
  have HC3 := Lib.hid C3
  clear C3
  clear cB30 cB31 hB3
  go_must (refine HC3.out.mono ?_)
  rintro e w3 ⟨b3, p3, n3, q3, rfl, hx3, hb3⟩
  have hbb := below_then hb3 (below_one w3 (.cells #[.bool b3, .slice p3 n3 q3] 33))
  have U := Lib.hid (TA.out.below hbb)
  clear TA
  have TA := U
  clear U
  have U := Lib.hid (TB.out.below hbb)
  clear TB
  have TB := U
  clear U
  have U := Lib.hid (TX.out.below hbb)
  clear TX
  have TX := U
  clear U
  have U := Lib.hid (row_keeps HL.out hbb)
  clear HL
  have HL := U
  clear U
  have U := Lib.hid (below_then HB.out hbb)
  clear HB
  have HB := U
  clear U
  have TY := Lib.hid (IBox.new hx3)
  clear HC3 hb3 hbb hx3
  obtain ⟨sX4, aX4, mX4, kX4, ⟨cX40, cX41⟩, hX4⟩ := TX.out.open
  obtain ⟨sY4, aY4, mY4, kY4, ⟨cY40, cY41⟩, hY4⟩ := TY.out.open
  go_wp2_with fail
  generalize w3.alloc (.cells #[.bool b3, .slice p3 n3 q3] 33) = W3 at *
  generalize w3.heap.size = t3 at *
  have C4 := wAdd_any _ _ zA zB W3 hX4 hY4 (small_of HZA.out (by decide)).words (small_of HZB.out (by decide)).words
  have HC4 := Lib.hid C4
  clear C4
  clear cX40 cX41 hX4
  clear cY40 cY41 hY4
  go_must (refine HC4.out.mono ?_)
  rintro e w4 hw4
  obtain ⟨b4, p4, n4, q4, e4, rfl, hy4, hb4⟩ := rend_form hw4
  obtain ⟨rfl, hx4⟩ : e4 = 0 ∧ IAt w4 (.agg #[.bool b4, .slice p4 n4 q4]) (zA + zB) := by
    rcases hy4 with ⟨_, h1, h2⟩ | ⟨h, _⟩
    · exact ⟨h1, h2⟩
    · exact absurd h (small_of (sm_add HZA.out HZB.out).1 (by decide)).notBig
  have hbb := below_then hb4 (below_one w4 (.cells #[.bool b4, .slice p4 n4 q4] 33))
  clear hw4 hy4
  have U := Lib.hid (TA.out.below hbb)
  clear TA
  have TA := U
  clear U
  have U := Lib.hid (TB.out.below hbb)
  clear TB
  have TB := U
  clear U
  have U := Lib.hid (TX.out.below hbb)
  clear TX
  have TX := U
  clear U
  have U := Lib.hid (TY.out.below hbb)
  clear TY
  have TY := U
  clear U
  have U := Lib.hid (row_keeps HL.out hbb)
  clear HL
  have HL := U
  clear U
  have U := Lib.hid (below_then HB.out hbb)
  clear HB
  have HB := U
  clear U
  have TS := Lib.hid (IBox.new hx4)
  clear HC4 hb4 hbb hx4
  obtain ⟨sX5, aX5, mX5, kX5, ⟨cX50, cX51⟩, hX5⟩ := TX.out.open
  obtain ⟨sY5, aY5, mY5, kY5, ⟨cY50, cY51⟩, hY5⟩ := TY.out.open
  go_wp2_with fail
  generalize w4.alloc (.cells #[.bool b4, .slice p4 n4 q4] 33) = W4 at *
  generalize w4.heap.size = t4 at *
  have C5 := wSub_any _ _ zA zB W4 hX5 hY5 (small_of HZA.out (by decide)).words (small_of HZB.out (by decide)).words
  have HC5 := Lib.hid C5
  clear C5
  clear cX50 cX51 hX5
  clear cY50 cY51 hY5
  go_must (refine HC5.out.mono ?_)
  rintro e w5 hw5
  obtain ⟨b5, p5, n5, q5, e5, rfl, hy5, hb5⟩ := rend_form hw5
  obtain ⟨rfl, hx5⟩ : e5 = 0 ∧ IAt w5 (.agg #[.bool b5, .slice p5 n5 q5]) (zA - zB) := by
    rcases hy5 with ⟨_, h1, h2⟩ | ⟨h, _⟩
    · exact ⟨h1, h2⟩
    · exact absurd h (small_of (sm_add HZA.out HZB.out).2 (by decide)).notBig
  have hbb := below_then hb5 (below_one w5 (.cells #[.bool b5, .slice p5 n5 q5] 33))
  clear hw5 hy5
  have U := Lib.hid (TA.out.below hbb)
  clear TA
  have TA := U
  clear U
  have U := Lib.hid (TB.out.below hbb)
  clear TB
  have TB := U
  clear U
  have U := Lib.hid (TX.out.below hbb)
  clear TX
  have TX := U
  clear U
  have U := Lib.hid (TY.out.below hbb)
  clear TY
  have TY := U
  clear U
  have U := Lib.hid (TS.out.below hbb)
  clear TS
  have TS := U
  clear U
  have U := Lib.hid (row_keeps HL.out hbb)
  clear HL
  have HL := U
  clear U
  have U := Lib.hid (below_then HB.out hbb)
  clear HB
  have HB := U
  clear U
  have TD := Lib.hid (IBox.new hx5)
  clear HC5 hb5 hbb hx5
  go_wp2_with fail
  generalize w5.alloc (.cells #[.bool b5, .slice p5 n5 q5] 33) = W5 at *
  generalize w5.heap.size = t5 at *
  obtain ⟨sAE, aAE, mAE, kAE, lAE, hAE⟩ := TA.out
  have GA := Lib.hid hAE
  have LA := Lib.hid lAE
  clear hAE lAE
  obtain ⟨sBE, aBE, mBE, kBE, lBE, hBE⟩ := TB.out
  have GB := Lib.hid hBE
  have LB := Lib.hid lBE
  clear hBE lBE
  obtain ⟨sXE, aXE, mXE, kXE, lXE, hXE⟩ := TX.out
  have GX := Lib.hid hXE
  have LX := Lib.hid lXE
  clear hXE lXE
  obtain ⟨sYE, aYE, mYE, kYE, lYE, hYE⟩ := TY.out
  have GY := Lib.hid hYE
  have LY := Lib.hid lYE
  clear hYE lYE
  obtain ⟨sSE, aSE, mSE, kSE, lSE, hSE⟩ := TS.out
  have GS := Lib.hid hSE
  have LS := Lib.hid lSE
  clear hSE lSE
  obtain ⟨sDE, aDE, mDE, kDE, lDE, hDE⟩ := TD.out
  have GD := Lib.hid hDE
  have LD := Lib.hid lDE
  clear hDE lDE
  have CELLS : Hid (∀ X : World, Below W5.heap.size W5 X → X.cell? ⟨t0, 0, none⟩ = some (.bool sAE) ∧ X.cell? ⟨t0, 1, none⟩ = some (.slice aAE mAE kAE) ∧ X.cell? ⟨t1, 0, none⟩ = some (.bool sBE) ∧ X.cell? ⟨t1, 1, none⟩ = some (.slice aBE mBE kBE) ∧ X.cell? ⟨t2, 0, none⟩ = some (.bool sXE) ∧ X.cell? ⟨t2, 1, none⟩ = some (.slice aXE mXE kXE) ∧ X.cell? ⟨t3, 0, none⟩ = some (.bool sYE) ∧ X.cell? ⟨t3, 1, none⟩ = some (.slice aYE mYE kYE) ∧ X.cell? ⟨t4, 0, none⟩ = some (.bool sSE) ∧ X.cell? ⟨t4, 1, none⟩ = some (.slice aSE mSE kSE) ∧ X.cell? ⟨t5, 0, none⟩ = some (.bool sDE) ∧ X.cell? ⟨t5, 1, none⟩ = some (.slice aDE mDE kDE)) := Lib.hid (fun X h => by
    obtain ⟨eA0, eA1, _, _⟩ := cells2 (LA.out.below h)
    obtain ⟨eB0, eB1, _, _⟩ := cells2 (LB.out.below h)
    obtain ⟨eX0, eX1, _, _⟩ := cells2 (LX.out.below h)
    obtain ⟨eY0, eY1, _, _⟩ := cells2 (LY.out.below h)
    obtain ⟨eS0, eS1, _, _⟩ := cells2 (LS.out.below h)
    obtain ⟨eD0, eD1, _, _⟩ := cells2 (LD.out.below h)
    exact ⟨eA0, eA1, eB0, eB1, eX0, eX1, eY0, eY1, eS0, eS1, eD0, eD1⟩)
  have HW0 := HB
  clear HB
  have HB : Hid (Below W5.heap.size W5 W5.drew) := Lib.hid (Below.refl _ _).drew
  have SM := Lib.hid (sm_add HZA.out HZB.out)
  have EQX : Hid (∀ w', Below W5.heap.size W5 w' → Same w' (.agg #[.bool sXE, .slice aXE mXE kXE]) (.agg #[.bool sAE, .slice aAE mAE kAE])) := Lib.hid (fun w' h => same_mk (iat_keeps GX.out h) (nat_keeps GA.out h) (small_of HZA.out (by decide)))
  have EQY : Hid (∀ w', Below W5.heap.size W5 w' → Same w' (.agg #[.bool sYE, .slice aYE mYE kYE]) (.agg #[.bool sBE, .slice aBE mBE kBE])) := Lib.hid (fun w' h => same_mk (iat_keeps GY.out h) (nat_keeps GB.out h) (small_of HZB.out (by decide)))
  have ADD : Hid (∀ w', Below W5.heap.size W5 w' → Calls Tryd.prog 29 #[(.agg #[.bool sAE, .slice aAE mAE kAE]), (.agg #[.bool sBE, .slice aBE mBE kBE])] w' (NEnd (zA + zB) w')) := Lib.hid (fun w' h => add_any _ _ zA zB w' (nat_keeps GA.out h) (nat_keeps GB.out h) (digs_of_small (small_of HZA.out (by decide))) (digs_of_small (small_of HZB.out (by decide))))
  have SUB : Hid (∀ w', Below W5.heap.size W5 w' → Calls Tryd.prog 30 #[(.agg #[.bool sAE, .slice aAE mAE kAE]), (.agg #[.bool sBE, .slice aBE mBE kBE])] w' (NEnd (zA - zB) w')) := Lib.hid (fun w' h => sub_any _ _ zA zB w' (nat_keeps GA.out h) (nat_keeps GB.out h) (digs_of_small (small_of HZA.out (by decide))) (digs_of_small (small_of HZB.out (by decide))))
  unfold NEnd at ADD SUB
  go_region_held3 (fun X : World => X.cell? ⟨t0, 0, none⟩ = some (.bool sAE) ∧ X.cell? ⟨t0, 1, none⟩ = some (.slice aAE mAE kAE) ∧ X.cell? ⟨t1, 0, none⟩ = some (.bool sBE) ∧ X.cell? ⟨t1, 1, none⟩ = some (.slice aBE mBE kBE) ∧ X.cell? ⟨t2, 0, none⟩ = some (.bool sXE) ∧ X.cell? ⟨t2, 1, none⟩ = some (.slice aXE mXE kXE) ∧ X.cell? ⟨t3, 0, none⟩ = some (.bool sYE) ∧ X.cell? ⟨t3, 1, none⟩ = some (.slice aYE mYE kYE) ∧ X.cell? ⟨t4, 0, none⟩ = some (.bool sSE) ∧ X.cell? ⟨t4, 1, none⟩ = some (.slice aSE mSE kSE) ∧ X.cell? ⟨t5, 0, none⟩ = some (.bool sDE) ∧ X.cell? ⟨t5, 1, none⟩ = some (.slice aDE mDE kDE)) (first | exact CELLS.out _ HB.out) (first
    | (go_at_call 29; refine (ADD.out _ HB.out).mono ?_; rintro e w9 ⟨y9, rfl, hy9, hb9⟩; have UB := Lib.hid (below_then HB.out hb9); have EQ := Lib.hid (same_mk (iat_keeps GS.out UB.out) hy9 (small_of SM.out.1 (by decide))); clear hy9 hb9 HB; have HB := UB; clear UB)
    | (go_at_call 30; refine (SUB.out _ HB.out).mono ?_; rintro e w9 ⟨y9, rfl, hy9, hb9⟩; have UB := Lib.hid (below_then HB.out hb9); have EQ := Lib.hid (same_mk (iat_keeps GD.out UB.out) hy9 (small_of SM.out.2 (by decide))); clear hy9 hb9 HB; have HB := UB; clear UB)
    | (go_at_call 18; refine (equal_any _ _ _ (by first | exact EQ.out | exact EQX.out _ HB.out | exact EQY.out _ HB.out)).mono ?_; rintro e w9 ⟨rfl, hb9⟩; have UB := Lib.hid (below_then HB.out hb9); clear hb9 HB; have HB := UB; clear UB; try clear EQ)
    | (go_at_call 20; refine (lives_any _).mono ?_; rintro e w9 ⟨rfl, hb9⟩; have UB := Lib.hid (below_then HB.out hb9); clear hb9 HB; have HB := UB; clear UB))
  all_goals
    have HE := Lib.hid (below_then HW0.out HB.out)
    go_wp2_with fail
    go_ret
    exact ⟨rfl, HE.out⟩
end Go.Proofs.YtikafidfembmhaaDoor
