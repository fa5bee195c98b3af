/-
  The law WideOrder. (tools/genLwwD.py makes this text.)
-/
import Derived.Test.YtldbhlafijjkdaaDoorCmr
import Derived.Test.YtldbhlafijjkdaaDoorNumG
import Derived.Test.YtldbhlafijjkdaaDoorNmB
import Derived.Deep.DeepCutAuto
namespace Go.Proofs.YtldbhlafijjkdaaDoor
open Go.RowKit Go.Shelf
set_option linter.unusedVariables false
set_option maxRecDepth 100000

theorem lo_one {d : Int} (h : -1 ≤ d ∧ d ≤ 1) : Small d := small_of (K := 1) (by show d.natAbs ≤ 2; omega) (by decide)
theorem lo_neg {K : Nat} {a : Int} (h : Lo K a) : Lo K (-a) := by unfold Lo at *; rwa [Int.natAbs_neg]
theorem cmp_one (a b : Int) : cmpI a b = cmpZ a b := by rfl
/-- Two integers of the package, and how they compare; the same for the reference. -/
def WPair (W : World) (x y : Value) (c : Int) : Prop := ∃ a b, IAt W x a ∧ IAt W y b ∧ cmpZ a b = c ∧ (digsW a.natAbs).length ≤ 400000 ∧ (digsW b.natAbs).length ≤ 400000
theorem wpair_mk {W : World} {x y : Value} {a b : Int} (h1 : IAt W x a) (h2 : IAt W y b) (h3 : Small a) (h4 : Small b) : WPair W x y (cmpZ a b) := ⟨a, b, h1, h2, rfl, h3.words, h4.words⟩
theorem wpair_cmp (w : World) (x y : Value) (c : Int) (h : WPair w x y c) : Calls Tryd.prog 29 #[x, y] w (CmpEnd c w) := by
  obtain ⟨a, b, h1, h2, rfl, h3, h4⟩ := h
  exact wCompare_any x y a b w h1 h2 h3 h4
def NPair (W : World) (x y : Value) (c : Int) : Prop := ∃ a b, NAt W x a ∧ NAt W y b ∧ cmpZ a b = c ∧ (digs a.natAbs).length ≤ 1000000 ∧ (digs b.natAbs).length ≤ 1000000
theorem npair_mk {W : World} {x y : Value} {a b : Int} (h1 : NAt W x a) (h2 : NAt W y b) (h3 : Small a) (h4 : Small b) : NPair W x y (cmpZ a b) := ⟨a, b, h1, h2, rfl, by have := h3.digs; omega, by have := h4.digs; omega⟩
theorem npair_cmp (w : World) (x y : Value) (c : Int) (h : NPair w x y c) : Calls Tryd.prog 30 #[x, y] w (CmpEnd c w) := by
  obtain ⟨a, b, h1, h2, rfl, h3, h4⟩ := h
  have := compare_any x y a b w h1 h2 h3 h4
  rwa [cmp_one] at this
theorem ord_rng {a b d : Int} (ha : Lo 240 a) (hb : Lo 240 b) (hd : -1 ≤ d ∧ d ≤ 1) : ∀ k, k < 3 → ∃ z, [b, a + d, -a][k]? = some z ∧ Lo 241 z :=
  list3 (hb.more (by decide)) (ha.add ((show Lo 1 d by unfold Lo; omega).more (by decide))) (by unfold Lo; rw [Int.natAbs_neg]; exact ha.more (by decide))

set_option maxHeartbeats 8000000 in
theorem walk_WideOrder (v : Value) (l : List Int) (n : Int) (w : World) (hv : Row .i64 w v l) (hr : ∀ n ∈ l, -9223372036854775808 ≤ n ∧ n ≤ 9223372036854775807) (hn : -9223372036854775808 ≤ n ∧ n ≤ 9223372036854775807) :
    Calls Tryd.prog 6 #[v, .int .i64 n] w fun e w' => e = .returned (.bool true) ∧ Below w.heap.size w w' := by
  obtain ⟨pv, cv, rfl, hcv, hcvm⟩ := (show ∃ p c, v = .slice p l.length c ∧ l.length ≤ c ∧ c ≤ 9223372036854775807 by obtain ⟨p, c, e, h1, h2, _⟩ := hv; exact ⟨p, c, e, h1, h2⟩)
  have HL := Lib.hid hv
  have HR := Lib.hid hr
  have HN := Lib.hid hn
  have HB : Hid (Below w.heap.size w w) := Lib.hid (Below.refl _ _)
  clear hv hr
  generalize hll : l.length = ll at *
  clear hll
  go_enter Tryd.func6, Tryd.ntmps6
  go_wp2_with fail
  have C0 := number_ref _ l 0 w HL.out HR.out (by decide)
  unfold NumEnd at C0
  unfold NEnd at C0
  have HC0 := Lib.hid C0
  clear C0
  go_must (refine HC0.out.mono ?_)
  rintro e w0 ⟨zA, hzA, y0, rfl, hx0, hb0⟩
  have HZA := Lib.hid hzA
  clear hzA
  obtain ⟨b0, p0, n0, q0, rfl⟩ := nat_shape hx0
  have hbb := below_then hb0 (below_one w0 (.cells #[.bool b0, .slice p0 n0 q0] 25))
  have U := Lib.hid (row_keeps HL.out hbb)
  clear HL
  have HL := U
  clear U
  have U := Lib.hid (below_then HB.out hbb)
  clear HB
  have HB := U
  clear U
  have TA := Lib.hid (NBox.new hx0)
  clear HC0 hb0 hbb hx0
  go_wp2_with fail
  generalize w0.alloc (.cells #[.bool b0, .slice p0 n0 q0] 25) = W0 at *
  generalize w0.heap.size = t0 at *
  obtain ⟨sAE, aAE, mAE, kAE, lAE, hAE⟩ := TA.out
  have GA := Lib.hid hAE
  have LA := Lib.hid lAE
  clear hAE lAE
  have CELLS : Hid (∀ X : World, Below W0.heap.size W0 X → X.cell? ⟨t0, 0, none⟩ = some (.bool sAE) ∧ X.cell? ⟨t0, 1, none⟩ = some (.slice aAE mAE kAE)) := Lib.hid (fun X h => by
    obtain ⟨eA0, eA1, _, _⟩ := cells2 (LA.out.below h)
    exact ⟨eA0, eA1⟩)
  have HW0 := HB
  clear HB
  have HB : Hid (Below W0.heap.size W0 W0.drew) := Lib.hid (Below.refl _ _).drew
  obtain ⟨d, hd, hd1⟩ : ∃ d : Int, d = boundI n 1 ∧ (-1 ≤ d ∧ d ≤ 1) := ⟨_, rfl, boundI_range n (by decide)⟩
  have BND : Hid (∀ w', Calls Tryd.prog 27 #[.int .i64 n, .int .i64 1] w' fun e w2 => e = .returned (.int .i64 d) ∧ w' = w2) := Lib.hid (fun w' => by rw [hd]; exact bound_any n 1 w' HN.out (by decide))
  have HD := Lib.hid hd1
  clear hd hd1
  have OF : Hid (∀ w', Calls Tryd.prog 19 #[.int .i64 d] w' (NEnd d w')) := Lib.hid (fun w' => of_any d w' (by have := HD.out; omega))
  have NUM : Hid (∀ w', Below W0.heap.size W0 w' → Calls Tryd.prog 9 #[.slice pv ll cv, .int .i64 6] w' (NumEnd w')) := Lib.hid (fun w' h => number_ref _ l 6 w' (row_keeps HL.out h) HR.out (by decide))
  have ADD : Hid (∀ w' y, Below W0.heap.size W0 w' → NAt w' y d → Calls Tryd.prog 23 #[(.agg #[.bool sAE, .slice aAE mAE kAE]), y] w' (NEnd (zA + d) w')) := Lib.hid (fun w' y h h2 => add_any _ y zA d w' (nat_keeps GA.out h) h2 (digs_of_small (Lo.small HZA.out (by decide))) (digs_of_small (lo_one HD.out)))
  have NEG : Hid (∀ w', Below W0.heap.size W0 w' → Calls Tryd.prog 28 #[(.agg #[.bool sAE, .slice aAE mAE kAE])] w' (NEnd (-zA) w')) := Lib.hid (fun w' h => neg_any _ zA w' (nat_keeps GA.out h) (by have := (Lo.small HZA.out (by decide)).digs; omega))
  unfold NumEnd at NUM
  unfold NEnd at OF NUM ADD NEG
  go_cut [6] (fun s6 wx => ∃ (t : Nat) (zB : Int), s6 = .slice (some ⟨t, 0, none⟩) 3 3 ∧ Hid (Lo 240 zB) ∧ Hid (NRow wx t [zB, zA + d, -zA]) ∧ Hid (Below W0.heap.size W0 wx))
  case first =>
    go_region_held3 (fun X : World => X.cell? ⟨t0, 0, none⟩ = some (.bool sAE) ∧ X.cell? ⟨t0, 1, none⟩ = some (.slice aAE mAE kAE)) (with_reducible first | exact CELLS.out _ HB.out | exact CELLS.out _ (below_then HB.out (below_one _ _))) (first
      | (go_at_call 9; ((with_reducible refine (NUM.out _ HB.out).mono ?_); rintro e w10 ⟨zB, hz9, y10, rfl, hx10, hb10⟩); have HZB := Lib.hid hz9; obtain ⟨b10, p10, n10, q10, rfl⟩ := nat_shape hx10; have HX1 := Lib.hid hx10; have UB := Lib.hid (below_then HB.out hb10); clear hx10 hb10 HB hz9; have HB := UB; clear UB)
      | (go_at_call 27; ((with_reducible refine (BND.out _).mono ?_); rintro e w11 ⟨rfl, rfl⟩))
      | (go_at_call 19; ((with_reducible refine (OF.out _).mono ?_); rintro e w11 ⟨y11, rfl, hx11, hb11⟩); have HX2 := Lib.hid hx11; have U1 := Lib.hid (nat_keeps HX1.out hb11); have UB := Lib.hid (below_then HB.out hb11); clear hx11 hb11 HB HX1; have HB := UB; have HX1 := U1; clear UB U1)
      | (go_at_call 23; ((with_reducible refine (ADD.out _ _ HB.out HX2.out).mono ?_); rintro e w12 ⟨y12, rfl, hx12, hb12⟩); obtain ⟨b12, p12, n12, q12, rfl⟩ := nat_shape hx12; have HX3 := Lib.hid hx12; have U1 := Lib.hid (nat_keeps HX1.out hb12); have UB := Lib.hid (below_then HB.out hb12); clear hx12 hb12 HB HX1 HX2; have HB := UB; have HX1 := U1; clear UB U1)
      | (go_at_call 28; ((with_reducible refine (NEG.out _ HB.out).mono ?_); rintro e w14 ⟨y14, rfl, hx14, hb14⟩); obtain ⟨b14, p14, n14, q14, rfl⟩ := nat_shape hx14; have HX5 := Lib.hid hx14; have U1 := Lib.hid (nat_keeps HX1.out hb14); have U2 := Lib.hid (nat_keeps HX3.out hb14); have UB := Lib.hid (below_then HB.out hb14); clear hx14 hb14 HB HX1 HX3; have HB := UB; have HX1 := U1; have HX3 := U2; clear UB U1 U2))
    go_wp2_with fail
    go_meet
    exact ⟨_, _, rfl, HZB, Lib.hid (nrow_three HX1.out HX3.out HX5.out), Lib.hid (below_then HB.out (below_one _ _))⟩
  obtain ⟨t6, zB, rfl, HZB, HRW, HBx⟩ := hcut
  clear HB NUM BND OF ADD NEG
  have HB := HBx
  clear HBx
  have hbb := HB.out
  clear HB CELLS GA LA
  have U := Lib.hid (TA.out.below hbb)
  clear TA
  have TA := U
  clear U
  have U := Lib.hid (row_keeps HL.out hbb)
  clear HL
  have HL := U
  clear U
  have HB := Lib.hid (below_then HW0.out hbb)
  clear HW0 hbb
  have HRNG := Lib.hid (ord_rng HZA.out HZB.out HD.out)
  generalize hzs : [zB, zA + d, -zA] = zs at *
  clear hzs
  obtain ⟨sA1, aA1, mA1, kA1, ⟨cA10, cA11⟩, _, hA1, _⟩ := TA.out.open
  go_wp2_with fail
  have C1 := wider_any _ zA wc hA1 (Lo.small HZA.out (by decide))
  unfold WiderEnd at C1
  have HC1 := Lib.hid C1
  clear C1
  clear cA10 cA11 hA1
  go_must (refine HC1.out.mono ?_)
  rintro e w1 ⟨b1, p1, n1, q1, rfl, hx1, hb1⟩
  have hbb := below_then hb1 (below_one w1 (.cells #[.bool b1, .slice p1 n1 q1] 33))
  have U := Lib.hid (TA.out.below hbb)
  clear TA
  have TA := U
  clear U
  have U := Lib.hid (nrow_keeps HRW.out hbb)
  clear HRW
  have HRW := U
  clear U
  have U := Lib.hid (below_then HB.out hbb)
  clear HB
  have HB := U
  clear U
  have TX := Lib.hid (IBox.new hx1)
  clear HC1 hb1 hbb hx1
  go_wp2_with fail
  generalize w1.alloc (.cells #[.bool b1, .slice p1 n1 q1] 33) = W1 at *
  generalize w1.heap.size = t1 at *
  go_loopw [9, 10, 11] (fun iv _ _ wr => ∃ k : Nat, iv = .int .i64 (k : Int) ∧ k ≤ 3 ∧ Hid (NRow wr t6 zs) ∧ Hid (NBox wr t0 zA) ∧ Hid (IBox wr t1 zA) ∧ Hid (Below w.heap.size w wr)) (fun iv _ _ _ => (3 - intOf iv).toNat)
  case atStart => exact ⟨0, rfl, by decide, HRW, TA, TX, HB⟩
  case round =>
    clear HRW TA TX HB
    obtain ⟨k, rfl, hk3, HRW, TA, TX, HB⟩ := hrel
    rcases Nat.lt_or_ge k 3 with hlt | hge
    · obtain ⟨z, hz, hzl⟩ := HRNG.out k hlt
      have HZ := Lib.hid hzl
      have HZS := Lib.hid hz
      have hlti : (k : Int) < 3 := by omega
      obtain ⟨sK, aK, mK, qK, ⟨cK0, cK1⟩, hK⟩ := HRW.out.2 k z hz
      clear hzl hz
      go_wp2_with fail
      have C2 := wider_any _ z wr hK (Lo.small HZ.out (by decide))
      unfold WiderEnd at C2
      have HC2 := Lib.hid C2
      clear C2
      go_must (refine HC2.out.mono ?_)
      rintro e w2 ⟨b2, p2, n2, q2, rfl, hx2, hb2⟩
      have hbb := below_then hb2 (below_one w2 (.cells #[.bool b2, .slice p2 n2 q2] 33))
      have U := Lib.hid (TA.out.below hbb)
      clear TA
      have TA := U
      clear U
      have U := Lib.hid (TX.out.below hbb)
      clear TX
      have TX := U
      clear U
      have U := Lib.hid (nrow_keeps HRW.out hbb)
      clear HRW
      have HRW := U
      clear U
      have U := Lib.hid (below_then HB.out hbb)
      clear HB
      have HB := U
      clear U
      have TY := Lib.hid (IBox.new hx2)
      clear HC2 hb2 hbb hx2
      go_wp2_with fail
      generalize w2.alloc (.cells #[.bool b2, .slice p2 n2 q2] 33) = W2 at *
      generalize w2.heap.size = t2 at *
      obtain ⟨sAE, aAE, mAE, kAE, lAE, hAE⟩ := TA.out
      have GA := Lib.hid hAE
      have LA := Lib.hid lAE
      clear hAE lAE
      obtain ⟨sXE, aXE, mXE, kXE, lXE, hXE⟩ := TX.out
      have GX := Lib.hid hXE
      have LX := Lib.hid lXE
      clear hXE lXE
      obtain ⟨sYE, aYE, mYE, kYE, lYE, hYE⟩ := TY.out
      have GY := Lib.hid hYE
      have LY := Lib.hid lYE
      clear hYE lYE
      have CELLS : Hid (∀ X : World, Below W2.heap.size W2 X → X.cell? ⟨t0, 0, none⟩ = some (.bool sAE) ∧ X.cell? ⟨t0, 1, none⟩ = some (.slice aAE mAE kAE) ∧ X.cell? ⟨t1, 0, none⟩ = some (.bool sXE) ∧ X.cell? ⟨t1, 1, none⟩ = some (.slice aXE mXE kXE) ∧ X.cell? ⟨t2, 0, none⟩ = some (.bool sYE) ∧ X.cell? ⟨t2, 1, none⟩ = some (.slice aYE mYE kYE)) := Lib.hid (fun X h => by
        obtain ⟨eA0, eA1, _, _⟩ := cells2 (LA.out.below h)
        obtain ⟨eX0, eX1, _, _⟩ := cells2 (LX.out.below h)
        obtain ⟨eY0, eY1, _, _⟩ := cells2 (LY.out.below h)
        exact ⟨eA0, eA1, eX0, eX1, eY0, eY1⟩)
      have HW0 := HB
      clear HB
      have HB : Hid (Below W2.heap.size W2 W2.drew) := Lib.hid (Below.refl _ _).drew
      clear cK0 cK1
      obtain ⟨sV, aV, mV, qV, ⟨cV0, cV1⟩, hV⟩ := HRW.out.2 k z HZS.out
      have CELLV : Hid (∀ X : World, Below W2.heap.size W2 X → X.cell? ⟨t0, 0, none⟩ = some (.bool sAE) ∧ X.cell? ⟨t0, 1, none⟩ = some (.slice aAE mAE kAE) ∧ X.cell? ⟨t1, 0, none⟩ = some (.bool sXE) ∧ X.cell? ⟨t1, 1, none⟩ = some (.slice aXE mXE kXE) ∧ X.cell? ⟨t2, 0, none⟩ = some (.bool sYE) ∧ X.cell? ⟨t2, 1, none⟩ = some (.slice aYE mYE kYE) ∧ X.cell? ⟨t6, k * 2, none⟩ = some (.bool sV) ∧ X.cell? ⟨t6, k * 2 + 1, none⟩ = some (.slice aV mV qV)) := Lib.hid (fun X h => by
        obtain ⟨e0, e1, e2, e3, e4, e5⟩ := CELLS.out X h
        exact ⟨e0, e1, e2, e3, e4, e5, (h.cell (p := ⟨t6, k * 2, none⟩) HRW.out.1).trans cV0, (h.cell (p := ⟨t6, k * 2 + 1, none⟩) HRW.out.1).trans cV1⟩)
      have GV := Lib.hid hV
      clear cV0 cV1 hV
      obtain ⟨c1, hc1⟩ : ∃ c, c = cmpZ zA z := ⟨_, rfl⟩
      obtain ⟨c2, hc2⟩ : ∃ c, c = cmpZ z zA := ⟨_, rfl⟩
      have WC : Hid (∀ w' x y c, WPair w' x y c → Calls Tryd.prog 29 #[x, y] w' (CmpEnd c w')) := Lib.hid wpair_cmp
      have NC : Hid (∀ w' x y c, NPair w' x y c → Calls Tryd.prog 30 #[x, y] w' (CmpEnd c w')) := Lib.hid npair_cmp
      unfold CmpEnd at WC NC
      have P1 : Hid (∀ w', Below W2.heap.size W2 w' → WPair w' (.agg #[.bool sXE, .slice aXE mXE kXE]) (.agg #[.bool sYE, .slice aYE mYE kYE]) c1) := Lib.hid (fun w' h => hc1 ▸ wpair_mk (iat_keeps GX.out h) (iat_keeps GY.out h) (Lo.small HZA.out (by decide)) (Lo.small HZ.out (by decide)))
      have P2 : Hid (∀ w', Below W2.heap.size W2 w' → WPair w' (.agg #[.bool sYE, .slice aYE mYE kYE]) (.agg #[.bool sXE, .slice aXE mXE kXE]) c2) := Lib.hid (fun w' h => hc2 ▸ wpair_mk (iat_keeps GY.out h) (iat_keeps GX.out h) (Lo.small HZ.out (by decide)) (Lo.small HZA.out (by decide)))
      have P3 : Hid (∀ w', Below W2.heap.size W2 w' → NPair w' (.agg #[.bool sAE, .slice aAE mAE kAE]) (.agg #[.bool sV, .slice aV mV qV]) c1) := Lib.hid (fun w' h => hc1 ▸ npair_mk (nat_keeps GA.out h) (nat_keeps GV.out h) (Lo.small HZA.out (by decide)) (Lo.small HZ.out (by decide)))
      have P4 : Hid (∀ w', Below W2.heap.size W2 w' → NPair w' (.agg #[.bool sV, .slice aV mV qV]) (.agg #[.bool sAE, .slice aAE mAE kAE]) c2) := Lib.hid (fun w' h => hc2 ▸ npair_mk (nat_keeps GV.out h) (nat_keeps GA.out h) (Lo.small HZ.out (by decide)) (Lo.small HZA.out (by decide)))
      clear hc1 hc2
      go_region_held3 (fun X : World => X.cell? ⟨t0, 0, none⟩ = some (.bool sAE) ∧ X.cell? ⟨t0, 1, none⟩ = some (.slice aAE mAE kAE) ∧ X.cell? ⟨t1, 0, none⟩ = some (.bool sXE) ∧ X.cell? ⟨t1, 1, none⟩ = some (.slice aXE mXE kXE) ∧ X.cell? ⟨t2, 0, none⟩ = some (.bool sYE) ∧ X.cell? ⟨t2, 1, none⟩ = some (.slice aYE mYE kYE) ∧ X.cell? ⟨t6, k * 2, none⟩ = some (.bool sV) ∧ X.cell? ⟨t6, k * 2 + 1, none⟩ = some (.slice aV mV qV)) (with_reducible first | exact CELLV.out _ HB.out) (first
        | (go_at_call 29; ((with_reducible refine (WC.out _ _ _ _ (P1.out _ HB.out)).mono ?_); rintro e w9 ⟨rfl, hb9⟩); have UB := Lib.hid (below_then HB.out hb9); clear hb9 HB; have HB := UB; clear UB)
        | (go_at_call 29; ((with_reducible refine (WC.out _ _ _ _ (P2.out _ HB.out)).mono ?_); rintro e w9 ⟨rfl, hb9⟩); have UB := Lib.hid (below_then HB.out hb9); clear hb9 HB; have HB := UB; clear UB)
        | (go_at_call 30; ((with_reducible refine (NC.out _ _ _ _ (P3.out _ HB.out)).mono ?_); rintro e w9 ⟨rfl, hb9⟩); have UB := Lib.hid (below_then HB.out hb9); clear hb9 HB; have HB := UB; clear UB)
        | (go_at_call 30; ((with_reducible refine (NC.out _ _ _ _ (P4.out _ HB.out)).mono ?_); rintro e w9 ⟨rfl, hb9⟩); have UB := Lib.hid (below_then HB.out hb9); clear hb9 HB; have HB := UB; clear UB))
      clear WC NC P1 P2 P3 P4 CELLV GV
      have hbb := HB.out
      clear HB CELLS GA LA GX LX GY LY
      have U := Lib.hid (TA.out.below hbb)
      clear TA
      have TA := U
      clear U
      have U := Lib.hid (TX.out.below hbb)
      clear TX
      have TX := U
      clear U
      have U := Lib.hid (TY.out.below hbb)
      clear TY
      have TY := U
      clear U
      have U := Lib.hid (nrow_keeps HRW.out hbb)
      clear HRW
      have HRW := U
      clear U
      have HB := Lib.hid (below_then HW0.out hbb)
      clear HW0 hbb
      go_wp2_with fail
      go_roundw
      case rel => exact ⟨k + 1, by go_num, by omega, HRW, TA, TX, HB⟩
      case measure => simp [intOf] <;> omega
    · obtain rfl : k = 3 := by omega
      go_wp2_with fail
      obtain ⟨sAE, aAE, mAE, kAE, lAE, hAE⟩ := TA.out
      have GA := Lib.hid hAE
      have LA := Lib.hid lAE
      clear hAE lAE
      obtain ⟨sXE, aXE, mXE, kXE, lXE, hXE⟩ := TX.out
      have GX := Lib.hid hXE
      have LX := Lib.hid lXE
      clear hXE lXE
      have CELLS : Hid (∀ X : World, Below wr.heap.size wr X → X.cell? ⟨t0, 0, none⟩ = some (.bool sAE) ∧ X.cell? ⟨t0, 1, none⟩ = some (.slice aAE mAE kAE) ∧ X.cell? ⟨t1, 0, none⟩ = some (.bool sXE) ∧ X.cell? ⟨t1, 1, none⟩ = some (.slice aXE mXE kXE)) := Lib.hid (fun X h => by
        obtain ⟨eA0, eA1, _, _⟩ := cells2 (LA.out.below h)
        obtain ⟨eX0, eX1, _, _⟩ := cells2 (LX.out.below h)
        exact ⟨eA0, eA1, eX0, eX1⟩)
      have HW0 := HB
      clear HB
      have HB : Hid (Below wr.heap.size wr wr.drew) := Lib.hid (Below.refl _ _).drew
      obtain ⟨c0, hc0⟩ : ∃ c, c = cmpZ zA 0 := ⟨_, rfl⟩
      have SGN : Hid (∀ w', Below wr.heap.size wr w' → Calls Tryd.prog 31 #[(.agg #[.bool sXE, .slice aXE mXE kXE])] w' (CmpEnd c0 w')) := Lib.hid (fun w' h => hc0 ▸ wSign_any _ zA w' (iat_keeps GX.out h) (Lo.small HZA.out (by decide)).words)
      have NC0 : Hid (∀ w', Below wr.heap.size wr w' → Calls Tryd.prog 30 #[(.agg #[.bool sAE, .slice aAE mAE kAE]), .agg #[.bool false, .slice none 0 0]] w' (CmpEnd c0 w')) := Lib.hid (fun w' h => hc0 ▸ npair_cmp _ _ _ _ (npair_mk (nat_keeps GA.out h) (nat_zero w') (Lo.small HZA.out (by decide)) (small_zero rfl)))
      have NGW : Hid (∀ w', Below wr.heap.size wr w' → Calls Tryd.prog 32 #[(.agg #[.bool sXE, .slice aXE mXE kXE])] w' (IEnd (-zA) w')) := Lib.hid (fun w' h => wNeg_any _ zA w' (iat_keeps GX.out h) (Lo.small HZA.out (by decide)).words)
      have NGN : Hid (∀ w', Below wr.heap.size wr w' → Calls Tryd.prog 28 #[(.agg #[.bool sAE, .slice aAE mAE kAE])] w' (NEnd (-zA) w')) := Lib.hid (fun w' h => neg_any _ zA w' (nat_keeps GA.out h) (by have := (Lo.small HZA.out (by decide)).digs; omega))
      have BM : Hid (Small (-zA)) := Lib.hid ((lo_neg (K := 240) HZA.out).small (by decide))
      unfold CmpEnd at SGN NC0
      unfold IEnd at NGW
      unfold NEnd at NGN
      clear hc0 HRNG
      go_region_held3 (fun X : World => X.cell? ⟨t0, 0, none⟩ = some (.bool sAE) ∧ X.cell? ⟨t0, 1, none⟩ = some (.slice aAE mAE kAE) ∧ X.cell? ⟨t1, 0, none⟩ = some (.bool sXE) ∧ X.cell? ⟨t1, 1, none⟩ = some (.slice aXE mXE kXE)) (with_reducible first | exact CELLS.out _ HB.out) (first
        | (go_at_call 31; ((with_reducible refine (SGN.out _ HB.out).mono ?_); rintro e w9 ⟨rfl, hb9⟩); have UB := Lib.hid (below_then HB.out hb9); clear hb9 HB; have HB := UB; clear UB)
        | (go_at_call 30; ((with_reducible refine (NC0.out _ HB.out).mono ?_); rintro e w9 ⟨rfl, hb9⟩); have UB := Lib.hid (below_then HB.out hb9); clear hb9 HB; have HB := UB; clear UB)
        | (go_at_call 32; ((with_reducible refine (NGW.out _ HB.out).mono ?_); rintro e w9 ⟨b9, a9, m9, k9, rfl, hx9, hb9⟩); have HX := Lib.hid hx9; clear hx9; have UB := Lib.hid (below_then HB.out hb9); clear hb9 HB; have HB := UB; clear UB)
        | (go_at_call 28; ((with_reducible refine (NGN.out _ HB.out).mono ?_); rintro e w9 ⟨y9, rfl, hy9, hb9⟩); have EQ := Lib.hid (same_mk (iat_keeps HX.out hb9) hy9 BM.out); clear hy9; have UB := Lib.hid (below_then HB.out hb9); clear hb9 HB; have HB := UB; clear UB)
        | (go_at_call 14; refine (equal_any _ _ _ EQ.out).mono ?_; rintro e w9 ⟨rfl, hb9⟩; have UB := Lib.hid (below_then HB.out hb9); clear hb9 HB; have HB := UB; clear UB)
        | (go_at_call 16; refine (lives_any _).mono ?_; rintro e w9 ⟨rfl, hb9⟩; have UB := Lib.hid (below_then HB.out hb9); clear hb9 HB; have HB := UB; clear UB))
      all_goals
        have HE := Lib.hid (below_then HW0.out HB.out)
        go_wp2_with fail
        go_ret
        exact ⟨rfl, HE.out⟩
end Go.Proofs.YtldbhlafijjkdaaDoor
