/-
  The law WideDivisors. (tools/genLwwD.py makes this text.)
-/
import Derived.Test.YtikafidfembmhaaDoorLwwC
import Derived.Test.YtikafidfembmhaaDoorLwwG
import Derived.Test.YtikafidfembmhaaDoorDvg
import Derived.Test.YtikafidfembmhaaDoorBgU
import Derived.Test.YtikafidfembmhaaDoorNmH
import Derived.Deep.DeepCutAuto
namespace Go.Proofs.YtikafidfembmhaaDoor
open Go.RowKit Go.Shelf
set_option linter.unusedVariables false
set_option maxRecDepth 100000

theorem gcd_lo {a b : Int} {K : Nat} (ha : Lo K a) (hb : Lo K b) : Lo (K + 1) ((Int.gcd a b : Nat) : Int) := by
  unfold Lo at *
  rw [Int.natAbs_natCast, Nat.pow_succ]
  rcases Classical.em (a = 0) with h | h
  · rw [h, Int.gcd_zero_left]; omega
  · have := Int.gcd_le_natAbs_left b h
    omega
theorem zero_len {W : World} {s : Bool} {a : Option Addr} {m c : Nat} {n : Int} (h : NAt W (.agg #[.bool s, .slice a m c]) n) (hn : n = 0) : m = 0 := by
  subst hn
  have := row_lenN (nat_row2 h)
  rw [show (0 : Int).natAbs = 0 from rfl, digs_zero] at this
  exact this.symm
theorem small_zero {n : Int} (h : n = 0) : Small n := small_of (K := 1) (by subst h; decide) (by decide)
theorem small_one {n : Int} (h : n = 1) : Small n := small_of (K := 1) (by subst h; decide) (by decide)
theorem gcd_zero_l {a b : Int} (h : ((Int.gcd a b : Nat) : Int) = 0) : a = 0 := by have := Int.gcd_eq_zero_iff.1 (Int.ofNat_eq_zero.1 h); exact this.1
theorem gcd_zero_r {a b : Int} (h : ((Int.gcd a b : Nat) : Int) = 0) : b = 0 := by have := Int.gcd_eq_zero_iff.1 (Int.ofNat_eq_zero.1 h); exact this.2
theorem div_parts {a b : Int} {K : Nat} (h : ¬ ((Int.gcd a b : Nat) : Int) = 0) (ha : Lo K a) (hb : Lo K b) (_h : K ≤ K + 1) :
    Lo K (a / (Int.gcd a b : Nat)) ∧ Lo K (b / (Int.gcd a b : Nat)) ∧ a % ((Int.gcd a b : Nat) : Int) = 0 ∧ b % ((Int.gcd a b : Nat) : Int) = 0 ∧ Int.gcd (a / (Int.gcd a b : Nat)) (b / (Int.gcd a b : Nat)) = 1 :=
  ⟨Nat.le_trans (ediv_le _ _) ha, Nat.le_trans (ediv_le _ _) hb, Int.emod_eq_zero_of_dvd (Int.gcd_dvd_left ..), Int.emod_eq_zero_of_dvd (Int.gcd_dvd_right ..),
    Int.gcd_ediv_gcd_ediv_gcd (by omega)⟩

set_option maxHeartbeats 8000000 in
theorem walk_WideDivisors (v : Value) (l : List Int) (w : World) (hv : Row .i64 w v l) (hr : ∀ n ∈ l, -9223372036854775808 ≤ n ∧ n ≤ 9223372036854775807) :
    Calls Tryd.prog 9 #[v] w fun e w' => e = .returned (.bool true) ∧ Below w.heap.size w w' := by
  obtain ⟨pv, cv, rfl, hcv, hcvm⟩ := (show ∃ p c, v = .slice p l.length c ∧ l.length ≤ c ∧ c ≤ 9223372036854775807 by obtain ⟨p, c, e, h1, h2, _⟩ := hv; exact ⟨p, c, e, h1, h2⟩)
  have HL := Lib.hid hv
  have HR := Lib.hid hr
  have HB : Hid (Below w.heap.size w w) := Lib.hid (Below.refl _ _)
  clear hv hr
  generalize hll : l.length = ll at *
  clear hll
  go_enter Tryd.func9, Tryd.ntmps9
  go_wp2_with fail
  have C0 := number_ref _ l 12 w HL.out HR.out (by decide)
  unfold NumEnd at C0
  unfold NEnd at C0
  have HC0 := Lib.hid C0
  clear C0
  go_must (refine HC0.out.mono ?_)
  rintro e w0 ⟨zC, hzC, y0, rfl, hx0, hb0⟩
  have HZC := Lib.hid hzC
  clear hzC
  obtain ⟨b0, p0, n0, q0, rfl⟩ := nat_shape hx0
  have hbb := below_then hb0 (below_one w0 (.cells #[.bool b0, .slice p0 n0 q0] 25))
  have U := Lib.hid (row_keeps HL.out hbb)
  clear HL
  have HL := U
  clear U
  have U := Lib.hid (below_then HB.out hbb)
  clear HB
  have HB := U
  clear U
  have TC := Lib.hid (NBox.new hx0)
  clear HC0 hb0 hbb hx0
  go_wp2_with fail
  generalize w0.alloc (.cells #[.bool b0, .slice p0 n0 q0] 25) = W0 at *
  generalize w0.heap.size = t0 at *
  obtain ⟨sCE, aCE, mCE, kCE, lCE, hCE⟩ := TC.out
  have GC := Lib.hid hCE
  have LC := Lib.hid lCE
  clear hCE lCE
  have CELLS : Hid (∀ X : World, Below W0.heap.size W0 X → X.cell? ⟨t0, 0, none⟩ = some (.bool sCE) ∧ X.cell? ⟨t0, 1, none⟩ = some (.slice aCE mCE kCE)) := Lib.hid (fun X h => by
    obtain ⟨eC0, eC1, _, _⟩ := cells2 (LC.out.below h)
    exact ⟨eC0, eC1⟩)
  have HW0 := HB
  clear HB
  have HB : Hid (Below W0.heap.size W0 W0.drew) := Lib.hid (Below.refl _ _).drew
  have NUM : Hid (∀ w', Below W0.heap.size W0 w' → Calls Tryd.prog 13 #[.slice pv ll cv, .int .i64 0] w' (NumEnd w')) := Lib.hid (fun w' h => number_ref _ l 0 w' (row_keeps HL.out h) HR.out (by decide))
  have MUL : Hid (∀ w' x z, NAt w' x z → z.natAbs ≤ 2 ^ 240 → Below W0.heap.size W0 w' → Calls Tryd.prog 32 #[x, (.agg #[.bool sCE, .slice aCE mCE kCE])] w' (NEnd (z * zC) w')) := Lib.hid (fun w' x z h1 h2 h => mul_any _ _ z zC w' h1 (nat_keeps GC.out h) (digs_of_small (small_of h2 (by decide))) (digs_of_small (small_of HZC.out (by decide))))
  unfold NumEnd at NUM
  unfold NEnd at NUM MUL
  go_cut [4] (fun s4 wx => ∃ (t : Nat) (z : Int), s4 = .pointer (some ⟨t, 0, none⟩) ∧ Hid (Lo (240 + 240) z) ∧ Hid (NBox wx t z) ∧ Hid (Below W0.heap.size W0 wx))
  case first =>
    go_region_held3 (fun X : World => X.cell? ⟨t0, 0, none⟩ = some (.bool sCE) ∧ X.cell? ⟨t0, 1, none⟩ = some (.slice aCE mCE kCE)) (first | exact CELLS.out _ HB.out | exact CELLS.out _ HB1.out | exact CELLS.out _ (below_then HB1.out (below_one _ _)) | exact CELLS.out _ (below_then HB.out (below_one _ _)) | exact CELLS.out _ (below_one _ _).drew | exact CELLS.out _ ((HB1.out.setCell (p := ⟨_, 0, none⟩) HT.out _).setCell (p := ⟨_, 1, none⟩) HT.out _)) (first
      | (go_at_call 13; refine (NUM.out _ HB.out).mono ?_; rintro e w9 ⟨zA, hz9, y9, rfl, hy9, hb9⟩; have HZA := Lib.hid hz9; have HY := Lib.hid hy9; have UB := Lib.hid (below_then HB.out hb9); clear hb9 HB; have HB := UB; clear UB; clear hz9 hy9)
      | (go_at_call 13; refine (NUM.out _ (below_one _ _).drew).mono ?_; rintro e w9 ⟨zA, hz9, y9, rfl, hy9, hb9⟩; have HZA := Lib.hid hz9; have HY := Lib.hid hy9; have TZ := Lib.hid (((NBox.new (nat_zero W0)).below (Below.refl _ _).drew).below hb9); have HT := Lib.hid (Nat.le_refl W0.heap.size); have UB := Lib.hid (below_then (below_one _ _).drew hb9); clear HB; have HB := UB; clear UB; clear hz9 hy9 hb9)
      | (go_at_call 32; refine (MUL.out _ _ _ HY.out HZA.out HB.out).mono ?_; rintro e w10 ⟨y10, rfl, hx10, hb10⟩; obtain ⟨b10, p10, n10, q10, rfl⟩ := nat_shape hx10; have HX := Lib.hid hx10; have HB1 := Lib.hid (below_then HB.out hb10); first | (have UZ := Lib.hid (TZ.out.below hb10); clear TZ; have TZ := UZ; clear UZ; obtain ⟨_, _, _, _, LZ, _⟩ := TZ.out; obtain ⟨z0, z1, z2, z3⟩ := cells2 LZ; clear LZ) | skip; clear hx10 hb10 HB)
      | (go_at_call 32; refine (MUL.out _ _ _ (nat_keeps HY.out (below_one _ _)) HZA.out (below_then HB.out (below_one _ _))).mono ?_; rintro e w10 ⟨y10, rfl, hx10, hb10⟩; obtain ⟨b10, p10, n10, q10, rfl⟩ := nat_shape hx10; have HX := Lib.hid hx10; have HT := Lib.hid HB.out.size; have TZ := Lib.hid ((NBox.new (nat_zero w9)).below hb10); have HB1 := Lib.hid (below_then (below_then HB.out (below_one _ _)) hb10); obtain ⟨_, _, _, _, LZ, _⟩ := TZ.out; obtain ⟨z0, z1, z2, z3⟩ := cells2 LZ; clear hx10 hb10 LZ HB))
    all_goals
      go_wp2_with fail
      go_meet
      first
        | exact ⟨_, _, rfl, Lib.hid (Lo.mul HZA.out HZC.out), Lib.hid (NBox.new HX.out), Lib.hid (below_then HB1.out (below_one _ _))⟩
        | exact ⟨_, _, rfl, Lib.hid (Lo.mul HZA.out HZC.out), Lib.hid (TZ.out.store HX.out), Lib.hid ((HB1.out.setCell (p := ⟨_, 0, none⟩) HT.out _).setCell (p := ⟨_, 1, none⟩) HT.out _)⟩
  obtain ⟨tA, zA, rfl, HZA, UU, HBx⟩ := hcut
  clear NUM MUL HB
  have HB := HBx
  clear HBx
  have hbb := HB.out
  clear HB CELLS GC LC
  have U := Lib.hid (TC.out.below hbb)
  clear TC
  have TC := U
  clear U
  have U := Lib.hid (row_keeps HL.out hbb)
  clear HL
  have HL := U
  clear U
  have HB := Lib.hid (below_then HW0.out hbb)
  clear HW0 hbb
  have TA := UU
  clear UU
  go_wp2_with fail
  obtain ⟨sCE, aCE, mCE, kCE, lCE, hCE⟩ := TC.out
  have GC := Lib.hid hCE
  have LC := Lib.hid lCE
  clear hCE lCE
  have CELLS : Hid (∀ X : World, Below wc.heap.size wc X → X.cell? ⟨t0, 0, none⟩ = some (.bool sCE) ∧ X.cell? ⟨t0, 1, none⟩ = some (.slice aCE mCE kCE)) := Lib.hid (fun X h => by
    obtain ⟨eC0, eC1, _, _⟩ := cells2 (LC.out.below h)
    exact ⟨eC0, eC1⟩)
  have HW0 := HB
  clear HB
  have HB : Hid (Below wc.heap.size wc wc.drew) := Lib.hid (Below.refl _ _).drew
  have NUM : Hid (∀ w', Below wc.heap.size wc w' → Calls Tryd.prog 13 #[.slice pv ll cv, .int .i64 6] w' (NumEnd w')) := Lib.hid (fun w' h => number_ref _ l 6 w' (row_keeps HL.out h) HR.out (by decide))
  have MUL : Hid (∀ w' x z, NAt w' x z → z.natAbs ≤ 2 ^ 240 → Below wc.heap.size wc w' → Calls Tryd.prog 32 #[x, (.agg #[.bool sCE, .slice aCE mCE kCE])] w' (NEnd (z * zC) w')) := Lib.hid (fun w' x z h1 h2 h => mul_any _ _ z zC w' h1 (nat_keeps GC.out h) (digs_of_small (small_of h2 (by decide))) (digs_of_small (small_of HZC.out (by decide))))
  unfold NumEnd at NUM
  unfold NEnd at NUM MUL
  go_cut [5] (fun s4 wx => ∃ (t : Nat) (z : Int), s4 = .pointer (some ⟨t, 0, none⟩) ∧ Hid (Lo (240 + 240) z) ∧ Hid (NBox wx t z) ∧ Hid (Below wc.heap.size wc wx))
  case first =>
    go_region_held3 (fun X : World => X.cell? ⟨t0, 0, none⟩ = some (.bool sCE) ∧ X.cell? ⟨t0, 1, none⟩ = some (.slice aCE mCE kCE)) (first | exact CELLS.out _ HB.out | exact CELLS.out _ HB1.out | exact CELLS.out _ (below_then HB1.out (below_one _ _)) | exact CELLS.out _ (below_then HB.out (below_one _ _)) | exact CELLS.out _ (below_one _ _).drew | exact CELLS.out _ ((HB1.out.setCell (p := ⟨_, 0, none⟩) HT.out _).setCell (p := ⟨_, 1, none⟩) HT.out _)) (first
      | (go_at_call 13; refine (NUM.out _ HB.out).mono ?_; rintro e w9 ⟨zB, hz9, y9, rfl, hy9, hb9⟩; have HZB := Lib.hid hz9; have HY := Lib.hid hy9; have UB := Lib.hid (below_then HB.out hb9); clear hb9 HB; have HB := UB; clear UB; clear hz9 hy9)
      | (go_at_call 13; refine (NUM.out _ (below_one _ _).drew).mono ?_; rintro e w9 ⟨zB, hz9, y9, rfl, hy9, hb9⟩; have HZB := Lib.hid hz9; have HY := Lib.hid hy9; have TZ := Lib.hid (((NBox.new (nat_zero wc)).below (Below.refl _ _).drew).below hb9); have HT := Lib.hid (Nat.le_refl wc.heap.size); have UB := Lib.hid (below_then (below_one _ _).drew hb9); clear HB; have HB := UB; clear UB; clear hz9 hy9 hb9)
      | (go_at_call 32; refine (MUL.out _ _ _ HY.out HZB.out HB.out).mono ?_; rintro e w10 ⟨y10, rfl, hx10, hb10⟩; obtain ⟨b10, p10, n10, q10, rfl⟩ := nat_shape hx10; have HX := Lib.hid hx10; have HB1 := Lib.hid (below_then HB.out hb10); first | (have UZ := Lib.hid (TZ.out.below hb10); clear TZ; have TZ := UZ; clear UZ; obtain ⟨_, _, _, _, LZ, _⟩ := TZ.out; obtain ⟨z0, z1, z2, z3⟩ := cells2 LZ; clear LZ) | skip; clear hx10 hb10 HB)
      | (go_at_call 32; refine (MUL.out _ _ _ (nat_keeps HY.out (below_one _ _)) HZB.out (below_then HB.out (below_one _ _))).mono ?_; rintro e w10 ⟨y10, rfl, hx10, hb10⟩; obtain ⟨b10, p10, n10, q10, rfl⟩ := nat_shape hx10; have HX := Lib.hid hx10; have HT := Lib.hid HB.out.size; have TZ := Lib.hid ((NBox.new (nat_zero w9)).below hb10); have HB1 := Lib.hid (below_then (below_then HB.out (below_one _ _)) hb10); obtain ⟨_, _, _, _, LZ, _⟩ := TZ.out; obtain ⟨z0, z1, z2, z3⟩ := cells2 LZ; clear hx10 hb10 LZ HB))
    all_goals
      go_wp2_with fail
      go_meet
      first
        | exact ⟨_, _, rfl, Lib.hid (Lo.mul HZB.out HZC.out), Lib.hid (NBox.new HX.out), Lib.hid (below_then HB1.out (below_one _ _))⟩
        | exact ⟨_, _, rfl, Lib.hid (Lo.mul HZB.out HZC.out), Lib.hid (TZ.out.store HX.out), Lib.hid ((HB1.out.setCell (p := ⟨_, 0, none⟩) HT.out _).setCell (p := ⟨_, 1, none⟩) HT.out _)⟩
  obtain ⟨tB, zB, rfl, HZB, UU, HBx⟩ := hcut
  clear NUM MUL HB
  have HB := HBx
  clear HBx
  have hbb := HB.out
  clear HB CELLS GC LC
  have U := Lib.hid (TC.out.below hbb)
  clear TC
  have TC := U
  clear U
  have U := Lib.hid (TA.out.below hbb)
  clear TA
  have TA := U
  clear U
  have U := Lib.hid (row_keeps HL.out hbb)
  clear HL
  have HL := U
  clear U
  have HB := Lib.hid (below_then HW0.out hbb)
  clear HW0 hbb
  have TB := UU
  clear UU
  obtain ⟨sA1, aA1, mA1, kA1, ⟨cA10, cA11⟩, _, hA1, _⟩ := TA.out.open
  go_wp2_with fail
  have C1 := wider_any _ zA wc hA1 (Lo.small HZA.out (by decide))
  unfold WiderEnd at C1
  have HC1 := Lib.hid C1
  clear C1
  clear cA10 cA11 hA1
  go_must (refine HC1.out.mono ?_)
  rintro e w1 ⟨b1, p1, n1, q1, rfl, hx1, hb1⟩
  have hbb := below_then hb1 (below_one w1 (.cells #[.bool b1, .slice p1 n1 q1] 33))
  have U := Lib.hid (TC.out.below hbb)
  clear TC
  have TC := U
  clear U
  have U := Lib.hid (TA.out.below hbb)
  clear TA
  have TA := U
  clear U
  have U := Lib.hid (TB.out.below hbb)
  clear TB
  have TB := U
  clear U
  have U := Lib.hid (row_keeps HL.out hbb)
  clear HL
  have HL := U
  clear U
  have U := Lib.hid (below_then HB.out hbb)
  clear HB
  have HB := U
  clear U
  have TX := Lib.hid (IBox.new hx1)
  clear HC1 hb1 hbb hx1
  obtain ⟨sB2, aB2, mB2, kB2, ⟨cB20, cB21⟩, _, hB2, _⟩ := TB.out.open
  go_wp2_with fail
  generalize w1.alloc (.cells #[.bool b1, .slice p1 n1 q1] 33) = W1 at *
  generalize w1.heap.size = t1 at *
  have C2 := wider_any _ zB W1 hB2 (Lo.small HZB.out (by decide))
  unfold WiderEnd at C2
  have HC2 := Lib.hid C2
  clear C2
  clear cB20 cB21 hB2
  go_must (refine HC2.out.mono ?_)
  rintro e w2 ⟨b2, p2, n2, q2, rfl, hx2, hb2⟩
  have hbb := below_then hb2 (below_one w2 (.cells #[.bool b2, .slice p2 n2 q2] 33))
  have U := Lib.hid (TC.out.below hbb)
  clear TC
  have TC := U
  clear U
  have U := Lib.hid (TA.out.below hbb)
  clear TA
  have TA := U
  clear U
  have U := Lib.hid (TB.out.below hbb)
  clear TB
  have TB := U
  clear U
  have U := Lib.hid (TX.out.below hbb)
  clear TX
  have TX := U
  clear U
  have U := Lib.hid (row_keeps HL.out hbb)
  clear HL
  have HL := U
  clear U
  have U := Lib.hid (below_then HB.out hbb)
  clear HB
  have HB := U
  clear U
  have TY := Lib.hid (IBox.new hx2)
  clear HC2 hb2 hbb hx2
  obtain ⟨sX3, aX3, mX3, kX3, ⟨cX30, cX31⟩, hX3⟩ := TX.out.open
  obtain ⟨sY3, aY3, mY3, kY3, ⟨cY30, cY31⟩, hY3⟩ := TY.out.open
  go_wp2_with fail
  generalize w2.alloc (.cells #[.bool b2, .slice p2 n2 q2] 33) = W2 at *
  generalize w2.heap.size = t2 at *
  have C3 := wGcd_any _ _ zA zB W2 hX3 hY3 (Lo.small HZA.out (by decide)).words (Lo.small HZB.out (by decide)).words
  unfold IEnd at C3
  have HC3 := Lib.hid C3
  clear C3
  clear cX30 cX31 hX3
  clear cY30 cY31 hY3
  go_must (refine HC3.out.mono ?_)
  rintro e w3 ⟨b3, p3, n3, q3, rfl, hx3, hb3⟩
  have hbb := below_then hb3 (below_one w3 (.cells #[.bool b3, .slice p3 n3 q3] 33))
  have U := Lib.hid (TC.out.below hbb)
  clear TC
  have TC := U
  clear U
  have U := Lib.hid (TA.out.below hbb)
  clear TA
  have TA := U
  clear U
  have U := Lib.hid (TB.out.below hbb)
  clear TB
  have TB := U
  clear U
  have U := Lib.hid (TX.out.below hbb)
  clear TX
  have TX := U
  clear U
  have U := Lib.hid (TY.out.below hbb)
  clear TY
  have TY := U
  clear U
  have U := Lib.hid (row_keeps HL.out hbb)
  clear HL
  have HL := U
  clear U
  have U := Lib.hid (below_then HB.out hbb)
  clear HB
  have HB := U
  clear U
  have TG := Lib.hid (IBox.new hx3)
  clear HC3 hb3 hbb hx3
  go_wp2_with fail
  generalize w3.alloc (.cells #[.bool b3, .slice p3 n3 q3] 33) = W3 at *
  generalize w3.heap.size = t3 at *
  obtain ⟨sGE, aGE, mGE, kGE, lGE, hGE⟩ := TG.out
  have GG := Lib.hid hGE
  have LG := Lib.hid lGE
  clear hGE lGE
  obtain ⟨sAE, aAE, mAE, kAE, lAE, hAE⟩ := TA.out
  have GA := Lib.hid hAE
  have LA := Lib.hid lAE
  clear hAE lAE
  obtain ⟨sBE, aBE, mBE, kBE, lBE, hBE⟩ := TB.out
  have GB := Lib.hid hBE
  have LB := Lib.hid lBE
  clear hBE lBE
  have CELLS : Hid (∀ X : World, Below W3.heap.size W3 X → X.cell? ⟨t3, 0, none⟩ = some (.bool sGE) ∧ X.cell? ⟨t3, 1, none⟩ = some (.slice aGE mGE kGE) ∧ X.cell? ⟨tA, 0, none⟩ = some (.bool sAE) ∧ X.cell? ⟨tA, 1, none⟩ = some (.slice aAE mAE kAE) ∧ X.cell? ⟨tB, 0, none⟩ = some (.bool sBE) ∧ X.cell? ⟨tB, 1, none⟩ = some (.slice aBE mBE kBE)) := Lib.hid (fun X h => by
    obtain ⟨eG0, eG1, _, _⟩ := cells2 (LG.out.below h)
    obtain ⟨eA0, eA1, _, _⟩ := cells2 (LA.out.below h)
    obtain ⟨eB0, eB1, _, _⟩ := cells2 (LB.out.below h)
    exact ⟨eG0, eG1, eA0, eA1, eB0, eB1⟩)
  have HW0 := HB
  clear HB
  have HB : Hid (Below W3.heap.size W3 W3.drew) := Lib.hid (Below.refl _ _).drew
  have BG : Hid (Lo (240 + 240 + 1) ((Int.gcd zA zB : Nat) : Int)) := Lib.hid (gcd_lo HZA.out HZB.out)
  have GCD : Hid (∀ w', Below W3.heap.size W3 w' → Calls Tryd.prog 42 #[(.agg #[.bool sAE, .slice aAE mAE kAE]), (.agg #[.bool sBE, .slice aBE mBE kBE])] w' (NEnd ((Int.gcd zA zB : Nat) : Int) w')) := Lib.hid (fun w' h => nGcd_any _ _ zA zB w' (nat_keeps GA.out h) (nat_keeps GB.out h) (by have := ((Lo.small HZA.out (by decide))).digs; omega) (by have := ((Lo.small HZB.out (by decide))).digs; omega))
  unfold NEnd at GCD
  go_region_held3 (fun X : World => X.cell? ⟨t3, 0, none⟩ = some (.bool sGE) ∧ X.cell? ⟨t3, 1, none⟩ = some (.slice aGE mGE kGE) ∧ X.cell? ⟨tA, 0, none⟩ = some (.bool sAE) ∧ X.cell? ⟨tA, 1, none⟩ = some (.slice aAE mAE kAE) ∧ X.cell? ⟨tB, 0, none⟩ = some (.bool sBE) ∧ X.cell? ⟨tB, 1, none⟩ = some (.slice aBE mBE kBE)) (first | exact CELLS.out _ HB.out) (first
    | (go_at_call 42; refine (GCD.out _ HB.out).mono ?_; rintro e w9 ⟨y9, rfl, hy9, hb9⟩; have UB := Lib.hid (below_then HB.out hb9); have EQ := Lib.hid (same_mk (iat_keeps GG.out UB.out) hy9 (Lo.small BG.out (by decide))); clear hy9 hb9 HB; have HB := UB; clear UB)
    | (go_at_call 18; refine (equal_any _ _ _ EQ.out).mono ?_; rintro e w9 ⟨rfl, hb9⟩; have UB := Lib.hid (below_then HB.out hb9); clear hb9 HB; have HB := UB; clear UB))
  have GGK := Lib.hid (iat_keeps GG.out HB.out)
  clear GCD EQ
  have hbb := HB.out
  clear HB CELLS GG LG GA LA GB LB
  have U := Lib.hid (TC.out.below hbb)
  clear TC
  have TC := U
  clear U
  have U := Lib.hid (TA.out.below hbb)
  clear TA
  have TA := U
  clear U
  have U := Lib.hid (TB.out.below hbb)
  clear TB
  have TB := U
  clear U
  have U := Lib.hid (TX.out.below hbb)
  clear TX
  have TX := U
  clear U
  have U := Lib.hid (TY.out.below hbb)
  clear TY
  have TY := U
  clear U
  have U := Lib.hid (TG.out.below hbb)
  clear TG
  have TG := U
  clear U
  have U := Lib.hid (row_keeps HL.out hbb)
  clear HL
  have HL := U
  clear U
  have HB := Lib.hid (below_then HW0.out hbb)
  clear HW0 hbb
  go_wp2_with fail
  rcases Classical.em (((Int.gcd zA zB : Nat) : Int) = 0) with h0 | h0
  · have HG0 := Lib.hid h0
    clear h0
    have CP := wSign_any _ (((Int.gcd zA zB : Nat) : Int)) w9 GGK.out (Lo.small BG.out (by decide)).words
    rw [show cmpZ ((Int.gcd zA zB : Nat) : Int) 0 = 0 by rw [HG0.out]; rfl] at CP
    unfold CmpEnd at CP
    have HCP := Lib.hid CP
    clear CP
    go_must (refine HCP.out.mono ?_)
    rintro e w20 ⟨rfl, hbe⟩
    have U := Lib.hid (TA.out.below hbe)
    clear TA
    have TA := U
    clear U
    have U := Lib.hid (TB.out.below hbe)
    clear TB
    have TB := U
    clear U
    have U := Lib.hid (below_then HB.out hbe)
    clear HB HCP hbe
    have HB := U
    clear U
    obtain ⟨sAZ, aAZ, mAZ, kAZ, ⟨cAZ0, cAZ1⟩, _, hAZ, _⟩ := TA.out.open
    obtain ⟨sBZ, aBZ, mBZ, kBZ, ⟨cBZ0, cBZ1⟩, _, hBZ, _⟩ := TB.out.open
    obtain rfl : mAZ = 0 := zero_len hAZ (gcd_zero_l HG0.out)
    obtain rfl : mBZ = 0 := zero_len hBZ (gcd_zero_r HG0.out)
    clear hAZ hBZ
    go_wp2_with fail
    have LV := lives_any w20
    unfold TrueEnd at LV
    have HLV := Lib.hid LV
    clear LV
    go_must (refine HLV.out.mono ?_)
    rintro e w96 ⟨rfl, hbe⟩
    have HE := Lib.hid (below_then HB.out hbe)
    clear hbe HLV
    go_wp2_with fail
    go_ret
    exact ⟨rfl, HE.out⟩
  · have HG0 := Lib.hid h0
    clear h0
    have HQ := div_parts HG0.out HZA.out HZB.out (Nat.le_succ _)
    have BQ := Lib.hid HQ.1
    have BS := Lib.hid HQ.2.1
    have HRA := Lib.hid HQ.2.2.1
    have HRB := Lib.hid HQ.2.2.2.1
    have HONE := Lib.hid HQ.2.2.2.2
    clear HQ
    have CP := wSign_any _ (((Int.gcd zA zB : Nat) : Int)) w9 GGK.out (Lo.small BG.out (by decide)).words
    rw [show cmpZ ((Int.gcd zA zB : Nat) : Int) 0 = 1 by have := HG0.out; unfold cmpZ; rw [if_neg (by omega), if_pos (by omega)]] at CP
    unfold CmpEnd at CP
    have HCP := Lib.hid CP
    clear CP
    go_must (refine HCP.out.mono ?_)
    rintro e w20 ⟨rfl, hbe⟩
    have U := Lib.hid (TA.out.below hbe)
    clear TA
    have TA := U
    clear U
    have U := Lib.hid (TB.out.below hbe)
    clear TB
    have TB := U
    clear U
    have U := Lib.hid (TC.out.below hbe)
    clear TC
    have TC := U
    clear U
    have U := Lib.hid (TX.out.below hbe)
    clear TX
    have TX := U
    clear U
    have U := Lib.hid (TY.out.below hbe)
    clear TY
    have TY := U
    clear U
    have U := Lib.hid (TG.out.below hbe)
    clear TG
    have TG := U
    clear U
    have U := Lib.hid (below_then HB.out hbe)
    clear HB HCP hbe
    have HB := U
    clear U
    have U := Lib.hid HL.out
    clear GGK
    obtain ⟨sX4, aX4, mX4, kX4, ⟨cX40, cX41⟩, hX4⟩ := TX.out.open
    obtain ⟨sG4, aG4, mG4, kG4, ⟨cG40, cG41⟩, hG4⟩ := TG.out.open
    go_wp2_with fail
    have C4 := wDiv_any _ _ _ _ w20 hX4 hG4 (Lo.small HZA.out (by decide)).words (Lo.small BG.out (by decide)).words HG0.out
    unfold DivEndW at C4
    have HC4 := Lib.hid C4
    clear C4
    clear cX40 cX41 hX4
    clear cG40 cG41 hG4
    go_must (refine HC4.out.mono ?_)
    rintro e w4 ⟨b4q, p4q, n4q, q4q, b4r, p4r, n4r, q4r, rfl, hx4q, hx4r, hb4⟩
    obtain ⟨p1, p2, p3⟩ := ibox_two hx4q hx4r
    have hbb := below_then hb4 p3
    have U := Lib.hid (TC.out.below hbb)
    clear TC
    have TC := U
    clear U
    have U := Lib.hid (TA.out.below hbb)
    clear TA
    have TA := U
    clear U
    have U := Lib.hid (TB.out.below hbb)
    clear TB
    have TB := U
    clear U
    have U := Lib.hid (TX.out.below hbb)
    clear TX
    have TX := U
    clear U
    have U := Lib.hid (TY.out.below hbb)
    clear TY
    have TY := U
    clear U
    have U := Lib.hid (TG.out.below hbb)
    clear TG
    have TG := U
    clear U
    have U := Lib.hid (below_then HB.out hbb)
    clear HB
    have HB := U
    clear U
    have TQ := Lib.hid (p1)
    have TR := Lib.hid (p2)
    clear HC4 hb4 hbb hx4q hx4r p1 p2 p3
    obtain ⟨sY5, aY5, mY5, kY5, ⟨cY50, cY51⟩, hY5⟩ := TY.out.open
    obtain ⟨sG5, aG5, mG5, kG5, ⟨cG50, cG51⟩, hG5⟩ := TG.out.open
    go_wp2_with fail
    generalize (w4.alloc (.cells #[.bool b4q, .slice p4q n4q q4q] 33)).alloc (.cells #[.bool b4r, .slice p4r n4r q4r] 33) = W4 at *
    generalize w4.heap.size = t4 at *
    have C5 := wDiv_any _ _ _ _ W4 hY5 hG5 (Lo.small HZB.out (by decide)).words (Lo.small BG.out (by decide)).words HG0.out
    unfold DivEndW at C5
    have HC5 := Lib.hid C5
    clear C5
    clear cY50 cY51 hY5
    clear cG50 cG51 hG5
    go_must (refine HC5.out.mono ?_)
    rintro e w5 ⟨b5q, p5q, n5q, q5q, b5r, p5r, n5r, q5r, rfl, hx5q, hx5r, hb5⟩
    obtain ⟨p1, p2, p3⟩ := ibox_two hx5q hx5r
    have hbb := below_then hb5 p3
    have U := Lib.hid (TC.out.below hbb)
    clear TC
    have TC := U
    clear U
    have U := Lib.hid (TA.out.below hbb)
    clear TA
    have TA := U
    clear U
    have U := Lib.hid (TB.out.below hbb)
    clear TB
    have TB := U
    clear U
    have U := Lib.hid (TX.out.below hbb)
    clear TX
    have TX := U
    clear U
    have U := Lib.hid (TY.out.below hbb)
    clear TY
    have TY := U
    clear U
    have U := Lib.hid (TG.out.below hbb)
    clear TG
    have TG := U
    clear U
    have U := Lib.hid (TQ.out.below hbb)
    clear TQ
    have TQ := U
    clear U
    have U := Lib.hid (TR.out.below hbb)
    clear TR
    have TR := U
    clear U
    have U := Lib.hid (below_then HB.out hbb)
    clear HB
    have HB := U
    clear U
    have TS := Lib.hid (p1)
    have TV := Lib.hid (p2)
    clear HC5 hb5 hbb hx5q hx5r p1 p2 p3
    obtain ⟨sRE, aRE, mRE, kRE, ⟨cRE0, cRE1⟩, hRE⟩ := TR.out.open
    go_wp2_with fail
    generalize (w5.alloc (.cells #[.bool b5q, .slice p5q n5q q5q] 33)).alloc (.cells #[.bool b5r, .slice p5r n5r q5r] 33) = W5 at *
    generalize w5.heap.size = t5 at *
    have HCP := Lib.hid (wSign_any _ _ W5 hRE (small_zero HRA.out).words)
    rw [HRA.out, show cmpZ 0 0 = 0 from rfl] at HCP
    unfold CmpEnd at HCP
    clear cRE0 cRE1 hRE
    go_must (refine HCP.out.mono ?_)
    rintro e w30 ⟨rfl, hbe⟩
    have U := Lib.hid (TV.out.below hbe)
    clear TV
    have TV := U
    clear U
    have U := Lib.hid (TQ.out.below hbe)
    clear TQ
    have TQ := U
    clear U
    have U := Lib.hid (TS.out.below hbe)
    clear TS
    have TS := U
    clear U
    have U := Lib.hid (below_then HB.out hbe)
    clear HB HCP hbe
    have HB := U
    clear U
    obtain ⟨sVF, aVF, mVF, kVF, ⟨cVF0, cVF1⟩, hVF⟩ := TV.out.open
    go_wp2_with fail
    have HCP := Lib.hid (wSign_any _ _ w30 hVF (small_zero HRB.out).words)
    rw [HRB.out, show cmpZ 0 0 = 0 from rfl] at HCP
    unfold CmpEnd at HCP
    clear cVF0 cVF1 hVF
    go_must (refine HCP.out.mono ?_)
    rintro e w31 ⟨rfl, hbe⟩
    have U := Lib.hid (TQ.out.below hbe)
    clear TQ
    have TQ := U
    clear U
    have U := Lib.hid (TS.out.below hbe)
    clear TS
    have TS := U
    clear U
    have U := Lib.hid (below_then HB.out hbe)
    clear HB HCP hbe
    have HB := U
    clear U
    obtain ⟨sQH, aQH, mQH, kQH, ⟨cQH0, cQH1⟩, hQH⟩ := TQ.out.open
    obtain ⟨sSH, aSH, mSH, kSH, ⟨cSH0, cSH1⟩, hSH⟩ := TS.out.open
    go_wp2_with fail
    have HCP := Lib.hid (wGcd_any _ _ _ _ w31 hQH hSH (Lo.small BQ.out (by decide)).words (Lo.small BS.out (by decide)).words)
    rw [HONE.out] at HCP
    unfold IEnd at HCP
    clear cQH0 cQH1 hQH
    clear cSH0 cSH1 hSH
    go_must (refine HCP.out.mono ?_)
    rintro e w32 ⟨b32, a32, m32, k32, rfl, hx32, hbe⟩
    have HX := Lib.hid hx32
    clear hx32
    have U := Lib.hid (below_then HB.out hbe)
    clear HB HCP hbe
    have HB := U
    clear U
    go_wp2_with fail
    have HCP := Lib.hid (wFrom_any 1 w32 (by decide))
    unfold IEnd at HCP
    go_must (refine HCP.out.mono ?_)
    rintro e w33 ⟨b33, a33, m33, k33, rfl, hx33, hbe⟩
    have HX1 := Lib.hid (iat_keeps HX.out hbe)
    have HX2 := Lib.hid hx33
    clear HX hx33
    have U := Lib.hid (below_then HB.out hbe)
    clear HB HCP hbe
    have HB := U
    clear U
    go_wp2_with fail
    have HCP := Lib.hid (wCompare_any _ _ ((1 : Nat) : Int) 1 w33 HX1.out HX2.out (small_one rfl).words (small_one rfl).words)
    rw [show cmpZ ((1 : Nat) : Int) 1 = 0 from rfl] at HCP
    unfold CmpEnd at HCP
    clear HX1 HX2
    go_must (refine HCP.out.mono ?_)
    rintro e w34 ⟨rfl, hbe⟩
    have U := Lib.hid (below_then HB.out hbe)
    clear HB HCP hbe
    have HB := U
    clear U
    go_wp2_with fail
    have LV := lives_any w34
    unfold TrueEnd at LV
    have HLV := Lib.hid LV
    clear LV
    go_must (refine HLV.out.mono ?_)
    rintro e w96 ⟨rfl, hbe⟩
    have HE := Lib.hid (below_then HB.out hbe)
    clear hbe HLV
    go_wp2_with fail
    go_ret
    exact ⟨rfl, HE.out⟩
end Go.Proofs.YtikafidfembmhaaDoor
