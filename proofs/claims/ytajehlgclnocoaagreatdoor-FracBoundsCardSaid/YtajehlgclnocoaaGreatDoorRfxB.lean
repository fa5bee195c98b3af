/-
 The reference of package frac: Neg, ranged, Mul, Div, Compare, Sign, Text; same of the laws.
-/
import Derived.Test.YtajehlgclnocoaaGreatDoorLfaB
import Derived.Test.YtajehlgclnocoaaGreatDoorRgRB
import Derived.Test.YtajehlgclnocoaaGreatDoorFcCB
import Derived.Test.YtajehlgclnocoaaGreatDoorNfiB
namespace Go.Proofs.YtajehlgclnocoaaGreatDoor
open Go.RowKit Go.Shelf
set_option linter.unusedVariables false
set_option maxRecDepth 100000
set_option maxHeartbeats 8000000 in
theorem rNeg_any (x : Value) (p q : Int) (w : World) (hx : RFAt w x p q) (hp : (digs p.natAbs).length ≤ 1000000) :
  Calls Tryz.prog 17 #[x] w (RFEnd (-p) q w) := by
 obtain ⟨s0, t0, a0, b0, m0, i0, c0, j0, w2, rfl, hw2, z2, hb2, hl0, hn0, hd0⟩ := one_rf w hx
 obtain ⟨w3, hw3⟩ : ∃ w3, w3 = w2.alloc (.cells #[.bool false, .slice none 0 0, .bool false, .slice none 0 0] 26) := ⟨_, rfl⟩
 have k3 : Below w2.heap.size w2 w3 := by rw [hw3]; exact below_one _ _
 have hl2 : Laid w3 (w.heap.size + 1) 26 [.bool false, .slice none 0 0, .bool false, .slice none 0 0] := by rw [hw3, ← z2]; exact Laid.new _ _ _
 have HL2 := Lib.hid hl2
 have HZ3 := Lib.hid (show w.heap.size + 1 < w3.heap.size from hl2.lt)
 have HL0 := Lib.hid (hl0.below k3)
 have HN0 := Lib.hid (nat_keeps hn0 k3)
 have HD0 := Lib.hid (nat_keeps hd0 k3)
 have HB3 := Lib.hid (below_then hb2 k3)
 rw [hw2] at hw3
 clear hx hw2 z2 hb2 hl0 hn0 hd0 k3 hl2
 have CELLS : Hid (∀ X : World, Below w3.heap.size w3 X → X.cell? ⟨w.heap.size, 0, none⟩ = some (.bool s0) ∧ X.cell? ⟨w.heap.size, 1, none⟩ = some (.slice a0 m0 c0) ∧ X.cell? ⟨w.heap.size, 2, none⟩ = some (.bool t0) ∧ X.cell? ⟨w.heap.size, 3, none⟩ = some (.slice b0 i0 j0)) := Lib.hid (fun X h => by
  obtain ⟨⟨e0, e1, e2, e3⟩, _⟩ := cellsF (HL0.out.below h)
  exact ⟨e0, e1, e2, e3⟩)
 have HR : Hid (∀ X : World, Below w3.heap.size w3 X → Laid X (w.heap.size + 1) 26 [.bool false, .slice none 0 0, .bool false, .slice none 0 0]) := Lib.hid (fun X h => HL2.out.below h)
 have ID : Hid (∀ X, Below w3.heap.size w3 X → NAt X (.agg #[.bool t0, .slice b0 i0 j0]) q) := Lib.hid (fun X h => nat_keeps HD0.out h)
 have C5 : Hid (∀ X, Below w3.heap.size w3 X → Calls Tryz.prog 34 #[.agg #[.bool s0, .slice a0 m0 c0]] X (VEnd (KN (-p)) X)) := Lib.hid (fun X h => (neg_any _ p X (nat_keeps HN0.out h) hp).mono (fun _ _ => v_n))
 clear hp
 go_enter Tryz.func17, Tryz.ntmps17
 go_wp2_with fail
 rw [← hw3]
 clear hw3
 refine regRNe (fun _ _ d _ _ h => by cases d <;> exact h) CELLS HR ID C5 ?_
 intro X x5 sv tv av dv mv iv cv jv hB hK
 clear CELLS HR ID C5
 obtain ⟨⟨r0, r1, r2, r3⟩, r4, r5, r6, r7⟩ := cellsF (HL2.out.below hB.out)
 have HE := Lib.hid (below_set4 (p := w.heap.size + 1) (u0 := .bool sv) (u1 := .slice av mv cv) (u2 := .bool tv) (u3 := .slice dv iv jv) (below_then HB3.out hB.out) (by omega))
 have HFE := Lib.hid (rf_store (rf_parts hK.out).1 (rf_parts hK.out).2 (HL2.out.below hB.out))
 go_wp2_with fail
 refine bodyPost_ret (v := .agg #[.bool sv, .slice av mv cv, .bool tv, .slice dv iv jv]) (by simp [results, Tryz.results17, go_sem, r0, r1, r2, r3]) rfl ?_
 exact ⟨_, rfl, HFE.out, HE.out⟩
noncomputable def rRange (k p q : Int) : Int × Int × Int := if k = 0 then rIf (big p ∨ big q) p q else (k, 0, 1)
open Classical in
theorem fit_bit (z : Int) : ∃ r : Bool, ((r = true ∧ ¬ big z) ∨ (r = false ∧ big z)) := by
 rcases Classical.em (big z) with h | h
 ·exact ⟨false, .inr ⟨rfl, h⟩⟩
 ·exact ⟨true, .inl ⟨rfl, h⟩⟩
set_option maxHeartbeats 8000000 in
theorem ranged_any (x : Value) (p q k : Int) (w : World) (hx : RFAt w x p q) (hp : (digs p.natAbs).length ≤ 500000) (hq : (digs q.natAbs).length ≤ 500000) :
  Calls Tryz.prog 109 #[x, .int .i64 k] w (RREnd (rRange k p q) w) := by
 obtain ⟨s0, t0, a0, b0, m0, i0, c0, j0, w2, rfl, hw2, z2, hb2, hl0, hn0, hd0⟩ := one_rf w hx
 obtain ⟨w3, hw3⟩ : ∃ w3, w3 = w2.alloc (.cells #[.bool false, .slice none 0 0, .bool false, .slice none 0 0] 26) := ⟨_, rfl⟩
 have k3 : Below w2.heap.size w2 w3 := by rw [hw3]; exact below_one _ _
 have hl2 : Laid w3 (w.heap.size + 1) 26 [.bool false, .slice none 0 0, .bool false, .slice none 0 0] := by rw [hw3, ← z2]; exact Laid.new _ _ _
 have HL2 := Lib.hid hl2
 have HZ3 := Lib.hid (show w.heap.size + 1 < w3.heap.size from hl2.lt)
 have HL0 := Lib.hid (hl0.below k3)
 have HN0 := Lib.hid (nat_keeps hn0 k3)
 have HD0 := Lib.hid (nat_keeps hd0 k3)
 have HB3 := Lib.hid (below_then hb2 k3)
 rw [hw2] at hw3
 clear hx hw2 z2 hb2 hl0 hn0 hd0 k3 hl2
 obtain ⟨u, hu⟩ := fit_bit p
 obtain ⟨v, hv⟩ := fit_bit q
 have FP : Hid (∀ X, Below w3.heap.size w3 X → Calls Tryz.prog 106 #[.agg #[.bool s0, .slice a0 m0 c0]] X fun e w' => e = .returned (.bool u) ∧ Below X.heap.size X w') := Lib.hid (fun X h => fits_bool _ p u X (nat_keeps HN0.out h) hp hu)
 have FQ : Hid (∀ X, Below w3.heap.size w3 X → Calls Tryz.prog 106 #[.agg #[.bool t0, .slice b0 i0 j0]] X fun e w' => e = .returned (.bool v) ∧ Below X.heap.size X w') := Lib.hid (fun X h => fits_bool _ q v X (nat_keeps HD0.out h) hq hv)
 have OF : Hid (∀ X, Calls Tryz.prog 18 #[.int .i64 0] X (RFEnd 0 1 X)) := Lib.hid (fun X => rOf_any 0 X (by decide))
 unfold RFEnd at OF
 have HU := Lib.hid hu
 have HV := Lib.hid hv
 have HF := Lib.hid (rf_of HN0.out HD0.out)
 obtain ⟨⟨e0, e1, e2, e3⟩, _⟩ := cellsF HL0.out
 clear hu hv hp hq
 unfold RREnd
 rcases Classical.em (k = 0) with hk | hk
 ·subst hk
  obtain ⟨z, hz, hzz⟩ : ∃ z : Bool, z = (u && v) ∧ ((z = true ∧ ¬ (big p ∨ big q)) ∨ (z = false ∧ (big p ∨ big q))) := by
   rcases HU.out with ⟨rfl, h1⟩ | ⟨rfl, h1⟩ <;> rcases HV.out with ⟨rfl, h2⟩ | ⟨rfl, h2⟩
   ·exact ⟨true, rfl, .inl ⟨rfl, fun h => h.elim h1 h2⟩⟩
   ·exact ⟨false, rfl, .inr ⟨rfl, .inr h2⟩⟩
   ·exact ⟨false, rfl, .inr ⟨rfl, .inl h1⟩⟩
   ·exact ⟨false, rfl, .inr ⟨rfl, .inl h1⟩⟩
  have RG : Hid (∀ b : Bool, z = b → rRange 0 p q = if b = true then (0, p, q) else (4, 0, 1)) := Lib.hid (fun b hb => by
   unfold rRange rIf
   rw [if_pos rfl]
   rcases hzz with ⟨h1, h2⟩ | ⟨h1, h2⟩
   ·rw [if_neg h2, ← hb, if_pos h1]
   ·rw [if_pos h2, ← hb, if_neg (by rw [h1]; decide)])
  clear hzz HU HV
  have ALL : ∀ u' v' : Bool, u' = u → v' = v → Calls Tryz.prog 109 #[.agg #[.bool s0, .slice a0 m0 c0, .bool t0, .slice b0 i0 j0], .int .i64 0] w (VEnd (KTR (rRange 0 p q)) w) := by
   intro u' v' hu hv
   subst hu hv hz
   rcases u' with _ | _ <;> rcases v' with _ | _
   ·rw [RG.out _ rfl]
    rw [if_neg (by decide)]
    go_enter Tryz.func109, Tryz.ntmps109
    go_wp2_with fail
    rw [← hw3]
    clear hw3
    go_must (refine (FP.out _ (Below.refl _ _)).mono ?_)
    rintro e w4 ⟨rfl, hb4⟩
    have B4 := Lib.hid hb4
    clear FP hb4 e0 e1 e2 e3
    obtain ⟨⟨e0, e1, e2, e3⟩, _⟩ := cellsF (HL0.out.below B4.out)
    go_wp2_with fail
    go_must (refine (FQ.out _ B4.out).mono ?_)
    rintro e w5 ⟨rfl, hb5⟩
    have B5 := Lib.hid (below_then B4.out hb5)
    clear FQ hb5 e0 e1 e2 e3 B4
    obtain ⟨⟨e0, e1, e2, e3⟩, _⟩ := cellsF (HL0.out.below B5.out)
    go_wp2_with fail
    go_must (refine (OF.out _).mono ?_)
    rintro e w6 ⟨v6, rfl, hx6, hb6⟩
    obtain ⟨sv, tv, av, dv, mv, iv, cv, jv, rfl⟩ := rf_shape hx6
    have hB := Lib.hid (below_then B5.out hb6)
    have hK := Lib.hid hx6
    clear OF hb6 hx6 e0 e1 e2 e3
    obtain ⟨⟨r0, r1, r2, r3⟩, r4, r5, r6, r7⟩ := cellsF (HL2.out.below hB.out)
    have HE := Lib.hid (below_set4 (p := w.heap.size + 1) (u0 := .bool sv) (u1 := .slice av mv cv) (u2 := .bool tv) (u3 := .slice dv iv jv) (below_then HB3.out hB.out) (by omega))
    have HFE := Lib.hid (rf_store (rf_parts hK.out).1 (rf_parts hK.out).2 (HL2.out.below hB.out))
    go_wp2_with fail
    refine bodyPost_ret (v := .tuple #[.agg #[.bool sv, .slice av mv cv, .bool tv, .slice dv iv jv], .int .i64 4]) (by simp [results, Tryz.results109, go_sem, r0, r1, r2, r3]) rfl ?_
    exact ⟨_, rfl, ⟨_, rfl, HFE.out⟩, HE.out⟩
   ·rw [RG.out _ rfl]
    rw [if_neg (by decide)]
    go_enter Tryz.func109, Tryz.ntmps109
    go_wp2_with fail
    rw [← hw3]
    clear hw3
    go_must (refine (FP.out _ (Below.refl _ _)).mono ?_)
    rintro e w4 ⟨rfl, hb4⟩
    have B4 := Lib.hid hb4
    clear FP hb4 e0 e1 e2 e3
    obtain ⟨⟨e0, e1, e2, e3⟩, _⟩ := cellsF (HL0.out.below B4.out)
    go_wp2_with fail
    go_must (refine (FQ.out _ B4.out).mono ?_)
    rintro e w5 ⟨rfl, hb5⟩
    have B5 := Lib.hid (below_then B4.out hb5)
    clear FQ hb5 e0 e1 e2 e3 B4
    obtain ⟨⟨e0, e1, e2, e3⟩, _⟩ := cellsF (HL0.out.below B5.out)
    go_wp2_with fail
    go_must (refine (OF.out _).mono ?_)
    rintro e w6 ⟨v6, rfl, hx6, hb6⟩
    obtain ⟨sv, tv, av, dv, mv, iv, cv, jv, rfl⟩ := rf_shape hx6
    have hB := Lib.hid (below_then B5.out hb6)
    have hK := Lib.hid hx6
    clear OF hb6 hx6 e0 e1 e2 e3
    obtain ⟨⟨r0, r1, r2, r3⟩, r4, r5, r6, r7⟩ := cellsF (HL2.out.below hB.out)
    have HE := Lib.hid (below_set4 (p := w.heap.size + 1) (u0 := .bool sv) (u1 := .slice av mv cv) (u2 := .bool tv) (u3 := .slice dv iv jv) (below_then HB3.out hB.out) (by omega))
    have HFE := Lib.hid (rf_store (rf_parts hK.out).1 (rf_parts hK.out).2 (HL2.out.below hB.out))
    go_wp2_with fail
    refine bodyPost_ret (v := .tuple #[.agg #[.bool sv, .slice av mv cv, .bool tv, .slice dv iv jv], .int .i64 4]) (by simp [results, Tryz.results109, go_sem, r0, r1, r2, r3]) rfl ?_
    exact ⟨_, rfl, ⟨_, rfl, HFE.out⟩, HE.out⟩
   ·rw [RG.out _ rfl]
    rw [if_neg (by decide)]
    go_enter Tryz.func109, Tryz.ntmps109
    go_wp2_with fail
    rw [← hw3]
    clear hw3
    go_must (refine (FP.out _ (Below.refl _ _)).mono ?_)
    rintro e w4 ⟨rfl, hb4⟩
    have B4 := Lib.hid hb4
    clear FP hb4 e0 e1 e2 e3
    obtain ⟨⟨e0, e1, e2, e3⟩, _⟩ := cellsF (HL0.out.below B4.out)
    go_wp2_with fail
    go_must (refine (FQ.out _ B4.out).mono ?_)
    rintro e w5 ⟨rfl, hb5⟩
    have B5 := Lib.hid (below_then B4.out hb5)
    clear FQ hb5 e0 e1 e2 e3 B4
    obtain ⟨⟨e0, e1, e2, e3⟩, _⟩ := cellsF (HL0.out.below B5.out)
    go_wp2_with fail
    go_must (refine (OF.out _).mono ?_)
    rintro e w6 ⟨v6, rfl, hx6, hb6⟩
    obtain ⟨sv, tv, av, dv, mv, iv, cv, jv, rfl⟩ := rf_shape hx6
    have hB := Lib.hid (below_then B5.out hb6)
    have hK := Lib.hid hx6
    clear OF hb6 hx6 e0 e1 e2 e3
    obtain ⟨⟨r0, r1, r2, r3⟩, r4, r5, r6, r7⟩ := cellsF (HL2.out.below hB.out)
    have HE := Lib.hid (below_set4 (p := w.heap.size + 1) (u0 := .bool sv) (u1 := .slice av mv cv) (u2 := .bool tv) (u3 := .slice dv iv jv) (below_then HB3.out hB.out) (by omega))
    have HFE := Lib.hid (rf_store (rf_parts hK.out).1 (rf_parts hK.out).2 (HL2.out.below hB.out))
    go_wp2_with fail
    refine bodyPost_ret (v := .tuple #[.agg #[.bool sv, .slice av mv cv, .bool tv, .slice dv iv jv], .int .i64 4]) (by simp [results, Tryz.results109, go_sem, r0, r1, r2, r3]) rfl ?_
    exact ⟨_, rfl, ⟨_, rfl, HFE.out⟩, HE.out⟩
   ·rw [RG.out _ rfl]
    rw [if_pos (by decide)]
    go_enter Tryz.func109, Tryz.ntmps109
    go_wp2_with fail
    rw [← hw3]
    clear hw3
    go_must (refine (FP.out _ (Below.refl _ _)).mono ?_)
    rintro e w4 ⟨rfl, hb4⟩
    have B4 := Lib.hid hb4
    clear FP hb4 e0 e1 e2 e3
    obtain ⟨⟨e0, e1, e2, e3⟩, _⟩ := cellsF (HL0.out.below B4.out)
    go_wp2_with fail
    go_must (refine (FQ.out _ B4.out).mono ?_)
    rintro e w5 ⟨rfl, hb5⟩
    have B5 := Lib.hid (below_then B4.out hb5)
    clear FQ hb5 e0 e1 e2 e3 B4
    obtain ⟨⟨e0, e1, e2, e3⟩, _⟩ := cellsF (HL0.out.below B5.out)
    have hB := B5
    have hK := Lib.hid (rf_keeps HF.out B5.out)
    obtain ⟨⟨r0, r1, r2, r3⟩, r4, r5, r6, r7⟩ := cellsF (HL2.out.below hB.out)
    have HE := Lib.hid (below_set4 (p := w.heap.size + 1) (u0 := .bool s0) (u1 := .slice a0 m0 c0) (u2 := .bool t0) (u3 := .slice b0 i0 j0) (below_then HB3.out hB.out) (by omega))
    have HFE := Lib.hid (rf_store (rf_parts hK.out).1 (rf_parts hK.out).2 (HL2.out.below hB.out))
    go_wp2_with fail
    refine bodyPost_ret (v := .tuple #[.agg #[.bool s0, .slice a0 m0 c0, .bool t0, .slice b0 i0 j0], .int .i64 0]) (by simp [results, Tryz.results109, go_sem, r0, r1, r2, r3]) rfl ?_
    exact ⟨_, rfl, ⟨_, rfl, HFE.out⟩, HE.out⟩
  exact ALL u v rfl rfl
 ·have RG : Hid (rRange k p q = (k, 0, 1)) := Lib.hid (by unfold rRange; rw [if_neg hk])
  clear HU HV
  rw [RG.out]
  go_enter Tryz.func109, Tryz.ntmps109
  go_wp2_with fail
  rw [← hw3]
  clear hw3
  go_must (refine (FP.out _ (Below.refl _ _)).mono ?_)
  rintro e w4 ⟨rfl, hb4⟩
  have B4 := Lib.hid hb4
  clear FP hb4 e0 e1 e2 e3
  obtain ⟨⟨e0, e1, e2, e3⟩, _⟩ := cellsF (HL0.out.below B4.out)
  go_wp2_with fail
  go_must (refine (FQ.out _ B4.out).mono ?_)
  rintro e w5 ⟨rfl, hb5⟩
  have B5 := Lib.hid (below_then B4.out hb5)
  clear FQ hb5 e0 e1 e2 e3 B4
  obtain ⟨⟨e0, e1, e2, e3⟩, _⟩ := cellsF (HL0.out.below B5.out)
  go_wp2_with fail
  go_must (refine (OF.out _).mono ?_)
  rintro e w6 ⟨v6, rfl, hx6, hb6⟩
  obtain ⟨sv, tv, av, dv, mv, iv, cv, jv, rfl⟩ := rf_shape hx6
  have hB := Lib.hid (below_then B5.out hb6)
  have hK := Lib.hid hx6
  clear OF hb6 hx6 e0 e1 e2 e3
  obtain ⟨⟨r0, r1, r2, r3⟩, r4, r5, r6, r7⟩ := cellsF (HL2.out.below hB.out)
  have HE := Lib.hid (below_set4 (p := w.heap.size + 1) (u0 := .bool sv) (u1 := .slice av mv cv) (u2 := .bool tv) (u3 := .slice dv iv jv) (below_then HB3.out hB.out) (by omega))
  have HFE := Lib.hid (rf_store (rf_parts hK.out).1 (rf_parts hK.out).2 (HL2.out.below hB.out))
  go_wp2_with fail
  refine bodyPost_ret (v := .tuple #[.agg #[.bool sv, .slice av mv cv, .bool tv, .slice dv iv jv], .int .i64 k]) (by simp [results, Tryz.results109, go_sem, r0, r1, r2, r3]) rfl ?_
  exact ⟨_, rfl, ⟨_, rfl, HFE.out⟩, HE.out⟩
theorem rmake_len {p q : Int} {k : Nat} (hk : 1 ≤ k) (hp : (digs p.natAbs).length ≤ k) (hq : (digs q.natAbs).length ≤ k) : (digs (rMake p q).2.1.natAbs).length ≤ k ∧ (digs (rMake p q).2.2.natAbs).length ≤ k := by
 have h1 : (digs (1 : Int).natAbs).length ≤ k := Nat.le_trans (digs_len_le (k := 1) (by decide)) hk
 unfold rMake
 split
 ·exact ⟨by rw [show (0 : Int).natAbs = 0 from rfl, digs_zero]; exact Nat.zero_le _, h1⟩
 ·exact ⟨dg_le (Int.natAbs_ediv_le_natAbs _ _) hp, dg_le (Int.natAbs_ediv_le_natAbs _ _) hq⟩
theorem range_mul {p q r s : Int} (h : q * s ≠ 0) : rRange (rMake (p * r) (q * s)).1 (rMake (p * r) (q * s)).2.1 (rMake (p * r) (q * s)).2.2 = rMul p q r s := by
 unfold rMake rRange rMul
 rw [if_neg h, if_pos rfl]
theorem range_div {p q r s : Int} (hq : q ≠ 0) : rRange (rMake (p * s) (q * r)).1 (rMake (p * s) (q * r)).2.1 (rMake (p * s) (q * r)).2.2 = rDiv p q r s := by
 unfold rDiv
 rcases Classical.em (r = 0) with h | h
 ·subst h
  rw [if_pos rfl]
  unfold rMake rRange
  rw [Int.mul_zero, if_pos rfl, if_neg (by decide)]
 ·rw [if_neg h]
  exact range_mul (Int.mul_ne_zero hq h)
set_option maxHeartbeats 8000000 in
theorem rMul_ref (x y : Value) (p q r s : Int) (w : World) (hx : RFAt w x p q) (hy : RFAt w y r s) (f1 : RFine p q) (f2 : RFine r s) :
  Calls Tryz.prog 25 #[x, y] w (RREnd (rMul p q r s) w) := by
 obtain ⟨s0, t0, a0, b0, m0, i0, c0, j0, s1, t1, a1, b1, m1, i1, c1, j1, w2, rfl, rfl, hw2, z2, hb2, hl0, hl1, hn0, hn1, hd0, hd1⟩ := two_rf w hx hy
 obtain ⟨w3, hw3⟩ : ∃ w3, w3 = w2.alloc (.cells #[.bool false, .slice none 0 0, .bool false, .slice none 0 0] 26) := ⟨_, rfl⟩
 have k3 : Below w2.heap.size w2 w3 := by rw [hw3]; exact below_one _ _
 have hl2 : Laid w3 (w.heap.size + 2) 26 [.bool false, .slice none 0 0, .bool false, .slice none 0 0] := by rw [hw3, ← z2]; exact Laid.new _ _ _
 have HL2 := Lib.hid hl2
 have HZ3 := Lib.hid (show w.heap.size + 2 < w3.heap.size from hl2.lt)
 have HL0 := Lib.hid (hl0.below k3)
 have HN0 := Lib.hid (nat_keeps hn0 k3)
 have HD0 := Lib.hid (nat_keeps hd0 k3)
 have HL1 := Lib.hid (hl1.below k3)
 have HN1 := Lib.hid (nat_keeps hn1 k3)
 have HD1 := Lib.hid (nat_keeps hd1 k3)
 have HB3 := Lib.hid (below_then hb2 k3)
 rw [hw2] at hw3
 clear hx hy hw2 z2 hb2 hl0 hn0 hd0 k3 hl1 hn1 hd1 hl2
 have CELLS : Hid (∀ X : World, Below w3.heap.size w3 X → X.cell? ⟨w.heap.size, 0, none⟩ = some (.bool s0) ∧ X.cell? ⟨w.heap.size, 1, none⟩ = some (.slice a0 m0 c0) ∧ X.cell? ⟨w.heap.size, 2, none⟩ = some (.bool t0) ∧ X.cell? ⟨w.heap.size, 3, none⟩ = some (.slice b0 i0 j0) ∧ X.cell? ⟨w.heap.size + 1, 0, none⟩ = some (.bool s1) ∧ X.cell? ⟨w.heap.size + 1, 1, none⟩ = some (.slice a1 m1 c1) ∧ X.cell? ⟨w.heap.size + 1, 2, none⟩ = some (.bool t1) ∧ X.cell? ⟨w.heap.size + 1, 3, none⟩ = some (.slice b1 i1 j1)) := Lib.hid (fun X h => by
  obtain ⟨⟨e0, e1, e2, e3⟩, _⟩ := cellsF (HL0.out.below h)
  obtain ⟨⟨e4, e5, e6, e7⟩, _⟩ := cellsF (HL1.out.below h)
  exact ⟨e0, e1, e2, e3, e4, e5, e6, e7⟩)
 have C13 : Hid (∀ X, Below w3.heap.size w3 X → Calls Tryz.prog 105 #[.agg #[.bool s0, .slice a0 m0 c0], .agg #[.bool s1, .slice a1 m1 c1]] X (VEnd (KN (p * r)) X)) := Lib.hid (fun X h => (mul_any _ _ _ _ X (nat_keeps HN0.out h) (nat_keeps HN1.out h) (by have := f1.len; omega) (by have := f2.len; omega)).mono (fun _ _ => v_n))
 have C18 : Hid (∀ X, Below w3.heap.size w3 X → Calls Tryz.prog 105 #[.agg #[.bool t0, .slice b0 i0 j0], .agg #[.bool t1, .slice b1 i1 j1]] X (VEnd (KN (q * s)) X)) := Lib.hid (fun X h => (mul_any _ _ _ _ X (nat_keeps HD0.out h) (nat_keeps HD1.out h) (by have := f1.wide; omega) (by have := f2.wide; omega)).mono (fun _ _ => v_n))
 have L13 := dg_mul f1.len f2.len
 have L18 := dg_mul f1.wide f2.wide
 have C19 : Hid (∀ X x13 x18, Below w3.heap.size w3 X → KN (p * r) X x13 → KN (q * s) X x18 → Calls Tryz.prog 38 #[x13, x18] X (VEnd (KTR (rMake (p * r) (q * s))) X)) := Lib.hid (fun X x13 x18 _ h1 h2 => rMake_any _ _ _ _ X h1 h2 (by omega) (by omega))
 have LR := Lib.hid (rmake_len (by decide) L13 L18)
 have RG := range_mul (p := p) (q := q) (r := r) (s := s) (Int.mul_ne_zero (by have := f1.one; omega) (by have := f2.one; omega))
 obtain ⟨R, hR⟩ : ∃ R, R = rMake (p * r) (q * s) := ⟨_, rfl⟩
 rw [← hR] at RG LR C19
 have HRG := Lib.hid RG
 clear f1 f2 L13 L18 RG hR
 go_enter Tryz.func25, Tryz.ntmps25
 go_wp2_with fail
 rw [← hw3]
 clear hw3
 refine regRMu (fun _ _ d _ _ h => by cases d <;> exact h) CELLS C13 C18 C19 ?_
 intro X x13 x18 x19 x8 sv20 tv20 av20 dv20 mv20 iv20 cv20 jv20 t6 hB0 L6 B6
 clear CELLS C13 C18 C19
 obtain ⟨s6, u6, a6, d6, m6, i6, c6, j6, ⟨c60, c61, c62, c63⟩, _, h6⟩ := B6.out.open
 have RA := ranged_any _ _ _ R.1 X h6 (by have := LR.out.1; omega) (by have := LR.out.2; omega)
 rw [HRG.out] at RA
 unfold RREnd VEnd at RA ⊢
 have HRA := Lib.hid RA
 clear RA h6 B6
 go_wp2_with fail
 go_must (refine HRA.out.mono ?_)
 rintro e w7 ⟨v7, rfl, ⟨y7, rfl, hx7⟩, hb7⟩
 obtain ⟨sv, tv, av, dv, mv, iv, cv, jv, rfl⟩ := rf_shape hx7
 have hB := Lib.hid (below_then hB0.out hb7)
 have hK := Lib.hid hx7
 clear HRA c60 c61 c62 c63 hx7 hb7 hB0
 generalize rMul p q r s = R2 at *
 obtain ⟨⟨r0, r1, r2, r3⟩, r4, r5, r6, r7⟩ := cellsF (HL2.out.below hB.out)
 have HE := Lib.hid (below_set4 (p := w.heap.size + 2) (u0 := .bool sv) (u1 := .slice av mv cv) (u2 := .bool tv) (u3 := .slice dv iv jv) (below_then HB3.out hB.out) (by omega))
 have HFE := Lib.hid (rf_store (rf_parts hK.out).1 (rf_parts hK.out).2 (HL2.out.below hB.out))
 go_wp2_with fail
 refine bodyPost_ret (v := .tuple #[.agg #[.bool sv, .slice av mv cv, .bool tv, .slice dv iv jv], .int .i64 R2.1]) (by simp [results, Tryz.results25, go_sem, r0, r1, r2, r3]) rfl ?_
 exact ⟨_, rfl, ⟨_, rfl, HFE.out⟩, HE.out⟩
set_option maxHeartbeats 8000000 in
theorem rDiv_ref (x y : Value) (p q r s : Int) (w : World) (hx : RFAt w x p q) (hy : RFAt w y r s) (f1 : RFine p q) (f2 : RFine r s) :
  Calls Tryz.prog 27 #[x, y] w (RREnd (rDiv p q r s) w) := by
 obtain ⟨s0, t0, a0, b0, m0, i0, c0, j0, s1, t1, a1, b1, m1, i1, c1, j1, w2, rfl, rfl, hw2, z2, hb2, hl0, hl1, hn0, hn1, hd0, hd1⟩ := two_rf w hx hy
 obtain ⟨w3, hw3⟩ : ∃ w3, w3 = w2.alloc (.cells #[.bool false, .slice none 0 0, .bool false, .slice none 0 0] 26) := ⟨_, rfl⟩
 have k3 : Below w2.heap.size w2 w3 := by rw [hw3]; exact below_one _ _
 have hl2 : Laid w3 (w.heap.size + 2) 26 [.bool false, .slice none 0 0, .bool false, .slice none 0 0] := by rw [hw3, ← z2]; exact Laid.new _ _ _
 have HL2 := Lib.hid hl2
 have HZ3 := Lib.hid (show w.heap.size + 2 < w3.heap.size from hl2.lt)
 have HL0 := Lib.hid (hl0.below k3)
 have HN0 := Lib.hid (nat_keeps hn0 k3)
 have HD0 := Lib.hid (nat_keeps hd0 k3)
 have HL1 := Lib.hid (hl1.below k3)
 have HN1 := Lib.hid (nat_keeps hn1 k3)
 have HD1 := Lib.hid (nat_keeps hd1 k3)
 have HB3 := Lib.hid (below_then hb2 k3)
 rw [hw2] at hw3
 clear hx hy hw2 z2 hb2 hl0 hn0 hd0 k3 hl1 hn1 hd1 hl2
 have CELLS : Hid (∀ X : World, Below w3.heap.size w3 X → X.cell? ⟨w.heap.size, 0, none⟩ = some (.bool s0) ∧ X.cell? ⟨w.heap.size, 1, none⟩ = some (.slice a0 m0 c0) ∧ X.cell? ⟨w.heap.size, 2, none⟩ = some (.bool t0) ∧ X.cell? ⟨w.heap.size, 3, none⟩ = some (.slice b0 i0 j0) ∧ X.cell? ⟨w.heap.size + 1, 0, none⟩ = some (.bool s1) ∧ X.cell? ⟨w.heap.size + 1, 1, none⟩ = some (.slice a1 m1 c1) ∧ X.cell? ⟨w.heap.size + 1, 2, none⟩ = some (.bool t1) ∧ X.cell? ⟨w.heap.size + 1, 3, none⟩ = some (.slice b1 i1 j1)) := Lib.hid (fun X h => by
  obtain ⟨⟨e0, e1, e2, e3⟩, _⟩ := cellsF (HL0.out.below h)
  obtain ⟨⟨e4, e5, e6, e7⟩, _⟩ := cellsF (HL1.out.below h)
  exact ⟨e0, e1, e2, e3, e4, e5, e6, e7⟩)
 have C13 : Hid (∀ X, Below w3.heap.size w3 X → Calls Tryz.prog 105 #[.agg #[.bool s0, .slice a0 m0 c0], .agg #[.bool t1, .slice b1 i1 j1]] X (VEnd (KN (p * s)) X)) := Lib.hid (fun X h => (mul_any _ _ _ _ X (nat_keeps HN0.out h) (nat_keeps HD1.out h) (by have := f1.len; omega) (by have := f2.wide; omega)).mono (fun _ _ => v_n))
 have C18 : Hid (∀ X, Below w3.heap.size w3 X → Calls Tryz.prog 105 #[.agg #[.bool t0, .slice b0 i0 j0], .agg #[.bool s1, .slice a1 m1 c1]] X (VEnd (KN (q * r)) X)) := Lib.hid (fun X h => (mul_any _ _ _ _ X (nat_keeps HD0.out h) (nat_keeps HN1.out h) (by have := f1.wide; omega) (by have := f2.len; omega)).mono (fun _ _ => v_n))
 have L13 := dg_mul f1.len f2.wide
 have L18 := dg_mul f1.wide f2.len
 have C19 : Hid (∀ X x13 x18, Below w3.heap.size w3 X → KN (p * s) X x13 → KN (q * r) X x18 → Calls Tryz.prog 38 #[x13, x18] X (VEnd (KTR (rMake (p * s) (q * r))) X)) := Lib.hid (fun X x13 x18 _ h1 h2 => rMake_any _ _ _ _ X h1 h2 (by omega) (by omega))
 have LR := Lib.hid (rmake_len (by decide) L13 L18)
 have RG := range_div (p := p) (q := q) (r := r) (s := s) (by have := f1.one; omega)
 obtain ⟨R, hR⟩ : ∃ R, R = rMake (p * s) (q * r) := ⟨_, rfl⟩
 rw [← hR] at RG LR C19
 have HRG := Lib.hid RG
 clear f1 f2 L13 L18 RG hR
 go_enter Tryz.func27, Tryz.ntmps27
 go_wp2_with fail
 rw [← hw3]
 clear hw3
 refine regRDi (fun _ _ d _ _ h => by cases d <;> exact h) CELLS C13 C18 C19 ?_
 intro X x13 x18 x19 x8 sv20 tv20 av20 dv20 mv20 iv20 cv20 jv20 t6 hB0 L6 B6
 clear CELLS C13 C18 C19
 obtain ⟨s6, u6, a6, d6, m6, i6, c6, j6, ⟨c60, c61, c62, c63⟩, _, h6⟩ := B6.out.open
 have RA := ranged_any _ _ _ R.1 X h6 (by have := LR.out.1; omega) (by have := LR.out.2; omega)
 rw [HRG.out] at RA
 unfold RREnd VEnd at RA ⊢
 have HRA := Lib.hid RA
 clear RA h6 B6
 go_wp2_with fail
 go_must (refine HRA.out.mono ?_)
 rintro e w7 ⟨v7, rfl, ⟨y7, rfl, hx7⟩, hb7⟩
 obtain ⟨sv, tv, av, dv, mv, iv, cv, jv, rfl⟩ := rf_shape hx7
 have hB := Lib.hid (below_then hB0.out hb7)
 have hK := Lib.hid hx7
 clear HRA c60 c61 c62 c63 hx7 hb7 hB0
 generalize rDiv p q r s = R2 at *
 obtain ⟨⟨r0, r1, r2, r3⟩, r4, r5, r6, r7⟩ := cellsF (HL2.out.below hB.out)
 have HE := Lib.hid (below_set4 (p := w.heap.size + 2) (u0 := .bool sv) (u1 := .slice av mv cv) (u2 := .bool tv) (u3 := .slice dv iv jv) (below_then HB3.out hB.out) (by omega))
 have HFE := Lib.hid (rf_store (rf_parts hK.out).1 (rf_parts hK.out).2 (HL2.out.below hB.out))
 go_wp2_with fail
 refine bodyPost_ret (v := .tuple #[.agg #[.bool sv, .slice av mv cv, .bool tv, .slice dv iv jv], .int .i64 R2.1]) (by simp [results, Tryz.results27, go_sem, r0, r1, r2, r3]) rfl ?_
 exact ⟨_, rfl, ⟨_, rfl, HFE.out⟩, HE.out⟩
end Go.Proofs.YtajehlgclnocoaaGreatDoor
