/-
 The reference of package frac: Add, Sub. (tools/genRad.py makes this text.)
-/
import Derived.Test.YtajehlgclnocoaaGreatDoorRraB
import Derived.Test.YtajehlgclnocoaaGreatDoorRfxB
namespace Go.Proofs.YtajehlgclnocoaaGreatDoor
open Go.RowKit Go.Shelf
set_option linter.unusedVariables false
set_option maxRecDepth 100000
theorem list4 {z0 z1 z2 z3 : Int} {Q : Int → Prop} (h0 : Q z0) (h1 : Q z1) (h2 : Q z2) (h3 : Q z3) : ∀ k, k < 4 → ∃ z, [z0, z1, z2, z3][k]? = some z ∧ Q z := by
 intro k hk
 match k, hk with
 | 0, _ => exact ⟨z0, rfl, h0⟩
 | 1, _ => exact ⟨z1, rfl, h1⟩
 | 2, _ => exact ⟨z2, rfl, h2⟩
 | 3, _ => exact ⟨z3, rfl, h3⟩
theorem list4_mem {z0 z1 z2 z3 z : Int} {k : Nat} (h : [z0, z1, z2, z3][k]? = some z) : z = z0 ∨ z = z1 ∨ z = z2 ∨ z = z3 := by
 match k, h with
 | 0, h => cases h; exact .inl rfl
 | 1, h => cases h; exact .inr (.inl rfl)
 | 2, h => cases h; exact .inr (.inr (.inl rfl))
 | 3, h => cases h; exact .inr (.inr (.inr rfl))
theorem radd_big {p q r s a1 a2 a3 : Int} (h1 : a1 = p * (s / ((Int.gcd q s : Nat) : Int))) (h2 : a2 = r * (q / ((Int.gcd q s : Nat) : Int))) (h3 : a3 = q / ((Int.gcd q s : Nat) : Int) * s) {z : Int} {k : Nat} (hz : [a1, a2, a3, a1 + a2][k]? = some z) (hb : big z) : rAdd p q r s = (4, 0, 1) := by
 unfold rAdd rIf
 rw [← h1, ← h2, ← h3]
 rw [if_pos]
 rcases list4_mem hz with rfl | rfl | rfl | rfl
 ·exact .inl hb
 ·exact .inr (.inl hb)
 ·exact .inr (.inr (.inr hb))
 ·exact .inr (.inr (.inl hb))
theorem radd_fit {p q r s a1 a2 a3 : Int} (h1 : a1 = p * (s / ((Int.gcd q s : Nat) : Int))) (h2 : a2 = r * (q / ((Int.gcd q s : Nat) : Int))) (h3 : a3 = q / ((Int.gcd q s : Nat) : Int) * s) (h0 : a3 ≠ 0) (hb : ∀ j z, j < 4 → [a1, a2, a3, a1 + a2][j]? = some z → ¬ big z) : rMake (a1 + a2) a3 = rAdd p q r s := by
 unfold rAdd rIf rMake
 rw [← h1, ← h2, ← h3]
 rw [if_neg h0, if_neg]
 rintro (h | h | h | h)
 ·exact hb 0 _ (by decide) rfl h
 ·exact hb 1 _ (by decide) rfl h
 ·exact hb 3 _ (by decide) rfl h
 ·exact hb 2 _ (by decide) rfl h
set_option maxHeartbeats 16000000 in
theorem rAdd_ref (x y : Value) (p q r s : Int) (w : World) (hx : RFAt w x p q) (hy : RFAt w y r s) (f1 : RFine p q) (f2 : RFine r s) :
  Calls Tryz.prog 21 #[x, y] w (RREnd (rAdd p q r s) w) := by
 obtain ⟨s0, t0, a0, b0, m0, i0, c0, j0, s1, t1, a1, b1, m1, i1, c1, j1, w2, rfl, rfl, hw2, z2, hb2, hl0, hl1, hn0, hn1, hd0, hd1⟩ := two_rf w hx hy
 obtain ⟨w3, hw3⟩ : ∃ w3, w3 = w2.alloc (.cells #[.bool false, .slice none 0 0, .bool false, .slice none 0 0] 26) := ⟨_, rfl⟩
 have k3 : Below w2.heap.size w2 w3 := by rw [hw3]; exact below_one _ _
 have hl2 : Laid w3 (w.heap.size + 2) 26 [.bool false, .slice none 0 0, .bool false, .slice none 0 0] := by rw [hw3, ← z2]; exact Laid.new _ _ _
 have HL2 := Lib.hid hl2
 have HZ3 := Lib.hid (show w.heap.size + 2 < w3.heap.size from hl2.lt)
 have HL0 := Lib.hid (hl0.below k3)
 have HN0 := Lib.hid (nat_keeps hn0 k3)
 have HE0 := Lib.hid (nat_keeps hd0 k3)
 have HL1 := Lib.hid (hl1.below k3)
 have HN1 := Lib.hid (nat_keeps hn1 k3)
 have HE1 := Lib.hid (nat_keeps hd1 k3)
 have HB3 := Lib.hid (below_then hb2 k3)
 rw [hw2] at hw3
 clear hx hy hw2 z2 hb2 hl0 hn0 hd0 k3 hl1 hn1 hd1 hl2
 have hq1 := f1.one
 have hs1 := f2.one
 have hgp := Int.gcd_pos_of_ne_zero_right (q) (show s ≠ 0 by omega)
 have hgs : (digs ((Int.gcd q s : Nat) : Int).natAbs).length ≤ 100000 := by rw [Int.natAbs_natCast]; exact dg_le (a := ((Int.gcd q s : Nat) : Int)) (b := s) (by rw [Int.natAbs_natCast]; exact Int.gcd_le_natAbs_right (q) (by omega)) f2.wide
 have hq2 : (digs (q / ((Int.gcd q s : Nat) : Int)).natAbs).length ≤ 100000 := dg_le (Int.natAbs_ediv_le_natAbs _ _) f1.wide
 have hs2 : (digs (s / ((Int.gcd q s : Nat) : Int)).natAbs).length ≤ 100000 := dg_le (Int.natAbs_ediv_le_natAbs _ _) f2.wide
 have hq0 : q / ((Int.gcd q s : Nat) : Int) ≠ 0 := by
  have h1 : ((Int.gcd q s : Nat) : Int) * (q / ((Int.gcd q s : Nat) : Int)) = q := Int.mul_ediv_cancel' (Int.gcd_dvd_left ..)
  intro h2
  rw [h2, Int.mul_zero] at h1
  omega
 obtain ⟨A1, hA1⟩ : ∃ a, a = p * (s / ((Int.gcd q s : Nat) : Int)) := ⟨_, rfl⟩
 obtain ⟨A2, hA2⟩ : ∃ a, a = r * (q / ((Int.gcd q s : Nat) : Int)) := ⟨_, rfl⟩
 obtain ⟨A3, hA3⟩ : ∃ a, a = q / ((Int.gcd q s : Nat) : Int) * s := ⟨_, rfl⟩
 have D1 : (digs A1.natAbs).length ≤ 200000 := by rw [hA1]; exact dg_mul f1.len hs2
 have D2 : (digs A2.natAbs).length ≤ 200000 := by rw [hA2]; exact dg_mul f2.len hq2
 have D3 : (digs A3.natAbs).length ≤ 200000 := by rw [hA3]; exact dg_mul hq2 f2.wide
 have D4 : (digs (A1 + A2).natAbs).length ≤ 200001 := dg_add D1 D2
 have h30 : A3 ≠ 0 := by rw [hA3]; exact Int.mul_ne_zero hq0 (by omega)
 have HBIG : Hid (∀ (z : Int) (k : Nat), [A1, A2, A3, A1 + A2][k]? = some z → big z → rAdd p q r s = (4, 0, 1)) := Lib.hid (fun z k h1 h2 => radd_big hA1 hA2 hA3 h1 h2)
 have HFIT : Hid ((∀ j z, j < 4 → [A1, A2, A3, A1 + A2][j]? = some z → ¬ big z) → rMake (A1 + A2) A3 = rAdd p q r s) := Lib.hid (fun h => radd_fit hA1 hA2 hA3 h30 h)
 have HZS : Hid (∀ k, k < 4 → ∃ z, [A1, A2, A3, A1 + A2][k]? = some z ∧ (digs z.natAbs).length ≤ 500000) := Lib.hid (list4 (by omega) (by omega) (by omega) (by omega))
 generalize hGG : ((Int.gcd q s : Nat) : Int) = G at *
 have HG0 : Hid (G ≠ 0) := Lib.hid (by omega)
 have HGS := Lib.hid hgs
 have F1 := Lib.hid f1
 have F2 := Lib.hid f2
 have HQ2 := Lib.hid hq2
 have HS2 := Lib.hid hs2
 have HD1 := Lib.hid D1
 have HD2 := Lib.hid D2
 have HD3 := Lib.hid D3
 have HD4 := Lib.hid D4
 have MU1 : Hid (∀ (X : World) (u v : Value), NAt X u p → NAt X v (s / G) → Calls Tryz.prog 105 #[u, v] X (VEnd (KN A1) X)) := Lib.hid (fun X u v h1 h2 => by rw [hA1]; exact (mul_any _ _ _ _ X h1 h2 (by have := F1.out.len; omega) (by have := HS2.out; omega)).mono (fun _ _ => v_n))
 have MU2 : Hid (∀ (X : World) (u v : Value), NAt X u r → NAt X v (q / G) → Calls Tryz.prog 105 #[u, v] X (VEnd (KN A2) X)) := Lib.hid (fun X u v h1 h2 => by rw [hA2]; exact (mul_any _ _ _ _ X h1 h2 (by have := F2.out.len; omega) (by have := HQ2.out; omega)).mono (fun _ _ => v_n))
 have MU3 : Hid (∀ (X : World) (u v : Value), NAt X u (q / G) → NAt X v s → Calls Tryz.prog 105 #[u, v] X (VEnd (KN A3) X)) := Lib.hid (fun X u v h1 h2 => by rw [hA3]; exact (mul_any _ _ _ _ X h1 h2 (by have := HQ2.out; omega) (by have := F2.out.wide; omega)).mono (fun _ _ => v_n))
 have AD4 : Hid (∀ (X : World) (u v : Value), NAt X u A1 → NAt X v A2 → Calls Tryz.prog 70 #[u, v] X (VEnd (KN (A1 + A2)) X)) := Lib.hid (fun X u v h1 h2 => (add_any _ _ _ _ X h1 h2 (by have := HD1.out; omega) (by have := HD2.out; omega)).mono (fun _ _ => v_n))
 have MK : Hid (∀ (X : World) (u v : Value), NAt X u (A1 + A2) → NAt X v A3 → Calls Tryz.prog 38 #[u, v] X (VEnd (KTR (rMake (A1 + A2) A3)) X)) := Lib.hid (fun X u v h1 h2 => rMake_any _ _ _ _ X h1 h2 (by have := HD4.out; omega) (by have := HD3.out; omega))
 have GC : Hid (∀ (X : World) (u v : Value), NAt X u q → NAt X v s → Calls Tryz.prog 103 #[u, v] X (VEnd (KN G) X)) := Lib.hid (fun X u v h1 h2 => hGG ▸ (nGcd_any _ _ q s X h1 h2 (by have := F1.out.wide; omega) (by have := F2.out.wide; omega)).mono (fun _ _ => v_n))
 have DS : Hid (∀ (X : World) (u v : Value), NAt X u s → NAt X v G → Calls Tryz.prog 104 #[u, v] X (NDivEnd s G X)) := Lib.hid (fun X u v h1 h2 => nDiv_any _ _ s G X h1 h2 (by have := F2.out.wide; omega) (by have := HGS.out; omega) HG0.out)
 have DQ : Hid (∀ (X : World) (u v : Value), NAt X u q → NAt X v G → Calls Tryz.prog 104 #[u, v] X (NDivEnd q G X)) := Lib.hid (fun X u v h1 h2 => nDiv_any _ _ q G X h1 h2 (by have := F1.out.wide; omega) (by have := HGS.out; omega) HG0.out)
 have OF : Hid (∀ X, Calls Tryz.prog 18 #[.int .i64 0] X (RFEnd 0 1 X)) := Lib.hid (fun X => rOf_any 0 X (by decide))
 unfold RFEnd at OF
 have Ta : Hid (RBox w3 w.heap.size p q) := Lib.hid ⟨s0, t0, a0, b0, m0, i0, c0, j0, HL0.out, rf_of HN0.out HE0.out⟩
 have Tb : Hid (RBox w3 (w.heap.size + 1) r s) := Lib.hid ⟨s1, t1, a1, b1, m1, i1, c1, j1, HL1.out, rf_of HN1.out HE1.out⟩
 clear f1 f2 hq1 hs1 hgp hgs hq2 hs2 hq0 hA1 hA2 hA3 D1 D2 D3 D4 h30 hGG HN0 HN1 HL0 HL1 F1 F2 HQ2 HS2 HD1 HD2 HD3 HD4 HGS HG0 HZ3
 unfold RREnd
 go_enter Tryz.func21, Tryz.ntmps21
 go_wp2_with fail
 rw [← hw3]
 clear hw3
 have C := GC.out w3 _ _ HE0.out HE1.out
 unfold VEnd at C
 have HC := Lib.hid C
 clear C
 go_must (refine HC.out.mono ?_)
 rintro e w21 ⟨v5, rfl, hx5, hb5⟩
 obtain ⟨srg, arg, mrg, crg, rfl⟩ := nat_shape hx5
 clear HC
 have hbb := below_then hb5 (below_one w21 (.cells #[.bool srg, .slice arg mrg crg] 24))
 have U := Lib.hid (Ta.out.below hbb)
 clear Ta
 have Ta := U
 clear U
 have U := Lib.hid (Tb.out.below hbb)
 clear Tb
 have Tb := U
 clear U
 have U := Lib.hid (below_then HB3.out hbb)
 clear HB3
 have HB3 := U
 clear U
 have U := Lib.hid (HL2.out.below hbb)
 clear HL2
 have HL2 := U
 clear U
 have Tg := Lib.hid (NBox.new hx5)
 clear hx5 hb5 hbb
 clear HE0 HE1 GC
 obtain ⟨sb_1, tb_1, ab_1, db_1, mb_1, ib_1, cb_1, jb_1, ⟨cb_10, cb_11, cb_12, cb_13⟩, _, hb_1⟩ := Tb.out.open
 obtain ⟨sg_1, ag_1, mg_1, cg_1, ⟨cg_10, cg_11⟩, _, hg_1, _⟩ := Tg.out.open
 go_wp2_with fail
 have HSZY1 := Lib.hid (size_alloc1 w21 (.cells #[.bool srg, .slice arg mrg crg] 24))
 generalize w21.alloc (.cells #[.bool srg, .slice arg mrg crg] 24) = Y1 at *
 generalize w21.heap.size = tg at *
 have C := DS.out Y1 _ _ (rf_parts hb_1).2 hg_1
 unfold NDivEnd at C
 have HC := Lib.hid C
 clear C
 clear cb_10 cb_11 cb_12 cb_13 hb_1
 clear cg_10 cg_11 hg_1
 go_must (refine HC.out.mono ?_)
 rintro e w22 ⟨v5, u5, rfl, hx5, hx6, hb5⟩
 obtain ⟨srx, arx, mrx, crx, rfl⟩ := nat_shape hx5
 obtain ⟨sry, ary, mry, cry, rfl⟩ := nat_shape hx6
 clear HC
 have hbb := below_then hb5 (below_then (below_one w22 (.cells #[.bool srx, .slice arx mrx crx] 24)) (below_one _ (.cells #[.bool sry, .slice ary mry cry] 24)))
 have U := Lib.hid (Ta.out.below hbb)
 clear Ta
 have Ta := U
 clear U
 have U := Lib.hid (Tb.out.below hbb)
 clear Tb
 have Tb := U
 clear U
 have U := Lib.hid (Tg.out.below hbb)
 clear Tg
 have Tg := U
 clear U
 have U := Lib.hid (below_then HB3.out hbb)
 clear HB3
 have HB3 := U
 clear U
 have U := Lib.hid (HL2.out.below hbb)
 clear HL2
 have HL2 := U
 clear U
 have Tx := Lib.hid ((NBox.new hx5).below (below_one _ (.cells #[.bool sry, .slice ary mry cry] 24)))
 have Ty := Lib.hid (NBox.new (nat_keeps hx6 (below_one w22 (.cells #[.bool srx, .slice arx mrx crx] 24))))
 rw [size_alloc1] at Ty
 clear hx5 hx6 hb5 hbb
 clear DS
 clear Ty
 obtain ⟨sa_2, ta_2, aa_2, da_2, ma_2, ia_2, ca_2, ja_2, ⟨ca_20, ca_21, ca_22, ca_23⟩, _, ha_2⟩ := Ta.out.open
 obtain ⟨sg_2, ag_2, mg_2, cg_2, ⟨cg_20, cg_21⟩, _, hg_2, _⟩ := Tg.out.open
 go_wp2_with fail
 generalize (w22.alloc (.cells #[.bool srx, .slice arx mrx crx] 24)).alloc (.cells #[.bool sry, .slice ary mry cry] 24) = Y2 at *
 generalize w22.heap.size = tx at *
 have C := DQ.out Y2 _ _ (rf_parts ha_2).2 hg_2
 unfold NDivEnd at C
 have HC := Lib.hid C
 clear C
 clear ca_20 ca_21 ca_22 ca_23 ha_2
 clear cg_20 cg_21 hg_2
 go_must (refine HC.out.mono ?_)
 rintro e w23 ⟨v5, u5, rfl, hx5, hx6, hb5⟩
 obtain ⟨sru, aru, mru, cru, rfl⟩ := nat_shape hx5
 obtain ⟨srv, arv, mrv, crv, rfl⟩ := nat_shape hx6
 clear HC
 have hbb := below_then hb5 (below_then (below_one w23 (.cells #[.bool sru, .slice aru mru cru] 24)) (below_one _ (.cells #[.bool srv, .slice arv mrv crv] 24)))
 have U := Lib.hid (Ta.out.below hbb)
 clear Ta
 have Ta := U
 clear U
 have U := Lib.hid (Tb.out.below hbb)
 clear Tb
 have Tb := U
 clear U
 have U := Lib.hid (Tg.out.below hbb)
 clear Tg
 have Tg := U
 clear U
 have U := Lib.hid (Tx.out.below hbb)
 clear Tx
 have Tx := U
 clear U
 have U := Lib.hid (below_then HB3.out hbb)
 clear HB3
 have HB3 := U
 clear U
 have U := Lib.hid (HL2.out.below hbb)
 clear HL2
 have HL2 := U
 clear U
 have Tu := Lib.hid ((NBox.new hx5).below (below_one _ (.cells #[.bool srv, .slice arv mrv crv] 24)))
 have Tv := Lib.hid (NBox.new (nat_keeps hx6 (below_one w23 (.cells #[.bool sru, .slice aru mru cru] 24))))
 rw [size_alloc1] at Tv
 clear hx5 hx6 hb5 hbb
 clear DQ
 clear Tv
 clear Tg
 go_upto_region 4 with (fail)
 generalize (w23.alloc (.cells #[.bool sru, .slice aru mru cru] 24)).alloc (.cells #[.bool srv, .slice arv mrv crv] 24) = Y3 at *
 generalize w23.heap.size = tu at *
 obtain ⟨s2, s2x, a2, a2x, m2, m2x, c2, c2x, la, ha⟩ := Ta.out
 have La := Lib.hid la
 have Ga := Lib.hid ha
 clear la ha Ta
 obtain ⟨s3, s3x, a3, a3x, m3, m3x, c3, c3x, lb, hb⟩ := Tb.out
 have Lb := Lib.hid lb
 have Gb := Lib.hid hb
 clear lb hb Tb
 obtain ⟨s7, a7, m7, c7, lx, hx⟩ := Tx.out
 have Lx := Lib.hid lx
 have Gx := Lib.hid hx
 clear lx hx Tx
 obtain ⟨s9, a9, m9, c9, lu, hu⟩ := Tu.out
 have Lu := Lib.hid lu
 have Gu := Lib.hid hu
 clear lu hu Tu
 have LD4 : Hid (∀ X : World, Below Y3.heap.size Y3 X → X.cell? ⟨w.heap.size, 0, none⟩ = some (.bool s2) ∧ X.cell? ⟨w.heap.size, 1, none⟩ = some (.slice a2 m2 c2) ∧ X.cell? ⟨w.heap.size, 2, none⟩ = some (.bool s2x) ∧ X.cell? ⟨w.heap.size, 3, none⟩ = some (.slice a2x m2x c2x) ∧ X.cell? ⟨w.heap.size + 1, 0, none⟩ = some (.bool s3) ∧ X.cell? ⟨w.heap.size + 1, 1, none⟩ = some (.slice a3 m3 c3) ∧ X.cell? ⟨w.heap.size + 1, 2, none⟩ = some (.bool s3x) ∧ X.cell? ⟨w.heap.size + 1, 3, none⟩ = some (.slice a3x m3x c3x) ∧ X.cell? ⟨tx, 0, none⟩ = some (.bool s7) ∧ X.cell? ⟨tx, 1, none⟩ = some (.slice a7 m7 c7) ∧ X.cell? ⟨tu, 0, none⟩ = some (.bool s9) ∧ X.cell? ⟨tu, 1, none⟩ = some (.slice a9 m9 c9)) := Lib.hid (fun X h => by
  obtain ⟨⟨f0, f1, f2, f3⟩, _⟩ := cellsF (La.out.below h)
  obtain ⟨⟨f4, f5, f6, f7⟩, _⟩ := cellsF (Lb.out.below h)
  obtain ⟨f8, f9, _, _⟩ := cells2 (Lx.out.below h)
  obtain ⟨f10, f11, _, _⟩ := cells2 (Lu.out.below h)
  exact ⟨f0, f1, f2, f3, f4, f5, f6, f7, f8, f9, f10, f11⟩)
 refine regRA4 (z36 := A1) (z40 := A2) (z44 := A3) (fun _ _ d _ _ h => by cases d <;> exact h) LD4 (Lib.hid (fun X h => MU1.out X _ _ (rf_parts (rf_keeps Ga.out h)).1 (nat_keeps Gx.out h))) (Lib.hid (fun X h => MU2.out X _ _ (rf_parts (rf_keeps Gb.out h)).1 (nat_keeps Gu.out h))) (Lib.hid (fun X h => MU3.out X _ _ (nat_keeps Gu.out h) (rf_parts (rf_keeps Gb.out h)).2)) ?_
 intro X4 x36 x40 x44 x45 hB4 _ _ _ K45
 obtain ⟨bl, rfl, _, hr4⟩ := K45.out
 have HR4 := Lib.hid hr4
 have U := Lib.hid (below_then HB3.out hB4.out)
 clear HB3
 have HB := U
 clear U
 have U := Lib.hid (HL2.out.below hB4.out)
 clear HL2
 have HL := U
 clear U hr4 hB4 K45 LD4 La Lb Lx Lu Ga Gb Gx Gu MU1 MU2 MU3
 go_upto_region 5 with (fail)
 obtain ⟨sI, aI, mI, cI, ⟨i0, i1⟩, hI⟩ := HR4.out.2 0 A1 rfl
 obtain ⟨sK, aK, mK, cK, ⟨k0, k1⟩, hK⟩ := HR4.out.2 1 A2 rfl
 have LD5 : Hid (∀ X : World, Below X4.heap.size X4 X → X.cell? ⟨bl, 0, none⟩ = some (.bool sI) ∧ X.cell? ⟨bl, 1, none⟩ = some (.slice aI mI cI) ∧ X.cell? ⟨bl, 2, none⟩ = some (.bool sK) ∧ X.cell? ⟨bl, 3, none⟩ = some (.slice aK mK cK)) := Lib.hid (fun X h => ⟨(h.cell (p := ⟨bl, 0, none⟩) HR4.out.1).trans i0, (h.cell (p := ⟨bl, 1, none⟩) HR4.out.1).trans i1, (h.cell (p := ⟨bl, 2, none⟩) HR4.out.1).trans k0, (h.cell (p := ⟨bl, 3, none⟩) HR4.out.1).trans k1⟩)
 have HI := Lib.hid hI
 have HK := Lib.hid hK
 clear i0 i1 k0 k1 hI hK
 refine regRA5 (z0 := A1) (z1 := A2) (z2 := A3) (z53 := A1 + A2) (fun _ _ d _ _ h => by cases d <;> exact h) LD5 (Lib.hid (fun X h => nrow_keeps HR4.out h)) (Lib.hid (fun X h => AD4.out X _ _ (nat_keeps HI.out h) (nat_keeps HK.out h))) ?_
 intro X5 x53 x54 x55 hB5 _ _ K55
 obtain ⟨bm, cl, rfl, _, ⟨hcl1, hcl2⟩, hr5⟩ := K55.out
 have HR := Lib.hid hr5
 have U := Lib.hid (below_then HB.out hB5.out)
 clear HB
 have HB := U
 clear U
 have U := Lib.hid (HL.out.below hB5.out)
 clear HL
 have HL := U
 clear U hr5 hB5 K55 LD5 HI HK HR4 AD4
 go_wp2_with fail
 go_loopw [12, 13] (fun iv _ wr => ∃ k : Nat, iv = .int .i64 (k : Int) ∧ k ≤ 4 ∧ Hid (∀ j z, j < k → [A1, A2, A3, A1 + A2][j]? = some z → ¬ big z) ∧ Hid (NRow wr bm [A1, A2, A3, A1 + A2]) ∧ Hid (Laid wr (w.heap.size + 2) 26 [.bool false, .slice none 0 0, .bool false, .slice none 0 0]) ∧ Hid (Below w.heap.size w wr)) (fun iv _ _ => (4 - intOf iv).toNat)
 case atStart => exact ⟨0, rfl, by decide, Lib.hid (fun j z h => by omega), HR, HL, HB⟩
 case round =>
  clear HR HL HB
  obtain ⟨k, rfl, hk, HN, HR, HL, HB⟩ := hrel
  rcases Nat.lt_or_ge k 4 with hlt | hge
  ·have hlt' : (k : Int) < 4 := by omega
   have hlg : ¬ ((4 : Int) ≤ (k : Int)) := by omega
   obtain ⟨z, hz, dz⟩ := HZS.out k hlt
   obtain ⟨sZ, aZ, mZ, cZ, ⟨z0, z1⟩, hZ⟩ := HR.out.2 k z hz
   obtain ⟨u, hu⟩ := fit_bit z
   have FZ := fits_bool _ z u wr hZ dz hu
   have HFZ := Lib.hid FZ
   have HZ := Lib.hid hz
   have HU := Lib.hid hu
   have HZC := Lib.hid z0
   clear FZ hz dz hZ hu
   go_wp2_with fail
   go_must (refine HFZ.out.mono ?_)
   rintro e w7 ⟨rfl, hb7⟩
   have HB7 := Lib.hid (below_then HB.out hb7)
   have HL7 := Lib.hid (HL.out.below hb7)
   have HR7 := Lib.hid (nrow_keeps HR.out hb7)
   clear HFZ hb7 HB HL HR z0 z1 HZC
   cases u with
   | true =>
    have HNB : Hid (¬ big z) := Lib.hid (by rcases HU.out with ⟨_, h⟩ | ⟨h, _⟩; exact h; cases h)
    clear HU
    go_wp2_with fail
    go_roundw
    case rel =>
     refine ⟨k + 1, by first | rfl | go_num, by omega, Lib.hid (fun j z' hj hz' => ?_), HR7, HL7, HB7⟩
     rcases Nat.lt_or_ge j k with h | h
     ·exact HN.out j z' h hz'
     ·obtain rfl : j = k := by omega
      have := HZ.out
      rw [hz'] at this
      cases this
      exact HNB.out
    case measure => simp [intOf]; omega
   | false =>
    have HRR : Hid (rAdd p q r s = (4, 0, 1)) := Lib.hid (HBIG.out z k HZ.out (by rcases HU.out with ⟨h, _⟩ | ⟨_, h⟩; cases h; exact h))
    clear HU HZ HN HBIG HFIT HZS HR7
    go_wp2_with fail
    go_must (refine (OF.out _).mono ?_)
    rintro e w6 ⟨v6, rfl, hx6, hb6⟩
    obtain ⟨sv, tv, av, dv, mv, iv, cv, jv, rfl⟩ := rf_shape hx6
    have hK := Lib.hid hx6
    have hl6 := HL7.out.below hb6
    obtain ⟨⟨r0, r1, r2, r3⟩, r4, r5, r6, r7⟩ := cellsF hl6
    have HE := Lib.hid (below_set4 (p := w.heap.size + 2) (u0 := .bool sv) (u1 := .slice av mv cv) (u2 := .bool tv) (u3 := .slice dv iv jv) (below_then HB7.out hb6) (by omega))
    have HFE := Lib.hid (rf_store (rf_parts hx6).1 (rf_parts hx6).2 hl6)
    clear OF hx6 hb6 hl6
    go_wp2_with fail
    refine bodyPost_ret (v := .tuple #[.agg #[.bool sv, .slice av mv cv, .bool tv, .slice dv iv jv], .int .i64 4]) (by simp [results, Tryz.results21, go_sem, r0, r1, r2, r3]) rfl ?_
    rw [HRR.out]
    exact ⟨_, rfl, ⟨_, rfl, HFE.out⟩, HE.out⟩
  ·obtain rfl : k = 4 := by omega
   have hlt' : ¬ (((4 : Nat) : Int) < 4) := by omega
   have HRR := HFIT.out (fun j z h hz => HN.out j z h hz)
   rw [HRR] at MK
   clear HRR HBIG HFIT HZS OF HN
   go_upto_region 12 with (fail)
   obtain ⟨sI, aI, mI, cI, ⟨i0, i1⟩, hI⟩ := HR.out.2 3 (A1 + A2) rfl
   obtain ⟨sK, aK, mK, cK, ⟨k0, k1⟩, hK⟩ := HR.out.2 2 A3 rfl
   have LD12 : Hid (∀ X : World, Below wr.heap.size wr X → X.cell? ⟨bm, 6, none⟩ = some (.bool sI) ∧ X.cell? ⟨bm, 7, none⟩ = some (.slice aI mI cI) ∧ X.cell? ⟨bm, 4, none⟩ = some (.bool sK) ∧ X.cell? ⟨bm, 5, none⟩ = some (.slice aK mK cK)) := Lib.hid (fun X h => ⟨(h.cell (p := ⟨bm, 6, none⟩) HR.out.1).trans i0, (h.cell (p := ⟨bm, 7, none⟩) HR.out.1).trans i1, (h.cell (p := ⟨bm, 4, none⟩) HR.out.1).trans k0, (h.cell (p := ⟨bm, 5, none⟩) HR.out.1).trans k1⟩)
   have HI := Lib.hid hI
   have HK := Lib.hid hK
   clear i0 i1 k0 k1 hI hK
   refine regRA12 (R := rAdd p q r s) (fun _ _ d _ _ h => by cases d <;> exact h) LD12 (Lib.hid (fun X h => HL.out.below h)) (Lib.hid (fun X h => MK.out X _ _ (nat_keeps HI.out h) (nat_keeps HK.out h))) ?_
   intro X x74 sv tv av dv mv iv cv jv hB hK
   obtain ⟨⟨r0, r1, r2, r3⟩, r4, r5, r6, r7⟩ := cellsF (HL.out.below hB.out)
   have HE := Lib.hid (below_set4 (p := w.heap.size + 2) (u0 := .bool sv) (u1 := .slice av mv cv) (u2 := .bool tv) (u3 := .slice dv iv jv) (below_then HB.out hB.out) (by omega))
   have HFE := Lib.hid (rf_store (rf_parts hK.out).1 (rf_parts hK.out).2 (HL.out.below hB.out))
   go_wp2_with fail
   refine bodyPost_ret (v := .tuple #[.agg #[.bool sv, .slice av mv cv, .bool tv, .slice dv iv jv], .int .i64 (rAdd p q r s).1]) (by simp [results, Tryz.results21, go_sem, r0, r1, r2, r3]) rfl ?_
   exact ⟨_, rfl, ⟨_, rfl, HFE.out⟩, HE.out⟩
end Go.Proofs.YtajehlgclnocoaaGreatDoor
