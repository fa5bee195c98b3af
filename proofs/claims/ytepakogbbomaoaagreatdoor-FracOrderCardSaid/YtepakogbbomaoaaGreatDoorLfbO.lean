/-
 The laws of package frac: the examples (lives). (tools/genLfb.py makes this text.)
-/
import Derived.Test.YtepakogbbomaoaaGreatDoorFcDO
import Derived.Test.YtepakogbbomaoaaGreatDoorLfaO
import Derived.Test.YtepakogbbomaoaaGreatDoorRgCO
namespace Go.Proofs.YtepakogbbomaoaaGreatDoor
open Go.RowKit Go.Shelf
set_option linter.unusedVariables false
set_option maxRecDepth 100000
theorem nbs {z : Int} (h : z.natAbs ≤ 2 ^ 10) : ¬ big z := small_big h (by decide)
theorem sms {z : Int} (h : z.natAbs ≤ 2 ^ 10) : Small z := small_of h (by decide)
theorem fine_s {p q : Int} (h : Low p q) (hp : p.natAbs ≤ 2 ^ 10) (hq : q.natAbs ≤ 2 ^ 10) : Fine p q := ⟨h, (sms hp).words, (sms hq).words⟩
theorem txt_d {c : Nat} (h : 48 ≤ c ∧ c ≤ 57) : txtN ((vT [c] : Nat) : Int) = [c] := (txt_num (numT_ok (c := c) (l := []) (by simpa using h) (fun _ => rfl))).1
theorem tx2 : txtN 2 = [50] := txt_d (c := 50) (by decide)
theorem tx4 : txtN 4 = [52] := txt_d (c := 52) (by decide)
theorem tx5 : txtN 5 = [53] := txt_d (c := 53) (by decide)
theorem tx6 : txtN 6 = [54] := txt_d (c := 54) (by decide)
theorem tx8 : txtN 8 = [56] := txt_d (c := 56) (by decide)
theorem tx1 : txtN 1 = [49] := txt_d (c := 49) (by decide)
theorem tx27 : txtN 27 = [50, 55] := (txt_num (numT_ok (c := 50) (l := [55]) (by decide) (by decide))).1
theorem txm3 : txtN (-3) = [45, 51] := (txt_num (numT_ok (c := 51) (l := []) (by decide) (by decide))).2 (by decide)
theorem no_two (p q : Int) : ¬ FText { data := #[50, 47, 52] } p q := fun h => by
 have hc : CutL (strB { data := #[50, 47, 52] }) [50] [52] true := .inl ⟨rfl, rfl, by decide⟩
 obtain ⟨e1, e2, _⟩ := ftext_cut h hc
 have h1 : p = 2 := txtN_inj (e1.symm.trans tx2.symm)
 have h2 : q = 4 := txtN_inj ((e2 rfl).1.symm.trans tx4.symm)
 have := h.1.cop
 rw [h1, h2] at this
 revert this
 decide
theorem no_three (p q : Int) : ¬ FText { data := #[51, 47, 49] } p q := fun h => by
 have hc : CutL (strB { data := #[51, 47, 49] }) [51] [49] true := .inl ⟨rfl, rfl, by decide⟩
 obtain ⟨e1, e2, _⟩ := ftext_cut h hc
 exact (e2 rfl).2 (txtN_inj ((e2 rfl).1.symm.trans tx1.symm))
theorem add_lives : rAdd 1 2 1 3 = (0, 5, 6) ∧ rAdd 1 1 (-1) 3 = (0, 2, 3) := by
 constructor
 ·unfold rAdd
  rw [show ((Int.gcd 2 3 : Nat) : Int) = 1 by decide]
  unfold rIf
  rw [if_neg (fun h => by rcases h with h | h | h | h <;> exact nbs (by decide) h)]
  decide
 ·unfold rAdd
  rw [show ((Int.gcd 1 3 : Nat) : Int) = 1 by decide]
  unfold rIf
  rw [if_neg (fun h => by rcases h with h | h | h | h <;> exact nbs (by decide) h)]
  decide
theorem make_lives : rMake 6 (-8) = (0, -3, 4) ∧ rMake 1 2 = (0, 1, 2) ∧ rMake 1 3 = (0, 1, 3) := by
 refine ⟨?_, ?_, ?_⟩
 ·unfold rMake; rw [if_neg (by decide)]; decide
 ·unfold rMake; rw [if_neg (by decide)]; decide
 ·unfold rMake; rw [if_neg (by decide)]; decide
theorem div_lives : rDiv 1 1 0 1 = (1, 0, 1) := by unfold rDiv; rw [if_pos rfl]
set_option maxHeartbeats 8000000 in
theorem lives4_any (w : World) : Calls Tryz.prog 18 #[] w (VEnd (KX (.bool true)) w) := by
 have O68 : Hid (∀ X, Calls Tryz.prog 52 #[.int .i64 6, .int .i64 (-8)] X (VEnd (KTF (0, -3, 4)) X)) := Lib.hid (fun X => by
  have := (fOf_any 6 (-8) X (by decide) (by decide)).mono (fun _ _ h => v_tf (make_end h))
  rwa [make_lives.1] at this)
 have O12 : Hid (∀ X, Calls Tryz.prog 52 #[.int .i64 1, .int .i64 2] X (VEnd (KTF (0, 1, 2)) X)) := Lib.hid (fun X => by
  have := (fOf_any 1 2 X (by decide) (by decide)).mono (fun _ _ h => v_tf (make_end h))
  rwa [make_lives.2.1] at this)
 have O13 : Hid (∀ X, Calls Tryz.prog 52 #[.int .i64 1, .int .i64 3] X (VEnd (KTF (0, 1, 3)) X)) := Lib.hid (fun X => by
  have := (fOf_any 1 3 X (by decide) (by decide)).mono (fun _ _ h => v_tf (make_end h))
  rwa [make_lives.2.2] at this)
 have S1 : Hid (∀ X x, FAt X x (-3) 4 → Calls Tryz.prog 20 #[x] X (VEnd (KX (.string { data := #[45, 51, 47, 52] })) X)) := Lib.hid (fun X x h => by
  have e : fTxt (-3) 4 = { data := #[45, 51, 47, 52] } := strB_inj (by rw [strB_fTxt]; unfold textL; rw [if_neg (by decide), txm3, tx4]; rfl)
  have := fString_any x (-3) 4 X h (by decide) (sms (by decide)).words (sms (by decide)).words
  rw [e] at this
  exact this.mono (fun _ _ h => ⟨_, h.1, rfl, h.2⟩))
 have S2 : Hid (∀ X x, FAt X x 5 6 → Calls Tryz.prog 20 #[x] X (VEnd (KX (.string { data := #[53, 47, 54] })) X)) := Lib.hid (fun X x h => by
  have e : fTxt 5 6 = { data := #[53, 47, 54] } := strB_inj (by rw [strB_fTxt]; unfold textL; rw [if_neg (by decide), tx5, tx6]; rfl)
  have := fString_any x 5 6 X h (by decide) (sms (by decide)).words (sms (by decide)).words
  rw [e] at this
  exact this.mono (fun _ _ h => ⟨_, h.1, rfl, h.2⟩))
 have S3 : Hid (∀ X x, FAt X x 8 27 → Calls Tryz.prog 20 #[x] X (VEnd (KX (.string { data := #[56, 47, 50, 55] })) X)) := Lib.hid (fun X x h => by
  have e : fTxt 8 27 = { data := #[56, 47, 50, 55] } := strB_inj (by rw [strB_fTxt]; unfold textL; rw [if_neg (by decide), tx8, tx27]; rfl)
  have := fString_any x 8 27 X h (by decide) (sms (by decide)).words (sms (by decide)).words
  rw [e] at this
  exact this.mono (fun _ _ h => ⟨_, h.1, rfl, h.2⟩))
 have AD : Hid (∀ X u v, FAt X u 1 2 → FAt X v 1 3 → Calls Tryz.prog 12 #[u, v] X (VEnd (KTF (0, 5, 6)) X)) := Lib.hid (fun X u v h1 h2 => by
  have := (fAdd_any u v 1 2 1 3 X h1 h2 (fine_s ⟨by decide, by decide⟩ (by decide) (by decide)) (fine_s ⟨by decide, by decide⟩ (by decide) (by decide))).mono (fun _ _ h => v_tf h)
  rwa [add_lives.1] at this)
 have SU : Hid (∀ X u v, FAt X u 1 1 → FAt X v 1 3 → Calls Tryz.prog 26 #[u, v] X (VEnd (KTF (0, 2, 3)) X)) := Lib.hid (fun X u v h1 h2 => by
  have := (fSub_any u v 1 1 1 3 X h1 h2 (fine_s ⟨by decide, by decide⟩ (by decide) (by decide)) (fine_s ⟨by decide, by decide⟩ (by decide) (by decide))).mono (fun _ _ h => v_tf h)
  rwa [add_lives.2] at this)
 have DV : Hid (∀ X u v, FAt X u 1 1 → FAt X v 0 1 → Calls Tryz.prog 53 #[u, v] X (VEnd (KTF (1, 0, 1)) X)) := Lib.hid (fun X u v h1 h2 => by
  have := (fDiv_any u v 1 1 0 1 X h1 h2 (fine_s ⟨by decide, by decide⟩ (by decide) (by decide)) (fine_s ⟨by decide, by decide⟩ (by decide) (by decide))).mono (fun _ _ h => v_tf h)
  rwa [div_lives] at this)
 have WH : Hid (∀ X, Calls Tryz.prog 54 #[.int .i64 1] X (VEnd (KF 1 1) X)) := Lib.hid (fun X => (lWhole_any 1 X (by decide)).mono (fun _ _ => v_f))
 have WZ : Hid (∀ X, Calls Tryz.prog 54 #[.int .i64 0] X (VEnd (KF 0 1) X)) := Lib.hid (fun X => (lWhole_any 0 X (by decide)).mono (fun _ _ => v_f))
 have PW : Hid (∀ X u, FAt X u 2 3 → Calls Tryz.prog 55 #[u, .int .i64 3] X (VEnd (KTF (0, 8, 27)) X)) := Lib.hid (fun X u h => (fPow3_any u 2 3 4 9 8 27 X h (by decide) (by decide) (sms (by decide)) (sms (by decide)) (sms (by decide)) (sms (by decide)) (sms (by decide)) (sms (by decide)) (by decide) (by decide) (by decide) (by decide)).mono (fun _ _ h => v_tf h))
 have PA : Hid (∀ X, Calls Tryz.prog 23 #[.string { data := #[50, 47, 52] }] X (VEnd (KTF (2, 0, 1)) X)) := Lib.hid (fun X => (fParse_any { data := #[50, 47, 52] } X (by decide)).mono (fun e w' h => by
  rcases h with ⟨p, q, h, _⟩ | ⟨_, h⟩
  ·exact absurd h (no_two p q)
  ·exact h))
 have PB : Hid (∀ X, Calls Tryz.prog 23 #[.string { data := #[51, 47, 49] }] X (VEnd (KTF (2, 0, 1)) X)) := Lib.hid (fun X => (fParse_any { data := #[51, 47, 49] } X (by decide)).mono (fun e w' h => by
  rcases h with ⟨p, q, h, _⟩ | ⟨_, h⟩
  ·exact absurd h (no_three p q)
  ·exact h))
 have HB : Hid (Below w.heap.size w w) := Lib.hid (Below.refl _ _)
 go_enter Tryz.func18, Tryz.ntmps18
 go_wp2_with fail
 have C := O68.out w
 unfold VEnd at C
 have HC := Lib.hid C
 clear C
 go_must (refine HC.out.mono ?_)
 rintro e w21 ⟨v5, rfl, ⟨y5, rfl, hx5⟩, hb5⟩
 obtain ⟨sra, tra, ara, dra, mra, ira, cra, jra, rfl⟩ := fat_shape hx5
 clear HC
 have hbb := below_then hb5 (below_one w21 (.cells #[.bool sra, .slice ara mra cra, .bool tra, .slice dra ira jra] 34))
 replace HB := Lib.hid (below_then HB.out hbb)
 have Ta := Lib.hid (FBox.new hx5)
 clear hx5 hb5 hbb
 go_wp2_with fail
 have HSZY1 := Lib.hid (size_alloc1 w21 (.cells #[.bool sra, .slice ara mra cra, .bool tra, .slice dra ira jra] 34))
 generalize w21.alloc (.cells #[.bool sra, .slice ara mra cra, .bool tra, .slice dra ira jra] 34) = Y1 at *
 generalize w21.heap.size = ta at *
 have C := O12.out Y1
 unfold VEnd at C
 have HC := Lib.hid C
 clear C
 go_must (refine HC.out.mono ?_)
 rintro e w22 ⟨v5, rfl, ⟨y5, rfl, hx5⟩, hb5⟩
 obtain ⟨srh, trh, arh, drh, mrh, irh, crh, jrh, rfl⟩ := fat_shape hx5
 clear HC
 have hbb := below_then hb5 (below_one w22 (.cells #[.bool srh, .slice arh mrh crh, .bool trh, .slice drh irh jrh] 34))
 replace Ta := Lib.hid (Ta.out.below hbb)
 replace HB := Lib.hid (below_then HB.out hbb)
 have Th := Lib.hid (FBox.new hx5)
 clear hx5 hb5 hbb
 go_wp2_with fail
 have HSZY2 := Lib.hid (size_alloc1 w22 (.cells #[.bool srh, .slice arh mrh crh, .bool trh, .slice drh irh jrh] 34))
 generalize w22.alloc (.cells #[.bool srh, .slice arh mrh crh, .bool trh, .slice drh irh jrh] 34) = Y2 at *
 generalize w22.heap.size = th at *
 have C := O13.out Y2
 unfold VEnd at C
 have HC := Lib.hid C
 clear C
 go_must (refine HC.out.mono ?_)
 rintro e w23 ⟨v5, rfl, ⟨y5, rfl, hx5⟩, hb5⟩
 obtain ⟨srt, trt, art, drt, mrt, irt, crt, jrt, rfl⟩ := fat_shape hx5
 clear HC
 have hbb := below_then hb5 (below_one w23 (.cells #[.bool srt, .slice art mrt crt, .bool trt, .slice drt irt jrt] 34))
 replace Ta := Lib.hid (Ta.out.below hbb)
 replace Th := Lib.hid (Th.out.below hbb)
 replace HB := Lib.hid (below_then HB.out hbb)
 have Tt := Lib.hid (FBox.new hx5)
 clear hx5 hb5 hbb
 obtain ⟨sh_3, th_3, ah_3, dh_3, mh_3, ih_3, ch_3, jh_3, ⟨ch_30, ch_31, ch_32, ch_33⟩, _, hh_3⟩ := Th.out.open
 obtain ⟨st_3, tt_3, at_3, dt_3, mt_3, it_3, ct_3, jt_3, ⟨ct_30, ct_31, ct_32, ct_33⟩, _, ht_3⟩ := Tt.out.open
 go_wp2_with fail
 have HSZY3 := Lib.hid (size_alloc1 w23 (.cells #[.bool srt, .slice art mrt crt, .bool trt, .slice drt irt jrt] 34))
 generalize w23.alloc (.cells #[.bool srt, .slice art mrt crt, .bool trt, .slice drt irt jrt] 34) = Y3 at *
 generalize w23.heap.size = tt at *
 have C := AD.out Y3 _ _ hh_3 ht_3
 unfold VEnd at C
 have HC := Lib.hid C
 clear C
 clear ch_30 ch_31 ch_32 ch_33 hh_3
 clear ct_30 ct_31 ct_32 ct_33 ht_3
 go_must (refine HC.out.mono ?_)
 rintro e w24 ⟨v5, rfl, ⟨y5, rfl, hx5⟩, hb5⟩
 obtain ⟨srs, trs, ars, drs, mrs, irs, crs, jrs, rfl⟩ := fat_shape hx5
 clear HC
 have hbb := below_then hb5 (below_one w24 (.cells #[.bool srs, .slice ars mrs crs, .bool trs, .slice drs irs jrs] 34))
 replace Ta := Lib.hid (Ta.out.below hbb)
 replace Th := Lib.hid (Th.out.below hbb)
 replace Tt := Lib.hid (Tt.out.below hbb)
 replace HB := Lib.hid (below_then HB.out hbb)
 have Ts := Lib.hid (FBox.new hx5)
 clear hx5 hb5 hbb
 clear Th
 go_wp2_with fail
 have HSZY4 := Lib.hid (size_alloc1 w24 (.cells #[.bool srs, .slice ars mrs crs, .bool trs, .slice drs irs jrs] 34))
 generalize w24.alloc (.cells #[.bool srs, .slice ars mrs crs, .bool trs, .slice drs irs jrs] 34) = Y4 at *
 generalize w24.heap.size = ts at *
 have C := WH.out Y4
 unfold VEnd at C
 have HC := Lib.hid C
 clear C
 go_must (refine HC.out.mono ?_)
 rintro e w25 ⟨v5, rfl, hx5, hb5⟩
 obtain ⟨sro, tro, aro, dro, mro, iro, cro, jro, rfl⟩ := fat_shape hx5
 clear HC
 replace Ta := Lib.hid (Ta.out.below hb5)
 replace Tt := Lib.hid (Tt.out.below hb5)
 replace Ts := Lib.hid (Ts.out.below hb5)
 replace HB := Lib.hid (below_then HB.out hb5)
 have Go := Lib.hid hx5
 clear hx5 hb5
 go_wp2_with fail
 have C := WZ.out w25
 unfold VEnd at C
 have HC := Lib.hid C
 clear C
 go_must (refine HC.out.mono ?_)
 rintro e w26 ⟨v5, rfl, hx5, hb5⟩
 obtain ⟨srz, trz, arz, drz, mrz, irz, crz, jrz, rfl⟩ := fat_shape hx5
 clear HC
 replace Ta := Lib.hid (Ta.out.below hb5)
 replace Tt := Lib.hid (Tt.out.below hb5)
 replace Ts := Lib.hid (Ts.out.below hb5)
 replace HB := Lib.hid (below_then HB.out hb5)
 replace Go := Lib.hid (fat_keeps Go.out hb5)
 have Gz := Lib.hid hx5
 clear hx5 hb5
 go_wp2_with fail
 have C := DV.out w26 _ _ Go.out Gz.out
 unfold VEnd at C
 have HC := Lib.hid C
 clear C
 go_must (refine HC.out.mono ?_)
 rintro e w27 ⟨v5, rfl, ⟨y5, rfl, hx5⟩, hb5⟩
 obtain ⟨srd, trd, ard, drd, mrd, ird, crd, jrd, rfl⟩ := fat_shape hx5
 clear HC
 have hbb := below_then hb5 (below_one w27 (.cells #[.bool srd, .slice ard mrd crd, .bool trd, .slice drd ird jrd] 34))
 replace Ta := Lib.hid (Ta.out.below hbb)
 replace Tt := Lib.hid (Tt.out.below hbb)
 replace Ts := Lib.hid (Ts.out.below hbb)
 replace HB := Lib.hid (below_then HB.out hbb)
 replace Go := Lib.hid (fat_keeps Go.out hbb)
 replace Gz := Lib.hid (fat_keeps Gz.out hbb)
 have Td := Lib.hid (FBox.new hx5)
 clear hx5 hb5 hbb
 clear Go Gz
 clear Td
 go_upto_region 6 with (fail)
 have HSZY5 := Lib.hid (size_alloc1 w27 (.cells #[.bool srd, .slice ard mrd crd, .bool trd, .slice drd ird jrd] 34))
 generalize w27.alloc (.cells #[.bool srd, .slice ard mrd crd, .bool trd, .slice drd ird jrd] 34) = Y5 at *
 generalize w27.heap.size = td at *
 obtain ⟨st, ut, at', dt, mt, it, ct, jt, lt, hft⟩ := Tt.out
 have BT := Lib.hid lt
 have HT := Lib.hid hft
 clear lt hft Tt
 refine regLV6 (p44 := 1) (q44 := 1) (R := (0, 2, 3)) (fun _ _ d _ _ h => by cases d <;> exact h) (Lib.hid (fun X h => ?ldv)) (Lib.hid (fun X h => WH.out X)) (Lib.hid (fun X x44 h k => SU.out X _ _ k (fat_keeps HT.out h))) ?_
 case ldv =>
  obtain ⟨⟨f0, f1, f2, f3⟩, _⟩ := cellsF (BT.out.below h)
  exact ⟨f0, f1, f2, f3⟩
 intro X x44 x46 x43 sv tv av dv mv iv cv jv t11 hBX L11 T11
 clear BT HT
 replace Ta := Lib.hid (Ta.out.below hBX.out)
 replace Ts := Lib.hid (Ts.out.below hBX.out)
 replace HB := Lib.hid (below_then HB.out hBX.out)
 have Tw := T11
 clear T11 hBX L11
 go_upto_region 7 with (fail)
 obtain ⟨sw_7, tw_7, aw_7, dw_7, mw_7, iw_7, cw_7, jw_7, ⟨cw_70, cw_71, cw_72, cw_73⟩, _, hw_7⟩ := Tw.out.open
 go_wp2_with fail
 have C := PW.out X _ hw_7
 unfold VEnd at C
 have HC := Lib.hid C
 clear C
 clear cw_70 cw_71 cw_72 cw_73 hw_7
 go_must (refine HC.out.mono ?_)
 rintro e w28 ⟨v5, rfl, ⟨y5, rfl, hx5⟩, hb5⟩
 obtain ⟨src, trc, arc, drc, mrc, irc, crc, jrc, rfl⟩ := fat_shape hx5
 clear HC
 have hbb := below_then hb5 (below_one w28 (.cells #[.bool src, .slice arc mrc crc, .bool trc, .slice drc irc jrc] 34))
 replace Ta := Lib.hid (Ta.out.below hbb)
 replace Ts := Lib.hid (Ts.out.below hbb)
 replace Tw := Lib.hid (Tw.out.below hbb)
 replace HB := Lib.hid (below_then HB.out hbb)
 have Tc := Lib.hid (FBox.new hx5)
 clear hx5 hb5 hbb
 clear Tw
 go_wp2_with fail
 have HSZY6 := Lib.hid (size_alloc1 w28 (.cells #[.bool src, .slice arc mrc crc, .bool trc, .slice drc irc jrc] 34))
 generalize w28.alloc (.cells #[.bool src, .slice arc mrc crc, .bool trc, .slice drc irc jrc] 34) = Y6 at *
 generalize w28.heap.size = tc at *
 have C := PA.out Y6
 unfold VEnd at C
 have HC := Lib.hid C
 clear C
 go_must (refine HC.out.mono ?_)
 rintro e w29 ⟨v5, rfl, ⟨y5, rfl, hx5⟩, hb5⟩
 obtain ⟨sre1, tre1, are1, dre1, mre1, ire1, cre1, jre1, rfl⟩ := fat_shape hx5
 clear HC
 have hbb := below_then hb5 (below_one w29 (.cells #[.bool sre1, .slice are1 mre1 cre1, .bool tre1, .slice dre1 ire1 jre1] 34))
 replace Ta := Lib.hid (Ta.out.below hbb)
 replace Ts := Lib.hid (Ts.out.below hbb)
 replace Tc := Lib.hid (Tc.out.below hbb)
 replace HB := Lib.hid (below_then HB.out hbb)
 have Te1 := Lib.hid (FBox.new hx5)
 clear hx5 hb5 hbb
 clear Te1
 go_wp2_with fail
 have HSZY7 := Lib.hid (size_alloc1 w29 (.cells #[.bool sre1, .slice are1 mre1 cre1, .bool tre1, .slice dre1 ire1 jre1] 34))
 generalize w29.alloc (.cells #[.bool sre1, .slice are1 mre1 cre1, .bool tre1, .slice dre1 ire1 jre1] 34) = Y7 at *
 generalize w29.heap.size = te1 at *
 have C := PB.out Y7
 unfold VEnd at C
 have HC := Lib.hid C
 clear C
 go_must (refine HC.out.mono ?_)
 rintro e w30 ⟨v5, rfl, ⟨y5, rfl, hx5⟩, hb5⟩
 obtain ⟨sre2, tre2, are2, dre2, mre2, ire2, cre2, jre2, rfl⟩ := fat_shape hx5
 clear HC
 have hbb := below_then hb5 (below_one w30 (.cells #[.bool sre2, .slice are2 mre2 cre2, .bool tre2, .slice dre2 ire2 jre2] 34))
 replace Ta := Lib.hid (Ta.out.below hbb)
 replace Ts := Lib.hid (Ts.out.below hbb)
 replace Tc := Lib.hid (Tc.out.below hbb)
 replace HB := Lib.hid (below_then HB.out hbb)
 have Te2 := Lib.hid (FBox.new hx5)
 clear hx5 hb5 hbb
 clear Te2
 go_upto_region 10 with (fail)
 have HSZY8 := Lib.hid (size_alloc1 w30 (.cells #[.bool sre2, .slice are2 mre2 cre2, .bool tre2, .slice dre2 ire2 jre2] 34))
 generalize w30.alloc (.cells #[.bool sre2, .slice are2 mre2 cre2, .bool tre2, .slice dre2 ire2 jre2] 34) = Y8 at *
 generalize w30.heap.size = te2 at *
 obtain ⟨sa_10, ta_10, aa_10, da_10, ma_10, ia_10, ca_10, ja_10, ⟨ca_100, ca_101, ca_102, ca_103⟩, _, ha_10⟩ := Ta.out.open
 go_wp2_with fail
 have C := S1.out Y8 _ ha_10
 unfold VEnd at C
 have HC := Lib.hid C
 clear C
 clear ca_100 ca_101 ca_102 ca_103 ha_10
 go_must (refine HC.out.mono ?_)
 rintro e w31 ⟨v5, rfl, hv5, hb5⟩
 obtain rfl := hv5
 clear HC
 replace Ta := Lib.hid (Ta.out.below hb5)
 replace Ts := Lib.hid (Ts.out.below hb5)
 replace Tc := Lib.hid (Tc.out.below hb5)
 replace HB := Lib.hid (below_then HB.out hb5)
 clear hb5
 clear Ta
 obtain ⟨ss_11, ts_11, as_11, ds_11, ms_11, is_11, cs_11, js_11, ⟨cs_110, cs_111, cs_112, cs_113⟩, _, hs_11⟩ := Ts.out.open
 go_wp2_with fail
 have C := S2.out w31 _ hs_11
 unfold VEnd at C
 have HC := Lib.hid C
 clear C
 clear cs_110 cs_111 cs_112 cs_113 hs_11
 go_must (refine HC.out.mono ?_)
 rintro e w32 ⟨v5, rfl, hv5, hb5⟩
 obtain rfl := hv5
 clear HC
 replace Ts := Lib.hid (Ts.out.below hb5)
 replace Tc := Lib.hid (Tc.out.below hb5)
 replace HB := Lib.hid (below_then HB.out hb5)
 clear hb5
 clear Ts
 obtain ⟨sc_12, tc_12, ac_12, dc_12, mc_12, ic_12, cc_12, jc_12, ⟨cc_120, cc_121, cc_122, cc_123⟩, _, hc_12⟩ := Tc.out.open
 go_wp2_with fail
 have C := S3.out w32 _ hc_12
 unfold VEnd at C
 have HC := Lib.hid C
 clear C
 clear cc_120 cc_121 cc_122 cc_123 hc_12
 go_must (refine HC.out.mono ?_)
 rintro e w33 ⟨v5, rfl, hv5, hb5⟩
 obtain rfl := hv5
 clear HC
 replace Tc := Lib.hid (Tc.out.below hb5)
 replace HB := Lib.hid (below_then HB.out hb5)
 clear hb5
 clear Tc
 go_wp2_with fail
 go_ret
 exact ⟨_, rfl, rfl, HB.out⟩
end Go.Proofs.YtepakogbbomaoaaGreatDoor
