/-
 The law FracWritten. (tools/genFwr.py makes this text.)
-/
import Derived.Test.YtepakogbbomaoaaGreatDoorFwfW
import Derived.Deep.RegionHeld3
namespace Go.Proofs.YtepakogbbomaoaaGreatDoor
open Go.RowKit Go.Shelf
set_option linter.unusedVariables false
set_option maxRecDepth 100000
set_option maxHeartbeats 16000000 in
theorem walk_FracWritten (v : Value) (l : List Int) (w : World) (hv : Row .i64 w v l) (hr : ∀ n ∈ l, -9223372036854775808 ≤ n ∧ n ≤ 9223372036854775807) :
  Calls Tryz.prog 4 #[v] w fun e w' => e = .returned (.bool true) ∧ Below w.heap.size w w' := by
 have A : Nb (frP l 0) (frQ l 0) := nb_lo (fr_low hr 0).1 (fr_low hr 0).2.1 (fr_low hr 0).2.2 (by decide)
 have B : Nb (frP l 4) (frQ l 4) := nb_lo (fr_low hr 4).1 (fr_low hr 4).2.1 (fr_low hr 4).2.2 (by decide)
 obtain ⟨s1, s2⟩ := ftxt_size (fr_low hr 0).2.1 (fr_low hr 0).2.2 (by decide)
 obtain ⟨t1, t2⟩ := ftxt_size (fr_low hr 4).2.1 (fr_low hr 4).2.2 (by decide)
 obtain ⟨n, d, c, z, hdi, hsu, hsg, hcm, hce⟩ := dif_is (fr_v hr 0) (fr_v hr 4) (by decide)
 have F0 : Hid (∀ X : World, Row .i64 X v l → Calls Tryz.prog 5 #[v, .int .i64 0] X (VEnd (KR (frP l 0) (frQ l 0)) X)) := Lib.hid (fun X h3 => (fr4_any v l 0 X h3 hr ⟨by decide, by decide⟩).mono (fun _ _ => v_r))
 have F4 : Hid (∀ X : World, Row .i64 X v l → Calls Tryz.prog 5 #[v, .int .i64 4] X (VEnd (KR (frP l 4) (frQ l 4)) X)) := Lib.hid (fun X h3 => (fr4_any v l 4 X h3 hr ⟨by decide, by decide⟩).mono (fun _ _ => v_r))
 clear hr
 generalize frP l 0 = p1 at *
 generalize frQ l 0 = q1 at *
 generalize frP l 4 = p2 at *
 generalize frQ l 4 = q2 at *
 have TT := Lib.hid (two_texts (fTxt p1 q1) (fTxt p2 q2) s2 t2)
 have SZ := Lib.hid (And.intro s2 t2)
 have PA1 := Lib.hid (parse_ftxt A (by omega))
 have PA2 := Lib.hid (parse_ftxt B (by omega))
 have OF1 := Lib.hid (of_nb A)
 have OF2 := Lib.hid (of_nb B)
 have ST1 : Hid (∀ (X : World) (u : Value), FAt X u p1 q1 → Calls Tryz.prog 20 #[u] X (VEnd (KX (.string (fTxt p1 q1))) X)) := Lib.hid (fun X u h => (fString_any u p1 q1 X h (by have := A.low.pos; omega) (nb_words A.n) (nb_words A.d)).mono (fun _ _ h => ⟨_, h.1, rfl, h.2⟩))
 have ST2 : Hid (∀ (X : World) (u : Value), FAt X u p2 q2 → Calls Tryz.prog 20 #[u] X (VEnd (KX (.string (fTxt p2 q2))) X)) := Lib.hid (fun X u h => (fString_any u p2 q2 X h (by have := B.low.pos; omega) (nb_words B.n) (nb_words B.d)).mono (fun _ _ h => ⟨_, h.1, rfl, h.2⟩))
 have EQ1 := Lib.hid (eq_ftxt A A (b := true) (by rw [cmpF_nil.2 rfl]; rfl))
 have EQ2 := Lib.hid (eq_ftxt B B (b := true) (by rw [cmpF_nil.2 rfl]; rfl))
 have EQ3 := Lib.hid (eq_ftxt A B rfl)
 rw [hce] at EQ3
 have SUB := Lib.hid hsu
 have SGN := Lib.hid hsg
 have CMQ := Lib.hid hcm
 have DI := Lib.hid hdi
 unfold BinC at SUB
 unfold SgnC at SGN
 unfold CmpC at CMQ
 have LV : Hid (∀ X : World, Calls Tryz.prog 18 #[] X (VEnd (KX (.bool true)) X)) := Lib.hid (fun X => lives4_any X)
 have HL := Lib.hid hv
 have HB : Hid (Below w.heap.size w w) := Lib.hid (Below.refl _ _)
 obtain ⟨pv, cv, rfl, hcv, hcvm⟩ := (show ∃ p c, v = .slice p l.length c ∧ l.length ≤ c ∧ c ≤ 9223372036854775807 by obtain ⟨p, c, e, h1, h2, _⟩ := hv; exact ⟨p, c, e, h1, h2⟩)
 clear hv A B s1 s2 t1 t2 hdi hsu hsg hcm hce
 generalize hll : l.length = ll at *
 clear hll
 generalize hS1 : fTxt p1 q1 = S1 at *
 generalize hS2 : fTxt p2 q2 = S2 at *
 have HS := Lib.hid (And.intro hS1 hS2)
 clear hS1 hS2
 go_enter Tryz.func4, Tryz.ntmps4
 go_wp2_with fail
 have C := F0.out w HL.out
 unfold VEnd at C
 have HC := Lib.hid C
 clear C
 go_must (refine HC.out.mono ?_)
 rintro e w21 ⟨v5, rfl, hx5, hb5⟩
 obtain ⟨srf, trf, arf, drf, mrf, irf, crf, jrf, rfl⟩ := rf_shape hx5
 clear HC
 have U := Lib.hid (below_then HB.out hb5)
 clear HB
 have HB := U
 clear U
 have U := Lib.hid (row_keeps HL.out hb5)
 clear HL
 have HL := U
 clear U
 have Gf := Lib.hid hx5
 clear hx5 hb5
 clear F0
 go_wp2_with fail
 have C := OF1.out w21 _ Gf.out
 unfold VEnd at C
 have HC := Lib.hid C
 clear C
 go_must (refine HC.out.mono ?_)
 rintro e w22 ⟨v5, rfl, hx5, hb5⟩
 obtain ⟨sra, tra, ara, dra, mra, ira, cra, jra, rfl⟩ := fat_shape hx5
 clear HC
 have hbb := below_then hb5 (below_one w22 (.cells #[.bool sra, .slice ara mra cra, .bool tra, .slice dra ira jra] 34))
 have U := Lib.hid (below_then HB.out hbb)
 clear HB
 have HB := U
 clear U
 have U := Lib.hid (row_keeps HL.out hbb)
 clear HL
 have HL := U
 clear U
 have U := Lib.hid (rf_keeps Gf.out hbb)
 clear Gf
 have Gf := U
 clear U
 have Ta := Lib.hid (FBox.new hx5)
 clear hx5 hb5 hbb
 clear Gf OF1
 go_wp2_with fail
 have HSZY1 := Lib.hid (size_alloc1 w22 (.cells #[.bool sra, .slice ara mra cra, .bool tra, .slice dra ira jra] 34))
 generalize w22.alloc (.cells #[.bool sra, .slice ara mra cra, .bool tra, .slice dra ira jra] 34) = Y1 at *
 generalize w22.heap.size = ta at *
 have C := F4.out Y1 HL.out
 unfold VEnd at C
 have HC := Lib.hid C
 clear C
 go_must (refine HC.out.mono ?_)
 rintro e w23 ⟨v5, rfl, hx5, hb5⟩
 obtain ⟨srg, trg, arg, drg, mrg, irg, crg, jrg, rfl⟩ := rf_shape hx5
 clear HC
 have U := Lib.hid (Ta.out.below hb5)
 clear Ta
 have Ta := U
 clear U
 have U := Lib.hid (below_then HB.out hb5)
 clear HB
 have HB := U
 clear U
 have U := Lib.hid (row_keeps HL.out hb5)
 clear HL
 have HL := U
 clear U
 have Gg := Lib.hid hx5
 clear hx5 hb5
 clear F4 HL
 go_wp2_with fail
 have C := OF2.out w23 _ Gg.out
 unfold VEnd at C
 have HC := Lib.hid C
 clear C
 go_must (refine HC.out.mono ?_)
 rintro e w24 ⟨v5, rfl, hx5, hb5⟩
 obtain ⟨srb, trb, arb, drb, mrb, irb, crb, jrb, rfl⟩ := fat_shape hx5
 clear HC
 have hbb := below_then hb5 (below_one w24 (.cells #[.bool srb, .slice arb mrb crb, .bool trb, .slice drb irb jrb] 34))
 have U := Lib.hid (Ta.out.below hbb)
 clear Ta
 have Ta := U
 clear U
 have U := Lib.hid (below_then HB.out hbb)
 clear HB
 have HB := U
 clear U
 have U := Lib.hid (rf_keeps Gg.out hbb)
 clear Gg
 have Gg := U
 clear U
 have Tb := Lib.hid (FBox.new hx5)
 clear hx5 hb5 hbb
 clear Gg OF2
 go_upto_region 3 with (fail)
 have HSZY2 := Lib.hid (size_alloc1 w24 (.cells #[.bool srb, .slice arb mrb crb, .bool trb, .slice drb irb jrb] 34))
 generalize w24.alloc (.cells #[.bool srb, .slice arb mrb crb, .bool trb, .slice drb irb jrb] 34) = Y2 at *
 generalize w24.heap.size = tb at *
 have W3 := Lib.hid (wr_new Y2)
 have hb3 := below_one Y2 (.cells #[.slice none 0 0] 52)
 have G3 := Lib.hid hb3
 have AA := Lib.hid (Ta.out.below hb3)
 obtain ⟨sa, ta0, aa, da, ma, ia, ca, ja, ⟨ca0, ca1, ca2, ca3⟩, _, ha⟩ := AA.out.open
 have HA := Lib.hid ha
 clear hb3 ha AA
 go_wp2_with fail
 generalize Y2.alloc (.cells #[.slice none 0 0] 52) = w3 at *
 obtain ⟨rr, hrr⟩ : ∃ rr, rr = Y2.heap.size := ⟨_, rfl⟩
 rw [← hrr] at W3 ⊢
 have HRR := Lib.hid hrr
 clear hrr
 have C := ST1.out w3 _ HA.out
 unfold VEnd at C
 have HC := Lib.hid C
 clear C HA
 go_must (refine HC.out.mono ?_)
 rintro e w4 ⟨v4, rfl, hv4, hb4⟩
 obtain rfl := hv4
 clear HC
 have W4 := Lib.hid (wr_below W3.out hb4)
 have G4 := Lib.hid (below_then G3.out hb4)
 clear hb4 ca0 ca1 ca2 ca3 W3 G3
 go_wp2_with fail
 refine (devText_any rr rr [] S1 w4 W4.out (by have := SZ.out; simp; omega)).mono ?_
 rintro e w5 ⟨rfl, g5, hw5, hg5, hk5⟩
 have W5 := Lib.hid hw5
 have G5 := Lib.hid (G4.out.trans (hk5.below G4.out.size (fun k hk => by have := HRR.out; omega)))
 have GG5 : Hid (Y2.heap.size ≤ g5) := Lib.hid (by have := HRR.out; have := G4.out.size; omega)
 have BB := Lib.hid (Tb.out.below G5.out)
 obtain ⟨sb, tb0, ab, db, mb, ib, cb, jb, ⟨cb0, cb1, cb2, cb3⟩, _, hb⟩ := BB.out.open
 have HBB := Lib.hid hb
 clear hw5 hg5 hk5 W4 G4 BB hb
 go_wp2_with fail
 have C := ST2.out w5 _ HBB.out
 unfold VEnd at C
 have HC := Lib.hid C
 clear C HBB
 go_must (refine HC.out.mono ?_)
 rintro e w6 ⟨v6, rfl, hv6, hb6⟩
 obtain rfl := hv6
 clear HC
 have W6 := Lib.hid (wr_below W5.out hb6)
 have G6 := Lib.hid (G5.out.trans (hb6.mono G5.out.size))
 clear hb6 cb0 cb1 cb2 cb3 W5 G5
 go_wp2_with fail
 refine (devText_any rr g5 ([] ++ (varN S1.size ++ strB S1)) S2 w6 W6.out (by
  have h1 := SZ.out; have h5 := varN_len10 (n := S1.size) (by omega); have h6 := strB_length S1
  simp only [List.length_append, List.length_nil]; omega)).mono ?_
 rintro e w7 ⟨rfl, g7, hw7, hg7, hk7⟩
 have W7 := Lib.hid hw7
 have G7 := Lib.hid (G6.out.trans (hk7.below G6.out.size (fun k hk => by have := HRR.out; have := GG5.out; omega)))
 clear hw7 hg7 hk7 W6 G6 GG5
 generalize ([] ++ (varN S1.size ++ strB S1)) ++ (varN S2.size ++ strB S2) = L at *
 generalize varN S2.size ++ strB S2 = M at *
 go_wp2_with fail
 refine (devDone_any rr g7 L w7 W7.out (by have := TT.out.len; omega)).mono ?_
 rintro e w8 ⟨x8, rfl, hx8, hb8⟩
 have hbb := G7.out.trans (hb8.mono G7.out.size)
 have Ta8 := Lib.hid (Ta.out.below hbb)
 have Tb8 := Lib.hid (Tb.out.below hbb)
 have HB8 := Lib.hid (below_then HB.out hbb)
 have X8 := Lib.hid (row_of_fresh hx8)
 clear hx8 hb8 hbb W7 G7 Ta Tb HB HRR
 go_wp2_with fail
 refine (devRead_any _ L w8 X8.out TT.out.lt (by have := TT.out.len; omega)).mono ?_
 rintro e w9 ⟨r, b, rfl, hrw, hr1, hb1, hb2, hb⟩
 have RX9 := Lib.hid (rx_of hrw)
 have RB : Hid (w8.heap.size ≤ r ∧ w8.heap.size ≤ b) := Lib.hid ⟨hr1, hb1⟩
 have RB9 := Lib.hid hb2
 have G9 := Lib.hid hb
 clear hrw hr1 hb1 hb2 hb X8
 go_wp2_with fail
 refine (devRdText_any r b (L, 0) w9 RX9.out TT.out.lt RB9.out).mono ?_
 rw [TT.out.one]
 rintro e w10 ⟨rfl, hrx, hk⟩
 rw [str_back]
 have RX10 := Lib.hid hrx
 have RB10 := Lib.hid (Nat.lt_of_lt_of_le RB9.out hk.size)
 have G10 := Lib.hid (G9.out.trans (hk.below G9.out.size (fun k hk => by have := RB.out; omega)))
 clear hrx hk RX9 RB9 G9
 go_wp2_with fail
 have C := PA1.out w10
 unfold VEnd at C
 have HC := Lib.hid C
 clear C PA1
 go_must (refine HC.out.mono ?_)
 rintro e w11 ⟨v5, rfl, ⟨y5, rfl, hx5⟩, hb5⟩
 obtain ⟨srx, trx, arx, drx, mrx, irx, crx, jrx, rfl⟩ := fat_shape hx5
 clear HC
 have hbb := below_then hb5 (below_one w11 (.cells #[.bool srx, .slice arx mrx crx, .bool trx, .slice drx irx jrx] 34))
 have RR : Hid (r < w10.heap.size) := Lib.hid (by obtain ⟨_, ⟨_, hl, _⟩, _⟩ := RX10.out; exact hl.lt)
 have RX12 := Lib.hid (rx_below RX10.out RB10.out hbb)
 have RB12 := Lib.hid (Nat.lt_of_lt_of_le RB10.out hbb.size)
 have G12 := Lib.hid (G10.out.trans (hbb.mono G10.out.size))
 have TX := Lib.hid (FBox.new hx5)
 have HNE : Hid (¬ (w11.heap.size = r)) := Lib.hid (by have := RR.out; have := hb5.size; omega)
 clear hx5 hb5 hbb RX10 RB10 G10 RR
 go_wp2_with fail
 generalize w11.alloc (.cells #[.bool srx, .slice arx mrx crx, .bool trx, .slice drx irx jrx] 34) = w12 at *
 generalize w11.heap.size = tx at *
 refine (devRdText_any r b (M, 0) w12 RX12.out TT.out.m8 RB12.out).mono ?_
 rw [TT.out.two]
 rintro e w13 ⟨rfl, hrx, hk⟩
 rw [str_back]
 have RX13 := Lib.hid hrx
 have RB13 := Lib.hid (Nat.lt_of_lt_of_le RB12.out hk.size)
 have G13 := Lib.hid (G12.out.trans (hk.below G12.out.size (fun k hk => by have := RB.out; omega)))
 have TX13 := Lib.hid (fbox_farW TX.out (rx_farW RX12.out) hk HNE.out)
 clear hrx hk RX12 RB12 G12 TX HNE
 go_wp2_with fail
 have C := PA2.out w13
 unfold VEnd at C
 have HC := Lib.hid C
 clear C PA2
 go_must (refine HC.out.mono ?_)
 rintro e w14 ⟨v5, rfl, ⟨y5, rfl, hx5⟩, hb5⟩
 obtain ⟨sry, try_, ary, dry, mry, iry, cry, jry, rfl⟩ := fat_shape hx5
 clear HC
 have hbb := below_then hb5 (below_one w14 (.cells #[.bool sry, .slice ary mry cry, .bool try_, .slice dry iry jry] 34))
 have hG := G13.out.trans (hbb.mono G13.out.size)
 have Ra := Lib.hid (rx_below RX13.out RB13.out hbb)
 have Tx := Lib.hid (TX13.out.below hbb)
 have Ty := Lib.hid (FBox.new hx5)
 have Ta := Lib.hid (Ta8.out.below hG)
 have Tb := Lib.hid (Tb8.out.below hG)
 have HB := Lib.hid (below_then HB8.out hG)
 clear hx5 hb5 hbb hG RX13 RB13 G13 TX13 Ta8 Tb8 HB8 RB
 go_upto_region 11 with (fail)
 generalize w14.alloc (.cells #[.bool sry, .slice ary mry cry, .bool try_, .slice dry iry jry] 34) = w15 at *
 generalize w14.heap.size = ty at *
 obtain ⟨sx, tx0, ax, dx, mx, ix, cx, jx, ⟨cx0, cx1, cx2, cx3⟩, _, hx⟩ := Tx.out.open
 obtain ⟨sa, ta0, aa, da, ma, ia, ca, ja, ⟨ca0, ca1, ca2, ca3⟩, _, ha⟩ := Ta.out.open
 have HX := Lib.hid hx
 have HA := Lib.hid ha
 clear hx ha
 go_wp2_with fail
 refine (devRdEnd_any r b ([], 0) w15 Ra.out).mono ?_
 rintro e w16 ⟨rfl, rfl⟩
 rw [show ((rEnd ([], 0) : Nat) : Int) = 0 from rfl]
 clear Ra
 go_wp2_with fail
 have C := EQ1.out w15 _ _ HX.out HA.out
 unfold VEnd at C
 have HC := Lib.hid C
 clear C HX HA cx0 cx1 cx2 cx3 ca0 ca1 ca2 ca3 EQ1
 go_must (refine HC.out.mono ?_)
 rintro e w17 ⟨v5, rfl, hv5, hb5⟩
 obtain rfl := hv5
 clear HC
 have U := Lib.hid (Tx.out.below hb5)
 clear Tx
 have Tx := U
 clear U
 have U := Lib.hid (Ty.out.below hb5)
 clear Ty
 have Ty := U
 clear U
 have U := Lib.hid (Ta.out.below hb5)
 clear Ta
 have Ta := U
 clear U
 have U := Lib.hid (Tb.out.below hb5)
 clear Tb
 have Tb := U
 clear U
 have U := Lib.hid (below_then HB.out hb5)
 clear HB
 have HB := U
 clear U
 clear hb5
 obtain ⟨sy_40, ty_40, ay_40, dy_40, my_40, iy_40, cy_40, jy_40, ⟨cy_400, cy_401, cy_402, cy_403⟩, _, hy_40⟩ := Ty.out.open
 obtain ⟨sb_40, tb_40, ab_40, db_40, mb_40, ib_40, cb_40, jb_40, ⟨cb_400, cb_401, cb_402, cb_403⟩, _, hb_40⟩ := Tb.out.open
 go_wp2_with fail
 have C := EQ2.out w17 _ _ hy_40 hb_40
 unfold VEnd at C
 have HC := Lib.hid C
 clear C
 clear cy_400 cy_401 cy_402 cy_403 hy_40
 clear cb_400 cb_401 cb_402 cb_403 hb_40
 go_must (refine HC.out.mono ?_)
 rintro e w61 ⟨v5, rfl, hv5, hb5⟩
 obtain rfl := hv5
 clear HC
 have U := Lib.hid (Tx.out.below hb5)
 clear Tx
 have Tx := U
 clear U
 have U := Lib.hid (Ty.out.below hb5)
 clear Ty
 have Ty := U
 clear U
 have U := Lib.hid (Ta.out.below hb5)
 clear Ta
 have Ta := U
 clear U
 have U := Lib.hid (Tb.out.below hb5)
 clear Tb
 have Tb := U
 clear U
 have U := Lib.hid (below_then HB.out hb5)
 clear HB
 have HB := U
 clear U
 clear hb5
 clear EQ2
 obtain ⟨sx_41, tx_41, ax_41, dx_41, mx_41, ix_41, cx_41, jx_41, ⟨cx_410, cx_411, cx_412, cx_413⟩, _, hx_41⟩ := Tx.out.open
 obtain ⟨sy_41, ty_41, ay_41, dy_41, my_41, iy_41, cy_41, jy_41, ⟨cy_410, cy_411, cy_412, cy_413⟩, _, hy_41⟩ := Ty.out.open
 go_wp2_with fail
 have C := SUB.out w61 _ _ hx_41 hy_41
 unfold VEnd at C
 have HC := Lib.hid C
 clear C
 clear cx_410 cx_411 cx_412 cx_413 hx_41
 clear cy_410 cy_411 cy_412 cy_413 hy_41
 go_must (refine HC.out.mono ?_)
 rintro e w62 ⟨v5, rfl, ⟨y5, rfl, hx5⟩, hb5⟩
 obtain ⟨srd, trd, ard, drd, mrd, ird, crd, jrd, rfl⟩ := fat_shape hx5
 clear HC
 have hbb := below_then hb5 (below_one w62 (.cells #[.bool srd, .slice ard mrd crd, .bool trd, .slice drd ird jrd] 34))
 have U := Lib.hid (Tx.out.below hbb)
 clear Tx
 have Tx := U
 clear U
 have U := Lib.hid (Ty.out.below hbb)
 clear Ty
 have Ty := U
 clear U
 have U := Lib.hid (Ta.out.below hbb)
 clear Ta
 have Ta := U
 clear U
 have U := Lib.hid (Tb.out.below hbb)
 clear Tb
 have Tb := U
 clear U
 have U := Lib.hid (below_then HB.out hbb)
 clear HB
 have HB := U
 clear U
 have Td := Lib.hid (FBox.new hx5)
 clear hx5 hb5 hbb
 clear SUB
 clear Tx
 clear Ty
 obtain ⟨sa_42, ta_42, aa_42, da_42, ma_42, ia_42, ca_42, ja_42, ⟨ca_420, ca_421, ca_422, ca_423⟩, _, ha_42⟩ := Ta.out.open
 obtain ⟨sb_42, tb_42, ab_42, db_42, mb_42, ib_42, cb_42, jb_42, ⟨cb_420, cb_421, cb_422, cb_423⟩, _, hb_42⟩ := Tb.out.open
 go_wp2_with fail
 have HSZZ1 := Lib.hid (size_alloc1 w62 (.cells #[.bool srd, .slice ard mrd crd, .bool trd, .slice drd ird jrd] 34))
 generalize w62.alloc (.cells #[.bool srd, .slice ard mrd crd, .bool trd, .slice drd ird jrd] 34) = Z1 at *
 generalize w62.heap.size = td at *
 have C := EQ3.out Z1 _ _ ha_42 hb_42
 unfold VEnd at C
 have HC := Lib.hid C
 clear C
 clear ca_420 ca_421 ca_422 ca_423 ha_42
 clear cb_420 cb_421 cb_422 cb_423 hb_42
 go_must (refine HC.out.mono ?_)
 rintro e w63 ⟨v5, rfl, hv5, hb5⟩
 obtain rfl := hv5
 clear HC
 have U := Lib.hid (Ta.out.below hb5)
 clear Ta
 have Ta := U
 clear U
 have U := Lib.hid (Tb.out.below hb5)
 clear Tb
 have Tb := U
 clear U
 have U := Lib.hid (Td.out.below hb5)
 clear Td
 have Td := U
 clear U
 have U := Lib.hid (below_then HB.out hb5)
 clear HB
 have HB := U
 clear U
 clear hb5
 clear EQ3
 have hc01 : c = 0 ∨ c ≠ 0 := Classical.em _
 rcases hc01 with hc0 | hc0
 ·obtain ⟨hz, e1, e2⟩ := DI.out.same hc0
  obtain ⟨hS1, hS2⟩ := HS.out
  rw [show (c == 0) = true by rw [hc0]; rfl]
  have hsz := SZ.out.1
  subst hz e1 e2
  obtain rfl : S1 = S2 := hS1.symm.trans hS2
  clear hc0 DI TT CMQ SZ HS hS1 hS2 
  obtain ⟨H, hH⟩ : ∃ H, bytesN (strN ⟨#[102, 114, 97, 99]⟩) (strN S1) = H := ⟨_, rfl⟩
  have HH : Hid (∀ X : World, Calls Tryz.prog 27 #[.string ⟨#[102, 114, 97, 99]⟩, .slice (some ⟨X.heap.size, 0, none⟩) S1.size (grownCap X S1.size 0 5)] (Lib.bytesWorld X 5 S1) (fun e w' => e = .returned (.int .u64 (H : Int)) ∧ Below X.heap.size X w')) := Lib.hid (fun X => by
   have := bytes_any ⟨#[102, 114, 97, 99]⟩ _ _ (Lib.bytesWorld X 5 S1) (by decide) (bytes_of_string X S1 (by omega)) (fun k hk => by obtain rfl : k = X.heap.size := hk; rw [Lib.bytesWorld_size]; omega) (by rw [strN_length]; omega)
   rw [hH] at this
   exact this.mono (fun e w' h => ⟨h.1, below_then (below_bytesW _ X S1 5 (Nat.le_refl _)) h.2⟩))
  clear hH
  obtain ⟨sd9, td9, ad9, dd9, md9, id9, cd9, jd9, ⟨cd90, cd91, cd92, cd93⟩, _, hd9⟩ := Td.out.open
  obtain ⟨sa9, ta9, aa9, da9, ma9, ia9, ca9, ja9, ⟨ca90, ca91, ca92, ca93⟩, _, ha9⟩ := Ta.out.open
  obtain ⟨sb9, tb9, ab9, db9, mb9, ib9, cb9, jb9, ⟨cb90, cb91, cb92, cb93⟩, _, hb9⟩ := Tb.out.open
  have ltd := Td.out.lt
  have lta := Ta.out.lt
  have ltb := Tb.out.lt
  have CELLS : Hid (∀ X : World, Below w63.heap.size w63 X → X.cell? ⟨td, 0, none⟩ = some (.bool sd9) ∧ X.cell? ⟨td, 1, none⟩ = some (.slice ad9 md9 cd9) ∧ X.cell? ⟨td, 2, none⟩ = some (.bool td9) ∧ X.cell? ⟨td, 3, none⟩ = some (.slice dd9 id9 jd9) ∧ X.cell? ⟨ta, 0, none⟩ = some (.bool sa9) ∧ X.cell? ⟨ta, 1, none⟩ = some (.slice aa9 ma9 ca9) ∧ X.cell? ⟨ta, 2, none⟩ = some (.bool ta9) ∧ X.cell? ⟨ta, 3, none⟩ = some (.slice da9 ia9 ja9) ∧ X.cell? ⟨tb, 0, none⟩ = some (.bool sb9) ∧ X.cell? ⟨tb, 1, none⟩ = some (.slice ab9 mb9 cb9) ∧ X.cell? ⟨tb, 2, none⟩ = some (.bool tb9) ∧ X.cell? ⟨tb, 3, none⟩ = some (.slice db9 ib9 jb9)) := Lib.hid (fun X h => ⟨(h.cell (p := ⟨td, 0, none⟩) ltd).trans cd90, (h.cell (p := ⟨td, 1, none⟩) ltd).trans cd91, (h.cell (p := ⟨td, 2, none⟩) ltd).trans cd92, (h.cell (p := ⟨td, 3, none⟩) ltd).trans cd93, (h.cell (p := ⟨ta, 0, none⟩) lta).trans ca90, (h.cell (p := ⟨ta, 1, none⟩) lta).trans ca91, (h.cell (p := ⟨ta, 2, none⟩) lta).trans ca92, (h.cell (p := ⟨ta, 3, none⟩) lta).trans ca93, (h.cell (p := ⟨tb, 0, none⟩) ltb).trans cb90, (h.cell (p := ⟨tb, 1, none⟩) ltb).trans cb91, (h.cell (p := ⟨tb, 2, none⟩) ltb).trans cb92, (h.cell (p := ⟨tb, 3, none⟩) ltb).trans cb93⟩)
  have SG : Hid (∀ X, Below w63.heap.size w63 X → Calls Tryz.prog 7 #[.agg #[.bool sd9, .slice ad9 md9 cd9, .bool td9, .slice dd9 id9 jd9]] X (fun e w' => e = .returned (.int .i64 0) ∧ Below X.heap.size X w')) := Lib.hid (fun X h => (SGN.out X _ (fat_keeps hd9 h)).mono (fun e w' k => by obtain ⟨v, h1, h2, h3⟩ := k; obtain rfl := h2; exact ⟨h1, h3⟩))
  have SA : Hid (∀ X, Below w63.heap.size w63 X → Calls Tryz.prog 20 #[.agg #[.bool sa9, .slice aa9 ma9 ca9, .bool ta9, .slice da9 ia9 ja9]] X (fun e w' => e = .returned (.string S1) ∧ Below X.heap.size X w')) := Lib.hid (fun X h => (ST1.out X _ (fat_keeps ha9 h)).mono (fun e w' k => by obtain ⟨v, h1, h2, h3⟩ := k; obtain rfl := h2; exact ⟨h1, h3⟩))
  have SB : Hid (∀ X, Below w63.heap.size w63 X → Calls Tryz.prog 20 #[.agg #[.bool sb9, .slice ab9 mb9 cb9, .bool tb9, .slice db9 ib9 jb9]] X (fun e w' => e = .returned (.string S1) ∧ Below X.heap.size X w')) := Lib.hid (fun X h => (ST2.out X _ (fat_keeps hb9 h)).mono (fun e w' k => by obtain ⟨v, h1, h2, h3⟩ := k; obtain rfl := h2; exact ⟨h1, h3⟩))
  have LL : Hid (∀ X, Calls Tryz.prog 18 #[] X (fun e w' => e = .returned (.bool true) ∧ Below X.heap.size X w')) := Lib.hid (fun X => (LV.out X).mono (fun e w' k => by obtain ⟨v, h1, h2, h3⟩ := k; obtain rfl := h2; exact ⟨h1, h3⟩))
  clear cd90 cd91 cd92 cd93 hd9
  clear ca90 ca91 ca92 ca93 ha9
  clear cb90 cb91 cb92 cb93 hb9
  have HB0 : Hid (Below w63.heap.size w63 w63.drew) := Lib.hid (Below.refl _ _).drew
  have HC0 := Lib.hid (CELLS.out _ HB0.out)
  have hcv := fun (w : World) (s : ByteArray) => Lib.run_convert_string_bytes (P := Tryz.prog) w 9 50 5 s under_str under_bytes Tryz.underlying5
  clear ltd lta ltb Td Ta Tb SGN ST1 ST2 LV hsz
  go_wp2_with fail
  refine wp_region_any (by kernel_rfl) ?_
  change wpAny _ _ _ _ _ _ _ (World.drew _)
  refine wpAny_of_held (S := fun X : World => X.cell? ⟨td, 0, none⟩ = some (.bool sd9) ∧ X.cell? ⟨td, 1, none⟩ = some (.slice ad9 md9 cd9) ∧ X.cell? ⟨td, 2, none⟩ = some (.bool td9) ∧ X.cell? ⟨td, 3, none⟩ = some (.slice dd9 id9 jd9) ∧ X.cell? ⟨ta, 0, none⟩ = some (.bool sa9) ∧ X.cell? ⟨ta, 1, none⟩ = some (.slice aa9 ma9 ca9) ∧ X.cell? ⟨ta, 2, none⟩ = some (.bool ta9) ∧ X.cell? ⟨ta, 3, none⟩ = some (.slice da9 ia9 ja9) ∧ X.cell? ⟨tb, 0, none⟩ = some (.bool sb9) ∧ X.cell? ⟨tb, 1, none⟩ = some (.slice ab9 mb9 cb9) ∧ X.cell? ⟨tb, 2, none⟩ = some (.bool tb9) ∧ X.cell? ⟨tb, 3, none⟩ = some (.slice db9 ib9 jb9)) _ _ _ _ ?_
  refine wpAnyH_take (i := 0) (oi := { dst := some 73, op := Op.move (Operand.tmp 12), type := 41, pos := "law.go:295", after := #[], guard := none }) (v := .int .i64 0) rfl (by kernel_rfl) (by kernel_rfl) (by kernel_rfl) (fun _ _ _ h => h) (Or.inl ⟨by rfl, ?_⟩) HC0.out ?_
  ·(intro wq hSw; (try dsimp only at hSw); go_simp; try with_reducible rfl)
  try simp only [Act.put, List.setIfInBounds_toArray, List.set_cons_zero, List.set_cons_succ]
  refine wpAnyH_take (i := 1) (oi := { dst := some 74, op := Op.binOp BinOp.eql 41 (Operand.tmp 73) (Operand.const (Value.int IntKind.i64 0)) 41, type := 4, pos := "law.go:295", after := #[{ on := 0, ground := Ground.data }], guard := none }) (v := .bool true) rfl (by kernel_rfl) (by kernel_rfl) (by kernel_rfl) (fun _ _ _ h => h) (Or.inl ⟨by rfl, ?_⟩) HC0.out ?_
  ·(intro wq hSw; (try dsimp only at hSw); go_simp; try with_reducible rfl)
  try simp only [Act.put, List.setIfInBounds_toArray, List.set_cons_zero, List.set_cons_succ]
  refine wpAnyH_take (i := 2) (oi := { dst := some 75, op := Op.move (Operand.tmp 74), type := 4, pos := "law.go:295", after := #[{ on := 1, ground := Ground.data }], guard := none }) (v := .bool true) rfl (by kernel_rfl) (by kernel_rfl) (by kernel_rfl) (fun _ _ _ h => h) (Or.inl ⟨by rfl, ?_⟩) HC0.out ?_
  ·(intro wq hSw; (try dsimp only at hSw); go_simp; try with_reducible rfl)
  try simp only [Act.put, List.setIfInBounds_toArray, List.set_cons_zero, List.set_cons_succ]
  refine wpAnyH_take (i := 3) (oi := { dst := some 76, op := Op.load 34 (Operand.tmp 11), type := 34, pos := "law.go:295", after := #[{ on := 2, ground := Ground.guard }], guard := some (2, true) }) (v := .agg #[.bool sd9, .slice ad9 md9 cd9, .bool td9, .slice dd9 id9 jd9]) rfl (by kernel_rfl) (by kernel_rfl) (by kernel_rfl) (fun _ _ _ h => h) (Or.inl ⟨by rfl, ?_⟩) HC0.out ?_
  ·(intro wq hSw; (try dsimp only at hSw); go_simp; try with_reducible rfl)
  try simp only [Act.put, List.setIfInBounds_toArray, List.set_cons_zero, List.set_cons_succ]
  refine wpAnyH_ready (rs := [4]) (by kernel_rfl) (by simp) ?_
  refine AllReadyH.cons (o := { dst := some 77, op := Op.call { callee := Callee.value (Operand.func 7), args := #[Operand.tmp 76], argTypes := #[34] }, type := 3, pos := "law.go:295", after := #[{ on := 3, ground := Ground.data }, { on := 2, ground := Ground.chain }, { on := 2, ground := Ground.guard }], guard := some (2, true) }) rfl (fun K9 hK => ?_) AllReadyH.nil
  go_simp
  (with_reducible refine (SG.out _ HB0.out).mono ?_)
  rintro e w61 ⟨rfl, hb⟩
  have HB1 := Lib.hid (below_then HB0.out hb)
  have HC1 := Lib.hid (CELLS.out _ HB1.out)
  clear HB0 HC0 hb
  refine hK.out _ _ HC1.out (fun hHeld => ?_)
  clear hHeld hK K9
  try simp only [Act.put, List.setIfInBounds_toArray, List.set_cons_zero, List.set_cons_succ]
  refine wpAnyH_take (i := 5) (oi := { dst := some 78, op := Op.binOp BinOp.eql 3 (Operand.tmp 77) (Operand.const (Value.int IntKind.i64 0)) 3, type := 4, pos := "law.go:295", after := #[{ on := 4, ground := Ground.data }, { on := 2, ground := Ground.guard }], guard := some (2, true) }) (v := .bool true) rfl (by kernel_rfl) (by kernel_rfl) (by kernel_rfl) (fun _ _ _ h => h) (Or.inl ⟨by rfl, ?_⟩) HC1.out ?_
  ·(intro wq hSw; (try dsimp only at hSw); go_simp; try with_reducible rfl)
  try simp only [Act.put, List.setIfInBounds_toArray, List.set_cons_zero, List.set_cons_succ]
  refine wpAnyH_take (i := 6) (oi := { dst := some 79, op := Op.pick (Operand.tmp 75) (Operand.tmp 78) (Operand.const (Value.bool false)), type := 4, pos := "law.go:295", after := #[{ on := 2, ground := Ground.data }, { on := 5, ground := Ground.data }], guard := none }) (v := .bool true) rfl (by kernel_rfl) (by kernel_rfl) (by kernel_rfl) (fun _ _ _ h => h) (Or.inl ⟨by rfl, ?_⟩) HC1.out ?_
  ·(intro wq hSw; (try dsimp only at hSw); go_simp; try with_reducible rfl)
  try simp only [Act.put, List.setIfInBounds_toArray, List.set_cons_zero, List.set_cons_succ]
  refine wpAnyH_take (i := 7) (oi := { dst := some 80, op := Op.move (Operand.tmp 79), type := 4, pos := "law.go:295", after := #[{ on := 6, ground := Ground.data }, { on := 4, ground := Ground.chain }], guard := none }) (v := .bool true) rfl (by kernel_rfl) (by kernel_rfl) (by kernel_rfl) (fun _ _ _ h => h) (Or.inl ⟨by rfl, ?_⟩) HC1.out ?_
  ·(intro wq hSw; (try dsimp only at hSw); go_simp; try with_reducible rfl)
  try simp only [Act.put, List.setIfInBounds_toArray, List.set_cons_zero, List.set_cons_succ]
  refine wpAnyH_take (i := 8) (oi := { dst := some 81, op := Op.load 34 (Operand.tmp 3), type := 34, pos := "law.go:295", after := #[{ on := 7, ground := Ground.guard }], guard := some (7, true) }) (v := .agg #[.bool sa9, .slice aa9 ma9 ca9, .bool ta9, .slice da9 ia9 ja9]) rfl (by kernel_rfl) (by kernel_rfl) (by kernel_rfl) (fun _ _ _ h => h) (Or.inl ⟨by rfl, ?_⟩) HC1.out ?_
  ·(intro wq hSw; (try dsimp only at hSw); go_simp; try with_reducible rfl)
  try simp only [Act.put, List.setIfInBounds_toArray, List.set_cons_zero, List.set_cons_succ]
  refine wpAnyH_take (i := 12) (oi := { dst := some 85, op := Op.load 34 (Operand.tmp 4), type := 34, pos := "law.go:295", after := #[{ on := 7, ground := Ground.guard }], guard := some (7, true) }) (v := .agg #[.bool sb9, .slice ab9 mb9 cb9, .bool tb9, .slice db9 ib9 jb9]) rfl (by kernel_rfl) (by kernel_rfl) (by kernel_rfl) (fun _ _ _ h => h) (Or.inl ⟨by rfl, ?_⟩) HC1.out ?_
  ·(intro wq hSw; (try dsimp only at hSw); go_simp; try with_reducible rfl)
  try simp only [Act.put, List.setIfInBounds_toArray, List.set_cons_zero, List.set_cons_succ]
  refine wpAnyH_ready (rs := [9]) (by kernel_rfl) (by simp) ?_
  refine AllReadyH.cons (o := { dst := some 82, op := Op.call { callee := Callee.value (Operand.func 20), args := #[Operand.tmp 81], argTypes := #[34] }, type := 9, pos := "law.go:295", after := #[{ on := 8, ground := Ground.data }, { on := 7, ground := Ground.chain }, { on := 7, ground := Ground.guard }], guard := some (7, true) }) rfl (fun K9 hK => ?_) AllReadyH.nil
  go_simp
  (with_reducible refine (SA.out _ HB1.out).mono ?_)
  rintro e w62 ⟨rfl, hb⟩
  have HB2 := Lib.hid (below_then HB1.out hb)
  have HC2 := Lib.hid (CELLS.out _ HB2.out)
  clear HB1 HC1 hb
  refine hK.out _ _ HC2.out (fun hHeld => ?_)
  clear hHeld hK K9
  try simp only [Act.put, List.setIfInBounds_toArray, List.set_cons_zero, List.set_cons_succ]
  have HP := HB2
  refine wpAnyH_ready (rs := [10]) (by kernel_rfl) (by simp) ?_
  refine AllReadyH.cons (o := { dst := some 83, op := Op.convert 9 50 (Operand.tmp 82), type := 50, pos := "law.go:295", after := #[{ on := 9, ground := Ground.data }, { on := 7, ground := Ground.guard }], guard := some (7, true) }) rfl (fun K9 hK => ?_) AllReadyH.nil
  go_simp
  have HB3 := Lib.hid (below_then HB2.out (below_bytesW _ _ S1 5 (Nat.le_refl _)))
  have HC3 := Lib.hid (CELLS.out _ HB3.out)
  clear HB2 HC2
  refine hK.out _ _ HC3.out (fun hHeld => ?_)
  clear hHeld hK K9
  try simp only [Act.put, List.setIfInBounds_toArray, List.set_cons_zero, List.set_cons_succ]
  refine wpAnyH_ready (rs := [11]) (by kernel_rfl) (by simp) ?_
  refine AllReadyH.cons (o := { dst := some 84, op := Op.call { callee := Callee.value (Operand.func 27), args := #[Operand.const (Value.string { data := #[102, 114, 97, 99] }), Operand.tmp 83], argTypes := #[9, 50] }, type := 60, pos := "law.go:295", after := #[{ on := 10, ground := Ground.data }, { on := 9, ground := Ground.chain }, { on := 7, ground := Ground.guard }], guard := some (7, true) }) rfl (fun K9 hK => ?_) AllReadyH.nil
  go_simp
  (with_reducible refine (HH.out _).mono ?_)
  rintro e w64 ⟨rfl, hb⟩
  have HB4 := Lib.hid (below_then HP.out hb)
  have HC4 := Lib.hid (CELLS.out _ HB4.out)
  clear HP HB3 HC3 hb
  refine hK.out _ _ HC4.out (fun hHeld => ?_)
  clear hHeld hK K9
  try simp only [Act.put, List.setIfInBounds_toArray, List.set_cons_zero, List.set_cons_succ]
  refine wpAnyH_ready (rs := [13]) (by kernel_rfl) (by simp) ?_
  refine AllReadyH.cons (o := { dst := some 86, op := Op.call { callee := Callee.value (Operand.func 20), args := #[Operand.tmp 85], argTypes := #[34] }, type := 9, pos := "law.go:295", after := #[{ on := 12, ground := Ground.data }, { on := 11, ground := Ground.chain }, { on := 7, ground := Ground.guard }], guard := some (7, true) }) rfl (fun K9 hK => ?_) AllReadyH.nil
  go_simp
  (with_reducible refine (SB.out _ HB4.out).mono ?_)
  rintro e w65 ⟨rfl, hb⟩
  have HB5 := Lib.hid (below_then HB4.out hb)
  have HC5 := Lib.hid (CELLS.out _ HB5.out)
  clear HB4 HC4 hb
  refine hK.out _ _ HC5.out (fun hHeld => ?_)
  clear hHeld hK K9
  try simp only [Act.put, List.setIfInBounds_toArray, List.set_cons_zero, List.set_cons_succ]
  have HP := HB5
  refine wpAnyH_ready (rs := [14]) (by kernel_rfl) (by simp) ?_
  refine AllReadyH.cons (o := { dst := some 87, op := Op.convert 9 50 (Operand.tmp 86), type := 50, pos := "law.go:295", after := #[{ on := 13, ground := Ground.data }, { on := 7, ground := Ground.guard }], guard := some (7, true) }) rfl (fun K9 hK => ?_) AllReadyH.nil
  go_simp
  have HB6 := Lib.hid (below_then HB5.out (below_bytesW _ _ S1 5 (Nat.le_refl _)))
  have HC6 := Lib.hid (CELLS.out _ HB6.out)
  clear HB5 HC5
  refine hK.out _ _ HC6.out (fun hHeld => ?_)
  clear hHeld hK K9
  try simp only [Act.put, List.setIfInBounds_toArray, List.set_cons_zero, List.set_cons_succ]
  refine wpAnyH_ready (rs := [15]) (by kernel_rfl) (by simp) ?_
  refine AllReadyH.cons (o := { dst := some 88, op := Op.call { callee := Callee.value (Operand.func 27), args := #[Operand.const (Value.string { data := #[102, 114, 97, 99] }), Operand.tmp 87], argTypes := #[9, 50] }, type := 60, pos := "law.go:295", after := #[{ on := 14, ground := Ground.data }, { on := 13, ground := Ground.chain }, { on := 7, ground := Ground.guard }], guard := some (7, true) }) rfl (fun K9 hK => ?_) AllReadyH.nil
  go_simp
  (with_reducible refine (HH.out _).mono ?_)
  rintro e w67 ⟨rfl, hb⟩
  have HB7 := Lib.hid (below_then HP.out hb)
  have HC7 := Lib.hid (CELLS.out _ HB7.out)
  clear HP HB6 HC6 hb
  refine hK.out _ _ HC7.out (fun hHeld => ?_)
  clear hHeld hK K9
  try simp only [Act.put, List.setIfInBounds_toArray, List.set_cons_zero, List.set_cons_succ]
  refine wpAnyH_take (i := 16) (oi := { dst := some 89, op := Op.binOp BinOp.eql 60 (Operand.tmp 84) (Operand.tmp 88) 60, type := 4, pos := "law.go:295", after := #[{ on := 11, ground := Ground.data }, { on := 15, ground := Ground.data }, { on := 7, ground := Ground.guard }], guard := some (7, true) }) (v := .bool true) rfl (by kernel_rfl) (by kernel_rfl) (by kernel_rfl) (fun _ _ _ h => h) (Or.inl ⟨by rfl, ?_⟩) HC7.out ?_
  ·(intro wq hSw; (try dsimp only at hSw); go_simp; try with_reducible rfl)
  try simp only [Act.put, List.setIfInBounds_toArray, List.set_cons_zero, List.set_cons_succ]
  refine wpAnyH_take (i := 17) (oi := { dst := some 90, op := Op.pick (Operand.tmp 80) (Operand.tmp 89) (Operand.const (Value.bool false)), type := 4, pos := "law.go:295", after := #[{ on := 7, ground := Ground.data }, { on := 16, ground := Ground.data }], guard := none }) (v := .bool true) rfl (by kernel_rfl) (by kernel_rfl) (by kernel_rfl) (fun _ _ _ h => h) (Or.inl ⟨by rfl, ?_⟩) HC7.out ?_
  ·(intro wq hSw; (try dsimp only at hSw); go_simp; try with_reducible rfl)
  try simp only [Act.put, List.setIfInBounds_toArray, List.set_cons_zero, List.set_cons_succ]
  refine wpAnyH_take (i := 18) (oi := { dst := some 91, op := Op.move (Operand.tmp 90), type := 4, pos := "law.go:295", after := #[{ on := 17, ground := Ground.data }, { on := 15, ground := Ground.chain }], guard := none }) (v := .bool true) rfl (by kernel_rfl) (by kernel_rfl) (by kernel_rfl) (fun _ _ _ h => h) (Or.inl ⟨by rfl, ?_⟩) HC7.out ?_
  ·(intro wq hSw; (try dsimp only at hSw); go_simp; try with_reducible rfl)
  try simp only [Act.put, List.setIfInBounds_toArray, List.set_cons_zero, List.set_cons_succ]
  refine wpAnyH_ready (rs := [19]) (by kernel_rfl) (by simp) ?_
  refine AllReadyH.cons (o := { dst := some 92, op := Op.call { callee := Callee.value (Operand.func 18), args := #[], argTypes := #[] }, type := 4, pos := "law.go:295", after := #[{ on := 18, ground := Ground.chain }, { on := 18, ground := Ground.guard }], guard := some (18, true) }) rfl (fun K9 hK => ?_) AllReadyH.nil
  go_simp
  (with_reducible refine (LL.out _).mono ?_)
  rintro e w68 ⟨rfl, hb⟩
  have HB8 := Lib.hid (below_then HB7.out hb)
  have HC8 := Lib.hid (CELLS.out _ HB8.out)
  clear HB7 HC7 hb
  refine hK.out _ _ HC8.out (fun hHeld => ?_)
  clear hHeld hK K9
  try simp only [Act.put, List.setIfInBounds_toArray, List.set_cons_zero, List.set_cons_succ]
  refine wpAnyH_take (i := 20) (oi := { dst := some 93, op := Op.pick (Operand.tmp 91) (Operand.tmp 92) (Operand.const (Value.bool false)), type := 4, pos := "law.go:295", after := #[{ on := 18, ground := Ground.data }, { on := 19, ground := Ground.data }], guard := none }) (v := .bool true) rfl (by kernel_rfl) (by kernel_rfl) (by kernel_rfl) (fun _ _ _ h => h) (Or.inl ⟨by rfl, ?_⟩) HC8.out ?_
  ·(intro wq hSw; (try dsimp only at hSw); go_simp; try with_reducible rfl)
  try simp only [Act.put, List.setIfInBounds_toArray, List.set_cons_zero, List.set_cons_succ]
  refine wpAnyH_take (i := 21) (oi := { dst := some 2, op := Op.assign (Operand.tmp 93), type := 4, pos := "law.go:295", after := #[{ on := 20, ground := Ground.data }, { on := 19, ground := Ground.chain }, { on := 0, ground := Ground.phase }, { on := 1, ground := Ground.phase }, { on := 2, ground := Ground.phase }, { on := 3, ground := Ground.phase }, { on := 4, ground := Ground.phase }, { on := 5, ground := Ground.phase }, { on := 6, ground := Ground.phase }, { on := 7, ground := Ground.phase }, { on := 8, ground := Ground.phase }, { on := 9, ground := Ground.phase }, { on := 10, ground := Ground.phase }, { on := 11, ground := Ground.phase }, { on := 12, ground := Ground.phase }, { on := 13, ground := Ground.phase }, { on := 14, ground := Ground.phase }, { on := 15, ground := Ground.phase }, { on := 16, ground := Ground.phase }, { on := 17, ground := Ground.phase }, { on := 18, ground := Ground.phase }, { on := 19, ground := Ground.phase }, { on := 20, ground := Ground.phase }], guard := none }) (v := .bool true) rfl (by kernel_rfl) (by kernel_rfl) (by kernel_rfl) (fun _ _ _ h => h) (Or.inl ⟨by rfl, ?_⟩) HC8.out ?_
  ·(intro wq hSw; (try dsimp only at hSw); go_simp; try with_reducible rfl)
  try simp only [Act.put, List.setIfInBounds_toArray, List.set_cons_zero, List.set_cons_succ]
  refine wpAnyH_done (by kernel_rfl) ?_ _
  go_wp2_with fail
  go_ret
  exact ⟨rfl, below_then HB.out HB8.out⟩
 ·have hz := DI.out.diff hc0
  rw [show (c == 0) = false by simpa using hc0]
  clear DI TT SZ HS ST1 ST2
  obtain ⟨sd_43, td_43, ad_43, dd_43, md_43, id_43, cd_43, jd_43, ⟨cd_430, cd_431, cd_432, cd_433⟩, _, hd_43⟩ := Td.out.open
  go_wp2_with fail
  have C := SGN.out w63 _ hd_43
  unfold VEnd at C
  have HC := Lib.hid C
  clear C
  clear cd_430 cd_431 cd_432 cd_433 hd_43
  go_must (refine HC.out.mono ?_)
  rintro e w64 ⟨v5, rfl, hv5, hb5⟩
  obtain rfl := hv5
  clear HC
  have U := Lib.hid (Ta.out.below hb5)
  clear Ta
  have Ta := U
  clear U
  have U := Lib.hid (Tb.out.below hb5)
  clear Tb
  have Tb := U
  clear U
  have U := Lib.hid (Td.out.below hb5)
  clear Td
  have Td := U
  clear U
  have U := Lib.hid (below_then HB.out hb5)
  clear HB
  have HB := U
  clear U
  clear hb5
  clear Td
  obtain ⟨sa_44, ta_44, aa_44, da_44, ma_44, ia_44, ca_44, ja_44, ⟨ca_440, ca_441, ca_442, ca_443⟩, _, ha_44⟩ := Ta.out.open
  obtain ⟨sb_44, tb_44, ab_44, db_44, mb_44, ib_44, cb_44, jb_44, ⟨cb_440, cb_441, cb_442, cb_443⟩, _, hb_44⟩ := Tb.out.open
  go_wp2_with fail
  have C := CMQ.out w64 _ _ ha_44 hb_44
  unfold VEnd at C
  have HC := Lib.hid C
  clear C
  clear ca_440 ca_441 ca_442 ca_443 ha_44
  clear cb_440 cb_441 cb_442 cb_443 hb_44
  go_must (refine HC.out.mono ?_)
  rintro e w65 ⟨v5, rfl, hv5, hb5⟩
  obtain rfl := hv5
  clear HC
  have U := Lib.hid (Ta.out.below hb5)
  clear Ta
  have Ta := U
  clear U
  have U := Lib.hid (Tb.out.below hb5)
  clear Tb
  have Tb := U
  clear U
  have U := Lib.hid (below_then HB.out hb5)
  clear HB
  have HB := U
  clear U
  clear hb5
  clear Ta
  clear Tb
  go_wp2_with fail
  have C := LV.out w65
  unfold VEnd at C
  have HC := Lib.hid C
  clear C
  go_must (refine HC.out.mono ?_)
  rintro e w66 ⟨v5, rfl, hv5, hb5⟩
  obtain rfl := hv5
  clear HC
  have U := Lib.hid (below_then HB.out hb5)
  clear HB
  have HB := U
  clear U
  clear hb5
  go_wp2_with fail
  rw [show (z != 0 && c != 0) = true by simpa using ⟨hz, hc0⟩]
  go_ret
  exact ⟨rfl, HB.out⟩
end Go.Proofs.YtepakogbbomaoaaGreatDoor
