/-
 The law FracSums. (tools/genLsu.py makes this text.)
-/
import Derived.Test.YtajehlgclnocoaaGreatDoorLfbS
import Derived.Test.YtajehlgclnocoaaGreatDoorNboS
import Derived.Test.YtajehlgclnocoaaGreatDoorRsmS
namespace Go.Proofs.YtajehlgclnocoaaGreatDoor
open Go.RowKit Go.Shelf
set_option linter.unusedVariables false
set_option maxRecDepth 100000
theorem pairs4 {z0 z1 z2 z3 : Int × Int} {Q : Int × Int → Prop} (h0 : Q z0) (h1 : Q z1) (h2 : Q z2) (h3 : Q z3) : ∀ k, k < 4 → ∃ z, [z0, z1, z2, z3][k]? = some z ∧ Q z := by
 intro k hk
 match k, hk with
 | 0, _ => exact ⟨z0, rfl, h0⟩
 | 1, _ => exact ⟨z1, rfl, h1⟩
 | 2, _ => exact ⟨z2, rfl, h2⟩
 | 3, _ => exact ⟨z3, rfl, h3⟩
set_option maxHeartbeats 16000000 in
theorem walk_FracSums (v : Value) (l : List Int) (w : World) (hv : Row .i64 w v l) (hr : ∀ n ∈ l, -9223372036854775808 ≤ n ∧ n ≤ 9223372036854775807) :
  Calls Tryz.prog 3 #[v] w fun e w' => e = .returned (.bool true) ∧ Below w.heap.size w w' := by
 have A : Nb (frP l 0) (frQ l 0) := nb_lo (fr_low hr 0).1 (fr_low hr 0).2.1 (fr_low hr 0).2.2 (by decide)
 have B : Nb (frP l 4) (frQ l 4) := nb_lo (fr_low hr 4).1 (fr_low hr 4).2.1 (fr_low hr 4).2.2 (by decide)
 have FR : Hid (∀ (X : World) (i : Int), 0 ≤ i → i ≤ 1000 → Row .i64 X v l → Calls Tryz.prog 16 #[v, .int .i64 i] X (VEnd (KR (frP l i) (frQ l i)) X)) := Lib.hid (fun X i h1 h2 h3 => (fr4_any v l i X h3 hr ⟨h1, h2⟩).mono (fun _ _ => v_r))
 have F0 := Lib.hid (fun X h => FR.out X 0 (by decide) (by decide) h)
 have F4 := Lib.hid (fun X h => FR.out X 4 (by decide) (by decide) h)
 clear FR hr
 generalize frP l 0 = p1 at *
 generalize frQ l 0 = q1 at *
 generalize frP l 4 = p2 at *
 generalize frQ l 4 = q2 at *
 have NG : Hid (∀ (X : World) (u : Value), RFAt X u p1 q1 → Calls Tryz.prog 17 #[u] X (VEnd (KR (-p1) q1) X)) := Lib.hid (fun X u h => (rNeg_any u p1 q1 X h (by have := nb_digs A.n; omega)).mono (fun _ _ => v_r))
 have O0 : Hid (∀ X : World, Calls Tryz.prog 18 #[.int .i64 0] X (VEnd (KR 0 1) X)) := Lib.hid (fun X => (rOf_any 0 X (by decide)).mono (fun _ _ => v_r))
 have HZS : Hid (∀ k, k < 4 → ∃ z, ([(p1, q1), (p2, q2), (-p1, q1), (0, 1)] : List (Int × Int))[k]? = some z ∧ Nb z.1 z.2) := Lib.hid (pairs4 (Q := fun z => Nb z.1 z.2) A B (nb_neg A) nb_zero)
 have LV : Hid (∀ X : World, Calls Tryz.prog 29 #[] X (VEnd (KX (.bool true)) X)) := Lib.hid (fun X => lives4_any X)
 clear A B
 have HL := Lib.hid hv
 have HB : Hid (Below w.heap.size w w) := Lib.hid (Below.refl _ _)
 obtain ⟨pv, cv, rfl, hcv, hcvm⟩ := (show ∃ p c, v = .slice p l.length c ∧ l.length ≤ c ∧ c ≤ 9223372036854775807 by obtain ⟨p, c, e, h1, h2, _⟩ := hv; exact ⟨p, c, e, h1, h2⟩)
 clear hv
 generalize hll : l.length = ll at *
 clear hll
 go_enter Tryz.func3, Tryz.ntmps3
 go_wp2_with fail
 have C := F0.out w HL.out
 unfold VEnd at C
 have HC := Lib.hid C
 clear C
 go_must (refine HC.out.mono ?_)
 rintro e w21 ⟨v5, rfl, hx5, hb5⟩
 obtain ⟨sra, tra, ara, dra, mra, ira, cra, jra, rfl⟩ := rf_shape hx5
 clear HC
 have hbb := below_then hb5 (below_one w21 (.cells #[.bool sra, .slice ara mra cra, .bool tra, .slice dra ira jra] 26))
 have U := Lib.hid (below_then HB.out hbb)
 clear HB
 have HB := U
 clear U
 have U := Lib.hid (row_keeps HL.out hbb)
 clear HL
 have HL := U
 clear U
 have Ta := Lib.hid (RBox.new hx5)
 clear hx5 hb5 hbb
 go_wp2_with fail
 have HSZY1 := Lib.hid (size_alloc1 w21 (.cells #[.bool sra, .slice ara mra cra, .bool tra, .slice dra ira jra] 26))
 generalize w21.alloc (.cells #[.bool sra, .slice ara mra cra, .bool tra, .slice dra ira jra] 26) = Y1 at *
 generalize w21.heap.size = ta at *
 have C := F4.out Y1 HL.out
 unfold VEnd at C
 have HC := Lib.hid C
 clear C
 go_must (refine HC.out.mono ?_)
 rintro e w22 ⟨v5, rfl, hx5, hb5⟩
 obtain ⟨srb, trb, arb, drb, mrb, irb, crb, jrb, rfl⟩ := rf_shape hx5
 clear HC
 have hbb := below_then hb5 (below_one w22 (.cells #[.bool srb, .slice arb mrb crb, .bool trb, .slice drb irb jrb] 26))
 have U := Lib.hid (Ta.out.below hbb)
 clear Ta
 have Ta := U
 clear U
 have U := Lib.hid (below_then HB.out hbb)
 clear HB
 have HB := U
 clear U
 have U := Lib.hid (row_keeps HL.out hbb)
 clear HL
 have HL := U
 clear U
 have Tb := Lib.hid (RBox.new hx5)
 clear hx5 hb5 hbb
 clear HL F0 F4
 go_upto_region 3 with (fail)
 have HSZY2 := Lib.hid (size_alloc1 w22 (.cells #[.bool srb, .slice arb mrb crb, .bool trb, .slice drb irb jrb] 26))
 generalize w22.alloc (.cells #[.bool srb, .slice arb mrb crb, .bool trb, .slice drb irb jrb] 26) = Y2 at *
 generalize w22.heap.size = tb at *
 obtain ⟨s3, s3x, a3, a3x, m3, m3x, c3, c3x, la, ha⟩ := Ta.out
 have La := Lib.hid la
 have Ga := Lib.hid ha
 clear la ha Ta
 obtain ⟨s4, s4x, a4, a4x, m4, m4x, c4, c4x, lb, hb⟩ := Tb.out
 have Lb := Lib.hid lb
 have Gb := Lib.hid hb
 clear lb hb Tb
 refine regLS3 (p3 := p1) (q3 := q1) (p4 := p2) (q4 := q2) (p33 := -p1) (q33 := q1) (p34 := 0) (q34 := 1) (fun _ _ d _ _ h => by cases d <;> exact h) (Lib.hid (fun X h => ?ld3)) (Lib.hid (fun X h => rf_keeps Ga.out h)) (Lib.hid (fun X h => rf_keeps Gb.out h)) (Lib.hid (fun X h => NG.out X _ (rf_keeps Ga.out h))) (Lib.hid (fun X h => O0.out X)) ?_
 case ld3 =>
  obtain ⟨⟨f0, f1, f2, f3⟩, _⟩ := cellsF (La.out.below h)
  obtain ⟨⟨f4, f5, f6, f7⟩, _⟩ := cellsF (Lb.out.below h)
  exact ⟨f0, f1, f2, f3, f4, f5, f6, f7⟩
 intro X3 x33 x34 x35 hBX _ _ K35
 obtain ⟨bl, rfl, _, hrow⟩ := K35.out
 have HROW := Lib.hid hrow
 have U := Lib.hid (below_then HB.out hBX.out)
 clear HB
 have HB := U
 clear U hrow hBX K35 La Lb Ga Gb NG O0
 go_wp2_with fail
 go_loopw [6, 7, 8, 9, 10, 11, 12, 13, 14, 15, 16, 17, 18, 19, 20, 21, 22, 23, 24, 25] (fun iv _ _ _ _ _ _ _ _ _ _ _ _ _ _ _ _ _ _ _ wr => ∃ ki : Nat, iv = .int .i64 (ki : Int) ∧ ki ≤ 4 ∧ Hid (RRow wr bl [(p1, q1), (p2, q2), (-p1, q1), (0, 1)]) ∧ Hid (Below w.heap.size w wr)) (fun iv _ _ _ _ _ _ _ _ _ _ _ _ _ _ _ _ _ _ _ _ => (4 - intOf iv).toNat)
 case atStart => exact ⟨0, rfl, by decide, HROW, HB⟩
 case round =>
  clear HROW HB
  obtain ⟨ki, rfl, hki, HROW, HB⟩ := hrel
  rcases Nat.lt_or_ge ki 4 with hlt | hge
  ·have hlt' : (ki : Int) < 4 := by omega
   have hli : ¬ ((4 : Int) ≤ (ki : Int)) := by omega
   go_wp2_with fail
   go_loopw [7, 8, 9, 10, 11, 12, 13, 14, 15, 16, 17, 18, 19, 20, 21, 22, 23, 24, 25] (fun jv _ _ _ _ _ _ _ _ _ _ _ _ _ _ _ _ _ _ wr => ∃ kk : Nat, jv = .int .i64 (kk : Int) ∧ kk ≤ 4 ∧ Hid (RRow wr bl [(p1, q1), (p2, q2), (-p1, q1), (0, 1)]) ∧ Hid (Below w.heap.size w wr)) (fun jv _ _ _ _ _ _ _ _ _ _ _ _ _ _ _ _ _ _ _ => (4 - intOf jv).toNat)
   case atStart => exact ⟨0, rfl, by decide, HROW, HB⟩
   case round =>
    clear HROW HB
    obtain ⟨kk, rfl, hkk, HROW, HB⟩ := hrel
    rcases Nat.lt_or_ge kk 4 with hlk | hgk
    ·have hlk' : (kk : Int) < 4 := by omega
     have hlj : ¬ ((4 : Int) ≤ (kk : Int)) := by omega
     obtain ⟨⟨pi, qi⟩, hzi, nzi⟩ := HZS.out ki hlt
     obtain ⟨⟨pk, qk⟩, hzk, nzk⟩ := HZS.out kk hlk
     obtain ⟨Ra, ca, _, sa⟩ := p_add nzi nzk
     obtain ⟨Rs, cs, _, ss⟩ := p_sub nzi nzk
     obtain ⟨Rm, cm, _, sm⟩ := p_mul nzi nzk
     obtain ⟨Rv, cd, _, sd⟩ := p_div nzi nzk
     have OFI := Lib.hid (of_nb nzi)
     have OFK := Lib.hid (of_nb nzk)
     have CA := Lib.hid ca
     have CS := Lib.hid cs
     have CM := Lib.hid cm
     have CD := Lib.hid cd
     have SA := Lib.hid sa
     have SS := Lib.hid ss
     have SM := Lib.hid sm
     have SD := Lib.hid sd
     have HZI := Lib.hid hzi
     have HZK := Lib.hid hzk
     clear ca cs cm cd sa ss sm sd hzi hzk nzi nzk
     obtain ⟨sI1, tI1, aI1, dI1, mI1, iI1, cI1, jI1, ⟨xI10, xI11, xI12, xI13⟩, yI1⟩ := HROW.out.2 ki _ HZI.out
     have HI1 := Lib.hid yI1
     clear yI1
     go_wp2_with fail
     have C := OFI.out wr _ HI1.out
     unfold VEnd at C
     have HC := Lib.hid C
     clear C
     go_must (refine HC.out.mono ?_)
     rintro e w21 ⟨v5, rfl, hx5, hb5⟩
     obtain ⟨srx, trx, arx, drx, mrx, irx, crx, jrx, rfl⟩ := fat_shape hx5
     clear HC
     have hbb := below_then hb5 (below_one w21 (.cells #[.bool srx, .slice arx mrx crx, .bool trx, .slice drx irx jrx] 35))
     have U := Lib.hid (below_then HB.out hbb)
     clear HB
     have HB := U
     clear U
     have U := Lib.hid (rrow_keeps HROW.out hbb)
     clear HROW
     have HROW := U
     clear U
     have Tx := Lib.hid (FBox.new hx5)
     clear hx5 hb5 hbb
     clear xI10 xI11 xI12 xI13 HI1 OFI
     obtain ⟨sK2, tK2, aK2, dK2, mK2, iK2, cK2, jK2, ⟨xK20, xK21, xK22, xK23⟩, yK2⟩ := HROW.out.2 kk _ HZK.out
     have HK2 := Lib.hid yK2
     clear yK2
     skip
     go_wp2_with fail
     have HSZZ1 := Lib.hid (size_alloc1 w21 (.cells #[.bool srx, .slice arx mrx crx, .bool trx, .slice drx irx jrx] 35))
     generalize w21.alloc (.cells #[.bool srx, .slice arx mrx crx, .bool trx, .slice drx irx jrx] 35) = Z1 at *
     generalize w21.heap.size = tx at *
     have C := OFK.out Z1 _ HK2.out
     unfold VEnd at C
     have HC := Lib.hid C
     clear C
     go_must (refine HC.out.mono ?_)
     rintro e w22 ⟨v5, rfl, hx5, hb5⟩
     obtain ⟨srh, trh, arh, drh, mrh, irh, crh, jrh, rfl⟩ := fat_shape hx5
     clear HC
     have hbb := below_then hb5 (below_one w22 (.cells #[.bool srh, .slice arh mrh crh, .bool trh, .slice drh irh jrh] 35))
     have U := Lib.hid (Tx.out.below hbb)
     clear Tx
     have Tx := U
     clear U
     have U := Lib.hid (below_then HB.out hbb)
     clear HB
     have HB := U
     clear U
     have U := Lib.hid (rrow_keeps HROW.out hbb)
     clear HROW
     have HROW := U
     clear U
     have Th := Lib.hid (FBox.new hx5)
     clear hx5 hb5 hbb
     clear xK20 xK21 xK22 xK23 HK2 OFK
     obtain ⟨sx_2, tx_2, ax_2, dx_2, mx_2, ix_2, cx_2, jx_2, ⟨cx_20, cx_21, cx_22, cx_23⟩, _, hx_2⟩ := Tx.out.open
     obtain ⟨sh_2, th_2, ah_2, dh_2, mh_2, ih_2, ch_2, jh_2, ⟨ch_20, ch_21, ch_22, ch_23⟩, _, hh_2⟩ := Th.out.open
     go_wp2_with fail
     have HSZZ2 := Lib.hid (size_alloc1 w22 (.cells #[.bool srh, .slice arh mrh crh, .bool trh, .slice drh irh jrh] 35))
     generalize w22.alloc (.cells #[.bool srh, .slice arh mrh crh, .bool trh, .slice drh irh jrh] 35) = Z2 at *
     generalize w22.heap.size = th at *
     have C := CA.out.1 Z2 _ _ hx_2 hh_2
     unfold VEnd at C
     have HC := Lib.hid C
     clear C
     clear cx_20 cx_21 cx_22 cx_23 hx_2
     clear ch_20 ch_21 ch_22 ch_23 hh_2
     go_must (refine HC.out.mono ?_)
     rintro e w23 ⟨v5, rfl, ⟨y5, rfl, hx5⟩, hb5⟩
     obtain ⟨srp, trp, arp, drp, mrp, irp, crp, jrp, rfl⟩ := fat_shape hx5
     clear HC
     have hbb := below_then hb5 (below_one w23 (.cells #[.bool srp, .slice arp mrp crp, .bool trp, .slice drp irp jrp] 35))
     have U := Lib.hid (Tx.out.below hbb)
     clear Tx
     have Tx := U
     clear U
     have U := Lib.hid (Th.out.below hbb)
     clear Th
     have Th := U
     clear U
     have U := Lib.hid (below_then HB.out hbb)
     clear HB
     have HB := U
     clear U
     have U := Lib.hid (rrow_keeps HROW.out hbb)
     clear HROW
     have HROW := U
     clear U
     have Tp := Lib.hid (FBox.new hx5)
     clear hx5 hb5 hbb
     go_upto_region 13 with (fail)
     have HSZZ3 := Lib.hid (size_alloc1 w23 (.cells #[.bool srp, .slice arp mrp crp, .bool trp, .slice drp irp jrp] 35))
     generalize w23.alloc (.cells #[.bool srp, .slice arp mrp crp, .bool trp, .slice drp irp jrp] 35) = Z3 at *
     generalize w23.heap.size = tp at *
     obtain ⟨sI13, tI13, aI13, dI13, mI13, iI13, cI13, jI13, ⟨xI130, xI131, xI132, xI133⟩, yI13⟩ := HROW.out.2 ki _ HZI.out
     have HI13 := Lib.hid yI13
     clear yI13
     obtain ⟨sK13, tK13, aK13, dK13, mK13, iK13, cK13, jK13, ⟨xK130, xK131, xK132, xK133⟩, yK13⟩ := HROW.out.2 kk _ HZK.out
     have HK13 := Lib.hid yK13
     clear yK13
     have LD : Hid (∀ X : World, Below Z3.heap.size Z3 X → X.cell? ⟨bl, ki * 4, none⟩ = some (.bool sI13) ∧ X.cell? ⟨bl, ki * 4 + 1, none⟩ = some (.slice aI13 mI13 cI13) ∧ X.cell? ⟨bl, ki * 4 + 2, none⟩ = some (.bool tI13) ∧ X.cell? ⟨bl, ki * 4 + 3, none⟩ = some (.slice dI13 iI13 jI13) ∧ X.cell? ⟨bl, kk * 4, none⟩ = some (.bool sK13) ∧ X.cell? ⟨bl, kk * 4 + 1, none⟩ = some (.slice aK13 mK13 cK13) ∧ X.cell? ⟨bl, kk * 4 + 2, none⟩ = some (.bool tK13) ∧ X.cell? ⟨bl, kk * 4 + 3, none⟩ = some (.slice dK13 iK13 jK13)) := Lib.hid (fun X h => ⟨(h.cell (p := ⟨bl, ki * 4, none⟩) HROW.out.1).trans xI130, (h.cell (p := ⟨bl, ki * 4 + 1, none⟩) HROW.out.1).trans xI131, (h.cell (p := ⟨bl, ki * 4 + 2, none⟩) HROW.out.1).trans xI132, (h.cell (p := ⟨bl, ki * 4 + 3, none⟩) HROW.out.1).trans xI133, (h.cell (p := ⟨bl, kk * 4, none⟩) HROW.out.1).trans xK130, (h.cell (p := ⟨bl, kk * 4 + 1, none⟩) HROW.out.1).trans xK131, (h.cell (p := ⟨bl, kk * 4 + 2, none⟩) HROW.out.1).trans xK132, (h.cell (p := ⟨bl, kk * 4 + 3, none⟩) HROW.out.1).trans xK133⟩)
     clear xI130 xI131 xI132 xI133 xK130 xK131 xK132 xK133
     refine regLS13 (R := Ra) (fun _ _ d _ _ h => by cases d <;> exact h) (by omega) (by omega) LD (Lib.hid (fun X h => CA.out.2 X _ _ (rf_keeps HI13.out h) (rf_keeps HK13.out h))) ?_
     intro Z4 x13a x13b sv13 tv13 av13 dv13 mv13 iv13 cv13 jv13 tq hB13 L13 U13
     clear LD HI13 HK13 CA
     have U := Lib.hid (Tx.out.below hB13.out)
     clear Tx
     have Tx := U
     clear U
     have U := Lib.hid (Th.out.below hB13.out)
     clear Th
     have Th := U
     clear U
     have U := Lib.hid (Tp.out.below hB13.out)
     clear Tp
     have Tp := U
     clear U
     have U := Lib.hid (below_then HB.out hB13.out)
     clear HB
     have HB := U
     clear U
     have U := Lib.hid (rrow_keeps HROW.out hB13.out)
     clear HROW
     have HROW := U
     clear U
     have Tq := U13
     clear U13 hB13 L13
     obtain ⟨sx_3, tx_3, ax_3, dx_3, mx_3, ix_3, cx_3, jx_3, ⟨cx_30, cx_31, cx_32, cx_33⟩, _, hx_3⟩ := Tx.out.open
     obtain ⟨sh_3, th_3, ah_3, dh_3, mh_3, ih_3, ch_3, jh_3, ⟨ch_30, ch_31, ch_32, ch_33⟩, _, hh_3⟩ := Th.out.open
     go_wp2_with fail
     have C := CS.out.1 Z4 _ _ hx_3 hh_3
     unfold VEnd at C
     have HC := Lib.hid C
     clear C
     clear cx_30 cx_31 cx_32 cx_33 hx_3
     clear ch_30 ch_31 ch_32 ch_33 hh_3
     go_must (refine HC.out.mono ?_)
     rintro e w24 ⟨v5, rfl, ⟨y5, rfl, hx5⟩, hb5⟩
     obtain ⟨srr, trr, arr, drr, mrr, irr, crr, jrr, rfl⟩ := fat_shape hx5
     clear HC
     have hbb := below_then hb5 (below_one w24 (.cells #[.bool srr, .slice arr mrr crr, .bool trr, .slice drr irr jrr] 35))
     have U := Lib.hid (Tx.out.below hbb)
     clear Tx
     have Tx := U
     clear U
     have U := Lib.hid (Th.out.below hbb)
     clear Th
     have Th := U
     clear U
     have U := Lib.hid (Tp.out.below hbb)
     clear Tp
     have Tp := U
     clear U
     have U := Lib.hid (Tq.out.below hbb)
     clear Tq
     have Tq := U
     clear U
     have U := Lib.hid (below_then HB.out hbb)
     clear HB
     have HB := U
     clear U
     have U := Lib.hid (rrow_keeps HROW.out hbb)
     clear HROW
     have HROW := U
     clear U
     have Tr := Lib.hid (FBox.new hx5)
     clear hx5 hb5 hbb
     go_upto_region 15 with (fail)
     have HSZZ5 := Lib.hid (size_alloc1 w24 (.cells #[.bool srr, .slice arr mrr crr, .bool trr, .slice drr irr jrr] 35))
     generalize w24.alloc (.cells #[.bool srr, .slice arr mrr crr, .bool trr, .slice drr irr jrr] 35) = Z5 at *
     generalize w24.heap.size = tr at *
     obtain ⟨sI15, tI15, aI15, dI15, mI15, iI15, cI15, jI15, ⟨xI150, xI151, xI152, xI153⟩, yI15⟩ := HROW.out.2 ki _ HZI.out
     have HI15 := Lib.hid yI15
     clear yI15
     obtain ⟨sK15, tK15, aK15, dK15, mK15, iK15, cK15, jK15, ⟨xK150, xK151, xK152, xK153⟩, yK15⟩ := HROW.out.2 kk _ HZK.out
     have HK15 := Lib.hid yK15
     clear yK15
     have LD : Hid (∀ X : World, Below Z5.heap.size Z5 X → X.cell? ⟨bl, ki * 4, none⟩ = some (.bool sI15) ∧ X.cell? ⟨bl, ki * 4 + 1, none⟩ = some (.slice aI15 mI15 cI15) ∧ X.cell? ⟨bl, ki * 4 + 2, none⟩ = some (.bool tI15) ∧ X.cell? ⟨bl, ki * 4 + 3, none⟩ = some (.slice dI15 iI15 jI15) ∧ X.cell? ⟨bl, kk * 4, none⟩ = some (.bool sK15) ∧ X.cell? ⟨bl, kk * 4 + 1, none⟩ = some (.slice aK15 mK15 cK15) ∧ X.cell? ⟨bl, kk * 4 + 2, none⟩ = some (.bool tK15) ∧ X.cell? ⟨bl, kk * 4 + 3, none⟩ = some (.slice dK15 iK15 jK15)) := Lib.hid (fun X h => ⟨(h.cell (p := ⟨bl, ki * 4, none⟩) HROW.out.1).trans xI150, (h.cell (p := ⟨bl, ki * 4 + 1, none⟩) HROW.out.1).trans xI151, (h.cell (p := ⟨bl, ki * 4 + 2, none⟩) HROW.out.1).trans xI152, (h.cell (p := ⟨bl, ki * 4 + 3, none⟩) HROW.out.1).trans xI153, (h.cell (p := ⟨bl, kk * 4, none⟩) HROW.out.1).trans xK150, (h.cell (p := ⟨bl, kk * 4 + 1, none⟩) HROW.out.1).trans xK151, (h.cell (p := ⟨bl, kk * 4 + 2, none⟩) HROW.out.1).trans xK152, (h.cell (p := ⟨bl, kk * 4 + 3, none⟩) HROW.out.1).trans xK153⟩)
     clear xI150 xI151 xI152 xI153 xK150 xK151 xK152 xK153
     refine regLS15 (R := Rs) (fun _ _ d _ _ h => by cases d <;> exact h) (by omega) (by omega) LD (Lib.hid (fun X h => CS.out.2 X _ _ (rf_keeps HI15.out h) (rf_keeps HK15.out h))) ?_
     intro Z6 x15a x15b sv15 tv15 av15 dv15 mv15 iv15 cv15 jv15 ts hB15 L15 U15
     clear LD HI15 HK15 CS
     have U := Lib.hid (Tx.out.below hB15.out)
     clear Tx
     have Tx := U
     clear U
     have U := Lib.hid (Th.out.below hB15.out)
     clear Th
     have Th := U
     clear U
     have U := Lib.hid (Tp.out.below hB15.out)
     clear Tp
     have Tp := U
     clear U
     have U := Lib.hid (Tq.out.below hB15.out)
     clear Tq
     have Tq := U
     clear U
     have U := Lib.hid (Tr.out.below hB15.out)
     clear Tr
     have Tr := U
     clear U
     have U := Lib.hid (below_then HB.out hB15.out)
     clear HB
     have HB := U
     clear U
     have U := Lib.hid (rrow_keeps HROW.out hB15.out)
     clear HROW
     have HROW := U
     clear U
     have Ts := U15
     clear U15 hB15 L15
     obtain ⟨sx_4, tx_4, ax_4, dx_4, mx_4, ix_4, cx_4, jx_4, ⟨cx_40, cx_41, cx_42, cx_43⟩, _, hx_4⟩ := Tx.out.open
     obtain ⟨sh_4, th_4, ah_4, dh_4, mh_4, ih_4, ch_4, jh_4, ⟨ch_40, ch_41, ch_42, ch_43⟩, _, hh_4⟩ := Th.out.open
     go_wp2_with fail
     have C := CM.out.1 Z6 _ _ hx_4 hh_4
     unfold VEnd at C
     have HC := Lib.hid C
     clear C
     clear cx_40 cx_41 cx_42 cx_43 hx_4
     clear ch_40 ch_41 ch_42 ch_43 hh_4
     go_must (refine HC.out.mono ?_)
     rintro e w25 ⟨v5, rfl, ⟨y5, rfl, hx5⟩, hb5⟩
     obtain ⟨srt, trt, art, drt, mrt, irt, crt, jrt, rfl⟩ := fat_shape hx5
     clear HC
     have hbb := below_then hb5 (below_one w25 (.cells #[.bool srt, .slice art mrt crt, .bool trt, .slice drt irt jrt] 35))
     have U := Lib.hid (Tx.out.below hbb)
     clear Tx
     have Tx := U
     clear U
     have U := Lib.hid (Th.out.below hbb)
     clear Th
     have Th := U
     clear U
     have U := Lib.hid (Tp.out.below hbb)
     clear Tp
     have Tp := U
     clear U
     have U := Lib.hid (Tq.out.below hbb)
     clear Tq
     have Tq := U
     clear U
     have U := Lib.hid (Tr.out.below hbb)
     clear Tr
     have Tr := U
     clear U
     have U := Lib.hid (Ts.out.below hbb)
     clear Ts
     have Ts := U
     clear U
     have U := Lib.hid (below_then HB.out hbb)
     clear HB
     have HB := U
     clear U
     have U := Lib.hid (rrow_keeps HROW.out hbb)
     clear HROW
     have HROW := U
     clear U
     have Tt := Lib.hid (FBox.new hx5)
     clear hx5 hb5 hbb
     go_upto_region 17 with (fail)
     have HSZZ7 := Lib.hid (size_alloc1 w25 (.cells #[.bool srt, .slice art mrt crt, .bool trt, .slice drt irt jrt] 35))
     generalize w25.alloc (.cells #[.bool srt, .slice art mrt crt, .bool trt, .slice drt irt jrt] 35) = Z7 at *
     generalize w25.heap.size = tt at *
     obtain ⟨sI17, tI17, aI17, dI17, mI17, iI17, cI17, jI17, ⟨xI170, xI171, xI172, xI173⟩, yI17⟩ := HROW.out.2 ki _ HZI.out
     have HI17 := Lib.hid yI17
     clear yI17
     obtain ⟨sK17, tK17, aK17, dK17, mK17, iK17, cK17, jK17, ⟨xK170, xK171, xK172, xK173⟩, yK17⟩ := HROW.out.2 kk _ HZK.out
     have HK17 := Lib.hid yK17
     clear yK17
     have LD : Hid (∀ X : World, Below Z7.heap.size Z7 X → X.cell? ⟨bl, ki * 4, none⟩ = some (.bool sI17) ∧ X.cell? ⟨bl, ki * 4 + 1, none⟩ = some (.slice aI17 mI17 cI17) ∧ X.cell? ⟨bl, ki * 4 + 2, none⟩ = some (.bool tI17) ∧ X.cell? ⟨bl, ki * 4 + 3, none⟩ = some (.slice dI17 iI17 jI17) ∧ X.cell? ⟨bl, kk * 4, none⟩ = some (.bool sK17) ∧ X.cell? ⟨bl, kk * 4 + 1, none⟩ = some (.slice aK17 mK17 cK17) ∧ X.cell? ⟨bl, kk * 4 + 2, none⟩ = some (.bool tK17) ∧ X.cell? ⟨bl, kk * 4 + 3, none⟩ = some (.slice dK17 iK17 jK17)) := Lib.hid (fun X h => ⟨(h.cell (p := ⟨bl, ki * 4, none⟩) HROW.out.1).trans xI170, (h.cell (p := ⟨bl, ki * 4 + 1, none⟩) HROW.out.1).trans xI171, (h.cell (p := ⟨bl, ki * 4 + 2, none⟩) HROW.out.1).trans xI172, (h.cell (p := ⟨bl, ki * 4 + 3, none⟩) HROW.out.1).trans xI173, (h.cell (p := ⟨bl, kk * 4, none⟩) HROW.out.1).trans xK170, (h.cell (p := ⟨bl, kk * 4 + 1, none⟩) HROW.out.1).trans xK171, (h.cell (p := ⟨bl, kk * 4 + 2, none⟩) HROW.out.1).trans xK172, (h.cell (p := ⟨bl, kk * 4 + 3, none⟩) HROW.out.1).trans xK173⟩)
     clear xI170 xI171 xI172 xI173 xK170 xK171 xK172 xK173
     refine regLS17 (R := Rm) (fun _ _ d _ _ h => by cases d <;> exact h) (by omega) (by omega) LD (Lib.hid (fun X h => CM.out.2 X _ _ (rf_keeps HI17.out h) (rf_keeps HK17.out h))) ?_
     intro Z8 x17a x17b sv17 tv17 av17 dv17 mv17 iv17 cv17 jv17 tu hB17 L17 U17
     clear LD HI17 HK17 CM
     have U := Lib.hid (Tx.out.below hB17.out)
     clear Tx
     have Tx := U
     clear U
     have U := Lib.hid (Th.out.below hB17.out)
     clear Th
     have Th := U
     clear U
     have U := Lib.hid (Tp.out.below hB17.out)
     clear Tp
     have Tp := U
     clear U
     have U := Lib.hid (Tq.out.below hB17.out)
     clear Tq
     have Tq := U
     clear U
     have U := Lib.hid (Tr.out.below hB17.out)
     clear Tr
     have Tr := U
     clear U
     have U := Lib.hid (Ts.out.below hB17.out)
     clear Ts
     have Ts := U
     clear U
     have U := Lib.hid (Tt.out.below hB17.out)
     clear Tt
     have Tt := U
     clear U
     have U := Lib.hid (below_then HB.out hB17.out)
     clear HB
     have HB := U
     clear U
     have U := Lib.hid (rrow_keeps HROW.out hB17.out)
     clear HROW
     have HROW := U
     clear U
     have Tu := U17
     clear U17 hB17 L17
     obtain ⟨sx_5, tx_5, ax_5, dx_5, mx_5, ix_5, cx_5, jx_5, ⟨cx_50, cx_51, cx_52, cx_53⟩, _, hx_5⟩ := Tx.out.open
     obtain ⟨sh_5, th_5, ah_5, dh_5, mh_5, ih_5, ch_5, jh_5, ⟨ch_50, ch_51, ch_52, ch_53⟩, _, hh_5⟩ := Th.out.open
     go_wp2_with fail
     have C := CD.out.1 Z8 _ _ hx_5 hh_5
     unfold VEnd at C
     have HC := Lib.hid C
     clear C
     clear cx_50 cx_51 cx_52 cx_53 hx_5
     clear ch_50 ch_51 ch_52 ch_53 hh_5
     go_must (refine HC.out.mono ?_)
     rintro e w26 ⟨v5, rfl, ⟨y5, rfl, hx5⟩, hb5⟩
     obtain ⟨srv, trv, arv, drv, mrv, irv, crv, jrv, rfl⟩ := fat_shape hx5
     clear HC
     have hbb := below_then hb5 (below_one w26 (.cells #[.bool srv, .slice arv mrv crv, .bool trv, .slice drv irv jrv] 35))
     have U := Lib.hid (Tx.out.below hbb)
     clear Tx
     have Tx := U
     clear U
     have U := Lib.hid (Th.out.below hbb)
     clear Th
     have Th := U
     clear U
     have U := Lib.hid (Tp.out.below hbb)
     clear Tp
     have Tp := U
     clear U
     have U := Lib.hid (Tq.out.below hbb)
     clear Tq
     have Tq := U
     clear U
     have U := Lib.hid (Tr.out.below hbb)
     clear Tr
     have Tr := U
     clear U
     have U := Lib.hid (Ts.out.below hbb)
     clear Ts
     have Ts := U
     clear U
     have U := Lib.hid (Tt.out.below hbb)
     clear Tt
     have Tt := U
     clear U
     have U := Lib.hid (Tu.out.below hbb)
     clear Tu
     have Tu := U
     clear U
     have U := Lib.hid (below_then HB.out hbb)
     clear HB
     have HB := U
     clear U
     have U := Lib.hid (rrow_keeps HROW.out hbb)
     clear HROW
     have HROW := U
     clear U
     have Tv := Lib.hid (FBox.new hx5)
     clear hx5 hb5 hbb
     go_upto_region 19 with (fail)
     have HSZZ9 := Lib.hid (size_alloc1 w26 (.cells #[.bool srv, .slice arv mrv crv, .bool trv, .slice drv irv jrv] 35))
     generalize w26.alloc (.cells #[.bool srv, .slice arv mrv crv, .bool trv, .slice drv irv jrv] 35) = Z9 at *
     generalize w26.heap.size = tv at *
     obtain ⟨sI19, tI19, aI19, dI19, mI19, iI19, cI19, jI19, ⟨xI190, xI191, xI192, xI193⟩, yI19⟩ := HROW.out.2 ki _ HZI.out
     have HI19 := Lib.hid yI19
     clear yI19
     obtain ⟨sK19, tK19, aK19, dK19, mK19, iK19, cK19, jK19, ⟨xK190, xK191, xK192, xK193⟩, yK19⟩ := HROW.out.2 kk _ HZK.out
     have HK19 := Lib.hid yK19
     clear yK19
     have LD : Hid (∀ X : World, Below Z9.heap.size Z9 X → X.cell? ⟨bl, ki * 4, none⟩ = some (.bool sI19) ∧ X.cell? ⟨bl, ki * 4 + 1, none⟩ = some (.slice aI19 mI19 cI19) ∧ X.cell? ⟨bl, ki * 4 + 2, none⟩ = some (.bool tI19) ∧ X.cell? ⟨bl, ki * 4 + 3, none⟩ = some (.slice dI19 iI19 jI19) ∧ X.cell? ⟨bl, kk * 4, none⟩ = some (.bool sK19) ∧ X.cell? ⟨bl, kk * 4 + 1, none⟩ = some (.slice aK19 mK19 cK19) ∧ X.cell? ⟨bl, kk * 4 + 2, none⟩ = some (.bool tK19) ∧ X.cell? ⟨bl, kk * 4 + 3, none⟩ = some (.slice dK19 iK19 jK19)) := Lib.hid (fun X h => ⟨(h.cell (p := ⟨bl, ki * 4, none⟩) HROW.out.1).trans xI190, (h.cell (p := ⟨bl, ki * 4 + 1, none⟩) HROW.out.1).trans xI191, (h.cell (p := ⟨bl, ki * 4 + 2, none⟩) HROW.out.1).trans xI192, (h.cell (p := ⟨bl, ki * 4 + 3, none⟩) HROW.out.1).trans xI193, (h.cell (p := ⟨bl, kk * 4, none⟩) HROW.out.1).trans xK190, (h.cell (p := ⟨bl, kk * 4 + 1, none⟩) HROW.out.1).trans xK191, (h.cell (p := ⟨bl, kk * 4 + 2, none⟩) HROW.out.1).trans xK192, (h.cell (p := ⟨bl, kk * 4 + 3, none⟩) HROW.out.1).trans xK193⟩)
     clear xI190 xI191 xI192 xI193 xK190 xK191 xK192 xK193
     refine regLS19 (R := Rv) (fun _ _ d _ _ h => by cases d <;> exact h) (by omega) (by omega) LD (Lib.hid (fun X h => CD.out.2 X _ _ (rf_keeps HI19.out h) (rf_keeps HK19.out h))) ?_
     intro Z10 x19a x19b sv19 tv19 av19 dv19 mv19 iv19 cv19 jv19 tz hB19 L19 U19
     clear LD HI19 HK19 CD
     have U := Lib.hid (Tx.out.below hB19.out)
     clear Tx
     have Tx := U
     clear U
     have U := Lib.hid (Th.out.below hB19.out)
     clear Th
     have Th := U
     clear U
     have U := Lib.hid (Tp.out.below hB19.out)
     clear Tp
     have Tp := U
     clear U
     have U := Lib.hid (Tq.out.below hB19.out)
     clear Tq
     have Tq := U
     clear U
     have U := Lib.hid (Tr.out.below hB19.out)
     clear Tr
     have Tr := U
     clear U
     have U := Lib.hid (Ts.out.below hB19.out)
     clear Ts
     have Ts := U
     clear U
     have U := Lib.hid (Tt.out.below hB19.out)
     clear Tt
     have Tt := U
     clear U
     have U := Lib.hid (Tu.out.below hB19.out)
     clear Tu
     have Tu := U
     clear U
     have U := Lib.hid (Tv.out.below hB19.out)
     clear Tv
     have Tv := U
     clear U
     have U := Lib.hid (below_then HB.out hB19.out)
     clear HB
     have HB := U
     clear U
     have U := Lib.hid (rrow_keeps HROW.out hB19.out)
     clear HROW
     have HROW := U
     clear U
     have Tz := U19
     clear U19 hB19 L19
     clear Tx
     clear Th
     obtain ⟨sp_6, tp_6, ap_6, dp_6, mp_6, ip_6, cp_6, jp_6, ⟨cp_60, cp_61, cp_62, cp_63⟩, _, hp_6⟩ := Tp.out.open
     obtain ⟨sq_6, tq_6, aq_6, dq_6, mq_6, iq_6, cq_6, jq_6, ⟨cq_60, cq_61, cq_62, cq_63⟩, _, hq_6⟩ := Tq.out.open
     go_wp2_with fail
     have C := SA.out Z10 _ _ hp_6 hq_6
     unfold VEnd at C
     have HC := Lib.hid C
     clear C
     clear cp_60 cp_61 cp_62 cp_63 hp_6
     clear cq_60 cq_61 cq_62 cq_63 hq_6
     go_must (refine HC.out.mono ?_)
     rintro e w27 ⟨v5, rfl, hv5, hb5⟩
     obtain rfl := hv5
     clear HC
     have U := Lib.hid (Tp.out.below hb5)
     clear Tp
     have Tp := U
     clear U
     have U := Lib.hid (Tq.out.below hb5)
     clear Tq
     have Tq := U
     clear U
     have U := Lib.hid (Tr.out.below hb5)
     clear Tr
     have Tr := U
     clear U
     have U := Lib.hid (Ts.out.below hb5)
     clear Ts
     have Ts := U
     clear U
     have U := Lib.hid (Tt.out.below hb5)
     clear Tt
     have Tt := U
     clear U
     have U := Lib.hid (Tu.out.below hb5)
     clear Tu
     have Tu := U
     clear U
     have U := Lib.hid (Tv.out.below hb5)
     clear Tv
     have Tv := U
     clear U
     have U := Lib.hid (Tz.out.below hb5)
     clear Tz
     have Tz := U
     clear U
     have U := Lib.hid (below_then HB.out hb5)
     clear HB
     have HB := U
     clear U
     have U := Lib.hid (rrow_keeps HROW.out hb5)
     clear HROW
     have HROW := U
     clear U
     clear hb5
     clear Tp
     clear Tq
     clear SA
     obtain ⟨sr_7, tr_7, ar_7, dr_7, mr_7, ir_7, cr_7, jr_7, ⟨cr_70, cr_71, cr_72, cr_73⟩, _, hr_7⟩ := Tr.out.open
     obtain ⟨ss_7, ts_7, as_7, ds_7, ms_7, is_7, cs_7, js_7, ⟨cs_70, cs_71, cs_72, cs_73⟩, _, hs_7⟩ := Ts.out.open
     go_wp2_with fail
     have C := SS.out w27 _ _ hr_7 hs_7
     unfold VEnd at C
     have HC := Lib.hid C
     clear C
     clear cr_70 cr_71 cr_72 cr_73 hr_7
     clear cs_70 cs_71 cs_72 cs_73 hs_7
     go_must (refine HC.out.mono ?_)
     rintro e w28 ⟨v5, rfl, hv5, hb5⟩
     obtain rfl := hv5
     clear HC
     have U := Lib.hid (Tr.out.below hb5)
     clear Tr
     have Tr := U
     clear U
     have U := Lib.hid (Ts.out.below hb5)
     clear Ts
     have Ts := U
     clear U
     have U := Lib.hid (Tt.out.below hb5)
     clear Tt
     have Tt := U
     clear U
     have U := Lib.hid (Tu.out.below hb5)
     clear Tu
     have Tu := U
     clear U
     have U := Lib.hid (Tv.out.below hb5)
     clear Tv
     have Tv := U
     clear U
     have U := Lib.hid (Tz.out.below hb5)
     clear Tz
     have Tz := U
     clear U
     have U := Lib.hid (below_then HB.out hb5)
     clear HB
     have HB := U
     clear U
     have U := Lib.hid (rrow_keeps HROW.out hb5)
     clear HROW
     have HROW := U
     clear U
     clear hb5
     clear Tr
     clear Ts
     clear SS
     obtain ⟨st_8, tt_8, at_8, dt_8, mt_8, it_8, ct_8, jt_8, ⟨ct_80, ct_81, ct_82, ct_83⟩, _, ht_8⟩ := Tt.out.open
     obtain ⟨su_8, tu_8, au_8, du_8, mu_8, iu_8, cu_8, ju_8, ⟨cu_80, cu_81, cu_82, cu_83⟩, _, hu_8⟩ := Tu.out.open
     go_wp2_with fail
     have C := SM.out w28 _ _ ht_8 hu_8
     unfold VEnd at C
     have HC := Lib.hid C
     clear C
     clear ct_80 ct_81 ct_82 ct_83 ht_8
     clear cu_80 cu_81 cu_82 cu_83 hu_8
     go_must (refine HC.out.mono ?_)
     rintro e w29 ⟨v5, rfl, hv5, hb5⟩
     obtain rfl := hv5
     clear HC
     have U := Lib.hid (Tt.out.below hb5)
     clear Tt
     have Tt := U
     clear U
     have U := Lib.hid (Tu.out.below hb5)
     clear Tu
     have Tu := U
     clear U
     have U := Lib.hid (Tv.out.below hb5)
     clear Tv
     have Tv := U
     clear U
     have U := Lib.hid (Tz.out.below hb5)
     clear Tz
     have Tz := U
     clear U
     have U := Lib.hid (below_then HB.out hb5)
     clear HB
     have HB := U
     clear U
     have U := Lib.hid (rrow_keeps HROW.out hb5)
     clear HROW
     have HROW := U
     clear U
     clear hb5
     clear Tt
     clear Tu
     clear SM
     obtain ⟨sv_9, tv_9, av_9, dv_9, mv_9, iv_9, cv_9, jv_9, ⟨cv_90, cv_91, cv_92, cv_93⟩, _, hv_9⟩ := Tv.out.open
     obtain ⟨sz_9, tz_9, az_9, dz_9, mz_9, iz_9, cz_9, jz_9, ⟨cz_90, cz_91, cz_92, cz_93⟩, _, hz_9⟩ := Tz.out.open
     go_wp2_with fail
     have C := SD.out w29 _ _ hv_9 hz_9
     unfold VEnd at C
     have HC := Lib.hid C
     clear C
     clear cv_90 cv_91 cv_92 cv_93 hv_9
     clear cz_90 cz_91 cz_92 cz_93 hz_9
     go_must (refine HC.out.mono ?_)
     rintro e w30 ⟨v5, rfl, hv5, hb5⟩
     obtain rfl := hv5
     clear HC
     have U := Lib.hid (Tv.out.below hb5)
     clear Tv
     have Tv := U
     clear U
     have U := Lib.hid (Tz.out.below hb5)
     clear Tz
     have Tz := U
     clear U
     have U := Lib.hid (below_then HB.out hb5)
     clear HB
     have HB := U
     clear U
     have U := Lib.hid (rrow_keeps HROW.out hb5)
     clear HROW
     have HROW := U
     clear U
     clear hb5
     clear Tv
     clear Tz
     clear SD
     go_wp2_with fail
     go_roundw
     case rel => exact ⟨kk + 1, by first | rfl | go_num, by omega, HROW, HB⟩
     case measure => simp [intOf]; omega
    ·have hgk' : ¬ (kk : Int) < 4 := by omega
     go_wp2_with fail
     go_roundw
     case rel => exact ⟨ki + 1, by first | rfl | go_num, by omega, HROW, HB⟩
     case measure => simp [intOf]; omega
  ·have hge' : ¬ (ki : Int) < 4 := by omega
   have LVW := LV.out wr
   unfold VEnd at LVW
   have HLV := Lib.hid LVW
   clear LVW HROW
   go_wp2_with fail
   go_must (refine HLV.out.mono ?_)
   rintro e wz ⟨vz, rfl, hvz, hbz⟩
   obtain rfl := hvz
   have HE := Lib.hid (below_then HB.out hbz)
   clear HLV hbz
   go_wp2_with fail
   go_ret
   exact ⟨rfl, HE.out⟩
end Go.Proofs.YtajehlgclnocoaaGreatDoor
