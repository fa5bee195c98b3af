/-
 The law FracTexts. (tools/genLtx.py makes this text.)
-/
import Derived.Test.YtajehlgclnocoaaGreatDoorTxlT
namespace Go.Proofs.YtajehlgclnocoaaGreatDoor
open Go.RowKit Go.Shelf
set_option linter.unusedVariables false
set_option maxRecDepth 100000
set_option maxHeartbeats 16000000 in
theorem walk_FracTexts (v : Value) (l : List Int) (s : ByteArray) (at' by' : Int) (w : World) (hv : Row .i64 w v l) (hr : ∀ n ∈ l, -9223372036854775808 ≤ n ∧ n ≤ 9223372036854775807) (hs : s.size ≤ maxLen) (hat : -9223372036854775808 ≤ at' ∧ at' ≤ 9223372036854775807) (hby : 0 ≤ by' ∧ by' ≤ 255) :
  Calls Tryz.prog 6 #[v, .string s, .int .i64 at', .int .u8 by'] w fun e w' => e = .returned (.bool true) ∧ Below w.heap.size w w' := by
 have A : Nb (frP l 0) (frQ l 0) := nb_lo (fr_low hr 0).1 (fr_low hr 0).2.1 (fr_low hr 0).2.2 (by decide)
 obtain ⟨t1, t2⟩ := ftxt_size (fr_low hr 0).2.1 (fr_low hr 0).2.2 (by decide)
 have F0 : Hid (∀ X : World, Row .i64 X v l → Calls Tryz.prog 16 #[v, .int .i64 0] X (VEnd (KR (frP l 0) (frQ l 0)) X)) := Lib.hid (fun X h3 => (fr4_any v l 0 X h3 hr ⟨by decide, by decide⟩).mono (fun _ _ => v_r))
 clear hr
 generalize frP l 0 = p1 at *
 generalize frQ l 0 = q1 at *
 obtain ⟨T, hT⟩ : ∃ T, T = fTxt p1 q1 := ⟨_, rfl⟩
 rw [← hT] at t1 t2
 have TXR : Hid (∀ (X : World) (u : Value), RFAt X u p1 q1 → Calls Tryz.prog 48 #[u] X (VEnd (KX (.string T)) X)) := Lib.hid (fun X u h => hT ▸ rText_ref u p1 q1 X h (by have := nb_digs A.n; omega) (by have := nb_digs A.d; omega))
 have PAR : Hid (∀ X : World, Calls Tryz.prog 49 #[.string T] X (VEnd (KTF (0, p1, q1)) X)) := Lib.hid (by
  obtain ⟨R, hP, hR⟩ := parse_both T (by omega)
  have e := hR p1 q1 (hT ▸ ftext_of A)
  subst e
  exact hP.1)
 have OFC := Lib.hid (of_nb A)
 have STR : Hid (∀ (X : World) (u : Value), FAt X u p1 q1 → Calls Tryz.prog 50 #[u] X (VEnd (KX (.string T)) X)) := Lib.hid (fun X u h => hT ▸ (fString_any u p1 q1 X h (by have := A.low.pos; omega) (nb_words A.n) (nb_words A.d)).mono (fun _ _ h => ⟨_, h.1, rfl, h.2⟩))
 have SAM := Lib.hid (same_nb A)
 have LV : Hid (∀ X : World, Calls Tryz.prog 29 #[] X (VEnd (KX (.bool true)) X)) := Lib.hid (fun X => lives4_any X)
 obtain ⟨r, hrr⟩ : ∃ r, at'.tmod (T.size : Int) = r := ⟨_, rfl⟩
 have r1 := Int.lt_tmod_of_pos at' (show (0 : Int) < (T.size : Int) by omega)
 have r2 := Int.tmod_lt_of_pos at' (show (0 : Int) < (T.size : Int) by omega)
 rw [hrr] at r1 r2
 have HK : Hid (∃ kk : Nat, kk < T.size ∧ ((r < 0 ∧ IntKind.i64.wrap (r + (T.size : Int)) = (kk : Int)) ∨ (¬ r < 0 ∧ r = (kk : Int)))) := Lib.hid (by
  rcases Int.lt_or_le r 0 with h | h
  ·exact ⟨(r + (T.size : Int)).toNat, by omega, .inl ⟨h, by rw [Int.toNat_of_nonneg (by omega)]; exact IntWalk.i64_in _ (by omega)⟩⟩
  ·exact ⟨r.toNat, by omega, .inr ⟨by omega, by rw [Int.toNat_of_nonneg h]⟩⟩)
 have HL := Lib.hid hv
 have HB : Hid (Below w.heap.size w w) := Lib.hid (Below.refl _ _)
 have HS := Lib.hid hs
 have HT2 := Lib.hid (And.intro t1 t2)
 obtain ⟨pv, cv, rfl, hcv, hcvm⟩ := (show ∃ p c, v = .slice p l.length c ∧ l.length ≤ c ∧ c ≤ 9223372036854775807 by obtain ⟨p, c, e, h1, h2, _⟩ := hv; exact ⟨p, c, e, h1, h2⟩)
 have HRR := Lib.hid hrr
 have HRB := Lib.hid (And.intro r1 r2)
 clear hv hT A hs t1 t2 r1 r2 hrr
 generalize hll : l.length = ll at *
 clear hll
 go_enter Tryz.func6, Tryz.ntmps6
 go_wp2_with fail
 have C := F0.out w HL.out
 unfold VEnd at C
 have HC := Lib.hid C
 clear C
 go_must (refine HC.out.mono ?_)
 rintro e w21 ⟨v5, rfl, hx5, hb5⟩
 obtain ⟨sra, tra, ara, dra, mra, ira, cra, jra, rfl⟩ := rf_shape hx5
 clear HC
 have hbb := below_then hb5 (below_one w21 (.cells #[.bool sra, .slice ara mra cra, .bool tra, .slice dra ira jra] 26))
 have U := Lib.hid (below_then HB.out hbb)
 clear HB
 have HB := U
 clear U
 have U := Lib.hid (row_keeps HL.out hbb)
 clear HL
 have HL := U
 clear U
 have Ta := Lib.hid (RBox.new hx5)
 clear hx5 hb5 hbb
 clear HL F0
 obtain ⟨sa_1, ta_1, aa_1, da_1, ma_1, ia_1, ca_1, ja_1, ⟨ca_10, ca_11, ca_12, ca_13⟩, _, ha_1⟩ := Ta.out.open
 go_wp2_with fail
 have HSZY1 := Lib.hid (size_alloc1 w21 (.cells #[.bool sra, .slice ara mra cra, .bool tra, .slice dra ira jra] 26))
 generalize w21.alloc (.cells #[.bool sra, .slice ara mra cra, .bool tra, .slice dra ira jra] 26) = Y1 at *
 generalize w21.heap.size = ta at *
 have C := TXR.out Y1 _ ha_1
 unfold VEnd at C
 have HC := Lib.hid C
 clear C
 clear ca_10 ca_11 ca_12 ca_13 ha_1
 go_must (refine HC.out.mono ?_)
 rintro e w22 ⟨v5, rfl, hv5, hb5⟩
 obtain rfl := hv5
 clear HC
 have U := Lib.hid (Ta.out.below hb5)
 clear Ta
 have Ta := U
 clear U
 have U := Lib.hid (below_then HB.out hb5)
 clear HB
 have HB := U
 clear U
 clear hb5
 go_wp2_with fail
 have C := PAR.out w22
 unfold VEnd at C
 have HC := Lib.hid C
 clear C
 go_must (refine HC.out.mono ?_)
 rintro e w23 ⟨v5, rfl, ⟨y5, rfl, hx5⟩, hb5⟩
 obtain ⟨srx, trx, arx, drx, mrx, irx, crx, jrx, rfl⟩ := fat_shape hx5
 clear HC
 have hbb := below_then hb5 (below_one w23 (.cells #[.bool srx, .slice arx mrx crx, .bool trx, .slice drx irx jrx] 35))
 have U := Lib.hid (Ta.out.below hbb)
 clear Ta
 have Ta := U
 clear U
 have U := Lib.hid (below_then HB.out hbb)
 clear HB
 have HB := U
 clear U
 have Tx := Lib.hid (FBox.new hx5)
 clear hx5 hb5 hbb
 clear TXR PAR
 obtain ⟨sa_3, ta_3, aa_3, da_3, ma_3, ia_3, ca_3, ja_3, ⟨ca_30, ca_31, ca_32, ca_33⟩, _, ha_3⟩ := Ta.out.open
 go_wp2_with fail
 have HSZY2 := Lib.hid (size_alloc1 w23 (.cells #[.bool srx, .slice arx mrx crx, .bool trx, .slice drx irx jrx] 35))
 generalize w23.alloc (.cells #[.bool srx, .slice arx mrx crx, .bool trx, .slice drx irx jrx] 35) = Y2 at *
 generalize w23.heap.size = tx at *
 have C := OFC.out Y2 _ ha_3
 unfold VEnd at C
 have HC := Lib.hid C
 clear C
 clear ca_30 ca_31 ca_32 ca_33 ha_3
 go_must (refine HC.out.mono ?_)
 rintro e w24 ⟨v5, rfl, hx5, hb5⟩
 obtain ⟨srf, trf, arf, drf, mrf, irf, crf, jrf, rfl⟩ := fat_shape hx5
 clear HC
 have U := Lib.hid (Ta.out.below hb5)
 clear Ta
 have Ta := U
 clear U
 have U := Lib.hid (Tx.out.below hb5)
 clear Tx
 have Tx := U
 clear U
 have U := Lib.hid (below_then HB.out hb5)
 clear HB
 have HB := U
 clear U
 have Gf := Lib.hid hx5
 clear hx5 hb5
 go_wp2_with fail
 have C := STR.out w24 _ Gf.out
 unfold VEnd at C
 have HC := Lib.hid C
 clear C
 go_must (refine HC.out.mono ?_)
 rintro e w25 ⟨v5, rfl, hv5, hb5⟩
 obtain rfl := hv5
 clear HC
 have U := Lib.hid (Ta.out.below hb5)
 clear Ta
 have Ta := U
 clear U
 have U := Lib.hid (Tx.out.below hb5)
 clear Tx
 have Tx := U
 clear U
 have U := Lib.hid (below_then HB.out hb5)
 clear HB
 have HB := U
 clear U
 have U := Lib.hid (fat_keeps Gf.out hb5)
 clear Gf
 have Gf := U
 clear U
 clear hb5
 clear Gf OFC STR
 obtain ⟨sx_5, tx_5, ax_5, dx_5, mx_5, ix_5, cx_5, jx_5, ⟨cx_50, cx_51, cx_52, cx_53⟩, _, hx_5⟩ := Tx.out.open
 obtain ⟨sa_5, ta_5, aa_5, da_5, ma_5, ia_5, ca_5, ja_5, ⟨ca_50, ca_51, ca_52, ca_53⟩, _, ha_5⟩ := Ta.out.open
 go_wp2_with fail
 have C := SAM.out w25 _ _ hx_5 ha_5
 unfold VEnd at C
 have HC := Lib.hid C
 clear C
 clear cx_50 cx_51 cx_52 cx_53 hx_5
 clear ca_50 ca_51 ca_52 ca_53 ha_5
 go_must (refine HC.out.mono ?_)
 rintro e w26 ⟨v5, rfl, hv5, hb5⟩
 obtain rfl := hv5
 clear HC
 have U := Lib.hid (Ta.out.below hb5)
 clear Ta
 have Ta := U
 clear U
 have U := Lib.hid (Tx.out.below hb5)
 clear Tx
 have Tx := U
 clear U
 have U := Lib.hid (below_then HB.out hb5)
 clear HB
 have HB := U
 clear U
 clear hb5
 clear Tx
 clear Ta
 clear SAM
 have hcv := fun (w : World) (s : ByteArray) => Lib.run_convert_string_bytes (P := Tryz.prog) w 9 67 5 s under_str under_bytes Tryz.underlying5
 go_upto_region 8 with (fail)
 clear hcv
 have b1 := ba_new w26 s HS.out
 have b2 := ba_new (Lib.bytesWorld w26 5 s) T (by have := HT2.out; unfold maxLen; omega)
 have k1 : Below w26.heap.size w26 (Lib.bytesWorld w26 5 s) := below_bytesW _ _ _ _ (Nat.le_refl _)
 have k2 : Below (Lib.bytesWorld w26 5 s).heap.size (Lib.bytesWorld w26 5 s) (Lib.bytesWorld (Lib.bytesWorld w26 5 s) 5 T) := below_bytesW _ _ _ _ (Nat.le_refl _)
 have hz := Lib.bytesWorld_size w26 5 s
 generalize grownCap w26 s.size 0 5 = cp1 at *
 generalize grownCap (Lib.bytesWorld w26 5 s) T.size 0 5 = cp2 at *
 generalize Lib.bytesWorld w26 5 s = W1 at *
 generalize Lib.bytesWorld W1 5 T = W2 at *
 have HA1 := Lib.hid (b1.below k2)
 have HA2 := Lib.hid b2
 have HGE := Lib.hid (Nat.le_trans HB.out.size k1.size)
 have HG12 : Hid (w26.heap.size ≠ W1.heap.size) := Lib.hid (by omega)
 have U := Lib.hid (below_then HB.out (below_then k1 k2))
 clear HB
 have HB := U
 clear U b1 b2 k1 k2
 clear hz
 generalize W1.heap.size = g2 at *
 generalize w26.heap.size = g1 at *
 obtain ⟨kk, hkk, HKK⟩ := HK.out
 have hrr := HRR.out
 obtain ⟨r1, r2⟩ := HRB.out
 obtain ⟨⟨xb, hcell⟩, hfro⟩ := HA2.out.cell hkk
 have U3 := Lib.hid (HA2.out.set hkk by')
 have HA3 := Lib.hid (HA1.out.far (k := kk) HG12.out (.int .u8 by'))
 have HB3 := Lib.hid (HB.out.setCell (p := ⟨g2, kk, none⟩) HGE.out (.int .u8 by'))
 have hk1 : (kk : Int) < (T.size : Int) := by omega
 have ht0 : ¬ ((T.size : Int) = 0) := by omega
 have ht1 : ¬ (T.size = 0) := by omega
 obtain ⟨hat1, hat2⟩ := hat
 obtain ⟨hby1, hby2⟩ := hby
 clear HK HRR HRB HA1 HA2 HB HGE HG12
 rcases HKK with ⟨hneg, hwr⟩ | ⟨hneg, rfl⟩
 all_goals
  go_upto_region 12 with (fail)
  generalize W2.setCell ⟨g2, kk, none⟩ (.int .u8 by') = W3 at *
  clear hcell hfro hrr hneg hk1 ht0 ht1 r1 r2 hkk
  obtain ⟨m, hm, hm1, hm2⟩ : ∃ m : Nat, (if (60 : Int) < (s.size : Int) then 60 else (s.size : Int)) = (m : Int) ∧ m ≤ s.size ∧ m ≤ 60 := by
   by_cases h : (60 : Int) < (s.size : Int)
   ·exact ⟨60, by rw [if_pos h]; rfl, by omega, Nat.le_refl _⟩
   ·exact ⟨s.size, by rw [if_neg h], Nat.le_refl _, by omega⟩
  have hcap1 : m ≤ cp1 := by obtain ⟨_, _, _, h, _⟩ := HA3.out; omega
  have hm3 : (0 : Int) ≤ (m : Int) := by omega
  have hm4 : (m : Int) ≤ (cp1 : Int) := by omega
  obtain ⟨C1, z1, e1⟩ := (HA3.out.below (Below.refl _ W3).drew).conv hm1
  obtain ⟨C2, z2, e2⟩ := (U3.out.below (Below.refl _ W3).drew).conv (Nat.le_refl _)
  obtain ⟨t1, t2⟩ := HT2.out
  have q1 : ¬ 9223372036854775807 < T.size + 2 := by omega
  have q2 : ¬ 9223372036854775807 < 1 + T.size := by omega
  have q3 : ¬ 9223372036854775807 < T.size + 1 := by omega
  go_region
  have z3 : (T ++ ({ data := #[47, 49] } : ByteArray)).size = T.size + 2 := by rw [ByteArray.size_append]; rfl
  have z4 : (({ data := #[48] } : ByteArray) ++ T).size = 1 + T.size := by rw [ByteArray.size_append]; rfl
  have z5 : (({ data := #[45] } : ByteArray) ++ T).size = 1 + T.size := by rw [ByteArray.size_append]; rfl
  have z6 : (T ++ ({ data := #[47] } : ByteArray)).size = T.size + 1 := by rw [ByteArray.size_append]; rfl
  generalize T ++ ({ data := #[47, 49] } : ByteArray) = C3 at *
  generalize ({ data := #[48] } : ByteArray) ++ T = C4 at *
  generalize ({ data := #[45] } : ByteArray) ++ T = C5 at *
  generalize T ++ ({ data := #[47] } : ByteArray) = C6 at *
  have HZS : Hid (∀ k, k < 6 → ∃ z, [C1, C2, C3, C4, C5, C6][k]? = some z ∧ z.size ≤ 5000) := Lib.hid (strs6 (by omega) (by omega) (by omega) (by omega) (by omega) (by omega))
  have hro := srow_keeps (srow_six W3 C1 C2 C3 C4 C5 C6 9) (Below.refl _ _).drew
  have HROW := Lib.hid hro
  have hbd : Below W3.heap.size W3 (W3.alloc (.cells #[.string C1, .string C2, .string C3, .string C4, .string C5, .string C6] 9)).drew := (below_one W3 _).drew
  have HB := Lib.hid (below_then HB3.out hbd)
  clear hro hbd z3 z4 z5 z6 z1 z2 e1 e2 q1 q2 q3 t1 t2 hm hm1 hm2 hm3 hm4 hcap1 HB3 HA3 U3
  generalize (W3.alloc (.cells #[.string C1, .string C2, .string C3, .string C4, .string C5, .string C6] 9)).drew = W4 at *
  generalize W3.heap.size = bl at *
  go_wp2_with fail
  go_loopw [17, 18, 19, 20, 21] (fun iv _ _ _ _ wr => ∃ k : Nat, iv = .int .i64 (k : Int) ∧ k ≤ 6 ∧ Hid (SRow wr bl [C1, C2, C3, C4, C5, C6]) ∧ Hid (Below w.heap.size w wr)) (fun iv _ _ _ _ _ => (6 - intOf iv).toNat)
  case atStart => exact ⟨0, rfl, by decide, HROW, HB⟩
  case round =>
   clear HROW HB
   obtain ⟨k, rfl, hk, HROW, HB⟩ := hrel
   rcases Nat.lt_or_ge k 6 with hlt | hge
   ·have hlt' : (k : Int) < 6 := by omega
    have hlg : ¬ ((6 : Int) ≤ (k : Int)) := by omega
    obtain ⟨S9, hz, sz⟩ := HZS.out k hlt
    obtain ⟨R, ⟨pf, pr, ps⟩, _⟩ := parse_both S9 sz
    have PF := Lib.hid pf
    have PR := Lib.hid pr
    have PS := Lib.hid ps
    have HZ := Lib.hid hz
    clear hz sz pf pr ps
    have xc := HROW.out.2 k _ HZ.out
    go_wp2_with fail
    have C := PF.out wr
    unfold VEnd at C
    have HC := Lib.hid C
    clear C
    go_must (refine HC.out.mono ?_)
    rintro e w51 ⟨v5, rfl, ⟨y5, rfl, hx5⟩, hb5⟩
    obtain ⟨srf, trf, arf, drf, mrf, irf, crf, jrf, rfl⟩ := fat_shape hx5
    clear HC
    have hbb := below_then hb5 (below_one w51 (.cells #[.bool srf, .slice arf mrf crf, .bool trf, .slice drf irf jrf] 35))
    have U := Lib.hid (below_then HB.out hbb)
    clear HB
    have HB := U
    clear U
    have U := Lib.hid (srow_keeps HROW.out hbb)
    clear HROW
    have HROW := U
    clear U
    have Tf := Lib.hid (FBox.new hx5)
    clear hx5 hb5 hbb
    clear xc PF
    have xc := HROW.out.2 k _ HZ.out
    go_wp2_with fail
    have HSZZ1 := Lib.hid (size_alloc1 w51 (.cells #[.bool srf, .slice arf mrf crf, .bool trf, .slice drf irf jrf] 35))
    generalize w51.alloc (.cells #[.bool srf, .slice arf mrf crf, .bool trf, .slice drf irf jrf] 35) = Z1 at *
    generalize w51.heap.size = tf at *
    have C := PR.out Z1
    unfold VEnd at C
    have HC := Lib.hid C
    clear C
    go_must (refine HC.out.mono ?_)
    rintro e w52 ⟨v5, rfl, ⟨y5, rfl, hx5⟩, hb5⟩
    obtain ⟨srg, trg, arg, drg, mrg, irg, crg, jrg, rfl⟩ := rf_shape hx5
    clear HC
    have hbb := below_then hb5 (below_one w52 (.cells #[.bool srg, .slice arg mrg crg, .bool trg, .slice drg irg jrg] 26))
    have U := Lib.hid (Tf.out.below hbb)
    clear Tf
    have Tf := U
    clear U
    have U := Lib.hid (below_then HB.out hbb)
    clear HB
    have HB := U
    clear U
    have U := Lib.hid (srow_keeps HROW.out hbb)
    clear HROW
    have HROW := U
    clear U
    have Tg := Lib.hid (RBox.new hx5)
    clear hx5 hb5 hbb
    clear xc PR
    obtain ⟨sf_32, tf_32, af_32, df_32, mf_32, if_32, cf_32, jf_32, ⟨cf_320, cf_321, cf_322, cf_323⟩, _, hf_32⟩ := Tf.out.open
    obtain ⟨sg_32, tg_32, ag_32, dg_32, mg_32, ig_32, cg_32, jg_32, ⟨cg_320, cg_321, cg_322, cg_323⟩, _, hg_32⟩ := Tg.out.open
    go_wp2_with fail
    have HSZZ2 := Lib.hid (size_alloc1 w52 (.cells #[.bool srg, .slice arg mrg crg, .bool trg, .slice drg irg jrg] 26))
    generalize w52.alloc (.cells #[.bool srg, .slice arg mrg crg, .bool trg, .slice drg irg jrg] 26) = Z2 at *
    generalize w52.heap.size = tg at *
    have C := PS.out Z2 _ _ hf_32 hg_32
    unfold VEnd at C
    have HC := Lib.hid C
    clear C
    clear cf_320 cf_321 cf_322 cf_323 hf_32
    clear cg_320 cg_321 cg_322 cg_323 hg_32
    go_must (refine HC.out.mono ?_)
    rintro e w53 ⟨v5, rfl, hv5, hb5⟩
    obtain rfl := hv5
    clear HC
    have U := Lib.hid (Tf.out.below hb5)
    clear Tf
    have Tf := U
    clear U
    have U := Lib.hid (Tg.out.below hb5)
    clear Tg
    have Tg := U
    clear U
    have U := Lib.hid (below_then HB.out hb5)
    clear HB
    have HB := U
    clear U
    have U := Lib.hid (srow_keeps HROW.out hb5)
    clear HROW
    have HROW := U
    clear U
    clear hb5
    clear Tf
    clear Tg
    go_wp2_with fail
    go_roundw
    case rel => exact ⟨k + 1, by first | rfl | go_num, by omega, HROW, HB⟩
    case measure => simp [intOf]; omega
   ·have hge' : ¬ (k : Int) < 6 := by omega
    have LVW := LV.out wr
    unfold VEnd at LVW
    have HLV := Lib.hid LVW
    clear LVW HROW
    go_wp2_with fail
    go_must (refine HLV.out.mono ?_)
    rintro e wz ⟨vz, rfl, hvz, hbz⟩
    obtain rfl := hvz
    have HE := Lib.hid (below_then HB.out hbz)
    clear HLV hbz
    go_wp2_with fail
    go_ret
    exact ⟨rfl, HE.out⟩
end Go.Proofs.YtajehlgclnocoaaGreatDoor
