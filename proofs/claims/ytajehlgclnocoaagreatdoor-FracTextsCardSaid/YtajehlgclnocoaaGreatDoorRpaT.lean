/-
 The reference of package frac: Parse. (tools/genRpa.py makes this text.)
-/
import Derived.Test.YtajehlgclnocoaaGreatDoorNboT
import Derived.Test.YtajehlgclnocoaaGreatDoorFcDT
import Derived.Test.YtajehlgclnocoaaGreatDoorNpsT
namespace Go.Proofs.YtajehlgclnocoaaGreatDoor
open Go.RowKit Go.Shelf
set_option linter.unusedVariables false
set_option maxRecDepth 100000
def KTN (z k : Int) (w : World) (x : Value) : Prop := ∃ y, x = .tuple #[y, .int .i64 k] ∧ NAt w y z
theorem nParse_gen (s : ByteArray) (hs : s.size ≤ 5000) : ∃ k z : Int, ((k = 0 ∧ strB s = txtN z ∧ ¬ big z) ∨ (k ≠ 0 ∧ z = 0 ∧ ∀ y, strB s = txtN y → big y)) ∧ ∀ X, Calls Tryz.prog 129 #[.string s] X (VEnd (KTN z k) X) := by
 rcases Classical.em (∃ n, strB s = txtN n) with ⟨n, hn⟩ | hno
 ·have e : s = txtS n := strB_inj (by rw [hn, strB_txt])
  have hl : (txtN n).length ≤ 5000 := by rw [← hn, strB_length]; exact hs
  rcases Classical.em (big n) with hb | hb
  ·refine ⟨4, 0, .inr ⟨by decide, rfl, fun y hy => by rw [hn] at hy; rwa [← txtN_inj hy]⟩, fun X => ?_⟩
   rw [e]
   refine (nParse_txt n X hl).mono (fun e w' h => ?_)
   obtain ⟨x, c, rfl, hr, hbb⟩ := h
   rcases hr with ⟨h1, _⟩ | ⟨_, rfl, rfl⟩
   ·exact absurd hb h1
   ·exact ⟨_, rfl, ⟨_, rfl, nat_zero _⟩, hbb⟩
  ·refine ⟨0, n, .inl ⟨rfl, hn, hb⟩, fun X => ?_⟩
   rw [e]
   refine (nParse_txt n X hl).mono (fun e w' h => ?_)
   obtain ⟨x, c, rfl, hr, hbb⟩ := h
   rcases hr with ⟨_, rfl, hx⟩ | ⟨h1, _⟩
   ·exact ⟨_, rfl, ⟨_, rfl, hx⟩, hbb⟩
   ·exact absurd h1 hb
 ·refine ⟨2, 0, .inr ⟨by decide, rfl, fun y hy => absurd ⟨y, hy⟩ hno⟩, fun X => ?_⟩
  refine (nParse_full s X hs).mono (fun e w' h => ?_)
  rcases h with ⟨_, h⟩ | ⟨n, h, _⟩
  ·exact ⟨_, h.1, ⟨_, rfl, nat_zero _⟩, h.2⟩
  ·exact absurd ⟨n, h⟩ hno
theorem byte_no {s : ByteArray} {k : Nat} (h : (47 : UInt8) ∉ s.data.toList.take k) {j : Nat} (hj : j < s.size) (hk : j < k) : ((s[j].toNat : Int) == 47) = false := by
 have hl : s.data.toList[j]? = some s[j] := by
  have : j < s.data.toList.length := by rw [Array.length_toList]; exact hj
  rw [List.getElem?_eq_getElem this]
  simp [ByteArray.getElem_eq_getElem_data]
 have hm : s[j] ∈ s.data.toList.take k := List.mem_of_getElem? (i := j) (by rw [List.getElem?_take, if_pos hk]; exact hl)
 have hne : s[j] ≠ 47 := fun e => h (e ▸ hm)
 have : s[j].toNat ≠ 47 := fun e => hne (UInt8.toNat_inj.1 (by rw [e]; rfl))
 simp
 omega
theorem byte_yes {s : ByteArray} {j : Nat} (hj : j < s.size) (h : s.data.toList[j]? = some 47) : ((s[j].toNat : Int) == 47) = true := by
 have : j < s.data.toList.length := by rw [Array.length_toList]; exact hj
 rw [List.getElem?_eq_getElem this] at h
 have h2 : s[j] = 47 := by
  have := Option.some.inj h
  simpa [ByteArray.getElem_eq_getElem_data] using this
 rw [h2]
 rfl
def TBs (s T B : ByteArray) : Prop := ∀ p q, FText s p q → strB T = txtN p ∧ strB B = txtN q
theorem tb_no {s : ByteArray} (h : (47 : UInt8) ∉ s.data.toList) : TBs s s { data := #[49] } := fun p q h2 => by
 have c : CutL (strB s) (strB s) [] false := .inr ⟨rfl, rfl, rfl, str_mem h⟩
 obtain ⟨e1, _, e3⟩ := ftext_cut h2 c
 refine ⟨e1, ?_⟩
 rw [e3 rfl, ← strB_txt, ← txt_1]
theorem tb_hit {s : ByteArray} {i : Nat} (hi : i < s.data.toList.length) (h : s.data.toList[i]? = some 47) (h2 : (47 : UInt8) ∉ s.data.toList.take i) : TBs s (s.extract 0 i) (s.extract (i + 1) s.size) := fun p q h3 => by
 obtain ⟨e1, e2, _⟩ := ftext_cut h3 (cut_hit hi h h2)
 exact ⟨e1, (e2 rfl).1⟩
theorem no_text1 {s T B : ByteArray} (h : TBs s T B) (b : ∀ y, strB T = txtN y → big y) : ∀ p q, ¬ FText s p q := fun p q k => k.2.1 (b p (h p q k).1)
theorem no_text2 {s T B : ByteArray} (h : TBs s T B) (b : ∀ y, strB B = txtN y → big y) : ∀ p q, ¬ FText s p q := fun p q k => k.2.2.1 (b q (h p q k).2)
theorem no_text3 {s T B : ByteArray} (h : TBs s T B) (b : strB B = txtN 0) : ∀ p q, ¬ FText s p q := fun p q k => by
 have e := txtN_inj (b.symm.trans (h p q k).2)
 have := k.1.pos
 omega
theorem no_text4 {s T B : ByteArray} (h : TBs s T B) {a b : Int} (t1 : strB T = txtN a) (t2 : strB B = txtN b) (hne : fTxt (mkN a b) (mkD a b) ≠ s) : ∀ p q, ¬ FText s p q := fun p q k => by
 obtain ⟨h1, h2⟩ := h p q k
 obtain rfl := txtN_inj (t1.symm.trans h1)
 obtain rfl := txtN_inj (t2.symm.trans h2)
 rw [(mk_self k.1).1, (mk_self k.1).2] at hne
 exact hne (strB_inj (by rw [strB_fTxt]; exact k.2.2.2.symm))
theorem yes_text {s : ByteArray} {a b : Int} (n1 : ¬ big a) (n2 : ¬ big b) (hb : b ≠ 0) (h : fTxt (mkN a b) (mkD a b) = s) : FText s (mkN a b) (mkD a b) :=
 ⟨(mk_low hb).1, big_le (Int.natAbs_ediv_le_natAbs _ _) n1, big_le (Int.natAbs_ediv_le_natAbs _ _) n2, by rw [← h, strB_fTxt]⟩
theorem mk_digs {a b : Int} (n1 : ¬ big a) (n2 : ¬ big b) : (digs (mkN a b).natAbs).length ≤ 400000 ∧ (digs (mkD a b).natAbs).length ≤ 400000 := by
 have h1 := nb_digs (big_le (Int.natAbs_ediv_le_natAbs a (cmn a b)) n1)
 have h2 := nb_digs (big_le (Int.natAbs_ediv_le_natAbs b (cmn a b)) n2)
 exact ⟨by unfold mkN; omega, by unfold mkD; omega⟩
theorem list_ne {S s : ByteArray} (h : S ≠ s) : (S.toList == s.toList) = false := by
 cases hb : (S.toList == s.toList) with
 | false => rfl
 | true =>
  exfalso
  have h1 : S.toList = s.toList := by simpa using hb
  rw [ByteArray.toList_eq, ByteArray.toList_eq] at h1
  exact h (strB_inj (by unfold strB; rw [h1]))
def PEnd5 (s : ByteArray) (w : World) (e : Ending) (w' : World) : Prop := (∃ p q, FText s p q ∧ VEnd (KTR (0, p, q)) w e w') ∨ ((∀ p q, ¬ FText s p q) ∧ VEnd (KTR (2, 0, 1)) w e w')
set_option maxHeartbeats 16000000 in
theorem rParse_any (s : ByteArray) (w : World) (hs : s.size ≤ 5000) : Calls Tryz.prog 51 #[.string s] w (PEnd5 s w) := by
 obtain ⟨w1, hw1⟩ : ∃ w1, w1 = w.alloc (.cells #[.bool false, .slice none 0 0, .bool false, .slice none 0 0] 26) := ⟨_, rfl⟩
 have HB : Hid (Below w.heap.size w w1) := Lib.hid (by rw [hw1]; exact below_one _ _)
 have HL : Hid (Laid w1 w.heap.size 26 [.bool false, .slice none 0 0, .bool false, .slice none 0 0]) := Lib.hid (by rw [hw1]; exact Laid.new _ _ _)
 have OF : Hid (∀ X, Calls Tryz.prog 18 #[.int .i64 0] X (RFEnd 0 1 X)) := Lib.hid (fun X => rOf_any 0 X (by decide))
 unfold RFEnd at OF
 have MK : Hid (∀ (X : World) (u v : Value) (a b : Int), ¬ big a → ¬ big b → NAt X u a → NAt X v b → Calls Tryz.prog 38 #[u, v] X (VEnd (KTR (rMake a b)) X)) := Lib.hid (fun X u v a b h1 h2 h3 h4 => rMake_any u v a b X h3 h4 (by have := nb_digs h1; omega) (by have := nb_digs h2; omega))
 have TX : Hid (∀ (X : World) (u : Value) (a b : Int), ¬ big a → ¬ big b → RFAt X u (mkN a b) (mkD a b) → Calls Tryz.prog 48 #[u] X (VEnd (KX (.string (fTxt (mkN a b) (mkD a b)))) X)) := Lib.hid (fun X u a b h1 h2 h3 => rText_ref u _ _ X h3 (mk_digs h1 h2).1 (mk_digs h1 h2).2)
 rcases idx_cases s.data.toList with ⟨_, hno⟩ | ⟨i, _, hi, hhit, hbef⟩
 ·obtain ⟨B, hB⟩ : ∃ B : ByteArray, B = { data := #[49] } := ⟨_, rfl⟩
  have HTB : Hid (TBs s s B) := Lib.hid (hB ▸ tb_no hno)
  obtain ⟨k1, z1, h1, p1⟩ := nParse_gen s hs
  obtain ⟨k2, z2, h2, p2⟩ := nParse_gen B (by rw [hB]; decide)
  have H1 := Lib.hid h1
  have H2 := Lib.hid h2
  have P1 := Lib.hid p1
  have P2 := Lib.hid p2
  have HNO : Hid (∀ j (h : j < s.size), ((s[j].toNat : Int) == 47) = false) := Lib.hid (fun j h => byte_no (k := s.size) (by rw [List.take_of_length_le (by rw [Array.length_toList]; exact Nat.le_refl _)]; exact hno) h h)
  have HS := Lib.hid hs
  clear h1 h2 p1 p2 hno hs
  go_enter Tryz.func51, Tryz.ntmps51
  go_wp2_with fail
  rw [← hw1, ← hB]
  clear hw1 hB
  go_loop [4, 5, 6] (fun tv bv iv => ∃ j : Nat, j ≤ s.size ∧ tv = .string s ∧ bv = .string B ∧ iv = .int .i64 (j : Int)) (fun _ _ iv => s.size - (intOf iv).toNat)
  case atStart => exact ⟨0, Nat.zero_le _, rfl, rfl, rfl⟩
  case round =>
   obtain ⟨j, hj, rfl, rfl, rfl⟩ := hrel
   by_cases hlt : j < s.size
   ·have hlt2 : (j : Int) < (s.size : Int) := by omega
    have h47 := HNO.out j hlt
    have HLT := Lib.hid hlt
    have hw : IntKind.i64.wrap ((j : Int) + 1) = (j : Int) + 1 := IntWalk.i64_in _ (by have := HS.out; omega)
    go_wp2_with fail
    go_round
    case rel => exact ⟨j + 1, by have := HLT.out; omega, rfl, rfl, by go_num⟩
    case measure => have := HLT.out; simp [intOf]; omega
   ·obtain rfl : j = s.size := by omega
    have hlt2 : ¬ (s.size : Int) < (s.size : Int) := by omega
    clear HNO HS
    go_wp2_with fail
    have C := P1.out w1
    unfold VEnd at C
    have HC := Lib.hid C
    clear C
    go_must (refine HC.out.mono ?_)
    rintro e w21 ⟨v5, rfl, ⟨y5, rfl, hx5⟩, hb5⟩
    obtain ⟨srp, arp, mrp, crp, rfl⟩ := nat_shape hx5
    clear HC
    have hbb := below_then hb5 (below_one w21 (.cells #[.bool srp, .slice arp mrp crp] 24))
    have U := Lib.hid (below_then HB.out hbb)
    clear HB
    have HB := U
    clear U
    have U := Lib.hid (HL.out.below hbb)
    clear HL
    have HL := U
    clear U
    have Tp := Lib.hid (NBox.new hx5)
    clear hx5 hb5 hbb
    go_wp2_with fail
    have HSZY1 := Lib.hid (size_alloc1 w21 (.cells #[.bool srp, .slice arp mrp crp] 24))
    generalize w21.alloc (.cells #[.bool srp, .slice arp mrp crp] 24) = Y1 at *
    generalize w21.heap.size = tp at *
    have C := P2.out Y1
    unfold VEnd at C
    have HC := Lib.hid C
    clear C
    go_must (refine HC.out.mono ?_)
    rintro e w22 ⟨v5, rfl, ⟨y5, rfl, hx5⟩, hb5⟩
    obtain ⟨srq, arq, mrq, crq, rfl⟩ := nat_shape hx5
    clear HC
    have hbb := below_then hb5 (below_one w22 (.cells #[.bool srq, .slice arq mrq crq] 24))
    have U := Lib.hid (Tp.out.below hbb)
    clear Tp
    have Tp := U
    clear U
    have U := Lib.hid (below_then HB.out hbb)
    clear HB
    have HB := U
    clear U
    have U := Lib.hid (HL.out.below hbb)
    clear HL
    have HL := U
    clear U
    have Tq := Lib.hid (NBox.new hx5)
    clear hx5 hb5 hbb
    clear P1 P2
    rcases H1.out with ⟨rfl, t1, n1⟩ | ⟨k10, rfl, b1⟩
    rotate_left
    ·have NT := Lib.hid (no_text1 HTB.out b1)
     have hz1 : (k1 == 0) = false := by simpa using k10
     have hz2 : (k1 != 0) = true := by simpa using k10
     clear k10 b1 H1 H2 HTB MK TX
     clear Tp
     clear Tq
     go_wp2_with fail
     have HSZY2 := Lib.hid (size_alloc1 w22 (.cells #[.bool srq, .slice arq mrq crq] 24))
     generalize w22.alloc (.cells #[.bool srq, .slice arq mrq crq] 24) = Y2 at *
     generalize w22.heap.size = tq at *
     go_must (refine (OF.out _).mono ?_)
     rintro e w6 ⟨v6, rfl, hx6, hb6⟩
     obtain ⟨sv, tv, av, dv, mv, iv, cv, jv, rfl⟩ := rf_shape hx6
     have hl6 := HL.out.below hb6
     obtain ⟨⟨r0, r1, r2, r3⟩, r4, r5, r6, r7⟩ := cellsF hl6
     have HE := Lib.hid (below_set4 (p := w.heap.size) (u0 := .bool sv) (u1 := .slice av mv cv) (u2 := .bool tv) (u3 := .slice dv iv jv) (below_then HB.out hb6) (Nat.le_refl _))
     have HFE := Lib.hid (rf_store (rf_parts hx6).1 (rf_parts hx6).2 hl6)
     clear OF hx6 hb6 hl6
     go_wp2_with fail
     refine bodyPost_ret (v := .tuple #[.agg #[.bool sv, .slice av mv cv, .bool tv, .slice dv iv jv], .int .i64 2]) (by simp [results, Tryz.results51, go_sem, r0, r1, r2, r3]) rfl ?_
     exact .inr ⟨NT.out, _, rfl, ⟨_, rfl, HFE.out⟩, HE.out⟩
    rcases H2.out with ⟨rfl, t2, n2⟩ | ⟨k20, rfl, b2⟩
    rotate_left
    ·have NT := Lib.hid (no_text2 HTB.out b2)
     have hz1 : (k2 == 0) = false := by simpa using k20
     have hz2 : (k2 != 0) = true := by simpa using k20
     clear k20 b2 t1 n1 H1 H2 HTB MK TX
     clear Tp
     clear Tq
     go_wp2_with fail
     have HSZY2 := Lib.hid (size_alloc1 w22 (.cells #[.bool srq, .slice arq mrq crq] 24))
     generalize w22.alloc (.cells #[.bool srq, .slice arq mrq crq] 24) = Y2 at *
     generalize w22.heap.size = tq at *
     go_must (refine (OF.out _).mono ?_)
     rintro e w6 ⟨v6, rfl, hx6, hb6⟩
     obtain ⟨sv, tv, av, dv, mv, iv, cv, jv, rfl⟩ := rf_shape hx6
     have hl6 := HL.out.below hb6
     obtain ⟨⟨r0, r1, r2, r3⟩, r4, r5, r6, r7⟩ := cellsF hl6
     have HE := Lib.hid (below_set4 (p := w.heap.size) (u0 := .bool sv) (u1 := .slice av mv cv) (u2 := .bool tv) (u3 := .slice dv iv jv) (below_then HB.out hb6) (Nat.le_refl _))
     have HFE := Lib.hid (rf_store (rf_parts hx6).1 (rf_parts hx6).2 hl6)
     clear OF hx6 hb6 hl6
     go_wp2_with fail
     refine bodyPost_ret (v := .tuple #[.agg #[.bool sv, .slice av mv cv, .bool tv, .slice dv iv jv], .int .i64 2]) (by simp [results, Tryz.results51, go_sem, r0, r1, r2, r3]) rfl ?_
     exact .inr ⟨NT.out, _, rfl, ⟨_, rfl, HFE.out⟩, HE.out⟩
    have N1 := Lib.hid n1
    have N2 := Lib.hid n2
    have T1 := Lib.hid t1
    have T2 := Lib.hid t2
    clear n1 n2 t1 t2 H1 H2
    obtain ⟨sp_2, ap_2, mp_2, cp_2, ⟨cp_20, cp_21⟩, _, hp_2, _⟩ := Tp.out.open
    obtain ⟨sq_2, aq_2, mq_2, cq_2, ⟨cq_20, cq_21⟩, _, hq_2, _⟩ := Tq.out.open
    go_wp2_with fail
    have HSZY2 := Lib.hid (size_alloc1 w22 (.cells #[.bool srq, .slice arq mrq crq] 24))
    generalize w22.alloc (.cells #[.bool srq, .slice arq mrq crq] 24) = Y2 at *
    generalize w22.heap.size = tq at *
    have C := MK.out Y2 _ _ z1 z2 N1.out N2.out hp_2 hq_2
    unfold VEnd at C
    have HC := Lib.hid C
    clear C
    clear cp_20 cp_21 hp_2
    clear cq_20 cq_21 hq_2
    go_must (refine HC.out.mono ?_)
    rintro e w23 ⟨v5, rfl, ⟨y5, rfl, hx5⟩, hb5⟩
    obtain ⟨sra, tra, ara, dra, mra, ira, cra, jra, rfl⟩ := rf_shape hx5
    clear HC
    have hbb := below_then hb5 (below_one w23 (.cells #[.bool sra, .slice ara mra cra, .bool tra, .slice dra ira jra] 26))
    have U := Lib.hid (Tp.out.below hbb)
    clear Tp
    have Tp := U
    clear U
    have U := Lib.hid (Tq.out.below hbb)
    clear Tq
    have Tq := U
    clear U
    have U := Lib.hid (below_then HB.out hbb)
    clear HB
    have HB := U
    clear U
    have U := Lib.hid (HL.out.below hbb)
    clear HL
    have HL := U
    clear U
    have Ta := Lib.hid (RBox.new hx5)
    clear hx5 hb5 hbb
    clear Tp
    clear Tq
    clear MK
    rcases Classical.em (z2 = 0) with h0 | h0
    ·have hR : rMake z1 z2 = (1, 0, 1) := by unfold rMake; rw [if_pos h0]
     have NT := Lib.hid (no_text3 HTB.out (h0 ▸ T2.out))
     rw [hR] at Ta ⊢
     clear hR h0 T1 T2 N1 N2 TX HTB
     clear Ta
     go_wp2_with fail
     have HSZY3 := Lib.hid (size_alloc1 w23 (.cells #[.bool sra, .slice ara mra cra, .bool tra, .slice dra ira jra] 26))
     generalize w23.alloc (.cells #[.bool sra, .slice ara mra cra, .bool tra, .slice dra ira jra] 26) = Y3 at *
     generalize w23.heap.size = ta at *
     go_must (refine (OF.out _).mono ?_)
     rintro e w6 ⟨v6, rfl, hx6, hb6⟩
     obtain ⟨sv, tv, av, dv, mv, iv, cv, jv, rfl⟩ := rf_shape hx6
     have hl6 := HL.out.below hb6
     obtain ⟨⟨r0, r1, r2, r3⟩, r4, r5, r6, r7⟩ := cellsF hl6
     have HE := Lib.hid (below_set4 (p := w.heap.size) (u0 := .bool sv) (u1 := .slice av mv cv) (u2 := .bool tv) (u3 := .slice dv iv jv) (below_then HB.out hb6) (Nat.le_refl _))
     have HFE := Lib.hid (rf_store (rf_parts hx6).1 (rf_parts hx6).2 hl6)
     clear OF hx6 hb6 hl6
     go_wp2_with fail
     refine bodyPost_ret (v := .tuple #[.agg #[.bool sv, .slice av mv cv, .bool tv, .slice dv iv jv], .int .i64 2]) (by simp [results, Tryz.results51, go_sem, r0, r1, r2, r3]) rfl ?_
     exact .inr ⟨NT.out, _, rfl, ⟨_, rfl, HFE.out⟩, HE.out⟩
    have hR : rMake z1 z2 = (0, mkN z1 z2, mkD z1 z2) := by unfold rMake; rw [if_neg h0]
    rw [hR] at Ta ⊢
    have H0 := Lib.hid h0
    clear hR h0
    obtain ⟨sa_3, ta_3, aa_3, da_3, ma_3, ia_3, ca_3, ja_3, ⟨ca_30, ca_31, ca_32, ca_33⟩, _, ha_3⟩ := Ta.out.open
    go_wp2_with fail
    have HSZY3 := Lib.hid (size_alloc1 w23 (.cells #[.bool sra, .slice ara mra cra, .bool tra, .slice dra ira jra] 26))
    generalize w23.alloc (.cells #[.bool sra, .slice ara mra cra, .bool tra, .slice dra ira jra] 26) = Y3 at *
    generalize w23.heap.size = ta at *
    have C := TX.out Y3 _ z1 z2 N1.out N2.out ha_3
    unfold VEnd at C
    have HC := Lib.hid C
    clear C
    clear ca_30 ca_31 ca_32 ca_33 ha_3
    go_must (refine HC.out.mono ?_)
    rintro e w24 ⟨v5, rfl, hv5, hb5⟩
    obtain rfl := hv5
    clear HC
    have U := Lib.hid (Ta.out.below hb5)
    clear Ta
    have Ta := U
    clear U
    have U := Lib.hid (below_then HB.out hb5)
    clear HB
    have HB := U
    clear U
    have U := Lib.hid (HL.out.below hb5)
    clear HL
    have HL := U
    clear U
    clear hb5
    clear TX
    rcases Classical.em (fTxt (mkN z1 z2) (mkD z1 z2) = s) with he | he
    ·have YT := Lib.hid (yes_text N1.out N2.out H0.out he)
     rw [he]
     obtain ⟨sv, tv, av, dv, mv, iv, cv, jv, ⟨c60, c61, c62, c63⟩, _, hx6⟩ := Ta.out.open
     obtain ⟨⟨r0, r1, r2, r3⟩, r4, r5, r6, r7⟩ := cellsF HL.out
     have HE := Lib.hid (below_set4 (p := w.heap.size) (u0 := .bool sv) (u1 := .slice av mv cv) (u2 := .bool tv) (u3 := .slice dv iv jv) HB.out (Nat.le_refl _))
     have HFE := Lib.hid (rf_store (rf_parts hx6).1 (rf_parts hx6).2 HL.out)
     clear OF hx6 Ta he
     go_wp2_with fail
     refine bodyPost_ret (v := .tuple #[.agg #[.bool sv, .slice av mv cv, .bool tv, .slice dv iv jv], .int .i64 0]) (by simp [results, Tryz.results51, go_sem, r0, r1, r2, r3]) rfl ?_
     exact .inl ⟨_, _, YT.out, _, rfl, ⟨_, rfl, HFE.out⟩, HE.out⟩
    ·have NT := Lib.hid (no_text4 HTB.out T1.out T2.out he)
     have hz1 := list_ne he
     generalize fTxt (mkN z1 z2) (mkD z1 z2) = S9 at *
     have hz2 : (S9.toList != s.toList) = true := by unfold bne; rw [hz1]; rfl
     clear he T1 T2 N1 N2 H0 HTB
     clear Ta
     go_wp2_with fail
     go_must (refine (OF.out _).mono ?_)
     rintro e w6 ⟨v6, rfl, hx6, hb6⟩
     obtain ⟨sv, tv, av, dv, mv, iv, cv, jv, rfl⟩ := rf_shape hx6
     have hl6 := HL.out.below hb6
     obtain ⟨⟨r0, r1, r2, r3⟩, r4, r5, r6, r7⟩ := cellsF hl6
     have HE := Lib.hid (below_set4 (p := w.heap.size) (u0 := .bool sv) (u1 := .slice av mv cv) (u2 := .bool tv) (u3 := .slice dv iv jv) (below_then HB.out hb6) (Nat.le_refl _))
     have HFE := Lib.hid (rf_store (rf_parts hx6).1 (rf_parts hx6).2 hl6)
     clear OF hx6 hb6 hl6
     go_wp2_with fail
     refine bodyPost_ret (v := .tuple #[.agg #[.bool sv, .slice av mv cv, .bool tv, .slice dv iv jv], .int .i64 2]) (by simp [results, Tryz.results51, go_sem, r0, r1, r2, r3]) rfl ?_
     exact .inr ⟨NT.out, _, rfl, ⟨_, rfl, HFE.out⟩, HE.out⟩
 ·obtain ⟨T, hT⟩ : ∃ T : ByteArray, T = s.extract 0 i := ⟨_, rfl⟩
  obtain ⟨B, hB⟩ : ∃ B : ByteArray, B = s.extract (i + 1) s.size := ⟨_, rfl⟩
  have hsz : s.size = s.data.toList.length := by rw [Array.length_toList]; rfl
  obtain ⟨sT, sB⟩ := cut_sizes (cut_hit hi hhit hbef)
  have HTB : Hid (TBs s T B) := Lib.hid (hT ▸ hB ▸ tb_hit hi hhit hbef)
  obtain ⟨k1, z1, h1, p1⟩ := nParse_gen T (by rw [hT]; omega)
  obtain ⟨k2, z2, h2, p2⟩ := nParse_gen B (by rw [hB]; omega)
  have H1 := Lib.hid h1
  have H2 := Lib.hid h2
  have P1 := Lib.hid p1
  have P2 := Lib.hid p2
  have HT := Lib.hid hT
  have HBB := Lib.hid hB
  have hin : i < s.size := by omega
  have HIN := Lib.hid hin
  have HNO : Hid (∀ j (h : j < s.size), j < i → ((s[j].toNat : Int) == 47) = false) := Lib.hid (fun j h h2 => byte_no hbef h h2)
  have HYES : Hid (((s[i].toNat : Int) == 47) = true) := Lib.hid (byte_yes hin hhit)
  have HS := Lib.hid hs
  clear h1 h2 p1 p2 hT hB hsz sT sB hi hhit hbef hs
  go_enter Tryz.func51, Tryz.ntmps51
  go_wp2_with fail
  rw [← hw1]
  clear hw1
  go_loop [4, 5, 6] (fun tv bv iv => ∃ j : Nat, j ≤ i ∧ tv = .string s ∧ bv = .string { data := #[49] } ∧ iv = .int .i64 (j : Int)) (fun _ _ iv => i - (intOf iv).toNat)
  case atStart => exact ⟨0, Nat.zero_le _, rfl, rfl, rfl⟩
  case round =>
   obtain ⟨j, hj, rfl, rfl, rfl⟩ := hrel
   have hin := HIN.out
   have hjs : j < s.size := by omega
   have hlt2 : (j : Int) < (s.size : Int) := by omega
   by_cases hlt : j < i
   ·have h47 := HNO.out j hjs hlt
    have HLT := Lib.hid hlt
    have hw : IntKind.i64.wrap ((j : Int) + 1) = (j : Int) + 1 := IntWalk.i64_in _ (by have := HS.out; omega)
    go_wp2_with fail
    go_round
    case rel => exact ⟨j + 1, by have := HLT.out; omega, rfl, rfl, by go_num⟩
    case measure => have := HLT.out; simp [intOf]; omega
   ·obtain rfl : j = i := by omega
    have h47 := HYES.out
    have hs := HS.out
    have c0 : j + 1 ≤ s.size := by omega
    have c1 : (0 : Int) ≤ (j : Int) := by omega
    have c2 : (j : Int) ≤ (s.size : Int) := by omega
    have c3 : (0 : Int) ≤ (j : Int) + 1 := by omega
    have c4 : (j : Int) + 1 ≤ (s.size : Int) := by omega
    have c5 : IntKind.i64.wrap ((j : Int) + 1) = (j : Int) + 1 := IntWalk.i64_in _ (by omega)
    clear HNO HYES HS
    go_wp2_with fail
    rw [← HT.out, ← HBB.out]
    clear HT HBB
    go_wp2_with fail
    have C := P1.out w1
    unfold VEnd at C
    have HC := Lib.hid C
    clear C
    go_must (refine HC.out.mono ?_)
    rintro e w21 ⟨v5, rfl, ⟨y5, rfl, hx5⟩, hb5⟩
    obtain ⟨srp, arp, mrp, crp, rfl⟩ := nat_shape hx5
    clear HC
    have hbb := below_then hb5 (below_one w21 (.cells #[.bool srp, .slice arp mrp crp] 24))
    have U := Lib.hid (below_then HB.out hbb)
    clear HB
    have HB := U
    clear U
    have U := Lib.hid (HL.out.below hbb)
    clear HL
    have HL := U
    clear U
    have Tp := Lib.hid (NBox.new hx5)
    clear hx5 hb5 hbb
    go_wp2_with fail
    have HSZY1 := Lib.hid (size_alloc1 w21 (.cells #[.bool srp, .slice arp mrp crp] 24))
    generalize w21.alloc (.cells #[.bool srp, .slice arp mrp crp] 24) = Y1 at *
    generalize w21.heap.size = tp at *
    have C := P2.out Y1
    unfold VEnd at C
    have HC := Lib.hid C
    clear C
    go_must (refine HC.out.mono ?_)
    rintro e w22 ⟨v5, rfl, ⟨y5, rfl, hx5⟩, hb5⟩
    obtain ⟨srq, arq, mrq, crq, rfl⟩ := nat_shape hx5
    clear HC
    have hbb := below_then hb5 (below_one w22 (.cells #[.bool srq, .slice arq mrq crq] 24))
    have U := Lib.hid (Tp.out.below hbb)
    clear Tp
    have Tp := U
    clear U
    have U := Lib.hid (below_then HB.out hbb)
    clear HB
    have HB := U
    clear U
    have U := Lib.hid (HL.out.below hbb)
    clear HL
    have HL := U
    clear U
    have Tq := Lib.hid (NBox.new hx5)
    clear hx5 hb5 hbb
    clear P1 P2
    rcases H1.out with ⟨rfl, t1, n1⟩ | ⟨k10, rfl, b1⟩
    rotate_left
    ·have NT := Lib.hid (no_text1 HTB.out b1)
     have hz1 : (k1 == 0) = false := by simpa using k10
     have hz2 : (k1 != 0) = true := by simpa using k10
     clear k10 b1 H1 H2 HTB MK TX
     clear Tp
     clear Tq
     go_wp2_with fail
     have HSZY2 := Lib.hid (size_alloc1 w22 (.cells #[.bool srq, .slice arq mrq crq] 24))
     generalize w22.alloc (.cells #[.bool srq, .slice arq mrq crq] 24) = Y2 at *
     generalize w22.heap.size = tq at *
     go_must (refine (OF.out _).mono ?_)
     rintro e w6 ⟨v6, rfl, hx6, hb6⟩
     obtain ⟨sv, tv, av, dv, mv, iv, cv, jv, rfl⟩ := rf_shape hx6
     have hl6 := HL.out.below hb6
     obtain ⟨⟨r0, r1, r2, r3⟩, r4, r5, r6, r7⟩ := cellsF hl6
     have HE := Lib.hid (below_set4 (p := w.heap.size) (u0 := .bool sv) (u1 := .slice av mv cv) (u2 := .bool tv) (u3 := .slice dv iv jv) (below_then HB.out hb6) (Nat.le_refl _))
     have HFE := Lib.hid (rf_store (rf_parts hx6).1 (rf_parts hx6).2 hl6)
     clear OF hx6 hb6 hl6
     go_wp2_with fail
     refine bodyPost_ret (v := .tuple #[.agg #[.bool sv, .slice av mv cv, .bool tv, .slice dv iv jv], .int .i64 2]) (by simp [results, Tryz.results51, go_sem, r0, r1, r2, r3]) rfl ?_
     exact .inr ⟨NT.out, _, rfl, ⟨_, rfl, HFE.out⟩, HE.out⟩
    rcases H2.out with ⟨rfl, t2, n2⟩ | ⟨k20, rfl, b2⟩
    rotate_left
    ·have NT := Lib.hid (no_text2 HTB.out b2)
     have hz1 : (k2 == 0) = false := by simpa using k20
     have hz2 : (k2 != 0) = true := by simpa using k20
     clear k20 b2 t1 n1 H1 H2 HTB MK TX
     clear Tp
     clear Tq
     go_wp2_with fail
     have HSZY2 := Lib.hid (size_alloc1 w22 (.cells #[.bool srq, .slice arq mrq crq] 24))
     generalize w22.alloc (.cells #[.bool srq, .slice arq mrq crq] 24) = Y2 at *
     generalize w22.heap.size = tq at *
     go_must (refine (OF.out _).mono ?_)
     rintro e w6 ⟨v6, rfl, hx6, hb6⟩
     obtain ⟨sv, tv, av, dv, mv, iv, cv, jv, rfl⟩ := rf_shape hx6
     have hl6 := HL.out.below hb6
     obtain ⟨⟨r0, r1, r2, r3⟩, r4, r5, r6, r7⟩ := cellsF hl6
     have HE := Lib.hid (below_set4 (p := w.heap.size) (u0 := .bool sv) (u1 := .slice av mv cv) (u2 := .bool tv) (u3 := .slice dv iv jv) (below_then HB.out hb6) (Nat.le_refl _))
     have HFE := Lib.hid (rf_store (rf_parts hx6).1 (rf_parts hx6).2 hl6)
     clear OF hx6 hb6 hl6
     go_wp2_with fail
     refine bodyPost_ret (v := .tuple #[.agg #[.bool sv, .slice av mv cv, .bool tv, .slice dv iv jv], .int .i64 2]) (by simp [results, Tryz.results51, go_sem, r0, r1, r2, r3]) rfl ?_
     exact .inr ⟨NT.out, _, rfl, ⟨_, rfl, HFE.out⟩, HE.out⟩
    have N1 := Lib.hid n1
    have N2 := Lib.hid n2
    have T1 := Lib.hid t1
    have T2 := Lib.hid t2
    clear n1 n2 t1 t2 H1 H2
    obtain ⟨sp_2, ap_2, mp_2, cp_2, ⟨cp_20, cp_21⟩, _, hp_2, _⟩ := Tp.out.open
    obtain ⟨sq_2, aq_2, mq_2, cq_2, ⟨cq_20, cq_21⟩, _, hq_2, _⟩ := Tq.out.open
    go_wp2_with fail
    have HSZY2 := Lib.hid (size_alloc1 w22 (.cells #[.bool srq, .slice arq mrq crq] 24))
    generalize w22.alloc (.cells #[.bool srq, .slice arq mrq crq] 24) = Y2 at *
    generalize w22.heap.size = tq at *
    have C := MK.out Y2 _ _ z1 z2 N1.out N2.out hp_2 hq_2
    unfold VEnd at C
    have HC := Lib.hid C
    clear C
    clear cp_20 cp_21 hp_2
    clear cq_20 cq_21 hq_2
    go_must (refine HC.out.mono ?_)
    rintro e w23 ⟨v5, rfl, ⟨y5, rfl, hx5⟩, hb5⟩
    obtain ⟨sra, tra, ara, dra, mra, ira, cra, jra, rfl⟩ := rf_shape hx5
    clear HC
    have hbb := below_then hb5 (below_one w23 (.cells #[.bool sra, .slice ara mra cra, .bool tra, .slice dra ira jra] 26))
    have U := Lib.hid (Tp.out.below hbb)
    clear Tp
    have Tp := U
    clear U
    have U := Lib.hid (Tq.out.below hbb)
    clear Tq
    have Tq := U
    clear U
    have U := Lib.hid (below_then HB.out hbb)
    clear HB
    have HB := U
    clear U
    have U := Lib.hid (HL.out.below hbb)
    clear HL
    have HL := U
    clear U
    have Ta := Lib.hid (RBox.new hx5)
    clear hx5 hb5 hbb
    clear Tp
    clear Tq
    clear MK
    rcases Classical.em (z2 = 0) with h0 | h0
    ·have hR : rMake z1 z2 = (1, 0, 1) := by unfold rMake; rw [if_pos h0]
     have NT := Lib.hid (no_text3 HTB.out (h0 ▸ T2.out))
     rw [hR] at Ta ⊢
     clear hR h0 T1 T2 N1 N2 TX HTB
     clear Ta
     go_wp2_with fail
     have HSZY3 := Lib.hid (size_alloc1 w23 (.cells #[.bool sra, .slice ara mra cra, .bool tra, .slice dra ira jra] 26))
     generalize w23.alloc (.cells #[.bool sra, .slice ara mra cra, .bool tra, .slice dra ira jra] 26) = Y3 at *
     generalize w23.heap.size = ta at *
     go_must (refine (OF.out _).mono ?_)
     rintro e w6 ⟨v6, rfl, hx6, hb6⟩
     obtain ⟨sv, tv, av, dv, mv, iv, cv, jv, rfl⟩ := rf_shape hx6
     have hl6 := HL.out.below hb6
     obtain ⟨⟨r0, r1, r2, r3⟩, r4, r5, r6, r7⟩ := cellsF hl6
     have HE := Lib.hid (below_set4 (p := w.heap.size) (u0 := .bool sv) (u1 := .slice av mv cv) (u2 := .bool tv) (u3 := .slice dv iv jv) (below_then HB.out hb6) (Nat.le_refl _))
     have HFE := Lib.hid (rf_store (rf_parts hx6).1 (rf_parts hx6).2 hl6)
     clear OF hx6 hb6 hl6
     go_wp2_with fail
     refine bodyPost_ret (v := .tuple #[.agg #[.bool sv, .slice av mv cv, .bool tv, .slice dv iv jv], .int .i64 2]) (by simp [results, Tryz.results51, go_sem, r0, r1, r2, r3]) rfl ?_
     exact .inr ⟨NT.out, _, rfl, ⟨_, rfl, HFE.out⟩, HE.out⟩
    have hR : rMake z1 z2 = (0, mkN z1 z2, mkD z1 z2) := by unfold rMake; rw [if_neg h0]
    rw [hR] at Ta ⊢
    have H0 := Lib.hid h0
    clear hR h0
    obtain ⟨sa_3, ta_3, aa_3, da_3, ma_3, ia_3, ca_3, ja_3, ⟨ca_30, ca_31, ca_32, ca_33⟩, _, ha_3⟩ := Ta.out.open
    go_wp2_with fail
    have HSZY3 := Lib.hid (size_alloc1 w23 (.cells #[.bool sra, .slice ara mra cra, .bool tra, .slice dra ira jra] 26))
    generalize w23.alloc (.cells #[.bool sra, .slice ara mra cra, .bool tra, .slice dra ira jra] 26) = Y3 at *
    generalize w23.heap.size = ta at *
    have C := TX.out Y3 _ z1 z2 N1.out N2.out ha_3
    unfold VEnd at C
    have HC := Lib.hid C
    clear C
    clear ca_30 ca_31 ca_32 ca_33 ha_3
    go_must (refine HC.out.mono ?_)
    rintro e w24 ⟨v5, rfl, hv5, hb5⟩
    obtain rfl := hv5
    clear HC
    have U := Lib.hid (Ta.out.below hb5)
    clear Ta
    have Ta := U
    clear U
    have U := Lib.hid (below_then HB.out hb5)
    clear HB
    have HB := U
    clear U
    have U := Lib.hid (HL.out.below hb5)
    clear HL
    have HL := U
    clear U
    clear hb5
    clear TX
    rcases Classical.em (fTxt (mkN z1 z2) (mkD z1 z2) = s) with he | he
    ·have YT := Lib.hid (yes_text N1.out N2.out H0.out he)
     rw [he]
     obtain ⟨sv, tv, av, dv, mv, iv, cv, jv, ⟨c60, c61, c62, c63⟩, _, hx6⟩ := Ta.out.open
     obtain ⟨⟨r0, r1, r2, r3⟩, r4, r5, r6, r7⟩ := cellsF HL.out
     have HE := Lib.hid (below_set4 (p := w.heap.size) (u0 := .bool sv) (u1 := .slice av mv cv) (u2 := .bool tv) (u3 := .slice dv iv jv) HB.out (Nat.le_refl _))
     have HFE := Lib.hid (rf_store (rf_parts hx6).1 (rf_parts hx6).2 HL.out)
     clear OF hx6 Ta he
     go_wp2_with fail
     refine bodyPost_ret (v := .tuple #[.agg #[.bool sv, .slice av mv cv, .bool tv, .slice dv iv jv], .int .i64 0]) (by simp [results, Tryz.results51, go_sem, r0, r1, r2, r3]) rfl ?_
     exact .inl ⟨_, _, YT.out, _, rfl, ⟨_, rfl, HFE.out⟩, HE.out⟩
    ·have NT := Lib.hid (no_text4 HTB.out T1.out T2.out he)
     have hz1 := list_ne he
     generalize fTxt (mkN z1 z2) (mkD z1 z2) = S9 at *
     have hz2 : (S9.toList != s.toList) = true := by unfold bne; rw [hz1]; rfl
     clear he T1 T2 N1 N2 H0 HTB
     clear Ta
     go_wp2_with fail
     go_must (refine (OF.out _).mono ?_)
     rintro e w6 ⟨v6, rfl, hx6, hb6⟩
     obtain ⟨sv, tv, av, dv, mv, iv, cv, jv, rfl⟩ := rf_shape hx6
     have hl6 := HL.out.below hb6
     obtain ⟨⟨r0, r1, r2, r3⟩, r4, r5, r6, r7⟩ := cellsF hl6
     have HE := Lib.hid (below_set4 (p := w.heap.size) (u0 := .bool sv) (u1 := .slice av mv cv) (u2 := .bool tv) (u3 := .slice dv iv jv) (below_then HB.out hb6) (Nat.le_refl _))
     have HFE := Lib.hid (rf_store (rf_parts hx6).1 (rf_parts hx6).2 hl6)
     clear OF hx6 hb6 hl6
     go_wp2_with fail
     refine bodyPost_ret (v := .tuple #[.agg #[.bool sv, .slice av mv cv, .bool tv, .slice dv iv jv], .int .i64 2]) (by simp [results, Tryz.results51, go_sem, r0, r1, r2, r3]) rfl ?_
     exact .inr ⟨NT.out, _, rfl, ⟨_, rfl, HFE.out⟩, HE.out⟩
end Go.Proofs.YtajehlgclnocoaaGreatDoor
