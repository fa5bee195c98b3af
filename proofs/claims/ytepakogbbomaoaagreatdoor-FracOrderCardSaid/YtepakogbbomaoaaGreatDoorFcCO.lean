/-
 Package frac: Sub, Div. (tools/genFrs.py makes this text.) Package frac: Compare. (tools/genFrt.py makes this text.) Package frac: product of three, power and Pow with the exponent 3. (tools/genFru.py makes this text.)
-/
import Derived.Test.YtepakogbbomaoaaGreatDoorRgmO
import Derived.Deep.DeepCutAuto
namespace Go.Proofs.YtepakogbbomaoaaGreatDoor
open Go.RowKit Go.Shelf
set_option linter.unusedVariables false
set_option maxRecDepth 100000
theorem Fine.neg {p q : Int} (h : Fine p q) : Fine (-p) q := ⟨low_neg h.low, by rw [Int.natAbs_neg]; exact h.len, h.wide⟩
set_option maxHeartbeats 4000000 in
theorem fSub_any (x y : Value) (p q r s : Int) (w : World) (hx : FAt w x p q) (hy : FAt w y r s) (f1 : Fine p q) (f2 : Fine r s) :
  Calls Tryz.prog 26 #[x, y] w (FREnd (rAdd p q (-r) s) w) := by
 obtain ⟨s0, t0, a0, b0, m0, i0, c0, j0, s1, t1, a1, b1, m1, i1, c1, j1, w2, rfl, rfl, hw2, z2, hb2, hl0, hl1, hn0, hn1, hd0, hd1⟩ := two_fracs w hx hy
 obtain ⟨w3, hw3⟩ : ∃ w3, w3 = w2.alloc (.cells #[.bool false, .slice none 0 0, .bool false, .slice none 0 0] 34) := ⟨_, rfl⟩
 have k3 : Below w2.heap.size w2 w3 := by rw [hw3]; exact below_one _ _
 have hl2 : Laid w3 (w.heap.size + 2) 34 [.bool false, .slice none 0 0, .bool false, .slice none 0 0] := by rw [hw3, ← z2]; exact Laid.new _ _ _
 have HL0 := Lib.hid (hl0.below k3)
 have HL1 := Lib.hid (hl1.below k3)
 have HL2 := Lib.hid hl2
 have HN0 := Lib.hid (iat_keeps hn0 k3)
 have HN1 := Lib.hid (iat_keeps hn1 k3)
 have HD0 := Lib.hid (iat_keeps hd0 k3)
 have HD1 := Lib.hid (iat_keeps hd1 k3)
 have HF0 := Lib.hid (fat_of HN0.out HD0.out)
 have HF1 := Lib.hid (fat_of HN1.out HD1.out)
 have HB3 := Lib.hid (below_then hb2 k3)
 have HZ3 := Lib.hid (show w.heap.size + 2 < w3.heap.size from hl2.lt)
 rw [hw2] at hw3
 have F1 := Lib.hid f1
 have F2 := Lib.hid f2
 clear hx hy f1 f2 hw2 z2 hb2 hl0 hl1 hl2 hn0 hn1 hd0 hd1 k3
 have CELLS : Hid (∀ X : World, Below w3.heap.size w3 X → X.cell? ⟨w.heap.size, 0, none⟩ = some (.bool s0) ∧ X.cell? ⟨w.heap.size, 1, none⟩ = some (.slice a0 m0 c0) ∧ X.cell? ⟨w.heap.size, 2, none⟩ = some (.bool t0) ∧ X.cell? ⟨w.heap.size, 3, none⟩ = some (.slice b0 i0 j0) ∧ X.cell? ⟨w.heap.size + 1, 0, none⟩ = some (.bool s1) ∧ X.cell? ⟨w.heap.size + 1, 1, none⟩ = some (.slice a1 m1 c1) ∧ X.cell? ⟨w.heap.size + 1, 2, none⟩ = some (.bool t1) ∧ X.cell? ⟨w.heap.size + 1, 3, none⟩ = some (.slice b1 i1 j1)) := Lib.hid (fun X h => by
  obtain ⟨⟨e0, e1, e2, e3⟩, _⟩ := cellsF (HL0.out.below h)
  obtain ⟨⟨e4, e5, e6, e7⟩, _⟩ := cellsF (HL1.out.below h)
  exact ⟨e0, e1, e2, e3, e4, e5, e6, e7⟩)
 have HR : Hid (∀ X : World, Below w3.heap.size w3 X → Laid X (w.heap.size + 2) 34 [.bool false, .slice none 0 0, .bool false, .slice none 0 0]) := Lib.hid (fun X h => HL2.out.below h)
 have ID : Hid (∀ X, Below w3.heap.size w3 X → IAt X (.agg #[.bool t1, .slice b1 i1 j1]) (denZ s)) := Lib.hid (fun X h => iat_keeps HD1.out h)
 have C9 : Hid (∀ X, Below w3.heap.size w3 X → Calls Tryz.prog 51 #[.agg #[.bool s1, .slice a1 m1 c1]] X (VEnd (KI (-r)) X)) := Lib.hid (fun X h => (wNeg_any _ r X (iat_keeps HN1.out h) F2.out.len).mono (fun _ _ => v_i))
 have C13 : Hid (∀ X x12, Below w3.heap.size w3 X → KF (-r) s X x12 → Calls Tryz.prog 12 #[.agg #[.bool s0, .slice a0 m0 c0, .bool t0, .slice b0 i0 j0], x12] X (VEnd (KTF (rAdd p q (-r) s)) X)) := Lib.hid (fun X x12 h k => (fAdd_any _ _ p q (-r) s X (fat_keeps HF0.out h) k F1.out F2.out.neg).mono (fun _ _ => v_tf))
 generalize rAdd p q (-r) s = R at *
 go_enter Tryz.func26, Tryz.ntmps26
 go_wp2_with fail
 rw [← hw3]
 clear hw3
 refine regFSu (fun _ _ d _ _ h => by cases d <;> exact h) CELLS HR ID C9 C13 ?_
 intro X x9 x12 x13 sv tv av dv mv iv cv jv hB hK
 clear CELLS HR ID C9 C13
 obtain ⟨⟨r0, r1, r2, r3⟩, r4, r5, r6, r7⟩ := cellsF (HL2.out.below hB.out)
 have HE := Lib.hid (below_set4 (p := w.heap.size + 2) (u0 := .bool sv) (u1 := .slice av mv cv) (u2 := .bool tv) (u3 := .slice dv iv jv) (below_then HB3.out hB.out) (by omega))
 have HFE := Lib.hid (fat_store hK.out (HL2.out.below hB.out))
 clear hK
 go_wp2_with fail
 refine bodyPost_ret (v := .tuple #[.agg #[.bool sv, .slice av mv cv, .bool tv, .slice dv iv jv], .int .i64 R.1]) (by simp [results, Tryz.results26, go_sem, r0, r1, r2, r3]) rfl ?_
 exact ⟨_, _, _, _, _, _, _, _, rfl, HFE.out, HE.out⟩
theorem div_partsF {p q r s : Int} (f1 : Fine p q) (f2 : Fine r s) (h : r ≠ 0) : rDiv p q r s = rMul p q s r := by unfold rDiv; rw [if_neg h]
theorem rmul_neg {p q r s : Int} (hq : q * r ≠ 0) : rMul p q (-s) (-r) = rMul p q s r := by
 unfold rMul
 rw [Int.mul_neg, Int.mul_neg, (mk_neg hq).1, (mk_neg hq).2]
set_option maxHeartbeats 4000000 in
theorem fDiv_any (x y : Value) (p q r s : Int) (w : World) (hx : FAt w x p q) (hy : FAt w y r s) (f1 : Fine p q) (f2 : Fine r s) :
  Calls Tryz.prog 53 #[x, y] w (FREnd (rDiv p q r s) w) := by
 obtain ⟨s0, t0, a0, b0, m0, i0, c0, j0, s1, t1, a1, b1, m1, i1, c1, j1, w2, rfl, rfl, hw2, z2, hb2, hl0, hl1, hn0, hn1, hd0, hd1⟩ := two_fracs w hx hy
 obtain ⟨w3, hw3⟩ : ∃ w3, w3 = w2.alloc (.cells #[.bool false, .slice none 0 0, .bool false, .slice none 0 0] 34) := ⟨_, rfl⟩
 have k3 : Below w2.heap.size w2 w3 := by rw [hw3]; exact below_one _ _
 have hl2 : Laid w3 (w.heap.size + 2) 34 [.bool false, .slice none 0 0, .bool false, .slice none 0 0] := by rw [hw3, ← z2]; exact Laid.new _ _ _
 have HL0 := Lib.hid (hl0.below k3)
 have HL1 := Lib.hid (hl1.below k3)
 have HL2 := Lib.hid hl2
 have HN0 := Lib.hid (iat_keeps hn0 k3)
 have HN1 := Lib.hid (iat_keeps hn1 k3)
 have HD0 := Lib.hid (iat_keeps hd0 k3)
 have HD1 := Lib.hid (iat_keeps hd1 k3)
 have HF0 := Lib.hid (fat_of HN0.out HD0.out)
 have HF1 := Lib.hid (fat_of HN1.out HD1.out)
 have HB3 := Lib.hid (below_then hb2 k3)
 have HZ3 := Lib.hid (show w.heap.size + 2 < w3.heap.size from hl2.lt)
 rw [hw2] at hw3
 have F1 := Lib.hid f1
 have F2 := Lib.hid f2
 clear hx hy f1 f2 hw2 z2 hb2 hl0 hl1 hl2 hn0 hn1 hd0 hd1 k3
 have SG : Hid (∀ k, k = cmpZ r 0 → Calls Tryz.prog 7 #[.agg #[.bool s1, .slice a1 m1 c1, .bool t1, .slice b1 i1 j1]] w3 (CmpEnd k w3)) := Lib.hid (fun k e => e ▸ fSign_any _ r s w3 HF1.out F2.out.len)
 unfold CmpEnd at SG
 rcases Classical.em (r = 0) with h0 | h0
 ·have HRR : Hid (rDiv p q r s = (1, 0, 1)) := Lib.hid (by unfold rDiv; rw [if_pos h0])
  have SG0 := Lib.hid (SG.out 0 (by rw [h0]; rfl))
  obtain ⟨⟨e4, e5, e6, e7⟩, _⟩ := cellsF HL1.out
  clear SG h0
  go_enter Tryz.func53, Tryz.ntmps53
  go_wp2_with fail
  rw [← hw3]
  clear hw3
  go_must (refine SG0.out.mono ?_)
  rintro e X ⟨rfl, hbX⟩
  clear e4 e5 e6 e7
  have hB := Lib.hid hbX
  have hK := Lib.hid (fat_zero X)
  clear SG0 hbX
  obtain ⟨⟨r0, r1, r2, r3⟩, r4, r5, r6, r7⟩ := cellsF (HL2.out.below hB.out)
  have HE := Lib.hid (below_set4 (p := w.heap.size + 2) (u0 := .bool false) (u1 := .slice none 0 0) (u2 := .bool false) (u3 := .slice none 0 0) (below_then HB3.out hB.out) (by omega))
  have HFE := Lib.hid (fat_store hK.out (HL2.out.below hB.out))
  clear hK
  go_wp2_with fail
  refine bodyPost_ret (v := .tuple #[.agg #[.bool false, .slice none 0 0, .bool false, .slice none 0 0], .int .i64 1]) (by simp [results, Tryz.results53, go_sem, r0, r1, r2, r3]) rfl ?_
  rw [HRR.out]
  exact ⟨_, _, _, _, _, _, _, _, rfl, HFE.out, HE.out⟩
 ·have HRR : Hid (rDiv p q r s = rMul p q s r) := Lib.hid (div_partsF F1.out F2.out h0)
  have SGN : Hid (∃ k : Int, k = cmpZ r 0 ∧ (k = -1 ∨ k = 1) ∧ (k = -1 → r < 0) ∧ (k = 1 → 0 < r)) := Lib.hid ⟨_, rfl, by unfold cmpZ; rcases (by omega : r < 0 ∨ 0 < r) with h | h; exact .inl (if_pos h); exact .inr (by rw [if_neg (by omega), if_pos h]), by unfold cmpZ; intro h; rcases (by omega : r < 0 ∨ 0 < r) with h' | h'; exact h'; rw [if_neg (by omega), if_pos h'] at h; omega, by unfold cmpZ; intro h; rcases (by omega : r < 0 ∨ 0 < r) with h' | h'; rw [if_pos h'] at h; omega; exact h'⟩
  have QR : Hid (q * r ≠ 0) := Lib.hid (Int.mul_ne_zero (by have := F1.out.one; omega) h0)
  have LI : Hid ((0 < r → Low s r) ∧ (r < 0 → Low (-s) (-r))) := Lib.hid (low_inv F2.out.low h0)
  clear h0
  obtain ⟨k, hk, hk1, hk2, hk3⟩ := SGN.out
  have SG0 := Lib.hid (SG.out k hk)
  have SGI : Hid (∀ X v, IAt X v r → Calls Tryz.prog 33 #[v] X (CmpEnd k X)) := Lib.hid (fun X v h => by rw [hk]; exact wSign_any v r X h F2.out.len)
  unfold CmpEnd at SGI
  have BL2 : Hid (∀ X, Below w3.heap.size w3 X → Calls Tryz.prog 34 #[.agg #[.bool s1, .slice a1 m1 c1, .bool t1, .slice b1 i1 j1]] X (IEnd s X)) := Lib.hid (fun X h => below_den _ r s X (fat_keeps HF1.out h) F2.out.one F2.out.wide)
  have BL1 : Hid (∀ X, Below w3.heap.size w3 X → Calls Tryz.prog 34 #[.agg #[.bool s0, .slice a0 m0 c0, .bool t0, .slice b0 i0 j0]] X (VEnd (KI q) X)) := Lib.hid (fun X h => (below_den _ p q X (fat_keeps HF0.out h) F1.out.one F1.out.wide).mono (fun _ _ => v_i))
  have MU : Hid (∀ X u v u' v' r' s', (r' = r ∧ s' = s ∧ 0 < r ∨ r' = -r ∧ s' = -s ∧ r < 0) → IAt X u p → IAt X v q → IAt X u' s' → IAt X v' r' → Calls Tryz.prog 44 #[u, v, u', v'] X (FREnd (rMul p q s r) X)) := Lib.hid (fun X u v u' v' r' s' hr h1 h2 h3 h4 => by
   rcases hr with ⟨rfl, rfl, hp⟩ | ⟨rfl, rfl, hp⟩
   ·exact (multiplied_any u v u' v' p q _ _ X h1 h2 h3 h4 F1.out.low (LI.out.1 hp) F1.out.len F1.out.wide F2.out.wide F2.out.len).mono (fun e w' h => fp_end h)
   ·rw [← rmul_neg QR.out]
    exact (multiplied_any u v u' v' p q _ _ X h1 h2 h3 h4 F1.out.low (LI.out.2 hp) F1.out.len F1.out.wide (by rw [Int.natAbs_neg]; exact F2.out.wide) (by rw [Int.natAbs_neg]; exact F2.out.len)).mono (fun e w' h => fp_end h))
  have NG : Hid (∀ X v z, (z = r ∨ z = s) → IAt X v z → Calls Tryz.prog 51 #[v] X (VEnd (KI (-z)) X)) := Lib.hid (fun X v z hz h => (wNeg_any v z X h (by rcases hz with rfl | rfl; exact F2.out.len; exact F2.out.wide)).mono (fun _ _ => v_i))
  have K2 := Lib.hid hk2
  have K3 := Lib.hid hk3
  generalize rMul p q s r = R at *
  rw [HRR.out]
  obtain ⟨⟨e4, e5, e6, e7⟩, _⟩ := cellsF HL1.out
  clear SG SGN hk hk2 hk3 HRR QR LI
  have STEP : ∀ (k' : Int), k = k' → (k' = -1 ∨ k' = 1) → Calls Tryz.prog 53 #[.agg #[.bool s0, .slice a0 m0 c0, .bool t0, .slice b0 i0 j0], .agg #[.bool s1, .slice a1 m1 c1, .bool t1, .slice b1 i1 j1]] w (FREnd R w) := by
   intro k' hkk hor
   subst hkk
   rcases hor with rfl | rfl
   ·have HR0 := Lib.hid (K2.out rfl)
    clear K2 K3
    go_enter Tryz.func53, Tryz.ntmps53
    go_wp2_with fail
    rw [← hw3]
    clear hw3
    go_must (refine SG0.out.mono ?_)
    rintro e W ⟨rfl, hbW⟩
    have HW := Lib.hid hbW
    clear SG0 e4 e5 e6 e7 hbW
    go_wp2_with fail
    have CE : Hid (∀ X : World, Below W.heap.size W X → X.cell? ⟨w.heap.size + 1, 0, none⟩ = some (.bool s1) ∧ X.cell? ⟨w.heap.size + 1, 1, none⟩ = some (.slice a1 m1 c1) ∧ X.cell? ⟨w.heap.size + 1, 2, none⟩ = some (.bool t1) ∧ X.cell? ⟨w.heap.size + 1, 3, none⟩ = some (.slice b1 i1 j1)) := Lib.hid (fun X h => by
     obtain ⟨⟨e4, e5, e6, e7⟩, _⟩ := cellsF (HL1.out.below (below_then HW.out h))
     exact ⟨e4, e5, e6, e7⟩)
    refine regDv3 (fun _ _ _ _ _ h => h) CE (Lib.hid (iat_keeps HN1.out HW.out)) (Lib.hid (fun X h => BL2.out X (below_then HW.out h))) ?_
    intro X t6 t7 v13 HB T6 T7 L6 L7 D67
    clear CE BL2
    obtain ⟨s7, a7, m7, c7, ⟨c70, c71⟩, h7⟩ := T7.out.open
    have SG1 := Lib.hid (SGI.out X _ h7)
    clear h7 SGI
    have HWB := Lib.hid (below_then HW.out HB.out)
    have LL6 := Lib.hid (Nat.le_trans HW.out.size L6)
    have LL7 := Lib.hid (Nat.le_trans HW.out.size L7)
    have NE := Lib.hid D67
    clear HB L6 L7 D67
    go_wp2_with fail
    go_must (refine SG1.out.mono ?_)
    rintro e X2 ⟨rfl, hb2⟩
    have HX2 := Lib.hid (below_then HWB.out hb2)
    have T6' := Lib.hid (T6.out.below hb2)
    have T7' := Lib.hid (T7.out.below hb2)
    clear T6 T7 c70 c71 SG1 hb2 HWB
    go_wp2_with fail
    obtain ⟨s6, a6, m6, c6, l6, h6⟩ := T6'.out
    obtain ⟨s7, a7, m7, c7, l7, h7⟩ := T7'.out
    have H6 := Lib.hid h6
    have H7 := Lib.hid h7
    have B6 := Lib.hid l6
    have B7 := Lib.hid l7
    clear h6 h7 l6 l7 T6' T7'
    refine regFD5 (z20 := -s) (z22 := -r) (fun _ _ d _ _ h => by cases d <;> exact h) (Lib.hid (fun X h => ?ld)) (Lib.hid (fun X h => B6.out.below h)) (Lib.hid (fun X h => B7.out.below h)) (Lib.hid (Ne.symm NE.out)) (Lib.hid (fun X h => NG.out X _ s (.inr rfl) (iat_keeps H6.out h))) (Lib.hid (fun X h => NG.out X _ r (.inl rfl) (iat_keeps H7.out h))) ?_
    case ld =>
     obtain ⟨f0, f1, _, _⟩ := cells2 (B6.out.below h)
     obtain ⟨f2, f3, _, _⟩ := cells2 (B7.out.below h)
     exact ⟨f0, f1, f2, f3⟩
    intro X3 sa aa ma ca sb ab mb cb HB5 KA5 KB5
    have b6 := B6.out.below HB5.out
    have b7 := B7.out.below HB5.out
    have b6' : Laid ((X3.setCell ⟨t6, 0, none⟩ (.bool sa)).setCell ⟨t6, 1, none⟩ (.slice aa ma ca)) t6 32 [.bool sa, .slice aa ma ca] := (b6.set 0 _).set 1 _
    have b7' := b7.keeps ((keeps_set _ t6 0 (.bool sa)).trans (keeps_set _ t6 1 (.slice aa ma ca))) (Ne.symm NE.out)
    have l61 : Laid (X3.setCell ⟨t6, 0, none⟩ (.bool sa)) t6 32 [.bool sa, .slice a6 m6 c6] := b6.set 0 _
    have kb : IAt ((X3.setCell ⟨t6, 0, none⟩ (.bool sa)).setCell ⟨t6, 1, none⟩ (.slice aa ma ca)) (.agg #[.bool sb, .slice ab mb cb]) (-r) := iat_set (iat_set KB5.out b6 0 _) l61 1 _
    have T7 := Lib.hid (ibox_store b7' kb)
    have i6 := ibox_store b6 KA5.out
    have T6 := Lib.hid (IBox.other (s := sb) (a := ab) (m := mb) (c := cb) ⟨_, _, _, _, b7', iat_set (iat_set (iat_keeps H7.out HB5.out) b6 0 _) l61 1 _⟩ i6 NE.out)
    have HX4 := Lib.hid (below_set2 (p := t7) (u := .bool sb) (v := .slice ab mb cb) (below_set2 (p := t6) (u := .bool sa) (v := .slice aa ma ca) (below_then HX2.out HB5.out) LL6.out) LL7.out)
    clear b6 b7 b6' b7' l61 kb i6 B6 B7 H6 H7 HB5 KA5 KB5 NE NG
    generalize (((X3.setCell ⟨t6, 0, none⟩ (.bool sa)).setCell ⟨t6, 1, none⟩ (.slice aa ma ca)).setCell ⟨t7, 0, none⟩ (.bool sb)).setCell ⟨t7, 1, none⟩ (.slice ab mb cb) = X4 at *
    go_wp2_with fail
    obtain ⟨s6, a6, m6, c6, l6, h6⟩ := T6.out
    obtain ⟨s7, a7, m7, c7, l7, h7⟩ := T7.out
    have H6 := Lib.hid h6
    have H7 := Lib.hid h7
    have B6 := Lib.hid l6
    have B7 := Lib.hid l7
    clear h6 h7 l6 l7 T6 T7
    refine regFD6 (b4 := w.heap.size + 2) (z26 := q) (R := R) (s6 := s6) (a6 := a6) (m6 := m6) (c6 := c6) (s7 := s7) (a7 := a7) (m7 := m7) (c7 := c7) (s2 := s0) (a2 := a0) (m2 := m0) (c2 := c0) (s2x := t0) (a2x := b0) (m2x := i0) (c2x := j0) (fun _ _ d _ _ h => by cases d <;> exact h) (Lib.hid (fun X h => ?ldN)) (Lib.hid (fun X h => HL2.out.below (below_then HX4.out h))) (Lib.hid (fun X h => BL1.out X (below_then HX4.out h))) (Lib.hid (fun X x26 h k26 => ?muN)) ?_
    case ldN =>
     obtain ⟨⟨e0, e1, e2, e3⟩, _⟩ := cellsF (HL0.out.below (below_then HX4.out h))
     obtain ⟨f0, f1, _, _⟩ := cells2 (B6.out.below h)
     obtain ⟨f2, f3, _, _⟩ := cells2 (B7.out.below h)
     exact ⟨e0, e1, e2, e3, f0, f1, f2, f3⟩
    case muN => exact (MU.out X _ _ _ _ (-r) (-s) (.inr ⟨rfl, rfl, HR0.out⟩) (iat_keeps HN0.out (below_then HX4.out h)) k26 (iat_keeps H6.out h) (iat_keeps H7.out h)).mono (fun _ _ => v_tf)
    intro X x26 x29 sv tv av dv mv iv cv jv hB0 hK
    have hB := Lib.hid (below_then HX4.out hB0.out)
    clear BL1 MU H6 H7 B6 B7 hB0
    obtain ⟨⟨r0, r1, r2, r3⟩, r4, r5, r6, r7⟩ := cellsF (HL2.out.below hB.out)
    have HE := Lib.hid (below_set4 (p := w.heap.size + 2) (u0 := .bool sv) (u1 := .slice av mv cv) (u2 := .bool tv) (u3 := .slice dv iv jv) (below_then HB3.out hB.out) (by omega))
    have HFE := Lib.hid (fat_store hK.out (HL2.out.below hB.out))
    clear hK
    go_wp2_with fail
    refine bodyPost_ret (v := .tuple #[.agg #[.bool sv, .slice av mv cv, .bool tv, .slice dv iv jv], .int .i64 R.1]) (by simp [results, Tryz.results53, go_sem, r0, r1, r2, r3]) rfl ?_
    exact ⟨_, _, _, _, _, _, _, _, rfl, HFE.out, HE.out⟩
   ·have HR0 := Lib.hid (K3.out rfl)
    clear K2 K3
    go_enter Tryz.func53, Tryz.ntmps53
    go_wp2_with fail
    rw [← hw3]
    clear hw3
    go_must (refine SG0.out.mono ?_)
    rintro e W ⟨rfl, hbW⟩
    have HW := Lib.hid hbW
    clear SG0 e4 e5 e6 e7 hbW
    go_wp2_with fail
    have CE : Hid (∀ X : World, Below W.heap.size W X → X.cell? ⟨w.heap.size + 1, 0, none⟩ = some (.bool s1) ∧ X.cell? ⟨w.heap.size + 1, 1, none⟩ = some (.slice a1 m1 c1) ∧ X.cell? ⟨w.heap.size + 1, 2, none⟩ = some (.bool t1) ∧ X.cell? ⟨w.heap.size + 1, 3, none⟩ = some (.slice b1 i1 j1)) := Lib.hid (fun X h => by
     obtain ⟨⟨e4, e5, e6, e7⟩, _⟩ := cellsF (HL1.out.below (below_then HW.out h))
     exact ⟨e4, e5, e6, e7⟩)
    refine regDv3 (fun _ _ _ _ _ h => h) CE (Lib.hid (iat_keeps HN1.out HW.out)) (Lib.hid (fun X h => BL2.out X (below_then HW.out h))) ?_
    intro X t6 t7 v13 HB T6 T7 L6 L7 D67
    clear CE BL2
    obtain ⟨s7, a7, m7, c7, ⟨c70, c71⟩, h7⟩ := T7.out.open
    have SG1 := Lib.hid (SGI.out X _ h7)
    clear h7 SGI
    have HWB := Lib.hid (below_then HW.out HB.out)
    have LL6 := Lib.hid (Nat.le_trans HW.out.size L6)
    have LL7 := Lib.hid (Nat.le_trans HW.out.size L7)
    have NE := Lib.hid D67
    clear HB L6 L7 D67
    go_wp2_with fail
    go_must (refine SG1.out.mono ?_)
    rintro e X2 ⟨rfl, hb2⟩
    have HX2 := Lib.hid (below_then HWB.out hb2)
    have T6' := Lib.hid (T6.out.below hb2)
    have T7' := Lib.hid (T7.out.below hb2)
    clear T6 T7 c70 c71 SG1 hb2 HWB
    go_wp2_with fail
    have T6 := T6'
    have T7 := T7'
    have HX4 := HX2
    clear T6' T7' NG NE
    generalize X2 = X4 at *
    obtain ⟨s6, a6, m6, c6, l6, h6⟩ := T6.out
    obtain ⟨s7, a7, m7, c7, l7, h7⟩ := T7.out
    have H6 := Lib.hid h6
    have H7 := Lib.hid h7
    have B6 := Lib.hid l6
    have B7 := Lib.hid l7
    clear h6 h7 l6 l7 T6 T7
    refine regFD6 (b4 := w.heap.size + 2) (z26 := q) (R := R) (s6 := s6) (a6 := a6) (m6 := m6) (c6 := c6) (s7 := s7) (a7 := a7) (m7 := m7) (c7 := c7) (s2 := s0) (a2 := a0) (m2 := m0) (c2 := c0) (s2x := t0) (a2x := b0) (m2x := i0) (c2x := j0) (fun _ _ d _ _ h => by cases d <;> exact h) (Lib.hid (fun X h => ?ldP)) (Lib.hid (fun X h => HL2.out.below (below_then HX4.out h))) (Lib.hid (fun X h => BL1.out X (below_then HX4.out h))) (Lib.hid (fun X x26 h k26 => ?muP)) ?_
    case ldP =>
     obtain ⟨⟨e0, e1, e2, e3⟩, _⟩ := cellsF (HL0.out.below (below_then HX4.out h))
     obtain ⟨f0, f1, _, _⟩ := cells2 (B6.out.below h)
     obtain ⟨f2, f3, _, _⟩ := cells2 (B7.out.below h)
     exact ⟨e0, e1, e2, e3, f0, f1, f2, f3⟩
    case muP => exact (MU.out X _ _ _ _ r s (.inl ⟨rfl, rfl, HR0.out⟩) (iat_keeps HN0.out (below_then HX4.out h)) k26 (iat_keeps H6.out h) (iat_keeps H7.out h)).mono (fun _ _ => v_tf)
    intro X x26 x29 sv tv av dv mv iv cv jv hB0 hK
    have hB := Lib.hid (below_then HX4.out hB0.out)
    clear BL1 MU H6 H7 B6 B7 hB0
    obtain ⟨⟨r0, r1, r2, r3⟩, r4, r5, r6, r7⟩ := cellsF (HL2.out.below hB.out)
    have HE := Lib.hid (below_set4 (p := w.heap.size + 2) (u0 := .bool sv) (u1 := .slice av mv cv) (u2 := .bool tv) (u3 := .slice dv iv jv) (below_then HB3.out hB.out) (by omega))
    have HFE := Lib.hid (fat_store hK.out (HL2.out.below hB.out))
    clear hK
    go_wp2_with fail
    refine bodyPost_ret (v := .tuple #[.agg #[.bool sv, .slice av mv cv, .bool tv, .slice dv iv jv], .int .i64 R.1]) (by simp [results, Tryz.results53, go_sem, r0, r1, r2, r3]) rfl ?_
    exact ⟨_, _, _, _, _, _, _, _, rfl, HFE.out, HE.out⟩
  exact STEP k rfl hk1
theorem cmp_times {p r q : Int} (hq : 0 < q) : cmpZ (p * q) (r * q) = cmpZ p r := by
 unfold cmpZ
 have h1 : p * q < r * q ↔ p < r := Int.mul_lt_mul_right hq
 have h2 : r * q < p * q ↔ r < p := Int.mul_lt_mul_right hq
 simp only [h1, h2]
theorem cmp_eq0 {a b : Int} : cmpZ a b = 0 ↔ a = b := by
 unfold cmpZ
 split
 ·constructor <;> intro h <;> omega
 ·split
  ·constructor <;> intro h <;> omega
  ·constructor <;> intro h <;> omega
theorem ec_or2 {a b : Int} (ha : ¬ big a) (hb : ¬ big b) : orI (ecF a) (ecF b) = 0 ∧ limF a = a ∧ limF b = b := by
 unfold orI ecF limF
 rw [if_neg ha, if_neg hb, if_neg ha, if_neg hb]
 exact ⟨rfl, rfl, rfl⟩
set_option maxHeartbeats 8000000 in
theorem fCompare_any (x y : Value) (p q r s : Int) (w : World) (hx : FAt w x p q) (hy : FAt w y r s) (f1 : Fine p q) (f2 : Fine r s) (nb1 : ¬ big (p * s)) (nb2 : ¬ big (r * q)) :
  Calls Tryz.prog 9 #[x, y] w (CmpEnd (cmpZ (p * s) (r * q)) w) := by
 obtain ⟨s0, t0, a0, b0, m0, i0, c0, j0, s1, t1, a1, b1, m1, i1, c1, j1, w2, rfl, rfl, hw2, z2, hb2, hl0, hl1, hn0, hn1, hd0, hd1⟩ := two_fracs w hx hy
 obtain ⟨w3, hw3⟩ : ∃ w3, w3 = w2 := ⟨_, rfl⟩
 have k3 : Below w2.heap.size w2 w3 := by rw [hw3]; exact Below.refl _ _
 have HL0 := Lib.hid (hl0.below k3)
 have HL1 := Lib.hid (hl1.below k3)
 have HN0 := Lib.hid (iat_keeps hn0 k3)
 have HN1 := Lib.hid (iat_keeps hn1 k3)
 have HD0 := Lib.hid (iat_keeps hd0 k3)
 have HD1 := Lib.hid (iat_keeps hd1 k3)
 have HF0 := Lib.hid (fat_of HN0.out HD0.out)
 have HF1 := Lib.hid (fat_of HN1.out HD1.out)
 have HB3 := Lib.hid (below_then hb2 k3)
 rw [hw2] at hw3
 have F1 := Lib.hid f1
 have F2 := Lib.hid f2
 clear hx hy f1 f2 hw2 z2 hb2 hl0 hl1 hn0 hn1 hd0 hd1 k3
 have CELLS : Hid (∀ X : World, Below w3.heap.size w3 X → X.cell? ⟨w.heap.size, 0, none⟩ = some (.bool s0) ∧ X.cell? ⟨w.heap.size, 1, none⟩ = some (.slice a0 m0 c0) ∧ X.cell? ⟨w.heap.size, 2, none⟩ = some (.bool t0) ∧ X.cell? ⟨w.heap.size, 3, none⟩ = some (.slice b0 i0 j0) ∧ X.cell? ⟨w.heap.size + 1, 0, none⟩ = some (.bool s1) ∧ X.cell? ⟨w.heap.size + 1, 1, none⟩ = some (.slice a1 m1 c1) ∧ X.cell? ⟨w.heap.size + 1, 2, none⟩ = some (.bool t1) ∧ X.cell? ⟨w.heap.size + 1, 3, none⟩ = some (.slice b1 i1 j1)) := Lib.hid (fun X h => by
  obtain ⟨⟨e0, e1, e2, e3⟩, _⟩ := cellsF (HL0.out.below h)
  obtain ⟨⟨e4, e5, e6, e7⟩, _⟩ := cellsF (HL1.out.below h)
  exact ⟨e0, e1, e2, e3, e4, e5, e6, e7⟩)
 have BL1 : Hid (∀ X, Below w3.heap.size w3 X → Calls Tryz.prog 34 #[.agg #[.bool s0, .slice a0 m0 c0, .bool t0, .slice b0 i0 j0]] X (IEnd q X)) := Lib.hid (fun X h => below_den _ p q X (fat_keeps HF0.out h) F1.out.one F1.out.wide)
 have BL2 : Hid (∀ X, Below w3.heap.size w3 X → Calls Tryz.prog 34 #[.agg #[.bool s1, .slice a1 m1 c1, .bool t1, .slice b1 i1 j1]] X (IEnd s X)) := Lib.hid (fun X h => below_den _ r s X (fat_keeps HF1.out h) F2.out.one F2.out.wide)
 have CP : Hid (∀ X u v a b, (digsW a.natAbs).length ≤ 400000 → (digsW b.natAbs).length ≤ 400000 → IAt X u a → IAt X v b → Calls Tryz.prog 35 #[u, v] X (CmpEnd (cmpZ a b) X)) := Lib.hid (fun X u v a b la lb h1 h2 => wCompare_any u v a b X h1 h2 la lb)
 unfold CmpEnd at CP
 have EC := Lib.hid (ec_or2 nb1 nb2)
 have LA := Lib.hid (low_len nb1)
 have LB := Lib.hid (low_len nb2)
 clear nb1 nb2
 obtain ⟨c, hc⟩ : ∃ c, c = cmpZ q s := ⟨_, rfl⟩
 have HC0 : Hid ((c = 0 ∧ q = s ∧ cmpZ (p * s) (r * q) = cmpZ p r) ∨ ¬ c = 0) := Lib.hid (by
  rcases Classical.em (c = 0) with h | h
  ·rw [hc, cmp_eq0] at h
   exact .inl ⟨by rw [hc, cmp_eq0]; exact h, h, by rw [h]; exact cmp_times (by have := F2.out.one; omega)⟩
  ·exact .inr h)
 have HCQ := Lib.hid hc
 clear hc
 go_enter Tryz.func9, Tryz.ntmps9
 go_wp2_with fail
 rw [← hw3]
 clear hw3
 refine regCp1 (fun _ _ _ _ _ h => h) CELLS BL1 BL2 ?_
 intro X1 t5 t6 v12 v14 HB1 Tq0 Ts0 L5 L6 N56
 have HB0 := Lib.hid (below_then HB3.out HB1.out)
 have Tq := Tq0
 have Ts := Ts0
 have K0 := Lib.hid (HL0.out.below HB1.out)
 have K1 := Lib.hid (HL1.out.below HB1.out)
 have M0 := Lib.hid (iat_keeps HN0.out HB1.out)
 have M1 := Lib.hid (iat_keeps HN1.out HB1.out)
 clear CELLS BL1 BL2 HB1 Tq0 Ts0 L5 L6 N56 HL0 HL1 HN0 HN1 HD0 HD1 HF0 HF1 HB3
 obtain ⟨sq_a, aq_a, mq_a, kq_a, ⟨cq_a0, cq_a1⟩, hq_a⟩ := Tq.out.open
 obtain ⟨ss_a, as_a, ms_a, ks_a, ⟨cs_a0, cs_a1⟩, hs_a⟩ := Ts.out.open
 go_wp2_with fail
 have C0 := CP.out _ _ _ _ _ F1.out.wide F2.out.wide hq_a hs_a
 rw [← HCQ.out] at C0
 have HC := Lib.hid C0
 clear C0 HCQ
 clear cq_a0 cq_a1 hq_a
 clear cs_a0 cs_a1 hs_a
 go_must (refine HC.out.mono ?_)
 rintro e X2 ⟨rfl, hb5⟩
 clear HC
 replace Tq := Lib.hid (Tq.out.below hb5)
 replace Ts := Lib.hid (Ts.out.below hb5)
 replace HB0 := Lib.hid (below_then HB0.out hb5)
 replace K0 := Lib.hid (K0.out.below hb5)
 replace K1 := Lib.hid (K1.out.below hb5)
 replace M0 := Lib.hid (iat_keeps M0.out hb5)
 replace M1 := Lib.hid (iat_keeps M1.out hb5)
 clear hb5
 rcases HC0.out with ⟨hc0, hqs, hcc⟩ | hc0
 ·subst hc0
  have HCC := Lib.hid hcc
  clear hqs hcc HC0 EC
  obtain ⟨⟨e0, e1, e2, e3⟩, _⟩ := cellsF K0.out
  obtain ⟨⟨e4, e5, e6, e7⟩, _⟩ := cellsF K1.out
  obtain ⟨kk, hkk⟩ : ∃ kk, kk = cmpZ p r := ⟨_, rfl⟩
  have HKK := Lib.hid hkk
  clear hkk
  go_wp2_with fail
  have C1 := CP.out _ _ _ _ _ F1.out.len F2.out.len M0.out M1.out
  rw [← HKK.out] at C1
  have HC := Lib.hid C1
  clear C1
  clear e0 e1 e2 e3 e4 e5 e6 e7
  go_must (refine HC.out.mono ?_)
  rintro e X3 ⟨rfl, hb5⟩
  have HE := Lib.hid (below_then HB0.out hb5)
  clear HC hb5
  go_wp2_with fail
  go_ret
  refine ⟨?_, HE.out⟩
  rw [HCC.out, ← HKK.out]
  rfl
 ·have hc1 : (c == 0) = false := by simpa using hc0
  clear HC0
  have P1 : Hid (∀ X u b s' a' m c', IAt X u p → IAt X (.agg #[.bool s', .slice a' m c']) s → b < X.heap.size → X.cell? ⟨b, 0, none⟩ = some (.bool s') → X.cell? ⟨b, 1, none⟩ = some (.slice a' m c') → Calls Tryz.prog  36 #[u, .slice (some ⟨b, 0, none⟩) 1 1] X (REndW (p * s) X)) := Lib.hid (fun X u b s' a' m c' h1 h2 h3 h4 h5 => fProduct_any u p s b s' a' m c' X h1 h2 h3 h4 h5 F1.out.len F2.out.wide)
  have P2 : Hid (∀ X u b s' a' m c', IAt X u r → IAt X (.agg #[.bool s', .slice a' m c']) q → b < X.heap.size → X.cell? ⟨b, 0, none⟩ = some (.bool s') → X.cell? ⟨b, 1, none⟩ = some (.slice a' m c') → Calls Tryz.prog  36 #[u, .slice (some ⟨b, 0, none⟩) 1 1] X (REndW (r * q) X)) := Lib.hid (fun X u b s' a' m c' h1 h2 h3 h4 h5 => fProduct_any u r q b s' a' m c' X h1 h2 h3 h4 h5 F2.out.len F1.out.wide)
  generalize hps : p * s = A at *
  generalize hrq : r * q = B at *
  clear hps hrq
  obtain ⟨⟨e0, e1, e2, e3⟩, _⟩ := cellsF K0.out
  obtain ⟨ss_5, as_5, ms_5, ks_5, ⟨cs_50, cs_51⟩, hs_5⟩ := Ts.out.open
  go_wp2_with fail
  have al := Laid.new X2 32 [.bool ss_5, .slice as_5 ms_5 ks_5]
  have hal := below_one X2 (.cells #[.bool ss_5, .slice as_5 ms_5 ks_5] 32)
  have C := P1.out _ _ _ _ _ _ _ (iat_keeps M0.out hal) (iat_keeps hs_5 hal) al.lt (al.cell 0) (al.cell 1)
  have HC := Lib.hid C
  clear C
  clear cs_50 cs_51 hs_5
  replace Tq := Lib.hid (Tq.out.below hal)
  replace Ts := Lib.hid (Ts.out.below hal)
  replace HB0 := Lib.hid (below_then HB0.out hal)
  replace K0 := Lib.hid (K0.out.below hal)
  replace K1 := Lib.hid (K1.out.below hal)
  replace M0 := Lib.hid (iat_keeps M0.out hal)
  replace M1 := Lib.hid (iat_keeps M1.out hal)
  clear al hal
  generalize X2.alloc (.cells #[.bool ss_5, .slice as_5 ms_5 ks_5] 32) = Y1 at *
  clear e0 e1 e2 e3 hc1
  go_must (refine HC.out.mono ?_)
  rintro e w26 hw5
  obtain ⟨b5, a5, m5, k5, c5, rfl, hr5, hb5⟩ := rend_form hw5
  obtain ⟨rfl, hx5⟩ := rend_limF hr5
  clear hw5 hr5
  have hbb := below_then hb5 (below_one w26 (.cells #[.bool b5, .slice a5 m5 k5] 32))
  replace Tq := Lib.hid (Tq.out.below hbb)
  replace Ts := Lib.hid (Ts.out.below hbb)
  replace HB0 := Lib.hid (below_then HB0.out hbb)
  replace K0 := Lib.hid (K0.out.below hbb)
  replace K1 := Lib.hid (K1.out.below hbb)
  replace M0 := Lib.hid (iat_keeps M0.out hbb)
  replace M1 := Lib.hid (iat_keeps M1.out hbb)
  have TA := Lib.hid (IBox.new hx5)
  clear hx5 hb5 hbb HC
  obtain ⟨⟨e4, e5, e6, e7⟩, _⟩ := cellsF K1.out
  obtain ⟨sq_6, aq_6, mq_6, kq_6, ⟨cq_60, cq_61⟩, hq_6⟩ := Tq.out.open
  go_wp2_with fail
  have HSZY2 := Lib.hid (size_alloc1 w26 (.cells #[.bool b5, .slice a5 m5 k5] 32))
  generalize w26.alloc (.cells #[.bool b5, .slice a5 m5 k5] 32) = Y2 at *
  generalize w26.heap.size = tA at *
  have al := Laid.new Y2 32 [.bool sq_6, .slice aq_6 mq_6 kq_6]
  have hal := below_one Y2 (.cells #[.bool sq_6, .slice aq_6 mq_6 kq_6] 32)
  rw [HSZY2.out] at al
  have C := P2.out _ _ _ _ _ _ _ (iat_keeps M1.out hal) (iat_keeps hq_6 hal) al.lt (al.cell 0) (al.cell 1)
  have HC := Lib.hid C
  clear C
  clear cq_60 cq_61 hq_6
  replace Tq := Lib.hid (Tq.out.below hal)
  replace Ts := Lib.hid (Ts.out.below hal)
  replace TA := Lib.hid (TA.out.below hal)
  replace HB0 := Lib.hid (below_then HB0.out hal)
  replace K0 := Lib.hid (K0.out.below hal)
  replace K1 := Lib.hid (K1.out.below hal)
  replace M0 := Lib.hid (iat_keeps M0.out hal)
  replace M1 := Lib.hid (iat_keeps M1.out hal)
  clear al hal
  generalize Y2.alloc (.cells #[.bool sq_6, .slice aq_6 mq_6 kq_6] 32) = Y3 at *
  clear e4 e5 e6 e7
  go_must (refine HC.out.mono ?_)
  rintro e w27 hw5
  obtain ⟨b5, a5, m5, k5, c5, rfl, hr5, hb5⟩ := rend_form hw5
  obtain ⟨rfl, hx5⟩ := rend_limF hr5
  clear hw5 hr5
  have hbb := below_then hb5 (below_one w27 (.cells #[.bool b5, .slice a5 m5 k5] 32))
  replace Tq := Lib.hid (Tq.out.below hbb)
  replace Ts := Lib.hid (Ts.out.below hbb)
  replace TA := Lib.hid (TA.out.below hbb)
  replace HB0 := Lib.hid (below_then HB0.out hbb)
  replace K0 := Lib.hid (K0.out.below hbb)
  replace K1 := Lib.hid (K1.out.below hbb)
  replace M0 := Lib.hid (iat_keeps M0.out hbb)
  replace M1 := Lib.hid (iat_keeps M1.out hbb)
  have TB := Lib.hid (IBox.new hx5)
  clear hx5 hb5 hbb HC
  generalize ecF A = ea at *
  generalize ecF B = eb at *
  generalize hor : orI ea eb = k at *
  go_wp2_with fail
  have HSZY4 := Lib.hid (size_alloc1 w27 (.cells #[.bool b5, .slice a5 m5 k5] 32))
  generalize w27.alloc (.cells #[.bool b5, .slice a5 m5 k5] 32) = Y4 at *
  generalize w27.heap.size = tB at *
  have AL := Laid.new Y4 41 [.int .i64 ea, .int .i64 eb]
  rw [HSZY4.out] at AL
  have hb4 := below_one Y4 (.cells #[.int .i64 ea, .int .i64 eb] 41)
  have HOR := or2_any _ _ _ _ (AL.cell 0) (AL.cell 1)
  rw [hor] at HOR
  have HOR := Lib.hid HOR
  replace Tq := Lib.hid (Tq.out.below hb4)
  replace Ts := Lib.hid (Ts.out.below hb4)
  replace TA := Lib.hid (TA.out.below hb4)
  replace TB := Lib.hid (TB.out.below hb4)
  replace HB0 := Lib.hid (below_then HB0.out hb4)
  replace K0 := Lib.hid (K0.out.below hb4)
  replace K1 := Lib.hid (K1.out.below hb4)
  replace M0 := Lib.hid (iat_keeps M0.out hb4)
  replace M1 := Lib.hid (iat_keeps M1.out hb4)
  clear AL hb4 hor
  go_must (refine HOR.out.mono ?_)
  rintro e w4 ⟨rfl, rfl⟩
  clear HOR
  generalize Y4.alloc (.cells #[.int .i64 ea, .int .i64 eb] 41) = X4 at *
  obtain ⟨rfl, lA, lB⟩ := EC.out
  rw [lA] at TA
  rw [lB] at TB
  clear lA lB EC P1 P2
  obtain ⟨sA_z, aA_z, mA_z, kA_z, ⟨cA_z0, cA_z1⟩, hA_z⟩ := TA.out.open
  obtain ⟨sB_z, aB_z, mB_z, kB_z, ⟨cB_z0, cB_z1⟩, hB_z⟩ := TB.out.open
  go_wp2_with fail
  have HC := Lib.hid (CP.out _ _ _ _ _ LA.out LB.out hA_z hB_z)
  clear cA_z0 cA_z1 hA_z
  clear cB_z0 cB_z1 hB_z
  go_must (refine HC.out.mono ?_)
  rintro e X5 ⟨rfl, hb5⟩
  have HE := Lib.hid (below_then HB0.out hb5)
  generalize cmpZ A B = k2 at *
  clear HC hb5
  go_wp2_with fail
  go_ret
  exact ⟨rfl, HE.out⟩
def POk (z : Int) (w : World) (e : Ending) (w' : World) : Prop := ∃ (s : Bool) (a : Option Addr) (m c : Nat), e = .returned (.tuple #[.agg #[.bool s, .slice a m c], .int .i64 0]) ∧ IAt w' (.agg #[.bool s, .slice a m c]) z ∧ Below w.heap.size w w'
set_option maxHeartbeats 8000000 in
theorem fProduct2_any (x : Value) (a b0 b1 z1 z2 : Int) (g cap : Nat) (s2 s3 : Bool) (p2 p3 : Option Addr) (m2 m3 k2 k3 : Nat) (w : World) (hx : IAt w x a) (hy : IAt w (.agg #[.bool s2, .slice p2 m2 k2]) b0) (hz : IAt w (.agg #[.bool s3, .slice p3 m3 k3]) b1) (hg : g < w.heap.size)
  (hg0 : w.cell? ⟨g, 0, none⟩ = some (.bool s2)) (hg1 : w.cell? ⟨g, 1, none⟩ = some (.slice p2 m2 k2)) (hg2 : w.cell? ⟨g, 2, none⟩ = some (.bool s3)) (hg3 : w.cell? ⟨g, 3, none⟩ = some (.slice p3 m3 k3))
  (ha : (digsW a.natAbs).length ≤ 400000) (hb0 : (digsW b0.natAbs).length ≤ 400000) (hb1 : (digsW b1.natAbs).length ≤ 400000) (hz1 : z1 = a * b0) (hz2 : z2 = z1 * b1) (nb1 : ¬ big z1) (nb2 : ¬ big z2) (hcap : 2 ≤ cap) (hcm : cap ≤ 9223372036854775807) :
  Calls Tryz.prog 36 #[x, .slice (some ⟨g, 0, none⟩) 2 cap] w (POk z2 w) := by
 obtain ⟨s, p, m, k, rfl⟩ := iat_shape hx
 have T1 : IBox ((w.alloc (.cells #[.bool s, .slice p m k] 32)).alloc (.cells #[.bool s, .slice p m k] 32)) (w.heap.size + 1) a := by
  have := IBox.new (iat_keeps hx (below_one w (.cells #[.bool s, .slice p m k] 32)))
  rwa [World.size_alloc] at this
 have HB0 := Lib.hid (below_then (below_one w (.cells #[.bool s, .slice p m k] 32)) (below_one _ (.cells #[.bool s, .slice p m k] 32)))
 have HT1 := Lib.hid T1
 have HG0 := Lib.hid hg0
 have HG1 := Lib.hid hg1
 have HG2 := Lib.hid hg2
 have HG3 := Lib.hid hg3
 have HGL := Lib.hid hg
 have HY := Lib.hid hy
 have HZ := Lib.hid hz
 have MU : Hid (∀ X u v, IAt X u a → IAt X v b0 → Calls Tryz.prog 74 #[u, v] X (REndW z1 X)) := Lib.hid (fun X u v h1 h2 => hz1 ▸ wMul_any u v a b0 X h1 h2 ha hb0)
 have MV : Hid (∀ X u v, IAt X u z1 → IAt X v b1 → Calls Tryz.prog 74 #[u, v] X (REndW z2 X)) := Lib.hid (fun X u v h1 h2 => hz2 ▸ wMul_any u v z1 b1 X h1 h2 (low_len nb1) hb1)
 have NB1 := Lib.hid nb1
 have NB2 := Lib.hid nb2
 clear T1 hx hg0 hg1 hg2 hg3 hg hy hz ha hb0 hb1 hz1 hz2 nb1 nb2
 go_enter Tryz.func36, Tryz.ntmps36
 go_wp2_with fail
 generalize (w.alloc (.cells #[.bool s, .slice p m k] 32)).alloc (.cells #[.bool s, .slice p m k] 32) = W0 at *
 go_loopw [5, 7, 11] (fun ev _ iv wr => ∃ j : Nat, iv = .int .i64 (j : Int) ∧ j ≤ 2 ∧ ev = .int .i64 0 ∧ Hid ((j = 0 → IBox wr (w.heap.size + 1) a) ∧ (j = 1 → IBox wr (w.heap.size + 1) z1) ∧ (j = 2 → IBox wr (w.heap.size + 1) z2)) ∧ Hid (Below w.heap.size w wr)) (fun _ _ iv _ => (2 - intOf iv).toNat)
 case atStart => exact ⟨0, rfl, by decide, rfl, Lib.hid ⟨fun _ => HT1.out, fun h => by omega, fun h => by omega⟩, HB0⟩
 case round =>
  clear HT1 HB0
  obtain ⟨j, rfl, hj, rfl, HT, HB⟩ := hrel
  obtain rfl | rfl | rfl : j = 0 ∨ j = 1 ∨ j = 2 := by omega
  ·have HT0 := Lib.hid (HT.out.1 rfl)
   obtain ⟨sr, ar, mr, cr, hlr, hir⟩ := HT0.out
   obtain ⟨r0, r1, r2, r3⟩ := cells2 hlr
   have q0 : wr.cell? ⟨g, 0, none⟩ = some (.bool s2) := (HB.out.cell (p := ⟨g, 0, none⟩) HGL.out).trans HG0.out
   have q1 : wr.cell? ⟨g, 1, none⟩ = some (.slice p2 m2 k2) := (HB.out.cell (p := ⟨g, 1, none⟩) HGL.out).trans HG1.out
   have hal := below_one wr (.cells #[.bool s2, .slice p2 m2 k2] 32)
   have HMU := Lib.hid (MU.out _ _ _ (iat_keeps hir hal) (iat_keeps (iat_keeps HY.out HB.out) hal))
   have HLR := Lib.hid (hlr.below hal)
   have HBA := Lib.hid (below_then HB.out hal)
   have hlt8 := HT0.out.lt
   have hgw : g < wr.heap.size := Nat.lt_of_lt_of_le HGL.out HB.out.size
   clear hlr hir hal HT HT0
   rw [show ((0 : Nat) : Int) = 0 from rfl]
   go_wp2_with fail
   generalize wr.alloc (.cells #[.bool s2, .slice p2 m2 k2] 32) = w5 at *
   clear r0 r1 r2 r3 q0 q1
   go_must (refine HMU.out.mono ?_)
   rintro e w6 hw6
   obtain ⟨b6, a6, m6, k6, c6, rfl, hy6, hb6⟩ := rend_form hw6
   obtain ⟨rfl, hx6⟩ : c6 = 0 ∧ IAt w6 (.agg #[.bool b6, .slice a6 m6 k6]) z1 := by
    rcases hy6 with ⟨_, h1, h2⟩ | ⟨h, _⟩
    ·exact ⟨h1, h2⟩
    ·exact absurd h NB1.out
   have HL6 := Lib.hid (HLR.out.below hb6)
   obtain ⟨r0, r1, r2, r3⟩ := cells2 HL6.out
   have HB6 := Lib.hid (below_then HBA.out hb6)
   have HB7 := Lib.hid (below_set2 (p := w.heap.size + 1) (u := .bool b6) (v := .slice a6 m6 k6) HB6.out (Nat.le_succ _))
   have HTB := Lib.hid (ibox_store HL6.out hx6)
   clear hw6 hy6 hb6 hx6 HMU HLR HBA
   go_wp2_with fail
   go_roundw
   case rel => exact ⟨1, by first | rfl | go_num, by decide, rfl, Lib.hid ⟨fun h => by omega, fun _ => HTB.out, fun h => by omega⟩, HB7⟩
   case measure => simp [intOf]
  ·have HT0 := Lib.hid (HT.out.2.1 rfl)
   obtain ⟨sr, ar, mr, cr, hlr, hir⟩ := HT0.out
   obtain ⟨r0, r1, r2, r3⟩ := cells2 hlr
   have q0 : wr.cell? ⟨g, 2, none⟩ = some (.bool s3) := (HB.out.cell (p := ⟨g, 2, none⟩) HGL.out).trans HG2.out
   have q1 : wr.cell? ⟨g, 3, none⟩ = some (.slice p3 m3 k3) := (HB.out.cell (p := ⟨g, 3, none⟩) HGL.out).trans HG3.out
   have hal := below_one wr (.cells #[.bool s3, .slice p3 m3 k3] 32)
   have HMU := Lib.hid (MV.out _ _ _ (iat_keeps hir hal) (iat_keeps (iat_keeps HZ.out HB.out) hal))
   have HLR := Lib.hid (hlr.below hal)
   have HBA := Lib.hid (below_then HB.out hal)
   have hlt8 := HT0.out.lt
   have hgw : g < wr.heap.size := Nat.lt_of_lt_of_le HGL.out HB.out.size
   clear hlr hir hal HT HT0
   rw [show ((1 : Nat) : Int) = 1 from rfl]
   go_wp2_with fail
   generalize wr.alloc (.cells #[.bool s3, .slice p3 m3 k3] 32) = w5 at *
   clear r0 r1 r2 r3 q0 q1
   go_must (refine HMU.out.mono ?_)
   rintro e w6 hw6
   obtain ⟨b6, a6, m6, k6, c6, rfl, hy6, hb6⟩ := rend_form hw6
   obtain ⟨rfl, hx6⟩ : c6 = 0 ∧ IAt w6 (.agg #[.bool b6, .slice a6 m6 k6]) z2 := by
    rcases hy6 with ⟨_, h1, h2⟩ | ⟨h, _⟩
    ·exact ⟨h1, h2⟩
    ·exact absurd h NB2.out
   have HL6 := Lib.hid (HLR.out.below hb6)
   obtain ⟨r0, r1, r2, r3⟩ := cells2 HL6.out
   have HB6 := Lib.hid (below_then HBA.out hb6)
   have HB7 := Lib.hid (below_set2 (p := w.heap.size + 1) (u := .bool b6) (v := .slice a6 m6 k6) HB6.out (Nat.le_succ _))
   have HTB := Lib.hid (ibox_store HL6.out hx6)
   clear hw6 hy6 hb6 hx6 HMU HLR HBA
   go_wp2_with fail
   go_roundw
   case rel => exact ⟨2, by first | rfl | go_num, by decide, rfl, Lib.hid ⟨fun h => by omega, fun h => by omega, fun _ => HTB.out⟩, HB7⟩
   case measure => simp [intOf]
  ·have HT0 := Lib.hid (HT.out.2.2 rfl)
   obtain ⟨sr, ar, mr, cr, hlr, hir⟩ := HT0.out
   obtain ⟨r0, r1, r2, r3⟩ := cells2 hlr
   have HI := Lib.hid (iat_store hlr hir)
   have HB7 := Lib.hid (below_set2 (p := w.heap.size + 1) (u := .bool sr) (v := .slice ar mr cr) HB.out (Nat.le_succ _))
   clear hlr hir HT HT0
   rw [show ((2 : Nat) : Int) = 2 from rfl]
   go_wp2_with fail
   refine bodyPost_ret (v := .tuple #[.agg #[.bool sr, .slice ar mr cr], .int .i64 0]) (by simp [results, Tryz.results36, go_sem, r0, r1]) rfl ?_
   exact ⟨_, _, _, _, rfl, HI.out, HB7.out⟩
set_option maxHeartbeats 4000000 in
theorem len3_64 (w : World) : Calls Tryz.prog 133 #[.int .u64 3] w (fun e w' => e = .returned (.int .i64 2) ∧ w = w') := by
 go_enter Tryz.func133, Tryz.ntmps133
 go_wp2_with fail
 go_ret
 exact ⟨by kernel_rfl, rfl⟩
set_option maxHeartbeats 4000000 in
theorem len3_any (w : World) : Calls Tryz.prog 113 #[.int .u64 3] w (fun e w' => e = .returned (.int .i64 2) ∧ w = w') := by
 have L := Lib.hid (len3_64 w)
 go_enter Tryz.func113, Tryz.ntmps113
 go_wp2_with fail
 go_must (refine L.out.mono ?_)
 rintro e w' ⟨rfl, rfl⟩
 go_wp2_with fail
 go_ret
 exact ⟨rfl, rfl⟩
theorem info_wint : (Tryz.prog.info? 32).map (fun i => (i.zero, i.size, i.bytes)) = some (some (.agg #[.bool false, .slice none 0 0]), 2, 32) := by kernel_rfl
theorem cells_two_new (w : World) (x y : Value) (t : TypeId) : ∀ j u, [x, y][j]? = some u → (w.alloc (.cells #[x, y] t)).cell? ((⟨w.heap.size, 0, none⟩ : Addr).add j) = some u := by
 intro j u hj
 have hl := Laid.new w t [x, y]
 match j, hj with
 | 0, hj => simp at hj; subst hj; have := hl.cell 0; simp [Addr.add]
 | 1, hj => simp at hj; subst hj; have := hl.cell 1; simp [Addr.add]
theorem owns_two {w : World} {B : Nat} {e : TypeId} {v x0 x1 x2 x3 : Value} (h : w.ownsRow B e 2 v 2 [x0, x1, x2, x3]) :
  ∃ g cap, v = .slice (some ⟨g, 0, none⟩) 2 cap ∧ g < w.heap.size ∧ 2 ≤ cap ∧ cap ≤ 9223372036854775807 ∧ w.cell? ⟨g, 0, none⟩ = some x0 ∧ w.cell? ⟨g, 1, none⟩ = some x1 ∧ w.cell? ⟨g, 2, none⟩ = some x2 ∧ w.cell? ⟨g, 3, none⟩ = some x3 := by
 have h0 := h
 rcases h.2 with ⟨_, h2⟩ | ⟨g, cap, cur, rfl, _, hg, h3, h4, _⟩
 ·cases h2
 ·unfold maxLen at h4
  have hlt : g < w.heap.size := by
   rcases Nat.lt_or_ge g w.heap.size with h' | h'
   ·exact h'
   ·rw [Array.getElem?_eq_none h'] at hg; cases hg
  exact ⟨g, cap, rfl, hlt, h3, h4, h0.cellAt 0 (by decide), h0.cellAt 1 (by decide), h0.cellAt 2 (by decide), h0.cellAt 3 (by decide)⟩
set_option maxHeartbeats 8000000 in
theorem power3_any (x : Value) (a a2 a3 : Int) (w : World) (hx : IAt w x a) (h1 : Small a) (h2 : Small a2) (h3 : Small a3) (e2 : a2 = a * a) (e3 : a3 = a2 * a) :
  Calls Tryz.prog 84 #[x, .int .i64 3] w (POk a3 w) := by
 obtain ⟨s, p, m, k, rfl⟩ := iat_shape hx
 obtain ⟨i0, hi, hz0, hz1, hz2⟩ := info_parts info_wint
 have T2 : IBox ((w.alloc (.cells #[.bool s, .slice p m k] 32)).alloc (.cells #[.bool false, .slice none 0 0] 32)) w.heap.size a := (IBox.new hx).below (below_one _ _)
 have L4 : Laid ((w.alloc (.cells #[.bool s, .slice p m k] 32)).alloc (.cells #[.bool false, .slice none 0 0] 32)) (w.heap.size + 1) 32 [.bool false, .slice none 0 0] := by
  have := Laid.new (w.alloc (.cells #[.bool s, .slice p m k] 32)) 32 [.bool false, .slice none 0 0]
  rwa [World.size_alloc] at this
 have HB0 := Lib.hid (below_then (below_one w (.cells #[.bool s, .slice p m k] 32)) (below_one _ (.cells #[.bool false, .slice none 0 0] 32)))
 have HT2 := Lib.hid T2
 have HL4 := Lib.hid L4
 have FR : Hid (∀ X, Calls Tryz.prog 62 #[.int .i64 1] X (IEnd 1 X)) := Lib.hid (fun X => wFrom_any 1 X (by decide))
 have LN : Hid (∀ X, Calls Tryz.prog 113 #[.int .u64 3] X (fun e w' => e = .returned (.int .i64 2) ∧ X = w')) := Lib.hid (fun X => len3_any X)
 unfold IEnd at FR
 have PR : Hid (∀ (r z1 z2 : Int) (X : World) u g cap s2 s3 p2 p3 m2 m3 k2 k3, Small r ∧ Small z1 ∧ Small z2 ∧ z1 = r * r ∧ z2 = z1 * a → IAt X u r → IAt X (.agg #[.bool s2, .slice p2 m2 k2]) r → IAt X (.agg #[.bool s3, .slice p3 m3 k3]) a → g < X.heap.size → X.cell? ⟨g, 0, none⟩ = some (.bool s2) → X.cell? ⟨g, 1, none⟩ = some (.slice p2 m2 k2) → X.cell? ⟨g, 2, none⟩ = some (.bool s3) → X.cell? ⟨g, 3, none⟩ = some (.slice p3 m3 k3) → 2 ≤ cap → cap ≤ 9223372036854775807 → Calls Tryz.prog 36 #[u, .slice (some ⟨g, 0, none⟩) 2 cap] X (POk z2 X)) := Lib.hid (fun r z1 z2 X u g cap s2 s3 p2 p3 m2 m3 k2 k3 hh hu hy hz hg c0 c1 c2 c3 h4 h5 =>
  fProduct2_any u r r a z1 z2 g cap s2 s3 p2 p3 m2 m3 k2 k3 X hu hy hz hg c0 c1 c2 c3 hh.1.words hh.1.words h1.words hh.2.2.2.1 hh.2.2.2.2 hh.2.1.notBig hh.2.2.1.notBig h4 h5)
 have ST0 : Hid (Small 1 ∧ Small 1 ∧ Small a ∧ (1 : Int) = 1 * 1 ∧ a = 1 * a) := Lib.hid ⟨small_one rfl, small_one rfl, h1, by decide, by rw [Int.one_mul]⟩
 have ST1 : Hid (Small a ∧ Small a2 ∧ Small a3 ∧ a2 = a * a ∧ a3 = a2 * a) := Lib.hid ⟨h1, h2, h3, e2, e3⟩
 clear hx T2 L4 h1 h2 h3 e2 e3
 have HI := Lib.hid hi
 have HZ0 := Lib.hid hz0
 have HZ1 := Lib.hid hz1
 have HZ2 := Lib.hid hz2
 clear hi hz0 hz1 hz2
 go_enter Tryz.func84, Tryz.ntmps84
 go_wp2_with fail
 generalize (w.alloc (.cells #[.bool s, .slice p m k] 32)).alloc (.cells #[.bool false, .slice none 0 0] 32) = W0 at *
 go_must (refine (FR.out _).mono ?_)
 rintro e w1 ⟨b1, a1, m1, k1, rfl, hx1, hb1⟩
 have hl4 := HL4.out.below hb1
 obtain ⟨r0, r1, r2, r3⟩ := cells2 hl4
 have HN : Hid (w.heap.size + 1 ≠ w.heap.size) := Lib.hid (Nat.succ_ne_self _)
 have HT4 := Lib.hid (ibox_store hl4 hx1)
 have HT2' := Lib.hid (IBox.other (s := b1) (a := a1) (m := m1) (c := k1) ⟨_, _, _, _, hl4, iat_zero _⟩ (HT2.out.below hb1) HN.out.symm)
 have HB1 := Lib.hid (below_set2 (p := w.heap.size + 1) (u := .bool b1) (v := .slice a1 m1 k1) (below_then HB0.out hb1) (Nat.le_succ _))
 clear hl4 hx1 hb1 HT2 HL4 HB0 FR
 go_wp2_with fail
 generalize (w1.setCell ⟨w.heap.size + 1, 0, none⟩ (.bool b1)).setCell ⟨w.heap.size + 1, 1, none⟩ (.slice a1 m1 k1) = W1 at *
 clear r0 r1 r2 r3
 go_must (refine (LN.out _).mono ?_)
 rintro e w2 ⟨rfl, rfl⟩
 clear LN
 go_wp2_with fail
 go_loopw [5, 7, 8, 14] (fun ev _ _ iv wr => ∃ j : Nat, iv = .int .i64 (j : Int) ∧ j ≤ 2 ∧ ev = .int .i64 0 ∧ Hid ((j = 0 → IBox wr (w.heap.size + 1) 1) ∧ (j = 1 → IBox wr (w.heap.size + 1) a) ∧ (j = 2 → IBox wr (w.heap.size + 1) a3)) ∧ Hid (IBox wr w.heap.size a) ∧ Hid (Below w.heap.size w wr)) (fun _ _ _ iv _ => (2 - intOf iv).toNat)
 case atStart => exact ⟨0, rfl, by decide, rfl, Lib.hid ⟨fun _ => HT4.out, fun h => by omega, fun h => by omega⟩, HT2', HB1⟩
 case round =>
  clear HT4 HT2' HB1
  obtain ⟨j, rfl, hj, rfl, HT, HT2, HB⟩ := hrel
  obtain rfl | rfl | rfl : j = 0 ∨ j = 1 ∨ j = 2 := by omega
  ·have HT0 := Lib.hid (HT.out.1 rfl)
   obtain ⟨sr, ar, mr, cr, hlr, hir⟩ := HT0.out
   obtain ⟨sa, aa, ma, ca, hla, hia⟩ := HT2.out
   obtain ⟨r0, r1, r2, r3⟩ := cells2 hlr
   obtain ⟨q0, q1, q2, q3⟩ := cells2 hla
   have hlt8 := HT2.out.lt
   have hlt9 := HT0.out.lt
   have hA := below_one wr (.cells #[.bool sr, .slice ar mr cr] 32)
   have hA2 := below_then hA (below_one _ (.cells #[.bool sa, .slice aa ma ca] 32))
   have hown := (World.ownsRow_lit (base := wr.heap.size) (e := 32) (size := 2) wr #[.bool sr, .slice ar mr cr] 1 (Nat.le_refl _) (by decide) rfl).alloc (.cells #[.bool sa, .slice aa ma ca] 32)
   have HOWN := Lib.hid hown
   have HNW := Lib.hid (cells_two_new (wr.alloc (.cells #[.bool sr, .slice ar mr cr] 32)) (.bool sa) (.slice aa ma ca) 32)
   have hsz0 : (wr.alloc (.cells #[.bool sr, .slice ar mr cr] 32)).heap.size = wr.heap.size + 1 := by simp
   rw [hsz0] at HNW
   have HA2 := Lib.hid hA2
   have HLR := Lib.hid hlr
   have HIR := Lib.hid hir
   have HIA := Lib.hid hia
   have hbs : wr.heap.size ≤ ((wr.alloc (.cells #[.bool sr, .slice ar mr cr] 32)).alloc (.cells #[.bool sa, .slice aa ma ca] 32)).heap.size := by simp; omega
   clear hlr hir hla hia hA hA2 hown hsz0 HT HT0
   rw [show ((0 : Nat) : Int) = 0 from rfl]
   go_wp2_with (at_builtin; go_must (refine wpList_append_own _ rfl _ _ _ rfl wr.heap.size 32 i0 (.agg #[.bool false, .slice none 0 0]) 2 32 rfl HI.out HZ0.out HZ1.out HZ2.out rfl (by decide) _ 1 [.bool sr, .slice ar mr cr] rfl HOWN.out _ 1 _ [.bool sa, .slice aa ma ca] rfl rfl HNW.out (by simp [Value.oneCell']) (by decide) (by decide) hbs ?_); intro tv w6 hown6 hgrow hnil; have HB6 := Lib.hid (HA2.out.grown hgrow hbs (fun k hk => by injection hk with hk; exact Nat.le_of_eq hk)); obtain ⟨g, cap, rfl, hgl, hc1, hc2, hd0, hd1, hd2, hd3⟩ := owns_two hown6; clear r0 r1 r2 r3 q0 q1 q2 q3 hlt8 hlt9 hbs; obtain ⟨r0, r1, r2, r3⟩ := cells2 (HLR.out.below HB6.out); have HPR := Lib.hid (PR.out _ _ _ _ _ _ _ _ _ _ _ _ _ _ _ ST0.out (iat_keeps HIR.out HB6.out) (iat_keeps HIR.out HB6.out) (iat_keeps HIA.out HB6.out) hgl hd0 hd1 hd2 hd3 hc1 hc2); clear hown6 hgrow hnil HOWN HNW hgl hc1 hc2 hd0 hd1 hd2 hd3)
   go_must (refine HPR.out.mono ?_)
   rintro e w7 ⟨b7, a7, m7, c7, rfl, hx7, hb7⟩
   have HB7 := Lib.hid (below_then HB6.out hb7)
   have hl7 := HLR.out.below HB7.out
   obtain ⟨u0, u1, u2, u3⟩ := cells2 hl7
   have HTB := Lib.hid (ibox_store hl7 hx7)
   have HT2B := Lib.hid (IBox.other (s := b7) (a := a7) (m := m7) (c := c7) ⟨_, _, _, _, hl7, iat_keeps HIR.out HB7.out⟩ (HT2.out.below HB7.out) HN.out.symm)
   have HBW := Lib.hid (below_set2 (p := w.heap.size + 1) (u := .bool b7) (v := .slice a7 m7 c7) (below_then HB.out HB7.out) (Nat.le_succ _))
   clear hx7 hb7 hl7 HPR HB6 HB7 HLR HIR HIA HT2 HB r0 r1 r2 r3
   go_wp2_with fail
   go_roundw
   case rel => exact ⟨1, by first | rfl | go_num, by decide, rfl, Lib.hid ⟨fun h => by omega, fun _ => HTB.out, fun h => by omega⟩, HT2B, HBW⟩
   case measure => simp [intOf]
  ·have HT0 := Lib.hid (HT.out.2.1 rfl)
   obtain ⟨sr, ar, mr, cr, hlr, hir⟩ := HT0.out
   obtain ⟨sa, aa, ma, ca, hla, hia⟩ := HT2.out
   obtain ⟨r0, r1, r2, r3⟩ := cells2 hlr
   obtain ⟨q0, q1, q2, q3⟩ := cells2 hla
   have hlt8 := HT2.out.lt
   have hlt9 := HT0.out.lt
   have hA := below_one wr (.cells #[.bool sr, .slice ar mr cr] 32)
   have hA2 := below_then hA (below_one _ (.cells #[.bool sa, .slice aa ma ca] 32))
   have hown := (World.ownsRow_lit (base := wr.heap.size) (e := 32) (size := 2) wr #[.bool sr, .slice ar mr cr] 1 (Nat.le_refl _) (by decide) rfl).alloc (.cells #[.bool sa, .slice aa ma ca] 32)
   have HOWN := Lib.hid hown
   have HNW := Lib.hid (cells_two_new (wr.alloc (.cells #[.bool sr, .slice ar mr cr] 32)) (.bool sa) (.slice aa ma ca) 32)
   have hsz0 : (wr.alloc (.cells #[.bool sr, .slice ar mr cr] 32)).heap.size = wr.heap.size + 1 := by simp
   rw [hsz0] at HNW
   have HA2 := Lib.hid hA2
   have HLR := Lib.hid hlr
   have HIR := Lib.hid hir
   have HIA := Lib.hid hia
   have hbs : wr.heap.size ≤ ((wr.alloc (.cells #[.bool sr, .slice ar mr cr] 32)).alloc (.cells #[.bool sa, .slice aa ma ca] 32)).heap.size := by simp; omega
   clear hlr hir hla hia hA hA2 hown hsz0 HT HT0
   rw [show ((1 : Nat) : Int) = 1 from rfl]
   go_wp2_with (at_builtin; go_must (refine wpList_append_own _ rfl _ _ _ rfl wr.heap.size 32 i0 (.agg #[.bool false, .slice none 0 0]) 2 32 rfl HI.out HZ0.out HZ1.out HZ2.out rfl (by decide) _ 1 [.bool sr, .slice ar mr cr] rfl HOWN.out _ 1 _ [.bool sa, .slice aa ma ca] rfl rfl HNW.out (by simp [Value.oneCell']) (by decide) (by decide) hbs ?_); intro tv w6 hown6 hgrow hnil; have HB6 := Lib.hid (HA2.out.grown hgrow hbs (fun k hk => by injection hk with hk; exact Nat.le_of_eq hk)); obtain ⟨g, cap, rfl, hgl, hc1, hc2, hd0, hd1, hd2, hd3⟩ := owns_two hown6; clear r0 r1 r2 r3 q0 q1 q2 q3 hlt8 hlt9 hbs; obtain ⟨r0, r1, r2, r3⟩ := cells2 (HLR.out.below HB6.out); have HPR := Lib.hid (PR.out _ _ _ _ _ _ _ _ _ _ _ _ _ _ _ ST1.out (iat_keeps HIR.out HB6.out) (iat_keeps HIR.out HB6.out) (iat_keeps HIA.out HB6.out) hgl hd0 hd1 hd2 hd3 hc1 hc2); clear hown6 hgrow hnil HOWN HNW hgl hc1 hc2 hd0 hd1 hd2 hd3)
   go_must (refine HPR.out.mono ?_)
   rintro e w7 ⟨b7, a7, m7, c7, rfl, hx7, hb7⟩
   have HB7 := Lib.hid (below_then HB6.out hb7)
   have hl7 := HLR.out.below HB7.out
   obtain ⟨u0, u1, u2, u3⟩ := cells2 hl7
   have HTB := Lib.hid (ibox_store hl7 hx7)
   have HT2B := Lib.hid (IBox.other (s := b7) (a := a7) (m := m7) (c := c7) ⟨_, _, _, _, hl7, iat_keeps HIR.out HB7.out⟩ (HT2.out.below HB7.out) HN.out.symm)
   have HBW := Lib.hid (below_set2 (p := w.heap.size + 1) (u := .bool b7) (v := .slice a7 m7 c7) (below_then HB.out HB7.out) (Nat.le_succ _))
   clear hx7 hb7 hl7 HPR HB6 HB7 HLR HIR HIA HT2 HB r0 r1 r2 r3
   go_wp2_with fail
   go_roundw
   case rel => exact ⟨2, by first | rfl | go_num, by decide, rfl, Lib.hid ⟨fun h => by omega, fun h => by omega, fun _ => HTB.out⟩, HT2B, HBW⟩
   case measure => simp [intOf]
  ·have HT0 := Lib.hid (HT.out.2.2 rfl)
   obtain ⟨sr, ar, mr, cr, hlr, hir⟩ := HT0.out
   obtain ⟨r0, r1, r2, r3⟩ := cells2 hlr
   have HI2 := Lib.hid (iat_store hlr hir)
   have HB7 := Lib.hid (below_set2 (p := w.heap.size + 1) (u := .bool sr) (v := .slice ar mr cr) HB.out (Nat.le_succ _))
   clear hlr hir HT HT0 HT2 HB
   rw [show ((2 : Nat) : Int) = 2 from rfl]
   go_wp2_with fail
   refine bodyPost_ret (v := .tuple #[.agg #[.bool sr, .slice ar mr cr], .int .i64 0]) (by simp [results, Tryz.results84, go_sem, r0, r1]) rfl ?_
   exact ⟨_, _, _, _, rfl, HI2.out, HB7.out⟩
end Go.Proofs.YtepakogbbomaoaaGreatDoor
