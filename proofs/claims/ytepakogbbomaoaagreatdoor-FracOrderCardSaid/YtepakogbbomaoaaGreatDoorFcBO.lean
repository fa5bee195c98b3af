/-
 Package frac: multiplied. Package frac: Mul. Package frac: Add. (tools/genFrr.py makes this text.)
-/
import Derived.Test.YtepakogbbomaoaaGreatDoorFroO
import Derived.Test.YtepakogbbomaoaaGreatDoorFcAO
namespace Go.Proofs.YtepakogbbomaoaaGreatDoor
open Go.RowKit Go.Shelf
set_option linter.unusedVariables false
set_option maxRecDepth 100000
def FPEnd (bad : Prop) (n d : Int) (w : World) (e : Ending) (w' : World) : Prop :=
 ∃ (s t : Bool) (a b : Option Addr) (m i c j : Nat) (k : Int), e = .returned (.tuple #[.agg #[.bool s, .slice a m c, .bool t, .slice b i j], .int .i64 k]) ∧ ((¬ bad ∧ k = 0 ∧ FAt w' (.agg #[.bool s, .slice a m c, .bool t, .slice b i j]) n d) ∨ (bad ∧ k = 4 ∧ FAt w' (.agg #[.bool s, .slice a m c, .bool t, .slice b i j]) 0 1)) ∧ Below w.heap.size w w'
theorem lim_len (z : Int) : (digsW (limF z).natAbs).length ≤ 400000 := by
 unfold limF
 split
 ·rw [show (0 : Int).natAbs = 0 from rfl, digs_zeroW]; exact Nat.zero_le _
 ·rename_i h; unfold big at h; omega
theorem ec_or (a b : Int) : (orI (ecF a) (ecF b) = 0 ∧ ¬ big a ∧ ¬ big b ∧ limF a = a ∧ limF b = b) ∨ (orI (ecF a) (ecF b) = 4 ∧ (big a ∨ big b)) := by
 unfold orI ecF limF
 rcases Classical.em (big a) with h | h <;> rcases Classical.em (big b) with k | k <;> simp [h, k]
theorem fat_zero (W : World) : FAt W (.agg #[.bool false, .slice none 0 0, .bool false, .slice none 0 0]) 0 1 :=
 ⟨false, false, none, none, 0, 0, 0, 0, rfl, iat_zero _, by unfold denZ; rw [if_pos rfl]; exact iat_zero _⟩
theorem low_len {d : Int} (h : ¬ big d) : (digsW d.natAbs).length ≤ 400000 := by unfold big at h; omega
theorem four_boxes (w : World) {x y u v : Value} {p q r s : Int} (hx : IAt w x p) (hy : IAt w y q) (hu : IAt w u r) (hv : IAt w v s) :
  ∃ (s0 : Bool) (a0 : Option Addr) (m0 c0 : Nat) (s1 : Bool) (a1 : Option Addr) (m1 c1 : Nat) (s2 : Bool) (a2 : Option Addr) (m2 c2 : Nat) (s3 : Bool) (a3 : Option Addr) (m3 c3 : Nat) (W : World),
   x = .agg #[.bool s0, .slice a0 m0 c0] ∧ y = .agg #[.bool s1, .slice a1 m1 c1] ∧ u = .agg #[.bool s2, .slice a2 m2 c2] ∧ v = .agg #[.bool s3, .slice a3 m3 c3] ∧
   W = ((((w.alloc (.cells #[.bool s0, .slice a0 m0 c0] 32)).alloc (.cells #[.bool s1, .slice a1 m1 c1] 32)).alloc (.cells #[.bool s2, .slice a2 m2 c2] 32)).alloc (.cells #[.bool s3, .slice a3 m3 c3] 32)).alloc (.cells #[.bool false, .slice none 0 0, .bool false, .slice none 0 0] 34) ∧
   Below w.heap.size w W ∧ Laid W w.heap.size 32 [.bool s0, .slice a0 m0 c0] ∧ Laid W (w.heap.size + 1) 32 [.bool s1, .slice a1 m1 c1] ∧ Laid W (w.heap.size + 2) 32 [.bool s2, .slice a2 m2 c2] ∧ Laid W (w.heap.size + 3) 32 [.bool s3, .slice a3 m3 c3] ∧
   Laid W (w.heap.size + 4) 34 [.bool false, .slice none 0 0, .bool false, .slice none 0 0] := by
 obtain ⟨s0, a0, m0, c0, rfl⟩ := iat_shape hx
 obtain ⟨s1, a1, m1, c1, rfl⟩ := iat_shape hy
 obtain ⟨s2, a2, m2, c2, rfl⟩ := iat_shape hu
 obtain ⟨s3, a3, m3, c3, rfl⟩ := iat_shape hv
 refine ⟨s0, a0, m0, c0, s1, a1, m1, c1, s2, a2, m2, c2, s3, a3, m3, c3, _, rfl, rfl, rfl, rfl, rfl, ?_⟩
 obtain ⟨W1, h1⟩ : ∃ W1, W1 = w.alloc (.cells #[.bool s0, .slice a0 m0 c0] 32) := ⟨_, rfl⟩
 obtain ⟨W2, h2⟩ : ∃ W2, W2 = W1.alloc (.cells #[.bool s1, .slice a1 m1 c1] 32) := ⟨_, rfl⟩
 obtain ⟨W3, h3⟩ : ∃ W3, W3 = W2.alloc (.cells #[.bool s2, .slice a2 m2 c2] 32) := ⟨_, rfl⟩
 obtain ⟨W4, h4⟩ : ∃ W4, W4 = W3.alloc (.cells #[.bool s3, .slice a3 m3 c3] 32) := ⟨_, rfl⟩
 obtain ⟨W5, h5⟩ : ∃ W5, W5 = W4.alloc (.cells #[.bool false, .slice none 0 0, .bool false, .slice none 0 0] 34) := ⟨_, rfl⟩
 rw [← h1, ← h2, ← h3, ← h4, ← h5]
 have z1 : W1.heap.size = w.heap.size + 1 := by rw [h1]; simp
 have z2 : W2.heap.size = w.heap.size + 2 := by rw [h2]; simp [z1]
 have z3 : W3.heap.size = w.heap.size + 3 := by rw [h3]; simp [z2]
 have z4 : W4.heap.size = w.heap.size + 4 := by rw [h4]; simp [z3]
 have b1 : Below w.heap.size w W1 := by rw [h1]; exact below_one _ _
 have b2 : Below W1.heap.size W1 W2 := by rw [h2]; exact below_one _ _
 have b3 : Below W2.heap.size W2 W3 := by rw [h3]; exact below_one _ _
 have b4 : Below W3.heap.size W3 W4 := by rw [h4]; exact below_one _ _
 have b5 : Below W4.heap.size W4 W5 := by rw [h5]; exact below_one _ _
 have l0 : Laid W1 w.heap.size 32 [.bool s0, .slice a0 m0 c0] := by rw [h1]; exact Laid.new _ _ _
 have l1 : Laid W2 W1.heap.size 32 [.bool s1, .slice a1 m1 c1] := by rw [h2]; exact Laid.new _ _ _
 have l2 : Laid W3 W2.heap.size 32 [.bool s2, .slice a2 m2 c2] := by rw [h3]; exact Laid.new _ _ _
 have l3 : Laid W4 W3.heap.size 32 [.bool s3, .slice a3 m3 c3] := by rw [h4]; exact Laid.new _ _ _
 have l4 : Laid W5 W4.heap.size 34 [.bool false, .slice none 0 0, .bool false, .slice none 0 0] := by rw [h5]; exact Laid.new _ _ _
 rw [z1] at l1
 rw [z2] at l2
 rw [z3] at l3
 rw [z4] at l4
 exact ⟨below_then (below_then (below_then (below_then b1 b2) b3) b4) b5, (((l0.below b2).below b3).below b4).below b5, ((l1.below b3).below b4).below b5, (l2.below b4).below b5, l3.below b5, l4⟩
set_option maxHeartbeats 4000000 in
theorem multiplied_any (x y u v : Value) (p q r s : Int) (w : World) (hx : IAt w x p) (hy : IAt w y q) (hu : IAt w u r) (hv : IAt w v s) (hl : Low p q) (hk : Low r s)
  (lp : (digsW p.natAbs).length ≤ 400000) (lq : (digsW q.natAbs).length ≤ 400000) (lr : (digsW r.natAbs).length ≤ 400000) (ls : (digsW s.natAbs).length ≤ 400000) :
  Calls Tryz.prog 44 #[x, y, u, v] w (FPEnd (big (mkN (p * r) (q * s)) ∨ big (mkD (p * r) (q * s))) (mkN (p * r) (q * s)) (mkD (p * r) (q * s)) w) := by
 obtain ⟨f, hf⟩ : ∃ f : Int, f = ((Int.gcd p s : Nat) : Int) := ⟨_, rfl⟩
 obtain ⟨t, ht⟩ : ∃ t : Int, t = ((Int.gcd r q : Nat) : Int) := ⟨_, rfl⟩
 obtain ⟨hlow, e1, e2⟩ := mul_low hl hk hf ht
 have f0 : f ≠ 0 := by have := Int.gcd_pos_of_ne_zero_right p (show s ≠ 0 by have := hk.pos; omega); omega
 have t0 : t ≠ 0 := by have := Int.gcd_pos_of_ne_zero_right r (show q ≠ 0 by have := hl.pos; omega); omega
 have lf : (digsW f.natAbs).length ≤ 400000 := wlen_le (by rw [hf, Int.natAbs_natCast]; exact Int.gcd_le_natAbs_right p (by have := hk.pos; omega)) ls
 have lt : (digsW t.natAbs).length ≤ 400000 := wlen_le (by rw [ht, Int.natAbs_natCast]; exact Int.gcd_le_natAbs_right r (by have := hl.pos; omega)) lq
 rw [e1, e2]
 have HLOW := Lib.hid hlow
 have QL : Hid (∀ a b : Int, (digsW a.natAbs).length ≤ 400000 → (digsW (a / b).natAbs).length ≤ 400000) := Lib.hid (fun a b h => wlen_le (Int.natAbs_ediv_le_natAbs _ _) h)
 obtain ⟨s0, a0, m0, c0, s1, a1, m1, c1, s2, a2, m2, c2, s3, a3, m3, c3, w3, rfl, rfl, rfl, rfl, hw3, hb3, hl0, hl1, hl2, hl3, hl4⟩ := four_boxes w hx hy hu hv
 have HX := Lib.hid (iat_keeps hx hb3)
 have HY := Lib.hid (iat_keeps hy hb3)
 have HU := Lib.hid (iat_keeps hu hb3)
 have HV := Lib.hid (iat_keeps hv hb3)
 have LX := Lib.hid lp
 have LY := Lib.hid lq
 have LU := Lib.hid lr
 have LV := Lib.hid ls
 have LF := Lib.hid lf
 have LT := Lib.hid lt
 have F0 := Lib.hid f0
 have T0 := Lib.hid t0
 have HF := Lib.hid hf
 have HT := Lib.hid ht
 have HL0 := Lib.hid hl0
 have HL1 := Lib.hid hl1
 have HL2 := Lib.hid hl2
 have HL3 := Lib.hid hl3
 have HL4 := Lib.hid hl4
 have HB3 := Lib.hid hb3
 have LD : Hid (∀ X : World, Below w3.heap.size w3 X → X.cell? ⟨w.heap.size, 0, none⟩ = some (.bool s0) ∧ X.cell? ⟨w.heap.size, 1, none⟩ = some (.slice a0 m0 c0) ∧ X.cell? ⟨w.heap.size + 1, 0, none⟩ = some (.bool s1) ∧ X.cell? ⟨w.heap.size + 1, 1, none⟩ = some (.slice a1 m1 c1) ∧ X.cell? ⟨w.heap.size + 2, 0, none⟩ = some (.bool s2) ∧ X.cell? ⟨w.heap.size + 2, 1, none⟩ = some (.slice a2 m2 c2) ∧ X.cell? ⟨w.heap.size + 3, 0, none⟩ = some (.bool s3) ∧ X.cell? ⟨w.heap.size + 3, 1, none⟩ = some (.slice a3 m3 c3)) := Lib.hid (fun X h => by
  obtain ⟨e0, e1, _, _⟩ := cells2 (HL0.out.below h)
  obtain ⟨e2, e3, _, _⟩ := cells2 (HL1.out.below h)
  obtain ⟨e4, e5, _, _⟩ := cells2 (HL2.out.below h)
  obtain ⟨e6, e7, _, _⟩ := cells2 (HL3.out.below h)
  exact ⟨e0, e1, e2, e3, e4, e5, e6, e7⟩)
 have G1 : Hid (∀ X, Below w3.heap.size w3 X → Calls Tryz.prog 41 #[.agg #[.bool s0, .slice a0 m0 c0], .agg #[.bool s3, .slice a3 m3 c3]] X (IEnd f X)) := Lib.hid (fun X h => HF.out ▸ wGcd_any _ _ p s X (iat_keeps HX.out h) (iat_keeps HV.out h) LX.out LV.out)
 have G2 : Hid (∀ X, Below w3.heap.size w3 X → Calls Tryz.prog 41 #[.agg #[.bool s2, .slice a2 m2 c2], .agg #[.bool s1, .slice a1 m1 c1]] X (IEnd t X)) := Lib.hid (fun X h => HT.out ▸ wGcd_any _ _ r q X (iat_keeps HU.out h) (iat_keeps HY.out h) LU.out LY.out)
 clear hx hy hu hv hl hk lp lq lr ls lf lt f0 t0 hf ht e1 e2 hlow hb3 hl0 hl1 hl2 hl3 hl4
 go_enter Tryz.func44, Tryz.ntmps44
 go_wp2_with fail
 rw [← hw3]
 clear hw3
 refine regMu1 (fun _ _ _ _ _ h => h) LD G1 G2 ?_
 intro X1 t10 t11 v19 v22 HB1 T10 T11 L10 L11 D1
 obtain ⟨sf, af, mf, cf, hlf, hif⟩ := T10.out
 obtain ⟨st, at', mt, ct, hlt, hit⟩ := T11.out
 have HLF := Lib.hid hlf
 have HLT := Lib.hid hlt
 have HIF := Lib.hid hif
 have HIT := Lib.hid hit
 have PR : Hid (∀ (a b : Int) (X : World) u g s a' m c, (digsW a.natAbs).length ≤ 400000 → (digsW b.natAbs).length ≤ 400000 → IAt X u a → IAt X (.agg #[.bool s, .slice a' m c]) b → g < X.heap.size → X.cell? ⟨g, 0, none⟩ = some (.bool s) → X.cell? ⟨g, 1, none⟩ = some (.slice a' m c) → Calls Tryz.prog 36 #[u, .slice (some ⟨g, 0, none⟩) 1 1] X (REndW (a * b) X)) := Lib.hid (fun a b X u g s a' m c la lb h1 h2 h3 h4 h5 => fProduct_any u a b g s a' m c X h1 h2 h3 h4 h5 la lb)
 clear hlf hlt hif hit LD G1 G2 T10 T11 D1
 go_wp2_with fail
 refine regMu2 (z26 := p / f) (z29 := r / t) (fun _ _ _ _ _ h => h) (Lib.hid (fun X h => ?ld2)) (Lib.hid (fun X h => quotient_any _ _ p f X (iat_keeps (iat_keeps HX.out HB1.out) h) (iat_keeps HIF.out h) LX.out LF.out F0.out)) (Lib.hid (fun X h => quotient_any _ _ r t X (iat_keeps (iat_keeps HU.out HB1.out) h) (iat_keeps HIT.out h) LU.out LT.out T0.out)) (Lib.hid (fun X u g s a m c h h1 h2 h3 h4 h5 => PR.out _ _ X u g s a m c (QL.out _ _ LX.out) (QL.out _ _ LU.out) h1 h2 h3 h4 h5)) ?_
 case ld2 =>
  obtain ⟨e0, e1, _, _⟩ := cells2 ((HL0.out.below HB1.out).below h)
  obtain ⟨e2, e3, _, _⟩ := cells2 (HLF.out.below h)
  obtain ⟨e4, e5, _, _⟩ := cells2 ((HL2.out.below HB1.out).below h)
  obtain ⟨e6, e7, _, _⟩ := cells2 (HLT.out.below h)
  exact ⟨e0, e1, e2, e3, e4, e5, e6, e7⟩
 intro X2 t12 v26 v29 v30 v31 v23 v32 HB2 T12 L12
 have HB02 := Lib.hid (below_then HB1.out HB2.out)
 go_wp2_with fail
 refine regMu3 (z37 := q / t) (z40 := s / f) (fun _ _ _ _ _ h => h) (Lib.hid (fun X h => ?ld3)) (Lib.hid (fun X h => quotient_any _ _ q t X (iat_keeps (iat_keeps HY.out HB02.out) h) (iat_keeps (iat_keeps HIT.out HB2.out) h) LY.out LT.out T0.out)) (Lib.hid (fun X h => quotient_any _ _ s f X (iat_keeps (iat_keeps HV.out HB02.out) h) (iat_keeps (iat_keeps HIF.out HB2.out) h) LV.out LF.out F0.out)) (Lib.hid (fun X u g s a m c h h1 h2 h3 h4 h5 => PR.out _ _ X u g s a m c (QL.out _ _ LY.out) (QL.out _ _ LV.out) h1 h2 h3 h4 h5)) ?_
 case ld3 =>
  obtain ⟨e0, e1, _, _⟩ := cells2 ((HL1.out.below HB02.out).below h)
  obtain ⟨e2, e3, _, _⟩ := cells2 ((HLT.out.below HB2.out).below h)
  obtain ⟨e4, e5, _, _⟩ := cells2 ((HL3.out.below HB02.out).below h)
  obtain ⟨e6, e7, _, _⟩ := cells2 ((HLF.out.below HB2.out).below h)
  exact ⟨e0, e1, e2, e3, e4, e5, e6, e7⟩
 intro X3 t14 v37 v40 v41 v42 v34 v43 HB3' T14 L14
 have HB03 := Lib.hid (below_then HB02.out HB3'.out)
 have T12' := Lib.hid (T12.out.below HB3'.out)
 have HBW := Lib.hid (below_then HB3.out HB03.out)
 have HL4' := Lib.hid (HL4.out.below HB03.out)
 have OR : Hid (∀ g (X : World), X.cell? ⟨g, 0, none⟩ = some (.int .i64 (ecF (p / f * (r / t)))) → X.cell? ⟨g, 1, none⟩ = some (.int .i64 (ecF (q / t * (s / f)))) → Calls Tryz.prog 37 #[.slice (some ⟨g, 0, none⟩) 2 2] X fun e w' => e = .returned (.int .i64 (orI (ecF (p / f * (r / t))) (ecF (q / t * (s / f))))) ∧ X = w') := Lib.hid (fun g X h0 h1 => or2_any g _ _ X h0 h1)
 have EC := Lib.hid (ec_or (p / f * (r / t)) (q / t * (s / f)))
 have HLW := HLOW
 clear PR QL HLOW HX HY HU HV LX LY LU LV LF LT F0 T0 HF HT HL0 HL1 HL2 HL3 HB1 HB2 HB3' HB02 HLF HLT HIF HIT T12 HL4 HB3
 generalize p / f * (r / t) = A at *
 generalize q / t * (s / f) = B at *
 generalize ecF A = ea at *
 generalize ecF B = eb at *
 generalize orI ea eb = k at *
 go_wp2_with fail
 have AL := Laid.new X3 41 [.int .i64 ea, .int .i64 eb]
 have hb4 := below_one X3 (.cells #[.int .i64 ea, .int .i64 eb] 41)
 have HOR := Lib.hid (OR.out _ _ (AL.cell 0) (AL.cell 1))
 have HBX := Lib.hid (below_then HBW.out hb4)
 have HL5 := Lib.hid (HL4'.out.below hb4)
 have U12 := Lib.hid (T12'.out.below hb4)
 have U14 := Lib.hid (T14.out.below hb4)
 clear AL hb4 OR HBW HL4' T12' T14
 go_must (refine HOR.out.mono ?_)
 rintro e w4 ⟨rfl, rfl⟩
 clear HOR
 generalize X3.alloc (.cells #[.int .i64 ea, .int .i64 eb] 41) = X4 at *
 rcases EC.out with ⟨rfl, nA, nB, lA, lB⟩ | ⟨rfl, hbad⟩
 ·rw [lA] at U12
  rw [lB] at U14
  have NA := Lib.hid nA
  have NB := Lib.hid nB
  obtain ⟨sA, aA, mA, cA, ⟨cA0, cA1⟩, hA⟩ := U12.out.open
  obtain ⟨sB, aB, mB, cB, ⟨cB0, cB1⟩, hB⟩ := U14.out.open
  have LW := lowest_any _ _ A B X4 hA hB (by have := HLW.out.pos; omega) (low_len nB)
  unfold FEnd at LW
  have HLWC := Lib.hid LW
  clear EC nA nB lA lB LW hA hB U12 U14
  go_wp2_with fail
  go_must (refine HLWC.out.mono ?_)
  rintro e w5 ⟨v5, rfl, hx5, hb5⟩
  obtain ⟨s5, t5, a5, x5, m5, n5, c5, d5, rfl⟩ := fat_shape hx5
  have HL6 := Lib.hid (HL5.out.below hb5)
  obtain ⟨⟨r0, r1, r2, r3⟩, r4, r5, r6, r7⟩ := cellsF HL6.out
  have HE := Lib.hid (below_set4 (p := w.heap.size + 4) (u0 := .bool s5) (u1 := .slice a5 m5 c5) (u2 := .bool t5) (u3 := .slice x5 n5 d5) (below_then HBX.out hb5) (by omega))
  have HFE := Lib.hid (fat_store hx5 HL6.out)
  clear hx5 hb5 HLWC cA0 cA1 cB0 cB1 HBX HL5
  go_wp2_with fail
  refine bodyPost_ret (v := .tuple #[.agg #[.bool s5, .slice a5 m5 c5, .bool t5, .slice x5 n5 d5], .int .i64 0]) (by simp [results, Tryz.results44, go_sem, r0, r1, r2, r3]) rfl ?_
  exact ⟨_, _, _, _, _, _, _, _, _, rfl, .inl ⟨fun h => h.elim NA.out NB.out, rfl, HFE.out⟩, HE.out⟩
 ·have HBAD := Lib.hid hbad
  obtain ⟨⟨r0, r1, r2, r3⟩, r4, r5, r6, r7⟩ := cellsF HL5.out
  have HE := Lib.hid (below_set4 (p := w.heap.size + 4) (u0 := .bool false) (u1 := .slice none 0 0) (u2 := .bool false) (u3 := .slice none 0 0) HBX.out (by omega))
  clear hbad EC U12 U14
  go_wp2_with fail
  refine bodyPost_ret (v := .tuple #[.agg #[.bool false, .slice none 0 0, .bool false, .slice none 0 0], .int .i64 4]) (by simp [results, Tryz.results44, go_sem, r0, r1, r2, r3]) rfl ?_
  exact ⟨_, _, _, _, _, _, _, _, _, rfl, .inr ⟨HBAD.out, rfl, fat_zero _⟩, HE.out⟩
def FREnd (R : Int × Int × Int) (w : World) (e : Ending) (w' : World) : Prop :=
 ∃ (s t : Bool) (a b : Option Addr) (m i c j : Nat), e = .returned (.tuple #[.agg #[.bool s, .slice a m c, .bool t, .slice b i j], .int .i64 R.1]) ∧ FAt w' (.agg #[.bool s, .slice a m c, .bool t, .slice b i j]) R.2.1 R.2.2 ∧ Below w.heap.size w w'
open Classical in
noncomputable def rIf (bad : Prop) (n d : Int) : Int × Int × Int := if bad then (4, 0, 1) else (0, n, d)
theorem fp_end {bad : Prop} {n d : Int} {w w' : World} {e : Ending} (h : FPEnd bad n d w e w') : FREnd (rIf bad n d) w e w' := by
 obtain ⟨s, t, a, b, m, i, c, j, k, rfl, h, hb⟩ := h
 unfold rIf
 rcases h with ⟨h1, rfl, h3⟩ | ⟨h1, rfl, h3⟩
 ·rw [if_neg h1]; exact ⟨s, t, a, b, m, i, c, j, rfl, h3, hb⟩
 ·rw [if_pos h1]; exact ⟨s, t, a, b, m, i, c, j, rfl, h3, hb⟩
open Classical in
noncomputable def rMake (p q : Int) : Int × Int × Int := if q = 0 then (1, 0, 1) else (0, mkN p q, mkD p q)
theorem make_end {p q : Int} {w w' : World} {e : Ending} (h : MakeEnd p q w e w') : FREnd (rMake p q) w e w' := by
 obtain ⟨s, t, a, b, m, i, c, j, k, rfl, h, hb⟩ := h
 unfold rMake
 rcases h with ⟨h1, rfl, h3⟩ | ⟨h1, rfl, h3⟩
 ·rw [if_neg h1]; exact ⟨s, t, a, b, m, i, c, j, rfl, h3, hb⟩
 ·rw [if_pos h1]; exact ⟨s, t, a, b, m, i, c, j, rfl, h3, hb⟩
noncomputable def rMul (p q r s : Int) : Int × Int × Int := rIf (big (mkN (p * r) (q * s)) ∨ big (mkD (p * r) (q * s))) (mkN (p * r) (q * s)) (mkD (p * r) (q * s))
noncomputable def rDiv (p q r s : Int) : Int × Int × Int := if r = 0 then (1, 0, 1) else rMul p q s r
structure Fine (p q : Int) : Prop where
 low : Low p q
 len : (digsW p.natAbs).length ≤ 400000
 wide : (digsW q.natAbs).length ≤ 400000
theorem Fine.one {p q : Int} (h : Fine p q) : 1 ≤ q := by have := h.low.pos; omega
theorem two_fracs (w : World) {x y : Value} {p q r s : Int} (hx : FAt w x p q) (hy : FAt w y r s) :
  ∃ (s0 t0 : Bool) (a0 b0 : Option Addr) (m0 i0 c0 j0 : Nat) (s1 t1 : Bool) (a1 b1 : Option Addr) (m1 i1 c1 j1 : Nat) (W : World),
   x = .agg #[.bool s0, .slice a0 m0 c0, .bool t0, .slice b0 i0 j0] ∧ y = .agg #[.bool s1, .slice a1 m1 c1, .bool t1, .slice b1 i1 j1] ∧
   W = (w.alloc (.cells #[.bool s0, .slice a0 m0 c0, .bool t0, .slice b0 i0 j0] 34)).alloc (.cells #[.bool s1, .slice a1 m1 c1, .bool t1, .slice b1 i1 j1] 34) ∧
   W.heap.size = w.heap.size + 2 ∧ Below w.heap.size w W ∧ Laid W w.heap.size 34 [.bool s0, .slice a0 m0 c0, .bool t0, .slice b0 i0 j0] ∧ Laid W (w.heap.size + 1) 34 [.bool s1, .slice a1 m1 c1, .bool t1, .slice b1 i1 j1] ∧
   IAt W (.agg #[.bool s0, .slice a0 m0 c0]) p ∧ IAt W (.agg #[.bool s1, .slice a1 m1 c1]) r ∧ IAt W (.agg #[.bool t0, .slice b0 i0 j0]) (denZ q) ∧ IAt W (.agg #[.bool t1, .slice b1 i1 j1]) (denZ s) := by
 obtain ⟨s0, t0, a0, b0, m0, i0, c0, j0, rfl, h1, h2⟩ := hx
 obtain ⟨s1, t1, a1, b1, m1, i1, c1, j1, rfl, h3, h4⟩ := hy
 refine ⟨s0, t0, a0, b0, m0, i0, c0, j0, s1, t1, a1, b1, m1, i1, c1, j1, _, rfl, rfl, rfl, ?_⟩
 obtain ⟨W1, e1⟩ : ∃ W1, W1 = w.alloc (.cells #[.bool s0, .slice a0 m0 c0, .bool t0, .slice b0 i0 j0] 34) := ⟨_, rfl⟩
 obtain ⟨W2, e2⟩ : ∃ W2, W2 = W1.alloc (.cells #[.bool s1, .slice a1 m1 c1, .bool t1, .slice b1 i1 j1] 34) := ⟨_, rfl⟩
 rw [← e1, ← e2]
 have z1 : W1.heap.size = w.heap.size + 1 := by rw [e1]; simp
 have z2 : W2.heap.size = w.heap.size + 2 := by rw [e2]; simp [z1]
 have k1 : Below w.heap.size w W1 := by rw [e1]; exact below_one _ _
 have k2 : Below W1.heap.size W1 W2 := by rw [e2]; exact below_one _ _
 have l0 : Laid W1 w.heap.size 34 [.bool s0, .slice a0 m0 c0, .bool t0, .slice b0 i0 j0] := by rw [e1]; exact Laid.new _ _ _
 have l1 : Laid W2 W1.heap.size 34 [.bool s1, .slice a1 m1 c1, .bool t1, .slice b1 i1 j1] := by rw [e2]; exact Laid.new _ _ _
 rw [z1] at l1
 have k := below_then k1 k2
 exact ⟨z2, k, l0.below k2, l1, iat_keeps h1 k, iat_keeps h3 k, iat_keeps h2 k, iat_keeps h4 k⟩
theorem fat_of {W : World} {s t : Bool} {a b : Option Addr} {m n c d : Nat} {p q : Int} (h1 : IAt W (.agg #[.bool s, .slice a m c]) p) (h2 : IAt W (.agg #[.bool t, .slice b n d]) (denZ q)) : FAt W (.agg #[.bool s, .slice a m c, .bool t, .slice b n d]) p q := ⟨s, t, a, b, m, n, c, d, rfl, h1, h2⟩
set_option maxHeartbeats 4000000 in
theorem fMul_any (x y : Value) (p q r s : Int) (w : World) (hx : FAt w x p q) (hy : FAt w y r s) (f1 : Fine p q) (f2 : Fine r s) :
  Calls Tryz.prog 13 #[x, y] w (FREnd (rMul p q r s) w) := by
 obtain ⟨s0, t0, a0, b0, m0, i0, c0, j0, s1, t1, a1, b1, m1, i1, c1, j1, w2, rfl, rfl, hw2, z2, hb2, hl0, hl1, hn0, hn1, hd0, hd1⟩ := two_fracs w hx hy
 obtain ⟨w3, hw3⟩ : ∃ w3, w3 = w2.alloc (.cells #[.bool false, .slice none 0 0, .bool false, .slice none 0 0] 34) := ⟨_, rfl⟩
 have k3 : Below w2.heap.size w2 w3 := by rw [hw3]; exact below_one _ _
 have hl2 : Laid w3 (w.heap.size + 2) 34 [.bool false, .slice none 0 0, .bool false, .slice none 0 0] := by rw [hw3, ← z2]; exact Laid.new _ _ _
 have HL0 := Lib.hid (hl0.below k3)
 have HL1 := Lib.hid (hl1.below k3)
 have HL2 := Lib.hid hl2
 have HN0 := Lib.hid (iat_keeps hn0 k3)
 have HN1 := Lib.hid (iat_keeps hn1 k3)
 have HF0 := Lib.hid (fat_of (iat_keeps hn0 k3) (iat_keeps hd0 k3))
 have HF1 := Lib.hid (fat_of (iat_keeps hn1 k3) (iat_keeps hd1 k3))
 have HB3 := Lib.hid (below_then hb2 k3)
 rw [hw2] at hw3
 have BL1 : Hid (∀ X, Below w3.heap.size w3 X → Calls Tryz.prog 34 #[.agg #[.bool s0, .slice a0 m0 c0, .bool t0, .slice b0 i0 j0]] X (IEnd q X)) := Lib.hid (fun X h => below_den _ p q X (fat_keeps HF0.out h) f1.one f1.wide)
 have BL2 : Hid (∀ X, Below w3.heap.size w3 X → Calls Tryz.prog 34 #[.agg #[.bool s1, .slice a1 m1 c1, .bool t1, .slice b1 i1 j1]] X (IEnd s X)) := Lib.hid (fun X h => below_den _ r s X (fat_keeps HF1.out h) f2.one f2.wide)
 obtain ⟨R, hR⟩ : ∃ R, R = rMul p q r s := ⟨_, rfl⟩
 have MU : Hid (∀ X u v u' v', IAt X u p → IAt X v q → IAt X u' r → IAt X v' s → Calls Tryz.prog 44 #[u, v, u', v'] X (FREnd R X)) := Lib.hid (fun X u v u' v' h1 h2 h3 h4 => by rw [hR]; exact (multiplied_any u v u' v' p q r s X h1 h2 h3 h4 f1.low f2.low f1.len f1.wide f2.len f2.wide).mono (fun e w' h => fp_end h))
 rw [← hR]
 unfold IEnd at BL1 BL2
 unfold FREnd at MU
 have N0 := Lib.hid (show w.heap.size + 2 ≠ w.heap.size by omega)
 have N1 := Lib.hid (show w.heap.size + 2 ≠ w.heap.size + 1 by omega)
 have CELLS : Hid (∀ X : World, Below w3.heap.size w3 X → X.cell? ⟨w.heap.size, 0, none⟩ = some (.bool s0) ∧ X.cell? ⟨w.heap.size, 1, none⟩ = some (.slice a0 m0 c0) ∧ X.cell? ⟨w.heap.size, 2, none⟩ = some (.bool t0) ∧ X.cell? ⟨w.heap.size, 3, none⟩ = some (.slice b0 i0 j0) ∧ X.cell? ⟨w.heap.size + 1, 0, none⟩ = some (.bool s1) ∧ X.cell? ⟨w.heap.size + 1, 1, none⟩ = some (.slice a1 m1 c1) ∧ X.cell? ⟨w.heap.size + 1, 2, none⟩ = some (.bool t1) ∧ X.cell? ⟨w.heap.size + 1, 3, none⟩ = some (.slice b1 i1 j1)) := Lib.hid (fun X h => by
  obtain ⟨⟨e0, e1, e2, e3⟩, _⟩ := cellsF (HL0.out.below h)
  obtain ⟨⟨e4, e5, e6, e7⟩, _⟩ := cellsF (HL1.out.below h)
  exact ⟨e0, e1, e2, e3, e4, e5, e6, e7⟩)
 have HB : Hid (Below w3.heap.size w3 w3.drew) := Lib.hid (Below.refl _ _).drew
 clear hx hy f1 f2 hw2 z2 hb2 hl0 hl1 hl2 hn0 hn1 hd0 hd1 k3 hR
 go_enter Tryz.func13, Tryz.ntmps13
 go_wp2_with fail
 rw [← hw3]
 clear hw3
 go_region_held3 (fun X : World => X.cell? ⟨w.heap.size, 0, none⟩ = some (.bool s0) ∧ X.cell? ⟨w.heap.size, 1, none⟩ = some (.slice a0 m0 c0) ∧ X.cell? ⟨w.heap.size, 2, none⟩ = some (.bool t0) ∧ X.cell? ⟨w.heap.size, 3, none⟩ = some (.slice b0 i0 j0) ∧ X.cell? ⟨w.heap.size + 1, 0, none⟩ = some (.bool s1) ∧ X.cell? ⟨w.heap.size + 1, 1, none⟩ = some (.slice a1 m1 c1) ∧ X.cell? ⟨w.heap.size + 1, 2, none⟩ = some (.bool t1) ∧ X.cell? ⟨w.heap.size + 1, 3, none⟩ = some (.slice b1 i1 j1)) (with_reducible first | exact CELLS.out _ HB.out | (obtain ⟨e0, e1, e2, e3, e4, e5, e6, e7⟩ := CELLS.out _ HB.out; exact ⟨(far4 N0.out).trans e0, (far4 N0.out).trans e1, (far4 N0.out).trans e2, (far4 N0.out).trans e3, (far4 N1.out).trans e4, (far4 N1.out).trans e5, (far4 N1.out).trans e6, (far4 N1.out).trans e7⟩)) (first
  | (go_at_call 34; ((with_reducible refine (BL1.out _ HB.out).mono ?_); rintro e w10 ⟨b10, a10, m10, k10, rfl, hx10, hb10⟩); have HA := Lib.hid hx10; have UB := Lib.hid (below_then HB.out hb10); clear HB hx10 hb10; have HB := UB; clear UB)
  | (go_at_call 34; ((with_reducible refine (BL2.out _ HB.out).mono ?_); rintro e w11 ⟨b11, a11, m11, k11, rfl, hx11, hb11⟩); have HC := Lib.hid hx11; have HA2 := Lib.hid (iat_keeps HA.out hb11); have UB := Lib.hid (below_then HB.out hb11); clear HB hx11 hb11 HA; have HB := UB; clear UB)
  | (go_at_call 44; ((with_reducible refine (MU.out _ _ _ _ _ (iat_keeps HN0.out HB.out) HA2.out (iat_keeps HN1.out HB.out) HC.out).mono ?_); rintro e w12 ⟨s12, t12, a12, x12, m12, n12, c12, d12, rfl, hx12, hb12⟩); have HF := Lib.hid hx12; have UB := Lib.hid (below_then HB.out hb12); clear HB hx12 hb12 HA2 HC; have HB := UB; clear UB; obtain ⟨⟨r0, r1, r2, r3⟩, r4, r5, r6, r7⟩ := cellsF (HL2.out.below HB.out); have HLR := Lib.hid (HL2.out.below HB.out)))
 have HE := Lib.hid (below_set4 (p := w.heap.size + 2) (u0 := .bool s12) (u1 := .slice a12 m12 c12) (u2 := .bool t12) (u3 := .slice x12 n12 d12) (below_then HB3.out HB.out) (by omega))
 have HFE := Lib.hid (fat_store HF.out HLR.out)
 clear BL1 BL2 MU CELLS
 go_wp2_with fail
 refine bodyPost_ret (v := .tuple #[.agg #[.bool s12, .slice a12 m12 c12, .bool t12, .slice x12 n12 d12], .int .i64 R.1]) (by simp [results, Tryz.results13, go_sem, r0, r1, r2, r3]) rfl ?_
 exact ⟨_, _, _, _, _, _, _, _, rfl, HFE.out, HE.out⟩
theorem ec_or4 (x y z : Int) : (or4I (ecF x) (ecF y) (ecF (limF x + limF y)) (ecF z) = 0 ∧ (¬ big x ∧ ¬ big y ∧ ¬ big (x + y) ∧ ¬ big z) ∧ limF (limF x + limF y) = x + y ∧ limF z = z) ∨ (or4I (ecF x) (ecF y) (ecF (limF x + limF y)) (ecF z) = 4 ∧ (big x ∨ big y ∨ big (x + y) ∨ big z)) := by
 unfold or4I ecF limF
 rcases Classical.em (big x) with h | h
 ·exact .inr ⟨by rw [if_pos h, if_neg (by decide)], .inl h⟩
 rcases Classical.em (big y) with k | k
 ·exact .inr ⟨by rw [if_neg h, if_pos k, if_pos rfl, if_neg (by decide)], .inr (.inl k)⟩
 rw [if_neg h, if_neg h, if_neg k, if_neg k, if_pos rfl, if_pos rfl]
 rcases Classical.em (big (x + y)) with j | j
 ·exact .inr ⟨by rw [if_pos j, if_neg (by decide)], .inr (.inr (.inl j))⟩
 rw [if_neg j, if_neg j, if_pos rfl]
 rcases Classical.em (big z) with i | i
 ·exact .inr ⟨by rw [if_pos i], .inr (.inr (.inr i))⟩
 ·exact .inl ⟨by rw [if_neg i], ⟨h, k, j, i⟩, rfl, by rw [if_neg i]⟩
noncomputable def rAdd (p q r s : Int) : Int × Int × Int :=
 rIf (big (p * (s / ((Int.gcd q s : Nat) : Int))) ∨ big (r * (q / ((Int.gcd q s : Nat) : Int))) ∨ big (p * (s / ((Int.gcd q s : Nat) : Int)) + r * (q / ((Int.gcd q s : Nat) : Int))) ∨ big (q / ((Int.gcd q s : Nat) : Int) * s))
  (mkN (p * (s / ((Int.gcd q s : Nat) : Int)) + r * (q / ((Int.gcd q s : Nat) : Int))) (q / ((Int.gcd q s : Nat) : Int) * s)) (mkD (p * (s / ((Int.gcd q s : Nat) : Int)) + r * (q / ((Int.gcd q s : Nat) : Int))) (q / ((Int.gcd q s : Nat) : Int) * s))
set_option maxHeartbeats 8000000 in
theorem fAdd_any (x y : Value) (p q r s : Int) (w : World) (hx : FAt w x p q) (hy : FAt w y r s) (f1 : Fine p q) (f2 : Fine r s) :
  Calls Tryz.prog 12 #[x, y] w (FREnd (rAdd p q r s) w) := by
 obtain ⟨g, hg⟩ : ∃ g : Int, g = ((Int.gcd q s : Nat) : Int) := ⟨_, rfl⟩
 obtain ⟨qg, hqg⟩ : ∃ z : Int, z = q / g := ⟨_, rfl⟩
 obtain ⟨sg, hsg⟩ : ∃ z : Int, z = s / g := ⟨_, rfl⟩
 obtain ⟨A, hA⟩ : ∃ z : Int, z = p * sg := ⟨_, rfl⟩
 obtain ⟨B, hB⟩ : ∃ z : Int, z = r * qg := ⟨_, rfl⟩
 obtain ⟨D, hD⟩ : ∃ z : Int, z = qg * s := ⟨_, rfl⟩
 obtain ⟨S, hS⟩ : ∃ z : Int, z = A + B := ⟨_, rfl⟩
 obtain ⟨c, hc⟩ : ∃ z : Int, z = ((Int.gcd S g : Nat) : Int) := ⟨_, rfl⟩
 obtain ⟨T, hT⟩ : ∃ z : Int, z = S / c := ⟨_, rfl⟩
 obtain ⟨E, hE⟩ : ∃ z : Int, z = D / c := ⟨_, rfl⟩
 obtain ⟨R, hR⟩ : ∃ R, R = rAdd p q r s := ⟨_, rfl⟩
 have hAL := add_low (g := g) (c := c) f1.low f2.low hg (by rw [hc, hS, hA, hB, hsg, hqg])
 have hAG := add_gcd f1.low f2.low hg
 rw [← hsg, ← hqg, ← hA, ← hB, ← hD, ← hS] at hAL hAG
 have hml := (mk_low (p := S) (q := D) (by have := hAG.2.1; omega)).1.pos
 have hRR : R = rIf (big A ∨ big B ∨ big S ∨ big D) T E := by
  rw [hR]; unfold rAdd; rw [← hg, ← hsg, ← hqg, ← hA, ← hB, ← hD, ← hS, hAL.1, hAL.2.1, ← hT, ← hE]
 have hE0 : 1 ≤ E := by rw [hE, ← hAL.2.1]; omega
 have hc0 : c ≠ 0 := by have := Int.gcd_pos_of_ne_zero_right S (show g ≠ 0 by have := hAG.2.2.1; omega); omega
 have R0 : ¬ big A ∧ ¬ big B ∧ ¬ big S ∧ ¬ big D → R = (0, T, E) := fun h => by
  rw [hRR]; unfold rIf; rw [if_neg (fun k => by rcases k with k | k | k | k; exact h.1 k; exact h.2.1 k; exact h.2.2.1 k; exact h.2.2.2 k)]
 have R1 : (big A ∨ big B ∨ big S ∨ big D) → R = (4, 0, 1) := fun h => by rw [hRR]; unfold rIf; rw [if_pos h]
 have lg : (digsW g.natAbs).length ≤ 400000 := wlen_le (by rw [hg, Int.natAbs_natCast]; exact Int.gcd_le_natAbs_right q (by have := f2.low.pos; omega)) f2.wide
 have lqg : (digsW qg.natAbs).length ≤ 400000 := wlen_le (by rw [hqg]; exact Int.natAbs_ediv_le_natAbs _ _) f1.wide
 have lsg : (digsW sg.natAbs).length ≤ 400000 := wlen_le (by rw [hsg]; exact Int.natAbs_ediv_le_natAbs _ _) f2.wide
 have lc : (digsW c.natAbs).length ≤ 400000 := wlen_le (by rw [hc, Int.natAbs_natCast]; exact Int.gcd_le_natAbs_right S (by have := hAG.2.2.1; omega)) lg
 have lE : ¬ big D → (digsW E.natAbs).length ≤ 400000 := fun h => wlen_le (by rw [hE]; exact Int.natAbs_ediv_le_natAbs _ _) (low_len h)
 have g0 : g ≠ 0 := by have := hAG.2.2.1; omega
 have fp := f1.len
 have fq := f1.wide
 have fr := f2.len
 have fs := f2.wide
 have G1 : Hid (∀ X u v, IAt X u q → IAt X v s → Calls Tryz.prog  41 #[u, v] X (IEnd g X)) := Lib.hid (fun X u v h1 h2 => hg ▸ wGcd_any u v q s X h1 h2 fq fs)
 have Q1 : Hid (∀ X u v, IAt X u q → IAt X v g → Calls Tryz.prog  42 #[u, v] X (IEnd qg X)) := Lib.hid (fun X u v h1 h2 => hqg ▸ quotient_any u v q g X h1 h2 fq lg g0)
 have Q2 : Hid (∀ X u v, IAt X u s → IAt X v g → Calls Tryz.prog  42 #[u, v] X (IEnd sg X)) := Lib.hid (fun X u v h1 h2 => hsg ▸ quotient_any u v s g X h1 h2 fs lg g0)
 have P1 : Hid (∀ X u b s' a' m c', IAt X u p → IAt X (.agg #[.bool s', .slice a' m c']) sg → b < X.heap.size → X.cell? ⟨b, 0, none⟩ = some (.bool s') → X.cell? ⟨b, 1, none⟩ = some (.slice a' m c') → Calls Tryz.prog  36 #[u, .slice (some ⟨b, 0, none⟩) 1 1] X (REndW A X)) := Lib.hid (fun X u b s' a' m c' h1 h2 h3 h4 h5 => hA ▸ fProduct_any u p sg b s' a' m c' X h1 h2 h3 h4 h5 fp lsg)
 have P2 : Hid (∀ X u b s' a' m c', IAt X u r → IAt X (.agg #[.bool s', .slice a' m c']) qg → b < X.heap.size → X.cell? ⟨b, 0, none⟩ = some (.bool s') → X.cell? ⟨b, 1, none⟩ = some (.slice a' m c') → Calls Tryz.prog  36 #[u, .slice (some ⟨b, 0, none⟩) 1 1] X (REndW B X)) := Lib.hid (fun X u b s' a' m c' h1 h2 h3 h4 h5 => hB ▸ fProduct_any u r qg b s' a' m c' X h1 h2 h3 h4 h5 fr lqg)
 have P3 : Hid (∀ X u b s' a' m c', IAt X u qg → IAt X (.agg #[.bool s', .slice a' m c']) s → b < X.heap.size → X.cell? ⟨b, 0, none⟩ = some (.bool s') → X.cell? ⟨b, 1, none⟩ = some (.slice a' m c') → Calls Tryz.prog  36 #[u, .slice (some ⟨b, 0, none⟩) 1 1] X (REndW D X)) := Lib.hid (fun X u b s' a' m c' h1 h2 h3 h4 h5 => hD ▸ fProduct_any u qg s b s' a' m c' X h1 h2 h3 h4 h5 lqg fs)
 have WA : Hid (∀ X u v, IAt X u (limF A) → IAt X v (limF B) → Calls Tryz.prog  14 #[u, v] X (REndW (limF A + limF B) X)) := Lib.hid (fun X u v h1 h2 => wAdd_any u v _ _ X h1 h2 (lim_len _) (lim_len _))
 have G2 : Hid (¬ big S → ∀ X u v, IAt X u S → IAt X v g → Calls Tryz.prog  41 #[u, v] X (IEnd c X)) := Lib.hid (fun hb X u v h1 h2 => hc ▸ wGcd_any u v S g X h1 h2 (low_len hb) lg)
 have Q3 : Hid (¬ big S → ∀ X u v, IAt X u S → IAt X v c → Calls Tryz.prog  42 #[u, v] X (IEnd T X)) := Lib.hid (fun hb X u v h1 h2 => hT ▸ quotient_any u v S c X h1 h2 (low_len hb) lc hc0)
 have Q4 : Hid (¬ big D → ∀ X u v, IAt X u D → IAt X v c → Calls Tryz.prog  42 #[u, v] X (IEnd E X)) := Lib.hid (fun hb X u v h1 h2 => hE ▸ quotient_any u v D c X h1 h2 (low_len hb) lc hc0)
 have LW : Hid (¬ big D → ∀ X u v, IAt X u T → IAt X v E → Calls Tryz.prog  43 #[u, v] X (FEnd T E X)) := Lib.hid (fun hb X u v h1 h2 => lowest_any u v T E X h1 h2 hE0 (lE hb))
 have EC := Lib.hid (ec_or4 A B D)
 rw [← hS] at EC
 have R0 := Lib.hid R0
 have R1 := Lib.hid R1
 rw [← hR]
 have b1 := f1.one
 have b2 := f2.one
 obtain ⟨s0, t0, a0, b0, m0, i0, c0, j0, s1, t1, a1, b1', m1, i1, c1, j1, w2, rfl, rfl, hw2, z2, hb2, hl0, hl1, hn0, hn1, hd0, hd1⟩ := two_fracs w hx hy
 obtain ⟨w3, hw3⟩ : ∃ w3, w3 = w2.alloc (.cells #[.bool false, .slice none 0 0, .bool false, .slice none 0 0] 34) := ⟨_, rfl⟩
 have k3 : Below w2.heap.size w2 w3 := by rw [hw3]; exact below_one _ _
 have hl2 : Laid w3 (w.heap.size + 2) 34 [.bool false, .slice none 0 0, .bool false, .slice none 0 0] := by rw [hw3, ← z2]; exact Laid.new _ _ _
 have HL0 := Lib.hid (hl0.below k3)
 have HL1 := Lib.hid (hl1.below k3)
 have HL2 := Lib.hid hl2
 have HN0 := Lib.hid (iat_keeps hn0 k3)
 have HN1 := Lib.hid (iat_keeps hn1 k3)
 have HF0 := Lib.hid (fat_of (iat_keeps hn0 k3) (iat_keeps hd0 k3))
 have HF1 := Lib.hid (fat_of (iat_keeps hn1 k3) (iat_keeps hd1 k3))
 have HB3 := Lib.hid (below_then hb2 k3)
 have HZ3 := Lib.hid (show w.heap.size + 2 < w3.heap.size from hl2.lt)
 rw [hw2] at hw3
 have BL1 : Hid (∀ X, Below w3.heap.size w3 X → Calls Tryz.prog 34 #[.agg #[.bool s0, .slice a0 m0 c0, .bool t0, .slice b0 i0 j0]] X (IEnd q X)) := Lib.hid (fun X h => below_den _ p q X (fat_keeps HF0.out h) b1 fq)
 have BL2 : Hid (∀ X, Below w3.heap.size w3 X → Calls Tryz.prog 34 #[.agg #[.bool s1, .slice a1 m1 c1, .bool t1, .slice b1' i1 j1]] X (IEnd s X)) := Lib.hid (fun X h => below_den _ r s X (fat_keeps HF1.out h) b2 fs)
 have CELLS : Hid (∀ X : World, Below w3.heap.size w3 X → X.cell? ⟨w.heap.size, 0, none⟩ = some (.bool s0) ∧ X.cell? ⟨w.heap.size, 1, none⟩ = some (.slice a0 m0 c0) ∧ X.cell? ⟨w.heap.size, 2, none⟩ = some (.bool t0) ∧ X.cell? ⟨w.heap.size, 3, none⟩ = some (.slice b0 i0 j0) ∧ X.cell? ⟨w.heap.size + 1, 0, none⟩ = some (.bool s1) ∧ X.cell? ⟨w.heap.size + 1, 1, none⟩ = some (.slice a1 m1 c1) ∧ X.cell? ⟨w.heap.size + 1, 2, none⟩ = some (.bool t1) ∧ X.cell? ⟨w.heap.size + 1, 3, none⟩ = some (.slice b1' i1 j1)) := Lib.hid (fun X h => by
  obtain ⟨⟨e0, e1, e2, e3⟩, _⟩ := cellsF (HL0.out.below h)
  obtain ⟨⟨e4, e5, e6, e7⟩, _⟩ := cellsF (HL1.out.below h)
  exact ⟨e0, e1, e2, e3, e4, e5, e6, e7⟩)
 clear hx hy f1 f2 hw2 z2 hb2 hl0 hl1 hl2 hn0 hn1 hd0 hd1 k3 hR hRR hAL hAG hml hE0 hc0 lg lqg lsg lc lE g0 fp fq fr fs hg hqg hsg hA hB hD hc hT hE b1 b2
 go_enter Tryz.func12, Tryz.ntmps12
 go_wp2_with fail
 rw [← hw3]
 clear hw3
 refine regAd1 (fun _ _ _ _ _ h => h) CELLS HN0 HN1 BL1 BL2 ?_
 intro X1 tp tq tr ts v25 v29 HB0 Tp Tq Tr Ts Lp Lq Lr Ls n1 n2 n3 n4 n5 n6
 clear CELLS HN0 HN1 BL1 BL2 HF0 HF1 HL0 HL1 Lp Lq Lr Ls n1 n2 n3 n4 n5 n6
 obtain ⟨sq_0, aq_0, mq_0, kq_0, ⟨cq_00, cq_01⟩, hq_0⟩ := Tq.out.open
 obtain ⟨ss_0, as_0, ms_0, ks_0, ⟨cs_00, cs_01⟩, hs_0⟩ := Ts.out.open
 go_wp2_with fail
 have C := G1.out _ _ _ hq_0 hs_0
 unfold IEnd at C
 have HC := Lib.hid C
 clear C
 clear cq_00 cq_01 hq_0
 clear cs_00 cs_01 hs_0
 go_must (refine HC.out.mono ?_)
 rintro e w21 ⟨b5, a5, m5, k5, rfl, hx5, hb5⟩
 have HNg := Lib.hid (Nat.le_trans HB0.out.size hb5.size)
 have hbb := below_then hb5 (below_one w21 (.cells #[.bool b5, .slice a5 m5 k5] 32))
 replace Tp := Lib.hid (Tp.out.below hbb)
 replace Tq := Lib.hid (Tq.out.below hbb)
 replace Tr := Lib.hid (Tr.out.below hbb)
 replace Ts := Lib.hid (Ts.out.below hbb)
 replace HB0 := Lib.hid (below_then HB0.out hbb)
 have Tg := Lib.hid (IBox.new hx5)
 clear hx5 hb5 hbb HC
 go_wp2_with fail
 have HSZY1 := Lib.hid (size_alloc1 w21 (.cells #[.bool b5, .slice a5 m5 k5] 32))
 generalize w21.alloc (.cells #[.bool b5, .slice a5 m5 k5] 32) = Y1 at *
 generalize w21.heap.size = tg at *
 obtain ⟨sqL, aqL, mqL, kqL, lqL, hqL⟩ := Tq.out
 have GqL := Lib.hid hqL
 have LqL := Lib.hid lqL
 clear hqL lqL
 obtain ⟨ssL, asL, msL, ksL, lsL, hsL⟩ := Ts.out
 have GsL := Lib.hid hsL
 have LsL := Lib.hid lsL
 clear hsL lsL
 obtain ⟨sgL, agL, mgL, kgL, lgL, hgL⟩ := Tg.out
 have GgL := Lib.hid hgL
 have LgL := Lib.hid lgL
 clear hgL lgL
 have LD : Hid (∀ X : World, Below Y1.heap.size Y1 X → X.cell? ⟨tq, 0, none⟩ = some (.bool sqL) ∧ X.cell? ⟨tq, 1, none⟩ = some (.slice aqL mqL kqL) ∧ X.cell? ⟨ts, 0, none⟩ = some (.bool ssL) ∧ X.cell? ⟨ts, 1, none⟩ = some (.slice asL msL ksL) ∧ X.cell? ⟨tg, 0, none⟩ = some (.bool sgL) ∧ X.cell? ⟨tg, 1, none⟩ = some (.slice agL mgL kgL)) := Lib.hid (fun X h => by
  obtain ⟨eq0, eq1, _, _⟩ := cells2 (LqL.out.below h)
  obtain ⟨es0, es1, _, _⟩ := cells2 (LsL.out.below h)
  obtain ⟨eg0, eg1, _, _⟩ := cells2 (LgL.out.below h)
  exact ⟨eq0, eq1, es0, es1, eg0, eg1⟩)
 refine regAd3 (fun _ _ _ _ _ h => h) LD (Lib.hid (fun X h => Q1.out _ _ _ (iat_keeps GqL.out h) (iat_keeps GgL.out h))) (Lib.hid (fun X h => Q2.out _ _ _ (iat_keeps GsL.out h) (iat_keeps GgL.out h))) ?_
 intro X3 tqg tsg v35 v38 HBr Tqg Tsg L11 L12 n1
 clear LD GqL LqL GsL LsL GgL LgL
 clear L11 L12 n1
 replace Tp := Lib.hid (Tp.out.below HBr.out)
 replace Tq := Lib.hid (Tq.out.below HBr.out)
 replace Tr := Lib.hid (Tr.out.below HBr.out)
 replace Ts := Lib.hid (Ts.out.below HBr.out)
 replace Tg := Lib.hid (Tg.out.below HBr.out)
 replace HB0 := Lib.hid (below_then HB0.out HBr.out)
 clear HBr
 obtain ⟨sp_1, ap_1, mp_1, kp_1, ⟨cp_10, cp_11⟩, hp_1⟩ := Tp.out.open
 obtain ⟨ssg_1, asg_1, msg_1, ksg_1, ⟨csg_10, csg_11⟩, hsg_1⟩ := Tsg.out.open
 go_wp2_with fail
 have al := Laid.new X3 32 [.bool ssg_1, .slice asg_1 msg_1 ksg_1]
 have hal := below_one X3 (.cells #[.bool ssg_1, .slice asg_1 msg_1 ksg_1] 32)
 have C := P1.out _ _ _ _ _ _ _ (iat_keeps hp_1 hal) (iat_keeps hsg_1 hal) al.lt (al.cell 0) (al.cell 1)
 have HC := Lib.hid C
 clear C
 clear cp_10 cp_11 hp_1
 clear csg_10 csg_11 hsg_1
 replace Tp := Lib.hid (Tp.out.below hal)
 replace Tq := Lib.hid (Tq.out.below hal)
 replace Tr := Lib.hid (Tr.out.below hal)
 replace Ts := Lib.hid (Ts.out.below hal)
 replace Tg := Lib.hid (Tg.out.below hal)
 replace Tqg := Lib.hid (Tqg.out.below hal)
 replace Tsg := Lib.hid (Tsg.out.below hal)
 replace HB0 := Lib.hid (below_then HB0.out hal)
 clear al hal
 generalize X3.alloc (.cells #[.bool ssg_1, .slice asg_1 msg_1 ksg_1] 32) = Y2 at *
 go_must (refine HC.out.mono ?_)
 rintro e w22 hw5
 obtain ⟨b5, a5, m5, k5, c5, rfl, hr5, hb5⟩ := rend_form hw5
 obtain ⟨rfl, hx5⟩ := rend_limF hr5
 clear hw5 hr5
 have hbb := below_then hb5 (below_one w22 (.cells #[.bool b5, .slice a5 m5 k5] 32))
 replace Tp := Lib.hid (Tp.out.below hbb)
 replace Tq := Lib.hid (Tq.out.below hbb)
 replace Tr := Lib.hid (Tr.out.below hbb)
 replace Ts := Lib.hid (Ts.out.below hbb)
 replace Tg := Lib.hid (Tg.out.below hbb)
 replace Tqg := Lib.hid (Tqg.out.below hbb)
 replace Tsg := Lib.hid (Tsg.out.below hbb)
 replace HB0 := Lib.hid (below_then HB0.out hbb)
 have TA := Lib.hid (IBox.new hx5)
 clear hx5 hb5 hbb HC
 clear Tp
 clear Tsg
 obtain ⟨sr_2, ar_2, mr_2, kr_2, ⟨cr_20, cr_21⟩, hr_2⟩ := Tr.out.open
 obtain ⟨sqg_2, aqg_2, mqg_2, kqg_2, ⟨cqg_20, cqg_21⟩, hqg_2⟩ := Tqg.out.open
 go_wp2_with fail
 have HSZY3 := Lib.hid (size_alloc1 w22 (.cells #[.bool b5, .slice a5 m5 k5] 32))
 generalize w22.alloc (.cells #[.bool b5, .slice a5 m5 k5] 32) = Y3 at *
 generalize w22.heap.size = tA at *
 have al := Laid.new Y3 32 [.bool sqg_2, .slice aqg_2 mqg_2 kqg_2]
 have hal := below_one Y3 (.cells #[.bool sqg_2, .slice aqg_2 mqg_2 kqg_2] 32)
 rw [HSZY3.out] at al
 have C := P2.out _ _ _ _ _ _ _ (iat_keeps hr_2 hal) (iat_keeps hqg_2 hal) al.lt (al.cell 0) (al.cell 1)
 have HC := Lib.hid C
 clear C
 clear cr_20 cr_21 hr_2
 clear cqg_20 cqg_21 hqg_2
 replace Tq := Lib.hid (Tq.out.below hal)
 replace Tr := Lib.hid (Tr.out.below hal)
 replace Ts := Lib.hid (Ts.out.below hal)
 replace Tg := Lib.hid (Tg.out.below hal)
 replace Tqg := Lib.hid (Tqg.out.below hal)
 replace TA := Lib.hid (TA.out.below hal)
 replace HB0 := Lib.hid (below_then HB0.out hal)
 clear al hal
 generalize Y3.alloc (.cells #[.bool sqg_2, .slice aqg_2 mqg_2 kqg_2] 32) = Y4 at *
 go_must (refine HC.out.mono ?_)
 rintro e w23 hw5
 obtain ⟨b5, a5, m5, k5, c5, rfl, hr5, hb5⟩ := rend_form hw5
 obtain ⟨rfl, hx5⟩ := rend_limF hr5
 clear hw5 hr5
 have hbb := below_then hb5 (below_one w23 (.cells #[.bool b5, .slice a5 m5 k5] 32))
 replace Tq := Lib.hid (Tq.out.below hbb)
 replace Tr := Lib.hid (Tr.out.below hbb)
 replace Ts := Lib.hid (Ts.out.below hbb)
 replace Tg := Lib.hid (Tg.out.below hbb)
 replace Tqg := Lib.hid (Tqg.out.below hbb)
 replace TA := Lib.hid (TA.out.below hbb)
 replace HB0 := Lib.hid (below_then HB0.out hbb)
 have TB := Lib.hid (IBox.new hx5)
 clear hx5 hb5 hbb HC
 clear Tr
 obtain ⟨sA_3, aA_3, mA_3, kA_3, ⟨cA_30, cA_31⟩, hA_3⟩ := TA.out.open
 obtain ⟨sB_3, aB_3, mB_3, kB_3, ⟨cB_30, cB_31⟩, hB_3⟩ := TB.out.open
 go_wp2_with fail
 have HSZY5 := Lib.hid (size_alloc1 w23 (.cells #[.bool b5, .slice a5 m5 k5] 32))
 generalize w23.alloc (.cells #[.bool b5, .slice a5 m5 k5] 32) = Y5 at *
 generalize w23.heap.size = tB at *
 have C := WA.out _ _ _ hA_3 hB_3
 have HC := Lib.hid C
 clear C
 clear cA_30 cA_31 hA_3
 clear cB_30 cB_31 hB_3
 go_must (refine HC.out.mono ?_)
 rintro e w24 hw5
 obtain ⟨b5, a5, m5, k5, c5, rfl, hr5, hb5⟩ := rend_form hw5
 obtain ⟨rfl, hx5⟩ := rend_limF hr5
 clear hw5 hr5
 have HNS := Lib.hid (Nat.le_trans HB0.out.size hb5.size)
 have HDgS := Lib.hid (Nat.lt_of_lt_of_le Tg.out.lt hb5.size)
 have hbb := below_then hb5 (below_one w24 (.cells #[.bool b5, .slice a5 m5 k5] 32))
 replace Tq := Lib.hid (Tq.out.below hbb)
 replace Ts := Lib.hid (Ts.out.below hbb)
 replace Tg := Lib.hid (Tg.out.below hbb)
 replace Tqg := Lib.hid (Tqg.out.below hbb)
 replace TA := Lib.hid (TA.out.below hbb)
 replace TB := Lib.hid (TB.out.below hbb)
 replace HB0 := Lib.hid (below_then HB0.out hbb)
 have TS := Lib.hid (IBox.new hx5)
 clear hx5 hb5 hbb HC
 clear TA
 clear TB
 obtain ⟨sqg_4, aqg_4, mqg_4, kqg_4, ⟨cqg_40, cqg_41⟩, hqg_4⟩ := Tqg.out.open
 obtain ⟨ss_4, as_4, ms_4, ks_4, ⟨cs_40, cs_41⟩, hs_4⟩ := Ts.out.open
 go_wp2_with fail
 have HSZY6 := Lib.hid (size_alloc1 w24 (.cells #[.bool b5, .slice a5 m5 k5] 32))
 generalize w24.alloc (.cells #[.bool b5, .slice a5 m5 k5] 32) = Y6 at *
 generalize w24.heap.size = tS at *
 have al := Laid.new Y6 32 [.bool ss_4, .slice as_4 ms_4 ks_4]
 have hal := below_one Y6 (.cells #[.bool ss_4, .slice as_4 ms_4 ks_4] 32)
 rw [HSZY6.out] at al
 have C := P3.out _ _ _ _ _ _ _ (iat_keeps hqg_4 hal) (iat_keeps hs_4 hal) al.lt (al.cell 0) (al.cell 1)
 have HC := Lib.hid C
 clear C
 clear cqg_40 cqg_41 hqg_4
 clear cs_40 cs_41 hs_4
 replace Tq := Lib.hid (Tq.out.below hal)
 replace Ts := Lib.hid (Ts.out.below hal)
 replace Tg := Lib.hid (Tg.out.below hal)
 replace Tqg := Lib.hid (Tqg.out.below hal)
 replace TS := Lib.hid (TS.out.below hal)
 replace HB0 := Lib.hid (below_then HB0.out hal)
 clear al hal
 generalize Y6.alloc (.cells #[.bool ss_4, .slice as_4 ms_4 ks_4] 32) = Y7 at *
 go_must (refine HC.out.mono ?_)
 rintro e w25 hw5
 obtain ⟨b5, a5, m5, k5, c5, rfl, hr5, hb5⟩ := rend_form hw5
 obtain ⟨rfl, hx5⟩ := rend_limF hr5
 clear hw5 hr5
 have HND := Lib.hid (Nat.le_trans HB0.out.size hb5.size)
 have HDgD := Lib.hid (Nat.lt_of_lt_of_le Tg.out.lt hb5.size)
 have hbb := below_then hb5 (below_one w25 (.cells #[.bool b5, .slice a5 m5 k5] 32))
 replace Tq := Lib.hid (Tq.out.below hbb)
 replace Ts := Lib.hid (Ts.out.below hbb)
 replace Tg := Lib.hid (Tg.out.below hbb)
 replace Tqg := Lib.hid (Tqg.out.below hbb)
 replace TS := Lib.hid (TS.out.below hbb)
 replace HB0 := Lib.hid (below_then HB0.out hbb)
 have TD := Lib.hid (IBox.new hx5)
 clear hx5 hb5 hbb HC
 clear G1 Q1 Q2 P1 P2 P3 WA
 clear Tq
 clear Ts
 clear Tqg
 generalize hSL : limF A + limF B = SL at *
 generalize ecF A = ea at *
 generalize ecF B = eb at *
 generalize ecF SL = es at *
 generalize ecF D = ed at *
 generalize hor : or4I ea eb es ed = k at *
 go_wp2_with fail
 have HSZY8 := Lib.hid (size_alloc1 w25 (.cells #[.bool b5, .slice a5 m5 k5] 32))
 generalize w25.alloc (.cells #[.bool b5, .slice a5 m5 k5] 32) = Y8 at *
 generalize w25.heap.size = tD at *
 have AL := Laid.new Y8 41 [.int .i64 ea, .int .i64 eb, .int .i64 es, .int .i64 ed]
 rw [HSZY8.out] at AL
 have hb4 := below_one Y8 (.cells #[.int .i64 ea, .int .i64 eb, .int .i64 es, .int .i64 ed] 41)
 have HOR := or4_any _ _ _ _ _ _ (AL.cell 0) (AL.cell 1) (AL.cell 2) (AL.cell 3)
 rw [hor] at HOR
 have HOR := Lib.hid HOR
 replace Tg := Lib.hid (Tg.out.below hb4)
 replace TS := Lib.hid (TS.out.below hb4)
 replace TD := Lib.hid (TD.out.below hb4)
 replace HB0 := Lib.hid (below_then HB0.out hb4)
 clear AL hb4 hor
 go_must (refine HOR.out.mono ?_)
 rintro e w4 ⟨rfl, rfl⟩
 clear HOR
 generalize Y8.alloc (.cells #[.int .i64 ea, .int .i64 eb, .int .i64 es, .int .i64 ed] 41) = X4 at *
 rcases EC.out with ⟨rfl, hnb, lS, lD⟩ | ⟨rfl, hbad⟩
 ·rw [lS] at TS
  rw [lD] at TD
  have HNB := Lib.hid hnb
  have R2 := Lib.hid (R0.out hnb)
  clear hnb lS lD EC R0 R1 hSL
  obtain ⟨sS_5, aS_5, mS_5, kS_5, ⟨cS_50, cS_51⟩, hS_5⟩ := TS.out.open
  obtain ⟨sg_5, ag_5, mg_5, kg_5, ⟨cg_50, cg_51⟩, hg_5⟩ := Tg.out.open
  go_wp2_with fail
  have C := G2.out HNB.out.2.2.1 _ _ _ hS_5 hg_5
  unfold IEnd at C
  have HC := Lib.hid C
  clear C
  clear cS_50 cS_51 hS_5
  clear cg_50 cg_51 hg_5
  go_must (refine HC.out.mono ?_)
  rintro e w26 ⟨b5, a5, m5, k5, rfl, hx5, hb5⟩
  replace Tg := Lib.hid (Tg.out.below hb5)
  replace TS := Lib.hid (TS.out.below hb5)
  replace TD := Lib.hid (TD.out.below hb5)
  replace HB0 := Lib.hid (below_then HB0.out hb5)
  obtain ⟨so, ao, mo, co, lo, _⟩ := id Tg.out
  obtain ⟨co0, co1, co2, co3⟩ := cells2 lo
  clear lo
  go_wp2_with fail
  replace TS := Lib.hid (Tg.out.other (s := b5) (a := a5) (m := m5) (c := k5) TS.out (Nat.ne_of_gt HDgS.out))
  replace TD := Lib.hid (Tg.out.other (s := b5) (a := a5) (m := m5) (c := k5) TD.out (Nat.ne_of_gt HDgD.out))
  replace HB0 := Lib.hid (below_set2 (p := tg) (u := .bool b5) (v := .slice a5 m5 k5) HB0.out HNg.out)
  replace Tg := Lib.hid (Tg.out.store hx5)
  clear hx5 hb5 HC co0 co1 co2 co3
  generalize (w26.setCell ⟨tg, 0, none⟩ (.bool b5)).setCell ⟨tg, 1, none⟩ (.slice a5 m5 k5) = Y9 at *
  obtain ⟨sSL, aSL, mSL, kSL, lSL, hSL⟩ := TS.out
  have GSL := Lib.hid hSL
  have LSL := Lib.hid lSL
  clear hSL lSL
  obtain ⟨sgL, agL, mgL, kgL, lgL, hgL⟩ := Tg.out
  have GgL := Lib.hid hgL
  have LgL := Lib.hid lgL
  clear hgL lgL
  obtain ⟨sDL, aDL, mDL, kDL, lDL, hDL⟩ := TD.out
  have GDL := Lib.hid hDL
  have LDL := Lib.hid lDL
  clear hDL lDL
  have LD : Hid (∀ X : World, Below Y9.heap.size Y9 X → X.cell? ⟨tS, 0, none⟩ = some (.bool sSL) ∧ X.cell? ⟨tS, 1, none⟩ = some (.slice aSL mSL kSL) ∧ X.cell? ⟨tg, 0, none⟩ = some (.bool sgL) ∧ X.cell? ⟨tg, 1, none⟩ = some (.slice agL mgL kgL) ∧ X.cell? ⟨tD, 0, none⟩ = some (.bool sDL) ∧ X.cell? ⟨tD, 1, none⟩ = some (.slice aDL mDL kDL)) := Lib.hid (fun X h => by
   obtain ⟨eS0, eS1, _, _⟩ := cells2 (LSL.out.below h)
   obtain ⟨eg0, eg1, _, _⟩ := cells2 (LgL.out.below h)
   obtain ⟨eD0, eD1, _, _⟩ := cells2 (LDL.out.below h)
   exact ⟨eS0, eS1, eg0, eg1, eD0, eD1⟩)
  have N0 : Hid (w.heap.size + 2 ≠ tS) := Lib.hid (by have := HNS.out; have := HZ3.out; omega)
  have N1 : Hid (w.heap.size + 2 ≠ tg) := Lib.hid (by have := HNg.out; have := HZ3.out; omega)
  have N2 : Hid (w.heap.size + 2 ≠ tD) := Lib.hid (by have := HND.out; have := HZ3.out; omega)
  have QP : Hid (∀ X, Below Y9.heap.size Y9 X → Calls Tryz.prog  42 #[.agg #[.bool sSL, .slice aSL mSL kSL], .agg #[.bool sgL, .slice agL mgL kgL]] X (IEnd T X)) := Lib.hid (fun X h => Q3.out HNB.out.2.2.1 _ _ _ (iat_keeps GSL.out h) (iat_keeps GgL.out h))
  have QQ : Hid (∀ X, Below Y9.heap.size Y9 X → Calls Tryz.prog  42 #[.agg #[.bool sDL, .slice aDL mDL kDL], .agg #[.bool sgL, .slice agL mgL kgL]] X (IEnd E X)) := Lib.hid (fun X h => Q4.out HNB.out.2.2.2 _ _ _ (iat_keeps GDL.out h) (iat_keeps GgL.out h))
  have LW2 := Lib.hid (LW.out HNB.out.2.2.2)
  have HB : Hid (Below Y9.heap.size Y9 Y9.drew) := Lib.hid (Below.refl _ _).drew
  unfold IEnd at QP QQ
  unfold FEnd at LW2
  clear LW G2 Q3 Q4 HNB HDgS HDgD HNS HNg HND
  go_region_held3 (fun X : World => X.cell? ⟨tS, 0, none⟩ = some (.bool sSL) ∧ X.cell? ⟨tS, 1, none⟩ = some (.slice aSL mSL kSL) ∧ X.cell? ⟨tg, 0, none⟩ = some (.bool sgL) ∧ X.cell? ⟨tg, 1, none⟩ = some (.slice agL mgL kgL) ∧ X.cell? ⟨tD, 0, none⟩ = some (.bool sDL) ∧ X.cell? ⟨tD, 1, none⟩ = some (.slice aDL mDL kDL)) (with_reducible first | exact LD.out _ HB.out | (obtain ⟨e0, e1, e2, e3, e4, e5⟩ := LD.out _ HB.out; exact ⟨(far4 N0.out).trans e0, (far4 N0.out).trans e1, (far4 N1.out).trans e2, (far4 N1.out).trans e3, (far4 N2.out).trans e4, (far4 N2.out).trans e5⟩)) (first
   | (go_at_call 42; ((with_reducible refine (QP.out _ HB.out).mono ?_); rintro e w10 ⟨b10, a10, m10, k10, rfl, hx10, hb10⟩); have HA := Lib.hid hx10; have UB := Lib.hid (below_then HB.out hb10); clear HB hx10 hb10; have HB := UB; clear UB)
   | (go_at_call 42; ((with_reducible refine (QQ.out _ HB.out).mono ?_); rintro e w11 ⟨b11, a11, m11, k11, rfl, hx11, hb11⟩); have HC := Lib.hid hx11; have HA2 := Lib.hid (iat_keeps HA.out hb11); have UB := Lib.hid (below_then HB.out hb11); clear HB hx11 hb11 HA; have HB := UB; clear UB)
   | (go_at_call 43; ((with_reducible refine (LW2.out _ _ _ HA2.out HC.out).mono ?_); rintro e w12 ⟨v12, rfl, hx12, hb12⟩); obtain ⟨s12, t12, a12, x12, m12, n12, c12, d12, rfl⟩ := fat_shape hx12; have HF := Lib.hid hx12; have UB := Lib.hid (below_then HB.out hb12); clear HB hx12 hb12 HA2 HC; have HB := UB; clear UB; obtain ⟨⟨r0, r1, r2, r3⟩, r4, r5, r6, r7⟩ := cellsF (HL2.out.below (below_then HB0.out HB.out)); have HLR := Lib.hid (HL2.out.below (below_then HB0.out HB.out))))
  have HBW := Lib.hid (below_then HB3.out (below_then HB0.out HB.out))
  have HE := Lib.hid (below_set4 (p := w.heap.size + 2) (u0 := .bool s12) (u1 := .slice a12 m12 c12) (u2 := .bool t12) (u3 := .slice x12 n12 d12) HBW.out (by omega))
  have HFE := Lib.hid (fat_store HF.out HLR.out)
  clear QP QQ LW2 LD
  go_wp2_with fail
  refine bodyPost_ret (v := .tuple #[.agg #[.bool s12, .slice a12 m12 c12, .bool t12, .slice x12 n12 d12], .int .i64 0]) (by simp [results, Tryz.results12, go_sem, r0, r1, r2, r3]) rfl ?_
  rw [R2.out]
  exact ⟨_, _, _, _, _, _, _, _, rfl, HFE.out, HE.out⟩
 ·have R2 := Lib.hid (R1.out hbad)
  have HLR := Lib.hid (HL2.out.below HB0.out)
  obtain ⟨⟨r0, r1, r2, r3⟩, r4, r5, r6, r7⟩ := cellsF HLR.out
  have HE := Lib.hid (below_set4 (p := w.heap.size + 2) (u0 := .bool false) (u1 := .slice none 0 0) (u2 := .bool false) (u3 := .slice none 0 0) (below_then HB3.out HB0.out) (by omega))
  have HFE := Lib.hid (fat_store (fat_zero X4) HLR.out)
  clear hbad EC R0 R1 hSL LW G2 Q3 Q4 TS TD Tg
  go_wp2_with fail
  refine bodyPost_ret (v := .tuple #[.agg #[.bool false, .slice none 0 0, .bool false, .slice none 0 0], .int .i64 4]) (by simp [results, Tryz.results12, go_sem, r0, r1, r2, r3]) rfl ?_
  rw [R2.out]
  exact ⟨_, _, _, _, _, _, _, _, rfl, HFE.out, HE.out⟩
end Go.Proofs.YtepakogbbomaoaaGreatDoor
