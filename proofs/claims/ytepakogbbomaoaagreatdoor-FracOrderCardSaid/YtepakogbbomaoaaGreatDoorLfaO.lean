/-
 The laws of package frac: number, of, whole, same, equal. (tools/genLfa.py makes this text.)
-/
import Derived.Test.YtepakogbbomaoaaGreatDoorRfcO
namespace Go.Proofs.YtepakogbbomaoaaGreatDoor
open Go.RowKit Go.Shelf
set_option linter.unusedVariables false
set_option maxRecDepth 100000
structure Both (z : Int) : Prop where
 small : ¬ big z
 dg : (digs z.natAbs).length ≤ 1240
 w : (digsW z.natAbs).length ≤ 400000
theorem Both.txt {z : Int} (h : Both z) : (txtN z).length ≤ 5000 := by
 have h1 := txt_dg h.dg (by decide)
 rw [← strB_txt, strB_length]
 omega
set_option maxHeartbeats 8000000 in
theorem lNumber_any (x : Value) (z : Int) (w : World) (hx : NAt w x z) (hz : Both z) :
  Calls Tryz.prog 32 #[x] w (IEnd z w) := by
 obtain ⟨s, a, m, c, rfl⟩ := nat_shape hx
 obtain ⟨w2, hw2⟩ : ∃ w2, w2 = (w.alloc (.cells #[.bool s, .slice a m c] 24)).alloc (.cells #[.bool false, .slice none 0 0] 32) := ⟨_, rfl⟩
 have hb2 : Below w.heap.size w w2 := by rw [hw2]; exact below_then (below_one _ _) (below_one _ _)
 have hl : Laid w2 (w.heap.size + 1) 32 [.bool false, .slice none 0 0] := by
  rw [hw2]
  have := Laid.new (w.alloc (.cells #[.bool s, .slice a m c] 24)) 32 [.bool false, .slice none 0 0]
  rwa [World.size_alloc] at this
 have TX := Lib.hid (text_any _ z w2 (nat_keeps hx hb2) (by have := hz.dg; omega))
 have PA : Hid (∀ X, Calls Tryz.prog 61 #[.string (txtS z)] X (REndW z X)) := Lib.hid (fun X => wParse_txt z X hz.txt)
 have HNB := Lib.hid hz.small
 have HB := Lib.hid hb2
 have HL := Lib.hid hl
 clear hx hz hb2 hl
 generalize txtS z = S at *
 go_enter Tryz.func32, Tryz.ntmps32
 go_wp2_with fail
 rw [← hw2]
 clear hw2
 go_must (refine TX.out.mono ?_)
 rintro e w3 ⟨rfl, hb3⟩
 have HB3 := Lib.hid (below_then HB.out hb3)
 have HL3 := Lib.hid (HL.out.below hb3)
 clear TX hb3 HB HL
 go_wp2_with fail
 go_must (refine (PA.out _).mono ?_)
 rintro e w4 hw4
 obtain ⟨b4, a4, m4, k4, c4, rfl, hy4, hb4⟩ := rend_form hw4
 obtain ⟨rfl, hx4⟩ : c4 = 0 ∧ IAt w4 (.agg #[.bool b4, .slice a4 m4 k4]) z := by
  rcases hy4 with ⟨_, h1, h2⟩ | ⟨h, _⟩
  ·exact ⟨h1, h2⟩
  ·exact absurd h HNB.out
 have hbb := below_then hb4 (below_one w4 (.cells #[.bool b4, .slice a4 m4 k4] 32))
 have HB4 := Lib.hid (below_then HB3.out hbb)
 have hl4 := HL3.out.below hbb
 have T := Lib.hid (IBox.new hx4)
 clear PA hw4 hy4 hx4 hb4 hbb HB3 HL3
 go_upto_region 2 with (fail)
 generalize w4.alloc (.cells #[.bool b4, .slice a4 m4 k4] 32) = w5 at *
 generalize w4.heap.size = bt at *
 obtain ⟨s5, a5, m5, c5, ⟨c50, c51⟩, h5⟩ := T.out.open
 obtain ⟨r0, r1, r2, r3⟩ := cells2 hl4
 have HE := Lib.hid (iend_store (w := w) HB4.out (Nat.le_succ _) hl4 h5)
 clear T h5 hl4 HB4
 go_wp2_with fail
 refine bodyPost_ret (v := .agg #[.bool s5, .slice a5 m5 c5]) (by simp [results, Tryz.results32, go_sem, r0, r1]) rfl ?_
 exact HE.out
set_option maxHeartbeats 8000000 in
theorem lOf_any (x : Value) (p q : Int) (w : World) (hx : RFAt w x p q) (hl : Low p q) (hp : Both p) (hq : Both q) :
  Calls Tryz.prog 6 #[x] w (FEnd p q w) := by
 obtain ⟨s0, t0, a0, b0, m0, i0, c0, j0, w2, rfl, hw2, z2, hb2, hl0, hn0, hd0⟩ := one_rf w hx
 obtain ⟨w3, hw3⟩ : ∃ w3, w3 = w2.alloc (.cells #[.bool false, .slice none 0 0, .bool false, .slice none 0 0] 34) := ⟨_, rfl⟩
 have k3 : Below w2.heap.size w2 w3 := by rw [hw3]; exact below_one _ _
 have hl2 : Laid w3 (w.heap.size + 1) 34 [.bool false, .slice none 0 0, .bool false, .slice none 0 0] := by rw [hw3, ← z2]; exact Laid.new _ _ _
 have HL2 := Lib.hid hl2
 have HL0 := Lib.hid (hl0.below k3)
 have HN0 := Lib.hid (nat_keeps hn0 k3)
 have HD0 := Lib.hid (nat_keeps hd0 k3)
 have HB3 := Lib.hid (below_then hb2 k3)
 rw [hw2] at hw3
 have HRM : Hid (rMake p q = (0, p, q)) := Lib.hid (by unfold rMake; rw [if_neg (by have := hl.pos; omega), (mk_self hl).1, (mk_self hl).2])
 have CELLS : Hid (∀ X : World, Below w3.heap.size w3 X → X.cell? ⟨w.heap.size, 0, none⟩ = some (.bool s0) ∧ X.cell? ⟨w.heap.size, 1, none⟩ = some (.slice a0 m0 c0) ∧ X.cell? ⟨w.heap.size, 2, none⟩ = some (.bool t0) ∧ X.cell? ⟨w.heap.size, 3, none⟩ = some (.slice b0 i0 j0)) := Lib.hid (fun X h => by
  obtain ⟨⟨e0, e1, e2, e3⟩, _⟩ := cellsF (HL0.out.below h)
  exact ⟨e0, e1, e2, e3⟩)
 have C8 : Hid (∀ X, Below w3.heap.size w3 X → Calls Tryz.prog 32 #[.agg #[.bool s0, .slice a0 m0 c0]] X (VEnd (KI p) X)) := Lib.hid (fun X h => (lNumber_any _ p X (nat_keeps HN0.out h) hp).mono (fun _ _ => v_i))
 have C11 : Hid (∀ X, Below w3.heap.size w3 X → Calls Tryz.prog 32 #[.agg #[.bool t0, .slice b0 i0 j0]] X (VEnd (KI q) X)) := Lib.hid (fun X h => (lNumber_any _ q X (nat_keeps HD0.out h) hq).mono (fun _ _ => v_i))
 have C12 : Hid (∀ X x8 x11, Below w3.heap.size w3 X → KI p X x8 → KI q X x11 → Calls Tryz.prog 17 #[x8, x11] X (VEnd (KTF (0, p, q)) X)) := Lib.hid (fun X x8 x11 h h1 h2 => by
  have := (make_any _ _ p q X h1 h2 hp.w hq.w).mono (fun _ _ h => v_tf (make_end h))
  rwa [HRM.out] at this)
 clear hx hl hp hq hw2 z2 hb2 hl0 hn0 hd0 k3 hl2 HRM HN0 HD0
 go_enter Tryz.func6, Tryz.ntmps6
 go_wp2_with fail
 rw [← hw3]
 clear hw3
 refine regLOf (R := (0, p, q)) (fun _ _ d _ _ h => by cases d <;> exact h) CELLS C8 C11 C12 ?_
 intro X x8 x11 x12 x5 sv tv av dv mv iv cv jv t3 hB L3 T3
 clear CELLS C8 C11 C12
 have hl4 := HL2.out.below hB.out
 obtain ⟨⟨r0, r1, r2, r3⟩, r4, r5, r6, r7⟩ := cellsF hl4
 obtain ⟨s6, u6, a6, d6, m6, i6, c6, j6, ⟨c60, c61, c62, c63⟩, _, h6⟩ := T3.out.open
 have HE := Lib.hid (below_set4 (p := w.heap.size + 1) (u0 := .bool s6) (u1 := .slice a6 m6 c6) (u2 := .bool u6) (u3 := .slice d6 i6 j6) (below_then HB3.out hB.out) (by omega))
 have HFE := Lib.hid (fat_store h6 hl4)
 clear hB T3 h6 hl4 HL0 HL2 HB3
 go_wp2_with fail
 refine bodyPost_ret (v := .agg #[.bool s6, .slice a6 m6 c6, .bool u6, .slice d6 i6 j6]) (by simp [results, Tryz.results6, go_sem, r0, r1, r2, r3]) rfl ?_
 exact ⟨_, rfl, HFE.out, HE.out⟩
set_option maxHeartbeats 8000000 in
theorem lWhole_any (n : Int) (w : World) (hn : -9223372036854775808 ≤ n ∧ n ≤ 9223372036854775807) :
  Calls Tryz.prog 54 #[.int .i64 n] w (FEnd n 1 w) := by
 obtain ⟨w1, hw1⟩ : ∃ w1, w1 = w.alloc (.cells #[.bool false, .slice none 0 0, .bool false, .slice none 0 0] 34) := ⟨_, rfl⟩
 have HB1 : Hid (Below w.heap.size w w1) := Lib.hid (by rw [hw1]; exact below_one _ _)
 have HL1 : Hid (Laid w1 w.heap.size 34 [.bool false, .slice none 0 0, .bool false, .slice none 0 0]) := Lib.hid (by rw [hw1]; exact Laid.new _ _ _)
 have HRM : rMake n 1 = (0, n, 1) := by unfold rMake; rw [if_neg (by decide), (mk_self (low_int n)).1, (mk_self (low_int n)).2]
 have OF := (fOf_any n 1 w1 hn (by decide)).mono (fun _ _ h => v_tf (make_end h))
 rw [HRM] at OF
 unfold VEnd at OF
 have HOF := Lib.hid OF
 clear OF HRM hn
 go_enter Tryz.func54, Tryz.ntmps54
 go_wp2_with fail
 rw [← hw1]
 clear hw1
 go_must (refine HOF.out.mono ?_)
 rintro e w2 ⟨v2, rfl, ⟨y2, rfl, hx2⟩, hb2⟩
 obtain ⟨s2, t2, a2, d2, m2, i2, c2, j2, rfl⟩ := fat_shape hx2
 have hbb := below_then hb2 (below_one w2 (.cells #[.bool s2, .slice a2 m2 c2, .bool t2, .slice d2 i2 j2] 34))
 have HB2 := Lib.hid (below_then HB1.out hbb)
 have hl2 := HL1.out.below hbb
 have T := Lib.hid (FBox.new hx2)
 clear HOF hx2 hb2 hbb HB1 HL1
 go_upto_region 2 with (fail)
 generalize w2.alloc (.cells #[.bool s2, .slice a2 m2 c2, .bool t2, .slice d2 i2 j2] 34) = w3 at *
 generalize w2.heap.size = bt at *
 obtain ⟨⟨r0, r1, r2, r3⟩, r4, r5, r6, r7⟩ := cellsF hl2
 obtain ⟨s6, u6, a6, d6, m6, i6, c6, j6, ⟨c60, c61, c62, c63⟩, _, h6⟩ := T.out.open
 have HE := Lib.hid (below_set4 (p := w.heap.size) (u0 := .bool s6) (u1 := .slice a6 m6 c6) (u2 := .bool u6) (u3 := .slice d6 i6 j6) HB2.out (Nat.le_refl _))
 have HFE := Lib.hid (fat_store h6 hl2)
 clear T h6 hl2 HB2
 go_wp2_with fail
 refine bodyPost_ret (v := .agg #[.bool s6, .slice a6 m6 c6, .bool u6, .slice d6 i6 j6]) (by simp [results, Tryz.results54, go_sem, r0, r1, r2, r3]) rfl ?_
 exact ⟨_, rfl, HFE.out, HE.out⟩
theorem one_f (w : World) {x : Value} {p q : Int} (hx : FAt w x p q) :
  ∃ (s0 t0 : Bool) (a0 b0 : Option Addr) (m0 i0 c0 j0 : Nat) (W : World), x = .agg #[.bool s0, .slice a0 m0 c0, .bool t0, .slice b0 i0 j0] ∧
   W = w.alloc (.cells #[.bool s0, .slice a0 m0 c0, .bool t0, .slice b0 i0 j0] 34) ∧ W.heap.size = w.heap.size + 1 ∧ Below w.heap.size w W ∧
   Laid W w.heap.size 34 [.bool s0, .slice a0 m0 c0, .bool t0, .slice b0 i0 j0] ∧ FAt W (.agg #[.bool s0, .slice a0 m0 c0, .bool t0, .slice b0 i0 j0]) p q := by
 obtain ⟨s0, t0, a0, b0, m0, i0, c0, j0, rfl⟩ := fat_shape hx
 have k := below_one w (.cells #[.bool s0, .slice a0 m0 c0, .bool t0, .slice b0 i0 j0] 34)
 exact ⟨s0, t0, a0, b0, m0, i0, c0, j0, _, rfl, rfl, by simp, k, Laid.new _ _ _, fat_keeps hx k⟩
theorem str_beq (s : ByteArray) : (s.toList == s.toList) = true := by simp
set_option maxHeartbeats 8000000 in
theorem lEqual_any (x y : Value) (p q r s : Int) (w : World) (hx : FAt w x p q) (hy : FAt w y r s) (f1 : Fine p q) (f2 : Fine r s) :
  Calls Tryz.prog 11 #[x, y] w (VEnd (KX (.bool ((fTxt p q).toList == (fTxt r s).toList))) w) := by
 obtain ⟨s0, t0, a0, b0, m0, i0, c0, j0, w1, rfl, hw1, z1, hb1, hl0, hf0⟩ := one_f w hx
 obtain ⟨s1, t1, a1, b1, m1, i1, c1, j1, w3, rfl, hw3, z3, k3, hl1, hf1⟩ := one_f w1 (fat_keeps hy hb1)
 rw [z1] at hl1
 have HL0 := Lib.hid (hl0.below k3)
 have HL1 := Lib.hid hl1
 have HF0 := Lib.hid (fat_keeps hf0 k3)
 have HF1 := Lib.hid hf1
 have HB3 := Lib.hid (below_then hb1 k3)
 rw [hw1] at hw3
 have CELLS : Hid (∀ X : World, Below w3.heap.size w3 X → X.cell? ⟨w.heap.size, 0, none⟩ = some (.bool s0) ∧ X.cell? ⟨w.heap.size, 1, none⟩ = some (.slice a0 m0 c0) ∧ X.cell? ⟨w.heap.size, 2, none⟩ = some (.bool t0) ∧ X.cell? ⟨w.heap.size, 3, none⟩ = some (.slice b0 i0 j0) ∧ X.cell? ⟨w.heap.size + 1, 0, none⟩ = some (.bool s1) ∧ X.cell? ⟨w.heap.size + 1, 1, none⟩ = some (.slice a1 m1 c1) ∧ X.cell? ⟨w.heap.size + 1, 2, none⟩ = some (.bool t1) ∧ X.cell? ⟨w.heap.size + 1, 3, none⟩ = some (.slice b1 i1 j1)) := Lib.hid (fun X h => by
  obtain ⟨⟨e0, e1, e2, e3⟩, _⟩ := cellsF (HL0.out.below h)
  obtain ⟨⟨e4, e5, e6, e7⟩, _⟩ := cellsF (HL1.out.below h)
  exact ⟨e0, e1, e2, e3, e4, e5, e6, e7⟩)
 have C6 : Hid (∀ X, Below w3.heap.size w3 X → Calls Tryz.prog 20 #[.agg #[.bool s0, .slice a0 m0 c0, .bool t0, .slice b0 i0 j0]] X (VEnd (KX (.string (fTxt p q))) X)) := Lib.hid (fun X h => (fString_any _ p q X (fat_keeps HF0.out h) f1.one f1.len f1.wide).mono (fun _ _ h => ⟨_, h.1, rfl, h.2⟩))
 have C8 : Hid (∀ X, Below w3.heap.size w3 X → Calls Tryz.prog 20 #[.agg #[.bool s1, .slice a1 m1 c1, .bool t1, .slice b1 i1 j1]] X (VEnd (KX (.string (fTxt r s))) X)) := Lib.hid (fun X h => (fString_any _ r s X (fat_keeps HF1.out h) f2.one f2.len f2.wide).mono (fun _ _ h => ⟨_, h.1, rfl, h.2⟩))
 clear hx hy f1 f2 hw1 z1 hb1 hl0 hf0 z3 k3 hl1 hf1
 generalize fTxt p q = S1 at *
 generalize fTxt r s = S2 at *
 obtain ⟨bb, hbb⟩ : ∃ bb, bb = (S1.toList == S2.toList) := ⟨_, rfl⟩
 rw [← hbb]
 have HBB := Lib.hid hbb
 clear hbb
 go_enter Tryz.func11, Tryz.ntmps11
 go_wp2_with fail
 rw [← hw3]
 clear hw3
 refine regLEq (fun _ _ d _ _ h => by cases d <;> exact h) CELLS C6 C8 ?_
 intro X hB
 have HE := Lib.hid (below_then HB3.out hB.out)
 rw [← HBB.out]
 go_wp2_with fail
 go_ret
 exact ⟨_, rfl, rfl, HE.out⟩
end Go.Proofs.YtepakogbbomaoaaGreatDoor
