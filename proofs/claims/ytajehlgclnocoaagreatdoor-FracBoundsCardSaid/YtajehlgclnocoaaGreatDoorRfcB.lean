/-
 The reference of package frac: Neg, Make, ranged, Mul, Div, Compare. (tools/genRfa.py makes this text.) The reference of package frac: Mul, Div, Compare, Sign, Text. (tools/genRfb.py makes this text.) The reference of package frac: Text, Pick, Number, Frac. (tools/genRfd.py makes this text.)
-/
import Derived.Test.YtajehlgclnocoaaGreatDoorFcCB
import Derived.Test.YtajehlgclnocoaaGreatDoorDvgB
import Derived.Test.YtajehlgclnocoaaGreatDoorDvrB
import Derived.Test.YtajehlgclnocoaaGreatDoorFcAB
import Derived.Deep.DeepCutAuto
namespace Go.Proofs.YtajehlgclnocoaaGreatDoor
open Go.RowKit Go.Shelf
set_option linter.unusedVariables false
set_option maxRecDepth 100000
theorem dg_mul {a b : Int} {k : Nat} (ha : (digs a.natAbs).length ≤ k) (hb : (digs b.natAbs).length ≤ k) : (digs (a * b).natAbs).length ≤ k + k := by
 rw [Int.natAbs_mul]
 refine digs_len_le ?_
 rw [Nat.pow_add]
 have h1 := digs_len_lt a.natAbs
 have h2 := digs_len_lt b.natAbs
 have h3 : 10000 ^ (digs a.natAbs).length ≤ 10000 ^ k := Nat.pow_le_pow_right (by decide) ha
 have h4 : 10000 ^ (digs b.natAbs).length ≤ 10000 ^ k := Nat.pow_le_pow_right (by decide) hb
 exact Nat.mul_lt_mul'' (Nat.lt_of_lt_of_le h1 h3) (Nat.lt_of_lt_of_le h2 h4)
theorem dg_add {a b : Int} {k : Nat} (ha : (digs a.natAbs).length ≤ k) (hb : (digs b.natAbs).length ≤ k) : (digs (a + b).natAbs).length ≤ k + 1 := by
 refine digs_len_le ?_
 rw [Nat.pow_succ]
 have h1 := digs_len_lt a.natAbs
 have h2 := digs_len_lt b.natAbs
 have h3 : 10000 ^ (digs a.natAbs).length ≤ 10000 ^ k := Nat.pow_le_pow_right (by decide) ha
 have h4 : 10000 ^ (digs b.natAbs).length ≤ 10000 ^ k := Nat.pow_le_pow_right (by decide) hb
 have := Int.natAbs_add_le a b
 omega
theorem dg_le {a b : Int} {k : Nat} (h : a.natAbs ≤ b.natAbs) (hb : (digs b.natAbs).length ≤ k) : (digs a.natAbs).length ≤ k :=
 digs_len_le (Nat.lt_of_le_of_lt h (Nat.lt_of_lt_of_le (digs_len_lt b.natAbs) (Nat.pow_le_pow_right (by decide) hb)))
structure RFine (p q : Int) : Prop where
 low : Low p q
 len : (digs p.natAbs).length ≤ 100000
 wide : (digs q.natAbs).length ≤ 100000
theorem RFine.one {p q : Int} (h : RFine p q) : 1 ≤ q := by have := h.low.pos; omega
theorem one_rf (w : World) {x : Value} {p q : Int} (hx : RFAt w x p q) :
  ∃ (s0 t0 : Bool) (a0 b0 : Option Addr) (m0 i0 c0 j0 : Nat) (W : World), x = .agg #[.bool s0, .slice a0 m0 c0, .bool t0, .slice b0 i0 j0] ∧
   W = w.alloc (.cells #[.bool s0, .slice a0 m0 c0, .bool t0, .slice b0 i0 j0] 26) ∧ W.heap.size = w.heap.size + 1 ∧ Below w.heap.size w W ∧
   Laid W w.heap.size 26 [.bool s0, .slice a0 m0 c0, .bool t0, .slice b0 i0 j0] ∧ NAt W (.agg #[.bool s0, .slice a0 m0 c0]) p ∧ NAt W (.agg #[.bool t0, .slice b0 i0 j0]) q := by
 obtain ⟨s0, t0, a0, b0, m0, i0, c0, j0, rfl, h1, h2⟩ := hx
 have k := below_one w (.cells #[.bool s0, .slice a0 m0 c0, .bool t0, .slice b0 i0 j0] 26)
 exact ⟨s0, t0, a0, b0, m0, i0, c0, j0, _, rfl, rfl, by simp, k, Laid.new _ _ _, nat_keeps h1 k, nat_keeps h2 k⟩
theorem two_rf (w : World) {x y : Value} {p q r s : Int} (hx : RFAt w x p q) (hy : RFAt w y r s) :
  ∃ (s0 t0 : Bool) (a0 b0 : Option Addr) (m0 i0 c0 j0 : Nat) (s1 t1 : Bool) (a1 b1 : Option Addr) (m1 i1 c1 j1 : Nat) (W : World),
   x = .agg #[.bool s0, .slice a0 m0 c0, .bool t0, .slice b0 i0 j0] ∧ y = .agg #[.bool s1, .slice a1 m1 c1, .bool t1, .slice b1 i1 j1] ∧
   W = (w.alloc (.cells #[.bool s0, .slice a0 m0 c0, .bool t0, .slice b0 i0 j0] 26)).alloc (.cells #[.bool s1, .slice a1 m1 c1, .bool t1, .slice b1 i1 j1] 26) ∧
   W.heap.size = w.heap.size + 2 ∧ Below w.heap.size w W ∧ Laid W w.heap.size 26 [.bool s0, .slice a0 m0 c0, .bool t0, .slice b0 i0 j0] ∧ Laid W (w.heap.size + 1) 26 [.bool s1, .slice a1 m1 c1, .bool t1, .slice b1 i1 j1] ∧
   NAt W (.agg #[.bool s0, .slice a0 m0 c0]) p ∧ NAt W (.agg #[.bool s1, .slice a1 m1 c1]) r ∧ NAt W (.agg #[.bool t0, .slice b0 i0 j0]) q ∧ NAt W (.agg #[.bool t1, .slice b1 i1 j1]) s := by
 obtain ⟨s0, t0, a0, b0, m0, i0, c0, j0, W1, rfl, e1, z1, k1, l0, h1, h2⟩ := one_rf w hx
 obtain ⟨s1, t1, a1, b1, m1, i1, c1, j1, W2, rfl, e2, z2, k2, l1, h3, h4⟩ := one_rf W1 (rf_keeps hy k1)
 have hb := below_then k1 k2
 rw [z1] at l1
 exact ⟨s0, t0, a0, b0, m0, i0, c0, j0, s1, t1, a1, b1, m1, i1, c1, j1, W2, rfl, rfl, by rw [e2, e1], by rw [z2, z1], hb, l0.below k2, l1, nat_keeps h1 k2, h3, nat_keeps h2 k2, h4⟩
theorem rf_of {W : World} {s t : Bool} {a b : Option Addr} {m n c d : Nat} {p q : Int} (h1 : NAt W (.agg #[.bool s, .slice a m c]) p) (h2 : NAt W (.agg #[.bool t, .slice b n d]) q) : RFAt W (.agg #[.bool s, .slice a m c, .bool t, .slice b n d]) p q := ⟨s, t, a, b, m, n, c, d, rfl, h1, h2⟩
theorem mk_pos {p q : Int} (h : 0 < q) : mkN p q = p / ((Int.gcd p q : Nat) : Int) ∧ mkD p q = q / ((Int.gcd p q : Nat) : Int) := by
 unfold mkN mkD cmn
 rw [if_neg (by omega)]
 exact ⟨rfl, rfl⟩
theorem nat_sign {W : World} {s : Bool} {a : Option Addr} {m c : Nat} {n : Int} (h : NAt W (.agg #[.bool s, .slice a m c]) n) : s = decide (n < 0) := by
 obtain ⟨v, e, _⟩ := h
 injection e with e
 have e1 : Value.bool s = .bool (decide (n < 0)) := by simpa using congrArg (fun t => t[0]!) e
 injection e1
theorem two_n (w : World) {x y : Value} {p q : Int} (hx : NAt w x p) (hy : NAt w y q) :
  ∃ (s0 : Bool) (a0 : Option Addr) (m0 c0 : Nat) (s1 : Bool) (a1 : Option Addr) (m1 c1 : Nat) (W : World), x = .agg #[.bool s0, .slice a0 m0 c0] ∧ y = .agg #[.bool s1, .slice a1 m1 c1] ∧
   W = ((w.alloc (.cells #[.bool s0, .slice a0 m0 c0] 24)).alloc (.cells #[.bool s1, .slice a1 m1 c1] 24)).alloc (.cells #[.bool false, .slice none 0 0, .bool false, .slice none 0 0] 26) ∧
   Below w.heap.size w W ∧ NBox W w.heap.size p ∧ NBox W (w.heap.size + 1) q ∧ Laid W (w.heap.size + 2) 26 [.bool false, .slice none 0 0, .bool false, .slice none 0 0] := by
 obtain ⟨s0, a0, m0, c0, rfl⟩ := nat_shape hx
 obtain ⟨s1, a1, m1, c1, rfl⟩ := nat_shape hy
 refine ⟨s0, a0, m0, c0, s1, a1, m1, c1, _, rfl, rfl, rfl, ?_⟩
 obtain ⟨W1, e1⟩ : ∃ W1, W1 = w.alloc (.cells #[.bool s0, .slice a0 m0 c0] 24) := ⟨_, rfl⟩
 obtain ⟨W2, e2⟩ : ∃ W2, W2 = W1.alloc (.cells #[.bool s1, .slice a1 m1 c1] 24) := ⟨_, rfl⟩
 obtain ⟨W3, e3⟩ : ∃ W3, W3 = W2.alloc (.cells #[.bool false, .slice none 0 0, .bool false, .slice none 0 0] 26) := ⟨_, rfl⟩
 rw [← e1, ← e2, ← e3]
 have z1 : W1.heap.size = w.heap.size + 1 := by rw [e1]; simp
 have z2 : W2.heap.size = w.heap.size + 2 := by rw [e2]; simp [z1]
 have k1 : Below w.heap.size w W1 := by rw [e1]; exact below_one _ _
 have k2 : Below W1.heap.size W1 W2 := by rw [e2]; exact below_one _ _
 have k3 : Below W2.heap.size W2 W3 := by rw [e3]; exact below_one _ _
 have n0 : NBox W1 w.heap.size p := by rw [e1]; exact NBox.new hx
 have n1 : NBox W2 W1.heap.size q := by rw [e2]; exact NBox.new (nat_keeps hy k1)
 have l2 : Laid W3 W2.heap.size 26 [.bool false, .slice none 0 0, .bool false, .slice none 0 0] := by rw [e3]; exact Laid.new _ _ _
 rw [z1] at n1
 rw [z2] at l2
 exact ⟨below_then (below_then k1 k2) k3, (n0.below k2).below k3, n1.below k3, l2⟩
set_option maxHeartbeats 8000000 in
theorem rMake_any (x y : Value) (p q : Int) (w : World) (hx : NAt w x p) (hy : NAt w y q) (hp : (digs p.natAbs).length ≤ 400000) (hq : (digs q.natAbs).length ≤ 400000) :
  Calls Tryz.prog 38 #[x, y] w (RREnd (rMake p q) w) := by
 obtain ⟨s0, a0, m0, c0, s1, a1, m1, c1, w3, rfl, rfl, hw3, hb3, n0, n1, l2⟩ := two_n w hx hy
 have HB := Lib.hid hb3
 have HL2 := Lib.hid l2
 have Tp := Lib.hid n0
 have Tq := Lib.hid n1
 have HP := Lib.hid hp
 have HQ := Lib.hid hq
 have HN0 := Lib.hid (nat_keeps hx hb3)
 have HN1 := Lib.hid (nat_keeps hy hb3)
 clear hx hy hb3 n0 n1 l2 hp hq
 unfold RREnd
 rcases Classical.em (q = 0) with h0 | h0
 ·have HRR : Hid (rMake p q = (1, 0, 1)) := Lib.hid (by unfold rMake; rw [if_pos h0])
  obtain rfl : m1 = 0 := zero_len HN1.out h0
  have OF : Hid (∀ X, Calls Tryz.prog 18 #[.int .i64 0] X (RFEnd 0 1 X)) := Lib.hid (fun X => rOf_any 0 X (by decide))
  unfold RFEnd at OF
  clear h0 HP HQ Tp Tq HN0 HN1
  go_enter Tryz.func38, Tryz.ntmps38
  go_wp2_with fail
  rw [← hw3]
  clear hw3
  go_must (refine (OF.out _).mono ?_)
  rintro e w6 ⟨v6, rfl, hx6, hb6⟩
  obtain ⟨sv, tv, av, dv, mv, iv, cv, jv, rfl⟩ := rf_shape hx6
  have hK := Lib.hid hx6
  have hl6 := HL2.out.below hb6
  obtain ⟨⟨r0, r1, r2, r3⟩, r4, r5, r6, r7⟩ := cellsF hl6
  have HE := Lib.hid (below_set4 (p := w.heap.size + 2) (u0 := .bool sv) (u1 := .slice av mv cv) (u2 := .bool tv) (u3 := .slice dv iv jv) (below_then HB.out hb6) (by omega))
  have HFE := Lib.hid (rf_store (rf_parts hx6).1 (rf_parts hx6).2 hl6)
  clear OF hx6 hb6 hl6
  go_wp2_with fail
  refine bodyPost_ret (v := .tuple #[.agg #[.bool sv, .slice av mv cv, .bool tv, .slice dv iv jv], .int .i64 1]) (by simp [results, Tryz.results38, go_sem, r0, r1, r2, r3]) rfl ?_
  rw [HRR.out]
  exact ⟨_, rfl, ⟨_, rfl, HFE.out⟩, HE.out⟩
 rcases (by omega : 0 < q ∨ q < 0) with hs | hs
 ·have HRR : Hid (rMake p q = (0, p / ((Int.gcd p q : Nat) : Int), q / ((Int.gcd p q : Nat) : Int))) := Lib.hid (by unfold rMake; rw [if_neg h0, (mk_pos hs).1, (mk_pos hs).2])
  have hgp := Int.gcd_pos_of_ne_zero_right (p) (show q ≠ 0 by omega)
  have HG0 : Hid (((Int.gcd (p) (q) : Nat) : Int) ≠ 0) := Lib.hid (by omega)
  have HG : Hid ((digs ((Int.gcd (p) (q) : Nat) : Int).natAbs).length ≤ 400000) := Lib.hid (by rw [Int.natAbs_natCast]; exact dg_le (a := ((Int.gcd (p) (q) : Nat) : Int)) (b := q) (by rw [Int.natAbs_natCast]; exact Int.gcd_le_natAbs_right (p) (by omega)) (by simpa using HQ.out))
  clear hgp
  have hm : ¬ m1 = 0 := len_pos HN1.out h0
  obtain rfl : s1 = false := by rw [nat_sign HN1.out]; simp; omega
  go_enter Tryz.func38, Tryz.ntmps38
  go_wp2_with fail
  rw [← hw3]
  clear hw3 hm
  have hpg := HN0
  have hqg := HN1
  clear HN0 HN1
  have C := (nGcd_any _ _ (p) (q) w3 hpg.out hqg.out (by simpa using HP.out) (by simpa using HQ.out)).mono (fun _ _ => v_n)
  unfold VEnd at C
  have HC := Lib.hid C
  clear C
  go_must (refine HC.out.mono ?_)
  rintro e w21 ⟨v5, rfl, hx5, hb5⟩
  obtain ⟨srg, arg, mrg, crg, rfl⟩ := nat_shape hx5
  clear HC
  have hbb := below_then hb5 (below_one w21 (.cells #[.bool srg, .slice arg mrg crg] 24))
  replace Tp := Lib.hid (Tp.out.below hbb)
  replace Tq := Lib.hid (Tq.out.below hbb)
  replace HB := Lib.hid (below_then HB.out hbb)
  replace HL2 := Lib.hid (HL2.out.below hbb)
  have Tg := Lib.hid (NBox.new hx5)
  clear hx5 hb5 hbb
  clear hpg hqg
  obtain ⟨sp_1, ap_1, mp_1, cp_1, ⟨cp_10, cp_11⟩, _, hp_1, _⟩ := Tp.out.open
  obtain ⟨sg_1, ag_1, mg_1, cg_1, ⟨cg_10, cg_11⟩, _, hg_1, _⟩ := Tg.out.open
  go_wp2_with fail
  have HSZY1 := Lib.hid (size_alloc1 w21 (.cells #[.bool srg, .slice arg mrg crg] 24))
  generalize w21.alloc (.cells #[.bool srg, .slice arg mrg crg] 24) = Y1 at *
  generalize w21.heap.size = tg at *
  have C := nDiv_any _ _ (p) ((Int.gcd (p) (q) : Nat) : Int) Y1 hp_1 hg_1 (by simpa using HP.out) HG.out HG0.out
  unfold NDivEnd at C
  have HC := Lib.hid C
  clear C
  clear cp_10 cp_11 hp_1
  clear cg_10 cg_11 hg_1
  go_must (refine HC.out.mono ?_)
  rintro e w22 ⟨v5, u5, rfl, hx5, hx6, hb5⟩
  obtain ⟨sra, ara, mra, cra, rfl⟩ := nat_shape hx5
  obtain ⟨srb, arb, mrb, crb, rfl⟩ := nat_shape hx6
  clear HC
  have hbb := below_then hb5 (below_then (below_one w22 (.cells #[.bool sra, .slice ara mra cra] 24)) (below_one _ (.cells #[.bool srb, .slice arb mrb crb] 24)))
  replace Tp := Lib.hid (Tp.out.below hbb)
  replace Tq := Lib.hid (Tq.out.below hbb)
  replace Tg := Lib.hid (Tg.out.below hbb)
  replace HB := Lib.hid (below_then HB.out hbb)
  replace HL2 := Lib.hid (HL2.out.below hbb)
  have Ta := Lib.hid ((NBox.new hx5).below (below_one _ (.cells #[.bool srb, .slice arb mrb crb] 24)))
  have Tb := Lib.hid (NBox.new (nat_keeps hx6 (below_one w22 (.cells #[.bool sra, .slice ara mra cra] 24))))
  rw [size_alloc1] at Tb
  clear hx5 hx6 hb5 hbb
  clear Tp
  obtain ⟨sq_2, aq_2, mq_2, cq_2, ⟨cq_20, cq_21⟩, _, hq_2, _⟩ := Tq.out.open
  obtain ⟨sg_2, ag_2, mg_2, cg_2, ⟨cg_20, cg_21⟩, _, hg_2, _⟩ := Tg.out.open
  go_wp2_with fail
  generalize (w22.alloc (.cells #[.bool sra, .slice ara mra cra] 24)).alloc (.cells #[.bool srb, .slice arb mrb crb] 24) = Y2 at *
  generalize w22.heap.size = ta at *
  have C := nDiv_any _ _ (q) ((Int.gcd (p) (q) : Nat) : Int) Y2 hq_2 hg_2 (by simpa using HQ.out) HG.out HG0.out
  unfold NDivEnd at C
  have HC := Lib.hid C
  clear C
  clear cq_20 cq_21 hq_2
  clear cg_20 cg_21 hg_2
  go_must (refine HC.out.mono ?_)
  rintro e w23 ⟨v5, u5, rfl, hx5, hx6, hb5⟩
  obtain ⟨srd, ard, mrd, crd, rfl⟩ := nat_shape hx5
  obtain ⟨sre, are, mre, cre, rfl⟩ := nat_shape hx6
  clear HC
  have hbb := below_then hb5 (below_then (below_one w23 (.cells #[.bool srd, .slice ard mrd crd] 24)) (below_one _ (.cells #[.bool sre, .slice are mre cre] 24)))
  replace Tq := Lib.hid (Tq.out.below hbb)
  replace Tg := Lib.hid (Tg.out.below hbb)
  replace Ta := Lib.hid (Ta.out.below hbb)
  replace Tb := Lib.hid (Tb.out.below hbb)
  replace HB := Lib.hid (below_then HB.out hbb)
  replace HL2 := Lib.hid (HL2.out.below hbb)
  have Td := Lib.hid ((NBox.new hx5).below (below_one _ (.cells #[.bool sre, .slice are mre cre] 24)))
  have Te := Lib.hid (NBox.new (nat_keeps hx6 (below_one w23 (.cells #[.bool srd, .slice ard mrd crd] 24))))
  rw [size_alloc1] at Te
  clear hx5 hx6 hb5 hbb
  clear Tq
  clear Tg
  clear Tb
  obtain ⟨saE, aaE, maE, caE, ⟨caE0, caE1⟩, _, haE, _⟩ := Ta.out.open
  obtain ⟨sdE, adE, mdE, cdE, ⟨cdE0, cdE1⟩, _, hdE, _⟩ := Td.out.open
  obtain ⟨⟨r0, r1, r2, r3⟩, r4, r5, r6, r7⟩ := cellsF HL2.out
  have HA := Lib.hid haE
  have HD := Lib.hid hdE
  clear haE hdE
  go_wp2_with fail
  generalize (w23.alloc (.cells #[.bool srd, .slice ard mrd crd] 24)).alloc (.cells #[.bool sre, .slice are mre cre] 24) = Y3 at *
  generalize w23.heap.size = td at *
  have HE := Lib.hid (below_set4 (p := w.heap.size + 2) (u0 := .bool saE) (u1 := .slice aaE maE caE) (u2 := .bool sdE) (u3 := .slice adE mdE cdE) HB.out (by omega))
  have HFE := Lib.hid (rf_store HA.out HD.out HL2.out)
  refine bodyPost_ret (v := .tuple #[.agg #[.bool saE, .slice aaE maE caE, .bool sdE, .slice adE mdE cdE], .int .i64 0]) (by simp [results, Tryz.results38, go_sem, r0, r1, r2, r3]) rfl ?_
  rw [HRR.out]
  exact ⟨_, rfl, ⟨_, rfl, HFE.out⟩, HE.out⟩
 ·have HRR : Hid (rMake p q = (0, (-p) / ((Int.gcd (-p) (-q) : Nat) : Int), (-q) / ((Int.gcd (-p) (-q) : Nat) : Int))) := Lib.hid (by unfold rMake; rw [if_neg h0, ← (mk_neg h0).1, ← (mk_neg h0).2, (mk_pos (show 0 < -q by omega)).1, (mk_pos (show 0 < -q by omega)).2])
  have hgp := Int.gcd_pos_of_ne_zero_right ((-p)) (show (-q) ≠ 0 by omega)
  have HG0 : Hid (((Int.gcd ((-p)) ((-q)) : Nat) : Int) ≠ 0) := Lib.hid (by omega)
  have HG : Hid ((digs ((Int.gcd ((-p)) ((-q)) : Nat) : Int).natAbs).length ≤ 400000) := Lib.hid (by rw [Int.natAbs_natCast]; exact dg_le (a := ((Int.gcd ((-p)) ((-q)) : Nat) : Int)) (b := (-q)) (by rw [Int.natAbs_natCast]; exact Int.gcd_le_natAbs_right ((-p)) (by omega)) (by simpa using HQ.out))
  clear hgp
  have hm : ¬ m1 = 0 := len_pos HN1.out h0
  obtain rfl : s1 = true := by rw [nat_sign HN1.out]; simp; omega
  go_enter Tryz.func38, Tryz.ntmps38
  go_wp2_with fail
  rw [← hw3]
  clear hw3 hm
  have C := (neg_any _ p w3 HN0.out (by have := HP.out; omega)).mono (fun _ _ => v_n)
  unfold VEnd at C
  have HC := Lib.hid C
  clear C
  go_must (refine HC.out.mono ?_)
  rintro e w21 ⟨v5, rfl, hx5, hb5⟩
  obtain ⟨srp, arp, mrp, crp, rfl⟩ := nat_shape hx5
  clear HC
  replace Tp := Lib.hid (Tp.out.below hb5)
  replace Tq := Lib.hid (Tq.out.below hb5)
  replace HB := Lib.hid (below_then HB.out hb5)
  replace HL2 := Lib.hid (HL2.out.below hb5)
  obtain ⟨so, ao, mo, co, lo, _⟩ := id Tp.out
  obtain ⟨co0, co1, co2, co3⟩ := cells2 lo
  clear lo
  go_upto_region 5 with (fail)
  replace Tq := Lib.hid (Tp.out.other (s := srp) (a := arp) (m := mrp) (c := crp) Tq.out (Nat.succ_ne_self _))
  replace HB := Lib.hid (below_set2 (p := w.heap.size) (u := .bool srp) (v := .slice arp mrp crp) HB.out (Nat.le_refl _))
  replace HL2 := Lib.hid (HL2.out.keeps ((keeps_set _ w.heap.size 0 (.bool srp)).trans (keeps_set _ w.heap.size 1 (.slice arp mrp crp))) (by omega))
  replace Tp := Lib.hid (Tp.out.store hx5)
  clear hx5 hb5 co0 co1 co2 co3
  generalize (w21.setCell ⟨w.heap.size, 0, none⟩ (.bool srp)).setCell ⟨w.heap.size, 1, none⟩ (.slice arp mrp crp) = Y1 at *
  clear HN0 HN1
  obtain ⟨sq_m, aq_m, mq_m, cq_m, ⟨cq_m0, cq_m1⟩, _, hq_m, _⟩ := Tq.out.open
  have hqn := Lib.hid hq_m
  go_wp2_with fail
  clear cq_m0 cq_m1 hq_m
  have C := (neg_any _ q Y1 hqn.out (by have := HQ.out; omega)).mono (fun _ _ => v_n)
  unfold VEnd at C
  have HC := Lib.hid C
  clear C
  go_must (refine HC.out.mono ?_)
  rintro e w22 ⟨v5, rfl, hx5, hb5⟩
  obtain ⟨srq, arq, mrq, crq, rfl⟩ := nat_shape hx5
  clear HC
  replace Tp := Lib.hid (Tp.out.below hb5)
  replace Tq := Lib.hid (Tq.out.below hb5)
  replace HB := Lib.hid (below_then HB.out hb5)
  replace HL2 := Lib.hid (HL2.out.below hb5)
  obtain ⟨so, ao, mo, co, lo, _⟩ := id Tq.out
  obtain ⟨co0, co1, co2, co3⟩ := cells2 lo
  clear lo
  go_upto_region 6 with (fail)
  replace Tp := Lib.hid (Tq.out.other (s := srq) (a := arq) (m := mrq) (c := crq) Tp.out (Nat.succ_ne_self _).symm)
  replace HB := Lib.hid (below_set2 (p := (w.heap.size + 1)) (u := .bool srq) (v := .slice arq mrq crq) HB.out (by omega))
  replace HL2 := Lib.hid (HL2.out.keeps ((keeps_set _ (w.heap.size + 1) 0 (.bool srq)).trans (keeps_set _ (w.heap.size + 1) 1 (.slice arq mrq crq))) (by omega))
  replace Tq := Lib.hid (Tq.out.store hx5)
  clear hx5 hb5 co0 co1 co2 co3
  generalize (w22.setCell ⟨(w.heap.size + 1), 0, none⟩ (.bool srq)).setCell ⟨(w.heap.size + 1), 1, none⟩ (.slice arq mrq crq) = Y2 at *
  clear hqn
  obtain ⟨sp_g, ap_g, mp_g, cp_g, ⟨cp_g0, cp_g1⟩, _, hp_g, _⟩ := Tp.out.open
  obtain ⟨sq_g, aq_g, mq_g, cq_g, ⟨cq_g0, cq_g1⟩, _, hq_g, _⟩ := Tq.out.open
  go_wp2_with fail
  have hpg := Lib.hid hp_g
  have hqg := Lib.hid hq_g
  clear hp_g hq_g cp_g0 cp_g1 cq_g0 cq_g1
  have C := (nGcd_any _ _ (-p) (-q) Y2 hpg.out hqg.out (by simpa using HP.out) (by simpa using HQ.out)).mono (fun _ _ => v_n)
  unfold VEnd at C
  have HC := Lib.hid C
  clear C
  go_must (refine HC.out.mono ?_)
  rintro e w23 ⟨v5, rfl, hx5, hb5⟩
  obtain ⟨srg, arg, mrg, crg, rfl⟩ := nat_shape hx5
  clear HC
  have hbb := below_then hb5 (below_one w23 (.cells #[.bool srg, .slice arg mrg crg] 24))
  replace Tp := Lib.hid (Tp.out.below hbb)
  replace Tq := Lib.hid (Tq.out.below hbb)
  replace HB := Lib.hid (below_then HB.out hbb)
  replace HL2 := Lib.hid (HL2.out.below hbb)
  have Tg := Lib.hid (NBox.new hx5)
  clear hx5 hb5 hbb
  clear hpg hqg
  obtain ⟨sp_3, ap_3, mp_3, cp_3, ⟨cp_30, cp_31⟩, _, hp_3, _⟩ := Tp.out.open
  obtain ⟨sg_3, ag_3, mg_3, cg_3, ⟨cg_30, cg_31⟩, _, hg_3, _⟩ := Tg.out.open
  go_wp2_with fail
  have HSZY3 := Lib.hid (size_alloc1 w23 (.cells #[.bool srg, .slice arg mrg crg] 24))
  generalize w23.alloc (.cells #[.bool srg, .slice arg mrg crg] 24) = Y3 at *
  generalize w23.heap.size = tg at *
  have C := nDiv_any _ _ (-p) ((Int.gcd (-p) (-q) : Nat) : Int) Y3 hp_3 hg_3 (by simpa using HP.out) HG.out HG0.out
  unfold NDivEnd at C
  have HC := Lib.hid C
  clear C
  clear cp_30 cp_31 hp_3
  clear cg_30 cg_31 hg_3
  go_must (refine HC.out.mono ?_)
  rintro e w24 ⟨v5, u5, rfl, hx5, hx6, hb5⟩
  obtain ⟨sra, ara, mra, cra, rfl⟩ := nat_shape hx5
  obtain ⟨srb, arb, mrb, crb, rfl⟩ := nat_shape hx6
  clear HC
  have hbb := below_then hb5 (below_then (below_one w24 (.cells #[.bool sra, .slice ara mra cra] 24)) (below_one _ (.cells #[.bool srb, .slice arb mrb crb] 24)))
  replace Tp := Lib.hid (Tp.out.below hbb)
  replace Tq := Lib.hid (Tq.out.below hbb)
  replace Tg := Lib.hid (Tg.out.below hbb)
  replace HB := Lib.hid (below_then HB.out hbb)
  replace HL2 := Lib.hid (HL2.out.below hbb)
  have Ta := Lib.hid ((NBox.new hx5).below (below_one _ (.cells #[.bool srb, .slice arb mrb crb] 24)))
  have Tb := Lib.hid (NBox.new (nat_keeps hx6 (below_one w24 (.cells #[.bool sra, .slice ara mra cra] 24))))
  rw [size_alloc1] at Tb
  clear hx5 hx6 hb5 hbb
  clear Tp
  obtain ⟨sq_4, aq_4, mq_4, cq_4, ⟨cq_40, cq_41⟩, _, hq_4, _⟩ := Tq.out.open
  obtain ⟨sg_4, ag_4, mg_4, cg_4, ⟨cg_40, cg_41⟩, _, hg_4, _⟩ := Tg.out.open
  go_wp2_with fail
  generalize (w24.alloc (.cells #[.bool sra, .slice ara mra cra] 24)).alloc (.cells #[.bool srb, .slice arb mrb crb] 24) = Y4 at *
  generalize w24.heap.size = ta at *
  have C := nDiv_any _ _ (-q) ((Int.gcd (-p) (-q) : Nat) : Int) Y4 hq_4 hg_4 (by simpa using HQ.out) HG.out HG0.out
  unfold NDivEnd at C
  have HC := Lib.hid C
  clear C
  clear cq_40 cq_41 hq_4
  clear cg_40 cg_41 hg_4
  go_must (refine HC.out.mono ?_)
  rintro e w25 ⟨v5, u5, rfl, hx5, hx6, hb5⟩
  obtain ⟨srd, ard, mrd, crd, rfl⟩ := nat_shape hx5
  obtain ⟨sre, are, mre, cre, rfl⟩ := nat_shape hx6
  clear HC
  have hbb := below_then hb5 (below_then (below_one w25 (.cells #[.bool srd, .slice ard mrd crd] 24)) (below_one _ (.cells #[.bool sre, .slice are mre cre] 24)))
  replace Tq := Lib.hid (Tq.out.below hbb)
  replace Tg := Lib.hid (Tg.out.below hbb)
  replace Ta := Lib.hid (Ta.out.below hbb)
  replace Tb := Lib.hid (Tb.out.below hbb)
  replace HB := Lib.hid (below_then HB.out hbb)
  replace HL2 := Lib.hid (HL2.out.below hbb)
  have Td := Lib.hid ((NBox.new hx5).below (below_one _ (.cells #[.bool sre, .slice are mre cre] 24)))
  have Te := Lib.hid (NBox.new (nat_keeps hx6 (below_one w25 (.cells #[.bool srd, .slice ard mrd crd] 24))))
  rw [size_alloc1] at Te
  clear hx5 hx6 hb5 hbb
  clear Tq
  clear Tg
  clear Tb
  obtain ⟨saE, aaE, maE, caE, ⟨caE0, caE1⟩, _, haE, _⟩ := Ta.out.open
  obtain ⟨sdE, adE, mdE, cdE, ⟨cdE0, cdE1⟩, _, hdE, _⟩ := Td.out.open
  obtain ⟨⟨r0, r1, r2, r3⟩, r4, r5, r6, r7⟩ := cellsF HL2.out
  have HA := Lib.hid haE
  have HD := Lib.hid hdE
  clear haE hdE
  go_wp2_with fail
  generalize (w25.alloc (.cells #[.bool srd, .slice ard mrd crd] 24)).alloc (.cells #[.bool sre, .slice are mre cre] 24) = Y5 at *
  generalize w25.heap.size = td at *
  have HE := Lib.hid (below_set4 (p := w.heap.size + 2) (u0 := .bool saE) (u1 := .slice aaE maE caE) (u2 := .bool sdE) (u3 := .slice adE mdE cdE) HB.out (by omega))
  have HFE := Lib.hid (rf_store HA.out HD.out HL2.out)
  refine bodyPost_ret (v := .tuple #[.agg #[.bool saE, .slice aaE maE caE, .bool sdE, .slice adE mdE cdE], .int .i64 0]) (by simp [results, Tryz.results38, go_sem, r0, r1, r2, r3]) rfl ?_
  rw [HRR.out]
  exact ⟨_, rfl, ⟨_, rfl, HFE.out⟩, HE.out⟩
theorem txt_dg {n : Int} {L : Nat} (h : (digs n.natAbs).length ≤ L) (h0 : 1 ≤ L) : (txtS n).size ≤ 4 * L + 1 := by
 have h1 := digs_len_lt n.natAbs
 have h2 : 10000 ^ (digs n.natAbs).length ≤ 10000 ^ L := Nat.pow_le_pow_right (by decide) h
 have h3 : 10000 ^ L = 10 ^ (4 * L) := by rw [Nat.pow_mul]
 have h4 := txtN_len (n := n) (k := 4 * L) (by omega) (by omega)
 rw [← strB_txt, strB_length] at h4
 exact h4
end Go.Proofs.YtajehlgclnocoaaGreatDoor
