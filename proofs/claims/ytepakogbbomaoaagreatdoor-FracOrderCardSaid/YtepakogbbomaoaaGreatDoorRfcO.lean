/-
 The reference of package frac: Neg, Make, ranged, Mul, Div, Compare. (tools/genRfa.py makes this text.) The reference of package frac: Mul, Div, Compare, Sign, Text. (tools/genRfb.py makes this text.) The reference of package frac: Text, Pick, Number, Frac. (tools/genRfd.py makes this text.)
-/
import Derived.Test.YtepakogbbomaoaaGreatDoorFcCO
import Derived.Test.YtepakogbbomaoaaGreatDoorDvgO
import Derived.Test.YtepakogbbomaoaaGreatDoorDvrO
import Derived.Test.YtepakogbbomaoaaGreatDoorFcAO
import Derived.Deep.DeepCutAuto
namespace Go.Proofs.YtepakogbbomaoaaGreatDoor
open Go.RowKit Go.Shelf
set_option linter.unusedVariables false
set_option maxRecDepth 100000
theorem dg_mul {a b : Int} {k : Nat} (ha : (digs a.natAbs).length ≤ k) (hb : (digs b.natAbs).length ≤ k) : (digs (a * b).natAbs).length ≤ k + k := by
 rw [Int.natAbs_mul]
 refine digs_len_le ?_
 rw [Nat.pow_add]
 have h1 := digs_len_lt a.natAbs
 have h2 := digs_len_lt b.natAbs
 have h3 : 10000 ^ (digs a.natAbs).length ≤ 10000 ^ k := Nat.pow_le_pow_right (by decide) ha
 have h4 : 10000 ^ (digs b.natAbs).length ≤ 10000 ^ k := Nat.pow_le_pow_right (by decide) hb
 exact Nat.mul_lt_mul'' (Nat.lt_of_lt_of_le h1 h3) (Nat.lt_of_lt_of_le h2 h4)
theorem dg_le {a b : Int} {k : Nat} (h : a.natAbs ≤ b.natAbs) (hb : (digs b.natAbs).length ≤ k) : (digs a.natAbs).length ≤ k :=
 digs_len_le (Nat.lt_of_le_of_lt h (Nat.lt_of_lt_of_le (digs_len_lt b.natAbs) (Nat.pow_le_pow_right (by decide) hb)))
structure RFine (p q : Int) : Prop where
 low : Low p q
 len : (digs p.natAbs).length ≤ 100000
 wide : (digs q.natAbs).length ≤ 100000
theorem one_rf (w : World) {x : Value} {p q : Int} (hx : RFAt w x p q) :
  ∃ (s0 t0 : Bool) (a0 b0 : Option Addr) (m0 i0 c0 j0 : Nat) (W : World), x = .agg #[.bool s0, .slice a0 m0 c0, .bool t0, .slice b0 i0 j0] ∧
   W = w.alloc (.cells #[.bool s0, .slice a0 m0 c0, .bool t0, .slice b0 i0 j0] 26) ∧ W.heap.size = w.heap.size + 1 ∧ Below w.heap.size w W ∧
   Laid W w.heap.size 26 [.bool s0, .slice a0 m0 c0, .bool t0, .slice b0 i0 j0] ∧ NAt W (.agg #[.bool s0, .slice a0 m0 c0]) p ∧ NAt W (.agg #[.bool t0, .slice b0 i0 j0]) q := by
 obtain ⟨s0, t0, a0, b0, m0, i0, c0, j0, rfl, h1, h2⟩ := hx
 have k := below_one w (.cells #[.bool s0, .slice a0 m0 c0, .bool t0, .slice b0 i0 j0] 26)
 exact ⟨s0, t0, a0, b0, m0, i0, c0, j0, _, rfl, rfl, by simp, k, Laid.new _ _ _, nat_keeps h1 k, nat_keeps h2 k⟩
theorem two_rf (w : World) {x y : Value} {p q r s : Int} (hx : RFAt w x p q) (hy : RFAt w y r s) :
  ∃ (s0 t0 : Bool) (a0 b0 : Option Addr) (m0 i0 c0 j0 : Nat) (s1 t1 : Bool) (a1 b1 : Option Addr) (m1 i1 c1 j1 : Nat) (W : World),
   x = .agg #[.bool s0, .slice a0 m0 c0, .bool t0, .slice b0 i0 j0] ∧ y = .agg #[.bool s1, .slice a1 m1 c1, .bool t1, .slice b1 i1 j1] ∧
   W = (w.alloc (.cells #[.bool s0, .slice a0 m0 c0, .bool t0, .slice b0 i0 j0] 26)).alloc (.cells #[.bool s1, .slice a1 m1 c1, .bool t1, .slice b1 i1 j1] 26) ∧
   W.heap.size = w.heap.size + 2 ∧ Below w.heap.size w W ∧ Laid W w.heap.size 26 [.bool s0, .slice a0 m0 c0, .bool t0, .slice b0 i0 j0] ∧ Laid W (w.heap.size + 1) 26 [.bool s1, .slice a1 m1 c1, .bool t1, .slice b1 i1 j1] ∧
   NAt W (.agg #[.bool s0, .slice a0 m0 c0]) p ∧ NAt W (.agg #[.bool s1, .slice a1 m1 c1]) r ∧ NAt W (.agg #[.bool t0, .slice b0 i0 j0]) q ∧ NAt W (.agg #[.bool t1, .slice b1 i1 j1]) s := by
 obtain ⟨s0, t0, a0, b0, m0, i0, c0, j0, W1, rfl, e1, z1, k1, l0, h1, h2⟩ := one_rf w hx
 obtain ⟨s1, t1, a1, b1, m1, i1, c1, j1, W2, rfl, e2, z2, k2, l1, h3, h4⟩ := one_rf W1 (rf_keeps hy k1)
 have hb := below_then k1 k2
 rw [z1] at l1
 exact ⟨s0, t0, a0, b0, m0, i0, c0, j0, s1, t1, a1, b1, m1, i1, c1, j1, W2, rfl, rfl, by rw [e2, e1], by rw [z2, z1], hb, l0.below k2, l1, nat_keeps h1 k2, h3, nat_keeps h2 k2, h4⟩
theorem mk_pos {p q : Int} (h : 0 < q) : mkN p q = p / ((Int.gcd p q : Nat) : Int) ∧ mkD p q = q / ((Int.gcd p q : Nat) : Int) := by
 unfold mkN mkD cmn
 rw [if_neg (by omega)]
 exact ⟨rfl, rfl⟩
theorem nat_sign {W : World} {s : Bool} {a : Option Addr} {m c : Nat} {n : Int} (h : NAt W (.agg #[.bool s, .slice a m c]) n) : s = decide (n < 0) := by
 obtain ⟨v, e, _⟩ := h
 injection e with e
 have e1 : Value.bool s = .bool (decide (n < 0)) := by simpa using congrArg (fun t => t[0]!) e
 injection e1
theorem two_n (w : World) {x y : Value} {p q : Int} (hx : NAt w x p) (hy : NAt w y q) :
  ∃ (s0 : Bool) (a0 : Option Addr) (m0 c0 : Nat) (s1 : Bool) (a1 : Option Addr) (m1 c1 : Nat) (W : World), x = .agg #[.bool s0, .slice a0 m0 c0] ∧ y = .agg #[.bool s1, .slice a1 m1 c1] ∧
   W = ((w.alloc (.cells #[.bool s0, .slice a0 m0 c0] 24)).alloc (.cells #[.bool s1, .slice a1 m1 c1] 24)).alloc (.cells #[.bool false, .slice none 0 0, .bool false, .slice none 0 0] 26) ∧
   Below w.heap.size w W ∧ NBox W w.heap.size p ∧ NBox W (w.heap.size + 1) q ∧ Laid W (w.heap.size + 2) 26 [.bool false, .slice none 0 0, .bool false, .slice none 0 0] := by
 obtain ⟨s0, a0, m0, c0, rfl⟩ := nat_shape hx
 obtain ⟨s1, a1, m1, c1, rfl⟩ := nat_shape hy
 refine ⟨s0, a0, m0, c0, s1, a1, m1, c1, _, rfl, rfl, rfl, ?_⟩
 obtain ⟨W1, e1⟩ : ∃ W1, W1 = w.alloc (.cells #[.bool s0, .slice a0 m0 c0] 24) := ⟨_, rfl⟩
 obtain ⟨W2, e2⟩ : ∃ W2, W2 = W1.alloc (.cells #[.bool s1, .slice a1 m1 c1] 24) := ⟨_, rfl⟩
 obtain ⟨W3, e3⟩ : ∃ W3, W3 = W2.alloc (.cells #[.bool false, .slice none 0 0, .bool false, .slice none 0 0] 26) := ⟨_, rfl⟩
 rw [← e1, ← e2, ← e3]
 have z1 : W1.heap.size = w.heap.size + 1 := by rw [e1]; simp
 have z2 : W2.heap.size = w.heap.size + 2 := by rw [e2]; simp [z1]
 have k1 : Below w.heap.size w W1 := by rw [e1]; exact below_one _ _
 have k2 : Below W1.heap.size W1 W2 := by rw [e2]; exact below_one _ _
 have k3 : Below W2.heap.size W2 W3 := by rw [e3]; exact below_one _ _
 have n0 : NBox W1 w.heap.size p := by rw [e1]; exact NBox.new hx
 have n1 : NBox W2 W1.heap.size q := by rw [e2]; exact NBox.new (nat_keeps hy k1)
 have l2 : Laid W3 W2.heap.size 26 [.bool false, .slice none 0 0, .bool false, .slice none 0 0] := by rw [e3]; exact Laid.new _ _ _
 rw [z1] at n1
 rw [z2] at l2
 exact ⟨below_then (below_then k1 k2) k3, (n0.below k2).below k3, n1.below k3, l2⟩
set_option maxHeartbeats 8000000 in
theorem rMake_any (x y : Value) (p q : Int) (w : World) (hx : NAt w x p) (hy : NAt w y q) (hp : (digs p.natAbs).length ≤ 400000) (hq : (digs q.natAbs).length ≤ 400000) :
  Calls Tryz.prog 31 #[x, y] w (RREnd (rMake p q) w) := by
 obtain ⟨s0, a0, m0, c0, s1, a1, m1, c1, w3, rfl, rfl, hw3, hb3, n0, n1, l2⟩ := two_n w hx hy
 have HB := Lib.hid hb3
 have HL2 := Lib.hid l2
 have Tp := Lib.hid n0
 have Tq := Lib.hid n1
 have HP := Lib.hid hp
 have HQ := Lib.hid hq
 have HN0 := Lib.hid (nat_keeps hx hb3)
 have HN1 := Lib.hid (nat_keeps hy hb3)
 clear hx hy hb3 n0 n1 l2 hp hq
 unfold RREnd
 rcases Classical.em (q = 0) with h0 | h0
 ·have HRR : Hid (rMake p q = (1, 0, 1)) := Lib.hid (by unfold rMake; rw [if_pos h0])
  obtain rfl : m1 = 0 := zero_len HN1.out h0
  have OF : Hid (∀ X, Calls Tryz.prog 69 #[.int .i64 0] X (RFEnd 0 1 X)) := Lib.hid (fun X => rOf_any 0 X (by decide))
  unfold RFEnd at OF
  clear h0 HP HQ Tp Tq HN0 HN1
  go_enter Tryz.func31, Tryz.ntmps31
  go_wp2_with fail
  rw [← hw3]
  clear hw3
  go_must (refine (OF.out _).mono ?_)
  rintro e w6 ⟨v6, rfl, hx6, hb6⟩
  obtain ⟨sv, tv, av, dv, mv, iv, cv, jv, rfl⟩ := rf_shape hx6
  have hK := Lib.hid hx6
  have hl6 := HL2.out.below hb6
  obtain ⟨⟨r0, r1, r2, r3⟩, r4, r5, r6, r7⟩ := cellsF hl6
  have HE := Lib.hid (below_set4 (p := w.heap.size + 2) (u0 := .bool sv) (u1 := .slice av mv cv) (u2 := .bool tv) (u3 := .slice dv iv jv) (below_then HB.out hb6) (by omega))
  have HFE := Lib.hid (rf_store (rf_parts hx6).1 (rf_parts hx6).2 hl6)
  clear OF hx6 hb6 hl6
  go_wp2_with fail
  refine bodyPost_ret (v := .tuple #[.agg #[.bool sv, .slice av mv cv, .bool tv, .slice dv iv jv], .int .i64 1]) (by simp [results, Tryz.results31, go_sem, r0, r1, r2, r3]) rfl ?_
  rw [HRR.out]
  exact ⟨_, rfl, ⟨_, rfl, HFE.out⟩, HE.out⟩
 rcases (by omega : 0 < q ∨ q < 0) with hs | hs
 ·have HRR : Hid (rMake p q = (0, p / ((Int.gcd p q : Nat) : Int), q / ((Int.gcd p q : Nat) : Int))) := Lib.hid (by unfold rMake; rw [if_neg h0, (mk_pos hs).1, (mk_pos hs).2])
  have hgp := Int.gcd_pos_of_ne_zero_right (p) (show q ≠ 0 by omega)
  have HG0 : Hid (((Int.gcd (p) (q) : Nat) : Int) ≠ 0) := Lib.hid (by omega)
  have HG : Hid ((digs ((Int.gcd (p) (q) : Nat) : Int).natAbs).length ≤ 400000) := Lib.hid (by rw [Int.natAbs_natCast]; exact dg_le (a := ((Int.gcd (p) (q) : Nat) : Int)) (b := q) (by rw [Int.natAbs_natCast]; exact Int.gcd_le_natAbs_right (p) (by omega)) (by simpa using HQ.out))
  clear hgp
  have hm : ¬ m1 = 0 := len_pos HN1.out h0
  obtain rfl : s1 = false := by rw [nat_sign HN1.out]; simp; omega
  go_enter Tryz.func31, Tryz.ntmps31
  go_wp2_with fail
  rw [← hw3]
  clear hw3 hm
  have hpg := HN0
  have hqg := HN1
  clear HN0 HN1
  have C := (nGcd_any _ _ (p) (q) w3 hpg.out hqg.out (by simpa using HP.out) (by simpa using HQ.out)).mono (fun _ _ => v_n)
  unfold VEnd at C
  have HC := Lib.hid C
  clear C
  go_must (refine HC.out.mono ?_)
  rintro e w21 ⟨v5, rfl, hx5, hb5⟩
  obtain ⟨srg, arg, mrg, crg, rfl⟩ := nat_shape hx5
  clear HC
  have hbb := below_then hb5 (below_one w21 (.cells #[.bool srg, .slice arg mrg crg] 24))
  replace Tp := Lib.hid (Tp.out.below hbb)
  replace Tq := Lib.hid (Tq.out.below hbb)
  replace HB := Lib.hid (below_then HB.out hbb)
  replace HL2 := Lib.hid (HL2.out.below hbb)
  have Tg := Lib.hid (NBox.new hx5)
  clear hx5 hb5 hbb
  clear hpg hqg
  obtain ⟨sp_1, ap_1, mp_1, cp_1, ⟨cp_10, cp_11⟩, _, hp_1, _⟩ := Tp.out.open
  obtain ⟨sg_1, ag_1, mg_1, cg_1, ⟨cg_10, cg_11⟩, _, hg_1, _⟩ := Tg.out.open
  go_wp2_with fail
  have HSZY1 := Lib.hid (size_alloc1 w21 (.cells #[.bool srg, .slice arg mrg crg] 24))
  generalize w21.alloc (.cells #[.bool srg, .slice arg mrg crg] 24) = Y1 at *
  generalize w21.heap.size = tg at *
  have C := nDiv_any _ _ (p) ((Int.gcd (p) (q) : Nat) : Int) Y1 hp_1 hg_1 (by simpa using HP.out) HG.out HG0.out
  unfold NDivEnd at C
  have HC := Lib.hid C
  clear C
  clear cp_10 cp_11 hp_1
  clear cg_10 cg_11 hg_1
  go_must (refine HC.out.mono ?_)
  rintro e w22 ⟨v5, u5, rfl, hx5, hx6, hb5⟩
  obtain ⟨sra, ara, mra, cra, rfl⟩ := nat_shape hx5
  obtain ⟨srb, arb, mrb, crb, rfl⟩ := nat_shape hx6
  clear HC
  have hbb := below_then hb5 (below_then (below_one w22 (.cells #[.bool sra, .slice ara mra cra] 24)) (below_one _ (.cells #[.bool srb, .slice arb mrb crb] 24)))
  replace Tp := Lib.hid (Tp.out.below hbb)
  replace Tq := Lib.hid (Tq.out.below hbb)
  replace Tg := Lib.hid (Tg.out.below hbb)
  replace HB := Lib.hid (below_then HB.out hbb)
  replace HL2 := Lib.hid (HL2.out.below hbb)
  have Ta := Lib.hid ((NBox.new hx5).below (below_one _ (.cells #[.bool srb, .slice arb mrb crb] 24)))
  have Tb := Lib.hid (NBox.new (nat_keeps hx6 (below_one w22 (.cells #[.bool sra, .slice ara mra cra] 24))))
  rw [size_alloc1] at Tb
  clear hx5 hx6 hb5 hbb
  clear Tp
  obtain ⟨sq_2, aq_2, mq_2, cq_2, ⟨cq_20, cq_21⟩, _, hq_2, _⟩ := Tq.out.open
  obtain ⟨sg_2, ag_2, mg_2, cg_2, ⟨cg_20, cg_21⟩, _, hg_2, _⟩ := Tg.out.open
  go_wp2_with fail
  generalize (w22.alloc (.cells #[.bool sra, .slice ara mra cra] 24)).alloc (.cells #[.bool srb, .slice arb mrb crb] 24) = Y2 at *
  generalize w22.heap.size = ta at *
  have C := nDiv_any _ _ (q) ((Int.gcd (p) (q) : Nat) : Int) Y2 hq_2 hg_2 (by simpa using HQ.out) HG.out HG0.out
  unfold NDivEnd at C
  have HC := Lib.hid C
  clear C
  clear cq_20 cq_21 hq_2
  clear cg_20 cg_21 hg_2
  go_must (refine HC.out.mono ?_)
  rintro e w23 ⟨v5, u5, rfl, hx5, hx6, hb5⟩
  obtain ⟨srd, ard, mrd, crd, rfl⟩ := nat_shape hx5
  obtain ⟨sre, are, mre, cre, rfl⟩ := nat_shape hx6
  clear HC
  have hbb := below_then hb5 (below_then (below_one w23 (.cells #[.bool srd, .slice ard mrd crd] 24)) (below_one _ (.cells #[.bool sre, .slice are mre cre] 24)))
  replace Tq := Lib.hid (Tq.out.below hbb)
  replace Tg := Lib.hid (Tg.out.below hbb)
  replace Ta := Lib.hid (Ta.out.below hbb)
  replace Tb := Lib.hid (Tb.out.below hbb)
  replace HB := Lib.hid (below_then HB.out hbb)
  replace HL2 := Lib.hid (HL2.out.below hbb)
  have Td := Lib.hid ((NBox.new hx5).below (below_one _ (.cells #[.bool sre, .slice are mre cre] 24)))
  have Te := Lib.hid (NBox.new (nat_keeps hx6 (below_one w23 (.cells #[.bool srd, .slice ard mrd crd] 24))))
  rw [size_alloc1] at Te
  clear hx5 hx6 hb5 hbb
  clear Tq
  clear Tg
  clear Tb
  obtain ⟨saE, aaE, maE, caE, ⟨caE0, caE1⟩, _, haE, _⟩ := Ta.out.open
  obtain ⟨sdE, adE, mdE, cdE, ⟨cdE0, cdE1⟩, _, hdE, _⟩ := Td.out.open
  obtain ⟨⟨r0, r1, r2, r3⟩, r4, r5, r6, r7⟩ := cellsF HL2.out
  have HA := Lib.hid haE
  have HD := Lib.hid hdE
  clear haE hdE
  go_wp2_with fail
  generalize (w23.alloc (.cells #[.bool srd, .slice ard mrd crd] 24)).alloc (.cells #[.bool sre, .slice are mre cre] 24) = Y3 at *
  generalize w23.heap.size = td at *
  have HE := Lib.hid (below_set4 (p := w.heap.size + 2) (u0 := .bool saE) (u1 := .slice aaE maE caE) (u2 := .bool sdE) (u3 := .slice adE mdE cdE) HB.out (by omega))
  have HFE := Lib.hid (rf_store HA.out HD.out HL2.out)
  refine bodyPost_ret (v := .tuple #[.agg #[.bool saE, .slice aaE maE caE, .bool sdE, .slice adE mdE cdE], .int .i64 0]) (by simp [results, Tryz.results31, go_sem, r0, r1, r2, r3]) rfl ?_
  rw [HRR.out]
  exact ⟨_, rfl, ⟨_, rfl, HFE.out⟩, HE.out⟩
 ·have HRR : Hid (rMake p q = (0, (-p) / ((Int.gcd (-p) (-q) : Nat) : Int), (-q) / ((Int.gcd (-p) (-q) : Nat) : Int))) := Lib.hid (by unfold rMake; rw [if_neg h0, ← (mk_neg h0).1, ← (mk_neg h0).2, (mk_pos (show 0 < -q by omega)).1, (mk_pos (show 0 < -q by omega)).2])
  have hgp := Int.gcd_pos_of_ne_zero_right ((-p)) (show (-q) ≠ 0 by omega)
  have HG0 : Hid (((Int.gcd ((-p)) ((-q)) : Nat) : Int) ≠ 0) := Lib.hid (by omega)
  have HG : Hid ((digs ((Int.gcd ((-p)) ((-q)) : Nat) : Int).natAbs).length ≤ 400000) := Lib.hid (by rw [Int.natAbs_natCast]; exact dg_le (a := ((Int.gcd ((-p)) ((-q)) : Nat) : Int)) (b := (-q)) (by rw [Int.natAbs_natCast]; exact Int.gcd_le_natAbs_right ((-p)) (by omega)) (by simpa using HQ.out))
  clear hgp
  have hm : ¬ m1 = 0 := len_pos HN1.out h0
  obtain rfl : s1 = true := by rw [nat_sign HN1.out]; simp; omega
  go_enter Tryz.func31, Tryz.ntmps31
  go_wp2_with fail
  rw [← hw3]
  clear hw3 hm
  have C := (neg_any _ p w3 HN0.out (by have := HP.out; omega)).mono (fun _ _ => v_n)
  unfold VEnd at C
  have HC := Lib.hid C
  clear C
  go_must (refine HC.out.mono ?_)
  rintro e w21 ⟨v5, rfl, hx5, hb5⟩
  obtain ⟨srp, arp, mrp, crp, rfl⟩ := nat_shape hx5
  clear HC
  replace Tp := Lib.hid (Tp.out.below hb5)
  replace Tq := Lib.hid (Tq.out.below hb5)
  replace HB := Lib.hid (below_then HB.out hb5)
  replace HL2 := Lib.hid (HL2.out.below hb5)
  obtain ⟨so, ao, mo, co, lo, _⟩ := id Tp.out
  obtain ⟨co0, co1, co2, co3⟩ := cells2 lo
  clear lo
  go_upto_region 5 with (fail)
  replace Tq := Lib.hid (Tp.out.other (s := srp) (a := arp) (m := mrp) (c := crp) Tq.out (Nat.succ_ne_self _))
  replace HB := Lib.hid (below_set2 (p := w.heap.size) (u := .bool srp) (v := .slice arp mrp crp) HB.out (Nat.le_refl _))
  replace HL2 := Lib.hid (HL2.out.keeps ((keeps_set _ w.heap.size 0 (.bool srp)).trans (keeps_set _ w.heap.size 1 (.slice arp mrp crp))) (by omega))
  replace Tp := Lib.hid (Tp.out.store hx5)
  clear hx5 hb5 co0 co1 co2 co3
  generalize (w21.setCell ⟨w.heap.size, 0, none⟩ (.bool srp)).setCell ⟨w.heap.size, 1, none⟩ (.slice arp mrp crp) = Y1 at *
  clear HN0 HN1
  obtain ⟨sq_m, aq_m, mq_m, cq_m, ⟨cq_m0, cq_m1⟩, _, hq_m, _⟩ := Tq.out.open
  have hqn := Lib.hid hq_m
  go_wp2_with fail
  clear cq_m0 cq_m1 hq_m
  have C := (neg_any _ q Y1 hqn.out (by have := HQ.out; omega)).mono (fun _ _ => v_n)
  unfold VEnd at C
  have HC := Lib.hid C
  clear C
  go_must (refine HC.out.mono ?_)
  rintro e w22 ⟨v5, rfl, hx5, hb5⟩
  obtain ⟨srq, arq, mrq, crq, rfl⟩ := nat_shape hx5
  clear HC
  replace Tp := Lib.hid (Tp.out.below hb5)
  replace Tq := Lib.hid (Tq.out.below hb5)
  replace HB := Lib.hid (below_then HB.out hb5)
  replace HL2 := Lib.hid (HL2.out.below hb5)
  obtain ⟨so, ao, mo, co, lo, _⟩ := id Tq.out
  obtain ⟨co0, co1, co2, co3⟩ := cells2 lo
  clear lo
  go_upto_region 6 with (fail)
  replace Tp := Lib.hid (Tq.out.other (s := srq) (a := arq) (m := mrq) (c := crq) Tp.out (Nat.succ_ne_self _).symm)
  replace HB := Lib.hid (below_set2 (p := (w.heap.size + 1)) (u := .bool srq) (v := .slice arq mrq crq) HB.out (by omega))
  replace HL2 := Lib.hid (HL2.out.keeps ((keeps_set _ (w.heap.size + 1) 0 (.bool srq)).trans (keeps_set _ (w.heap.size + 1) 1 (.slice arq mrq crq))) (by omega))
  replace Tq := Lib.hid (Tq.out.store hx5)
  clear hx5 hb5 co0 co1 co2 co3
  generalize (w22.setCell ⟨(w.heap.size + 1), 0, none⟩ (.bool srq)).setCell ⟨(w.heap.size + 1), 1, none⟩ (.slice arq mrq crq) = Y2 at *
  clear hqn
  obtain ⟨sp_g, ap_g, mp_g, cp_g, ⟨cp_g0, cp_g1⟩, _, hp_g, _⟩ := Tp.out.open
  obtain ⟨sq_g, aq_g, mq_g, cq_g, ⟨cq_g0, cq_g1⟩, _, hq_g, _⟩ := Tq.out.open
  go_wp2_with fail
  have hpg := Lib.hid hp_g
  have hqg := Lib.hid hq_g
  clear hp_g hq_g cp_g0 cp_g1 cq_g0 cq_g1
  have C := (nGcd_any _ _ (-p) (-q) Y2 hpg.out hqg.out (by simpa using HP.out) (by simpa using HQ.out)).mono (fun _ _ => v_n)
  unfold VEnd at C
  have HC := Lib.hid C
  clear C
  go_must (refine HC.out.mono ?_)
  rintro e w23 ⟨v5, rfl, hx5, hb5⟩
  obtain ⟨srg, arg, mrg, crg, rfl⟩ := nat_shape hx5
  clear HC
  have hbb := below_then hb5 (below_one w23 (.cells #[.bool srg, .slice arg mrg crg] 24))
  replace Tp := Lib.hid (Tp.out.below hbb)
  replace Tq := Lib.hid (Tq.out.below hbb)
  replace HB := Lib.hid (below_then HB.out hbb)
  replace HL2 := Lib.hid (HL2.out.below hbb)
  have Tg := Lib.hid (NBox.new hx5)
  clear hx5 hb5 hbb
  clear hpg hqg
  obtain ⟨sp_3, ap_3, mp_3, cp_3, ⟨cp_30, cp_31⟩, _, hp_3, _⟩ := Tp.out.open
  obtain ⟨sg_3, ag_3, mg_3, cg_3, ⟨cg_30, cg_31⟩, _, hg_3, _⟩ := Tg.out.open
  go_wp2_with fail
  have HSZY3 := Lib.hid (size_alloc1 w23 (.cells #[.bool srg, .slice arg mrg crg] 24))
  generalize w23.alloc (.cells #[.bool srg, .slice arg mrg crg] 24) = Y3 at *
  generalize w23.heap.size = tg at *
  have C := nDiv_any _ _ (-p) ((Int.gcd (-p) (-q) : Nat) : Int) Y3 hp_3 hg_3 (by simpa using HP.out) HG.out HG0.out
  unfold NDivEnd at C
  have HC := Lib.hid C
  clear C
  clear cp_30 cp_31 hp_3
  clear cg_30 cg_31 hg_3
  go_must (refine HC.out.mono ?_)
  rintro e w24 ⟨v5, u5, rfl, hx5, hx6, hb5⟩
  obtain ⟨sra, ara, mra, cra, rfl⟩ := nat_shape hx5
  obtain ⟨srb, arb, mrb, crb, rfl⟩ := nat_shape hx6
  clear HC
  have hbb := below_then hb5 (below_then (below_one w24 (.cells #[.bool sra, .slice ara mra cra] 24)) (below_one _ (.cells #[.bool srb, .slice arb mrb crb] 24)))
  replace Tp := Lib.hid (Tp.out.below hbb)
  replace Tq := Lib.hid (Tq.out.below hbb)
  replace Tg := Lib.hid (Tg.out.below hbb)
  replace HB := Lib.hid (below_then HB.out hbb)
  replace HL2 := Lib.hid (HL2.out.below hbb)
  have Ta := Lib.hid ((NBox.new hx5).below (below_one _ (.cells #[.bool srb, .slice arb mrb crb] 24)))
  have Tb := Lib.hid (NBox.new (nat_keeps hx6 (below_one w24 (.cells #[.bool sra, .slice ara mra cra] 24))))
  rw [size_alloc1] at Tb
  clear hx5 hx6 hb5 hbb
  clear Tp
  obtain ⟨sq_4, aq_4, mq_4, cq_4, ⟨cq_40, cq_41⟩, _, hq_4, _⟩ := Tq.out.open
  obtain ⟨sg_4, ag_4, mg_4, cg_4, ⟨cg_40, cg_41⟩, _, hg_4, _⟩ := Tg.out.open
  go_wp2_with fail
  generalize (w24.alloc (.cells #[.bool sra, .slice ara mra cra] 24)).alloc (.cells #[.bool srb, .slice arb mrb crb] 24) = Y4 at *
  generalize w24.heap.size = ta at *
  have C := nDiv_any _ _ (-q) ((Int.gcd (-p) (-q) : Nat) : Int) Y4 hq_4 hg_4 (by simpa using HQ.out) HG.out HG0.out
  unfold NDivEnd at C
  have HC := Lib.hid C
  clear C
  clear cq_40 cq_41 hq_4
  clear cg_40 cg_41 hg_4
  go_must (refine HC.out.mono ?_)
  rintro e w25 ⟨v5, u5, rfl, hx5, hx6, hb5⟩
  obtain ⟨srd, ard, mrd, crd, rfl⟩ := nat_shape hx5
  obtain ⟨sre, are, mre, cre, rfl⟩ := nat_shape hx6
  clear HC
  have hbb := below_then hb5 (below_then (below_one w25 (.cells #[.bool srd, .slice ard mrd crd] 24)) (below_one _ (.cells #[.bool sre, .slice are mre cre] 24)))
  replace Tq := Lib.hid (Tq.out.below hbb)
  replace Tg := Lib.hid (Tg.out.below hbb)
  replace Ta := Lib.hid (Ta.out.below hbb)
  replace Tb := Lib.hid (Tb.out.below hbb)
  replace HB := Lib.hid (below_then HB.out hbb)
  replace HL2 := Lib.hid (HL2.out.below hbb)
  have Td := Lib.hid ((NBox.new hx5).below (below_one _ (.cells #[.bool sre, .slice are mre cre] 24)))
  have Te := Lib.hid (NBox.new (nat_keeps hx6 (below_one w25 (.cells #[.bool srd, .slice ard mrd crd] 24))))
  rw [size_alloc1] at Te
  clear hx5 hx6 hb5 hbb
  clear Tq
  clear Tg
  clear Tb
  obtain ⟨saE, aaE, maE, caE, ⟨caE0, caE1⟩, _, haE, _⟩ := Ta.out.open
  obtain ⟨sdE, adE, mdE, cdE, ⟨cdE0, cdE1⟩, _, hdE, _⟩ := Td.out.open
  obtain ⟨⟨r0, r1, r2, r3⟩, r4, r5, r6, r7⟩ := cellsF HL2.out
  have HA := Lib.hid haE
  have HD := Lib.hid hdE
  clear haE hdE
  go_wp2_with fail
  generalize (w25.alloc (.cells #[.bool srd, .slice ard mrd crd] 24)).alloc (.cells #[.bool sre, .slice are mre cre] 24) = Y5 at *
  generalize w25.heap.size = td at *
  have HE := Lib.hid (below_set4 (p := w.heap.size + 2) (u0 := .bool saE) (u1 := .slice aaE maE caE) (u2 := .bool sdE) (u3 := .slice adE mdE cdE) HB.out (by omega))
  have HFE := Lib.hid (rf_store HA.out HD.out HL2.out)
  refine bodyPost_ret (v := .tuple #[.agg #[.bool saE, .slice aaE maE caE, .bool sdE, .slice adE mdE cdE], .int .i64 0]) (by simp [results, Tryz.results31, go_sem, r0, r1, r2, r3]) rfl ?_
  rw [HRR.out]
  exact ⟨_, rfl, ⟨_, rfl, HFE.out⟩, HE.out⟩
def pkI (l : List Int) (i : Int) : Int := l[i.toNat]?.getD 0
theorem pkI_range {l : List Int} (hr : ∀ n ∈ l, -9223372036854775808 ≤ n ∧ n ≤ 9223372036854775807) (i : Int) : -9223372036854775808 ≤ pkI l i ∧ pkI l i ≤ 9223372036854775807 := by
 unfold pkI
 rcases Nat.lt_or_ge i.toNat l.length with h | h
 ·rw [List.getElem?_eq_getElem h]; exact hr _ (List.getElem_mem h)
 ·rw [List.getElem?_eq_none h]; decide
set_option maxHeartbeats 1000000 in
theorem pick4_any (v : Value) (l : List Int) (i : Int) (w : World) (hv : Row .i64 w v l) (hi : 0 ≤ i ∧ i ≤ 1000000) :
  Calls Tryz.prog 29 #[v, .int .i64 i] w (fun e w' => e = .returned (.int .i64 (pkI l i)) ∧ w = w') := by
 obtain ⟨p, cap, rfl, hcap, hcm, hne, _⟩ := hv
 obtain ⟨j, rfl⟩ : ∃ j : Nat, i = (j : Int) := ⟨i.toNat, by omega⟩
 rcases Nat.lt_or_ge j l.length with h2 | h2
 ·obtain ⟨b, off, rfl, hc⟩ := hne (fun e => by rw [e] at h2; simp at h2)
  have hck := hc j h2
  have HB : Hid (l[j]?.getD 0 = pkI l (j : Int)) := Lib.hid rfl
  have h3 : ¬ ((l.length : Int) ≤ (j : Int)) := by omega
  have h4 : ¬ ((j : Int) < 0) := by omega
  clear hc
  generalize l[j]?.getD 0 = x at *
  go_enter Tryz.func29, Tryz.ntmps29
  go_wp2_with fail
  go_ret
  exact ⟨ret_int HB.out, rfl⟩
 ·have HB : Hid ((0 : Int) = pkI l (j : Int)) := Lib.hid (by unfold pkI; rw [List.getElem?_eq_none (by simpa using h2)]; rfl)
  have h3 : (l.length : Int) ≤ (j : Int) := by omega
  have h4 : ¬ ((j : Int) < 0) := by omega
  go_enter Tryz.func29, Tryz.ntmps29
  go_wp2_with fail
  go_ret
  exact ⟨ret_int HB.out, rfl⟩
theorem txt_dg {n : Int} {L : Nat} (h : (digs n.natAbs).length ≤ L) (h0 : 1 ≤ L) : (txtS n).size ≤ 4 * L + 1 := by
 have h1 := digs_len_lt n.natAbs
 have h2 : 10000 ^ (digs n.natAbs).length ≤ 10000 ^ L := Nat.pow_le_pow_right (by decide) h
 have h3 : 10000 ^ L = 10 ^ (4 * L) := by rw [Nat.pow_mul]
 have h4 := txtN_len (n := n) (k := 4 * L) (by omega) (by omega)
 rw [← strB_txt, strB_length] at h4
 exact h4
def numK (a : Int) : Int := if a.tmod 7 < 0 then a.tmod 7 + 7 else a.tmod 7
def numM (a : Int) : Nat := ((a.tdiv 7).tmod 40).toNat
def numZ (a b : Int) : Int := if numK a < 4 then b.tmod 60 else if numK a < 6 then b else (b + 3) * 1000000007 ^ numM a
theorem numM_le (a : Int) : numM a ≤ 39 := by
 unfold numM
 have h1 := Int.tmod_lt_of_pos (a.tdiv 7) (show (0 : Int) < 40 by decide)
 omega
theorem lo_p1 : Lo 30 1000000007 := by unfold Lo; decide
theorem lo_pw (i : Nat) : Lo (30 * i) ((1000000007 : Int) ^ i) := by
 induction i with
 | zero => unfold Lo; decide
 | succ i ih =>
  rw [Int.pow_succ, Nat.mul_succ]
  exact Lo.mul ih lo_p1
theorem lo_b3 {b : Int} (hb : -9223372036854775808 ≤ b ∧ b ≤ 9223372036854775807) : Lo 64 (b + 3) := by
 unfold Lo
 rw [show (2 : Nat) ^ 64 = 18446744073709551616 from rfl]
 omega
theorem numZ_lo {a b : Int} (hb : -9223372036854775808 ≤ b ∧ b ≤ 9223372036854775807) : Lo 1240 (numZ a b) := by
 unfold numZ
 have hB : Lo 63 b := lo_int hb
 split
 ·refine Lo.more (K := 63) ?_ (by decide)
  have h1 : (b.tmod 60).natAbs ≤ b.natAbs := by
   rw [Int.natAbs_tmod]; exact Nat.mod_le _ _
  exact Nat.le_trans h1 hB
 ·split
  ·exact hB.more (by decide)
  ·exact ((lo_b3 hb).mul (lo_pw _)).more (by have := numM_le a; omega)
set_option maxHeartbeats 8000000 in
theorem num4_any (a b : Int) (w : World) (ha : -9223372036854775808 ≤ a ∧ a ≤ 9223372036854775807) (hb : -9223372036854775808 ≤ b ∧ b ≤ 9223372036854775807) :
  Calls Tryz.prog 28 #[.int .i64 a, .int .i64 b] w (NEnd (numZ a b) w) := by
 have OF : Hid (∀ X (z : Int), -9223372036854775808 ≤ z → z ≤ 9223372036854775807 → Calls Tryz.prog 30 #[.int .i64 z] X (NEnd z X)) := Lib.hid (fun X z h1 h2 => of_any z X ⟨h1, h2⟩)
 unfold NEnd at OF
 obtain ⟨w1, hw1⟩ : ∃ w1, w1 = w.alloc (.cells #[.bool false, .slice none 0 0] 24) := ⟨_, rfl⟩
 have HB1 : Hid (Below w.heap.size w w1) := Lib.hid (by rw [hw1]; exact below_one _ _)
 have HL1 : Hid (Laid w1 w.heap.size 24 [.bool false, .slice none 0 0]) := Lib.hid (by rw [hw1]; exact Laid.new _ _ _)
 obtain ⟨t, ht⟩ : ∃ t, a.tmod 7 = t := ⟨_, rfl⟩
 obtain ⟨u, hu⟩ : ∃ u, b.tmod 60 = u := ⟨_, rfl⟩
 obtain ⟨v, hv⟩ : ∃ v, a.tdiv 7 = v := ⟨_, rfl⟩
 obtain ⟨m, hm⟩ : ∃ m, v.tmod 40 = m := ⟨_, rfl⟩
 have t1 : -7 < t ∧ t < 7 := by
  rw [← ht]
  have h1 := Int.tmod_lt_of_pos a (show (0 : Int) < 7 by decide)
  have h2 := Int.lt_tmod_of_pos a (show (0 : Int) < 7 by decide)
  exact ⟨h2, h1⟩
 have u1 : -60 < u ∧ u < 60 := by
  rw [← hu]
  exact ⟨Int.lt_tmod_of_pos b (by decide), Int.tmod_lt_of_pos b (by decide)⟩
 have m1 : -40 < m ∧ m < 40 := by
  rw [← hm]
  exact ⟨Int.lt_tmod_of_pos v (by decide), Int.tmod_lt_of_pos v (by decide)⟩
 have v1 : -9223372036854775808 ≤ v ∧ v ≤ 9223372036854775807 := by
  have h1 : v.natAbs = a.natAbs / 7 := by rw [← hv, Int.natAbs_tdiv]; rfl
  omega
 have ZZ : Hid (numZ a b = if (if t < 0 then t + 7 else t) < 4 then u else if (if t < 0 then t + 7 else t) < 6 then b else (b + 3) * 1000000007 ^ m.toNat) := Lib.hid (by unfold numZ numK numM; rw [ht, hu, hv, hm])
 obtain ⟨t1a, t1b⟩ := t1
 obtain ⟨u1a, u1b⟩ := u1
 obtain ⟨m1a, m1b⟩ := m1
 obtain ⟨v1a, v1b⟩ := v1
 obtain ⟨ha1, ha2⟩ := ha
 obtain ⟨hb1, hb2⟩ := hb
 rw [ZZ.out]
 clear ZZ
 unfold NEnd
 rcases (by omega : t < 0 ∨ ¬ t < 0) with hn | hn
 ·rw [if_pos hn]
  rcases (by omega : t + 7 < 4 ∨ (¬ t + 7 < 4 ∧ (t + 7 < 6 ∨ ¬ t + 7 < 6))) with h4 | ⟨h4, h6 | h6⟩
  ·rw [if_pos h4]
   go_enter Tryz.func28, Tryz.ntmps28
   go_wp2_with fail
   rw [← hw1]
   clear hw1
   go_must (refine (OF.out w1 (u) (by omega) (by omega)).mono ?_)
   rintro e w2 ⟨x2, rfl, hx2, hb2⟩
   obtain ⟨sv, av, mv, cv, rfl⟩ := nat_shape hx2
   have hl2 := HL1.out.below hb2
   obtain ⟨r0, r1, r2, r3⟩ := cells2 hl2
   have HE := Lib.hid (below_set2 (p := w.heap.size) (u := .bool sv) (v := .slice av mv cv) (below_then HB1.out hb2) (Nat.le_refl _))
   have hq1 : Laid (w2.setCell ⟨w.heap.size, 0, none⟩ (.bool sv)) w.heap.size 24 [.bool sv, .slice none 0 0] := hl2.set 0 _
   have HX := Lib.hid (nat_set (nat_set hx2 hl2 0 (.bool sv)) hq1 1 (.slice av mv cv))
   clear OF hx2 hb2 hl2 hq1
   go_wp2_with fail
   refine bodyPost_ret (v := .agg #[.bool sv, .slice av mv cv]) (by simp [results, Tryz.results28, go_sem, r0, r1]) rfl ?_
   exact ⟨_, rfl, HX.out, HE.out⟩
  ·rw [if_neg h4, if_pos h6]
   go_enter Tryz.func28, Tryz.ntmps28
   go_wp2_with fail
   rw [← hw1]
   clear hw1
   go_must (refine (OF.out w1 (b) (by omega) (by omega)).mono ?_)
   rintro e w2 ⟨x2, rfl, hx2, hb2⟩
   obtain ⟨sv, av, mv, cv, rfl⟩ := nat_shape hx2
   have hl2 := HL1.out.below hb2
   obtain ⟨r0, r1, r2, r3⟩ := cells2 hl2
   have HE := Lib.hid (below_set2 (p := w.heap.size) (u := .bool sv) (v := .slice av mv cv) (below_then HB1.out hb2) (Nat.le_refl _))
   have hq1 : Laid (w2.setCell ⟨w.heap.size, 0, none⟩ (.bool sv)) w.heap.size 24 [.bool sv, .slice none 0 0] := hl2.set 0 _
   have HX := Lib.hid (nat_set (nat_set hx2 hl2 0 (.bool sv)) hq1 1 (.slice av mv cv))
   clear OF hx2 hb2 hl2 hq1
   go_wp2_with fail
   refine bodyPost_ret (v := .agg #[.bool sv, .slice av mv cv]) (by simp [results, Tryz.results28, go_sem, r0, r1]) rfl ?_
   exact ⟨_, rfl, HX.out, HE.out⟩
  ·rw [if_neg h4, if_neg h6]
   go_enter Tryz.func28, Tryz.ntmps28
   go_wp2_with fail
   rw [← hw1]
   clear hw1
   go_must (refine (OF.out w1 b (by omega) (by omega)).mono ?_)
   rintro e w2 ⟨x2, rfl, hx2, hb2⟩
   have HX2 := Lib.hid hx2
   have HB2 := Lib.hid hb2
   clear hx2 hb2
   go_wp2_with fail
   go_must (refine (OF.out w2 3 (by decide) (by decide)).mono ?_)
   rintro e w3 ⟨x3, rfl, hx3, hb3⟩
   have AD := add_any _ _ b 3 w3 (nat_keeps HX2.out hb3) hx3 (digs_of_small ((lo_int ⟨hb1, hb2⟩).small (by decide))) (digs_of_small (small_of (K := 2) (by decide) (by decide)))
   unfold NEnd at AD
   have HAD := Lib.hid AD
   have HB3 := Lib.hid (below_then HB2.out hb3)
   clear AD hx3 hb3 HB2 HX2
   go_wp2_with fail
   go_must (refine HAD.out.mono ?_)
   rintro e w4 ⟨x4, rfl, hx4, hb4⟩
   obtain ⟨s4, a4, m4, c4, rfl⟩ := nat_shape hx4
   have hbb := below_then hb4 (below_one w4 (.cells #[.bool s4, .slice a4 m4 c4] 24))
   have HB4 := Lib.hid (below_then HB1.out (below_then HB3.out hbb))
   have HL4 := Lib.hid (HL1.out.below (below_then HB3.out hbb))
   have HT4 := Lib.hid (NBox.new hx4)
   have HNE : Hid (w4.heap.size ≠ w.heap.size) := Lib.hid (by have := HL1.out.lt; have := HB3.out.size; have := hb4.size; omega)
   have HLE : Hid (w.heap.size ≤ w4.heap.size) := Lib.hid (by have := HL1.out.lt; have := HB3.out.size; have := hb4.size; omega)
   have LB : Hid (Lo 64 (b + 3)) := Lib.hid (lo_b3 ⟨hb1, hb2⟩)
   clear HAD hx4 hb4 hbb HB3 HB1 HL1 hb1 hb2
   go_wp2_with fail
   generalize w4.alloc (.cells #[.bool s4, .slice a4 m4 c4] 24) = w5 at *
   generalize w4.heap.size = bt at *
   generalize hB3 : b + 3 = B3 at *
   have HB3E := Lib.hid hB3
   clear hB3
   go_loopw [7] (fun iv wr => ∃ (i : Nat), iv = .int .i64 (i : Int) ∧ i ≤ m.toNat ∧ Hid (NBox wr bt (B3 * 1000000007 ^ i)) ∧ Hid (Laid wr w.heap.size 24 [.bool false, .slice none 0 0]) ∧ Hid (Below w.heap.size w wr)) (fun iv _ => (m.toNat - (intOf iv).toNat))
   case atStart => exact ⟨0, rfl, Nat.zero_le _, Lib.hid (by rw [Int.pow_zero, Int.mul_one]; exact HT4.out), HL4, HB4⟩
   case round =>
    obtain ⟨i, rfl, him, HT, HL, HB⟩ := hrel
    clear HT4 HL4 HB4
    rcases Nat.lt_or_ge i m.toNat with hlt | hge
    ·have hlt' : (i : Int) < m := by omega
     obtain ⟨sb, ab, mb, cb, lb, hzb⟩ := HT.out
     have LBX := Lib.hid lb
     have HZB := Lib.hid hzb
     have LZ : Hid (Lo (64 + 30 * i) (B3 * 1000000007 ^ i)) := Lib.hid (LB.out.mul (lo_pw i))
     clear lb hzb HT
     go_wp2_with fail
     refine regRNu (z35 := 1000000007) (z36 := B3 * 1000000007 ^ i * 1000000007) (fun _ _ d _ _ h => by cases d <;> exact h) (Lib.hid (fun X h => ?LD1)) (Lib.hid (fun X h => LBX.out.below h)) (Lib.hid (fun X h => OF.out X 1000000007 (by decide) (by decide))) (Lib.hid (fun X x35 h k => (mul_any _ _ _ _ X (nat_keeps HZB.out h) k (digs_of_small (LZ.out.small (by omega))) (digs_of_small (lo_p1.small (by decide)))).mono (fun _ _ => v_n))) ?_
     case LD1 =>
      obtain ⟨f0, f1, _, _⟩ := cells2 (LBX.out.below h)
      exact ⟨f0, f1⟩
     intro X x35 sv av mv cv HBX HK
     have T' := Lib.hid (nbox_store (LBX.out.below HBX.out) HK.out)
     have L' := Lib.hid ((HL.out.below HBX.out).keeps ((keeps_set _ bt 0 (.bool sv)).trans (keeps_set _ bt 1 (.slice av mv cv))) HNE.out.symm)
     have B' := Lib.hid (below_set2 (p := bt) (u := .bool sv) (v := .slice av mv cv) (below_then HB.out HBX.out) HLE.out)
     clear HBX HK LBX HZB LZ HL HB
     go_wp2_with fail
     go_roundw
     case rel => exact ⟨i + 1, by first | rfl | go_num, by omega, Lib.hid (by rw [Int.pow_succ, ← Int.mul_assoc]; exact T'.out), L', B'⟩
     case measure => simp [intOf]; omega
    ·have hge' : ¬ ((i : Int) < m) := by omega
     obtain rfl : i = m.toNat := by omega
     obtain ⟨sv, av, mv, cv, ⟨cv0, cv1⟩, _, hx2, _⟩ := HT.out.open
     have hl2 := HL.out
     obtain ⟨r0, r1, r2, r3⟩ := cells2 hl2
     have HE := Lib.hid (below_set2 (p := w.heap.size) (u := .bool sv) (v := .slice av mv cv) HB.out (Nat.le_refl _))
     have hq1 : Laid (wr.setCell ⟨w.heap.size, 0, none⟩ (.bool sv)) w.heap.size 24 [.bool sv, .slice none 0 0] := hl2.set 0 _
     have HX := Lib.hid (nat_set (nat_set hx2 hl2 0 (.bool sv)) hq1 1 (.slice av mv cv))
     clear OF hx2 hl2 hq1 HB HL HT
     go_wp2_with fail
     refine bodyPost_ret (v := .agg #[.bool sv, .slice av mv cv]) (by simp [results, Tryz.results28, go_sem, r0, r1]) rfl ?_
     rw [HB3E.out]
     exact ⟨_, rfl, HX.out, HE.out⟩
 ·rw [if_neg hn]
  rcases (by omega : t < 4 ∨ (¬ t < 4 ∧ (t < 6 ∨ ¬ t < 6))) with h4 | ⟨h4, h6 | h6⟩
  ·rw [if_pos h4]
   go_enter Tryz.func28, Tryz.ntmps28
   go_wp2_with fail
   rw [← hw1]
   clear hw1
   go_must (refine (OF.out w1 (u) (by omega) (by omega)).mono ?_)
   rintro e w2 ⟨x2, rfl, hx2, hb2⟩
   obtain ⟨sv, av, mv, cv, rfl⟩ := nat_shape hx2
   have hl2 := HL1.out.below hb2
   obtain ⟨r0, r1, r2, r3⟩ := cells2 hl2
   have HE := Lib.hid (below_set2 (p := w.heap.size) (u := .bool sv) (v := .slice av mv cv) (below_then HB1.out hb2) (Nat.le_refl _))
   have hq1 : Laid (w2.setCell ⟨w.heap.size, 0, none⟩ (.bool sv)) w.heap.size 24 [.bool sv, .slice none 0 0] := hl2.set 0 _
   have HX := Lib.hid (nat_set (nat_set hx2 hl2 0 (.bool sv)) hq1 1 (.slice av mv cv))
   clear OF hx2 hb2 hl2 hq1
   go_wp2_with fail
   refine bodyPost_ret (v := .agg #[.bool sv, .slice av mv cv]) (by simp [results, Tryz.results28, go_sem, r0, r1]) rfl ?_
   exact ⟨_, rfl, HX.out, HE.out⟩
  ·rw [if_neg h4, if_pos h6]
   go_enter Tryz.func28, Tryz.ntmps28
   go_wp2_with fail
   rw [← hw1]
   clear hw1
   go_must (refine (OF.out w1 (b) (by omega) (by omega)).mono ?_)
   rintro e w2 ⟨x2, rfl, hx2, hb2⟩
   obtain ⟨sv, av, mv, cv, rfl⟩ := nat_shape hx2
   have hl2 := HL1.out.below hb2
   obtain ⟨r0, r1, r2, r3⟩ := cells2 hl2
   have HE := Lib.hid (below_set2 (p := w.heap.size) (u := .bool sv) (v := .slice av mv cv) (below_then HB1.out hb2) (Nat.le_refl _))
   have hq1 : Laid (w2.setCell ⟨w.heap.size, 0, none⟩ (.bool sv)) w.heap.size 24 [.bool sv, .slice none 0 0] := hl2.set 0 _
   have HX := Lib.hid (nat_set (nat_set hx2 hl2 0 (.bool sv)) hq1 1 (.slice av mv cv))
   clear OF hx2 hb2 hl2 hq1
   go_wp2_with fail
   refine bodyPost_ret (v := .agg #[.bool sv, .slice av mv cv]) (by simp [results, Tryz.results28, go_sem, r0, r1]) rfl ?_
   exact ⟨_, rfl, HX.out, HE.out⟩
  ·rw [if_neg h4, if_neg h6]
   go_enter Tryz.func28, Tryz.ntmps28
   go_wp2_with fail
   rw [← hw1]
   clear hw1
   go_must (refine (OF.out w1 b (by omega) (by omega)).mono ?_)
   rintro e w2 ⟨x2, rfl, hx2, hb2⟩
   have HX2 := Lib.hid hx2
   have HB2 := Lib.hid hb2
   clear hx2 hb2
   go_wp2_with fail
   go_must (refine (OF.out w2 3 (by decide) (by decide)).mono ?_)
   rintro e w3 ⟨x3, rfl, hx3, hb3⟩
   have AD := add_any _ _ b 3 w3 (nat_keeps HX2.out hb3) hx3 (digs_of_small ((lo_int ⟨hb1, hb2⟩).small (by decide))) (digs_of_small (small_of (K := 2) (by decide) (by decide)))
   unfold NEnd at AD
   have HAD := Lib.hid AD
   have HB3 := Lib.hid (below_then HB2.out hb3)
   clear AD hx3 hb3 HB2 HX2
   go_wp2_with fail
   go_must (refine HAD.out.mono ?_)
   rintro e w4 ⟨x4, rfl, hx4, hb4⟩
   obtain ⟨s4, a4, m4, c4, rfl⟩ := nat_shape hx4
   have hbb := below_then hb4 (below_one w4 (.cells #[.bool s4, .slice a4 m4 c4] 24))
   have HB4 := Lib.hid (below_then HB1.out (below_then HB3.out hbb))
   have HL4 := Lib.hid (HL1.out.below (below_then HB3.out hbb))
   have HT4 := Lib.hid (NBox.new hx4)
   have HNE : Hid (w4.heap.size ≠ w.heap.size) := Lib.hid (by have := HL1.out.lt; have := HB3.out.size; have := hb4.size; omega)
   have HLE : Hid (w.heap.size ≤ w4.heap.size) := Lib.hid (by have := HL1.out.lt; have := HB3.out.size; have := hb4.size; omega)
   have LB : Hid (Lo 64 (b + 3)) := Lib.hid (lo_b3 ⟨hb1, hb2⟩)
   clear HAD hx4 hb4 hbb HB3 HB1 HL1 hb1 hb2
   go_wp2_with fail
   generalize w4.alloc (.cells #[.bool s4, .slice a4 m4 c4] 24) = w5 at *
   generalize w4.heap.size = bt at *
   generalize hB3 : b + 3 = B3 at *
   have HB3E := Lib.hid hB3
   clear hB3
   go_loopw [7] (fun iv wr => ∃ (i : Nat), iv = .int .i64 (i : Int) ∧ i ≤ m.toNat ∧ Hid (NBox wr bt (B3 * 1000000007 ^ i)) ∧ Hid (Laid wr w.heap.size 24 [.bool false, .slice none 0 0]) ∧ Hid (Below w.heap.size w wr)) (fun iv _ => (m.toNat - (intOf iv).toNat))
   case atStart => exact ⟨0, rfl, Nat.zero_le _, Lib.hid (by rw [Int.pow_zero, Int.mul_one]; exact HT4.out), HL4, HB4⟩
   case round =>
    obtain ⟨i, rfl, him, HT, HL, HB⟩ := hrel
    clear HT4 HL4 HB4
    rcases Nat.lt_or_ge i m.toNat with hlt | hge
    ·have hlt' : (i : Int) < m := by omega
     obtain ⟨sb, ab, mb, cb, lb, hzb⟩ := HT.out
     have LBX := Lib.hid lb
     have HZB := Lib.hid hzb
     have LZ : Hid (Lo (64 + 30 * i) (B3 * 1000000007 ^ i)) := Lib.hid (LB.out.mul (lo_pw i))
     clear lb hzb HT
     go_wp2_with fail
     refine regRNu (z35 := 1000000007) (z36 := B3 * 1000000007 ^ i * 1000000007) (fun _ _ d _ _ h => by cases d <;> exact h) (Lib.hid (fun X h => ?LD0)) (Lib.hid (fun X h => LBX.out.below h)) (Lib.hid (fun X h => OF.out X 1000000007 (by decide) (by decide))) (Lib.hid (fun X x35 h k => (mul_any _ _ _ _ X (nat_keeps HZB.out h) k (digs_of_small (LZ.out.small (by omega))) (digs_of_small (lo_p1.small (by decide)))).mono (fun _ _ => v_n))) ?_
     case LD0 =>
      obtain ⟨f0, f1, _, _⟩ := cells2 (LBX.out.below h)
      exact ⟨f0, f1⟩
     intro X x35 sv av mv cv HBX HK
     have T' := Lib.hid (nbox_store (LBX.out.below HBX.out) HK.out)
     have L' := Lib.hid ((HL.out.below HBX.out).keeps ((keeps_set _ bt 0 (.bool sv)).trans (keeps_set _ bt 1 (.slice av mv cv))) HNE.out.symm)
     have B' := Lib.hid (below_set2 (p := bt) (u := .bool sv) (v := .slice av mv cv) (below_then HB.out HBX.out) HLE.out)
     clear HBX HK LBX HZB LZ HL HB
     go_wp2_with fail
     go_roundw
     case rel => exact ⟨i + 1, by first | rfl | go_num, by omega, Lib.hid (by rw [Int.pow_succ, ← Int.mul_assoc]; exact T'.out), L', B'⟩
     case measure => simp [intOf]; omega
    ·have hge' : ¬ ((i : Int) < m) := by omega
     obtain rfl : i = m.toNat := by omega
     obtain ⟨sv, av, mv, cv, ⟨cv0, cv1⟩, _, hx2, _⟩ := HT.out.open
     have hl2 := HL.out
     obtain ⟨r0, r1, r2, r3⟩ := cells2 hl2
     have HE := Lib.hid (below_set2 (p := w.heap.size) (u := .bool sv) (v := .slice av mv cv) HB.out (Nat.le_refl _))
     have hq1 : Laid (wr.setCell ⟨w.heap.size, 0, none⟩ (.bool sv)) w.heap.size 24 [.bool sv, .slice none 0 0] := hl2.set 0 _
     have HX := Lib.hid (nat_set (nat_set hx2 hl2 0 (.bool sv)) hq1 1 (.slice av mv cv))
     clear OF hx2 hl2 hq1 HB HL HT
     go_wp2_with fail
     refine bodyPost_ret (v := .agg #[.bool sv, .slice av mv cv]) (by simp [results, Tryz.results28, go_sem, r0, r1]) rfl ?_
     rw [HB3E.out]
     exact ⟨_, rfl, HX.out, HE.out⟩
def frDen (l : List Int) (i : Int) : Int := if numZ (pkI l (i + 2)) (pkI l (i + 3)) = 0 then 1 else numZ (pkI l (i + 2)) (pkI l (i + 3))
def frNum (l : List Int) (i : Int) : Int := numZ (pkI l i) (pkI l (i + 1))
def frP (l : List Int) (i : Int) : Int := mkN (frNum l i) (frDen l i)
def frQ (l : List Int) (i : Int) : Int := mkD (frNum l i) (frDen l i)
theorem frDen_ne (l : List Int) (i : Int) : frDen l i ≠ 0 := by
 unfold frDen
 split
 ·decide
 ·assumption
theorem fr_lo {l : List Int} (hr : ∀ n ∈ l, -9223372036854775808 ≤ n ∧ n ≤ 9223372036854775807) (i : Int) : Lo 1240 (frNum l i) ∧ Lo 1240 (frDen l i) := by
 refine ⟨numZ_lo (pkI_range hr _), ?_⟩
 unfold frDen
 split
 ·exact (show Lo 0 1 by unfold Lo; decide).more (by decide)
 ·exact numZ_lo (pkI_range hr _)
theorem fr_low {l : List Int} (hr : ∀ n ∈ l, -9223372036854775808 ≤ n ∧ n ≤ 9223372036854775807) (i : Int) : Low (frP l i) (frQ l i) ∧ Lo 1240 (frP l i) ∧ Lo 1240 (frQ l i) :=
 ⟨(mk_low (frDen_ne l i)).1, Nat.le_trans (Int.natAbs_ediv_le_natAbs _ _) (fr_lo hr i).1, Nat.le_trans (Int.natAbs_ediv_le_natAbs _ _) (fr_lo hr i).2⟩
theorem lo_dg {K : Nat} {z : Int} (h : Lo K z) (hK : K ≤ 16000) : (digs z.natAbs).length ≤ 100000 := by
 have := pow_digs h
 omega
set_option maxHeartbeats 8000000 in
theorem fr4_any (v : Value) (l : List Int) (i : Int) (w : World) (hv : Row .i64 w v l) (hr : ∀ n ∈ l, -9223372036854775808 ≤ n ∧ n ≤ 9223372036854775807) (hi : 0 ≤ i ∧ i ≤ 1000) :
  Calls Tryz.prog 5 #[v, .int .i64 i] w (RFEnd (frP l i) (frQ l i) w) := by
 obtain ⟨w1, hw1⟩ : ∃ w1, w1 = w.alloc (.cells #[.bool false, .slice none 0 0, .bool false, .slice none 0 0] 26) := ⟨_, rfl⟩
 have HB1 : Hid (Below w.heap.size w w1) := Lib.hid (by rw [hw1]; exact below_one _ _)
 have HL1 : Hid (Laid w1 w.heap.size 26 [.bool false, .slice none 0 0, .bool false, .slice none 0 0]) := Lib.hid (by rw [hw1]; exact Laid.new _ _ _)
 have PK : Hid (∀ X (j k : Int), Below w.heap.size w X → 0 ≤ j → j ≤ 2000 → k = pkI l j → Calls Tryz.prog 29 #[v, .int .i64 j] X (fun e w' => e = .returned (.int .i64 k) ∧ X = w')) := Lib.hid (fun X j k h h1 h2 e => e ▸ pick4_any v l j X (row_keeps hv h) (by omega))
 have NU : Hid (∀ X (a b : Int), (∃ j, a = pkI l j) → (∃ j, b = pkI l j) → Calls Tryz.prog 28 #[.int .i64 a, .int .i64 b] X (NEnd (numZ a b) X)) := Lib.hid (fun X a b ⟨j, ha⟩ ⟨k, hb⟩ => num4_any a b X (by rw [ha]; exact pkI_range hr j) (by rw [hb]; exact pkI_range hr k))
 have OF : Hid (∀ X, Calls Tryz.prog 30 #[.int .i64 1] X (NEnd 1 X)) := Lib.hid (fun X => of_any 1 X (by decide))
 have HMK : Hid (∀ X u z, NAt X u (frNum l i) → NAt X z (frDen l i) → Calls Tryz.prog 31 #[u, z] X (RREnd (rMake (frNum l i) (frDen l i)) X)) := Lib.hid (fun X u z h1 h2 => rMake_any u z _ _ X h1 h2 (by have := lo_dg (fr_lo hr i).1 (by decide); omega) (by have := lo_dg (fr_lo hr i).2 (by decide); omega))
 have HRM : Hid (rMake (frNum l i) (frDen l i) = (0, frP l i, frQ l i)) := Lib.hid (by unfold rMake; rw [if_neg (frDen_ne l i)]; rfl)
 rw [HRM.out] at HMK
 unfold NEnd at NU OF
 obtain ⟨hi1, hi2⟩ := hi
 obtain ⟨a2, ha2⟩ : ∃ k, k = pkI l (i + 2) := ⟨_, rfl⟩
 obtain ⟨a3, ha3⟩ : ∃ k, k = pkI l (i + 3) := ⟨_, rfl⟩
 have P2 := Lib.hid (PK.out w1 (i + 2) a2 HB1.out (by omega) (by omega) ha2)
 have P3 := Lib.hid (PK.out w1 (i + 3) a3 HB1.out (by omega) (by omega) ha3)
 have N1 := Lib.hid (NU.out w1 a2 a3 ⟨_, ha2⟩ ⟨_, ha3⟩)
 have HDEN : Hid (frDen l i = if numZ a2 a3 = 0 then 1 else numZ a2 a3) := Lib.hid (by unfold frDen; rw [← ha2, ← ha3])
 have HV2 := Lib.hid (IntWalk.i64_in (i + 1) (by omega))
 have NU2 : Hid (∀ X, Calls Tryz.prog 28 #[.int .i64 (pkI l i), .int .i64 (pkI l (i + 1))] X (VEnd (KN (frNum l i)) X)) := Lib.hid (fun X => (NU.out X _ _ ⟨_, rfl⟩ ⟨_, rfl⟩).mono (fun _ _ => v_n))
 clear ha2 ha3 hv hr HRM
 generalize numZ a2 a3 = Z at *
 unfold RFEnd
 go_enter Tryz.func5, Tryz.ntmps5
 go_wp2_with fail
 rw [← hw1]
 clear hw1
 go_must (refine P2.out.mono ?_)
 rintro e w2 ⟨rfl, rfl⟩
 go_wp2_with fail
 go_must (refine P3.out.mono ?_)
 rintro e w2 ⟨rfl, rfl⟩
 clear P2 P3
 go_wp2_with fail
 go_must (refine N1.out.mono ?_)
 rintro e w3 ⟨x3, rfl, hx3, hb3⟩
 obtain ⟨s3, a3', m3, c3, rfl⟩ := nat_shape hx3
 have hbb := below_then hb3 (below_one w3 (.cells #[.bool s3, .slice a3' m3 c3] 24))
 have HB4 := Lib.hid (below_then HB1.out hbb)
 have HL4 := Lib.hid (HL1.out.below hbb)
 have T5 := Lib.hid (NBox.new hx3)
 have HNE : Hid (w3.heap.size ≠ w.heap.size) := Lib.hid (by have := HL1.out.lt; have := hb3.size; omega)
 have HLE : Hid (w.heap.size ≤ w3.heap.size) := Lib.hid (by have := HL1.out.lt; have := hb3.size; omega)
 have HX3 := Lib.hid hx3
 clear N1 NU hx3 hb3 hbb HB1 HL1
 rcases Classical.em (Z = 0) with hz | hz
 ·have DEN : Hid (1 = frDen l i) := Lib.hid (by rw [HDEN.out, if_pos hz])
  obtain rfl : m3 = 0 := zero_len HX3.out hz
  clear hz HDEN HX3
  go_wp2_with fail
  generalize w3.alloc (.cells #[.bool s3, .slice a3' 0 c3] 24) = w4 at *
  generalize w3.heap.size = bt at *
  go_must (refine (OF.out _).mono ?_)
  rintro e w5 ⟨x5, rfl, hx5, hb5⟩
  obtain ⟨sr, ar, mr, cr, rfl⟩ := nat_shape hx5
  have T5' := Lib.hid (T5.out.below hb5)
  have HL5 := HL4.out.below hb5
  have HB5 := below_then HB4.out hb5
  obtain ⟨so, ao, mo, co, lo, _⟩ := id T5'.out
  obtain ⟨co0, co1, co2, co3⟩ := cells2 lo
  clear lo OF
  go_upto_region 4 with (fail)
  have TB := Lib.hid (T5'.out.store hx5)
  have HLW := Lib.hid (HL5.keeps ((keeps_set _ bt 0 (.bool sr)).trans (keeps_set _ bt 1 (.slice ar mr cr))) HNE.out.symm)
  have HBW := Lib.hid (below_set2 (p := bt) (u := .bool sr) (v := .slice ar mr cr) HB5 HLE.out)
  clear hx5 hb5 T5 T5' HL4 HL5 HB4 HB5 co0 co1 co2 co3
  generalize (w5.setCell ⟨bt, 0, none⟩ (.bool sr)).setCell ⟨bt, 1, none⟩ (.slice ar mr cr) = w6 at *
  obtain ⟨s5, a5, m5, c5, l5, h5⟩ := TB.out
  have B5 := Lib.hid l5
  have H5 := Lib.hid h5
  clear l5 h5 TB
  refine regRFr (v0 := v) (v1 := i) (v2 := i + 1) (c25 := pkI l i) (c29 := pkI l (i + 1)) (z30 := frNum l i) (R := (0, frP l i, frQ l i)) (fun _ _ d _ _ h => by cases d <;> exact h) HV2.out (Lib.hid (fun X h => ?ld0)) (Lib.hid (fun X h => (PK.out X i _ (below_then HBW.out h) hi1 (by omega) rfl).mono (fun _ _ ⟨h1, h2⟩ => ⟨_, h1, rfl, h2 ▸ Below.refl _ _⟩))) (Lib.hid (fun X h => (PK.out X (i + 1) _ (below_then HBW.out h) (by omega) (by omega) rfl).mono (fun _ _ ⟨h1, h2⟩ => ⟨_, h1, rfl, h2 ▸ Below.refl _ _⟩))) (Lib.hid (fun X h => NU2.out X)) (Lib.hid (fun X x30 h k => HMK.out X _ _ k (nat_keeps (DEN.out ▸ H5.out) h))) ?_
  case ld0 =>
   obtain ⟨f0, f1, _, _⟩ := cells2 (B5.out.below h)
   exact ⟨f0, f1⟩
  intro X x30 x32 x22 sv tv av dv mv iv cv jv t6 HBX L6 T6
  have hl2 := HLW.out.below HBX.out
  obtain ⟨⟨r0, r1, r2, r3⟩, r4, r5, r6, r7⟩ := cellsF hl2
  obtain ⟨s6, u6, a6, d6, m6, i6, c6, j6, ⟨c60, c61, c62, c63⟩, _, h6⟩ := T6.out.open
  have HE := Lib.hid (below_set4 (p := w.heap.size) (u0 := .bool s6) (u1 := .slice a6 m6 c6) (u2 := .bool u6) (u3 := .slice d6 i6 j6) (below_then HBW.out HBX.out) (Nat.le_refl _))
  have HFE := Lib.hid (rf_store (rf_parts h6).1 (rf_parts h6).2 hl2)
  clear PK NU2 HMK HBX T6 h6 B5 H5 hl2 HBW HLW
  go_wp2_with fail
  refine bodyPost_ret (v := .agg #[.bool s6, .slice a6 m6 c6, .bool u6, .slice d6 i6 j6]) (by simp [results, Tryz.results5, go_sem, r0, r1, r2, r3]) rfl ?_
  exact ⟨_, rfl, HFE.out, HE.out⟩
 ·have DEN : Hid (Z = frDen l i) := Lib.hid (by rw [HDEN.out, if_neg hz])
  have hm : ¬ m3 = 0 := len_pos HX3.out hz
  clear hz HDEN HX3
  go_wp2_with fail
  generalize w3.alloc (.cells #[.bool s3, .slice a3' m3 c3] 24) = w6 at *
  generalize w3.heap.size = bt at *
  have TB := T5
  have HLW := HL4
  have HBW := HB4
  clear OF T5 HL4 HB4 hm
  obtain ⟨s5, a5, m5, c5, l5, h5⟩ := TB.out
  have B5 := Lib.hid l5
  have H5 := Lib.hid h5
  clear l5 h5 TB
  refine regRFr (v0 := v) (v1 := i) (v2 := i + 1) (c25 := pkI l i) (c29 := pkI l (i + 1)) (z30 := frNum l i) (R := (0, frP l i, frQ l i)) (fun _ _ d _ _ h => by cases d <;> exact h) HV2.out (Lib.hid (fun X h => ?ld1)) (Lib.hid (fun X h => (PK.out X i _ (below_then HBW.out h) hi1 (by omega) rfl).mono (fun _ _ ⟨h1, h2⟩ => ⟨_, h1, rfl, h2 ▸ Below.refl _ _⟩))) (Lib.hid (fun X h => (PK.out X (i + 1) _ (below_then HBW.out h) (by omega) (by omega) rfl).mono (fun _ _ ⟨h1, h2⟩ => ⟨_, h1, rfl, h2 ▸ Below.refl _ _⟩))) (Lib.hid (fun X h => NU2.out X)) (Lib.hid (fun X x30 h k => HMK.out X _ _ k (nat_keeps (DEN.out ▸ H5.out) h))) ?_
  case ld1 =>
   obtain ⟨f0, f1, _, _⟩ := cells2 (B5.out.below h)
   exact ⟨f0, f1⟩
  intro X x30 x32 x22 sv tv av dv mv iv cv jv t6 HBX L6 T6
  have hl2 := HLW.out.below HBX.out
  obtain ⟨⟨r0, r1, r2, r3⟩, r4, r5, r6, r7⟩ := cellsF hl2
  obtain ⟨s6, u6, a6, d6, m6, i6, c6, j6, ⟨c60, c61, c62, c63⟩, _, h6⟩ := T6.out.open
  have HE := Lib.hid (below_set4 (p := w.heap.size) (u0 := .bool s6) (u1 := .slice a6 m6 c6) (u2 := .bool u6) (u3 := .slice d6 i6 j6) (below_then HBW.out HBX.out) (Nat.le_refl _))
  have HFE := Lib.hid (rf_store (rf_parts h6).1 (rf_parts h6).2 hl2)
  clear PK NU2 HMK HBX T6 h6 B5 H5 hl2 HBW HLW
  go_wp2_with fail
  refine bodyPost_ret (v := .agg #[.bool s6, .slice a6 m6 c6, .bool u6, .slice d6 i6 j6]) (by simp [results, Tryz.results5, go_sem, r0, r1, r2, r3]) rfl ?_
  exact ⟨_, rfl, HFE.out, HE.out⟩
end Go.Proofs.YtepakogbbomaoaaGreatDoor
