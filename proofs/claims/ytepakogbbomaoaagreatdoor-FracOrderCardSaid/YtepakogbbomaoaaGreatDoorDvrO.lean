/-
 The reference of package wide: Div.
-/
import Derived.Test.YtepakogbbomaoaaGreatDoorDvdO
import Derived.Test.YtepakogbbomaoaaGreatDoorBgOO
import Derived.Test.YtepakogbbomaoaaGreatDoorNmQO
import Derived.Deep.RegionHeld3
namespace Go.Proofs.YtepakogbbomaoaaGreatDoor
open Go.RowKit Go.Shelf
set_option linter.unusedVariables false
set_option maxRecDepth 100000
def NDivEnd (a b : Int) (w : World) (e : Ending) (w' : World) : Prop := ∃ x y, e = .returned (.tuple #[x, y]) ∧ NAt w' x (a / b) ∧ NAt w' y (a % b) ∧ Below w.heap.size w w'
structure BN4 (W : World) (s : Nat) (na nb : Bool) (ax ay : Option Addr) (la lb cx cy : Nat) : Prop where
 x : Laid W s 24 [.bool na, .slice ax la cx]
 y : Laid W (s + 1) 24 [.bool nb, .slice ay lb cy]
 q : Laid W (s + 2) 24 [.bool false, .slice none 0 0]
 r : Laid W (s + 3) 24 [.bool false, .slice none 0 0]
theorem BN4.below {W W2 : World} {s : Nat} {na nb : Bool} {ax ay : Option Addr} {la lb cx cy : Nat} (h : BN4 W s na nb ax ay la lb cx cy) (hb : Below W.heap.size W W2) : BN4 W2 s na nb ax ay la lb cx cy := ⟨h.x.below hb, h.y.below hb, h.q.below hb, h.r.below hb⟩
theorem bn4_new (w : World) (na nb : Bool) (ax ay : Option Addr) (la lb cx cy : Nat) :
  BN4 ((((w.alloc (.cells #[.bool na, .slice ax la cx] 24)).alloc (.cells #[.bool nb, .slice ay lb cy] 24)).alloc (.cells #[.bool false, .slice none 0 0] 24)).alloc (.cells #[.bool false, .slice none 0 0] 24)) w.heap.size na nb ax ay la lb cx cy := by
 have hb : ∀ (W : World) (o : Obj), Below W.heap.size W (W.alloc o) := below_one2
 refine ⟨(((Laid.new w _ [.bool na, .slice ax la cx]).below (hb _ _)).below (hb _ _)).below (hb _ _), ?_, ?_, ?_⟩
 ·have := ((Laid.new (w.alloc (.cells #[.bool na, .slice ax la cx] 24)) 24 [.bool nb, .slice ay lb cy]).below (hb _ (.cells #[.bool false, .slice none 0 0] 24))).below (hb _ (.cells #[.bool false, .slice none 0 0] 24))
  simpa using this
 ·have := (Laid.new ((w.alloc (.cells #[.bool na, .slice ax la cx] 24)).alloc (.cells #[.bool nb, .slice ay lb cy] 24)) 24 [.bool false, .slice none 0 0]).below (hb _ (.cells #[.bool false, .slice none 0 0] 24))
  simpa using this
 ·have := Laid.new (((w.alloc (.cells #[.bool na, .slice ax la cx] 24)).alloc (.cells #[.bool nb, .slice ay lb cy] 24)).alloc (.cells #[.bool false, .slice none 0 0] 24)) 24 [.bool false, .slice none 0 0]
  simpa using this
theorem ndivend_store {w W : World} {s : Nat} {a b : Int} {na nb : Bool} {ax ay : Option Addr} {la lb cx cy : Nat} (hl : BN4 W s na nb ax ay la lb cx cy) (hs : w.heap.size ≤ s) (hb : Below w.heap.size w W) {bq br : Bool} {aq ar : Option Addr} {mq kq mr kr : Nat}
  (hq : NAt W (.agg #[.bool bq, .slice aq mq kq]) (a / b)) (hr : NAt W (.agg #[.bool br, .slice ar mr kr]) (a % b)) :
  NDivEnd a b w (.returned (.tuple #[.agg #[.bool bq, .slice aq mq kq], .agg #[.bool br, .slice ar mr kr]])) ((((W.setCell ⟨s + 2, 0, none⟩ (.bool bq)).setCell ⟨s + 2, 1, none⟩ (.slice aq mq kq)).setCell ⟨s + 3, 0, none⟩ (.bool br)).setCell ⟨s + 3, 1, none⟩ (.slice ar mr kr)) := by
 have l1 : Laid (W.setCell ⟨s + 2, 0, none⟩ (.bool bq)) (s + 2) 24 [.bool bq, .slice none 0 0] := hl.q.set 0 _
 have l3 := hl.r.keeps ((keeps_set W (s + 2) 0 (.bool bq)).trans (keeps_set _ (s + 2) 1 (.slice aq mq kq))) (by omega)
 have l4 : Laid (((W.setCell ⟨s + 2, 0, none⟩ (.bool bq)).setCell ⟨s + 2, 1, none⟩ (.slice aq mq kq)).setCell ⟨s + 3, 0, none⟩ (.bool br)) (s + 3) 24 [.bool br, .slice none 0 0] := l3.set 0 _
 have K : ∀ {x : Value} {n : Int}, NAt W x n → NAt ((((W.setCell ⟨s + 2, 0, none⟩ (.bool bq)).setCell ⟨s + 2, 1, none⟩ (.slice aq mq kq)).setCell ⟨s + 3, 0, none⟩ (.bool br)).setCell ⟨s + 3, 1, none⟩ (.slice ar mr kr)) x n :=
  fun h => nat_set (nat_set (nat_set (nat_set h hl.q 0 _) l1 1 _) l3 0 _) l4 1 _
 exact ⟨_, _, rfl, K hq, K hr,
  (((hb.setCell (p := ⟨s + 2, 0, none⟩) (by show _ ≤ s + 2; omega) _).setCell (p := ⟨s + 2, 1, none⟩) (by show _ ≤ s + 2; omega) _).setCell (p := ⟨s + 3, 0, none⟩) (by show _ ≤ s + 3; omega) _).setCell (p := ⟨s + 3, 1, none⟩) (by show _ ≤ s + 3; omega) _⟩
theorem BN4.set {W : World} {s : Nat} {na nb : Bool} {ax ay : Option Addr} {la lb cx cy : Nat} (h : BN4 W s na nb ax ay la lb cx cy) {t : Nat} (ht : s + 3 < t) (i : Nat) (u : Value) : BN4 (W.setCell ⟨t, i, none⟩ u) s na nb ax ay la lb cx cy :=
 ⟨h.x.keeps (keeps_set W t i u) (by omega), h.y.keeps (keeps_set W t i u) (by omega), h.q.keeps (keeps_set W t i u) (by omega), h.r.keeps (keeps_set W t i u) (by omega)⟩
theorem sgn_sum (s : Bool) (q : Nat) : sgn s q + sgn s 1 = sgn s (q + 1) := by cases s <;> simp [sgn] <;> omega
set_option maxHeartbeats 4000000 in
theorem nDiv_any (x y : Value) (a b : Int) (w : World) (hx : NAt w x a) (hy : NAt w y b) (ha : (digs a.natAbs).length ≤ 400000) (hb : (digs b.natAbs).length ≤ 400000) (h0 : b ≠ 0) :
  Calls Tryz.prog 72 #[x, y] w (NDivEnd a b w) := by
 obtain ⟨na, ax, la, cx, rfl⟩ := nat_shape hx
 obtain ⟨nb, ay, lb, cy, rfl⟩ := nat_shape hy
 have hna : decide (a < 0) = na := by obtain ⟨v, e, _⟩ := hx; injection e with e; injection e with e; injection e with e _; injection e with e; exact e.symm
 have hnb : decide (b < 0) = nb := by obtain ⟨v, e, _⟩ := hy; injection e with e; injection e with e; injection e with e _; injection e with e; exact e.symm
 have hrx := nat_row2 hx
 have hry := nat_row2 hy
 obtain ⟨w2, hw2⟩ : ∃ w2, w2 = (((w.alloc (.cells #[.bool na, .slice ax la cx] 24)).alloc (.cells #[.bool nb, .slice ay lb cy] 24)).alloc (.cells #[.bool false, .slice none 0 0] 24)).alloc (.cells #[.bool false, .slice none 0 0] 24) := ⟨_, rfl⟩
 have hB4 : BN4 w2 w.heap.size na nb ax ay la lb cx cy := by rw [hw2]; exact bn4_new _ _ _ _ _ _ _ _ _
 have hbe : Below w.heap.size w w2 := by rw [hw2]; exact ((((Below.refl _ w).alloc (Nat.le_refl _) _).alloc (by simp) _).alloc (by simp; try omega) _).alloc (by simp; try omega) _
 have hB0 : b.natAbs ≠ 0 := by omega
 have DV := divided_any _ _ a.natAbs b.natAbs w2 (row_keeps hrx hbe) (row_keeps hry hbe) ha hb hB0
 unfold DivEnd at DV
 have HDV := Lib.hid DV
 have hdm : a.natAbs = b.natAbs * (a.natAbs / b.natAbs) + a.natAbs % b.natAbs := (Nat.div_add_mod _ _).symm
 have HNUM := Lib.hid (div_num na nb a b hna hnb h0 (a.natAbs / b.natAbs) (a.natAbs % b.natAbs) hdm (Nat.mod_lt _ (by omega)))
 have hrl : a.natAbs % b.natAbs < b.natAbs := Nat.mod_lt _ (by omega)
 have hrdl : (digs (a.natAbs % b.natAbs)).length ≤ 400000 := by
  have h1 := digs_len_lt b.natAbs
  have := digs_len_le (Nat.lt_trans hrl h1)
  omega
 have HRY := Lib.hid (row_keeps hry hbe)
 have HB4 := Lib.hid hB4
 have HBE := Lib.hid hbe
 obtain ⟨c0, c1, _, _⟩ := cells2 hB4.x
 obtain ⟨d0, d1, _, _⟩ := cells2 hB4.y
 have HAL := Lib.hid ha
 have HBL := Lib.hid hb
 have NORM : Hid (∀ (s : Bool) v d w3, Row .i64 w3 v (natI d) → (∀ c ∈ d, c < 10000) → d.length ≤ 1000000 → Calls Tryz.prog 68 #[.bool s, v] w3 (NEnd (sgn s (valD d)) w3)) := Lib.hid (fun s v d w3 h1 h2 h3 => normal_any s v d w3 h1 h2 h3)
 unfold NEnd at NORM
 clear DV hx hy hrx hry hna hnb hbe hB4 hB0 hdm ha hb
 have hQA : a.natAbs / b.natAbs ≤ a.natAbs := Nat.div_le_self _ _
 generalize hQ : a.natAbs / b.natAbs = Q at *
 generalize hR : a.natAbs % b.natAbs = R at *
 generalize hBN : b.natAbs = B at *
 generalize hAN : a.natAbs = A at *
 clear hQ hR hBN hAN
 go_enter Tryz.func72, Tryz.ntmps72
 clear c0 c1 d0 d1
 go_wp2_with fail
 rw [← hw2]
 clear hw2
 go_must (refine HDV.out.mono ?_)
 rintro e w3 ⟨qv, rv, D, rfl, hqr, hqd, hql, hqc, hrr, hb3⟩
 have HB3 := Lib.hid hb3
 have HRR := Lib.hid hrr
 have NQ : Hid (∀ s, Calls Tryz.prog 68 #[.bool s, qv] w3 (NEnd (sgn s Q) w3)) := Lib.hid (fun s => by
  have := normal_any s qv D w3 hqr hqc (by have := HAL.out; omega)
  rwa [hqd] at this)
 unfold NEnd at NQ
 obtain ⟨c0, c1, _, _⟩ := cells2 (HB4.out.below hb3).x
 obtain ⟨d0, d1, _, _⟩ := cells2 (HB4.out.below hb3).y
 obtain ⟨pq, cq, rfl⟩ := row_len hqr
 obtain ⟨pr, cr, rfl⟩ := row_len hrr
 have HQL : Hid ((digs Q).length ≤ 400000) := Lib.hid (by
  have h1 := digs_len_lt A
  have := digs_len_le (Nat.lt_of_le_of_lt hQA h1)
  have := HAL.out
  omega)
 clear hqr hqd hql hqc hrr hb3 HDV
 go_wp2_with fail
 go_must (refine (NQ.out _).mono ?_)
 rintro e w4 ⟨x4, rfl, hx4, hb4⟩
 replace hx4 : NAt w4 x4 (sgn (na != nb) Q) := hx4
 obtain ⟨b4, p4, n4, q4, rfl⟩ := nat_shape hx4
 have hal4 := below_one2 w4 (.cells #[.bool b4, .slice p4 n4 q4] 24)
 have hbb := below_then hb4 hal4
 have TX := Lib.hid (NBox.new hx4)
 have HB4w := Lib.hid (below_then HB3.out hbb)
 have HRR4 := Lib.hid (row_keeps HRR.out hbb)
 have hs28 : w2.heap.size ≤ w4.heap.size := (below_then HB3.out hb4).size
 have ht8 : w.heap.size + 3 < w4.heap.size := (HB4.out.below (below_then HB3.out hb4)).r.lt
 clear hx4 hb4 hal4 hbb NQ HB3 HRR c0 c1 d0 d1
 go_wp2_with fail
 generalize w4.alloc (.cells #[.bool b4, .slice p4 n4 q4] 24) = W4 at *
 generalize w4.heap.size = t8 at *
 have NR := Lib.hid (NORM.out false _ (digs R) W4 HRR4.out (digs_lt R) (by omega))
 rw [valD_digs] at NR
 go_must (refine NR.out.mono ?_)
 rintro e w5 ⟨x5, rfl, hx5, hb5⟩
 replace hx5 : NAt w5 x5 (R : Int) := hx5
 obtain ⟨b5, p5, n5, q5, rfl⟩ := nat_shape hx5
 have hal5 := below_one2 w5 (.cells #[.bool b5, .slice p5 n5 q5] 24)
 have hbb := below_then hb5 hal5
 have TY := Lib.hid (NBox.new hx5)
 have TX5 := Lib.hid (TX.out.below hbb)
 have ht89 : t8 < w5.heap.size := Nat.lt_of_lt_of_le TX.out.lt hb5.size
 have ht9 : w.heap.size + 3 < w5.heap.size := (HB4.out.below (below_then HB4w.out hb5)).r.lt
 have HB5w := Lib.hid (below_then HB4w.out hbb)
 have hn5 : n5 = (digs R).length := by
  obtain ⟨_, _, e, _, _⟩ := nat_rowAt hx5
  injection e with _ e _
  rw [e, natI_length]
 obtain ⟨c0, c1, _, _⟩ := cells2 (HB4.out.below HB5w.out).x
 obtain ⟨d0, d1, _, _⟩ := cells2 (HB4.out.below HB5w.out).y
 obtain ⟨e0, e1, _, _⟩ := cells2 (Laid.new w5 24 [.bool b5, .slice p5 n5 q5])
 clear hx5 hb5 hal5 hbb NR HB4w HRR4 TX
 cases na
 ·have HZ := Lib.hid (HNUM.out.1 (.inl rfl))
  clear HNUM hn5 NORM
  go_wp2_with fail
  generalize w5.alloc (.cells #[.bool b5, .slice p5 n5 q5] 24) = W5 at *
  generalize w5.heap.size = t9 at *
  clear c0 c1 d0 d1 e0 e1
  obtain ⟨s8, a8, m8, k8, ⟨c0, c1⟩, _, hn8, _⟩ := TX5.out.open
  obtain ⟨s9, a9, m9, k9, ⟨d0, d1⟩, _, hn9, _⟩ := TY.out.open
  obtain ⟨f0, f1, f2, f3⟩ := cells2 (HB4.out.below HB5w.out).q
  obtain ⟨g0, g1, g2, g3⟩ := cells2 (HB4.out.below HB5w.out).r
  have HEND := Lib.hid (ndivend_store (a := a) (b := b) (w := w) ((HB4.out.below HB5w.out).below (Below.refl _ _).drew) (Nat.le_refl _) (HBE.out.trans (HB5w.out.mono (by have := HBE.out.size; omega))).drew (by rw [HZ.out.1]; exact (show NAt (W5).drew _ _ from nat_keeps hn8 (Below.refl _ _).drew)) (by rw [HZ.out.2]; exact (show NAt (W5).drew _ _ from nat_keeps hn9 (Below.refl _ _).drew)))
  clear hn8 hn9
  have n1 : ¬ t8 = w.heap.size + 1 + 1 := by omega
  have n2 : ¬ t8 = w.heap.size + 1 + 1 + 1 := by omega
  have n3 : ¬ t9 = w.heap.size + 1 + 1 := by omega
  have n4 : ¬ t9 = w.heap.size + 1 + 1 + 1 := by omega
  have n5 : ¬ w.heap.size + 1 + 1 = t8 := by omega
  have n6 : ¬ w.heap.size + 1 + 1 + 1 = t8 := by omega
  have n7 : ¬ w.heap.size + 1 + 1 = t9 := by omega
  have n8 : ¬ w.heap.size + 1 + 1 + 1 = t9 := by omega
  go_region
  all_goals
   go_wp2_with fail
   refine bodyPost_ret (v := .tuple #[.agg #[.bool s8, .slice a8 m8 k8], .agg #[.bool s9, .slice a9 m9 k9]]) (by simp [results, Tryz.results72, go_sem, f0, f1, g0, g1]) rfl ?_
   exact HEND.out
 ·rcases Nat.eq_zero_or_pos R with hR0 | hR0
  ·have HZ := Lib.hid (HNUM.out.1 (.inr hR0))
   have hn0 : n5 = 0 := by rw [hn5, hR0, digs_zero]; rfl
   clear HNUM hn5 NORM hR0
   subst hn0
   go_wp2_with fail
   generalize w5.alloc (.cells #[.bool b5, .slice p5 0 q5] 24) = W5 at *
   generalize w5.heap.size = t9 at *
   clear c0 c1 d0 d1 e0 e1
   obtain ⟨s8, a8, m8, k8, ⟨c0, c1⟩, _, hn8, _⟩ := TX5.out.open
   obtain ⟨s9, a9, m9, k9, ⟨d0, d1⟩, _, hn9, _⟩ := TY.out.open
   obtain ⟨f0, f1, f2, f3⟩ := cells2 (HB4.out.below HB5w.out).q
   obtain ⟨g0, g1, g2, g3⟩ := cells2 (HB4.out.below HB5w.out).r
   have HEND := Lib.hid (ndivend_store (a := a) (b := b) (w := w) ((HB4.out.below HB5w.out).below (Below.refl _ _).drew) (Nat.le_refl _) (HBE.out.trans (HB5w.out.mono (by have := HBE.out.size; omega))).drew (by rw [HZ.out.1]; exact (show NAt (W5).drew _ _ from nat_keeps hn8 (Below.refl _ _).drew)) (by rw [HZ.out.2]; exact (show NAt (W5).drew _ _ from nat_keeps hn9 (Below.refl _ _).drew)))
   clear hn8 hn9
   have n1 : ¬ t8 = w.heap.size + 1 + 1 := by omega
   have n2 : ¬ t8 = w.heap.size + 1 + 1 + 1 := by omega
   have n3 : ¬ t9 = w.heap.size + 1 + 1 := by omega
   have n4 : ¬ t9 = w.heap.size + 1 + 1 + 1 := by omega
   have n5 : ¬ w.heap.size + 1 + 1 = t8 := by omega
   have n6 : ¬ w.heap.size + 1 + 1 + 1 = t8 := by omega
   have n7 : ¬ w.heap.size + 1 + 1 = t9 := by omega
   have n8 : ¬ w.heap.size + 1 + 1 + 1 = t9 := by omega
   go_region
   all_goals
    go_wp2_with fail
    refine bodyPost_ret (v := .tuple #[.agg #[.bool s8, .slice a8 m8 k8], .agg #[.bool s9, .slice a9 m9 k9]]) (by simp [results, Tryz.results72, go_sem, f0, f1, g0, g1]) rfl ?_
    exact HEND.out
  ·have HZ := Lib.hid (HNUM.out.2 ⟨rfl, hR0⟩)
   have hn0 : (0 : Int) < (n5 : Int) := by
    have := digs_len_pos (show R ≠ 0 by omega)
    omega
   have hnn : (true != nb) = !nb := by cases nb <;> rfl
   rw [hnn] at HZ TX5
   have hsz5 : (w5.alloc (.cells #[.bool b5, .slice p5 n5 q5] 24)).heap.size = w5.heap.size + 1 := by simp
   clear HNUM hn5 hR0 hnn
   go_wp2_with fail
   generalize w5.alloc (.cells #[.bool b5, .slice p5 n5 q5] 24) = W5 at *
   generalize w5.heap.size = t9 at *
   have hlit := row_of_fresh (fresh_lit W5 W5.heap.size 3 .i64 [(1 : Int)] (Nat.le_refl _) (by simp))
   rw [hsz5] at hlit
   have N1 := Lib.hid (NORM.out (!nb) (.slice (some ⟨t9 + 1, 0, none⟩) 1 1) [1] _ (by simpa [natI] using hlit) (by intro c hc; simp at hc; omega) (by simp))
   have hal6 := below_one2 W5 (.cells #[.int .i64 1] 3)
   clear hlit c0 c1 d0 d1 e0 e1
   go_must (refine N1.out.mono ?_)
   rintro e w7 ⟨x7, rfl, hx7, hb7⟩
   replace hx7 : NAt w7 x7 (sgn (!nb) 1) := hx7
   obtain ⟨b7, p7, n7, q7, rfl⟩ := nat_shape hx7
   have hbb := below_then (below_then hal6 hb7) (below_one2 w7 (.cells #[.bool b7, .slice p7 n7 q7] 24))
   have TO := Lib.hid (NBox.new hx7)
   have TX7 := Lib.hid (TX5.out.below hbb)
   have TY7 := Lib.hid (TY.out.below hbb)
   have HB7w := Lib.hid (below_then HB5w.out hbb)
   obtain ⟨s8, a8, m8, k8, ⟨c0, c1⟩, ⟨c2, c3⟩, hn8, _⟩ := TX7.out.open
   obtain ⟨s0, a0, m0, k0, ⟨d0, d1⟩, _, hn0', _⟩ := TO.out.open
   clear hx7 hb7 hbb hal6 N1 TX5 TY HB5w
   go_wp2_with fail
   generalize w7.alloc (.cells #[.bool b7, .slice p7 n7 q7] 24) = W7 at *
   generalize w7.heap.size = t10 at *
   have AD := add_any _ _ _ _ W7 hn8 hn0' (by rw [sgn_abs]; have := HAL.out; have := HQL.out; omega) (by rw [sgn_abs, digs_pos (by decide)]; simp [digs_zero])
   rw [sgn_sum] at AD
   unfold NEnd at AD
   have HAD := Lib.hid AD
   clear AD hn8 hn0' d0 d1 c0 c1 c2 c3
   go_must (refine HAD.out.mono ?_)
   rintro e w8 ⟨x8, rfl, hx8, hb8⟩
   obtain ⟨b8, p8, n8, q8, rfl⟩ := nat_shape hx8
   have TX8 := Lib.hid ((TX7.out.below hb8).store hx8)
   have TY8 := Lib.hid ((TX7.out.below hb8).other (TY7.out.below hb8) (by omega : t9 ≠ t8) (s := b8) (a := p8) (m := n8) (c := q8))
   have HB8w := Lib.hid (below_then HB7w.out hb8)
   have hs2 : w2.heap.size ≤ t8 := hs28
   have BN8 := Lib.hid (((HB4.out.below HB8w.out).set (show w.heap.size + 3 < t8 by omega) 0 (.bool b8)).set (show w.heap.size + 3 < t8 by omega) 1 (.slice p8 n8 q8))
   have HB88 := Lib.hid ((HB8w.out.setCell (p := ⟨t8, 0, none⟩) hs2 (.bool b8)).setCell (p := ⟨t8, 1, none⟩) hs2 (.slice p8 n8 q8))
   obtain ⟨sx, ax8, mx, kx, ⟨c0, c1⟩, ⟨c2, c3⟩, _, _⟩ := (TX7.out.below hb8).open
   obtain ⟨sy, ay8, my, ky, ⟨d0, d1⟩, _, hny, _⟩ := TY8.out.open
   obtain ⟨y0, y1, _, _⟩ := cells2 BN8.out.y
   have MI := minus_any (.slice ay lb cy) (.slice ay8 my ky) (digs B) (digs R) _ (row_keeps HRY.out HB88.out) (nat_rowAt hny) (digs_lt _) (digs_lt _) (by have := HBL.out; omega) (by omega) (by rw [valD_digs, valD_digs]; omega)
   rw [valD_digs, valD_digs] at MI
   unfold DEnd at MI
   have HMI := Lib.hid MI
   clear MI hx8 hb8 hny HAD TX7 TY7 HB7w HB8w
   go_wp2_with fail
   generalize (w8.setCell ⟨t8, 0, none⟩ (.bool b8)).setCell ⟨t8, 1, none⟩ (.slice p8 n8 q8) = W8 at *
   go_must (refine HMI.out.mono ?_)
   rintro e w9 ⟨v9, out, rfl, hr9, ⟨ho1, ho2, ho3⟩, hb9⟩
   have NM := normal_any false v9 out w9 hr9 ho3 (by rw [ho2]; have := HBL.out; omega)
   rw [ho1] at NM
   unfold NEnd at NM
   have HNM := Lib.hid NM
   have HB9 := Lib.hid hb9
   obtain ⟨pv9, cv9, rfl⟩ := row_len hr9
   clear NM hr9 ho1 ho2 ho3 hb9 HMI c0 c1 c2 c3 d0 d1 y0 y1
   go_wp2_with fail
   go_must (refine HNM.out.mono ?_)
   rintro e w10 ⟨x10, rfl, hx10, hb10⟩
   replace hx10 : NAt w10 x10 ((B - R : Nat) : Int) := hx10
   obtain ⟨b10, p10, n10, q10, rfl⟩ := nat_shape hx10
   have hbb := below_then HB9.out hb10
   have TYN := Lib.hid ((TY8.out.below hbb).store hx10)
   have TXN := Lib.hid ((TY8.out.below hbb).other (TX8.out.below hbb) (by omega : t8 ≠ t9) (s := b10) (a := p10) (m := n10) (c := q10))
   have hs29 : w2.heap.size ≤ t9 := by omega
   have BNN := Lib.hid (((BN8.out.below hbb).set (show w.heap.size + 3 < t9 by omega) 0 (.bool b10)).set (show w.heap.size + 3 < t9 by omega) 1 (.slice p10 n10 q10))
   have HBN := Lib.hid (((HB88.out.trans (hbb.mono HB88.out.size)).setCell (p := ⟨t9, 0, none⟩) hs29 (.bool b10)).setCell (p := ⟨t9, 1, none⟩) hs29 (.slice p10 n10 q10))
   obtain ⟨sy, ay8, my, ky, ⟨d0, d1⟩, ⟨d2, d3⟩, _, _⟩ := (TY8.out.below hbb).open
   clear hx10 hb10 hbb HNM HB9 TX8 TY8 BN8 HB88
   go_wp2_with fail
   generalize (w10.setCell ⟨t9, 0, none⟩ (.bool b10)).setCell ⟨t9, 1, none⟩ (.slice p10 n10 q10) = WN at *
   clear d0 d1 d2 d3
   obtain ⟨s8, a8, m8, k8, ⟨c0, c1⟩, _, hn8, _⟩ := TXN.out.open
   obtain ⟨s9, a9, m9, k9, ⟨d0, d1⟩, _, hn9, _⟩ := TYN.out.open
   obtain ⟨f0, f1, f2, f3⟩ := cells2 (BNN.out).q
   obtain ⟨g0, g1, g2, g3⟩ := cells2 (BNN.out).r
   have HEND := Lib.hid (ndivend_store (a := a) (b := b) (w := w) ((BNN.out).below (Below.refl _ _).drew) (Nat.le_refl _) (HBE.out.trans (HBN.out.mono (by have := HBE.out.size; omega))).drew (by rw [HZ.out.1]; exact (show NAt (WN).drew _ _ from nat_keeps hn8 (Below.refl _ _).drew)) (by rw [HZ.out.2]; exact (show NAt (WN).drew _ _ from nat_keeps hn9 (Below.refl _ _).drew)))
   clear hn8 hn9
   have n1 : ¬ t8 = w.heap.size + 1 + 1 := by omega
   have n2 : ¬ t8 = w.heap.size + 1 + 1 + 1 := by omega
   have n3 : ¬ t9 = w.heap.size + 1 + 1 := by omega
   have n4 : ¬ t9 = w.heap.size + 1 + 1 + 1 := by omega
   have n5 : ¬ w.heap.size + 1 + 1 = t8 := by omega
   have n6 : ¬ w.heap.size + 1 + 1 + 1 = t8 := by omega
   have n7 : ¬ w.heap.size + 1 + 1 = t9 := by omega
   have n8 : ¬ w.heap.size + 1 + 1 + 1 = t9 := by omega
   go_region
   all_goals
    go_wp2_with fail
    refine bodyPost_ret (v := .tuple #[.agg #[.bool s8, .slice a8 m8 k8], .agg #[.bool s9, .slice a9 m9 k9]]) (by simp [results, Tryz.results72, go_sem, f0, f1, g0, g1]) rfl ?_
    exact HEND.out
end Go.Proofs.YtepakogbbomaoaaGreatDoor
