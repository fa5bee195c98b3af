/-
 Package frac: quotient, copied, isWhole, below, lowest. Package frac: copied, isWhole, below, lowest. Package frac: lowest, Sign, Num, Den. Package frac: Sign, Num, Den, product of two factors. (tools/genFre.py makes this text.) Package frac: product of two factors. cmp.Or of two errors. Package frac: String. Package frac: Make. Package frac: Make. (tools/genFrj.py makes this text.) Package frac: Of. The reference of package frac: a fraction's form; Of, Sign. cmp.Or of four errors. (tools/genFrm.py makes this text.)
-/
import Derived.Test.YtepakogbbomaoaaGreatDoorCmnO
import Derived.Test.YtepakogbbomaoaaGreatDoorBgUO
import Derived.Test.YtepakogbbomaoaaGreatDoorFrcO
import Derived.Test.YtepakogbbomaoaaGreatDoorCmrO
import Derived.Test.YtepakogbbomaoaaGreatDoorTxHO
import Derived.Deep.RegionHeld3
namespace Go.Proofs.YtepakogbbomaoaaGreatDoor
open Go.RowKit Go.Shelf
set_option linter.unusedVariables false
set_option maxRecDepth 100000
theorem iat_shape {W : World} {x : Value} {n : Int} (h : IAt W x n) : ∃ (b : Bool) (a : Option Addr) (m k : Nat), x = .agg #[.bool b, .slice a m k] := by
 obtain ⟨a, cap, rfl, _⟩ := iat_form h
 exact ⟨_, _, _, _, rfl⟩
set_option maxHeartbeats 2000000 in
theorem quotient_any (x y : Value) (a b : Int) (w : World) (hx : IAt w x a) (hy : IAt w y b) (ha : (digsW a.natAbs).length ≤ 400000) (hb : (digsW b.natAbs).length ≤ 400000) (h0 : b ≠ 0) :
  Calls Tryz.prog 42 #[x, y] w (IEnd (a / b) w) := by
 obtain ⟨s, p, m, k, rfl⟩ := iat_shape hx
 obtain ⟨s2, p2, m2, k2, rfl⟩ := iat_shape hy
 have T0 := IBox.new hx
 have b1 := below_one w (.cells #[.bool s, .slice p m k] 32)
 have T1 := IBox.new (iat_keeps hy b1)
 have b2 := below_one (w.alloc (.cells #[.bool s, .slice p m k] 32)) (.cells #[.bool s2, .slice p2 m2 k2] 32)
 have hxy := And.intro (iat_keeps (iat_keeps hx b1) b2) (iat_keeps (iat_keeps hy b1) b2)
 obtain ⟨w3, hw3⟩ : ∃ w3, w3 = ((w.alloc (.cells #[.bool s, .slice p m k] 32)).alloc (.cells #[.bool s2, .slice p2 m2 k2] 32)).alloc (.cells #[.bool false, .slice none 0 0] 32) := ⟨_, rfl⟩
 have hb3 : Below w.heap.size w w3 := by rw [hw3]; exact below_then (below_then b1 b2) (below_one _ _)
 have hl0 : Laid w3 w.heap.size 32 [.bool s, .slice p m k] := by rw [hw3]; exact ((Laid.new w _ _).below b2).below (below_one _ _)
 have hl1 : Laid w3 (w.heap.size + 1) 32 [.bool s2, .slice p2 m2 k2] := by
  rw [hw3]
  have := (Laid.new (w.alloc (.cells #[.bool s, .slice p m k] 32)) 32 [.bool s2, .slice p2 m2 k2]).below (below_one _ (.cells #[.bool false, .slice none 0 0] 32))
  rwa [World.size_alloc] at this
 have hl2 : Laid w3 (w.heap.size + 2) 32 [.bool false, .slice none 0 0] := by
  rw [hw3]
  have := Laid.new ((w.alloc (.cells #[.bool s, .slice p m k] 32)).alloc (.cells #[.bool s2, .slice p2 m2 k2] 32)) 32 [.bool false, .slice none 0 0]
  rwa [World.size_alloc, World.size_alloc] at this
 have hx3 : IAt w3 (.agg #[.bool s, .slice p m k]) a := iat_keeps hx hb3
 have hy3 : IAt w3 (.agg #[.bool s2, .slice p2 m2 k2]) b := iat_keeps hy hb3
 have DV := wDiv_any _ _ a b w3 hx3 hy3 ha hb h0
 unfold DivEndW at DV
 have HDV := Lib.hid DV
 obtain ⟨c0, c1, _, _⟩ := cells2 hl0
 obtain ⟨d0, d1, _, _⟩ := cells2 hl1
 have HL2 := Lib.hid hl2
 have HB3 := Lib.hid hb3
 clear T0 T1 b1 b2 hxy hb3 hl0 hl1 hl2 hx3 hy3 DV hx hy
 go_enter Tryz.func42, Tryz.ntmps42
 go_wp2_with fail
 rw [← hw3]
 clear hw3
 go_must (refine HDV.out.mono ?_)
 rintro e w4 ⟨bq, aq, mq, kq, br, ar, mr, kr, rfl, hq, hr, hb4⟩
 obtain ⟨p1, p2', p3⟩ := ibox_two hq hr
 have HQ := Lib.hid (iat_keeps hq p3)
 have HL4 := Lib.hid ((HL2.out.below hb4).below p3)
 have HB5 := Lib.hid (below_then (below_then HB3.out hb4) p3)
 have HLQ := Lib.hid ((Laid.new w4 32 [.bool bq, .slice aq mq kq]).below (below_one _ (.cells #[.bool br, .slice ar mr kr] 32)))
 obtain ⟨r0, r1, r2, r3⟩ := cells2 HL4.out
 obtain ⟨q0, q1, _, _⟩ := cells2 HLQ.out
 have HE := Lib.hid (iend_store (w := w) HB5.out (by omega) HL4.out HQ.out)
 clear hq hr hb4 p1 p2' p3 c0 c1 d0 d1 HDV
 go_wp2_with fail
 generalize (w4.alloc (.cells #[.bool bq, .slice aq mq kq] 32)).alloc (.cells #[.bool br, .slice ar mr kr] 32) = w5 at *
 refine bodyPost_ret (v := .agg #[.bool bq, .slice aq mq kq]) (by simp [results, Tryz.results42, go_sem, r0, r1]) rfl ?_
 exact HE.out
set_option maxHeartbeats 2000000 in
theorem copied_any (x : Value) (a : Int) (w : World) (hx : IAt w x a) (ha : (digsW a.natAbs).length ≤ 400000) :
  Calls Tryz.prog 50 #[x] w (IEnd a w) := by
 obtain ⟨s, p, m, k, rfl⟩ := iat_shape hx
 obtain ⟨w3, hw3⟩ : ∃ w3, w3 = (w.alloc (.cells #[.bool s, .slice p m k] 32)).alloc (.cells #[.bool false, .slice none 0 0] 32) := ⟨_, rfl⟩
 have b1 := below_one w (.cells #[.bool s, .slice p m k] 32)
 have hb3 : Below w.heap.size w w3 := by rw [hw3]; exact below_then b1 (below_one _ _)
 have hl0 : Laid w3 w.heap.size 32 [.bool s, .slice p m k] := by rw [hw3]; exact (Laid.new w _ _).below (below_one _ _)
 have hl2 : Laid w3 (w.heap.size + 1) 32 [.bool false, .slice none 0 0] := by
  rw [hw3]
  have := Laid.new (w.alloc (.cells #[.bool s, .slice p m k] 32)) 32 [.bool false, .slice none 0 0]
  rwa [World.size_alloc] at this
 have N1 := wNeg_any _ a w3 (iat_keeps hx hb3) ha
 have N2 : Hid (∀ w4 y, IAt w4 y (-a) → Calls Tryz.prog 51 #[y] w4 (IEnd a w4)) := Lib.hid (fun w4 y h => by
  have := wNeg_any y (-a) w4 h (by rwa [Int.natAbs_neg])
  rwa [Int.neg_neg] at this)
 unfold IEnd at N1 N2
 have HN1 := Lib.hid N1
 obtain ⟨c0, c1, _, _⟩ := cells2 hl0
 have HL2 := Lib.hid hl2
 have HB3 := Lib.hid hb3
 clear b1 hb3 hl0 hl2 N1 hx
 go_enter Tryz.func50, Tryz.ntmps50
 go_wp2_with fail
 rw [← hw3]
 clear hw3
 go_must (refine HN1.out.mono ?_)
 rintro e w4 ⟨b4, a4, m4, k4, rfl, hx4, hb4⟩
 have HN2 := Lib.hid (N2.out _ _ hx4)
 have HB4 := Lib.hid (below_then HB3.out hb4)
 have HL4 := Lib.hid (HL2.out.below hb4)
 clear hx4 hb4 N2 HN1 c0 c1
 go_wp2_with fail
 go_must (refine HN2.out.mono ?_)
 rintro e w5 ⟨b5, a5, m5, k5, rfl, hx5, hb5⟩
 have HL5 := Lib.hid (HL4.out.below hb5)
 obtain ⟨r0, r1, r2, r3⟩ := cells2 HL5.out
 have HE := Lib.hid (iend_store (w := w) (below_then HB4.out hb5) (Nat.le_succ _) HL5.out hx5)
 clear hx5 hb5 HN2
 go_wp2_with fail
 refine bodyPost_ret (v := .agg #[.bool b5, .slice a5 m5 k5]) (by simp [results, Tryz.results50, go_sem, r0, r1]) rfl ?_
 exact HE.out
def denZ (q : Int) : Int := if q = 1 then 0 else q
def FAt (W : World) (x : Value) (p q : Int) : Prop := ∃ (s t : Bool) (a b : Option Addr) (m n c d : Nat), x = .agg #[.bool s, .slice a m c, .bool t, .slice b n d] ∧ IAt W (.agg #[.bool s, .slice a m c]) p ∧ IAt W (.agg #[.bool t, .slice b n d]) (denZ q)
theorem fat_keeps {W W2 : World} {x : Value} {p q : Int} (h : FAt W x p q) (hb : Below W.heap.size W W2) : FAt W2 x p q := by
 obtain ⟨s, t, a, b, m, n, c, d, rfl, h1, h2⟩ := h
 exact ⟨s, t, a, b, m, n, c, d, rfl, iat_keeps h1 hb, iat_keeps h2 hb⟩
theorem cellsF {W : World} {r : Nat} {T : TypeId} {x0 x1 x2 x3 : Value} (h : Laid W r T [x0, x1, x2, x3]) :
  (W.cell? ⟨r, 0, none⟩ = some x0 ∧ W.cell? ⟨r, 1, none⟩ = some x1 ∧ W.cell? ⟨r, 2, none⟩ = some x2 ∧ W.cell? ⟨r, 3, none⟩ = some x3) ∧ (W.frozen? ⟨r, 0, none⟩ = false ∧ W.frozen? ⟨r, 1, none⟩ = false ∧ W.frozen? ⟨r, 2, none⟩ = false ∧ W.frozen? ⟨r, 3, none⟩ = false) :=
 ⟨⟨h.cell 0, h.cell 1, h.cell 2, h.cell 3⟩, ⟨h.frozen 0, h.frozen 1, h.frozen 2, h.frozen 3⟩⟩
def BoolEndW (r : Bool) (w : World) (e : Ending) (w' : World) : Prop := e = .returned (.bool r) ∧ Below w.heap.size w w'
theorem sign_den {q : Int} (h : 1 ≤ q) : cmpZ (denZ q) 0 = if q = 1 then 0 else 1 := by
 unfold denZ cmpZ
 split
 ·rfl
 ·rw [if_neg (by omega), if_pos (by omega)]
theorem denZ_len {q : Int} {k : Nat} (h : (digsW q.natAbs).length ≤ k) : (digsW (denZ q).natAbs).length ≤ k := by
 unfold denZ
 split
 ·rw [show (0 : Int).natAbs = 0 from rfl, digs_zeroW]; exact Nat.zero_le _
 ·exact h
set_option maxHeartbeats 2000000 in
theorem isWhole_any (x : Value) (p q : Int) (r : Bool) (w : World) (hx : FAt w x p q) (hq : 1 ≤ q) (hl : (digsW q.natAbs).length ≤ 400000) (hr : (r = true ∧ q = 1) ∨ (r = false ∧ q ≠ 1)) :
  Calls Tryz.prog 57 #[x] w (BoolEndW r w) := by
 obtain ⟨s, t, a, b, m, n, c, d, rfl, h1, h2⟩ := hx
 have b1 := below_one w (.cells #[.bool s, .slice a m c, .bool t, .slice b n d] 34)
 have hl1 := Laid.new w 34 [.bool s, .slice a m c, .bool t, .slice b n d]
 obtain ⟨w2, hw2⟩ : ∃ w2, w2 = w.alloc (.cells #[.bool s, .slice a m c, .bool t, .slice b n d] 34) := ⟨_, rfl⟩
 rw [← hw2] at b1
 have hl2 : Laid w2 w.heap.size 34 [.bool s, .slice a m c, .bool t, .slice b n d] := by rw [hw2]; exact hl1
 have SG := wSign_any _ (denZ q) w2 (iat_keeps h2 b1) (denZ_len hl)
 rw [sign_den hq] at SG
 unfold CmpEnd at SG
 have HSG := Lib.hid SG
 have HB := Lib.hid b1
 obtain ⟨⟨c0, c1, c2, c3⟩, _⟩ := cellsF hl2
 clear hl1 hl2 SG b1 h1 h2
 rcases hr with ⟨rfl, rfl⟩ | ⟨rfl, hq1⟩
 ·rw [if_pos rfl] at HSG
  go_enter Tryz.func57, Tryz.ntmps57
  go_wp2_with fail
  rw [← hw2]
  clear hw2
  go_must (refine HSG.out.mono ?_)
  rintro e w3 ⟨rfl, hb3⟩
  have HE := Lib.hid (below_then HB.out hb3)
  clear hb3 HSG
  go_wp2_with fail
  go_ret
  exact ⟨rfl, HE.out⟩
 ·rw [if_neg hq1] at HSG
  go_enter Tryz.func57, Tryz.ntmps57
  go_wp2_with fail
  rw [← hw2]
  clear hw2
  go_must (refine HSG.out.mono ?_)
  rintro e w3 ⟨rfl, hb3⟩
  have HE := Lib.hid (below_then HB.out hb3)
  clear hb3 HSG
  go_wp2_with fail
  go_ret
  exact ⟨rfl, HE.out⟩
set_option maxHeartbeats 2000000 in
theorem below_den (x : Value) (p q : Int) (w : World) (hx : FAt w x p q) (hq : 1 ≤ q) (hl : (digsW q.natAbs).length ≤ 400000) :
  Calls Tryz.prog 34 #[x] w (IEnd q w) := by
 have hx0 := hx
 obtain ⟨s, t, a, b, m, n, c, d, rfl, h1, h2⟩ := hx
 obtain ⟨w2, hw2⟩ : ∃ w2, w2 = (w.alloc (.cells #[.bool s, .slice a m c, .bool t, .slice b n d] 34)).alloc (.cells #[.bool false, .slice none 0 0] 32) := ⟨_, rfl⟩
 have b1 := below_one w (.cells #[.bool s, .slice a m c, .bool t, .slice b n d] 34)
 have hb2 : Below w.heap.size w w2 := by rw [hw2]; exact below_then b1 (below_one _ _)
 have hl1 : Laid w2 w.heap.size 34 [.bool s, .slice a m c, .bool t, .slice b n d] := by rw [hw2]; exact (Laid.new w _ _).below (below_one _ _)
 have hl2 : Laid w2 (w.heap.size + 1) 32 [.bool false, .slice none 0 0] := by
  rw [hw2]
  have := Laid.new (w.alloc (.cells #[.bool s, .slice a m c, .bool t, .slice b n d] 34)) 32 [.bool false, .slice none 0 0]
  rwa [World.size_alloc] at this
 have IW : Hid (∀ r, (r = true ∧ q = 1) ∨ (r = false ∧ q ≠ 1) → Calls Tryz.prog 57 #[.agg #[.bool s, .slice a m c, .bool t, .slice b n d]] w2 (BoolEndW r w2)) := Lib.hid (fun r hr => isWhole_any _ p q r w2 (fat_keeps hx0 hb2) hq hl hr)
 unfold BoolEndW at IW
 have HL1 := Lib.hid hl1
 have HL2 := Lib.hid hl2
 have HB2 := Lib.hid hb2
 have HD := Lib.hid h2
 obtain ⟨⟨c0, c1, c2, c3⟩, _⟩ := cellsF hl1
 clear b1 hb2 hl1 hl2 h1 h2 hx0
 rcases Classical.em (q = 1) with hq1 | hq1
 ·have IW1 := Lib.hid (IW.out true (.inl ⟨rfl, hq1⟩))
  have FR : Hid (∀ w3, Calls Tryz.prog 62 #[.int .i64 1] w3 (IEnd q w3)) := Lib.hid (fun w3 => by rw [hq1]; exact wFrom_any 1 w3 (by decide))
  unfold IEnd at FR
  clear IW hq1 hq
  go_enter Tryz.func34, Tryz.ntmps34
  go_wp2_with fail
  rw [← hw2]
  clear hw2
  go_must (refine IW1.out.mono ?_)
  rintro e w3 ⟨rfl, hb3⟩
  have HB3 := Lib.hid (below_then HB2.out hb3)
  have HL3 := Lib.hid (HL2.out.below hb3)
  have FR1 := Lib.hid (FR.out w3)
  clear hb3 IW1 FR c0 c1 c2 c3
  go_wp2_with fail
  go_must (refine FR1.out.mono ?_)
  rintro e w5 ⟨b5, a5, m5, k5, rfl, hx5, hb5⟩
  have HL5 := Lib.hid (HL3.out.below hb5)
  obtain ⟨r0, r1, r2, r3⟩ := cells2 HL5.out
  have HE := Lib.hid (iend_store (w := w) (below_then HB3.out hb5) (Nat.le_succ _) HL5.out hx5)
  clear hx5 hb5 FR1
  go_wp2_with fail
  refine bodyPost_ret (v := .agg #[.bool b5, .slice a5 m5 k5]) (by simp [results, Tryz.results34, go_sem, r0, r1]) rfl ?_
  exact HE.out
 ·have IW1 := Lib.hid (IW.out false (.inr ⟨rfl, hq1⟩))
  have HDQ : Hid (denZ q = q) := Lib.hid (by unfold denZ; rw [if_neg hq1])
  clear IW hq1 hq
  go_enter Tryz.func34, Tryz.ntmps34
  go_wp2_with fail
  rw [← hw2]
  clear hw2
  go_must (refine IW1.out.mono ?_)
  rintro e w3 ⟨rfl, hb3⟩
  have hbw := below_then HB2.out hb3
  have HL3 := Lib.hid (HL2.out.below hb3)
  obtain ⟨⟨d0, d1, d2, d3⟩, _⟩ := cellsF (HL1.out.below hb3)
  obtain ⟨r0, r1, r2, r3⟩ := cells2 HL3.out
  have hd := iat_keeps HD.out hbw
  rw [HDQ.out] at hd
  have HE := Lib.hid (iend_store (w := w) hbw (Nat.le_succ _) HL3.out hd)
  clear hb3 hbw hd IW1 c0 c1 c2 c3
  go_wp2_with fail
  refine bodyPost_ret (v := .agg #[.bool t, .slice b n d]) (by simp [results, Tryz.results34, go_sem, r0, r1]) rfl ?_
  exact HE.out
def FEnd (p q : Int) (w : World) (e : Ending) (w' : World) : Prop := ∃ v, e = .returned v ∧ FAt w' v p q ∧ Below w.heap.size w w'
theorem below_set4 {W X : World} {p : Nat} {u0 u1 u2 u3 : Value} (h : Below W.heap.size W X) (hp : W.heap.size ≤ p) : Below W.heap.size W ((((X.setCell ⟨p, 0, none⟩ u0).setCell ⟨p, 1, none⟩ u1).setCell ⟨p, 2, none⟩ u2).setCell ⟨p, 3, none⟩ u3) :=
 (((h.setCell (p := ⟨p, 0, none⟩) hp _).setCell (p := ⟨p, 1, none⟩) hp _).setCell (p := ⟨p, 2, none⟩) hp _).setCell (p := ⟨p, 3, none⟩) hp _
set_option maxHeartbeats 4000000 in
theorem lowest_any (x y : Value) (p q : Int) (w : World) (hx : IAt w x p) (hy : IAt w y q) (hq : 1 ≤ q) (hl : (digsW q.natAbs).length ≤ 400000) :
  Calls Tryz.prog 43 #[x, y] w (FEnd p q w) := by
 obtain ⟨s, a, m, c, rfl⟩ := iat_shape hx
 obtain ⟨t, b, n, d, rfl⟩ := iat_shape hy
 obtain ⟨w3, hw3⟩ : ∃ w3, w3 = ((w.alloc (.cells #[.bool s, .slice a m c] 32)).alloc (.cells #[.bool t, .slice b n d] 32)).alloc (.cells #[.bool false, .slice none 0 0, .bool false, .slice none 0 0] 34) := ⟨_, rfl⟩
 have b1 := below_one w (.cells #[.bool s, .slice a m c] 32)
 have b2 := below_one (w.alloc (.cells #[.bool s, .slice a m c] 32)) (.cells #[.bool t, .slice b n d] 32)
 have hb3 : Below w.heap.size w w3 := by rw [hw3]; exact below_then (below_then b1 b2) (below_one _ _)
 have hl0 : Laid w3 w.heap.size 32 [.bool s, .slice a m c] := by rw [hw3]; exact ((Laid.new w _ _).below b2).below (below_one _ _)
 have hl1 : Laid w3 (w.heap.size + 1) 32 [.bool t, .slice b n d] := by
  rw [hw3]
  have := (Laid.new (w.alloc (.cells #[.bool s, .slice a m c] 32)) 32 [.bool t, .slice b n d]).below (below_one _ (.cells #[.bool false, .slice none 0 0, .bool false, .slice none 0 0] 34))
  rwa [World.size_alloc] at this
 have hl2 : Laid w3 (w.heap.size + 2) 34 [.bool false, .slice none 0 0, .bool false, .slice none 0 0] := by
  rw [hw3]
  have := Laid.new ((w.alloc (.cells #[.bool s, .slice a m c] 32)).alloc (.cells #[.bool t, .slice b n d] 32)) 34 [.bool false, .slice none 0 0, .bool false, .slice none 0 0]
  rwa [World.size_alloc, World.size_alloc] at this
 have HFR : Hid (∀ w4, Calls Tryz.prog 62 #[.int .i64 1] w4 (IEnd 1 w4)) := Lib.hid (fun w4 => wFrom_any 1 w4 (by decide))
 obtain ⟨k, hk⟩ : ∃ k : Int, k = cmpZ q 1 := ⟨_, rfl⟩
 have HCM : Hid (∀ w4 z, Below w3.heap.size w3 w4 → IAt w4 z 1 → Calls Tryz.prog 35 #[.agg #[.bool t, .slice b n d], z] w4 (CmpEnd k w4)) := Lib.hid (fun w4 z h h2 => hk ▸ wCompare_any _ z q 1 w4 (iat_keeps (iat_keeps hy hb3) h) h2 hl (by have := (small_of (n := 1) (K := 1) (by decide) (by decide)).words; omega))
 have HK : Hid ((k = 0 ∧ q = 1) ∨ (k = 1 ∧ q ≠ 1)) := Lib.hid (by
  rw [hk]; unfold cmpZ
  rcases Classical.em (q = 1) with h | h
  ·rw [if_neg (by omega), if_neg (by omega)]; exact .inl ⟨rfl, h⟩
  ·rw [if_neg (by omega), if_pos (by omega)]; exact .inr ⟨rfl, h⟩)
 unfold IEnd at HFR
 unfold CmpEnd at HCM
 have CELLS : Hid (∀ X : World, Below w3.heap.size w3 X → X.cell? ⟨w.heap.size + 1, 0, none⟩ = some (.bool t) ∧ X.cell? ⟨w.heap.size + 1, 1, none⟩ = some (.slice b n d)) := Lib.hid (fun X h => by
  obtain ⟨e0, e1, _, _⟩ := cells2 (hl1.below h)
  exact ⟨e0, e1⟩)
 have HB : Hid (Below w3.heap.size w3 w3.drew) := Lib.hid (Below.refl _ _).drew
 have HB3 := Lib.hid hb3
 have HL0 := Lib.hid hl0
 have HL1 := Lib.hid hl1
 have HL2 := Lib.hid hl2
 have HX := Lib.hid hx
 have HY := Lib.hid hy
 clear b1 b2 hb3 hl0 hl1 hl2 hx hy hk hl hq
 rcases HK.out with ⟨rfl, hq1⟩ | ⟨rfl, hq1⟩
 all_goals
  have HQ1 := Lib.hid hq1
  clear HK hq1
  go_enter Tryz.func43, Tryz.ntmps43
  go_wp2_with fail
  rw [← hw3]
  clear hw3
  go_region_held3 (fun X : World => X.cell? ⟨w.heap.size + 1, 0, none⟩ = some (.bool t) ∧ X.cell? ⟨w.heap.size + 1, 1, none⟩ = some (.slice b n d)) (with_reducible first | exact CELLS.out _ HB.out) (first
   | (go_at_call 62; ((with_reducible refine (HFR.out _).mono ?_); rintro e w4 ⟨b4, a4, m4, k4, rfl, hx4, hb4⟩); have UB := Lib.hid (below_then HB.out hb4); clear HB; have HB := UB; clear UB; have CP := Lib.hid (HCM.out _ _ HB.out hx4); clear hx4 hb4)
   | (go_at_call 35; ((with_reducible refine CP.out.mono ?_); rintro e w5 ⟨rfl, hb5⟩); have UB := Lib.hid (below_then HB.out hb5); clear HB; have HB := UB; clear UB; clear hb5))
  clear HFR HCM CELLS
  obtain ⟨c0, c1, _, _⟩ := cells2 (HL0.out.below HB.out)
  obtain ⟨d0, d1, _, _⟩ := cells2 (HL1.out.below HB.out)
  obtain ⟨⟨r0, r1, r2, r3⟩, r4, r5, r6, r7⟩ := cellsF (HL2.out.below HB.out)
  have HBW := Lib.hid (below_then HB3.out HB.out)
  go_wp2_with fail
 ·have HE := Lib.hid (below_set4 (p := w.heap.size + 2) (u0 := .bool s) (u1 := .slice a m c) (u2 := .bool false) (u3 := .slice none 0 0) HBW.out (by omega))
  refine bodyPost_ret (v := .agg #[.bool s, .slice a m c, .bool false, .slice none 0 0]) (by simp [results, Tryz.results43, go_sem, r0, r1, r2, r3]) rfl ?_
  refine ⟨_, rfl, ⟨s, false, a, none, m, 0, c, 0, rfl, iat_keeps HX.out HE.out, ?_⟩, HE.out⟩
  unfold denZ; rw [if_pos HQ1.out]; exact iat_zero _
 ·have HE := Lib.hid (below_set4 (p := w.heap.size + 2) (u0 := .bool s) (u1 := .slice a m c) (u2 := .bool t) (u3 := .slice b n d) HBW.out (by omega))
  refine bodyPost_ret (v := .agg #[.bool s, .slice a m c, .bool t, .slice b n d]) (by simp [results, Tryz.results43, go_sem, r0, r1, r2, r3]) rfl ?_
  refine ⟨_, rfl, ⟨s, t, a, b, m, n, c, d, rfl, iat_keeps HX.out HE.out, ?_⟩, HE.out⟩
  unfold denZ; rw [if_neg HQ1.out]; exact iat_keeps HY.out HE.out
set_option maxHeartbeats 2000000 in
theorem fSign_any (x : Value) (p q : Int) (w : World) (hx : FAt w x p q) (hl : (digsW p.natAbs).length ≤ 400000) :
  Calls Tryz.prog 7 #[x] w (CmpEnd (cmpZ p 0) w) := by
 obtain ⟨s, t, a, b, m, n, c, d, rfl, h1, h2⟩ := hx
 obtain ⟨w2, hw2⟩ : ∃ w2, w2 = w.alloc (.cells #[.bool s, .slice a m c, .bool t, .slice b n d] 34) := ⟨_, rfl⟩
 have b1 : Below w.heap.size w w2 := by rw [hw2]; exact below_one _ _
 have hl2 : Laid w2 w.heap.size 34 [.bool s, .slice a m c, .bool t, .slice b n d] := by rw [hw2]; exact Laid.new _ _ _
 have SG := wSign_any _ p w2 (iat_keeps h1 b1) hl
 unfold CmpEnd at SG
 have HSG := Lib.hid SG
 have HB := Lib.hid b1
 obtain ⟨⟨c0, c1, c2, c3⟩, _⟩ := cellsF hl2
 clear hl2 SG b1 h1 h2
 go_enter Tryz.func7, Tryz.ntmps7
 go_wp2_with fail
 rw [← hw2]
 clear hw2
 go_must (refine HSG.out.mono ?_)
 rintro e w3 ⟨rfl, hb3⟩
 have HE := Lib.hid (below_then HB.out hb3)
 clear hb3 HSG
 go_wp2_with fail
 go_ret
 exact ⟨rfl, HE.out⟩
set_option maxHeartbeats 2000000 in
theorem num_any (x : Value) (p q : Int) (w : World) (hx : FAt w x p q) (hq : 1 ≤ q) (hp : (digsW p.natAbs).length ≤ 400000) (hl : (digsW q.natAbs).length ≤ 400000) :
  Calls Tryz.prog 15 #[x] w (IEnd p w) := by
 have hx0 := hx
 obtain ⟨s, t, a, b, m, n, c, d, rfl, h1, h2⟩ := hx
 obtain ⟨w2, hw2⟩ : ∃ w2, w2 = (w.alloc (.cells #[.bool s, .slice a m c, .bool t, .slice b n d] 34)).alloc (.cells #[.bool false, .slice none 0 0] 32) := ⟨_, rfl⟩
 have b1 := below_one w (.cells #[.bool s, .slice a m c, .bool t, .slice b n d] 34)
 have hb2 : Below w.heap.size w w2 := by rw [hw2]; exact below_then b1 (below_one _ _)
 have hl1 : Laid w2 w.heap.size 34 [.bool s, .slice a m c, .bool t, .slice b n d] := by rw [hw2]; exact (Laid.new w _ _).below (below_one _ _)
 have hl2 : Laid w2 (w.heap.size + 1) 32 [.bool false, .slice none 0 0] := by
  rw [hw2]
  have := Laid.new (w.alloc (.cells #[.bool s, .slice a m c, .bool t, .slice b n d] 34)) 32 [.bool false, .slice none 0 0]
  rwa [World.size_alloc] at this
 have CO := copied_any _ p w2 (iat_keeps h1 hb2) hp
 unfold IEnd at CO
 have HCO := Lib.hid CO
 clear CO
 have HL2 := Lib.hid hl2
 have HB2 := Lib.hid hb2
 obtain ⟨⟨c0, c1, c2, c3⟩, _⟩ := cellsF hl1
 clear b1 hb2 hl1 hl2 h1 h2 hx0
 go_enter Tryz.func15, Tryz.ntmps15
 go_wp2_with fail
 rw [← hw2]
 clear hw2
 go_must (refine HCO.out.mono ?_)
 rintro e w5 ⟨b5, a5, m5, k5, rfl, hx5, hb5⟩
 have HL5 := Lib.hid (HL2.out.below hb5)
 obtain ⟨r0, r1, r2, r3⟩ := cells2 HL5.out
 have HE := Lib.hid (iend_store (w := w) (below_then HB2.out hb5) (Nat.le_succ _) HL5.out hx5)
 clear hx5 hb5 HCO
 go_wp2_with fail
 refine bodyPost_ret (v := .agg #[.bool b5, .slice a5 m5 k5]) (by simp [results, Tryz.results15, go_sem, r0, r1]) rfl ?_
 exact HE.out
set_option maxHeartbeats 2000000 in
theorem den_any (x : Value) (p q : Int) (w : World) (hx : FAt w x p q) (hq : 1 ≤ q) (hp : (digsW p.natAbs).length ≤ 400000) (hl : (digsW q.natAbs).length ≤ 400000) :
  Calls Tryz.prog 16 #[x] w (IEnd q w) := by
 have hx0 := hx
 obtain ⟨s, t, a, b, m, n, c, d, rfl, h1, h2⟩ := hx
 obtain ⟨w2, hw2⟩ : ∃ w2, w2 = (w.alloc (.cells #[.bool s, .slice a m c, .bool t, .slice b n d] 34)).alloc (.cells #[.bool false, .slice none 0 0] 32) := ⟨_, rfl⟩
 have b1 := below_one w (.cells #[.bool s, .slice a m c, .bool t, .slice b n d] 34)
 have hb2 : Below w.heap.size w w2 := by rw [hw2]; exact below_then b1 (below_one _ _)
 have hl1 : Laid w2 w.heap.size 34 [.bool s, .slice a m c, .bool t, .slice b n d] := by rw [hw2]; exact (Laid.new w _ _).below (below_one _ _)
 have hl2 : Laid w2 (w.heap.size + 1) 32 [.bool false, .slice none 0 0] := by
  rw [hw2]
  have := Laid.new (w.alloc (.cells #[.bool s, .slice a m c, .bool t, .slice b n d] 34)) 32 [.bool false, .slice none 0 0]
  rwa [World.size_alloc] at this
 have BD := below_den _ p q w2 (fat_keeps hx0 hb2) hq hl
 unfold IEnd at BD
 have HBD := Lib.hid BD
 have CO : Hid (∀ w3 y, IAt w3 y q → Calls Tryz.prog 50 #[y] w3 (IEnd q w3)) := Lib.hid (fun w3 y h => copied_any y q w3 h hl)
 unfold IEnd at CO
 clear BD
 have HL2 := Lib.hid hl2
 have HB2 := Lib.hid hb2
 obtain ⟨⟨c0, c1, c2, c3⟩, _⟩ := cellsF hl1
 clear b1 hb2 hl1 hl2 h1 h2 hx0
 go_enter Tryz.func16, Tryz.ntmps16
 go_wp2_with fail
 rw [← hw2]
 clear hw2
 go_must (refine HBD.out.mono ?_)
 rintro e w4 ⟨b4, a4, m4, k4, rfl, hx4, hb4⟩
 have HCO := Lib.hid (CO.out _ _ hx4)
 have U1 := Lib.hid (HL2.out.below hb4)
 have U2 := Lib.hid (below_then HB2.out hb4)
 clear hx4 hb4 CO HBD HL2 HB2 c0 c1 c2 c3
 have HL2 := U1
 have HB2 := U2
 clear U1 U2
 go_wp2_with fail
 go_must (refine HCO.out.mono ?_)
 rintro e w5 ⟨b5, a5, m5, k5, rfl, hx5, hb5⟩
 have HL5 := Lib.hid (HL2.out.below hb5)
 obtain ⟨r0, r1, r2, r3⟩ := cells2 HL5.out
 have HE := Lib.hid (iend_store (w := w) (below_then HB2.out hb5) (Nat.le_succ _) HL5.out hx5)
 clear hx5 hb5 HCO
 go_wp2_with fail
 refine bodyPost_ret (v := .agg #[.bool b5, .slice a5 m5 k5]) (by simp [results, Tryz.results16, go_sem, r0, r1]) rfl ?_
 exact HE.out
set_option maxHeartbeats 4000000 in
theorem fProduct_any (x : Value) (a b : Int) (g : Nat) (s2 : Bool) (p2 : Option Addr) (m2 k2 : Nat) (w : World) (hx : IAt w x a) (hy : IAt w (.agg #[.bool s2, .slice p2 m2 k2]) b) (hg : g < w.heap.size) (hg0 : w.cell? ⟨g, 0, none⟩ = some (.bool s2)) (hg1 : w.cell? ⟨g, 1, none⟩ = some (.slice p2 m2 k2))
  (ha : (digsW a.natAbs).length ≤ 400000) (hb : (digsW b.natAbs).length ≤ 400000) :
  Calls Tryz.prog 36 #[x, .slice (some ⟨g, 0, none⟩) 1 1] w (REndW (a * b) w) := by
 obtain ⟨s, p, m, k, rfl⟩ := iat_shape hx
 have T1 : IBox ((w.alloc (.cells #[.bool s, .slice p m k] 32)).alloc (.cells #[.bool s, .slice p m k] 32)) (w.heap.size + 1) a := by
  have := IBox.new (iat_keeps hx (below_one w (.cells #[.bool s, .slice p m k] 32)))
  rwa [World.size_alloc] at this
 have HB0 := Lib.hid (below_then (below_one w (.cells #[.bool s, .slice p m k] 32)) (below_one _ (.cells #[.bool s, .slice p m k] 32)))
 have HT1 := Lib.hid T1
 have HG0 := Lib.hid hg0
 have HG1 := Lib.hid hg1
 have HGL := Lib.hid hg
 have HY := Lib.hid hy
 clear T1 hx hg0 hg1 hg hy
 go_enter Tryz.func36, Tryz.ntmps36
 go_wp2_with fail
 generalize (w.alloc (.cells #[.bool s, .slice p m k] 32)).alloc (.cells #[.bool s, .slice p m k] 32) = W0 at *
 go_loopw [5, 7, 11] (fun ev _ iv wr => ∃ j : Nat, iv = .int .i64 (j : Int) ∧ j ≤ 1 ∧ ev = .int .i64 0 ∧ Hid (IBox wr (w.heap.size + 1) (if j = 0 then a else a * b)) ∧ Hid (j ≤ 0 ∨ ¬ big (a * b)) ∧ Hid (Below w.heap.size w wr)) (fun _ _ iv _ => (1 - intOf iv).toNat)
 case atStart => exact ⟨0, rfl, by decide, rfl, HT1, Lib.hid (.inl (Nat.le_refl _)), HB0⟩
 case round =>
  clear HT1 HB0
  obtain ⟨j, rfl, hj, rfl, HT, HBG, HB⟩ := hrel
  obtain rfl | rfl : j = 0 ∨ j = 1 := by omega
  ·rw [if_pos rfl] at HT
   obtain ⟨sr, ar, mr, cr, hlr, hir⟩ := HT.out
   obtain ⟨r0, r1, r2, r3⟩ := cells2 hlr
   have q0 : wr.cell? ⟨g, 0, none⟩ = some (.bool s2) := (HB.out.cell (p := ⟨g, 0, none⟩) HGL.out).trans HG0.out
   have q1 : wr.cell? ⟨g, 1, none⟩ = some (.slice p2 m2 k2) := (HB.out.cell (p := ⟨g, 1, none⟩) HGL.out).trans HG1.out
   have hal := below_one wr (.cells #[.bool s2, .slice p2 m2 k2] 32)
   have MU := wMul_any _ _ a b _ (iat_keeps hir hal) (iat_keeps (iat_keeps HY.out HB.out) hal) ha hb
   have HMU := Lib.hid MU
   have HLR := Lib.hid (hlr.below hal)
   have HBA := Lib.hid (below_then HB.out hal)
   have hlt8 := HT.out.lt
   have hgw : g < wr.heap.size := Nat.lt_of_lt_of_le HGL.out HB.out.size
   clear hlr hir MU hal HT
   rw [show ((0 : Nat) : Int) = 0 from rfl]
   go_wp2_with fail
   generalize wr.alloc (.cells #[.bool s2, .slice p2 m2 k2] 32) = w5 at *
   clear r0 r1 r2 r3 q0 q1
   go_must (refine HMU.out.mono ?_)
   rintro e w6 hw6
   obtain ⟨b6, a6, m6, k6, c6, rfl, hy6, hb6⟩ := rend_form hw6
   have HL6 := Lib.hid (HLR.out.below hb6)
   obtain ⟨r0, r1, r2, r3⟩ := cells2 HL6.out
   have HB6 := Lib.hid (below_then HBA.out hb6)
   have HB7 := Lib.hid (below_set2 (p := w.heap.size + 1) (u := .bool b6) (v := .slice a6 m6 k6) HB6.out (Nat.le_succ _))
   have HY6 := Lib.hid hy6
   clear hw6 hy6 hb6 HMU HLR HBA
   rcases HY6.out with ⟨hnb, rfl, hx6⟩ | ⟨hbig, rfl, rfl, rfl, rfl, rfl⟩
   ·have HI := Lib.hid (iat_store HL6.out hx6)
    have HLS := Lib.hid ((HL6.out.set 0 (.bool b6)).set 1 (.slice a6 m6 k6))
    have HNB := Lib.hid (show (1 : Nat) ≤ 0 ∨ ¬ big (a * b) from .inr hnb)
    have HTB : Hid (IBox ((w6.setCell ⟨w.heap.size + 1, 0, none⟩ (.bool b6)).setCell ⟨w.heap.size + 1, 1, none⟩ (.slice a6 m6 k6)) (w.heap.size + 1) (if (1 : Nat) = 0 then a else a * b)) := Lib.hid (by rw [if_neg (by decide)]; exact ⟨b6, a6, m6, k6, HLS.out, HI.out⟩)
    clear hnb hx6 HY6 HI HLS
    go_wp2_with fail
    go_roundw
    case rel => exact ⟨1, by first | rfl | go_num, by decide, rfl, HTB, HNB, HB7⟩
    case measure => simp [intOf]
   ·have HBI := Lib.hid hbig
    have HLS := Lib.hid ((HL6.out.set 0 (.bool false)).set 1 (.slice none 0 0))
    clear hbig HY6
    go_wp2_with fail
    obtain ⟨v0, v1, v2, v3⟩ := cells2 HLS.out
    clear r0 r1 r2 r3
    refine bodyPost_ret (v := .tuple #[.agg #[.bool false, .slice none 0 0], .int .i64 4]) (by simp [results, Tryz.results36, go_sem, v0, v1]) rfl ?_
    exact ⟨_, _, rfl, .inr ⟨HBI.out, rfl, rfl⟩, below_set2 HB7.out (Nat.le_succ _)⟩
  ·rw [if_neg (by decide)] at HT
   obtain ⟨sr, ar, mr, cr, hlr, hir⟩ := HT.out
   obtain ⟨r0, r1, r2, r3⟩ := cells2 hlr
   have HI := Lib.hid (iat_store hlr hir)
   have HB7 := Lib.hid (below_set2 (p := w.heap.size + 1) (u := .bool sr) (v := .slice ar mr cr) HB.out (Nat.le_succ _))
   have HNB : Hid (¬ big (a * b)) := Lib.hid (HBG.out.resolve_left (by decide))
   clear hlr hir HT HBG
   rw [show ((1 : Nat) : Int) = 1 from rfl]
   go_wp2_with fail
   refine bodyPost_ret (v := .tuple #[.agg #[.bool sr, .slice ar mr cr], .int .i64 0]) (by simp [results, Tryz.results36, go_sem, r0, r1]) rfl ?_
   exact ⟨_, _, rfl, .inl ⟨HNB.out, rfl, HI.out⟩, HB7.out⟩
def orI (c1 c2 : Int) : Int := if c1 = 0 then c2 else c1
set_option maxHeartbeats 2000000 in
theorem or2_any (g : Nat) (c1 c2 : Int) (w : World) (h0 : w.cell? ⟨g, 0, none⟩ = some (.int .i64 c1)) (h1 : w.cell? ⟨g, 1, none⟩ = some (.int .i64 c2)) :
  Calls Tryz.prog 37 #[.slice (some ⟨g, 0, none⟩) 2 2] w fun e w' => e = .returned (.int .i64 (orI c1 c2)) ∧ w = w' := by
 go_enter Tryz.func37, Tryz.ntmps37
 go_wp2_with fail
 go_loop [8] (fun iv => ∃ j : Nat, iv = .int .i64 (j : Int) ∧ j ≤ 2 ∧ Hid ((1 ≤ j → c1 = 0) ∧ (j = 2 → c2 = 0))) (fun iv => (2 - intOf iv).toNat)
 case atStart => exact ⟨0, rfl, by decide, Lib.hid ⟨fun h => by omega, fun h => by omega⟩⟩
 case round =>
  obtain ⟨j, rfl, hj, HJ⟩ := hrel
  obtain rfl | rfl | rfl : j = 0 ∨ j = 1 ∨ j = 2 := by omega
  ·rw [show ((0 : Nat) : Int) = 0 from rfl]
   rcases Classical.em (c1 = 0) with hc | hc
   ·subst hc
    go_wp2_with fail
    go_round
    case rel => exact ⟨1, by first | rfl | go_num, by decide, Lib.hid ⟨fun _ => by first | trivial | rfl, fun h => by first | trivial | omega⟩⟩
    case measure => simp [intOf]
   ·have HC : Hid (orI c1 c2 = c1) := Lib.hid (by unfold orI; rw [if_neg hc])
    go_wp2_with fail
    go_ret
    exact ⟨by rw [HC.out]; rfl, rfl⟩
  ·have hz := HJ.out.1 (Nat.le_refl _)
   subst hz
   rw [show ((1 : Nat) : Int) = 1 from rfl]
   rcases Classical.em (c2 = 0) with hc | hc
   ·subst hc
    go_wp2_with fail
    go_round
    case rel => exact ⟨2, by first | rfl | go_num, by decide, Lib.hid ⟨fun _ => by first | trivial | rfl, fun _ => by first | trivial | rfl⟩⟩
    case measure => simp [intOf]
   ·have HC : Hid (orI 0 c2 = c2) := Lib.hid (by unfold orI; rw [if_pos rfl])
    go_wp2_with fail
    go_ret
    exact ⟨by rw [HC.out]; rfl, rfl⟩
  ·have hz := HJ.out.1 (by decide)
   have hz2 := HJ.out.2 rfl
   subst hz
   subst hz2
   rw [show ((2 : Nat) : Int) = 2 from rfl]
   go_wp2_with fail
   go_ret
   exact ⟨rfl, rfl⟩
def slashS : ByteArray := { data := #[47] }
noncomputable def fTxt (p q : Int) : ByteArray := if q = 1 then txtS p else txtS p ++ slashS ++ txtS q
theorem txt_words {n : Int} {L : Nat} (h : (digsW n.natAbs).length ≤ L) (h0 : 1 ≤ L) : (txtS n).size ≤ 10 * L + 1 := by
 have h1 := digs_len_ltW n.natAbs
 have h2 : 4294967296 ^ (digsW n.natAbs).length ≤ 4294967296 ^ L := Nat.pow_le_pow_right (by decide) h
 have h3 := pow_ten L
 have h4 := txtN_len (n := n) (k := 10 * L) (by omega) (by omega)
 rw [← strB_txt, strB_length] at h4
 exact h4
set_option maxHeartbeats 4000000 in
theorem fString_any (x : Value) (p q : Int) (w : World) (hx : FAt w x p q) (hq : 1 ≤ q) (hp : (digsW p.natAbs).length ≤ 400000) (hl : (digsW q.natAbs).length ≤ 400000) :
  Calls Tryz.prog 20 #[x] w (fun e w' => e = .returned (.string (fTxt p q)) ∧ Below w.heap.size w w') := by
 have hx0 := hx
 obtain ⟨s, t, a, b, m, n, c, d, rfl, h1, h2⟩ := hx
 obtain ⟨w2, hw2⟩ : ∃ w2, w2 = w.alloc (.cells #[.bool s, .slice a m c, .bool t, .slice b n d] 34) := ⟨_, rfl⟩
 have b1 : Below w.heap.size w w2 := by rw [hw2]; exact below_one _ _
 have hl1 : Laid w2 w.heap.size 34 [.bool s, .slice a m c, .bool t, .slice b n d] := by rw [hw2]; exact Laid.new _ _ _
 have IW : Hid (∀ r, (r = true ∧ q = 1) ∨ (r = false ∧ q ≠ 1) → Calls Tryz.prog 57 #[.agg #[.bool s, .slice a m c, .bool t, .slice b n d]] w2 (BoolEndW r w2)) := Lib.hid (fun r hr => isWhole_any _ p q r w2 (fat_keeps hx0 b1) hq hl hr)
 unfold BoolEndW at IW
 have HL1 := Lib.hid hl1
 have HB2 := Lib.hid b1
 have H1 := Lib.hid (iat_keeps h1 b1)
 have H2 := Lib.hid (iat_keeps h2 b1)
 have HP := Lib.hid hp
 have HQ := Lib.hid hl
 obtain ⟨⟨c0, c1, c2, c3⟩, _⟩ := cellsF hl1
 clear b1 hl1 h1 h2 hx0
 rcases Classical.em (q = 1) with hq1 | hq1
 ·have IW1 := Lib.hid (IW.out true (.inl ⟨rfl, hq1⟩))
  have HT : Hid (fTxt p q = txtS p) := Lib.hid (by unfold fTxt; rw [if_pos hq1])
  clear IW hq1 hq hp hl
  go_enter Tryz.func20, Tryz.ntmps20
  go_wp2_with fail
  rw [← hw2]
  clear hw2
  go_must (refine IW1.out.mono ?_)
  rintro e w3 ⟨rfl, hb3⟩
  have HB3 := Lib.hid (below_then HB2.out hb3)
  obtain ⟨⟨d0, d1, d2, d3⟩, _⟩ := cellsF (HL1.out.below hb3)
  have ST := wString_any _ p w3 (iat_keeps H1.out hb3) HP.out
  unfold TxtEnd at ST
  have HST := Lib.hid ST
  clear hb3 IW1 ST c0 c1 c2 c3
  go_wp2_with fail
  go_must (refine HST.out.mono ?_)
  rintro e w4 ⟨rfl, hb4⟩
  have HE := Lib.hid (below_then HB3.out hb4)
  clear hb4 HST
  go_wp2_with fail
  go_ret
  exact ⟨by rw [HT.out]; rfl, HE.out⟩
 ·have IW1 := Lib.hid (IW.out false (.inr ⟨rfl, hq1⟩))
  have HT : Hid (fTxt p q = txtS p ++ slashS ++ txtS q) := Lib.hid (by unfold fTxt; rw [if_neg hq1])
  have HDQ : Hid (denZ q = q) := Lib.hid (by unfold denZ; rw [if_neg hq1])
  have hs1 : (txtS p).size ≤ 4000001 := txt_words HP.out (by decide)
  have hs2 : (txtS q).size ≤ 4000001 := txt_words HQ.out (by decide)
  have ST1 : Hid (∀ w3 y, IAt w3 y p → Calls Tryz.prog 58 #[y] w3 (TxtEnd p w3)) := Lib.hid (fun w3 y h => wString_any y p w3 h HP.out)
  have ST2 : Hid (∀ w3 y, IAt w3 y q → Calls Tryz.prog 58 #[y] w3 (TxtEnd q w3)) := Lib.hid (fun w3 y h => wString_any y q w3 h HQ.out)
  unfold TxtEnd at ST1 ST2
  have hsl : slashS.size = 1 := rfl
  have hn1 : ¬ 9223372036854775807 < (txtS p).size + 1 := by omega
  have hn2 : ¬ 9223372036854775807 < (txtS p).size + slashS.size := by omega
  have hn3 : ¬ 9223372036854775807 < (txtS p).size + 1 + (txtS q).size := by omega
  have hn4 : ¬ 9223372036854775807 < (txtS p).size + slashS.size + (txtS q).size := by omega
  clear IW hq1 hq hp hl hs1 hs2 hsl
  unfold slashS at *
  generalize txtS p = P at *
  generalize txtS q = Q at *
  go_enter Tryz.func20, Tryz.ntmps20
  go_wp2_with fail
  rw [← hw2]
  clear hw2
  go_must (refine IW1.out.mono ?_)
  rintro e w3 ⟨rfl, hb3⟩
  have HB3 := Lib.hid (below_then HB2.out hb3)
  have CELLS : Hid (∀ X : World, Below w3.heap.size w3 X → X.cell? ⟨w.heap.size, 0, none⟩ = some (.bool s) ∧ X.cell? ⟨w.heap.size, 1, none⟩ = some (.slice a m c) ∧ X.cell? ⟨w.heap.size, 2, none⟩ = some (.bool t) ∧ X.cell? ⟨w.heap.size, 3, none⟩ = some (.slice b n d)) := Lib.hid (fun X h => (cellsF ((HL1.out.below hb3).below h)).1)
  have S1 : Hid (∀ X : World, Below w3.heap.size w3 X → IAt X (.agg #[.bool s, .slice a m c]) p) := Lib.hid (fun X h => iat_keeps (iat_keeps H1.out hb3) h)
  have S2 : Hid (∀ X : World, Below w3.heap.size w3 X → IAt X (.agg #[.bool t, .slice b n d]) q) := Lib.hid (fun X h => iat_keeps (iat_keeps (HDQ.out ▸ H2.out) hb3) h)
  have HB : Hid (Below w3.heap.size w3 w3.drew) := Lib.hid (Below.refl _ _).drew
  clear hb3 IW1 c0 c1 c2 c3
  go_wp2_with fail
  go_region_held3 (fun X : World => X.cell? ⟨w.heap.size, 0, none⟩ = some (.bool s) ∧ X.cell? ⟨w.heap.size, 1, none⟩ = some (.slice a m c) ∧ X.cell? ⟨w.heap.size, 2, none⟩ = some (.bool t) ∧ X.cell? ⟨w.heap.size, 3, none⟩ = some (.slice b n d)) (with_reducible first | exact CELLS.out _ HB.out) (first
   | (go_at_call 58; ((with_reducible refine (ST1.out _ _ (S1.out _ HB.out)).mono ?_); rintro e w4 ⟨rfl, hb4⟩); have UB := Lib.hid (below_then HB.out hb4); clear HB hb4; have HB := UB; clear UB)
   | (go_at_call 58; ((with_reducible refine (ST2.out _ _ (S2.out _ HB.out)).mono ?_); rintro e w5 ⟨rfl, hb5⟩); have UB := Lib.hid (below_then HB.out hb5); clear HB hb5; have HB := UB; clear UB))
  have HE := Lib.hid (below_then HB3.out HB.out)
  go_wp2_with fail
  go_ret
  exact ⟨by rw [HT.out]; rfl, HE.out⟩
section
variable {W : World} {r : Nat} {T : TypeId} {s0 s1 : Bool} {a0 a1 : Option Addr} {m0 m1 c0 c1 : Nat}
theorem iat_set4 {x : Value} {n : Int} (h : IAt W x n) (hl : Laid W r T [.bool s0, .slice a0 m0 c0, .bool s1, .slice a1 m1 c1]) (j : Nat) (u : Value) : IAt (W.setCell ⟨r, j, none⟩ u) x n := by
 obtain ⟨v, rfl, p, cap, rfl, h2, h3, h4, h5⟩ := h
 refine ⟨_, rfl, p, cap, rfl, h2, h3, fun hne => ?_, h5⟩
 obtain ⟨g, off, rfl, hc⟩ := h4 hne
 have h0 := List.length_pos_iff.2 hne
 have hg : g ≠ r := by
  intro e
  subst e
  have hc0 := hc 0 h0
  rw [hl.cell] at hc0
  rcases (by omega : off + 0 = 0 ∨ off + 0 = 1 ∨ off + 0 = 2 ∨ off + 0 = 3 ∨ 4 ≤ off + 0) with ho | ho | ho | ho | ho
  ·rw [ho] at hc0; simp at hc0
  ·rw [ho] at hc0; simp at hc0
  ·rw [ho] at hc0; simp at hc0
  ·rw [ho] at hc0; simp at hc0
  ·rw [List.getElem?_eq_none (by simp; omega)] at hc0; cases hc0
 exact ⟨g, off, rfl, fun i hi => (keeps_set W r j u).cell (hc i hi) (show ¬ g = r from hg)⟩
theorem fat_store {p q : Int} {s t : Bool} {a b : Option Addr} {m n c d : Nat} (h : FAt W (.agg #[.bool s, .slice a m c, .bool t, .slice b n d]) p q) (hl : Laid W r T [.bool s0, .slice a0 m0 c0, .bool s1, .slice a1 m1 c1]) :
  FAt ((((W.setCell ⟨r, 0, none⟩ (.bool s)).setCell ⟨r, 1, none⟩ (.slice a m c)).setCell ⟨r, 2, none⟩ (.bool t)).setCell ⟨r, 3, none⟩ (.slice b n d)) (.agg #[.bool s, .slice a m c, .bool t, .slice b n d]) p q := by
 have k : ∀ x z, IAt W x z → IAt ((((W.setCell ⟨r, 0, none⟩ (.bool s)).setCell ⟨r, 1, none⟩ (.slice a m c)).setCell ⟨r, 2, none⟩ (.bool t)).setCell ⟨r, 3, none⟩ (.slice b n d)) x z := fun x z hx => by
  have l1 : Laid (W.setCell ⟨r, 0, none⟩ (.bool s)) r T [.bool s, .slice a0 m0 c0, .bool s1, .slice a1 m1 c1] := hl.set 0 _
  have l2 : Laid ((W.setCell ⟨r, 0, none⟩ (.bool s)).setCell ⟨r, 1, none⟩ (.slice a m c)) r T [.bool s, .slice a m c, .bool s1, .slice a1 m1 c1] := l1.set 1 _
  have l3 : Laid (((W.setCell ⟨r, 0, none⟩ (.bool s)).setCell ⟨r, 1, none⟩ (.slice a m c)).setCell ⟨r, 2, none⟩ (.bool t)) r T [.bool s, .slice a m c, .bool t, .slice a1 m1 c1] := l2.set 2 _
  exact iat_set4 (iat_set4 (iat_set4 (iat_set4 hx hl 0 _) l1 1 _) l2 2 _) l3 3 _
 obtain ⟨s', t', a', b', m', n', c', d', e, h1, h2⟩ := h
 have e0 : Value.bool s = .bool s' := by injection e with e; simpa using congrArg (fun t => t[0]!) e
 have e1 : Value.slice a m c = .slice a' m' c' := by injection e with e; simpa using congrArg (fun t => t[1]!) e
 have e2 : Value.bool t = .bool t' := by injection e with e; simpa using congrArg (fun t => t[2]!) e
 have e3 : Value.slice b n d = .slice b' n' d' := by injection e with e; simpa using congrArg (fun t => t[3]!) e
 rw [← e0, ← e1] at h1
 rw [← e2, ← e3] at h2
 exact ⟨s, t, a, b, m, n, c, d, rfl, k _ _ h1, k _ _ h2⟩
end
theorem fat_shape {W : World} {x : Value} {p q : Int} (h : FAt W x p q) : ∃ (s t : Bool) (a b : Option Addr) (m n c d : Nat), x = .agg #[.bool s, .slice a m c, .bool t, .slice b n d] := by
 obtain ⟨s, t, a, b, m, n, c, d, e, _⟩ := h
 exact ⟨s, t, a, b, m, n, c, d, e⟩
theorem wlen_le {a b : Int} {k : Nat} (h : a.natAbs ≤ b.natAbs) (hb : (digsW b.natAbs).length ≤ k) : (digsW a.natAbs).length ≤ k := by
 refine digs_len_leW (Nat.lt_of_le_of_lt h (Nat.lt_of_lt_of_le (digs_len_ltW b.natAbs) (Nat.pow_le_pow_right (by decide) hb)))
theorem cmn_parts {p q : Int} (hq : q ≠ 0) : cmn p q ≠ 0 ∧ (cmn p q).natAbs ≤ q.natAbs ∧ 1 ≤ mkD p q ∧ (mkD p q).natAbs ≤ q.natAbs := by
 have hg : 0 < Int.gcd p q := Int.gcd_pos_of_ne_zero_right p hq
 have hl := Int.gcd_le_natAbs_right p hq
 refine ⟨?_, ?_, ?_, ?_⟩
 ·unfold cmn; split <;> omega
 ·unfold cmn; split <;> omega
 ·have := (mk_low (p := p) hq).1.pos; omega
 ·exact Int.natAbs_ediv_le_natAbs _ _
def MakeEnd (p q : Int) (w : World) (e : Ending) (w' : World) : Prop :=
 ∃ (s t : Bool) (a b : Option Addr) (m n c d : Nat) (k : Int), e = .returned (.tuple #[.agg #[.bool s, .slice a m c, .bool t, .slice b n d], .int .i64 k]) ∧ ((q ≠ 0 ∧ k = 0 ∧ FAt w' (.agg #[.bool s, .slice a m c, .bool t, .slice b n d]) (mkN p q) (mkD p q)) ∨ (q = 0 ∧ k = 1 ∧ FAt w' (.agg #[.bool s, .slice a m c, .bool t, .slice b n d]) 0 1)) ∧ Below w.heap.size w w'
theorem far4 {X : World} {r b j : Nat} {u0 u1 u2 u3 : Value} (h : r ≠ b) : ((((X.setCell ⟨r, 0, none⟩ u0).setCell ⟨r, 1, none⟩ u1).setCell ⟨r, 2, none⟩ u2).setCell ⟨r, 3, none⟩ u3).cell? ⟨b, j, none⟩ = X.cell? ⟨b, j, none⟩ := by
 rw [World.cell?_setCell_far _ _ _ _ h, World.cell?_setCell_far _ _ _ _ h, World.cell?_setCell_far _ _ _ _ h, World.cell?_setCell_far _ _ _ _ h]
set_option maxHeartbeats 4000000 in
theorem make_any (x y : Value) (p q : Int) (w : World) (hx : IAt w x p) (hy : IAt w y q) (hp : (digsW p.natAbs).length ≤ 400000) (hl : (digsW q.natAbs).length ≤ 400000) :
  Calls Tryz.prog 17 #[x, y] w (MakeEnd p q w) := by
 obtain ⟨s, a, m, c, rfl⟩ := iat_shape hx
 obtain ⟨t, b, n, d, rfl⟩ := iat_shape hy
 obtain ⟨w3, hw3⟩ : ∃ w3, w3 = ((w.alloc (.cells #[.bool s, .slice a m c] 32)).alloc (.cells #[.bool t, .slice b n d] 32)).alloc (.cells #[.bool false, .slice none 0 0, .bool false, .slice none 0 0] 34) := ⟨_, rfl⟩
 have b1 := below_one w (.cells #[.bool s, .slice a m c] 32)
 have b2 := below_one (w.alloc (.cells #[.bool s, .slice a m c] 32)) (.cells #[.bool t, .slice b n d] 32)
 have hb3 : Below w.heap.size w w3 := by rw [hw3]; exact below_then (below_then b1 b2) (below_one _ _)
 have hl0 : Laid w3 w.heap.size 32 [.bool s, .slice a m c] := by rw [hw3]; exact ((Laid.new w _ _).below b2).below (below_one _ _)
 have hl1 : Laid w3 (w.heap.size + 1) 32 [.bool t, .slice b n d] := by
  rw [hw3]
  have := (Laid.new (w.alloc (.cells #[.bool s, .slice a m c] 32)) 32 [.bool t, .slice b n d]).below (below_one _ (.cells #[.bool false, .slice none 0 0, .bool false, .slice none 0 0] 34))
  rwa [World.size_alloc] at this
 have hl2 : Laid w3 (w.heap.size + 2) 34 [.bool false, .slice none 0 0, .bool false, .slice none 0 0] := by
  rw [hw3]
  have := Laid.new ((w.alloc (.cells #[.bool s, .slice a m c] 32)).alloc (.cells #[.bool t, .slice b n d] 32)) 34 [.bool false, .slice none 0 0, .bool false, .slice none 0 0]
  rwa [World.size_alloc, World.size_alloc] at this
 have HX := Lib.hid (iat_keeps hx hb3)
 have HY := Lib.hid (iat_keeps hy hb3)
 have HP := Lib.hid hp
 have HQ := Lib.hid hl
 obtain ⟨c0, c1, _, _⟩ := cells2 hl0
 obtain ⟨d0, d1, _, _⟩ := cells2 hl1
 obtain ⟨⟨r0, r1, r2, r3⟩, r4, r5, r6, r7⟩ := cellsF hl2
 have HL0 := Lib.hid hl0
 have HL1 := Lib.hid hl1
 have HL2 := Lib.hid hl2
 have HB3 := Lib.hid hb3
 have SG := wSign_any _ q w3 HY.out hl
 clear b1 b2 hb3 hl0 hl1 hl2 hx hy hp hl
 rcases Int.lt_trichotomy q 0 with h0 | h0 | h0
 ·rw [show cmpZ q 0 = -1 by unfold cmpZ; rw [if_pos h0]] at SG
  unfold CmpEnd at SG
  have HSG := Lib.hid SG
  have HSN : Hid (cmpZ q 0 = -1) := Lib.hid (by unfold cmpZ; rw [if_pos h0])
  have HQ0 : Hid (q ≠ 0) := Lib.hid (by omega)
  have HCM : Hid (cmn p q = -((Int.gcd p q : Nat) : Int)) := Lib.hid (by unfold cmn; rw [if_pos h0])
  clear SG h0
  go_enter Tryz.func17, Tryz.ntmps17
  go_wp2_with fail
  rw [← hw3]
  clear hw3
  go_must (refine HSG.out.mono ?_)
  rintro e w4 ⟨rfl, hb4⟩
  have GC := wGcd_any _ _ p q w4 (iat_keeps HX.out hb4) (iat_keeps HY.out hb4) HP.out HQ.out
  unfold IEnd at GC
  have HGC := Lib.hid GC
  have HB4 := Lib.hid hb4
  obtain ⟨e0, e1, _, _⟩ := cells2 (HL0.out.below hb4)
  obtain ⟨f0, f1, _, _⟩ := cells2 (HL1.out.below hb4)
  clear GC hb4 HSG c0 c1 d0 d1 r0 r1 r2 r3 r4 r5 r6 r7
  go_wp2_with fail
  go_must (refine HGC.out.mono ?_)
  rintro e w5 ⟨b5, a5, m5, k5, rfl, hx5, hb5⟩
  have hal := below_one w5 (.cells #[.bool b5, .slice a5 m5 k5] 32)
  have HB5 := Lib.hid (below_then (below_then HB4.out hb5) hal)
  have HT6 := Lib.hid (below_then HB4.out hb5).size
  have TG := Lib.hid (IBox.new hx5)
  have SG2 := wSign_any _ q _ (iat_keeps HY.out HB5.out) HQ.out
  rw [HSN.out] at SG2
  unfold CmpEnd at SG2
  have HSG2 := Lib.hid SG2
  obtain ⟨f0, f1, _, _⟩ := cells2 (HL1.out.below HB5.out)
  clear hx5 hb5 hal SG2 HGC HB4 e0 e1
  go_wp2_with fail
  generalize w5.alloc (.cells #[.bool b5, .slice a5 m5 k5] 32) = W5 at *
  generalize w5.heap.size = t6 at *
  go_must (refine HSG2.out.mono ?_)
  rintro e w6 ⟨rfl, hb6⟩
  have HB6 := Lib.hid (below_then HB5.out hb6)
  have TG6 := Lib.hid (TG.out.below hb6)
  clear hb6 HSG2 HB5 TG f0 f1
  obtain ⟨sg, ag, mg, cg, hlg, hig⟩ := TG6.out
  obtain ⟨g0, g1, g2, g3⟩ := cells2 hlg
  have NG := wNeg_any _ _ w6 hig (wlen_le (b := q) (by rw [Int.natAbs_natCast]; exact Int.gcd_le_natAbs_right p HQ0.out) HQ.out)
  rw [← HCM.out] at NG
  unfold IEnd at NG
  have HNG := Lib.hid NG
  have HLG := Lib.hid hlg
  have ht6 := HT6.out
  clear hlg hig NG TG6
  go_wp2_with fail
  go_must (refine HNG.out.mono ?_)
  rintro e w7 ⟨b7, a7, m7, k7, rfl, hx7, hb7⟩
  have HLG7 := Lib.hid (HLG.out.below hb7)
  obtain ⟨g0, g1, g2, g3⟩ := cells2 HLG7.out
  have HB7 := Lib.hid (((below_then HB6.out hb7).setCell (p := ⟨t6, 0, none⟩) ht6 (.bool b7)).setCell (p := ⟨t6, 1, none⟩) ht6 (.slice a7 m7 k7))
  have TG8 : Hid (IBox ((w7.setCell ⟨t6, 0, none⟩ (.bool b7)).setCell ⟨t6, 1, none⟩ (.slice a7 m7 k7)) t6 (cmn p q)) := Lib.hid ⟨b7, a7, m7, k7, (HLG7.out.set 0 (.bool b7)).set 1 (.slice a7 m7 k7), iat_store HLG7.out hx7⟩
  clear hx7 hb7 HNG HLG HLG7 HB6
  obtain ⟨sg, ag, mg, cg, hlg, hig⟩ := TG8.out
  have HLG := Lib.hid hlg
  have HIG := Lib.hid hig
  have N0 := Lib.hid (show w.heap.size + 2 ≠ w.heap.size by omega)
  have N1 := Lib.hid (show w.heap.size + 2 ≠ w.heap.size + 1 by omega)
  have N2 : Hid (w.heap.size + 2 ≠ t6) := Lib.hid (by have := HT6.out; have := HL2.out.lt; omega)
  have HPT := Lib.hid (cmn_parts (p := p) HQ0.out)
  have CELLS : Hid (∀ X : World, Below ((w7.setCell ⟨t6, 0, none⟩ (.bool b7)).setCell ⟨t6, 1, none⟩ (.slice a7 m7 k7)).heap.size ((w7.setCell ⟨t6, 0, none⟩ (.bool b7)).setCell ⟨t6, 1, none⟩ (.slice a7 m7 k7)) X → X.cell? ⟨w.heap.size, 0, none⟩ = some (.bool s) ∧ X.cell? ⟨w.heap.size, 1, none⟩ = some (.slice a m c) ∧ X.cell? ⟨w.heap.size + 1, 0, none⟩ = some (.bool t) ∧ X.cell? ⟨w.heap.size + 1, 1, none⟩ = some (.slice b n d) ∧ X.cell? ⟨t6, 0, none⟩ = some (.bool sg) ∧ X.cell? ⟨t6, 1, none⟩ = some (.slice ag mg cg)) := Lib.hid (fun X h => by
   obtain ⟨e0, e1, _, _⟩ := cells2 ((HL0.out.below HB7.out).below h)
   obtain ⟨e2, e3, _, _⟩ := cells2 ((HL1.out.below HB7.out).below h)
   obtain ⟨e4, e5, _, _⟩ := cells2 (HLG.out.below h)
   exact ⟨e0, e1, e2, e3, e4, e5⟩)
  have QP : Hid (∀ X, Below ((w7.setCell ⟨t6, 0, none⟩ (.bool b7)).setCell ⟨t6, 1, none⟩ (.slice a7 m7 k7)).heap.size ((w7.setCell ⟨t6, 0, none⟩ (.bool b7)).setCell ⟨t6, 1, none⟩ (.slice a7 m7 k7)) X → Calls Tryz.prog 42 #[.agg #[.bool s, .slice a m c], .agg #[.bool sg, .slice ag mg cg]] X (IEnd (mkN p q) X)) := Lib.hid (fun X h => quotient_any _ _ p (cmn p q) X (iat_keeps (iat_keeps HX.out HB7.out) h) (iat_keeps HIG.out h) HP.out (wlen_le HPT.out.2.1 HQ.out) HPT.out.1)
  have QQ : Hid (∀ X, Below ((w7.setCell ⟨t6, 0, none⟩ (.bool b7)).setCell ⟨t6, 1, none⟩ (.slice a7 m7 k7)).heap.size ((w7.setCell ⟨t6, 0, none⟩ (.bool b7)).setCell ⟨t6, 1, none⟩ (.slice a7 m7 k7)) X → Calls Tryz.prog 42 #[.agg #[.bool t, .slice b n d], .agg #[.bool sg, .slice ag mg cg]] X (IEnd (mkD p q) X)) := Lib.hid (fun X h => quotient_any _ _ q (cmn p q) X (iat_keeps (iat_keeps HY.out HB7.out) h) (iat_keeps HIG.out h) HQ.out (wlen_le HPT.out.2.1 HQ.out) HPT.out.1)
  have LW : Hid (∀ X u v, IAt X u (mkN p q) → IAt X v (mkD p q) → Calls Tryz.prog 43 #[u, v] X (FEnd (mkN p q) (mkD p q) X)) := Lib.hid (fun X u v h1 h2 => lowest_any u v _ _ X h1 h2 HPT.out.2.2.1 (wlen_le HPT.out.2.2.2 HQ.out))
  have HB : Hid (Below ((w7.setCell ⟨t6, 0, none⟩ (.bool b7)).setCell ⟨t6, 1, none⟩ (.slice a7 m7 k7)).heap.size ((w7.setCell ⟨t6, 0, none⟩ (.bool b7)).setCell ⟨t6, 1, none⟩ (.slice a7 m7 k7)) ((w7.setCell ⟨t6, 0, none⟩ (.bool b7)).setCell ⟨t6, 1, none⟩ (.slice a7 m7 k7)).drew) := Lib.hid (Below.refl _ _).drew
  unfold IEnd at QP QQ
  unfold FEnd at LW
  clear hlg hig TG8
  go_wp2_with fail
  go_region_held3 (fun X : World => X.cell? ⟨w.heap.size, 0, none⟩ = some (.bool s) ∧ X.cell? ⟨w.heap.size, 1, none⟩ = some (.slice a m c) ∧ X.cell? ⟨w.heap.size + 1, 0, none⟩ = some (.bool t) ∧ X.cell? ⟨w.heap.size + 1, 1, none⟩ = some (.slice b n d) ∧ X.cell? ⟨t6, 0, none⟩ = some (.bool sg) ∧ X.cell? ⟨t6, 1, none⟩ = some (.slice ag mg cg)) (with_reducible first | exact CELLS.out _ HB.out | (obtain ⟨e0, e1, e2, e3, e4, e5⟩ := CELLS.out _ HB.out; exact ⟨(far4 N0.out).trans e0, (far4 N0.out).trans e1, (far4 N1.out).trans e2, (far4 N1.out).trans e3, (far4 N2.out).trans e4, (far4 N2.out).trans e5⟩)) (first
   | (go_at_call 42; ((with_reducible refine (QP.out _ HB.out).mono ?_); rintro e w10 ⟨b10, a10, m10, k10, rfl, hx10, hb10⟩); have HA := Lib.hid hx10; have UB := Lib.hid (below_then HB.out hb10); clear HB hx10 hb10; have HB := UB; clear UB)
   | (go_at_call 42; ((with_reducible refine (QQ.out _ HB.out).mono ?_); rintro e w11 ⟨b11, a11, m11, k11, rfl, hx11, hb11⟩); have HC := Lib.hid hx11; have HA2 := Lib.hid (iat_keeps HA.out hb11); have UB := Lib.hid (below_then HB.out hb11); clear HB hx11 hb11 HA; have HB := UB; clear UB)
   | (go_at_call 43; ((with_reducible refine (LW.out _ _ _ HA2.out HC.out).mono ?_); rintro e w12 ⟨v12, rfl, hx12, hb12⟩); obtain ⟨s12, t12, a12, x12, m12, n12, c12, d12, rfl⟩ := fat_shape hx12; have HF := Lib.hid hx12; have UB := Lib.hid (below_then HB.out hb12); clear HB hx12 hb12 HA2 HC; have HB := UB; clear UB; obtain ⟨⟨r0, r1, r2, r3⟩, r4, r5, r6, r7⟩ := cellsF (HL2.out.below (below_then HB7.out HB.out)); have HLR := Lib.hid (HL2.out.below (below_then HB7.out HB.out))))
  have HBW := Lib.hid (below_then HB3.out (below_then HB7.out HB.out))
  have HE := Lib.hid (below_set4 (p := w.heap.size + 2) (u0 := .bool s12) (u1 := .slice a12 m12 c12) (u2 := .bool t12) (u3 := .slice x12 n12 d12) HBW.out (by omega))
  have HFE := Lib.hid (fat_store HF.out HLR.out)
  clear QP QQ LW CELLS
  go_wp2_with fail
  refine bodyPost_ret (v := .tuple #[.agg #[.bool s12, .slice a12 m12 c12, .bool t12, .slice x12 n12 d12], .int .i64 0]) (by simp [results, Tryz.results17, go_sem, r0, r1, r2, r3]) rfl ?_
  exact ⟨_, _, _, _, _, _, _, _, _, rfl, .inl ⟨HQ0.out, rfl, HFE.out⟩, HE.out⟩
 ·subst h0
  rw [show cmpZ 0 0 = 0 from rfl] at SG
  unfold CmpEnd at SG
  have HSG := Lib.hid SG
  clear SG
  go_enter Tryz.func17, Tryz.ntmps17
  go_wp2_with fail
  rw [← hw3]
  clear hw3
  go_must (refine HSG.out.mono ?_)
  rintro e w4 ⟨rfl, hb4⟩
  obtain ⟨⟨r0, r1, r2, r3⟩, r4, r5, r6, r7⟩ := cellsF (HL2.out.below hb4)
  have HE := Lib.hid (below_set4 (p := w.heap.size + 2) (u0 := .bool false) (u1 := .slice none 0 0) (u2 := .bool false) (u3 := .slice none 0 0) (below_then HB3.out hb4) (by omega))
  clear hb4 HSG c0 c1 d0 d1
  go_wp2_with fail
  refine bodyPost_ret (v := .tuple #[.agg #[.bool false, .slice none 0 0, .bool false, .slice none 0 0], .int .i64 1]) (by simp [results, Tryz.results17, go_sem, r0, r1, r2, r3]) rfl ?_
  exact ⟨_, _, _, _, _, _, _, _, _, rfl, .inr ⟨rfl, rfl, false, false, none, none, 0, 0, 0, 0, rfl, iat_zero _, by unfold denZ; rw [if_pos rfl]; exact iat_zero _⟩, HE.out⟩
 ·rw [show cmpZ q 0 = 1 by unfold cmpZ; rw [if_neg (by omega), if_pos (by omega)]] at SG
  unfold CmpEnd at SG
  have HSG := Lib.hid SG
  have HSN : Hid (cmpZ q 0 = 1) := Lib.hid (by unfold cmpZ; rw [if_neg (by omega), if_pos (by omega)])
  have HQ0 : Hid (q ≠ 0) := Lib.hid (by omega)
  have HCM : Hid (cmn p q = ((Int.gcd p q : Nat) : Int)) := Lib.hid (by unfold cmn; rw [if_neg (by omega)])
  clear SG h0
  go_enter Tryz.func17, Tryz.ntmps17
  go_wp2_with fail
  rw [← hw3]
  clear hw3
  go_must (refine HSG.out.mono ?_)
  rintro e w4 ⟨rfl, hb4⟩
  have GC := wGcd_any _ _ p q w4 (iat_keeps HX.out hb4) (iat_keeps HY.out hb4) HP.out HQ.out
  unfold IEnd at GC
  have HGC := Lib.hid GC
  have HB4 := Lib.hid hb4
  obtain ⟨e0, e1, _, _⟩ := cells2 (HL0.out.below hb4)
  obtain ⟨f0, f1, _, _⟩ := cells2 (HL1.out.below hb4)
  clear GC hb4 HSG c0 c1 d0 d1 r0 r1 r2 r3 r4 r5 r6 r7
  go_wp2_with fail
  go_must (refine HGC.out.mono ?_)
  rintro e w5 ⟨b5, a5, m5, k5, rfl, hx5, hb5⟩
  have hal := below_one w5 (.cells #[.bool b5, .slice a5 m5 k5] 32)
  have HB5 := Lib.hid (below_then (below_then HB4.out hb5) hal)
  have HT6 := Lib.hid (below_then HB4.out hb5).size
  have TG := Lib.hid (IBox.new hx5)
  have SG2 := wSign_any _ q _ (iat_keeps HY.out HB5.out) HQ.out
  rw [HSN.out] at SG2
  unfold CmpEnd at SG2
  have HSG2 := Lib.hid SG2
  obtain ⟨f0, f1, _, _⟩ := cells2 (HL1.out.below HB5.out)
  clear hx5 hb5 hal SG2 HGC HB4 e0 e1
  go_wp2_with fail
  generalize w5.alloc (.cells #[.bool b5, .slice a5 m5 k5] 32) = W5 at *
  generalize w5.heap.size = t6 at *
  go_must (refine HSG2.out.mono ?_)
  rintro e w6 ⟨rfl, hb6⟩
  have HB6 := Lib.hid (below_then HB5.out hb6)
  have TG6 := Lib.hid (TG.out.below hb6)
  clear hb6 HSG2 HB5 TG f0 f1
  have HB7 := HB6
  have TG8 : Hid (IBox w6 t6 (cmn p q)) := Lib.hid (HCM.out ▸ TG6.out)
  clear TG6 HB6
  obtain ⟨sg, ag, mg, cg, hlg, hig⟩ := TG8.out
  have HLG := Lib.hid hlg
  have HIG := Lib.hid hig
  have N0 := Lib.hid (show w.heap.size + 2 ≠ w.heap.size by omega)
  have N1 := Lib.hid (show w.heap.size + 2 ≠ w.heap.size + 1 by omega)
  have N2 : Hid (w.heap.size + 2 ≠ t6) := Lib.hid (by have := HT6.out; have := HL2.out.lt; omega)
  have HPT := Lib.hid (cmn_parts (p := p) HQ0.out)
  have CELLS : Hid (∀ X : World, Below w6.heap.size w6 X → X.cell? ⟨w.heap.size, 0, none⟩ = some (.bool s) ∧ X.cell? ⟨w.heap.size, 1, none⟩ = some (.slice a m c) ∧ X.cell? ⟨w.heap.size + 1, 0, none⟩ = some (.bool t) ∧ X.cell? ⟨w.heap.size + 1, 1, none⟩ = some (.slice b n d) ∧ X.cell? ⟨t6, 0, none⟩ = some (.bool sg) ∧ X.cell? ⟨t6, 1, none⟩ = some (.slice ag mg cg)) := Lib.hid (fun X h => by
   obtain ⟨e0, e1, _, _⟩ := cells2 ((HL0.out.below HB7.out).below h)
   obtain ⟨e2, e3, _, _⟩ := cells2 ((HL1.out.below HB7.out).below h)
   obtain ⟨e4, e5, _, _⟩ := cells2 (HLG.out.below h)
   exact ⟨e0, e1, e2, e3, e4, e5⟩)
  have QP : Hid (∀ X, Below w6.heap.size w6 X → Calls Tryz.prog 42 #[.agg #[.bool s, .slice a m c], .agg #[.bool sg, .slice ag mg cg]] X (IEnd (mkN p q) X)) := Lib.hid (fun X h => quotient_any _ _ p (cmn p q) X (iat_keeps (iat_keeps HX.out HB7.out) h) (iat_keeps HIG.out h) HP.out (wlen_le HPT.out.2.1 HQ.out) HPT.out.1)
  have QQ : Hid (∀ X, Below w6.heap.size w6 X → Calls Tryz.prog 42 #[.agg #[.bool t, .slice b n d], .agg #[.bool sg, .slice ag mg cg]] X (IEnd (mkD p q) X)) := Lib.hid (fun X h => quotient_any _ _ q (cmn p q) X (iat_keeps (iat_keeps HY.out HB7.out) h) (iat_keeps HIG.out h) HQ.out (wlen_le HPT.out.2.1 HQ.out) HPT.out.1)
  have LW : Hid (∀ X u v, IAt X u (mkN p q) → IAt X v (mkD p q) → Calls Tryz.prog 43 #[u, v] X (FEnd (mkN p q) (mkD p q) X)) := Lib.hid (fun X u v h1 h2 => lowest_any u v _ _ X h1 h2 HPT.out.2.2.1 (wlen_le HPT.out.2.2.2 HQ.out))
  have HB : Hid (Below w6.heap.size w6 w6.drew) := Lib.hid (Below.refl _ _).drew
  unfold IEnd at QP QQ
  unfold FEnd at LW
  clear hlg hig TG8
  go_wp2_with fail
  go_region_held3 (fun X : World => X.cell? ⟨w.heap.size, 0, none⟩ = some (.bool s) ∧ X.cell? ⟨w.heap.size, 1, none⟩ = some (.slice a m c) ∧ X.cell? ⟨w.heap.size + 1, 0, none⟩ = some (.bool t) ∧ X.cell? ⟨w.heap.size + 1, 1, none⟩ = some (.slice b n d) ∧ X.cell? ⟨t6, 0, none⟩ = some (.bool sg) ∧ X.cell? ⟨t6, 1, none⟩ = some (.slice ag mg cg)) (with_reducible first | exact CELLS.out _ HB.out | (obtain ⟨e0, e1, e2, e3, e4, e5⟩ := CELLS.out _ HB.out; exact ⟨(far4 N0.out).trans e0, (far4 N0.out).trans e1, (far4 N1.out).trans e2, (far4 N1.out).trans e3, (far4 N2.out).trans e4, (far4 N2.out).trans e5⟩)) (first
   | (go_at_call 42; ((with_reducible refine (QP.out _ HB.out).mono ?_); rintro e w10 ⟨b10, a10, m10, k10, rfl, hx10, hb10⟩); have HA := Lib.hid hx10; have UB := Lib.hid (below_then HB.out hb10); clear HB hx10 hb10; have HB := UB; clear UB)
   | (go_at_call 42; ((with_reducible refine (QQ.out _ HB.out).mono ?_); rintro e w11 ⟨b11, a11, m11, k11, rfl, hx11, hb11⟩); have HC := Lib.hid hx11; have HA2 := Lib.hid (iat_keeps HA.out hb11); have UB := Lib.hid (below_then HB.out hb11); clear HB hx11 hb11 HA; have HB := UB; clear UB)
   | (go_at_call 43; ((with_reducible refine (LW.out _ _ _ HA2.out HC.out).mono ?_); rintro e w12 ⟨v12, rfl, hx12, hb12⟩); obtain ⟨s12, t12, a12, x12, m12, n12, c12, d12, rfl⟩ := fat_shape hx12; have HF := Lib.hid hx12; have UB := Lib.hid (below_then HB.out hb12); clear HB hx12 hb12 HA2 HC; have HB := UB; clear UB; obtain ⟨⟨r0, r1, r2, r3⟩, r4, r5, r6, r7⟩ := cellsF (HL2.out.below (below_then HB7.out HB.out)); have HLR := Lib.hid (HL2.out.below (below_then HB7.out HB.out))))
  have HBW := Lib.hid (below_then HB3.out (below_then HB7.out HB.out))
  have HE := Lib.hid (below_set4 (p := w.heap.size + 2) (u0 := .bool s12) (u1 := .slice a12 m12 c12) (u2 := .bool t12) (u3 := .slice x12 n12 d12) HBW.out (by omega))
  have HFE := Lib.hid (fat_store HF.out HLR.out)
  clear QP QQ LW CELLS
  go_wp2_with fail
  refine bodyPost_ret (v := .tuple #[.agg #[.bool s12, .slice a12 m12 c12, .bool t12, .slice x12 n12 d12], .int .i64 0]) (by simp [results, Tryz.results17, go_sem, r0, r1, r2, r3]) rfl ?_
  exact ⟨_, _, _, _, _, _, _, _, _, rfl, .inl ⟨HQ0.out, rfl, HFE.out⟩, HE.out⟩
theorem int_len {n : Int} (h : -9223372036854775808 ≤ n ∧ n ≤ 9223372036854775807) : (digsW n.natAbs).length ≤ 400000 := ((lo_int h).small (by decide)).words
set_option maxHeartbeats 2000000 in
theorem fOf_any (p q : Int) (w : World) (hp : -9223372036854775808 ≤ p ∧ p ≤ 9223372036854775807) (hq : -9223372036854775808 ≤ q ∧ q ≤ 9223372036854775807) :
  Calls Tryz.prog 52 #[.int .i64 p, .int .i64 q] w (MakeEnd p q w) := by
 have FP : Hid (∀ X, Calls Tryz.prog 62 #[.int .i64 p] X (IEnd p X)) := Lib.hid (fun X => wFrom_any p X hp)
 have FQ : Hid (∀ X, Calls Tryz.prog 62 #[.int .i64 q] X (IEnd q X)) := Lib.hid (fun X => wFrom_any q X hq)
 have MK : Hid (∀ X u v, IAt X u p → IAt X v q → Calls Tryz.prog 17 #[u, v] X (MakeEnd p q X)) := Lib.hid (fun X u v h1 h2 => make_any u v p q X h1 h2 (int_len hp) (int_len hq))
 have HB0 := Lib.hid (below_one w (.cells #[.bool false, .slice none 0 0, .bool false, .slice none 0 0] 34))
 have HL0 := Lib.hid (Laid.new w 34 [.bool false, .slice none 0 0, .bool false, .slice none 0 0])
 unfold IEnd at FP FQ
 unfold MakeEnd at MK
 clear hp hq
 go_enter Tryz.func52, Tryz.ntmps52
 go_wp2_with fail
 generalize w.alloc (.cells #[.bool false, .slice none 0 0, .bool false, .slice none 0 0] 34) = w1 at *
 go_must (refine (FP.out _).mono ?_)
 rintro e w2 ⟨b2, a2, m2, k2, rfl, hx2, hb2⟩
 have HX := Lib.hid hx2
 have HB2 := Lib.hid (below_then HB0.out hb2)
 have HL2 := Lib.hid (HL0.out.below hb2)
 clear hx2 hb2
 go_wp2_with fail
 go_must (refine (FQ.out _).mono ?_)
 rintro e w3 ⟨b3, a3, m3, k3, rfl, hx3, hb3⟩
 have HM := Lib.hid (MK.out _ _ _ (iat_keeps HX.out hb3) hx3)
 have HB3 := Lib.hid (below_then HB2.out hb3)
 have HL3 := Lib.hid (HL2.out.below hb3)
 clear hx3 hb3 FP FQ MK HX HB2 HL2
 go_wp2_with fail
 go_must (refine HM.out.mono ?_)
 rintro e w4 ⟨s, t, a, b, m, n, c, d, k, rfl, hk, hb4⟩
 have HL4 := Lib.hid (HL3.out.below hb4)
 obtain ⟨⟨r0, r1, r2, r3⟩, r4, r5, r6, r7⟩ := cellsF HL4.out
 have HE := Lib.hid (below_set4 (p := w.heap.size) (u0 := .bool s) (u1 := .slice a m c) (u2 := .bool t) (u3 := .slice b n d) (below_then HB3.out hb4) (Nat.le_refl _))
 have HK := Lib.hid hk
 clear hk hb4 HM HB3 HL3
 go_wp2_with fail
 refine bodyPost_ret (v := .tuple #[.agg #[.bool s, .slice a m c, .bool t, .slice b n d], .int .i64 k]) (by simp [results, Tryz.results52, go_sem, r0, r1, r2, r3]) rfl ?_
 rcases HK.out with ⟨h1, h2, h3⟩ | ⟨h1, h2, h3⟩
 ·exact ⟨_, _, _, _, _, _, _, _, _, rfl, .inl ⟨h1, h2, fat_store h3 HL4.out⟩, HE.out⟩
 ·exact ⟨_, _, _, _, _, _, _, _, _, rfl, .inr ⟨h1, h2, fat_store h3 HL4.out⟩, HE.out⟩
def RFAt (W : World) (x : Value) (p q : Int) : Prop := ∃ (s t : Bool) (a b : Option Addr) (m n c d : Nat), x = .agg #[.bool s, .slice a m c, .bool t, .slice b n d] ∧ NAt W (.agg #[.bool s, .slice a m c]) p ∧ NAt W (.agg #[.bool t, .slice b n d]) q
theorem rf_keeps {W W2 : World} {x : Value} {p q : Int} (h : RFAt W x p q) (hb : Below W.heap.size W W2) : RFAt W2 x p q := by
 obtain ⟨s, t, a, b, m, n, c, d, rfl, h1, h2⟩ := h
 exact ⟨s, t, a, b, m, n, c, d, rfl, nat_keeps h1 hb, nat_keeps h2 hb⟩
def RFEnd (p q : Int) (w : World) (e : Ending) (w' : World) : Prop := ∃ v, e = .returned v ∧ RFAt w' v p q ∧ Below w.heap.size w w'
section
variable {W : World} {r : Nat} {T : TypeId} {s0 s1 : Bool} {a0 a1 : Option Addr} {m0 m1 c0 c1 : Nat}
theorem nat_set4 {x : Value} {n : Int} (h : NAt W x n) (hl : Laid W r T [.bool s0, .slice a0 m0 c0, .bool s1, .slice a1 m1 c1]) (j : Nat) (u : Value) : NAt (W.setCell ⟨r, j, none⟩ u) x n := by
 obtain ⟨v, rfl, p, cap, rfl, h2, h3, h4, h5⟩ := h
 refine ⟨_, rfl, p, cap, rfl, h2, h3, fun hne => ?_, h5⟩
 obtain ⟨g, off, rfl, hc⟩ := h4 hne
 have h0 := List.length_pos_iff.2 hne
 have hg : g ≠ r := by
  intro e
  subst e
  have hc0 := hc 0 h0
  rw [hl.cell] at hc0
  rcases (by omega : off + 0 = 0 ∨ off + 0 = 1 ∨ off + 0 = 2 ∨ off + 0 = 3 ∨ 4 ≤ off + 0) with ho | ho | ho | ho | ho
  ·rw [ho] at hc0; simp at hc0
  ·rw [ho] at hc0; simp at hc0
  ·rw [ho] at hc0; simp at hc0
  ·rw [ho] at hc0; simp at hc0
  ·rw [List.getElem?_eq_none (by simp; omega)] at hc0; cases hc0
 exact ⟨g, off, rfl, fun i hi => (keeps_set W r j u).cell (hc i hi) (show ¬ g = r from hg)⟩
theorem rf_store {p q : Int} {s t : Bool} {a b : Option Addr} {m n c d : Nat} (h1 : NAt W (.agg #[.bool s, .slice a m c]) p) (h2 : NAt W (.agg #[.bool t, .slice b n d]) q) (hl : Laid W r T [.bool s0, .slice a0 m0 c0, .bool s1, .slice a1 m1 c1]) :
  RFAt ((((W.setCell ⟨r, 0, none⟩ (.bool s)).setCell ⟨r, 1, none⟩ (.slice a m c)).setCell ⟨r, 2, none⟩ (.bool t)).setCell ⟨r, 3, none⟩ (.slice b n d)) (.agg #[.bool s, .slice a m c, .bool t, .slice b n d]) p q := by
 have k : ∀ x z, NAt W x z → NAt ((((W.setCell ⟨r, 0, none⟩ (.bool s)).setCell ⟨r, 1, none⟩ (.slice a m c)).setCell ⟨r, 2, none⟩ (.bool t)).setCell ⟨r, 3, none⟩ (.slice b n d)) x z := fun x z hx => by
  have l1 : Laid (W.setCell ⟨r, 0, none⟩ (.bool s)) r T [.bool s, .slice a0 m0 c0, .bool s1, .slice a1 m1 c1] := hl.set 0 _
  have l2 : Laid ((W.setCell ⟨r, 0, none⟩ (.bool s)).setCell ⟨r, 1, none⟩ (.slice a m c)) r T [.bool s, .slice a m c, .bool s1, .slice a1 m1 c1] := l1.set 1 _
  have l3 : Laid (((W.setCell ⟨r, 0, none⟩ (.bool s)).setCell ⟨r, 1, none⟩ (.slice a m c)).setCell ⟨r, 2, none⟩ (.bool t)) r T [.bool s, .slice a m c, .bool t, .slice a1 m1 c1] := l2.set 2 _
  exact nat_set4 (nat_set4 (nat_set4 (nat_set4 hx hl 0 _) l1 1 _) l2 2 _) l3 3 _
 exact ⟨s, t, a, b, m, n, c, d, rfl, k _ _ h1, k _ _ h2⟩
end
set_option maxHeartbeats 2000000 in
theorem rOf_any (n0 : Int) (w : World) (hn : -9223372036854775808 ≤ n0 ∧ n0 ≤ 9223372036854775807) :
  Calls Tryz.prog 69 #[.int .i64 n0] w (RFEnd n0 1 w) := by
 have FP : Hid (∀ X, Calls Tryz.prog 30 #[.int .i64 n0] X (NEnd n0 X)) := Lib.hid (fun X => of_any n0 X hn)
 have FQ : Hid (∀ X, Calls Tryz.prog 30 #[.int .i64 1] X (NEnd 1 X)) := Lib.hid (fun X => of_any 1 X (by decide))
 have HB0 := Lib.hid (below_one w (.cells #[.bool false, .slice none 0 0, .bool false, .slice none 0 0] 26))
 have HL0 := Lib.hid (Laid.new w 26 [.bool false, .slice none 0 0, .bool false, .slice none 0 0])
 unfold NEnd at FP FQ
 clear hn
 go_enter Tryz.func69, Tryz.ntmps69
 go_wp2_with fail
 generalize w.alloc (.cells #[.bool false, .slice none 0 0, .bool false, .slice none 0 0] 26) = w1 at *
 go_must (refine (FP.out _).mono ?_)
 rintro e w2 ⟨x2, rfl, hx2, hb2⟩
 obtain ⟨s, a, m, c, rfl⟩ := nat_shape hx2
 have HX := Lib.hid hx2
 have HB2 := Lib.hid (below_then HB0.out hb2)
 have HL2 := Lib.hid (HL0.out.below hb2)
 clear hx2 hb2
 go_wp2_with fail
 go_must (refine (FQ.out _).mono ?_)
 rintro e w3 ⟨x3, rfl, hx3, hb3⟩
 obtain ⟨t, b, n, d, rfl⟩ := nat_shape hx3
 have HY := Lib.hid hx3
 have HX3 := Lib.hid (nat_keeps HX.out hb3)
 have HL3 := Lib.hid (HL2.out.below hb3)
 obtain ⟨⟨r0, r1, r2, r3⟩, r4, r5, r6, r7⟩ := cellsF HL3.out
 have HE := Lib.hid (below_set4 (p := w.heap.size) (u0 := .bool s) (u1 := .slice a m c) (u2 := .bool t) (u3 := .slice b n d) (below_then HB2.out hb3) (Nat.le_refl _))
 clear hx3 hb3 FP FQ HX HB2 HL2
 go_wp2_with fail
 refine bodyPost_ret (v := .agg #[.bool s, .slice a m c, .bool t, .slice b n d]) (by simp [results, Tryz.results69, go_sem, r0, r1, r2, r3]) rfl ?_
 exact ⟨_, rfl, rf_store HX3.out HY.out HL3.out, HE.out⟩
def or4I (c1 c2 c3 c4 : Int) : Int := if c1 = 0 then (if c2 = 0 then (if c3 = 0 then c4 else c3) else c2) else c1
set_option maxHeartbeats 4000000 in
theorem or4_any (g : Nat) (c1 c2 c3 c4 : Int) (w : World) (h0 : w.cell? ⟨g, 0, none⟩ = some (.int .i64 c1)) (h1 : w.cell? ⟨g, 1, none⟩ = some (.int .i64 c2)) (h2 : w.cell? ⟨g, 2, none⟩ = some (.int .i64 c3)) (h3 : w.cell? ⟨g, 3, none⟩ = some (.int .i64 c4)) :
  Calls Tryz.prog 37 #[.slice (some ⟨g, 0, none⟩) 4 4] w fun e w' => e = .returned (.int .i64 (or4I c1 c2 c3 c4)) ∧ w = w' := by
 go_enter Tryz.func37, Tryz.ntmps37
 go_wp2_with fail
 go_loop [8] (fun iv => ∃ j : Nat, iv = .int .i64 (j : Int) ∧ j ≤ 4 ∧ Hid ((1 ≤ j → c1 = 0) ∧ (2 ≤ j → c2 = 0) ∧ (3 ≤ j → c3 = 0) ∧ (4 ≤ j → c4 = 0))) (fun iv => (4 - intOf iv).toNat)
 case atStart => exact ⟨0, rfl, by decide, Lib.hid ⟨fun h => by omega, fun h => by omega, fun h => by omega, fun h => by omega⟩⟩
 case round =>
  obtain ⟨j, rfl, hj, HJ⟩ := hrel
  obtain rfl | rfl | rfl | rfl | rfl : j = 0 ∨ j = 1 ∨ j = 2 ∨ j = 3 ∨ j = 4 := by omega
  ·rw [show ((0 : Nat) : Int) = 0 from rfl]
   rcases Classical.em (c1 = 0) with hc | hc
   ·subst hc
    go_wp2_with fail
    go_round
    case rel => exact ⟨1, by first | rfl | go_num, by decide, Lib.hid ⟨fun h => by first | trivial | rfl | omega, fun h => by first | trivial | rfl | omega, fun h => by first | trivial | rfl | omega, fun h => by first | trivial | rfl | omega⟩⟩
    case measure => simp [intOf]
   ·have HC : Hid (or4I c1 c2 c3 c4 = c1) := Lib.hid (by unfold or4I; simp [hc])
    go_wp2_with fail
    go_ret
    exact ⟨by rw [HC.out]; rfl, rfl⟩
  ·have hz1 := HJ.out.1 (by decide)
   subst hz1
   rw [show ((1 : Nat) : Int) = 1 from rfl]
   rcases Classical.em (c2 = 0) with hc | hc
   ·subst hc
    go_wp2_with fail
    go_round
    case rel => exact ⟨2, by first | rfl | go_num, by decide, Lib.hid ⟨fun h => by first | trivial | rfl | omega, fun h => by first | trivial | rfl | omega, fun h => by first | trivial | rfl | omega, fun h => by first | trivial | rfl | omega⟩⟩
    case measure => simp [intOf]
   ·have HC : Hid (or4I 0 c2 c3 c4 = c2) := Lib.hid (by unfold or4I; simp [hc])
    go_wp2_with fail
    go_ret
    exact ⟨by rw [HC.out]; rfl, rfl⟩
  ·have hz1 := HJ.out.1 (by decide)
   have hz2 := HJ.out.2.1 (by decide)
   subst hz1
   subst hz2
   rw [show ((2 : Nat) : Int) = 2 from rfl]
   rcases Classical.em (c3 = 0) with hc | hc
   ·subst hc
    go_wp2_with fail
    go_round
    case rel => exact ⟨3, by first | rfl | go_num, by decide, Lib.hid ⟨fun h => by first | trivial | rfl | omega, fun h => by first | trivial | rfl | omega, fun h => by first | trivial | rfl | omega, fun h => by first | trivial | rfl | omega⟩⟩
    case measure => simp [intOf]
   ·have HC : Hid (or4I 0 0 c3 c4 = c3) := Lib.hid (by unfold or4I; simp [hc])
    go_wp2_with fail
    go_ret
    exact ⟨by rw [HC.out]; rfl, rfl⟩
  ·have hz1 := HJ.out.1 (by decide)
   have hz2 := HJ.out.2.1 (by decide)
   have hz3 := HJ.out.2.2.1 (by decide)
   subst hz1
   subst hz2
   subst hz3
   rw [show ((3 : Nat) : Int) = 3 from rfl]
   rcases Classical.em (c4 = 0) with hc | hc
   ·subst hc
    go_wp2_with fail
    go_round
    case rel => exact ⟨4, by first | rfl | go_num, by decide, Lib.hid ⟨fun h => by first | trivial | rfl | omega, fun h => by first | trivial | rfl | omega, fun h => by first | trivial | rfl | omega, fun h => by first | trivial | rfl | omega⟩⟩
    case measure => simp [intOf]
   ·have HC : Hid (or4I 0 0 0 c4 = c4) := Lib.hid (by unfold or4I; simp)
    go_wp2_with fail
    go_ret
    exact ⟨by rw [HC.out]; rfl, rfl⟩
  ·have hz1 := HJ.out.1 (by decide)
   have hz2 := HJ.out.2.1 (by decide)
   have hz3 := HJ.out.2.2.1 (by decide)
   have hz4 := HJ.out.2.2.2 (by decide)
   subst hz1
   subst hz2
   subst hz3
   subst hz4
   rw [show ((4 : Nat) : Int) = 4 from rfl]
   go_wp2_with fail
   go_ret
   exact ⟨rfl, rfl⟩
end Go.Proofs.YtepakogbbomaoaaGreatDoor
