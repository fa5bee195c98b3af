/-
 The reference of package wide: Gcd.
-/
import Derived.Test.YtepakogbbomaoaaGreatDoorDvrO
namespace Go.Proofs.YtepakogbbomaoaaGreatDoor
open Go.RowKit Go.Shelf
set_option linter.unusedVariables false
set_option maxRecDepth 100000
theorem nbox_twoG {W : World} {n m : Int} {s t : Bool} {a b : Option Addr} {i j c d : Nat} (hx : NAt W (.agg #[.bool s, .slice a i c]) n) (hy : NAt W (.agg #[.bool t, .slice b j d]) m) :
  NBox ((W.alloc (.cells #[.bool s, .slice a i c] 24)).alloc (.cells #[.bool t, .slice b j d] 24)) (W.heap.size + 1) m ∧ Below W.heap.size W ((W.alloc (.cells #[.bool s, .slice a i c] 24)).alloc (.cells #[.bool t, .slice b j d] 24)) := by
 refine ⟨?_, below_then (below_one2 _ _) (below_one2 _ _)⟩
 have := NBox.new (nat_keeps hy (below_one2 W (.cells #[.bool s, .slice a i c] 24)))
 simpa using this
theorem row_lenN {W : World} {a : Option Addr} {m k n : Nat} (h : Row .i64 W (.slice a m k) (natI (digs n))) : (digs n).length = m := by
 obtain ⟨_, _, e, _, _⟩ := h
 injection e with _ e _
 rw [e, natI_length]
set_option maxHeartbeats 4000000 in
theorem nGcd_any (x y : Value) (a b : Int) (w : World) (hx : NAt w x a) (hy : NAt w y b) (ha : (digs a.natAbs).length ≤ 400000) (hb : (digs b.natAbs).length ≤ 400000) :
  Calls Tryz.prog 71 #[x, y] w (NEnd ((Int.gcd a b : Nat) : Int) w) := by
 obtain ⟨na, ax, la, cx, rfl⟩ := nat_shape hx
 obtain ⟨nb, ay, lb, cy, rfl⟩ := nat_shape hy
 have hrx := nat_row2 hx
 have hry := nat_row2 hy
 obtain ⟨G, hG⟩ : ∃ G, Int.gcd a b = G := ⟨_, rfl⟩
 have HG : Hid (Nat.gcd a.natAbs b.natAbs = G) := Lib.hid hG
 rw [hG]
 clear hG
 generalize a.natAbs = A at *
 generalize b.natAbs = B at *
 obtain ⟨w2, hw2⟩ : ∃ w2, w2 = ((w.alloc (.cells #[.bool na, .slice ax la cx] 24)).alloc (.cells #[.bool nb, .slice ay lb cy] 24)).alloc (.cells #[.bool false, .slice none 0 0] 24) := ⟨_, rfl⟩
 have hbe : Below w.heap.size w w2 := by rw [hw2]; exact below_then (below_then (below_one2 _ _) (below_one2 _ _)) (below_one2 _ _)
 have hl1 : Laid w2 w.heap.size 24 [.bool na, .slice ax la cx] := by
  rw [hw2]; exact ((Laid.new w _ [.bool na, .slice ax la cx]).below (below_one2 _ _)).below (below_one2 _ _)
 have hl2 : Laid w2 (w.heap.size + 1) 24 [.bool nb, .slice ay lb cy] := by
  have := ((Laid.new (w.alloc (.cells #[.bool na, .slice ax la cx] 24)) 24 [.bool nb, .slice ay lb cy]).below (below_one2 _ (.cells #[.bool false, .slice none 0 0] 24)))
  rw [hw2]; simpa using this
 have hl3 : Laid w2 (w.heap.size + 2) 24 [.bool false, .slice none 0 0] := by
  have := Laid.new ((w.alloc (.cells #[.bool na, .slice ax la cx] 24)).alloc (.cells #[.bool nb, .slice ay lb cy] 24)) 24 [.bool false, .slice none 0 0]
  rw [hw2]; simpa using this
 have HX := Lib.hid (row_keeps hrx hbe)
 have HY := Lib.hid (row_keeps hry hbe)
 have HBE := Lib.hid hbe
 have HL2 := Lib.hid hl2
 have HL3 := Lib.hid hl3
 have HDL := Lib.hid ha
 have HDB := Lib.hid hb
 have N1 := normal_any false _ (digs A) w2 HX.out (digs_lt A) (by omega)
 rw [valD_digs] at N1
 unfold NEnd at N1
 have HN1 := Lib.hid N1
 have N2 : Hid (∀ w3, Below w2.heap.size w2 w3 → Calls Tryz.prog 68 #[.bool false, .slice ay lb cy] w3 (NEnd (B : Int) w3)) := Lib.hid (fun w3 h => by
  have := normal_any false _ (digs B) w3 (row_keeps HY.out h) (digs_lt B) (by have := HDB.out; omega)
  rwa [valD_digs] at this)
 unfold NEnd at N2
 clear hx hy hrx hry hbe hl1 hl2 hl3 N1 ha hb
 go_enter Tryz.func71, Tryz.ntmps71
 go_wp2_with fail
 rw [← hw2]
 clear hw2
 go_must (refine HN1.out.mono ?_)
 rintro e w3 ⟨x3, rfl, hx3, hb3⟩
 replace hx3 : NAt w3 x3 (A : Int) := hx3
 obtain ⟨b3, p3, n3, q3, rfl⟩ := nat_shape hx3
 have hbb := below_then hb3 (below_one2 w3 (.cells #[.bool b3, .slice p3 n3 q3] 24))
 have TX := Lib.hid (NBox.new hx3)
 have HB3 := Lib.hid hbb
 have M2 := Lib.hid (N2.out _ hbb)
 obtain ⟨d0, d1, _, _⟩ := cells2 (HL2.out.below hbb)
 have ht5 : w.heap.size + 2 < w3.heap.size := (HL3.out.below hb3).lt
 have hs5 : w2.heap.size ≤ w3.heap.size := hb3.size
 clear hx3 hb3 hbb HN1 N2 HX HY
 go_wp2_with fail
 generalize w3.alloc (.cells #[.bool b3, .slice p3 n3 q3] 24) = W3 at *
 generalize w3.heap.size = t5 at *
 go_must (refine M2.out.mono ?_)
 rintro e w4 ⟨x4, rfl, hx4, hb4⟩
 replace hx4 : NAt w4 x4 (B : Int) := hx4
 obtain ⟨b4, p4, n4, q4, rfl⟩ := nat_shape hx4
 have hbb := below_then hb4 (below_one2 w4 (.cells #[.bool b4, .slice p4 n4 q4] 24))
 have TY := Lib.hid (NBox.new hx4)
 have TX4 := Lib.hid (TX.out.below hbb)
 have HB4 := Lib.hid (below_then HB3.out hbb)
 have ht6 : t5 < w4.heap.size := Nat.lt_of_lt_of_le TX.out.lt hb4.size
 clear hx4 hb4 hbb M2 TX HB3 d0 d1
 go_wp2_with fail
 generalize w4.alloc (.cells #[.bool b4, .slice p4 n4 q4] 24) = W4 at *
 generalize w4.heap.size = t6 at *
 go_loopg [7] B (fun n _ wr => ∃ X : Nat, Hid (NBox wr t5 (X : Int)) ∧ Hid (NBox wr t6 (n : Int)) ∧ Hid (Nat.gcd X n = G) ∧ Hid ((digs X).length ≤ 400000) ∧ Hid ((digs n).length ≤ 400000) ∧ Hid (Laid wr (w.heap.size + 2) 24 [.bool false, .slice none 0 0]) ∧ Hid (Below w2.heap.size w2 wr))
 case atStart => exact ⟨A, TX4, TY, HG, HDL, HDB, Lib.hid (HL3.out.below HB4.out), HB4⟩
 case round =>
  obtain ⟨X, BX, BY, HGC, HLX, HLY, HLR, HBW⟩ := hrel
  clear TX4 TY HG HDL HDB HB4
  obtain ⟨sy, ay2, my, ky, ⟨d0, d1⟩, ⟨d2, d3⟩, hny, _⟩ := BY.out.open
  obtain ⟨sx, ax2, mx, kx, ⟨c0, c1⟩, ⟨c2, c3⟩, hnx, hlx⟩ := BX.out.open
  have hmy := row_lenN (nat_rowAt hny)
  rcases Nat.eq_zero_or_pos gk with h0 | h0
  ·have hmy0 : my = 0 := by rw [← hmy, h0, digs_zero]; rfl
   subst hmy0
   have hXG : X = G := by have := HGC.out; rw [h0, Nat.gcd_zero_right] at this; exact this
   have HE := Lib.hid (nend_at (w := w) (r := w.heap.size + 2) (HBE.out.trans (HBW.out.mono HBE.out.size)) (by omega) HLR.out hnx)
   rw [hXG] at HE
   obtain ⟨r0, r1, r2, r3⟩ := cells2 HLR.out
   clear hny hnx hlx hmy hXG
   go_wp2_with fail
   refine bodyPost_ret (v := .agg #[.bool sx, .slice ax2 mx kx]) (by simp [results, Tryz.results71, go_sem, r0, r1]) rfl ?_
   exact HE.out
  ·have hmy0 : (0 : Int) < (my : Int) := by
    have := digs_len_pos (show gk ≠ 0 by omega)
    omega
   have DV := nDiv_any _ _ (X : Int) (gk : Int) wr hnx hny (by rw [Int.natAbs_natCast]; exact HLX.out) (by rw [Int.natAbs_natCast]; exact HLY.out) (by omega)
   unfold NDivEnd at DV
   rw [show (X : Int) % (gk : Int) = ((X % gk : Nat) : Int) by simp] at DV
   have HDV := Lib.hid DV
   have HGN : Hid (Nat.gcd gk (X % gk) = G) := Lib.hid (by rw [← HGC.out, Nat.gcd_comm X gk, Nat.gcd_rec gk X, Nat.gcd_comm])
   have hlt : X % gk < gk := Nat.mod_lt _ h0
   have HLN : Hid ((digs (X % gk)).length ≤ 400000) := Lib.hid (by
    have h1 := digs_len_lt gk
    have := digs_len_le (Nat.lt_trans hlt h1)
    have := HLY.out
    omega)
   clear DV hny hnx hlx hmy
   go_wp2_with fail
   go_must (refine HDV.out.mono ?_)
   rintro e w5 ⟨xq, xr, rfl, hq5, hr5, hb5⟩
   obtain ⟨b5, p5, n5, q5, rfl⟩ := nat_shape hq5
   obtain ⟨b6, p6, n6, q6, rfl⟩ := nat_shape hr5
   obtain ⟨p1, p2⟩ := nbox_twoG hq5 hr5
   have hbb := below_then hb5 p2
   have TR := Lib.hid p1
   have BX5 := Lib.hid (BX.out.below hbb)
   have BY5 := Lib.hid (BY.out.below hbb)
   have HLR5 := Lib.hid (HLR.out.below hbb)
   have HBW5 := Lib.hid (below_then HBW.out hbb)
   have ht8 : t6 < w5.heap.size := Nat.lt_of_lt_of_le BY.out.lt hb5.size
   clear hq5 hr5 hb5 p1 p2 hbb HDV c0 c1 c2 c3 d0 d1 d2 d3 BX BY HLR HBW
   obtain ⟨sy, ay2, my, ky, ⟨d0, d1⟩, ⟨d2, d3⟩, hny, _⟩ := BY5.out.open
   obtain ⟨sx, ax2, mx, kx, ⟨c0, c1⟩, ⟨c2, c3⟩, _, hlx⟩ := BX5.out.open
   obtain ⟨sr, ar, mr, kr, ⟨e0, e1⟩, _, hnr, _⟩ := TR.out.open
   have BX6 := Lib.hid (BX5.out.store hny)
   have BY6 := Lib.hid (BX5.out.other BY5.out (by omega : t6 ≠ t5) (s := sy) (a := ay2) (m := my) (c := ky))
   have hnr6 := nat_set (nat_set hnr hlx 0 (.bool sy)) (hlx.set 0 (.bool sy)) 1 (.slice ay2 my ky)
   have BY7 := Lib.hid (BY6.out.store hnr6)
   have BX7 := Lib.hid (BY6.out.other BX6.out (by omega : t5 ≠ t6) (s := sr) (a := ar) (m := mr) (c := kr))
   have HLR7 := Lib.hid (HLR5.out.keeps (((keeps_set _ t5 0 (.bool sy)).trans (keeps_set _ t5 1 (.slice ay2 my ky)))) (by omega))
   have HLR8 := Lib.hid (HLR7.out.keeps (((keeps_set _ t6 0 (.bool sr)).trans (keeps_set _ t6 1 (.slice ar mr kr)))) (by omega))
   have HBW8 := Lib.hid ((((HBW5.out.setCell (p := ⟨t5, 0, none⟩) hs5 (.bool sy)).setCell (p := ⟨t5, 1, none⟩) hs5 (.slice ay2 my ky)).setCell (p := ⟨t6, 0, none⟩) (by show _ ≤ t6; omega) (.bool sr)).setCell (p := ⟨t6, 1, none⟩) (by show _ ≤ t6; omega) (.slice ar mr kr))
   have n1 : ¬ w5.heap.size = t5 := by omega
   have n2 : ¬ t5 = w5.heap.size := by omega
   have n3 : ¬ w5.heap.size + 1 = t5 := by omega
   have n4 : ¬ t5 = w5.heap.size + 1 := by omega
   have n5 : ¬ t6 = t5 := by omega
   have n6 : ¬ t5 = t6 := by omega
   clear hny hnr hlx hnr6 BX6 BY6 HLR7 HLR5 HBW5 BX5 BY5 TR
   go_wp2_with fail
   go_roundg (X % gk)
   case measure => exact hlt
   case rel => exact ⟨gk, BX7, BY7, HGN, HLY, HLN, HLR8, HBW8⟩
end Go.Proofs.YtepakogbbomaoaaGreatDoor
