/-
 The law FracOrder (begun: the head and the row of the reference's three fractions).
-/
import Derived.Test.YtepakogbbomaoaaGreatDoorFowO
import Derived.Test.YtepakogbbomaoaaGreatDoorOrdO
import Derived.Test.YtepakogbbomaoaaGreatDoorAbpO
import Derived.Test.YtepakogbbomaoaaGreatDoorLotO
import Derived.Deep.RegionHeld3
import Derived.Deep.DeepCutAuto
namespace Go.Proofs.YtepakogbbomaoaaGreatDoor
open Go.RowKit Go.Shelf
set_option linter.unusedVariables false
set_option maxRecDepth 100000
theorem rrow3_new {w : World} {z0 z1 z2 : Int × Int} {s0 s1 s2 t0 t1 t2 : Bool} {a0 a1 a2 d0 d1 d2 : Option Addr} {m0 c0 m1 c1 m2 c2 i0 j0 i1 j1 i2 j2 : Nat} (h0 : RFAt w (.agg #[.bool s0, .slice a0 m0 c0, .bool t0, .slice d0 i0 j0]) z0.1 z0.2) (h1 : RFAt w (.agg #[.bool s1, .slice a1 m1 c1, .bool t1, .slice d1 i1 j1]) z1.1 z1.2) (h2 : RFAt w (.agg #[.bool s2, .slice a2 m2 c2, .bool t2, .slice d2 i2 j2]) z2.1 z2.2) :
  RRow (w.alloc (.cells #[.bool s0, .slice a0 m0 c0, .bool t0, .slice d0 i0 j0, .bool s1, .slice a1 m1 c1, .bool t1, .slice d1 i1 j1, .bool s2, .slice a2 m2 c2, .bool t2, .slice d2 i2 j2] 26)) w.heap.size [z0, z1, z2] := by
 have hl := Laid.new w 26 [.bool s0, .slice a0 m0 c0, .bool t0, .slice d0 i0 j0, .bool s1, .slice a1 m1 c1, .bool t1, .slice d1 i1 j1, .bool s2, .slice a2 m2 c2, .bool t2, .slice d2 i2 j2]
 have hb := below_one w (.cells #[.bool s0, .slice a0 m0 c0, .bool t0, .slice d0 i0 j0, .bool s1, .slice a1 m1 c1, .bool t1, .slice d1 i1 j1, .bool s2, .slice a2 m2 c2, .bool t2, .slice d2 i2 j2] 26)
 refine ⟨hl.lt, fun k z hz => ?_⟩
 match k, hz with
 | 0, hz => cases hz; exact ⟨s0, t0, a0, d0, m0, i0, c0, j0, ⟨hl.cell 0, hl.cell 1, hl.cell 2, hl.cell 3⟩, rf_keeps h0 hb⟩
 | 1, hz => cases hz; exact ⟨s1, t1, a1, d1, m1, i1, c1, j1, ⟨hl.cell 4, hl.cell 5, hl.cell 6, hl.cell 7⟩, rf_keeps h1 hb⟩
 | 2, hz => cases hz; exact ⟨s2, t2, a2, d2, m2, i2, c2, j2, ⟨hl.cell 8, hl.cell 9, hl.cell 10, hl.cell 11⟩, rf_keeps h2 hb⟩
set_option maxHeartbeats 16000000 in
theorem walk_FracOrder (v : Value) (l : List Int) (w : World) (hv : Row .i64 w v l) (hr : ∀ n ∈ l, -9223372036854775808 ≤ n ∧ n ≤ 9223372036854775807) :
  Calls Tryz.prog 3 #[v] w fun e w' => e = .returned (.bool true) ∧ Below w.heap.size w w' := by
 have L0 := Lib.hid (fr_v hr 0)
 have L1 := Lib.hid (fr_v hr 4)
 have L2 := Lib.hid (fr_v hr 8)
 have FR : Hid (∀ (X : World) (i : Int), 0 ≤ i → i ≤ 1000 → Row .i64 X v l → Calls Tryz.prog 5 #[v, .int .i64 i] X (VEnd (KR (frP l i) (frQ l i)) X)) := Lib.hid (fun X i h1 h2 h3 => (fr4_any v l i X h3 hr ⟨h1, h2⟩).mono (fun _ _ => v_r))
 have F0 := Lib.hid (fun X h => FR.out X 0 (by decide) (by decide) h)
 have F4 := Lib.hid (fun X h => FR.out X 4 (by decide) (by decide) h)
 have F8 := Lib.hid (fun X h => FR.out X 8 (by decide) (by decide) h)
 clear FR hr
 generalize frP l 0 = p1 at *
 generalize frQ l 0 = q1 at *
 generalize frP l 4 = p2 at *
 generalize frQ l 4 = q2 at *
 generalize frP l 8 = p3 at *
 generalize frQ l 8 = q3 at *
 have LV : Hid (∀ X : World, Calls Tryz.prog 18 #[] X (VEnd (KX (.bool true)) X)) := Lib.hid (fun X => lives4_any X)
 have HL := Lib.hid hv
 have HB : Hid (Below w.heap.size w w) := Lib.hid (Below.refl _ _)
 obtain ⟨pv, cv, rfl, hcv, hcvm⟩ := (show ∃ p c, v = .slice p l.length c ∧ l.length ≤ c ∧ c ≤ 9223372036854775807 by obtain ⟨p, c, e, h1, h2, _⟩ := hv; exact ⟨p, c, e, h1, h2⟩)
 clear hv
 generalize hll : l.length = ll at *
 clear hll
 go_enter Tryz.func3, Tryz.ntmps3
 go_wp2_with fail
 have HC := Lib.hid (F0.out w HL.out)
 unfold VEnd at HC
 go_must (refine HC.out.mono ?_)
 rintro e w1 ⟨v0, rfl, hx0, hb0⟩
 obtain ⟨s0, t0, a0, d0, m0, i0, c0, j0, rfl⟩ := rf_shape hx0
 clear HC
 have HX0 := Lib.hid hx0
 replace HL := Lib.hid (row_keeps HL.out hb0)
 replace HB := Lib.hid (below_then HB.out hb0)
 clear hx0 hb0
 go_wp2_with fail
 have HC := Lib.hid (F4.out w1 HL.out)
 unfold VEnd at HC
 go_must (refine HC.out.mono ?_)
 rintro e w2 ⟨v1, rfl, hx1, hb1⟩
 obtain ⟨s1, t1, a1, d1, m1, i1, c1, j1, rfl⟩ := rf_shape hx1
 clear HC
 have HX1 := Lib.hid hx1
 replace HL := Lib.hid (row_keeps HL.out hb1)
 replace HB := Lib.hid (below_then HB.out hb1)
 replace HX0 := Lib.hid (rf_keeps HX0.out hb1)
 clear hx1 hb1
 go_wp2_with fail
 have HC := Lib.hid (F8.out w2 HL.out)
 unfold VEnd at HC
 go_must (refine HC.out.mono ?_)
 rintro e w3 ⟨v2, rfl, hx2, hb2⟩
 obtain ⟨s2, t2, a2, d2, m2, i2, c2, j2, rfl⟩ := rf_shape hx2
 clear HC
 have HX2 := Lib.hid hx2
 replace HL := Lib.hid (row_keeps HL.out hb2)
 replace HB := Lib.hid (below_then HB.out hb2)
 replace HX0 := Lib.hid (rf_keeps HX0.out hb2)
 replace HX1 := Lib.hid (rf_keeps HX1.out hb2)
 clear hx2 hb2
 go_wp2_with fail
 have HROW := Lib.hid (rrow3_new (z0 := (p1, q1)) (z1 := (p2, q2)) (z2 := (p3, q3)) HX0.out HX1.out HX2.out)
 obtain ⟨bl, hbl⟩ : ∃ bl, bl = w3.heap.size := ⟨_, rfl⟩
 have hwb : w.heap.size ≤ bl := hbl ▸ HB.out.size
 have hbx := below_one w3 (.cells #[.bool s0, .slice a0 m0 c0, .bool t0, .slice d0 i0 j0, .bool s1, .slice a1 m1 c1, .bool t1, .slice d1 i1 j1, .bool s2, .slice a2 m2 c2, .bool t2, .slice d2 i2 j2] 26)
 replace HB := Lib.hid (below_then HB.out hbx)
 rw [← hbl] at HROW ⊢
 generalize w3.alloc (.cells #[.bool s0, .slice a0 m0 c0, .bool t0, .slice d0 i0 j0, .bool s1, .slice a1 m1 c1, .bool t1, .slice d1 i1 j1, .bool s2, .slice a2 m2 c2, .bool t2, .slice d2 i2 j2] 26) = w4 at *
 have HZS : Hid (∀ k, k < 3 → ∃ z, ([(p1, q1), (p2, q2), (p3, q3)] : List (Int × Int))[k]? = some z ∧ FV 1240 z.1 z.2 z.1 z.2) := Lib.hid (fun k hk => by
  match k, hk with
  | 0, _ => exact ⟨_, rfl, L0.out⟩
  | 1, _ => exact ⟨_, rfl, L1.out⟩
  | 2, _ => exact ⟨_, rfl, L2.out⟩)
 have HLT := Lib.hid HROW.out.1
 clear HX0 HX1 HX2 hbx hbl HL
 generalize hzs : ([(p1, q1), (p2, q2), (p3, q3)] : List (Int × Int)) = zs at *
 have hzl : zs.length = 3 := by rw [← hzs]; rfl
 have HZ012 : Hid (zs[0]? = some (p1, q1) ∧ zs[1]? = some (p2, q2) ∧ zs[2]? = some (p3, q3)) := Lib.hid (by rw [← hzs]; exact ⟨rfl, rfl, rfl⟩)
 clear hzs
 have HF : Hid (FSl w4 (bl + 1) (.slice none 0 0) (zs.take 0)) := Lib.hid (.inl ⟨rfl, by simp⟩)
 go_loopw [4, 5] (fun xv iv wr => ∃ ki : Nat, iv = .int .i64 (ki : Int) ∧ ki ≤ 3 ∧ Hid (FSl wr (bl + 1) xv (zs.take ki)) ∧ Hid (RRow wr bl zs) ∧ Hid (Below w.heap.size w wr)) (fun _ iv _ => (3 - intOf iv).toNat)
 case atStart => exact ⟨0, rfl, by decide, HF, HROW, HB⟩
 case round =>
  clear HROW HB HF
  obtain ⟨ki, rfl, hki, HF, HROW, HB⟩ := hrel
  rcases Nat.lt_or_ge ki 3 with hlt | hge
  ·have hlt' : (ki : Int) < 3 := by omega
   have hli : ¬ ((3 : Int) ≤ (ki : Int)) := by omega
   obtain ⟨⟨pi, qi⟩, hzi, nzi⟩ := HZS.out ki hlt
   have HZI := Lib.hid hzi
   have NZI := Lib.hid nzi
   clear hzi nzi
   obtain ⟨sI1, tI1, aI1, dI1, mI1, iI1, cI1, jI1, ⟨xI10, xI11, xI12, xI13⟩, yI1⟩ := HROW.out.2 ki _ HZI.out
   have HI1 := Lib.hid yI1
   clear yI1
   have NB : Nb pi qi := NZI.out.nb (by decide)
   go_wp2_with fail
   have HC := Lib.hid (of_nb NB wr _ HI1.out)
   unfold VEnd at HC
   go_must (refine HC.out.mono ?_)
   rintro e w5 ⟨v5, rfl, hx5, hb5⟩
   obtain ⟨sx, tx, ax, dx, mx, ix, cx, jx, rfl⟩ := fat_shape hx5
   clear HC
   clear xI10 xI11 xI12 xI13 HI1
   -- FIRST LOOP
   have HX := Lib.hid (FBox.new hx5)
   have hb6 := below_then hb5 (below_one w5 (.cells #[.bool sx, .slice ax mx cx, .bool tx, .slice dx ix jx] 34))
   replace HF := Lib.hid (HF.out.below hb6)
   replace HROW := Lib.hid (rrow_keeps HROW.out hb6)
   replace HB := Lib.hid (below_then HB.out hb6)
   clear hx5 hb5 hb6
   obtain ⟨sX, tX, aX, dX, mX, iX, cX, jX, ⟨cX0, cX1, cX2, cX3⟩, _, hX⟩ := HX.out.open
   have hlen : (zs.take ki).length ≤ 1000000 := by rw [List.length_take]; omega
   go_wp2_with (refine wpList_append_frac (o := ⟨some 43, _, _, _, _, _⟩) (z := (pi, qi)) rfl (.tmp 36) (.tmp 42) rfl rfl rfl HF.out (Nat.succ_le_of_lt HROW.out.1) hlen cX0 cX1 cX2 cX3 hX ?_; intro v7 w7 hF7 hO7)
   have HF7 : Hid (FSl w7 (bl + 1) v7 (zs.take (ki + 1))) := Lib.hid (by rw [List.take_add_one, HZI.out]; exact hF7)
   replace HROW := Lib.hid (hO7.rrow (Nat.lt_succ_self bl) HROW.out)
   replace HB := Lib.hid (HB.out.trans (hO7.below.mono (by omega)))
   clear HF hF7 hO7 cX0 cX1 cX2 cX3 hX HX hlen
   obtain ⟨gx, lx, cx', rfl, hlx, hown⟩ : ∃ g lx cap, v7 = .slice (some ⟨g, 0, none⟩) lx cap ∧ lx = ki + 1 ∧ FOwn w7 g cap (zs.take (ki + 1)) := by
    rcases HF7.out with ⟨_, h⟩ | ⟨g, cap, h1, h2, h3⟩
    ·have h4 := congrArg List.length h
     rw [List.length_take] at h4
     simp only [List.length_nil] at h4
     omega
    ·exact ⟨g, _, cap, h1, by rw [List.length_take]; omega, h3⟩
   have hk1 : (zs.take (ki + 1))[ki]? = some (pi, qi) := by rw [List.getElem?_take_of_lt (by omega)]; exact HZI.out
   obtain ⟨sJ, tJ, aJ, dJ, mJ, iJ, cJ, jJ, ⟨cJ0, cJ1, cJ2, cJ3⟩, hJ⟩ := hown.cells hk1
   obtain ⟨sI, tI, aI, dI, mI, iI, cI, jI, ⟨cI0, cI1, cI2, cI3⟩, hI⟩ := HROW.out.2 ki _ HZI.out
   have hgl := hown.lt
   have hrl := HROW.out.1
   have CELLS : Hid (∀ X : World, Below w7.heap.size w7 X → (X.cell? ⟨gx, ki * 4, none⟩ = some (.bool sJ) ∧ X.cell? ⟨gx, ki * 4 + 1, none⟩ = some (.slice aJ mJ cJ) ∧ X.cell? ⟨gx, ki * 4 + 2, none⟩ = some (.bool tJ) ∧ X.cell? ⟨gx, ki * 4 + 3, none⟩ = some (.slice dJ iJ jJ)) ∧ (X.cell? ⟨bl, ki * 4, none⟩ = some (.bool sI) ∧ X.cell? ⟨bl, ki * 4 + 1, none⟩ = some (.slice aI mI cI) ∧ X.cell? ⟨bl, ki * 4 + 2, none⟩ = some (.bool tI) ∧ X.cell? ⟨bl, ki * 4 + 3, none⟩ = some (.slice dI iI jI))) := Lib.hid (fun X h => ⟨⟨(h.cell (p := ⟨gx, ki * 4, none⟩) hgl).trans cJ0, (h.cell (p := ⟨gx, ki * 4 + 1, none⟩) hgl).trans cJ1, (h.cell (p := ⟨gx, ki * 4 + 2, none⟩) hgl).trans cJ2, (h.cell (p := ⟨gx, ki * 4 + 3, none⟩) hgl).trans cJ3⟩, ⟨(h.cell (p := ⟨bl, ki * 4, none⟩) hrl).trans cI0, (h.cell (p := ⟨bl, ki * 4 + 1, none⟩) hrl).trans cI1, (h.cell (p := ⟨bl, ki * 4 + 2, none⟩) hrl).trans cI2, (h.cell (p := ⟨bl, ki * 4 + 3, none⟩) hrl).trans cI3⟩⟩)
   have C48 : Hid (∀ X, Below w7.heap.size w7 X → Calls Tryz.prog 7 #[.agg #[.bool sJ, .slice aJ mJ cJ, .bool tJ, .slice dJ iJ jJ]] X (VEnd (KX (.int .i64 (cmpZ pi 0))) X)) := Lib.hid (fun X h => (fSign_any _ pi qi X (fat_keeps hJ h) (nb_words NB.n)).mono (fun _ _ => v_c))
   have C53 : Hid (∀ X, Below w7.heap.size w7 X → Calls Tryz.prog 8 #[.agg #[.bool sI, .slice aI mI cI, .bool tI, .slice dI iI jI]] X (VEnd (KX (.int .i64 (cmpZ pi 0))) X)) := Lib.hid (fun X h => (rSign_ref _ pi qi X (rf_keeps hI h)).mono (fun _ _ => v_c))
   generalize cmpZ pi 0 = c9 at C48 C53
   clear cJ0 cJ1 cJ2 cJ3 cI0 cI1 cI2 cI3 hJ hI hown hk1 hgl hrl
   have hkx : ki < lx := by omega
   go_wp2_with fail
   have hnd : ([44, 45, 46, 47, 48, 49, 50, 51, 52, 53, 54] : List Nat).Nodup := by decide
   refine region_abs [44, 45, 46, 47, 48, 49, 50, 51, 52, 53, 54] (getK [KX (.slice (some ⟨gx, 0, none⟩) lx cx'), KX (.int .i64 (ki : Int)), KX (.pointer (some ⟨gx, ki * 4, none⟩)), KX (.agg #[.bool sJ, .slice aJ mJ cJ, .bool tJ, .slice dJ iJ jJ]), KX (.int .i64 c9), KX (.slice (some ⟨bl, 0, none⟩) 3 3), KX (.int .i64 (ki : Int)), KX (.pointer (some ⟨bl, ki * 4, none⟩)), KX (.agg #[.bool sI, .slice aI mI cI, .bool tI, .slice dI iI jI]), KX (.int .i64 c9), KX (.bool false)]) 11 0 [] [0, 1, 2, 3, 4, 5, 6, 7, 8, 9, 10] (by kernel_rfl) rfl (by kernel_rfl) (by kernel_rfl) (by kernel_rfl) (by kernel_rfl) (by kernel_rfl) (fun _ _ d _ _ h => by cases d <;> exact h) (getK_mono ⟨m_x, m_x, m_x, m_x, m_x, m_x, m_x, m_x, m_x, m_x, m_x, trivial⟩) trivial ⟨?_, ?_, ?_, ?_, ?_, ?_, ?_, ?_, ?_, ?_, ?_, trivial⟩ ?_
   ·intro x w hB hd
    exact st_val rfl (want_none rfl) rfl rfl hnd (x_move rfl (eval_out rfl rfl)) (Below.refl _ _) rfl
   ·intro x w hB hd
    exact st_val rfl (want_none rfl) rfl rfl hnd (x_move rfl (eval_out rfl rfl)) (Below.refl _ _) rfl
   ·intro x w hB hd
    obtain ⟨k0, k1, -⟩ := deps_k (ds := [0, 1]) (by kernel_rfl) hd
    exact st_val rfl (want_none rfl) rfl rfl hnd (x_ixF rfl ((eval_in hnd rfl (by simp)).trans k0) ((eval_in hnd rfl (by simp)).trans k1) hkx) (Below.refl _ _) rfl
   ·intro x w hB hd
    obtain ⟨k2, -⟩ := deps_k (ds := [2]) (by kernel_rfl) hd
    exact st_val rfl (want_none rfl) rfl rfl hnd (x_ldF rfl ((eval_in hnd rfl (by simp)).trans k2) (CELLS.out w hB).1.1 (CELLS.out w hB).1.2.1 (CELLS.out w hB).1.2.2.1 (CELLS.out w hB).1.2.2.2) (Below.refl _ _) rfl
   ·intro x w hB hd
    obtain ⟨k3, -⟩ := deps_k (ds := [3]) (by kernel_rfl) hd
    exact st_call rfl (want_none rfl) rfl rfl hnd (x_call1 rfl ((eval_in hnd rfl (by simp)).trans k3) rfl (by kernel_rfl)) (C48.out w hB)
   ·intro x w hB hd
    exact st_val rfl (want_none rfl) rfl rfl hnd (x_move rfl (eval_out rfl rfl)) (Below.refl _ _) rfl
   ·intro x w hB hd
    exact st_val rfl (want_none rfl) rfl rfl hnd (x_move rfl (eval_out rfl rfl)) (Below.refl _ _) rfl
   ·intro x w hB hd
    obtain ⟨k5, k6, -⟩ := deps_k (ds := [5, 6]) (by kernel_rfl) hd
    exact st_val rfl (want_none rfl) rfl rfl hnd (x_ixR rfl ((eval_in hnd rfl (by simp)).trans k5) ((eval_in hnd rfl (by simp)).trans k6) hlt) (Below.refl _ _) rfl
   ·intro x w hB hd
    obtain ⟨k7, -⟩ := deps_k (ds := [7]) (by kernel_rfl) hd
    exact st_val rfl (want_none rfl) rfl rfl hnd (x_ldR rfl ((eval_in hnd rfl (by simp)).trans k7) (CELLS.out w hB).2.1 (CELLS.out w hB).2.2.1 (CELLS.out w hB).2.2.2.1 (CELLS.out w hB).2.2.2.2) (Below.refl _ _) rfl
   ·intro x w hB hd
    obtain ⟨k8, k4, -⟩ := deps_k (ds := [8, 4]) (by kernel_rfl) hd
    exact st_call rfl (want_none rfl) rfl rfl hnd (x_call1 rfl ((eval_in hnd rfl (by simp)).trans k8) rfl (by kernel_rfl)) (C53.out w hB)
   ·intro x w hB hd
    obtain ⟨k4, k9, -⟩ := deps_k (ds := [4, 9]) (by kernel_rfl) hd
    exact st_val rfl (want_none rfl) rfl rfl hnd (x_ne rfl ((eval_in hnd rfl (by simp)).trans k4) ((eval_in hnd rfl (by simp)).trans k9)) (Below.refl _ _) (congrArg Value.bool (bne_self_eq_false c9))
   ·intro x w8 hB8 H
    have e54 : x 10 = .bool false := H 10 (by decide)
    refine wpAnyH_done (by kernel_rfl) ?_ _
    clear H
    replace HF7 := Lib.hid (HF7.out.below hB8)
    replace HROW := Lib.hid (rrow_keeps HROW.out hB8)
    replace HB := Lib.hid (below_then HB.out hB8)
    clear CELLS C48 C53 hB8
    simp only [frm, e54, List.setIfInBounds_toArray, List.set_cons_zero, List.set_cons_succ]
    go_wp2_with fail
    exact ⟨⟨ki + 1, by go_num, by omega, HF7, HROW, HB⟩, by simp only [intOf]; omega⟩
  ·have hk3 : ki = 3 := by omega
   have hli : (3 : Int) ≤ (ki : Int) := by omega
   obtain ⟨gx, cx', rfl, hown⟩ : ∃ g cap, u4 = .slice (some ⟨g, 0, none⟩) 3 cap ∧ FOwn wr g cap zs := by
    have h9 : zs.take ki = zs := List.take_of_length_le (by omega)
    have h8 := HF.out
    rw [h9] at h8
    rcases h8 with ⟨_, h⟩ | ⟨g, cap, h1, h2, h3⟩
    ·rw [h] at hzl
     cases hzl
    ·exact ⟨g, cap, by rw [h1, hzl], h3⟩
   have HO := Lib.hid hown
   clear HF hown hki hk3
   go_wp2_with fail
   go_loopw [6, 7, 8] (fun iv _ _ wr => ∃ ki : Nat, iv = .int .i64 (ki : Int) ∧ ki ≤ 3 ∧ Hid (FOwn wr gx cx' zs) ∧ Hid (RRow wr bl zs) ∧ Hid (Below w.heap.size w wr)) (fun iv _ _ _ => (3 - intOf iv).toNat)
   case atStart => exact ⟨0, rfl, by decide, HO, HROW, HB⟩
   case round =>
    clear HO HROW HB
    obtain ⟨ki, rfl, hki, HO, HROW, HB⟩ := hrel
    rcases Nat.lt_or_ge ki 3 with hlt | hge
    ·have hlt' : (ki : Int) < 3 := by omega
     have hli : ¬ ((3 : Int) ≤ (ki : Int)) := by omega
     go_wp2_with fail
     go_loopw [7, 8] (fun jv _ wr => ∃ kk : Nat, jv = .int .i64 (kk : Int) ∧ kk ≤ 3 ∧ Hid (FOwn wr gx cx' zs) ∧ Hid (RRow wr bl zs) ∧ Hid (Below w.heap.size w wr)) (fun jv _ _ => (3 - intOf jv).toNat)
     case atStart => exact ⟨0, rfl, by decide, HO, HROW, HB⟩
     case round =>
      clear HO HROW HB
      obtain ⟨kk, rfl, hkk, HO, HROW, HB⟩ := hrel
      rcases Nat.lt_or_ge kk 3 with hlk | hgk
      ·have hlk' : (kk : Int) < 3 := by omega
       have hlj : ¬ ((3 : Int) ≤ (kk : Int)) := by omega
       obtain ⟨⟨pi, qi⟩, hzi, nzi⟩ := HZS.out ki hlt
       obtain ⟨⟨pk, qk⟩, hzk, nzk⟩ := HZS.out kk hlk
       obtain ⟨sI, tI, aI, dI, mI, iI, cI, jI, ⟨cI0, cI1, cI2, cI3⟩, hI⟩ := HO.out.cells hzi
       obtain ⟨sK, tK, aK, dK, mK, iK, cK, jK, ⟨cK0, cK1, cK2, cK3⟩, hK⟩ := HO.out.cells hzk
       obtain ⟨sM, tM, aM, dM, mM, iM, cM, jM, ⟨cM0, cM1, cM2, cM3⟩, hM⟩ := HROW.out.2 ki _ hzi
       obtain ⟨sN, tN, aN, dN, mN, iN, cN, jN, ⟨cN0, cN1, cN2, cN3⟩, hN⟩ := HROW.out.2 kk _ hzk
       have hgl := HO.out.lt
       have hrl := HROW.out.1
       have CELLS : Hid (∀ X : World, Below wr.heap.size wr X → (X.cell? ⟨gx, ki * 4, none⟩ = some (.bool sI) ∧ X.cell? ⟨gx, ki * 4 + 1, none⟩ = some (.slice aI mI cI) ∧ X.cell? ⟨gx, ki * 4 + 2, none⟩ = some (.bool tI) ∧ X.cell? ⟨gx, ki * 4 + 3, none⟩ = some (.slice dI iI jI)) ∧ (X.cell? ⟨gx, kk * 4, none⟩ = some (.bool sK) ∧ X.cell? ⟨gx, kk * 4 + 1, none⟩ = some (.slice aK mK cK) ∧ X.cell? ⟨gx, kk * 4 + 2, none⟩ = some (.bool tK) ∧ X.cell? ⟨gx, kk * 4 + 3, none⟩ = some (.slice dK iK jK)) ∧ (X.cell? ⟨bl, ki * 4, none⟩ = some (.bool sM) ∧ X.cell? ⟨bl, ki * 4 + 1, none⟩ = some (.slice aM mM cM) ∧ X.cell? ⟨bl, ki * 4 + 2, none⟩ = some (.bool tM) ∧ X.cell? ⟨bl, ki * 4 + 3, none⟩ = some (.slice dM iM jM)) ∧ (X.cell? ⟨bl, kk * 4, none⟩ = some (.bool sN) ∧ X.cell? ⟨bl, kk * 4 + 1, none⟩ = some (.slice aN mN cN) ∧ X.cell? ⟨bl, kk * 4 + 2, none⟩ = some (.bool tN) ∧ X.cell? ⟨bl, kk * 4 + 3, none⟩ = some (.slice dN iN jN))) := Lib.hid (fun X h => ⟨⟨(h.cell (p := ⟨gx, ki * 4, none⟩) hgl).trans cI0, (h.cell (p := ⟨gx, ki * 4 + 1, none⟩) hgl).trans cI1, (h.cell (p := ⟨gx, ki * 4 + 2, none⟩) hgl).trans cI2, (h.cell (p := ⟨gx, ki * 4 + 3, none⟩) hgl).trans cI3⟩, ⟨(h.cell (p := ⟨gx, kk * 4, none⟩) hgl).trans cK0, (h.cell (p := ⟨gx, kk * 4 + 1, none⟩) hgl).trans cK1, (h.cell (p := ⟨gx, kk * 4 + 2, none⟩) hgl).trans cK2, (h.cell (p := ⟨gx, kk * 4 + 3, none⟩) hgl).trans cK3⟩, ⟨(h.cell (p := ⟨bl, ki * 4, none⟩) hrl).trans cM0, (h.cell (p := ⟨bl, ki * 4 + 1, none⟩) hrl).trans cM1, (h.cell (p := ⟨bl, ki * 4 + 2, none⟩) hrl).trans cM2, (h.cell (p := ⟨bl, ki * 4 + 3, none⟩) hrl).trans cM3⟩, ⟨(h.cell (p := ⟨bl, kk * 4, none⟩) hrl).trans cN0, (h.cell (p := ⟨bl, kk * 4 + 1, none⟩) hrl).trans cN1, (h.cell (p := ⟨bl, kk * 4 + 2, none⟩) hrl).trans cN2, (h.cell (p := ⟨bl, kk * 4 + 3, none⟩) hrl).trans cN3⟩⟩)
       have NI : Nb pi qi := nzi.nb (by decide)
       have NK : Nb pk qk := nzk.nb (by decide)
       have qi0 : 0 < qi := NI.low.pos
       have qk0 : 0 < qk := NK.low.pos
       have CIK : Hid (∀ X, Below wr.heap.size wr X → Calls Tryz.prog 9 #[.agg #[.bool sI, .slice aI mI cI, .bool tI, .slice dI iI jI], .agg #[.bool sK, .slice aK mK cK, .bool tK, .slice dK iK jK]] X (VEnd (KX (.int .i64 (cmpF (pi * qk) (pk * qi)))) X)) := Lib.hid (fun X h => cmp_fv nzi nzk (by decide) qi0 qk0 X _ _ (fat_keeps hI h) (fat_keeps hK h))
       have CKI : Hid (∀ X, Below wr.heap.size wr X → Calls Tryz.prog 9 #[.agg #[.bool sK, .slice aK mK cK, .bool tK, .slice dK iK jK], .agg #[.bool sI, .slice aI mI cI, .bool tI, .slice dI iI jI]] X (VEnd (KX (.int .i64 (-cmpF (pi * qk) (pk * qi)))) X)) := Lib.hid (fun X h => cmp_anti _ _ ▸ cmp_fv nzk nzi (by decide) qk0 qi0 X _ _ (fat_keeps hK h) (fat_keeps hI h))
       have CMN : Hid (∀ X, Below wr.heap.size wr X → Calls Tryz.prog 10 #[.agg #[.bool sM, .slice aM mM cM, .bool tM, .slice dM iM jM], .agg #[.bool sN, .slice aN mN cN, .bool tN, .slice dN iN jN]] X (VEnd (KX (.int .i64 (cmpF (pi * qk) (pk * qi)))) X)) := Lib.hid (fun X h => (rCompare_ref _ _ pi qi pk qk X (rf_keeps hM h) (rf_keeps hN h) NI.rfine NK.rfine).mono (fun _ _ => v_c))
       have CEQ : Hid (∀ X, Below wr.heap.size wr X → Calls Tryz.prog 11 #[.agg #[.bool sI, .slice aI mI cI, .bool tI, .slice dI iI jI], .agg #[.bool sK, .slice aK mK cK, .bool tK, .slice dK iK jK]] X (VEnd (KX (.bool (cmpF (pi * qk) (pk * qi) == 0))) X)) := Lib.hid (fun X h => txt_cmp NI NK ▸ lEqual_any _ _ pi qi pk qk X (fat_keeps hI h) (fat_keeps hK h) (nzi.fine (by decide)) (nzk.fine (by decide)))
       have HCR := cmp_range (pi * qk) (pk * qi)
       generalize cmpF (pi * qk) (pk * qi) = c9 at CIK CKI CMN CEQ HCR
       have HNG : IntKind.i64.wrap (-(-c9)) = c9 := by rw [Int.neg_neg]; exact IntWalk.i64_in _ (by omega)
       clear cI0 cI1 cI2 cI3 cK0 cK1 cK2 cK3 cM0 cM1 cM2 cM3 cN0 cN1 cN2 cN3 hI hK hM hN hgl hrl hzi hzk nzi nzk NI NK qi0 qk0
       go_wp2_with fail
       have hnd : ([63, 64, 65, 66, 67, 68, 69, 70, 71] : List Nat).Nodup := by decide
       refine region_abs [63, 64, 65, 66, 67, 68, 69, 70, 71] (getK [KX (.slice (some ⟨gx, 0, none⟩) 3 cx'), KX (.int .i64 (ki : Int)), KX (.pointer (some ⟨gx, ki * 4, none⟩)), KX (.agg #[.bool sI, .slice aI mI cI, .bool tI, .slice dI iI jI]), KX (.slice (some ⟨gx, 0, none⟩) 3 cx'), KX (.int .i64 (kk : Int)), KX (.pointer (some ⟨gx, kk * 4, none⟩)), KX (.agg #[.bool sK, .slice aK mK cK, .bool tK, .slice dK iK jK]), KX (.int .i64 (c9))]) 9 1 [] [0, 1, 2, 3, 4, 5, 6, 7, 8] (by kernel_rfl) rfl (by kernel_rfl) (by kernel_rfl) (by kernel_rfl) (by kernel_rfl) (by kernel_rfl) (fun _ _ d _ _ h => by cases d <;> exact h) (getK_mono ⟨m_x, m_x, m_x, m_x, m_x, m_x, m_x, m_x, m_x, trivial⟩) trivial ⟨?_, ?_, ?_, ?_, ?_, ?_, ?_, ?_, ?_, trivial⟩ ?_
       ·intro x w hB hd
        exact st_val rfl (want_none rfl) rfl rfl hnd (x_move rfl (eval_out rfl rfl)) (Below.refl _ _) rfl
       ·intro x w hB hd
        exact st_val rfl (want_none rfl) rfl rfl hnd (x_move rfl (eval_out rfl rfl)) (Below.refl _ _) rfl
       ·intro x w hB hd
        obtain ⟨k0, k1, -⟩ := deps_k (ds := [0, 1]) (by kernel_rfl) hd
        exact st_val rfl (want_none rfl) rfl rfl hnd (x_ixF rfl ((eval_in hnd rfl (by simp)).trans k0) ((eval_in hnd rfl (by simp)).trans k1) hlt) (Below.refl _ _) rfl
       ·intro x w hB hd
        obtain ⟨k2, -⟩ := deps_k (ds := [2]) (by kernel_rfl) hd
        exact st_val rfl (want_none rfl) rfl rfl hnd (x_ldF rfl ((eval_in hnd rfl (by simp)).trans k2) (CELLS.out w hB).1.1 (CELLS.out w hB).1.2.1 (CELLS.out w hB).1.2.2.1 (CELLS.out w hB).1.2.2.2) (Below.refl _ _) rfl
       ·intro x w hB hd
        exact st_val rfl (want_none rfl) rfl rfl hnd (x_move rfl (eval_out rfl rfl)) (Below.refl _ _) rfl
       ·intro x w hB hd
        exact st_val rfl (want_none rfl) rfl rfl hnd (x_move rfl (eval_out rfl rfl)) (Below.refl _ _) rfl
       ·intro x w hB hd
        obtain ⟨k4, k5, -⟩ := deps_k (ds := [4, 5]) (by kernel_rfl) hd
        exact st_val rfl (want_none rfl) rfl rfl hnd (x_ixF rfl ((eval_in hnd rfl (by simp)).trans k4) ((eval_in hnd rfl (by simp)).trans k5) hlk) (Below.refl _ _) rfl
       ·intro x w hB hd
        obtain ⟨k6, -⟩ := deps_k (ds := [6]) (by kernel_rfl) hd
        exact st_val rfl (want_none rfl) rfl rfl hnd (x_ldF rfl ((eval_in hnd rfl (by simp)).trans k6) (CELLS.out w hB).2.1.1 (CELLS.out w hB).2.1.2.1 (CELLS.out w hB).2.1.2.2.1 (CELLS.out w hB).2.1.2.2.2) (Below.refl _ _) rfl
       ·intro x w hB hd
        obtain ⟨k3, k7, -⟩ := deps_k (ds := [3, 7]) (by kernel_rfl) hd
        exact st_call rfl (want_none rfl) rfl rfl hnd (x_call2 rfl ((eval_in hnd rfl (by simp)).trans k3) ((eval_in hnd rfl (by simp)).trans k7) rfl (by kernel_rfl)) (CIK.out w hB)
       ·intro x w8 hB8 H
        have e71 : x 8 = .int .i64 c9 := H 8 (by decide)
        refine tail_assign (i := 9) (by kernel_rfl) rfl (want_none rfl) rfl (x_asg rfl ((eval_in hnd rfl (by simp)).trans e71)) ?_
        refine wpAnyH_done (by kernel_rfl) ?_ _
        clear H hnd
        have HB8 := Lib.hid hB8
        simp only [frm, e71, List.setIfInBounds_toArray, List.set_cons_zero, List.set_cons_succ]
        go_wp2_with fail
        have CE8 : Hid (∀ X : World, Below w8.heap.size w8 X → X.cell? ⟨gx, ki * 4, none⟩ = some (.bool sI) ∧ X.cell? ⟨gx, ki * 4 + 1, none⟩ = some (.slice aI mI cI) ∧ X.cell? ⟨gx, ki * 4 + 2, none⟩ = some (.bool tI) ∧ X.cell? ⟨gx, ki * 4 + 3, none⟩ = some (.slice dI iI jI) ∧ X.cell? ⟨gx, kk * 4, none⟩ = some (.bool sK) ∧ X.cell? ⟨gx, kk * 4 + 1, none⟩ = some (.slice aK mK cK) ∧ X.cell? ⟨gx, kk * 4 + 2, none⟩ = some (.bool tK) ∧ X.cell? ⟨gx, kk * 4 + 3, none⟩ = some (.slice dK iK jK) ∧ X.cell? ⟨bl, ki * 4, none⟩ = some (.bool sM) ∧ X.cell? ⟨bl, ki * 4 + 1, none⟩ = some (.slice aM mM cM) ∧ X.cell? ⟨bl, ki * 4 + 2, none⟩ = some (.bool tM) ∧ X.cell? ⟨bl, ki * 4 + 3, none⟩ = some (.slice dM iM jM) ∧ X.cell? ⟨bl, kk * 4, none⟩ = some (.bool sN) ∧ X.cell? ⟨bl, kk * 4 + 1, none⟩ = some (.slice aN mN cN) ∧ X.cell? ⟨bl, kk * 4 + 2, none⟩ = some (.bool tN) ∧ X.cell? ⟨bl, kk * 4 + 3, none⟩ = some (.slice dN iN jN)) := Lib.hid (fun X h => by
         obtain ⟨⟨i0, i1, i2, i3⟩, ⟨k0, k1, k2, k3⟩, ⟨m0, m1, m2, m3⟩, n0, n1, n2, n3⟩ := CELLS.out X (below_then HB8.out h)
         exact ⟨i0, i1, i2, i3, k0, k1, k2, k3, m0, m1, m2, m3, n0, n1, n2, n3⟩)
        have A1 : Hid (∀ X, Below w8.heap.size w8 X → Calls Tryz.prog 10 #[.agg #[.bool sM, .slice aM mM cM, .bool tM, .slice dM iM jM], .agg #[.bool sN, .slice aN mN cN, .bool tN, .slice dN iN jN]] X (fun e w' => e = .returned (.int .i64 c9) ∧ Below X.heap.size X w')) := Lib.hid (fun X h => (CMN.out X (below_then HB8.out h)).mono (fun _ _ => vx_end))
        have A2 : Hid (∀ X, Below w8.heap.size w8 X → Calls Tryz.prog 9 #[.agg #[.bool sK, .slice aK mK cK, .bool tK, .slice dK iK jK], .agg #[.bool sI, .slice aI mI cI, .bool tI, .slice dI iI jI]] X (fun e w' => e = .returned (.int .i64 (-c9)) ∧ Below X.heap.size X w')) := Lib.hid (fun X h => (CKI.out X (below_then HB8.out h)).mono (fun _ _ => vx_end))
        have A3 : Hid (∀ X, Below w8.heap.size w8 X → Calls Tryz.prog 11 #[.agg #[.bool sI, .slice aI mI cI, .bool tI, .slice dI iI jI], .agg #[.bool sK, .slice aK mK cK, .bool tK, .slice dK iK jK]] X (fun e w' => e = .returned (.bool (c9 == 0)) ∧ Below X.heap.size X w')) := Lib.hid (fun X h => (CEQ.out X (below_then HB8.out h)).mono (fun _ _ => vx_end))
        clear CELLS CIK CKI CMN CEQ HCR
        generalize -c9 = d9 at A2 HNG
        obtain ⟨b9, hb9⟩ : ∃ b9, b9 = (c9 == 0) := ⟨_, rfl⟩
        rw [← hb9] at A3
        have hc0 : (c9 = 0 ∧ b9 = true) ∨ (¬ (c9 = 0) ∧ b9 = false) := by
         rcases Classical.em (c9 = 0) with h | h
         ·exact .inl ⟨h, by rw [hb9, h]; rfl⟩
         ·exact .inr ⟨h, by rw [hb9]; simpa using h⟩
        clear hb9 hki hkk
        have HB0 : Hid (Below w8.heap.size w8 w8.drew) := Lib.hid (Below.refl _ _).drew
        rcases hc0 with ⟨rfl, rfl⟩ | ⟨hc0, rfl⟩
        ·go_region_held3 (fun X : World => X.cell? ⟨gx, ki * 4, none⟩ = some (.bool sI) ∧ X.cell? ⟨gx, ki * 4 + 1, none⟩ = some (.slice aI mI cI) ∧ X.cell? ⟨gx, ki * 4 + 2, none⟩ = some (.bool tI) ∧ X.cell? ⟨gx, ki * 4 + 3, none⟩ = some (.slice dI iI jI) ∧ X.cell? ⟨gx, kk * 4, none⟩ = some (.bool sK) ∧ X.cell? ⟨gx, kk * 4 + 1, none⟩ = some (.slice aK mK cK) ∧ X.cell? ⟨gx, kk * 4 + 2, none⟩ = some (.bool tK) ∧ X.cell? ⟨gx, kk * 4 + 3, none⟩ = some (.slice dK iK jK) ∧ X.cell? ⟨bl, ki * 4, none⟩ = some (.bool sM) ∧ X.cell? ⟨bl, ki * 4 + 1, none⟩ = some (.slice aM mM cM) ∧ X.cell? ⟨bl, ki * 4 + 2, none⟩ = some (.bool tM) ∧ X.cell? ⟨bl, ki * 4 + 3, none⟩ = some (.slice dM iM jM) ∧ X.cell? ⟨bl, kk * 4, none⟩ = some (.bool sN) ∧ X.cell? ⟨bl, kk * 4 + 1, none⟩ = some (.slice aN mN cN) ∧ X.cell? ⟨bl, kk * 4 + 2, none⟩ = some (.bool tN) ∧ X.cell? ⟨bl, kk * 4 + 3, none⟩ = some (.slice dN iN jN)) (with_reducible first | exact CE8.out _ HB0.out | exact CE8.out _ HB1.out | exact CE8.out _ HB12.out | exact CE8.out _ HB123.out) (first
          | (go_at_call 10; (with_reducible refine (A1.out _ HB0.out).mono ?_); rintro e w23 ⟨rfl, hb⟩; have HB1 := Lib.hid (below_then HB0.out hb); clear hb HB0)
          | (go_at_call 9; (with_reducible refine (A2.out _ HB1.out).mono ?_); rintro e w24 ⟨rfl, hb⟩; have HB12 := Lib.hid (below_then HB1.out hb); clear hb HB1)
          | (go_at_call 11; (with_reducible refine (A3.out _ HB12.out).mono ?_); rintro e w25 ⟨rfl, hb⟩; have HB123 := Lib.hid (below_then HB12.out hb); clear hb HB12))
         all_goals
          go_wp2_with fail
          exact ⟨⟨kk + 1, by go_num, by omega, Lib.hid (HO.out.below (below_then HB8.out HB123.out)), Lib.hid (rrow_keeps HROW.out (below_then HB8.out HB123.out)), Lib.hid (below_then HB.out (below_then HB8.out HB123.out))⟩, by simp only [intOf]; omega⟩
        ·go_region_held3 (fun X : World => X.cell? ⟨gx, ki * 4, none⟩ = some (.bool sI) ∧ X.cell? ⟨gx, ki * 4 + 1, none⟩ = some (.slice aI mI cI) ∧ X.cell? ⟨gx, ki * 4 + 2, none⟩ = some (.bool tI) ∧ X.cell? ⟨gx, ki * 4 + 3, none⟩ = some (.slice dI iI jI) ∧ X.cell? ⟨gx, kk * 4, none⟩ = some (.bool sK) ∧ X.cell? ⟨gx, kk * 4 + 1, none⟩ = some (.slice aK mK cK) ∧ X.cell? ⟨gx, kk * 4 + 2, none⟩ = some (.bool tK) ∧ X.cell? ⟨gx, kk * 4 + 3, none⟩ = some (.slice dK iK jK) ∧ X.cell? ⟨bl, ki * 4, none⟩ = some (.bool sM) ∧ X.cell? ⟨bl, ki * 4 + 1, none⟩ = some (.slice aM mM cM) ∧ X.cell? ⟨bl, ki * 4 + 2, none⟩ = some (.bool tM) ∧ X.cell? ⟨bl, ki * 4 + 3, none⟩ = some (.slice dM iM jM) ∧ X.cell? ⟨bl, kk * 4, none⟩ = some (.bool sN) ∧ X.cell? ⟨bl, kk * 4 + 1, none⟩ = some (.slice aN mN cN) ∧ X.cell? ⟨bl, kk * 4 + 2, none⟩ = some (.bool tN) ∧ X.cell? ⟨bl, kk * 4 + 3, none⟩ = some (.slice dN iN jN)) (with_reducible first | exact CE8.out _ HB0.out | exact CE8.out _ HB1.out | exact CE8.out _ HB12.out | exact CE8.out _ HB123.out) (first
          | (go_at_call 10; (with_reducible refine (A1.out _ HB0.out).mono ?_); rintro e w23 ⟨rfl, hb⟩; have HB1 := Lib.hid (below_then HB0.out hb); clear hb HB0)
          | (go_at_call 9; (with_reducible refine (A2.out _ HB1.out).mono ?_); rintro e w24 ⟨rfl, hb⟩; have HB12 := Lib.hid (below_then HB1.out hb); clear hb HB1)
          | (go_at_call 11; (with_reducible refine (A3.out _ HB12.out).mono ?_); rintro e w25 ⟨rfl, hb⟩; have HB123 := Lib.hid (below_then HB12.out hb); clear hb HB12))
         all_goals
          go_wp2_with fail
          exact ⟨⟨kk + 1, by go_num, by omega, Lib.hid (HO.out.below (below_then HB8.out HB123.out)), Lib.hid (rrow_keeps HROW.out (below_then HB8.out HB123.out)), Lib.hid (below_then HB.out (below_then HB8.out HB123.out))⟩, by simp only [intOf]; omega⟩
      ·have hlj : (3 : Int) ≤ (kk : Int) := by omega
       go_wp2_with fail
       go_roundw
       case rel => exact ⟨ki + 1, by go_num, by omega, HO, HROW, HB⟩
       case measure => simp only [intOf]; omega
    ·have hlo : (3 : Int) ≤ (ki : Int) := by omega
     obtain ⟨hz0, hz1, hz2⟩ := HZ012.out
     obtain ⟨sA, tA, aA, dA, mA, iA, cA, jA, ⟨cA0, cA1, cA2, cA3⟩, hA⟩ := HO.out.cells hz0
     obtain ⟨sB, tB, aB, dB, mB, iB, cB, jB, ⟨cB0, cB1, cB2, cB3⟩, hB⟩ := HO.out.cells hz1
     obtain ⟨sC, tC, aC, dC, mC, iC, cC, jC, ⟨cC0, cC1, cC2, cC3⟩, hC⟩ := HO.out.cells hz2
     have hgl := HO.out.lt
     have XA : Hid (∀ X : World, Below wr.heap.size wr X → X.cell? ⟨gx, 0, none⟩ = some (.bool sA) ∧ X.cell? ⟨gx, 1, none⟩ = some (.slice aA mA cA) ∧ X.cell? ⟨gx, 2, none⟩ = some (.bool tA) ∧ X.cell? ⟨gx, 3, none⟩ = some (.slice dA iA jA)) := Lib.hid (fun X h => ⟨(h.cell (p := ⟨gx, 0, none⟩) hgl).trans cA0, (h.cell (p := ⟨gx, 1, none⟩) hgl).trans cA1, (h.cell (p := ⟨gx, 2, none⟩) hgl).trans cA2, (h.cell (p := ⟨gx, 3, none⟩) hgl).trans cA3⟩)
     have FA : Hid (∀ X : World, Below wr.heap.size wr X → FAt X (.agg #[.bool sA, .slice aA mA cA, .bool tA, .slice dA iA jA]) p1 q1) := Lib.hid (fun X h => fat_keeps hA h)
     have XB : Hid (∀ X : World, Below wr.heap.size wr X → X.cell? ⟨gx, 4, none⟩ = some (.bool sB) ∧ X.cell? ⟨gx, 5, none⟩ = some (.slice aB mB cB) ∧ X.cell? ⟨gx, 6, none⟩ = some (.bool tB) ∧ X.cell? ⟨gx, 7, none⟩ = some (.slice dB iB jB)) := Lib.hid (fun X h => ⟨(h.cell (p := ⟨gx, 4, none⟩) hgl).trans cB0, (h.cell (p := ⟨gx, 5, none⟩) hgl).trans cB1, (h.cell (p := ⟨gx, 6, none⟩) hgl).trans cB2, (h.cell (p := ⟨gx, 7, none⟩) hgl).trans cB3⟩)
     have FB : Hid (∀ X : World, Below wr.heap.size wr X → FAt X (.agg #[.bool sB, .slice aB mB cB, .bool tB, .slice dB iB jB]) p2 q2) := Lib.hid (fun X h => fat_keeps hB h)
     have XC : Hid (∀ X : World, Below wr.heap.size wr X → X.cell? ⟨gx, 8, none⟩ = some (.bool sC) ∧ X.cell? ⟨gx, 9, none⟩ = some (.slice aC mC cC) ∧ X.cell? ⟨gx, 10, none⟩ = some (.bool tC) ∧ X.cell? ⟨gx, 11, none⟩ = some (.slice dC iC jC)) := Lib.hid (fun X h => ⟨(h.cell (p := ⟨gx, 8, none⟩) hgl).trans cC0, (h.cell (p := ⟨gx, 9, none⟩) hgl).trans cC1, (h.cell (p := ⟨gx, 10, none⟩) hgl).trans cC2, (h.cell (p := ⟨gx, 11, none⟩) hgl).trans cC3⟩)
     have FC : Hid (∀ X : World, Below wr.heap.size wr X → FAt X (.agg #[.bool sC, .slice aC mC cC, .bool tC, .slice dC iC jC]) p3 q3) := Lib.hid (fun X h => fat_keeps hC h)
     obtain ⟨nP, dP, nQ, dQ, nR, dR, nS, dS, nM, dM, ab, bc, ac, sg, e9, y9, z9, hof⟩ := ord_facts L0.out L1.out L2.out
     have OF := Lib.hid hof
     have HW : Hid (Below wr.heap.size wr wr) := Lib.hid (Below.refl _ _)
     clear hz0 hz1 hz2 hgl hof HO HROW cA0 cA1 cA2 cA3 cB0 cB1 cB2 cB3 cC0 cC1 cC2 cC3 HZS HZ012 L0 L1 L2 HLT hki hge hA hB hC
     go_wp2_with fail
     have hnd : ([111, 112, 113, 114, 115, 116, 117] : List Nat).Nodup := by decide
     refine region_abs [111, 112, 113, 114, 115, 116, 117] (getK [KX (.slice (some ⟨gx, 0, none⟩) 3 cx'), KX (.pointer (some ⟨gx, 0, none⟩)), KX (.agg #[.bool sA, .slice aA mA cA, .bool tA, .slice dA iA jA]), KX (.slice (some ⟨gx, 0, none⟩) 3 cx'), KX (.pointer (some ⟨gx, 4, none⟩)), KX (.agg #[.bool sB, .slice aB mB cB, .bool tB, .slice dB iB jB]), KX (.int .i64 (ab))]) 7 1 [] [0, 1, 2, 3, 4, 5, 6] (by kernel_rfl) rfl (by kernel_rfl) (by kernel_rfl) (by kernel_rfl) (by kernel_rfl) (by kernel_rfl) (fun _ _ d _ _ h => by cases d <;> exact h) (getK_mono ⟨m_x, m_x, m_x, m_x, m_x, m_x, m_x, trivial⟩) trivial ⟨?_, ?_, ?_, ?_, ?_, ?_, ?_, trivial⟩ ?_
     ·intro x w hB hd
      exact st_val rfl (want_none rfl) rfl rfl hnd (x_move rfl (eval_out rfl rfl)) (Below.refl _ _) rfl
     ·intro x w hB hd
      obtain ⟨k0, -⟩ := deps_k (ds := [0]) (by kernel_rfl) hd
      exact st_val rfl (want_none rfl) rfl rfl hnd (x_ixF (k := 0) rfl ((eval_in hnd rfl (by simp)).trans k0) rfl (by decide)) (Below.refl _ _) rfl
     ·intro x w hB hd
      obtain ⟨k1, -⟩ := deps_k (ds := [1]) (by kernel_rfl) hd
      exact st_val rfl (want_none rfl) rfl rfl hnd (x_ldF (n := 0) rfl ((eval_in hnd rfl (by simp)).trans k1) (XA.out w (below_then HW.out hB)).1 (XA.out w (below_then HW.out hB)).2.1 (XA.out w (below_then HW.out hB)).2.2.1 (XA.out w (below_then HW.out hB)).2.2.2) (Below.refl _ _) rfl
     ·intro x w hB hd
      exact st_val rfl (want_none rfl) rfl rfl hnd (x_move rfl (eval_out rfl rfl)) (Below.refl _ _) rfl
     ·intro x w hB hd
      obtain ⟨k3, -⟩ := deps_k (ds := [3]) (by kernel_rfl) hd
      exact st_val rfl (want_none rfl) rfl rfl hnd (x_ixF (k := 1) rfl ((eval_in hnd rfl (by simp)).trans k3) rfl (by decide)) (Below.refl _ _) rfl
     ·intro x w hB hd
      obtain ⟨k4, -⟩ := deps_k (ds := [4]) (by kernel_rfl) hd
      exact st_val rfl (want_none rfl) rfl rfl hnd (x_ldF (n := 4) rfl ((eval_in hnd rfl (by simp)).trans k4) (XB.out w (below_then HW.out hB)).1 (XB.out w (below_then HW.out hB)).2.1 (XB.out w (below_then HW.out hB)).2.2.1 (XB.out w (below_then HW.out hB)).2.2.2) (Below.refl _ _) rfl
     ·intro x w hB hd
      obtain ⟨k2, k5, -⟩ := deps_k (ds := [2, 5]) (by kernel_rfl) hd
      exact st_call rfl (want_none rfl) rfl rfl hnd (x_call2 rfl ((eval_in hnd rfl (by simp)).trans k2) ((eval_in hnd rfl (by simp)).trans k5) rfl (by kernel_rfl)) (OF.out.cab w _ _ (FA.out w (below_then HW.out hB)) (FB.out w (below_then HW.out hB)))
     ·intro x w31 hB H
      have e6 : x 6 = .int .i64 ab := H 6 (by decide)
      refine tail_assign (i := 7) (by kernel_rfl) rfl (want_none rfl) rfl (x_asg rfl ((eval_in hnd rfl (by simp)).trans e6)) ?_
      refine wpAnyH_done (by kernel_rfl) ?_ _
      clear H hnd
      simp only [frm, e6, List.setIfInBounds_toArray, List.set_cons_zero, List.set_cons_succ]
      have U := Lib.hid (below_then HW.out hB)
      clear HW
      have HW := U
      clear U
      clear hB e6
      go_wp2_with fail
      have hnd : ([118, 119, 120, 121, 122, 123, 124] : List Nat).Nodup := by decide
      refine region_abs [118, 119, 120, 121, 122, 123, 124] (getK [KX (.slice (some ⟨gx, 0, none⟩) 3 cx'), KX (.pointer (some ⟨gx, 4, none⟩)), KX (.agg #[.bool sB, .slice aB mB cB, .bool tB, .slice dB iB jB]), KX (.slice (some ⟨gx, 0, none⟩) 3 cx'), KX (.pointer (some ⟨gx, 8, none⟩)), KX (.agg #[.bool sC, .slice aC mC cC, .bool tC, .slice dC iC jC]), KX (.int .i64 (bc))]) 7 1 [] [0, 1, 2, 3, 4, 5, 6] (by kernel_rfl) rfl (by kernel_rfl) (by kernel_rfl) (by kernel_rfl) (by kernel_rfl) (by kernel_rfl) (fun _ _ d _ _ h => by cases d <;> exact h) (getK_mono ⟨m_x, m_x, m_x, m_x, m_x, m_x, m_x, trivial⟩) trivial ⟨?_, ?_, ?_, ?_, ?_, ?_, ?_, trivial⟩ ?_
      ·intro x w hB hd
       exact st_val rfl (want_none rfl) rfl rfl hnd (x_move rfl (eval_out rfl rfl)) (Below.refl _ _) rfl
      ·intro x w hB hd
       obtain ⟨k0, -⟩ := deps_k (ds := [0]) (by kernel_rfl) hd
       exact st_val rfl (want_none rfl) rfl rfl hnd (x_ixF (k := 1) rfl ((eval_in hnd rfl (by simp)).trans k0) rfl (by decide)) (Below.refl _ _) rfl
      ·intro x w hB hd
       obtain ⟨k1, -⟩ := deps_k (ds := [1]) (by kernel_rfl) hd
       exact st_val rfl (want_none rfl) rfl rfl hnd (x_ldF (n := 4) rfl ((eval_in hnd rfl (by simp)).trans k1) (XB.out w (below_then HW.out hB)).1 (XB.out w (below_then HW.out hB)).2.1 (XB.out w (below_then HW.out hB)).2.2.1 (XB.out w (below_then HW.out hB)).2.2.2) (Below.refl _ _) rfl
      ·intro x w hB hd
       exact st_val rfl (want_none rfl) rfl rfl hnd (x_move rfl (eval_out rfl rfl)) (Below.refl _ _) rfl
      ·intro x w hB hd
       obtain ⟨k3, -⟩ := deps_k (ds := [3]) (by kernel_rfl) hd
       exact st_val rfl (want_none rfl) rfl rfl hnd (x_ixF (k := 2) rfl ((eval_in hnd rfl (by simp)).trans k3) rfl (by decide)) (Below.refl _ _) rfl
      ·intro x w hB hd
       obtain ⟨k4, -⟩ := deps_k (ds := [4]) (by kernel_rfl) hd
       exact st_val rfl (want_none rfl) rfl rfl hnd (x_ldF (n := 8) rfl ((eval_in hnd rfl (by simp)).trans k4) (XC.out w (below_then HW.out hB)).1 (XC.out w (below_then HW.out hB)).2.1 (XC.out w (below_then HW.out hB)).2.2.1 (XC.out w (below_then HW.out hB)).2.2.2) (Below.refl _ _) rfl
      ·intro x w hB hd
       obtain ⟨k2, k5, -⟩ := deps_k (ds := [2, 5]) (by kernel_rfl) hd
       exact st_call rfl (want_none rfl) rfl rfl hnd (x_call2 rfl ((eval_in hnd rfl (by simp)).trans k2) ((eval_in hnd rfl (by simp)).trans k5) rfl (by kernel_rfl)) (OF.out.cbc w _ _ (FB.out w (below_then HW.out hB)) (FC.out w (below_then HW.out hB)))
      ·intro x w32 hB H
       have e6 : x 6 = .int .i64 bc := H 6 (by decide)
       refine tail_assign (i := 7) (by kernel_rfl) rfl (want_none rfl) rfl (x_asg rfl ((eval_in hnd rfl (by simp)).trans e6)) ?_
       refine wpAnyH_done (by kernel_rfl) ?_ _
       clear H hnd
       simp only [frm, e6, List.setIfInBounds_toArray, List.set_cons_zero, List.set_cons_succ]
       have U := Lib.hid (below_then HW.out hB)
       clear HW
       have HW := U
       clear U
       clear hB e6
       go_upto_region 20 with (fail)
       have CE : Hid (∀ X : World, Below w32.heap.size w32 X → X.cell? ⟨gx, 0, none⟩ = some (.bool sA) ∧ X.cell? ⟨gx, 1, none⟩ = some (.slice aA mA cA) ∧ X.cell? ⟨gx, 2, none⟩ = some (.bool tA) ∧ X.cell? ⟨gx, 3, none⟩ = some (.slice dA iA jA) ∧ X.cell? ⟨gx, 8, none⟩ = some (.bool sC) ∧ X.cell? ⟨gx, 9, none⟩ = some (.slice aC mC cC) ∧ X.cell? ⟨gx, 10, none⟩ = some (.bool tC) ∧ X.cell? ⟨gx, 11, none⟩ = some (.slice dC iC jC)) := Lib.hid (fun X h => by obtain ⟨a0, a1, a2, a3⟩ := XA.out X (below_then HW.out h); obtain ⟨c0, c1, c2, c3⟩ := XC.out X (below_then HW.out h); exact ⟨a0, a1, a2, a3, c0, c1, c2, c3⟩)
       have A1 : Hid (∀ X, Below w32.heap.size w32 X → Calls Tryz.prog 9 #[.agg #[.bool sA, .slice aA mA cA, .bool tA, .slice dA iA jA], .agg #[.bool sC, .slice aC mC cC, .bool tC, .slice dC iC jC]] X (fun e w' => e = .returned (.int .i64 ac) ∧ Below X.heap.size X w')) := Lib.hid (fun X h => (OF.out.cac X _ _ (FA.out X (below_then HW.out h)) (FC.out X (below_then HW.out h))).mono (fun _ _ => vx_end))
       go_cut [140] (fun s140 wx => s140 = .bool false ∧ Hid (Below w32.heap.size w32 wx))
       case first =>
        have HB0 : Hid (Below w32.heap.size w32 w32.drew) := Lib.hid (Below.refl _ _).drew
        rcases Classical.em (ab ≤ 0) with h1 | h1
        ·rcases Classical.em (bc ≤ 0) with h2 | h2
         ·have h3 := OF.out.trans h1 h2
          go_wp2_with fail
          go_region_held3 (fun X : World => X.cell? ⟨gx, 0, none⟩ = some (.bool sA) ∧ X.cell? ⟨gx, 1, none⟩ = some (.slice aA mA cA) ∧ X.cell? ⟨gx, 2, none⟩ = some (.bool tA) ∧ X.cell? ⟨gx, 3, none⟩ = some (.slice dA iA jA) ∧ X.cell? ⟨gx, 8, none⟩ = some (.bool sC) ∧ X.cell? ⟨gx, 9, none⟩ = some (.slice aC mC cC) ∧ X.cell? ⟨gx, 10, none⟩ = some (.bool tC) ∧ X.cell? ⟨gx, 11, none⟩ = some (.slice dC iC jC)) (with_reducible first | exact CE.out _ HB0.out | exact CE.out _ HB1.out) (first
           | (go_at_call 9; (with_reducible refine (A1.out _ HB0.out).mono ?_); rintro e w23 ⟨rfl, hb⟩; have HB1 := Lib.hid (below_then HB0.out hb); clear hb HB0))
          all_goals
           go_wp2_with fail
           go_meet
           case rel => exact ⟨congrArg Value.bool (decide_eq_false (show ¬ 0 < ac by omega)), HB1⟩
         ·replace h2 := decide_eq_false h2
          go_wp2_with fail
          refine wp_region_any (by kernel_rfl) ?_
          change wpAny _ _ _ _ _ _ _ (World.drew _)
          refine wpAny_of_held (S := fun _ : World => True) _ _ _ _ ?_
          refine wpAnyH_take (i := 0) (oi := { dst := some 125, op := Op.move (Operand.tmp 9), type := 3, pos := "law.go:183", after := #[], guard := none }) (v := .int .i64 ab) rfl (by kernel_rfl) (by kernel_rfl) (by kernel_rfl) (fun _ _ _ h => h) (Or.inl ⟨by rfl, ?_⟩) trivial ?_
          ·(intro wq hSw; (try dsimp only at hSw); go_simp; try with_reducible rfl)
          try simp only [Act.put, List.setIfInBounds_toArray, List.set_cons_zero, List.set_cons_succ]
          refine wpAnyH_take (i := 1) (oi := { dst := some 126, op := Op.binOp BinOp.leq 3 (Operand.tmp 125) (Operand.const (Value.int IntKind.i64 0)) 3, type := 4, pos := "law.go:183", after := #[{ on := 0, ground := Ground.data }], guard := none }) (v := .bool true) rfl (by kernel_rfl) (by kernel_rfl) (by kernel_rfl) (fun _ _ _ h => h) (Or.inl ⟨by rfl, ?_⟩) trivial ?_
          ·(intro wq hSw; (try dsimp only at hSw); go_simp; try with_reducible rfl)
          try simp only [Act.put, List.setIfInBounds_toArray, List.set_cons_zero, List.set_cons_succ]
          refine wpAnyH_take (i := 2) (oi := { dst := some 127, op := Op.move (Operand.tmp 126), type := 4, pos := "law.go:183", after := #[{ on := 1, ground := Ground.data }], guard := none }) (v := .bool true) rfl (by kernel_rfl) (by kernel_rfl) (by kernel_rfl) (fun _ _ _ h => h) (Or.inl ⟨by rfl, ?_⟩) trivial ?_
          ·(intro wq hSw; (try dsimp only at hSw); go_simp; try with_reducible rfl)
          try simp only [Act.put, List.setIfInBounds_toArray, List.set_cons_zero, List.set_cons_succ]
          refine wpAnyH_take (i := 3) (oi := { dst := some 128, op := Op.move (Operand.tmp 10), type := 3, pos := "law.go:183", after := #[{ on := 2, ground := Ground.guard }], guard := some (2, true) }) (v := .int .i64 bc) rfl (by kernel_rfl) (by kernel_rfl) (by kernel_rfl) (fun _ _ _ h => h) (Or.inl ⟨by rfl, ?_⟩) trivial ?_
          ·(intro wq hSw; (try dsimp only at hSw); go_simp; try with_reducible rfl)
          try simp only [Act.put, List.setIfInBounds_toArray, List.set_cons_zero, List.set_cons_succ]
          refine wpAnyH_take (i := 4) (oi := { dst := some 129, op := Op.binOp BinOp.leq 3 (Operand.tmp 128) (Operand.const (Value.int IntKind.i64 0)) 3, type := 4, pos := "law.go:183", after := #[{ on := 3, ground := Ground.data }, { on := 2, ground := Ground.guard }], guard := some (2, true) }) (v := .bool false) rfl (by kernel_rfl) (by kernel_rfl) (by kernel_rfl) (fun _ _ _ h => h) (Or.inl ⟨by rfl, ?_⟩) trivial ?_
          ·(intro wq hSw; (try dsimp only at hSw); go_simp; try with_reducible rfl)
          try simp only [Act.put, List.setIfInBounds_toArray, List.set_cons_zero, List.set_cons_succ]
          refine wpAnyH_take (i := 5) (oi := { dst := some 130, op := Op.pick (Operand.tmp 127) (Operand.tmp 129) (Operand.const (Value.bool false)), type := 4, pos := "law.go:183", after := #[{ on := 2, ground := Ground.data }, { on := 4, ground := Ground.data }], guard := none }) (v := .bool false) rfl (by kernel_rfl) (by kernel_rfl) (by kernel_rfl) (fun _ _ _ h => h) (Or.inl ⟨by rfl, ?_⟩) trivial ?_
          ·(intro wq hSw; (try dsimp only at hSw); go_simp; try with_reducible rfl)
          try simp only [Act.put, List.setIfInBounds_toArray, List.set_cons_zero, List.set_cons_succ]
          refine wpAnyH_take (i := 6) (oi := { dst := some 131, op := Op.move (Operand.tmp 130), type := 4, pos := "law.go:183", after := #[{ on := 5, ground := Ground.data }, { on := 2, ground := Ground.chain }], guard := none }) (v := .bool false) rfl (by kernel_rfl) (by kernel_rfl) (by kernel_rfl) (fun _ _ _ h => h) (Or.inl ⟨by rfl, ?_⟩) trivial ?_
          ·(intro wq hSw; (try dsimp only at hSw); go_simp; try with_reducible rfl)
          try simp only [Act.put, List.setIfInBounds_toArray, List.set_cons_zero, List.set_cons_succ]
          refine wpAnyH_take (i := 7) (oi := { dst := some 132, op := Op.move (Operand.tmp 4), type := 29, pos := "law.go:183", after := #[{ on := 6, ground := Ground.guard }], guard := some (6, true) }) (v := undef) rfl (by kernel_rfl) (by kernel_rfl) (by kernel_rfl) (fun _ _ _ h => h) (Or.inr ⟨by rfl, rfl⟩) trivial ?_
          try simp only [Act.put, List.setIfInBounds_toArray, List.set_cons_zero, List.set_cons_succ]
          refine wpAnyH_take (i := 8) (oi := { dst := some 133, op := Op.indexAddr 29 (Operand.tmp 132) (Operand.const (Value.int IntKind.i64 0)), type := 0, pos := "law.go:183", after := #[{ on := 7, ground := Ground.data }, { on := 6, ground := Ground.guard }], guard := some (6, true) }) (v := undef) rfl (by kernel_rfl) (by kernel_rfl) (by kernel_rfl) (fun _ _ _ h => h) (Or.inr ⟨by rfl, rfl⟩) trivial ?_
          try simp only [Act.put, List.setIfInBounds_toArray, List.set_cons_zero, List.set_cons_succ]
          refine wpAnyH_take (i := 9) (oi := { dst := some 134, op := Op.load 34 (Operand.tmp 133), type := 34, pos := "law.go:183", after := #[{ on := 8, ground := Ground.data }, { on := 6, ground := Ground.guard }], guard := some (6, true) }) (v := undef) rfl (by kernel_rfl) (by kernel_rfl) (by kernel_rfl) (fun _ _ _ h => h) (Or.inr ⟨by rfl, rfl⟩) trivial ?_
          try simp only [Act.put, List.setIfInBounds_toArray, List.set_cons_zero, List.set_cons_succ]
          refine wpAnyH_take (i := 10) (oi := { dst := some 135, op := Op.move (Operand.tmp 4), type := 29, pos := "law.go:183", after := #[{ on := 6, ground := Ground.guard }], guard := some (6, true) }) (v := undef) rfl (by kernel_rfl) (by kernel_rfl) (by kernel_rfl) (fun _ _ _ h => h) (Or.inr ⟨by rfl, rfl⟩) trivial ?_
          try simp only [Act.put, List.setIfInBounds_toArray, List.set_cons_zero, List.set_cons_succ]
          refine wpAnyH_take (i := 11) (oi := { dst := some 136, op := Op.indexAddr 29 (Operand.tmp 135) (Operand.const (Value.int IntKind.i64 2)), type := 0, pos := "law.go:183", after := #[{ on := 10, ground := Ground.data }, { on := 6, ground := Ground.guard }], guard := some (6, true) }) (v := undef) rfl (by kernel_rfl) (by kernel_rfl) (by kernel_rfl) (fun _ _ _ h => h) (Or.inr ⟨by rfl, rfl⟩) trivial ?_
          try simp only [Act.put, List.setIfInBounds_toArray, List.set_cons_zero, List.set_cons_succ]
          refine wpAnyH_take (i := 12) (oi := { dst := some 137, op := Op.load 34 (Operand.tmp 136), type := 34, pos := "law.go:183", after := #[{ on := 11, ground := Ground.data }, { on := 6, ground := Ground.guard }], guard := some (6, true) }) (v := undef) rfl (by kernel_rfl) (by kernel_rfl) (by kernel_rfl) (fun _ _ _ h => h) (Or.inr ⟨by rfl, rfl⟩) trivial ?_
          try simp only [Act.put, List.setIfInBounds_toArray, List.set_cons_zero, List.set_cons_succ]
          refine wpAnyH_take (i := 13) (oi := { dst := some 138, op := Op.call { callee := Callee.value (Operand.func 9), args := #[Operand.tmp 134, Operand.tmp 137], argTypes := #[34, 34] }, type := 3, pos := "law.go:183", after := #[{ on := 9, ground := Ground.data }, { on := 12, ground := Ground.data }, { on := 6, ground := Ground.chain }, { on := 6, ground := Ground.guard }], guard := some (6, true) }) (v := undef) rfl (by kernel_rfl) (by kernel_rfl) (by kernel_rfl) (fun _ _ _ h => h) (Or.inr ⟨by rfl, rfl⟩) trivial ?_
          try simp only [Act.put, List.setIfInBounds_toArray, List.set_cons_zero, List.set_cons_succ]
          refine wpAnyH_take (i := 14) (oi := { dst := some 139, op := Op.binOp BinOp.gtr 3 (Operand.tmp 138) (Operand.const (Value.int IntKind.i64 0)) 3, type := 4, pos := "law.go:183", after := #[{ on := 13, ground := Ground.data }, { on := 6, ground := Ground.guard }], guard := some (6, true) }) (v := undef) rfl (by kernel_rfl) (by kernel_rfl) (by kernel_rfl) (fun _ _ _ h => h) (Or.inr ⟨by rfl, rfl⟩) trivial ?_
          try simp only [Act.put, List.setIfInBounds_toArray, List.set_cons_zero, List.set_cons_succ]
          refine wpAnyH_take (i := 15) (oi := { dst := some 140, op := Op.pick (Operand.tmp 131) (Operand.tmp 139) (Operand.const (Value.bool false)), type := 4, pos := "law.go:183", after := #[{ on := 6, ground := Ground.data }, { on := 14, ground := Ground.data }], guard := none }) (v := .bool false) rfl (by kernel_rfl) (by kernel_rfl) (by kernel_rfl) (fun _ _ _ h => h) (Or.inl ⟨by rfl, ?_⟩) trivial ?_
          ·(intro wq hSw; (try dsimp only at hSw); go_simp; try with_reducible rfl)
          try simp only [Act.put, List.setIfInBounds_toArray, List.set_cons_zero, List.set_cons_succ]
          refine wpAnyH_done (by kernel_rfl) ?_ _
          go_wp2_with fail
          go_meet
          case rel => exact ⟨rfl, HB0⟩
        ·replace h1 := decide_eq_false h1
         go_wp2_with fail
         refine wp_region_any (by kernel_rfl) ?_
         change wpAny _ _ _ _ _ _ _ (World.drew _)
         refine wpAny_of_held (S := fun _ : World => True) _ _ _ _ ?_
         refine wpAnyH_take (i := 0) (oi := { dst := some 125, op := Op.move (Operand.tmp 9), type := 3, pos := "law.go:183", after := #[], guard := none }) (v := .int .i64 ab) rfl (by kernel_rfl) (by kernel_rfl) (by kernel_rfl) (fun _ _ _ h => h) (Or.inl ⟨by rfl, ?_⟩) trivial ?_
         ·(intro wq hSw; (try dsimp only at hSw); go_simp; try with_reducible rfl)
         try simp only [Act.put, List.setIfInBounds_toArray, List.set_cons_zero, List.set_cons_succ]
         refine wpAnyH_take (i := 1) (oi := { dst := some 126, op := Op.binOp BinOp.leq 3 (Operand.tmp 125) (Operand.const (Value.int IntKind.i64 0)) 3, type := 4, pos := "law.go:183", after := #[{ on := 0, ground := Ground.data }], guard := none }) (v := .bool false) rfl (by kernel_rfl) (by kernel_rfl) (by kernel_rfl) (fun _ _ _ h => h) (Or.inl ⟨by rfl, ?_⟩) trivial ?_
         ·(intro wq hSw; (try dsimp only at hSw); go_simp; try with_reducible rfl)
         try simp only [Act.put, List.setIfInBounds_toArray, List.set_cons_zero, List.set_cons_succ]
         refine wpAnyH_take (i := 2) (oi := { dst := some 127, op := Op.move (Operand.tmp 126), type := 4, pos := "law.go:183", after := #[{ on := 1, ground := Ground.data }], guard := none }) (v := .bool false) rfl (by kernel_rfl) (by kernel_rfl) (by kernel_rfl) (fun _ _ _ h => h) (Or.inl ⟨by rfl, ?_⟩) trivial ?_
         ·(intro wq hSw; (try dsimp only at hSw); go_simp; try with_reducible rfl)
         try simp only [Act.put, List.setIfInBounds_toArray, List.set_cons_zero, List.set_cons_succ]
         refine wpAnyH_take (i := 3) (oi := { dst := some 128, op := Op.move (Operand.tmp 10), type := 3, pos := "law.go:183", after := #[{ on := 2, ground := Ground.guard }], guard := some (2, true) }) (v := undef) rfl (by kernel_rfl) (by kernel_rfl) (by kernel_rfl) (fun _ _ _ h => h) (Or.inr ⟨by rfl, rfl⟩) trivial ?_
         try simp only [Act.put, List.setIfInBounds_toArray, List.set_cons_zero, List.set_cons_succ]
         refine wpAnyH_take (i := 4) (oi := { dst := some 129, op := Op.binOp BinOp.leq 3 (Operand.tmp 128) (Operand.const (Value.int IntKind.i64 0)) 3, type := 4, pos := "law.go:183", after := #[{ on := 3, ground := Ground.data }, { on := 2, ground := Ground.guard }], guard := some (2, true) }) (v := undef) rfl (by kernel_rfl) (by kernel_rfl) (by kernel_rfl) (fun _ _ _ h => h) (Or.inr ⟨by rfl, rfl⟩) trivial ?_
         try simp only [Act.put, List.setIfInBounds_toArray, List.set_cons_zero, List.set_cons_succ]
         refine wpAnyH_take (i := 5) (oi := { dst := some 130, op := Op.pick (Operand.tmp 127) (Operand.tmp 129) (Operand.const (Value.bool false)), type := 4, pos := "law.go:183", after := #[{ on := 2, ground := Ground.data }, { on := 4, ground := Ground.data }], guard := none }) (v := .bool false) rfl (by kernel_rfl) (by kernel_rfl) (by kernel_rfl) (fun _ _ _ h => h) (Or.inl ⟨by rfl, ?_⟩) trivial ?_
         ·(intro wq hSw; (try dsimp only at hSw); go_simp; try with_reducible rfl)
         try simp only [Act.put, List.setIfInBounds_toArray, List.set_cons_zero, List.set_cons_succ]
         refine wpAnyH_take (i := 6) (oi := { dst := some 131, op := Op.move (Operand.tmp 130), type := 4, pos := "law.go:183", after := #[{ on := 5, ground := Ground.data }, { on := 2, ground := Ground.chain }], guard := none }) (v := .bool false) rfl (by kernel_rfl) (by kernel_rfl) (by kernel_rfl) (fun _ _ _ h => h) (Or.inl ⟨by rfl, ?_⟩) trivial ?_
         ·(intro wq hSw; (try dsimp only at hSw); go_simp; try with_reducible rfl)
         try simp only [Act.put, List.setIfInBounds_toArray, List.set_cons_zero, List.set_cons_succ]
         refine wpAnyH_take (i := 7) (oi := { dst := some 132, op := Op.move (Operand.tmp 4), type := 29, pos := "law.go:183", after := #[{ on := 6, ground := Ground.guard }], guard := some (6, true) }) (v := undef) rfl (by kernel_rfl) (by kernel_rfl) (by kernel_rfl) (fun _ _ _ h => h) (Or.inr ⟨by rfl, rfl⟩) trivial ?_
         try simp only [Act.put, List.setIfInBounds_toArray, List.set_cons_zero, List.set_cons_succ]
         refine wpAnyH_take (i := 8) (oi := { dst := some 133, op := Op.indexAddr 29 (Operand.tmp 132) (Operand.const (Value.int IntKind.i64 0)), type := 0, pos := "law.go:183", after := #[{ on := 7, ground := Ground.data }, { on := 6, ground := Ground.guard }], guard := some (6, true) }) (v := undef) rfl (by kernel_rfl) (by kernel_rfl) (by kernel_rfl) (fun _ _ _ h => h) (Or.inr ⟨by rfl, rfl⟩) trivial ?_
         try simp only [Act.put, List.setIfInBounds_toArray, List.set_cons_zero, List.set_cons_succ]
         refine wpAnyH_take (i := 9) (oi := { dst := some 134, op := Op.load 34 (Operand.tmp 133), type := 34, pos := "law.go:183", after := #[{ on := 8, ground := Ground.data }, { on := 6, ground := Ground.guard }], guard := some (6, true) }) (v := undef) rfl (by kernel_rfl) (by kernel_rfl) (by kernel_rfl) (fun _ _ _ h => h) (Or.inr ⟨by rfl, rfl⟩) trivial ?_
         try simp only [Act.put, List.setIfInBounds_toArray, List.set_cons_zero, List.set_cons_succ]
         refine wpAnyH_take (i := 10) (oi := { dst := some 135, op := Op.move (Operand.tmp 4), type := 29, pos := "law.go:183", after := #[{ on := 6, ground := Ground.guard }], guard := some (6, true) }) (v := undef) rfl (by kernel_rfl) (by kernel_rfl) (by kernel_rfl) (fun _ _ _ h => h) (Or.inr ⟨by rfl, rfl⟩) trivial ?_
         try simp only [Act.put, List.setIfInBounds_toArray, List.set_cons_zero, List.set_cons_succ]
         refine wpAnyH_take (i := 11) (oi := { dst := some 136, op := Op.indexAddr 29 (Operand.tmp 135) (Operand.const (Value.int IntKind.i64 2)), type := 0, pos := "law.go:183", after := #[{ on := 10, ground := Ground.data }, { on := 6, ground := Ground.guard }], guard := some (6, true) }) (v := undef) rfl (by kernel_rfl) (by kernel_rfl) (by kernel_rfl) (fun _ _ _ h => h) (Or.inr ⟨by rfl, rfl⟩) trivial ?_
         try simp only [Act.put, List.setIfInBounds_toArray, List.set_cons_zero, List.set_cons_succ]
         refine wpAnyH_take (i := 12) (oi := { dst := some 137, op := Op.load 34 (Operand.tmp 136), type := 34, pos := "law.go:183", after := #[{ on := 11, ground := Ground.data }, { on := 6, ground := Ground.guard }], guard := some (6, true) }) (v := undef) rfl (by kernel_rfl) (by kernel_rfl) (by kernel_rfl) (fun _ _ _ h => h) (Or.inr ⟨by rfl, rfl⟩) trivial ?_
         try simp only [Act.put, List.setIfInBounds_toArray, List.set_cons_zero, List.set_cons_succ]
         refine wpAnyH_take (i := 13) (oi := { dst := some 138, op := Op.call { callee := Callee.value (Operand.func 9), args := #[Operand.tmp 134, Operand.tmp 137], argTypes := #[34, 34] }, type := 3, pos := "law.go:183", after := #[{ on := 9, ground := Ground.data }, { on := 12, ground := Ground.data }, { on := 6, ground := Ground.chain }, { on := 6, ground := Ground.guard }], guard := some (6, true) }) (v := undef) rfl (by kernel_rfl) (by kernel_rfl) (by kernel_rfl) (fun _ _ _ h => h) (Or.inr ⟨by rfl, rfl⟩) trivial ?_
         try simp only [Act.put, List.setIfInBounds_toArray, List.set_cons_zero, List.set_cons_succ]
         refine wpAnyH_take (i := 14) (oi := { dst := some 139, op := Op.binOp BinOp.gtr 3 (Operand.tmp 138) (Operand.const (Value.int IntKind.i64 0)) 3, type := 4, pos := "law.go:183", after := #[{ on := 13, ground := Ground.data }, { on := 6, ground := Ground.guard }], guard := some (6, true) }) (v := undef) rfl (by kernel_rfl) (by kernel_rfl) (by kernel_rfl) (fun _ _ _ h => h) (Or.inr ⟨by rfl, rfl⟩) trivial ?_
         try simp only [Act.put, List.setIfInBounds_toArray, List.set_cons_zero, List.set_cons_succ]
         refine wpAnyH_take (i := 15) (oi := { dst := some 140, op := Op.pick (Operand.tmp 131) (Operand.tmp 139) (Operand.const (Value.bool false)), type := 4, pos := "law.go:183", after := #[{ on := 6, ground := Ground.data }, { on := 14, ground := Ground.data }], guard := none }) (v := .bool false) rfl (by kernel_rfl) (by kernel_rfl) (by kernel_rfl) (fun _ _ _ h => h) (Or.inl ⟨by rfl, ?_⟩) trivial ?_
         ·(intro wq hSw; (try dsimp only at hSw); go_simp; try with_reducible rfl)
         try simp only [Act.put, List.setIfInBounds_toArray, List.set_cons_zero, List.set_cons_succ]
         refine wpAnyH_done (by kernel_rfl) ?_ _
         go_wp2_with fail
         go_meet
         case rel => exact ⟨rfl, HB0⟩
       obtain ⟨rfl, HX⟩ := hcut
       have U := Lib.hid (below_then HW.out HX.out)
       clear HW HX CE A1
       have HW := U
       clear U
       rename_i K1 hK1 K0 hK0
       have HK1 := Lib.hid hK1
       clear hK1
       go_wp2_with fail
       exact HK1.out _ _ (tail22 XA XB XC FA FB FC OF LV HB HW)
end Go.Proofs.YtepakogbbomaoaaGreatDoor
