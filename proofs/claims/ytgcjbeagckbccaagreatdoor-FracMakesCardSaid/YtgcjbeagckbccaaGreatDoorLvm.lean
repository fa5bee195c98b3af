/-
  The law FracMakes. (tools/genLvm.py makes this text.)
-/
import Derived.Test.YtgcjbeagckbccaaGreatDoorLfb
import Derived.Test.YtgcjbeagckbccaaGreatDoorRgM4
import Derived.Test.YtgcjbeagckbccaaGreatDoorLsm
import Derived.Test.YtgcjbeagckbccaaGreatDoorNmQ
namespace Go.Proofs.YtgcjbeagckbccaaGreatDoor
open Go.RowKit Go.Shelf
set_option linter.unusedVariables false
set_option maxRecDepth 100000

theorem v_rr {R : Int × Int × Int} {w w' : World} {e : Ending} (h : RREnd R w e w') : VEnd (KTR R) w e w' := h
/-- What is needed of the parts that Make returns. -/
theorem make_parts {p q : Int} {K : Nat} (hp : Lo K p) (hq : Lo K q) (hK : K ≤ 16000) : 1 ≤ (rMake p q).2.2 ∧ (digsW (rMake p q).2.1.natAbs).length ≤ 400000 ∧ (digsW (rMake p q).2.2.natAbs).length ≤ 400000 ∧ (digs (rMake p q).2.1.natAbs).length ≤ 400000 ∧ (digs (rMake p q).2.2.natAbs).length ≤ 400000 := by
  unfold rMake
  split
  · exact ⟨by decide, (small_zero rfl).words, (small_one rfl).words, (small_zero rfl).digs, (small_one rfl).digs⟩
  · rename_i h
    have h1 : Lo K (mkN p q) := Nat.le_trans (Int.natAbs_ediv_le_natAbs _ _) hp
    have h2 : Lo K (mkD p q) := Nat.le_trans (Int.natAbs_ediv_le_natAbs _ _) hq
    exact ⟨(mk_low (p := p) h).1.pos, (h1.small hK).words, (h2.small hK).words, (h1.small hK).digs, (h2.small hK).digs⟩
theorem list6 {z0 z1 z2 z3 z4 z5 : Int} {Q : Int → Prop} (h0 : Q z0) (h1 : Q z1) (h2 : Q z2) (h3 : Q z3) (h4 : Q z4) (h5 : Q z5) : ∀ k, k < 6 → ∃ z, [z0, z1, z2, z3, z4, z5][k]? = some z ∧ Q z := by
  intro k hk
  match k, hk with
  | 0, _ => exact ⟨z0, rfl, h0⟩
  | 1, _ => exact ⟨z1, rfl, h1⟩
  | 2, _ => exact ⟨z2, rfl, h2⟩
  | 3, _ => exact ⟨z3, rfl, h3⟩
  | 4, _ => exact ⟨z4, rfl, h4⟩
  | 5, _ => exact ⟨z5, rfl, h5⟩
theorem same_v {p q : Int} {K : Nat} (hp : Lo K p) (hq : Lo K q) (hK : K ≤ 16000) (X : World) (u v : Value) (hu : FAt X u (rMake p q).2.1 (rMake p q).2.2) (hv : RFAt X v (rMake p q).2.1 (rMake p q).2.2) : Calls Tryz.prog 19 #[u, v] X (VEnd (KX (.bool true)) X) := by
  obtain ⟨h1, h2, h3, h4, h5⟩ := make_parts hp hq hK
  exact lSame_any u v _ _ X hu hv h1 h2 h3 h4 h5
set_option maxHeartbeats 16000000 in
theorem walk_FracMakes (n0 d0 : Int) (v : Value) (l : List Int) (w : World) (hn : -9223372036854775808 ≤ n0 ∧ n0 ≤ 9223372036854775807) (hd : -9223372036854775808 ≤ d0 ∧ d0 ≤ 9223372036854775807) (hv : Row .i64 w v l) (hr : ∀ n ∈ l, -9223372036854775808 ≤ n ∧ n ≤ 9223372036854775807) :
    Calls Tryz.prog 3 #[.int .i64 n0, .int .i64 d0, v] w fun e w' => e = .returned (.bool true) ∧ Below w.heap.size w w' := by
  have PK : Hid (∀ (X : World) (i k : Int), 0 ≤ i → i ≤ 100 → k = pkI l i → Row .i64 X v l → Calls Tryz.prog 11 #[v, .int .i64 i] X (VEnd (KX (.int .i64 k)) X)) := Lib.hid (fun X i k h1 h2 e h => e ▸ (pick4_any v l i X h ⟨h1, by omega⟩).mono (fun _ _ ⟨g1, g2⟩ => ⟨_, g1, rfl, g2 ▸ Below.refl _ _⟩))
  obtain ⟨k0, hk0⟩ : ∃ k, k = pkI l 0 := ⟨_, rfl⟩
  obtain ⟨k1, hk1⟩ : ∃ k, k = pkI l 1 := ⟨_, rfl⟩
  obtain ⟨k2, hk2⟩ : ∃ k, k = pkI l 2 := ⟨_, rfl⟩
  obtain ⟨k3, hk3⟩ : ∃ k, k = pkI l 3 := ⟨_, rfl⟩
  have r0 := pkI_range hr 0
  have r1 := pkI_range hr 1
  have r2 := pkI_range hr 2
  have r3 := pkI_range hr 3
  rw [← hk0] at r0
  rw [← hk1] at r1
  rw [← hk2] at r2
  rw [← hk3] at r3
  have P0 := Lib.hid (fun X h => PK.out X 0 k0 (by decide) (by decide) hk0 h)
  have P1 := Lib.hid (fun X h => PK.out X 1 k1 (by decide) (by decide) hk1 h)
  have P2 := Lib.hid (fun X h => PK.out X 2 k2 (by decide) (by decide) hk2 h)
  have P3 := Lib.hid (fun X h => PK.out X 3 k3 (by decide) (by decide) hk3 h)
  obtain ⟨p, hp⟩ : ∃ p, p = numZ k0 k1 := ⟨_, rfl⟩
  obtain ⟨q, hq⟩ : ∃ q, q = numZ k2 k3 := ⟨_, rfl⟩
  have lp : Lo 1240 p := hp ▸ numZ_lo r1
  have lq : Lo 1240 q := hq ▸ numZ_lo r3
  have NP : Hid (∀ X : World, Calls Tryz.prog 10 #[.int .i64 k0, .int .i64 k1] X (VEnd (KN p) X)) := Lib.hid (fun X => hp ▸ (num4_any k0 k1 X r0 r1).mono (fun _ _ => v_n))
  have NQ : Hid (∀ X : World, Calls Tryz.prog 10 #[.int .i64 k2, .int .i64 k3] X (VEnd (KN q) X)) := Lib.hid (fun X => hq ▸ (num4_any k2 k3 X r2 r3).mono (fun _ _ => v_n))
  obtain ⟨K, hK⟩ : ∃ K : Nat, K = 9000 := ⟨_, rfl⟩
  have hK1 : K ≤ 9000 := by omega
  obtain ⟨E, hE⟩ : ∃ E : Int, E = ((2 ^ K : Nat) : Int) := ⟨_, rfl⟩
  have lE : Lo 9000 E := by
    have h1 : Lo K E := by unfold Lo; rw [hE, Int.natAbs_natCast]; exact Nat.le_refl _
    exact h1.more hK1
  have hKi : ((K : Nat) : Int) = 9000 := by omega
  have PW : Hid (∀ X : World, Calls Tryz.prog 13 #[.int .i64 9000] X (VEnd (KN E) X)) := Lib.hid (fun X => by
    have := power_any K X (by omega)
    rw [hKi, ← hE] at this
    exact this.mono (fun _ _ => v_n))
  obtain ⟨H, hH⟩ : ∃ H : Int, H = p * E := ⟨_, rfl⟩
  have lH : Lo 10240 H := hH ▸ lp.mul lE
  have MU : Hid (∀ (X : World) (u x : Value), NAt X u p → NAt X x E → Calls Tryz.prog 12 #[u, x] X (VEnd (KN H) X)) := Lib.hid (fun X u x h1 h2 => hH ▸ (mul_any u x p E X h1 h2 (by have := (lp.small (by decide)).digs; omega) (by have := (lE.small (by decide)).digs; omega)).mono (fun _ _ => v_n))
  have NG : Hid (∀ (X : World) (u : Value), NAt X u q → Calls Tryz.prog 14 #[u] X (VEnd (KN (-q)) X)) := Lib.hid (fun X u h => (neg_any u q X h (by have := (lq.small (by decide)).digs; omega)).mono (fun _ _ => v_n))
  have OF : Hid (∀ (X : World) (z : Int), -9223372036854775808 ≤ z ∧ z ≤ 9223372036854775807 → Calls Tryz.prog 15 #[.int .i64 z] X (VEnd (KN z) X)) := Lib.hid (fun X z h => (of_any z X h).mono (fun _ _ => v_n))
  have OF0 := Lib.hid (fun X => OF.out X 0 (by decide))
  have OFN := Lib.hid (fun X => OF.out X n0 hn)
  have OFD := Lib.hid (fun X => OF.out X d0 hd)
  have HZS : Hid (∀ k, k < 6 → ∃ z, [p, q, -q, 0, n0, H][k]? = some z ∧ Lo 10240 z) := Lib.hid (list6 (lp.more (by decide)) (lq.more (by decide)) (lo_neg (lq.more (by decide))) (by unfold Lo; exact Nat.zero_le _) ((lo_int hn).more (by decide)) lH)
  have NUM : Hid (∀ (X : World) (u : Value) (z : Int), Lo 10240 z → NAt X u z → Calls Tryz.prog 17 #[u] X (VEnd (KI z) X)) := Lib.hid (fun X u z h1 h2 => (lNumber_any u z X h2 (both_lo h1 (by decide))).mono (fun _ _ => v_i))
  have MAK : Hid (∀ (X : World) (u x : Value) (a b : Int), Lo 10240 a → Lo 10240 b → IAt X u a → IAt X x b → Calls Tryz.prog 16 #[u, x] X (VEnd (KTF (rMake a b)) X)) := Lib.hid (fun X u x a b h1 h2 h3 h4 => (make_any u x a b X h3 h4 (h1.small (by decide)).words (h2.small (by decide)).words).mono (fun _ _ h => v_tf (make_end h)))
  have RMK : Hid (∀ (X : World) (u x : Value) (a b : Int), Lo 10240 a → Lo 10240 b → NAt X u a → NAt X x b → Calls Tryz.prog 18 #[u, x] X (VEnd (KTR (rMake a b)) X)) := Lib.hid (fun X u x a b h1 h2 h3 h4 => rMake_any u x a b X h3 h4 (by have := (h1.small (by decide)).digs; omega) (by have := (h2.small (by decide)).digs; omega))
  have SAM : Hid (∀ (a b : Int), Lo 10240 a → Lo 10240 b → ∀ (X : World) (u x : Value), FAt X u (rMake a b).2.1 (rMake a b).2.2 → RFAt X x (rMake a b).2.1 (rMake a b).2.2 → Calls Tryz.prog 19 #[u, x] X (VEnd (KX (.bool true)) X)) := Lib.hid (fun a b h1 h2 => same_v h1 h2 (by decide))
  have OFF : Hid (∀ X : World, Calls Tryz.prog 20 #[.int .i64 n0, .int .i64 d0] X (VEnd (KTF (rMake n0 d0)) X)) := Lib.hid (fun X => (fOf_any n0 d0 X hn hd).mono (fun _ _ h => v_tf (make_end h)))
  have WHO : Hid (∀ X : World, Calls Tryz.prog 21 #[.int .i64 n0] X (VEnd (KF n0 1) X)) := Lib.hid (fun X => (lWhole_any n0 X hn).mono (fun _ _ => v_f))
  have ROF : Hid (∀ X : World, Calls Tryz.prog 22 #[.int .i64 n0] X (VEnd (KR n0 1) X)) := Lib.hid (fun X => (rOf_any n0 X hn).mono (fun _ _ => v_r))
  have SAW : Hid (∀ (X : World) (u x : Value), FAt X u n0 1 → RFAt X x n0 1 → Calls Tryz.prog 19 #[u, x] X (VEnd (KX (.bool true)) X)) := Lib.hid (fun X u x h1 h2 => lSame_any u x n0 1 X h1 h2 (by decide) ((lo_int hn).small (by decide)).words (small_one rfl).words ((lo_int hn).small (by decide)).digs (small_one rfl).digs)
  have LN := Lib.hid ((lo_int hn).more (show 63 ≤ 10240 by decide))
  have LDD := Lib.hid ((lo_int hd).more (show 63 ≤ 10240 by decide))
  have LV : Hid (∀ X : World, Calls Tryz.prog 23 #[] X (VEnd (KX (.bool true)) X)) := Lib.hid (fun X => lives4_any X)
  have HL := Lib.hid hv
  have HB : Hid (Below w.heap.size w w) := Lib.hid (Below.refl _ _)
  obtain ⟨pv, cv, rfl, hcv, hcvm⟩ := (show ∃ p c, v = .slice p l.length c ∧ l.length ≤ c ∧ c ≤ 9223372036854775807 by obtain ⟨p, c, e, h1, h2, _⟩ := hv; exact ⟨p, c, e, h1, h2⟩)
  clear hv hr hn hd PK hk0 hk1 hk2 hk3 r0 r1 r2 r3 hp hq lp lq hK hK1 hE lE hKi hH lH OF
  generalize hll : l.length = ll at *
  clear hll
  go_enter Tryz.func3, Tryz.ntmps3
  go_wp2_with fail
  have C := P0.out w HL.out
  unfold VEnd at C
  have HC := Lib.hid C
  clear C
  go_must (refine HC.out.mono ?_)
  rintro e w21 ⟨v5, rfl, hv5, hb5⟩
  obtain rfl := hv5
  clear HC
  have U := Lib.hid (below_then HB.out hb5)
  clear HB
  have HB := U
  clear U
  have U := Lib.hid (row_keeps HL.out hb5)
  clear HL
  have HL := U
  clear U
  clear hb5
  go_wp2_with fail
  have C := P1.out w21 HL.out
  unfold VEnd at C
  have HC := Lib.hid C
  clear C
  go_must (refine HC.out.mono ?_)
  rintro e w22 ⟨v5, rfl, hv5, hb5⟩
  obtain rfl := hv5
  clear HC
  have U := Lib.hid (below_then HB.out hb5)
  clear HB
  have HB := U
  clear U
  have U := Lib.hid (row_keeps HL.out hb5)
  clear HL
  have HL := U
  clear U
  clear hb5
  go_wp2_with fail
  have C := NP.out w22
  unfold VEnd at C
  have HC := Lib.hid C
  clear C
  go_must (refine HC.out.mono ?_)
  rintro e w23 ⟨v5, rfl, hx5, hb5⟩
  obtain ⟨srp, arp, mrp, crp, rfl⟩ := nat_shape hx5
  clear HC
  have hbb := below_then hb5 (below_one w23 (.cells #[.bool srp, .slice arp mrp crp] 24))
  have U := Lib.hid (below_then HB.out hbb)
  clear HB
  have HB := U
  clear U
  have U := Lib.hid (row_keeps HL.out hbb)
  clear HL
  have HL := U
  clear U
  have Tp := Lib.hid (NBox.new hx5)
  clear hx5 hb5 hbb
  go_wp2_with fail
  have HSZY1 := Lib.hid (size_alloc1 w23 (.cells #[.bool srp, .slice arp mrp crp] 24))
  generalize w23.alloc (.cells #[.bool srp, .slice arp mrp crp] 24) = Y1 at *
  generalize w23.heap.size = tp at *
  have C := P2.out Y1 HL.out
  unfold VEnd at C
  have HC := Lib.hid C
  clear C
  go_must (refine HC.out.mono ?_)
  rintro e w24 ⟨v5, rfl, hv5, hb5⟩
  obtain rfl := hv5
  clear HC
  have U := Lib.hid (Tp.out.below hb5)
  clear Tp
  have Tp := U
  clear U
  have U := Lib.hid (below_then HB.out hb5)
  clear HB
  have HB := U
  clear U
  have U := Lib.hid (row_keeps HL.out hb5)
  clear HL
  have HL := U
  clear U
  clear hb5
  go_wp2_with fail
  have C := P3.out w24 HL.out
  unfold VEnd at C
  have HC := Lib.hid C
  clear C
  go_must (refine HC.out.mono ?_)
  rintro e w25 ⟨v5, rfl, hv5, hb5⟩
  obtain rfl := hv5
  clear HC
  have U := Lib.hid (Tp.out.below hb5)
  clear Tp
  have Tp := U
  clear U
  have U := Lib.hid (below_then HB.out hb5)
  clear HB
  have HB := U
  clear U
  have U := Lib.hid (row_keeps HL.out hb5)
  clear HL
  have HL := U
  clear U
  clear hb5
  go_wp2_with fail
  have C := NQ.out w25
  unfold VEnd at C
  have HC := Lib.hid C
  clear C
  go_must (refine HC.out.mono ?_)
  rintro e w26 ⟨v5, rfl, hx5, hb5⟩
  obtain ⟨srq, arq, mrq, crq, rfl⟩ := nat_shape hx5
  clear HC
  have hbb := below_then hb5 (below_one w26 (.cells #[.bool srq, .slice arq mrq crq] 24))
  have U := Lib.hid (Tp.out.below hbb)
  clear Tp
  have Tp := U
  clear U
  have U := Lib.hid (below_then HB.out hbb)
  clear HB
  have HB := U
  clear U
  have U := Lib.hid (row_keeps HL.out hbb)
  clear HL
  have HL := U
  clear U
  have Tq := Lib.hid (NBox.new hx5)
  clear hx5 hb5 hbb
  clear HL
  go_upto_region 3 with (fail)
  have HSZY2 := Lib.hid (size_alloc1 w26 (.cells #[.bool srq, .slice arq mrq crq] 24))
  generalize w26.alloc (.cells #[.bool srq, .slice arq mrq crq] 24) = Y2 at *
  generalize w26.heap.size = tq at *
  obtain ⟨s7, a7, m7, c7, lp, hp⟩ := Tp.out
  have Lp := Lib.hid lp
  have Gp := Lib.hid hp
  clear lp hp
  refine regLM3 (z32 := E) (z33 := H) (fun _ _ d _ _ h => by cases d <;> exact h) (Lib.hid (fun X h => ?ld3)) (Lib.hid (fun X h => PW.out X)) (Lib.hid (fun X x32 h k => MU.out X _ _ (nat_keeps Gp.out h) k)) ?_
  case ld3 =>
    obtain ⟨f0, f1, _, _⟩ := cells2 (Lp.out.below h)
    exact ⟨f0, f1⟩
  intro X1 x32 sv av mv cv2 t9 hBX L9 T9
  clear Lp Gp PW MU
  have U := Lib.hid (Tp.out.below hBX.out)
  clear Tp
  have Tp := U
  clear U
  have U := Lib.hid (Tq.out.below hBX.out)
  clear Tq
  have Tq := U
  clear U
  have U := Lib.hid (below_then HB.out hBX.out)
  clear HB
  have HB := U
  clear U
  have Tg := T9
  clear T9 hBX L9
  go_upto_region 4 with (fail)
  obtain ⟨s7, a7, m7, c7, lp, hp⟩ := Tp.out
  have Lp := Lib.hid lp
  have Gp := Lib.hid hp
  clear lp hp
  obtain ⟨s8, a8, m8, c8, lq, hq⟩ := Tq.out
  have Lq := Lib.hid lq
  have Gq := Lib.hid hq
  clear lq hq
  obtain ⟨s9, a9, m9, c9, lg, hg⟩ := Tg.out
  have Lg := Lib.hid lg
  have Gg := Lib.hid hg
  clear lg hg
  refine regLM4 (z7 := p) (z8 := q) (z9 := H) (z37 := -q) (z38 := 0) (z40 := n0) (fun _ _ d _ _ h => by cases d <;> exact h) (Lib.hid (fun X h => ?ld4)) (Lib.hid (fun X h => nat_keeps Gp.out h)) (Lib.hid (fun X h => nat_keeps Gq.out h)) (Lib.hid (fun X h => nat_keeps Gg.out h)) (Lib.hid (fun X h => NG.out X _ (nat_keeps Gq.out h))) (Lib.hid (fun X h => OF0.out X)) (Lib.hid (fun X h => OFN.out X)) ?_
  case ld4 =>
    obtain ⟨f0, f1, _, _⟩ := cells2 (Lp.out.below h)
    obtain ⟨f2, f3, _, _⟩ := cells2 (Lq.out.below h)
    obtain ⟨f4, f5, _, _⟩ := cells2 (Lg.out.below h)
    exact ⟨f0, f1, f2, f3, f4, f5⟩
  intro X2 x37 x38 x40 x42 hBX _ _ _ K42
  obtain ⟨bl, rfl, _, hrow⟩ := K42.out
  have HROW := Lib.hid hrow
  have U := Lib.hid (below_then HB.out hBX.out)
  clear HB
  have HB := U
  clear U hrow hBX K42 Lp Gp Lq Gq Lg Gg NG OF0 Tp Tq Tg
  go_wp2_with fail
  go_loopw [11, 12, 13, 14, 15, 16] (fun iv _ _ _ _ _ wr => ∃ ki : Nat, iv = .int .i64 (ki : Int) ∧ ki ≤ 6 ∧ Hid (NRow wr bl [p, q, -q, 0, n0, H]) ∧ Hid (Below w.heap.size w wr)) (fun iv _ _ _ _ _ _ => (6 - intOf iv).toNat)
  case atStart => exact ⟨0, rfl, by decide, HROW, HB⟩
  case round =>
    clear HROW HB
    obtain ⟨ki, rfl, hki, HROW, HB⟩ := hrel
    rcases Nat.lt_or_ge ki 6 with hlt | hge
    · have hlt' : (ki : Int) < 6 := by omega
      go_wp2_with fail
      go_loopw [12, 13, 14, 15, 16] (fun jv _ _ _ _ wr => ∃ kk : Nat, jv = .int .i64 (kk : Int) ∧ kk ≤ 3 ∧ Hid (NRow wr bl [p, q, -q, 0, n0, H]) ∧ Hid (Below w.heap.size w wr)) (fun jv _ _ _ _ _ => (3 - intOf jv).toNat)
      case atStart => exact ⟨0, rfl, by decide, HROW, HB⟩
      case round =>
        clear HROW HB
        obtain ⟨kk, rfl, hkk, HROW, HB⟩ := hrel
        rcases Nat.lt_or_ge kk 3 with hlk | hgk
        · have hlk' : (kk : Int) < 3 := by omega
          obtain ⟨zi, hzi, lzi⟩ := HZS.out ki hlt
          obtain ⟨zk, hzk, lzk⟩ := HZS.out kk (by omega)
          obtain ⟨sI, aI, mI, cI, ⟨i0, i1⟩, hI⟩ := HROW.out.2 ki zi hzi
          obtain ⟨sK, aK, mK, cK, ⟨j0, j1⟩, hK⟩ := HROW.out.2 kk zk hzk
          have HI := Lib.hid hI
          have HK := Lib.hid hK
          have LI := Lib.hid lzi
          have LK := Lib.hid lzk
          have SM := Lib.hid (SAM.out zi zk lzi lzk)
          have MK1 : Hid (∀ (X : World) (u x : Value), IAt X u zi → IAt X x zk → Calls Tryz.prog 16 #[u, x] X (VEnd (KTF (rMake zi zk)) X)) := Lib.hid (fun X u x h1 h2 => MAK.out X u x zi zk lzi lzk h1 h2)
          have MK2 : Hid (∀ (X : World) (u x : Value), NAt X u zi → NAt X x zk → Calls Tryz.prog 18 #[u, x] X (VEnd (KTR (rMake zi zk)) X)) := Lib.hid (fun X u x h1 h2 => RMK.out X u x zi zk lzi lzk h1 h2)
          generalize rMake zi zk = R at *
          have LD : Hid (∀ X : World, Below wr.heap.size wr X → X.cell? ⟨bl, ki * 2, none⟩ = some (.bool sI) ∧ X.cell? ⟨bl, ki * 2 + 1, none⟩ = some (.slice aI mI cI) ∧ X.cell? ⟨bl, kk * 2, none⟩ = some (.bool sK) ∧ X.cell? ⟨bl, kk * 2 + 1, none⟩ = some (.slice aK mK cK)) := Lib.hid (fun X h => ⟨(h.cell (p := ⟨bl, ki * 2, none⟩) HROW.out.1).trans i0, (h.cell (p := ⟨bl, ki * 2 + 1, none⟩) HROW.out.1).trans i1, (h.cell (p := ⟨bl, kk * 2, none⟩) HROW.out.1).trans j0, (h.cell (p := ⟨bl, kk * 2 + 1, none⟩) HROW.out.1).trans j1⟩)
          clear hzi hzk lzi lzk i0 i1 j0 j1 hI hK
          go_upto_region 11 with (fail)
          refine regLM11 (z58 := zi) (z63 := zk) (R := R) (fun _ _ d _ _ h => by cases d <;> exact h) (by omega) (by omega) LD (Lib.hid (fun X h => NUM.out X _ zi LI.out (nat_keeps HI.out h))) (Lib.hid (fun X h => NUM.out X _ zk LK.out (nat_keeps HK.out h))) (Lib.hid (fun X x58 x63 h h1 h2 => MK1.out X _ _ h1 h2)) ?_
          intro X3 x58 x63 x64 x53 sv1 tv1 av1 dv1 mv1 iv1 cv1 jv1 t13 hB3 L13 T13
          go_upto_region 12 with (fail)
          refine regLM12 (R := R) (fun _ _ d _ _ h => by cases d <;> exact h) (by omega) (by omega) (Lib.hid (fun X h => LD.out X (below_then hB3.out h))) (Lib.hid (fun X h => MK2.out X _ _ (nat_keeps HI.out (below_then hB3.out h)) (nat_keeps HK.out (below_then hB3.out h)))) ?_
          intro X4 x76 x67 sv2 tv2 av2 dv2 mv2 iv2 cv2' jv2 t15 hB4 L15 T15
          have T13' := Lib.hid (T13.out.below hB4.out)
          obtain ⟨s1, u1, a1, d1, m1, e1, c1, j1, ⟨c10, c11, c12, c13⟩, _, h13⟩ := T13'.out.open
          obtain ⟨s2, u2, a2, d2, m2, e2, c2, j2, ⟨c20, c21, c22, c23⟩, _, h15⟩ := T15.out.open
          have SM1 := SM.out X4 _ _ h13 h15
          unfold VEnd at SM1
          have HSM := Lib.hid SM1
          have HBX := Lib.hid (below_then hB3.out hB4.out)
          clear SM SM1 h13 h15 LD MK1 MK2 HI HK LI LK
          go_wp2_with fail
          go_must (refine HSM.out.mono ?_)
          rintro e X5 ⟨v5, rfl, hv5, hb5⟩
          obtain rfl := hv5
          have HR5 := Lib.hid (nrow_keeps HROW.out (below_then HBX.out hb5))
          have HB5 := Lib.hid (below_then HB.out (below_then HBX.out hb5))
          clear HSM hb5 HBX HROW HB c10 c11 c12 c13 c20 c21 c22 c23 T13 T13' T15 hB3 hB4
          go_wp2_with fail
          go_roundw
          case rel => exact ⟨kk + 1, by first | rfl | go_num, by omega, HR5, HB5⟩
          case measure => simp [intOf]; omega
        · have hgk' : ¬ (kk : Int) < 3 := by omega
          go_wp2_with fail
          go_roundw
          case rel => exact ⟨ki + 1, by first | rfl | go_num, by omega, HROW, HB⟩
          case measure => simp [intOf]; omega
    · have hge' : ¬ (ki : Int) < 6 := by omega
      skip
      go_wp2_with fail
      have C := OFF.out wr
      unfold VEnd at C
      have HC := Lib.hid C
      clear C
      go_must (refine HC.out.mono ?_)
      rintro e w21 ⟨v5, rfl, ⟨y5, rfl, hx5⟩, hb5⟩
      obtain ⟨sra, tra, ara, dra, mra, ira, cra, jra, rfl⟩ := fat_shape hx5
      clear HC
      have hbb := below_then hb5 (below_one w21 (.cells #[.bool sra, .slice ara mra cra, .bool tra, .slice dra ira jra] 35))
      have U := Lib.hid (below_then HB.out hbb)
      clear HB
      have HB := U
      clear U
      have Ta := Lib.hid (FBox.new hx5)
      clear hx5 hb5 hbb
      go_wp2_with fail
      have HSZZ1 := Lib.hid (size_alloc1 w21 (.cells #[.bool sra, .slice ara mra cra, .bool tra, .slice dra ira jra] 35))
      generalize w21.alloc (.cells #[.bool sra, .slice ara mra cra, .bool tra, .slice dra ira jra] 35) = Z1 at *
      generalize w21.heap.size = ta at *
      have C := OFN.out Z1
      unfold VEnd at C
      have HC := Lib.hid C
      clear C
      go_must (refine HC.out.mono ?_)
      rintro e w22 ⟨v5, rfl, hx5, hb5⟩
      obtain ⟨sru, aru, mru, cru, rfl⟩ := nat_shape hx5
      clear HC
      have U := Lib.hid (Ta.out.below hb5)
      clear Ta
      have Ta := U
      clear U
      have U := Lib.hid (below_then HB.out hb5)
      clear HB
      have HB := U
      clear U
      have Gu := Lib.hid hx5
      clear hx5 hb5
      go_wp2_with fail
      have C := OFD.out w22
      unfold VEnd at C
      have HC := Lib.hid C
      clear C
      go_must (refine HC.out.mono ?_)
      rintro e w23 ⟨v5, rfl, hx5, hb5⟩
      obtain ⟨srv, arv, mrv, crv, rfl⟩ := nat_shape hx5
      clear HC
      have U := Lib.hid (Ta.out.below hb5)
      clear Ta
      have Ta := U
      clear U
      have U := Lib.hid (below_then HB.out hb5)
      clear HB
      have HB := U
      clear U
      have U := Lib.hid (nat_keeps Gu.out hb5)
      clear Gu
      have Gu := U
      clear U
      have Gv := Lib.hid hx5
      clear hx5 hb5
      go_wp2_with fail
      have C := RMK.out w23 _ _ n0 d0 LN.out LDD.out Gu.out Gv.out
      unfold VEnd at C
      have HC := Lib.hid C
      clear C
      go_must (refine HC.out.mono ?_)
      rintro e w24 ⟨v5, rfl, ⟨y5, rfl, hx5⟩, hb5⟩
      obtain ⟨srb, trb, arb, drb, mrb, irb, crb, jrb, rfl⟩ := rf_shape hx5
      clear HC
      have hbb := below_then hb5 (below_one w24 (.cells #[.bool srb, .slice arb mrb crb, .bool trb, .slice drb irb jrb] 41))
      have U := Lib.hid (Ta.out.below hbb)
      clear Ta
      have Ta := U
      clear U
      have U := Lib.hid (below_then HB.out hbb)
      clear HB
      have HB := U
      clear U
      have U := Lib.hid (nat_keeps Gu.out hbb)
      clear Gu
      have Gu := U
      clear U
      have U := Lib.hid (nat_keeps Gv.out hbb)
      clear Gv
      have Gv := U
      clear U
      have Tb := Lib.hid (RBox.new hx5)
      clear hx5 hb5 hbb
      clear Gu Gv
      obtain ⟨sa_4, ta_4, aa_4, da_4, ma_4, ia_4, ca_4, ja_4, ⟨ca_40, ca_41, ca_42, ca_43⟩, _, ha_4⟩ := Ta.out.open
      obtain ⟨sb_4, tb_4, ab_4, db_4, mb_4, ib_4, cb_4, jb_4, ⟨cb_40, cb_41, cb_42, cb_43⟩, _, hb_4⟩ := Tb.out.open
      go_wp2_with fail
      have HSZZ2 := Lib.hid (size_alloc1 w24 (.cells #[.bool srb, .slice arb mrb crb, .bool trb, .slice drb irb jrb] 41))
      generalize w24.alloc (.cells #[.bool srb, .slice arb mrb crb, .bool trb, .slice drb irb jrb] 41) = Z2 at *
      generalize w24.heap.size = tb at *
      have C := SAM.out n0 d0 LN.out LDD.out Z2 _ _ ha_4 hb_4
      unfold VEnd at C
      have HC := Lib.hid C
      clear C
      clear ca_40 ca_41 ca_42 ca_43 ha_4
      clear cb_40 cb_41 cb_42 cb_43 hb_4
      go_must (refine HC.out.mono ?_)
      rintro e w25 ⟨v5, rfl, hv5, hb5⟩
      obtain rfl := hv5
      clear HC
      have U := Lib.hid (Ta.out.below hb5)
      clear Ta
      have Ta := U
      clear U
      have U := Lib.hid (Tb.out.below hb5)
      clear Tb
      have Tb := U
      clear U
      have U := Lib.hid (below_then HB.out hb5)
      clear HB
      have HB := U
      clear U
      clear hb5
      clear Ta
      clear Tb
      go_wp2_with fail
      have C := WHO.out w25
      unfold VEnd at C
      have HC := Lib.hid C
      clear C
      go_must (refine HC.out.mono ?_)
      rintro e w26 ⟨v5, rfl, hx5, hb5⟩
      obtain ⟨sru, tru, aru, dru, mru, iru, cru, jru, rfl⟩ := fat_shape hx5
      clear HC
      have U := Lib.hid (below_then HB.out hb5)
      clear HB
      have HB := U
      clear U
      have Gu := Lib.hid hx5
      clear hx5 hb5
      go_wp2_with fail
      have C := ROF.out w26
      unfold VEnd at C
      have HC := Lib.hid C
      clear C
      go_must (refine HC.out.mono ?_)
      rintro e w27 ⟨v5, rfl, hx5, hb5⟩
      obtain ⟨srv, trv, arv, drv, mrv, irv, crv, jrv, rfl⟩ := rf_shape hx5
      clear HC
      have U := Lib.hid (below_then HB.out hb5)
      clear HB
      have HB := U
      clear U
      have U := Lib.hid (fat_keeps Gu.out hb5)
      clear Gu
      have Gu := U
      clear U
      have Gv := Lib.hid hx5
      clear hx5 hb5
      go_wp2_with fail
      have C := SAW.out w27 _ _ Gu.out Gv.out
      unfold VEnd at C
      have HC := Lib.hid C
      clear C
      go_must (refine HC.out.mono ?_)
      rintro e w28 ⟨v5, rfl, hv5, hb5⟩
      obtain rfl := hv5
      clear HC
      have U := Lib.hid (below_then HB.out hb5)
      clear HB
      have HB := U
      clear U
      have U := Lib.hid (fat_keeps Gu.out hb5)
      clear Gu
      have Gu := U
      clear U
      have U := Lib.hid (rf_keeps Gv.out hb5)
      clear Gv
      have Gv := U
      clear U
      clear hb5
      clear Gu Gv
      go_wp2_with fail
      have C := LV.out w28
      unfold VEnd at C
      have HC := Lib.hid C
      clear C
      go_must (refine HC.out.mono ?_)
      rintro e w29 ⟨v5, rfl, hv5, hb5⟩
      obtain rfl := hv5
      clear HC
      have U := Lib.hid (below_then HB.out hb5)
      clear HB
      have HB := U
      clear U
      clear hb5
      go_wp2_with fail
      go_ret
      exact ⟨rfl, HB.out⟩
end Go.Proofs.YtgcjbeagckbccaaGreatDoor
