/-
 The reference of package wide: divided.
-/
import Derived.Test.YtepakogbbomaoaaGreatDoorNmHO
import Derived.Deep.LoopGhost
namespace Go.Proofs.YtepakogbbomaoaaGreatDoor
open Go.RowKit Go.Shelf
set_option linter.unusedVariables false
set_option maxRecDepth 100000
theorem nat_rowAt {W : World} {b : Bool} {p : Option Addr} {m k r : Nat} (h : NAt W (.agg #[.bool b, .slice p m k]) (r : Int)) : Row .i64 W (.slice p m k) (natI (digs r)) := by
 have := nat_row2 h
 rwa [Int.natAbs_natCast] at this
theorem below_one2 (W : World) (o : Obj) : Below W.heap.size W (W.alloc o) := (Below.refl _ W).alloc (Nat.le_refl _) _
set_option maxHeartbeats 4000000 in
theorem divided_any (u v : Value) (A B : Nat) (w : World) (hu : Row .i64 w u (natI (digs A))) (hv : Row .i64 w v (natI (digs B))) (ha : (digs A).length ≤ 400000) (hb : (digs B).length ≤ 400000) (hB : B ≠ 0) :
  Calls Tryz.prog 100 #[u, v] w (DivEnd A B w) := by
 obtain ⟨i0, hi, hz0, hz1, hz2⟩ := info_parts info_int
 obtain ⟨pa, ca, rfl, hcapa, hcama, hcella, hnila⟩ := hu
 obtain ⟨pb, cb, rfl, hcapb, hcamb, hcellb, hnilb⟩ := hv
 simp only [natI_length] at hcapa hcapb hcella hcellb ⊢
 have HU : Hid (Row .i64 w (.slice pa (digs A).length ca) (natI (digs A))) := Lib.hid ⟨pa, ca, by rw [natI_length], by rw [natI_length]; exact hcapa, hcama, by rw [natI_length]; exact hcella, hnila⟩
 have HV : Hid (Row .i64 w (.slice pb (digs B).length cb) (natI (digs B))) := Lib.hid ⟨pb, cb, by rw [natI_length], by rw [natI_length]; exact hcapb, hcamb, by rw [natI_length]; exact hcellb, hnilb⟩
 clear hcella hnila hcellb hnilb
 have HDA := Lib.hid (digs_lt A)
 have HNA : Hid (valD (digs A) = A) := Lib.hid (valD_digs A)
 have HFIRST := Lib.hid (div_first (m := A) hB)
 obtain ⟨lb, hlb⟩ : ∃ t, (digs B).length = t := ⟨_, rfl⟩
 have hlb1 : 1 ≤ lb := by rw [← hlb]; exact digs_len_pos hB
 have HLB := Lib.hid hlb
 rw [hlb] at HV HFIRST hb
 rw [hlb]
 clear hlb
 have HDEND : Hid (∀ Q : List Nat, valD Q = A / B → Q.length ≤ (digs A).length → (∀ c ∈ Q, c < 10000) → ∀ W qv rv, Row .i64 W qv (natI Q) → Row .i64 W rv (natI (digs (A % B))) → Below w.heap.size w W → DivEnd A B w (.returned (.tuple #[qv, rv])) W) := Lib.hid (fun Q h1 h2 h3 W qv rv h4 h5 h6 => ⟨qv, rv, Q, rfl, h4, h1, h2, h3, h5, h6⟩)
 generalize digs A = da at *
 obtain ⟨first, hfirst⟩ : ∃ t, da.length + 1 - lb = t := ⟨_, rfl⟩
 rw [hfirst] at HFIRST
 have hfl : first ≤ da.length := by omega
 obtain ⟨fi, hfi⟩ : ∃ t : Int, (da.length : Int) - (lb : Int) + 1 = t := ⟨_, rfl⟩
 have hmn : (if fi < (da.length : Int) then fi else (da.length : Int)) = fi := by split <;> omega
 have hmx : (if 0 < fi then fi else 0) = (first : Int) := by split <;> omega
 have hf0 : da = [] → first = 0 := by intro e; rw [e] at hfirst; simp at hfirst; omega
 have HF0 := Lib.hid hf0
 have HFE := Lib.hid hfirst
 have hfb : -9223372036854775808 ≤ fi ∧ fi ≤ 9223372036854775807 := by omega
 have hf1 : (0 : Int) ≤ (first : Int) := by omega
 have hf2 : (first : Int) ≤ (da.length : Int) := by omega
 clear hfirst hf0
 go_enter Tryz.func100, Tryz.ntmps100
 go_wp2_with (at_make; go_must (refine wpList_make_fresh rfl _ _ 22 rfl w.heap.size 3 i0 .i64 8 Tryz.underlying22 hi hz0 hz1 hz2 (by decide) _ _ _ _ da.length rfl rfl (by first | rfl | omega) (by first | rfl | omega) (by omega) (Nat.le_refl _) ?_); intro w3 hfr hb3 hsz3)
 have TR := top_row HU.out hfl HF0.out hb3
 have HFR := Lib.hid hfr
 have HB3 := Lib.hid hb3
 have hg3 : w.heap.size < w3.heap.size ∨ da = [] := by
  rcases Classical.em (da = []) with h | h
  ·exact .inr h
  ·left
   rcases fresh_form hfr with ⟨_, h2⟩ | ⟨g, c, e, _, h2, _⟩
   ·exfalso
    have := congrArg List.length h2
    simp at this
    exact h this
   ·injection e with e1 _ _
    injection e1 with e1
    have : g = w.heap.size := (by injection e1 with e1 _ _; exact e1.symm)
    omega
 rename ca = first => hcf
 have N4 : Hid (Calls Tryz.prog 68 #[.bool false, .slice pa (da.length - first) 0] w3 (fun e w' => ∃ b pr m k, e = .returned (.agg #[.bool b, .slice pr m k]) ∧ Row .i64 w' (.slice pr m k) (natI (digs (valD (da.drop first)))) ∧ Below w3.heap.size w3 w' ∧ ∀ j, blockOf (.slice pr m k) j → w.heap.size ≤ j → da = [])) := Lib.hid (by
  refine (top_normal HDA.out (by omega) (TR.2 hcf)).mono ?_
  rintro e w' ⟨b, m, k, rfl, hx, hbx⟩
  exact ⟨b, pa, m, k, rfl, nat_rowAt hx, hbx, fun j h1 h2 => top_loc (first := first) HU.out pa (.inr rfl) m k j h1 h2⟩)
 clear TR hfr hb3 hcf
 go_must (refine N4.out.mono ?_)
 rintro e w4 ⟨b4, p4, m4, k4, rfl, hr4, hb4, hloc⟩
 rotate_left
 have TR := top_row HU.out hfl HF0.out hb3
 have HFR := Lib.hid hfr
 have HB3 := Lib.hid hb3
 have hg3 : w.heap.size < w3.heap.size ∨ da = [] := by
  rcases Classical.em (da = []) with h | h
  ·exact .inr h
  ·left
   rcases fresh_form hfr with ⟨_, h2⟩ | ⟨g, c, e, _, h2, _⟩
   ·exfalso
    have := congrArg List.length h2
    simp at this
    exact h this
   ·injection e with e1 _ _
    injection e1 with e1
    have : g = w.heap.size := (by injection e1 with e1 _ _; exact e1.symm)
    omega
 have hcf : ¬ ca = first := by assumption
 have N4 : Hid (Calls Tryz.prog 68 #[.bool false, .slice (Option.map (fun x => x.add first) pa) (da.length - first) (ca - first)] w3 (fun e w' => ∃ b pr m k, e = .returned (.agg #[.bool b, .slice pr m k]) ∧ Row .i64 w' (.slice pr m k) (natI (digs (valD (da.drop first)))) ∧ Below w3.heap.size w3 w' ∧ ∀ j, blockOf (.slice pr m k) j → w.heap.size ≤ j → da = [])) := Lib.hid (by
  refine (top_normal HDA.out (by omega) (TR.1 hcf)).mono ?_
  rintro e w' ⟨b, m, k, rfl, hx, hbx⟩
  exact ⟨b, _, m, k, rfl, nat_rowAt hx, hbx, fun j h1 h2 => top_loc (first := first) HU.out _ (.inl rfl) m k j h1 h2⟩)
 clear TR hfr hb3 hcf
 go_must (refine N4.out.mono ?_)
 rintro e w4 ⟨b4, p4, m4, k4, rfl, hr4, hb4, hloc⟩
 clear N4
 generalize Option.map (fun x : Addr => x.add first) pa = pm at *
 have N4 : Hid True := Lib.hid trivial
 rotate_left
 all_goals
  have hal := below_one2 w4 (.cells #[.bool b4, .slice p4 m4 k4] 24)
  have HR4 := Lib.hid (row_keeps hr4 hal)
  have HLOC := Lib.hid hloc
  have HFR4 := Lib.hid (fresh_keeps (fresh_keeps HFR.out hb4) hal)
  have HB4 := Lib.hid (HB3.out.trans ((hb4.trans (hal.mono hb4.size)).mono HB3.out.size))
  obtain ⟨c0, c1, _, _⟩ := cells2 (Laid.new w4 24 [.bool b4, .slice p4 m4 k4])
  clear hr4 hloc hb4 hal HFR HB3 N4
  go_wp2_with fail
  generalize w4.alloc (.cells #[.bool b4, .slice p4 m4 k4] 24) = W4 at *
  clear c0 c1
  generalize hg : w.heap.size = g at *
  go_loopg [9, 10] first (fun j rv iv wr => ∃ (r : Nat) (Q : List Nat) (pr : Option Addr) (mr kr : Nat), iv = .int .i64 ((j : Int) - 1) ∧ rv = .slice pr mr kr ∧ j ≤ da.length ∧ r < B ∧ Hid (Row .i64 wr (.slice pr mr kr) (natI (digs r))) ∧ Hid (∀ i, blockOf (.slice pr mr kr) i → i = g → natI (digs r) = []) ∧ Hid (Q.length = da.length) ∧ Hid (∀ c ∈ Q, c < 10000) ∧ Hid (valD (da.drop j) = valD (Q.drop j) * B + r) ∧ Hid (Fresh g 3 .i64 wr (.slice (some ⟨g, 0, none⟩) da.length da.length) (natI Q)) ∧ Hid (Below g w wr))
  case atStart => exact ⟨valD (da.drop first), List.replicate da.length 0, p4, m4, k4, rfl, rfl, hfl, HFIRST.out, HR4, Lib.hid (fun i h1 h2 => by
    have h3 := HLOC.out i h1 (by omega)
    rw [h3, List.drop_nil, show valD [] = 0 from rfl, digs_zero]; rfl), Lib.hid (by simp), Lib.hid (fun c hc => by rw [(List.mem_replicate.1 hc).2]; decide), Lib.hid (by rw [List.drop_replicate, valD_zeros, Nat.zero_mul, Nat.zero_add]), Lib.hid (by have := HFR4.out; simpa [natI] using this), HB4⟩
  case round =>
   obtain ⟨r, Q, pr, mr, kr, rfl, rfl, hj, hr, HRR, HRG, HQL, HQD, HVAL, HFR, HBB⟩ := hrel
   clear HR4 HLOC HFR4 HB4
   cases gk with
   | zero =>
    rw [show ((0 : Nat) : Int) - 1 = -1 from rfl]
    have hend := div_end hr HVAL.out
    rw [HNA.out] at hend
    have HE := Lib.hid (HDEND.out Q hend.1 (by rw [HQL.out]; exact Nat.le_refl _) HQD.out wr (.slice (some ⟨g, 0, none⟩) da.length da.length) (.slice pr mr kr) (row_of_fresh HFR.out) (by rw [← hend.2]; exact HRR.out) HBB.out)
    clear hend
    go_wp2_with fail
    refine bodyPost_ret (v := .tuple #[.slice (some ⟨g, 0, none⟩) da.length da.length, .slice pr mr kr]) (by simp [results, Tryz.results100, go_sem]) rfl ?_
    exact HE.out
   | succ i =>
    rw [show ((i + 1 : Nat) : Int) - 1 = (i : Int) by omega]
    have hi0 : (0 : Int) ≤ (i : Int) := by omega
    have hil : (i : Int) < (da.length : Int) := by omega
    have hdal : i < da.length := by omega
    obtain ⟨ba, oa, hpa, hc0⟩ := row_elem HU.out hdal
    subst hpa
    have hbag : ba < g := by rw [← hg]; exact World.block_lt_of_cell? _ _ hc0
    have hca := (HBB.out.cell (p := ⟨ba, oa + i, none⟩) hbag).trans hc0
    obtain ⟨c, hce⟩ : ∃ c, atD da i = c := ⟨_, rfl⟩
    have hcl : c < 10000 := by rw [← hce]; exact atD_lt HDA.out i
    rw [hce] at hca
    have HSTEP := Lib.hid (div_step (out := Q) (n := B) (r := r) (i := i) hdal HQL.out HVAL.out)
    rw [hce] at HSTEP
    have hrl : (digs r).length ≤ 400000 := by
     have h1 := digs_len_lt B
     rw [HLB.out] at h1
     have := digs_len_le (Nat.lt_trans hr h1)
     omega
    have HLIT := Lib.hid (fresh_lit wr wr.heap.size 3 .i64 [(c : Int)] (Nat.le_refl _) (by simp))
    have HRRl := Lib.hid (row_keeps HRR.out (below_one2 wr (.cells #[.int .i64 (c : Int)] 3)))
    have hgl : g < wr.heap.size := by
     rcases fresh_form HFR.out with ⟨_, h2⟩ | ⟨g', c', e, _, h2, _⟩
     ·exfalso
      have := congrArg List.length h2
      rw [natI_length, HQL.out, List.length_nil] at this
      omega
     ·injection e with e1 _ _
      injection e1 with e1
      have e2 : g = g' := by injection e1
      omega
    clear hc0 hce
    go_wp2_with (at_builtin; go_must (refine wpList_append_fresh rfl _ _ 22 rfl wr.heap.size 3 i0 .i64 8 Tryz.underlying22 hi hz0 hz1 hz2 (by decide) _ [(c : Int)] rfl HLIT.out _ (natI (digs r)) rfl HRRl.out (by rw [natI_length]; simp; omega) (by simp) ?_); intro v2 w2 hfr2 hgrow2)
    have hb2 := below_grown (B := wr.heap.size) (below_one2 wr (.cells #[.int .i64 (c : Int)] 3)) HLIT.out hgrow2 (by simp)
    rcases fresh_form hfr2 with ⟨_, h2⟩ | ⟨g2, c2, hv2, hg2, _, hc2, hc2m⟩
    ·exfalso; simp at h2
    have hlen2 : (([(c : Int)] ++ natI (digs r)) : List Int).length = (c :: digs r).length := by simp [natI_length]
    rw [hlen2] at hv2
    subst hv2
    have NM := normal_loc false (some ⟨g2, 0, none⟩) c2 (c :: digs r) w2 (row_of_fresh (by simpa [natI] using hfr2)) (cons_lt hcl) (by rw [List.length_cons]; omega)
    rw [valD_cons_digs] at NM
    unfold NEndAt at NM
    obtain ⟨r1, hr1⟩ : ∃ r1, c + 10000 * r = r1 := ⟨_, rfl⟩
    rw [hr1] at NM HSTEP
    have HNM := Lib.hid NM
    have hr1l : r1 < 10000 * B := by rw [← hr1]; exact div_next hr hcl
    have HB2 := Lib.hid hb2
    clear NM hfr2 hgrow2 HLIT HRRl hlen2 hb2 hr1 hca HRR HRG hg2 hc2
    go_must (refine HNM.out.mono ?_)
    rintro e w5 ⟨b5, m5, k5, rfl, hx5, hb5⟩
    have hal5 := below_one2 w5 (.cells #[.bool b5, .slice (some ⟨g2, 0, none⟩) m5 k5] 24)
    have hr5 : Row .i64 w5 (.slice (some ⟨g2, 0, none⟩) m5 k5) (natI (digs r1)) := nat_rowAt hx5
    have HR5 := Lib.hid (row_keeps hr5 hal5)
    have hb25 : Below wr.heap.size wr (w5.alloc (.cells #[.bool b5, .slice (some ⟨g2, 0, none⟩) m5 k5] 24)) := below_then (below_then HB2.out hb5) hal5
    have HBR5 := Lib.hid hb25
    have HV5 := Lib.hid (row_keeps HV.out (show Below w.heap.size w _ from hg ▸ (HBB.out.trans (hb25.mono (by omega)))))
    obtain ⟨c0, c1, _, _⟩ := cells2 (Laid.new w5 24 [.bool b5, .slice (some ⟨g2, 0, none⟩) m5 k5])
    have hr1d : (digs r1).length ≤ 500001 := by
     have h1 := digs_len_lt B
     rw [HLB.out] at h1
     have h2 : r1 < 10000 ^ (lb + 1) := by
      rw [Nat.pow_succ]
      have := Nat.mul_le_mul_left 10000 (Nat.le_of_lt h1)
      omega
     have := digs_len_le h2
     omega
    clear hx5 hb5 hal5 hr5 hb25 HNM HB2
    go_wp2_with fail
    generalize w5.alloc (.cells #[.bool b5, .slice (some ⟨g2, 0, none⟩) m5 k5] 24) = W5 at *
    have DG := digit_any _ _ r1 B W5 HR5.out HV5.out hr1d (by rw [HLB.out]; omega) hr1l
    unfold DigEnd at DG
    have HDG := Lib.hid DG
    clear DG c0 c1
    go_must (refine HDG.out.mono ?_)
    rintro e w6 ⟨lo0, hi0', rfl, hlo0, hhi0, hhi9, hb6⟩
    obtain ⟨q, hq⟩ : ∃ q, r1 / B = q := ⟨_, rfl⟩
    rw [hq] at hlo0 hhi0 HSTEP
    have HQ := Lib.hid hq
    have HB6 := Lib.hid hb6
    clear hq hb6 HDG
    go_wp2_with fail
    go_loopw [12, 13, 14] (fun lv hv _ wr' => ∃ lo hi : Nat, lv = .int .i64 (lo : Int) ∧ hv = .int .i64 (hi : Int) ∧ lo ≤ q ∧ q ≤ hi ∧ hi ≤ 9999 ∧ Hid (Below W5.heap.size W5 wr')) (fun lv hv _ _ => (intOf hv - intOf lv).toNat)
    case atStart => exact ⟨lo0, hi0', rfl, rfl, hlo0, hhi0, hhi9, HB6⟩
    case round =>
     clear hlo0 hhi0 hhi9 HB6
     obtain ⟨lo, hi', rfl, rfl, hlo, hhi, hhi9, HBL⟩ := hrel
     have HR6 := Lib.hid (row_keeps HR5.out HBL.out)
     have HV6 := Lib.hid (row_keeps HV5.out HBL.out)
     rcases Nat.lt_or_ge lo hi' with hlt | hge
     ·obtain ⟨mid, hmid⟩ : ∃ m, (lo + hi' + 1) / 2 = m := ⟨_, rfl⟩
      have hm1 : lo < mid := by omega
      have hm2 : mid ≤ hi' := by omega
      have hti : ((lo : Int) + (hi' : Int) + 1).tdiv 2 = (mid : Int) := by rw [Int.tdiv_eq_ediv_of_nonneg (by omega)]; omega
      have SMA := small_any _ B mid wr HV6.out (by rw [HLB.out]; omega) (by omega)
      unfold REnd at SMA
      have HSMA := Lib.hid SMA
      have hbl : (digs (B * mid)).length ≤ 1000000 := by
       have h1 := digs_len_lt B
       rw [HLB.out] at h1
       have h2 : B * mid < 10000 ^ (lb + 1) := by
        rw [Nat.pow_succ]
        exact Nat.mul_lt_mul_of_lt_of_le h1 (show mid ≤ 10000 by omega) (by decide)
       have := digs_len_le h2
       omega
      have HCMP : Hid (∀ w7 v7, Below wr.heap.size wr w7 → Row .i64 w7 v7 (natI (digs (B * mid))) → Calls Tryz.prog 76 #[v7, .slice (some ⟨g2, 0, none⟩) m5 k5] w7 (CmpEnd (cmpN (B * mid) r1) w7)) := Lib.hid (fun w7 v7 h1 h2 => compared_any v7 _ (B * mid) r1 w7 h2 (row_keeps HR6.out h1) hbl (by omega))
      unfold CmpEnd at HCMP
      have HBI := Lib.hid (bisect_le (r := r1) (k := mid) hB)
      rw [HQ.out] at HBI
      obtain ⟨cc, hcc⟩ : ∃ cc, cmpN (B * mid) r1 = cc := ⟨_, rfl⟩
      rw [hcc] at HCMP HBI
      have hccb : -1 ≤ cc ∧ cc ≤ 1 := by rw [← hcc]; unfold cmpN; (repeat' split) <;> omega
      clear SMA hmid hbl hcc
      go_wp2_with fail
      go_must (refine HSMA.out.mono ?_)
      rintro e w7 ⟨v7, rfl, hr7, hb7⟩
      have HC7 := Lib.hid (HCMP.out w7 v7 hb7 hr7)
      have HB7 := Lib.hid (below_then HBL.out hb7)
      clear hr7 hb7 HSMA HCMP
      go_wp2_with fail
      go_must (refine HC7.out.mono ?_)
      rintro e w8 ⟨rfl, hb8⟩
      have HB8 := Lib.hid (below_then HB7.out hb8)
      clear hb8 HC7
      rcases Classical.em (cc ≤ 0) with hle | hle
      ·have hmq := HBI.out.1 hle
       go_wp2_with fail
       go_roundw
       case rel => exact ⟨mid, hi', rfl, rfl, hmq, hhi, hhi9, HB8⟩
       case measure => simp [intOf] <;> omega
      ·have hmq : ¬ mid ≤ q := fun h => hle (HBI.out.2 h)
       go_wp2_with fail
       go_roundw
       case rel => exact ⟨lo, mid - 1, rfl, by congr 1; omega, hlo, by omega, by omega, HB8⟩
       case measure => simp [intOf] <;> omega
     ·have hlq : lo = q := by omega
      subst hlq
      have hge' : ¬ lo < hi' := by omega
      have SMA := small_any _ B lo wr HV6.out (by rw [HLB.out]; omega) (by omega)
      unfold REnd at SMA
      have HSMA := Lib.hid SMA
      have hbr : B * lo ≤ r1 := by rw [← HQ.out]; exact Nat.mul_div_le r1 B
      have hrv : r1 - B * lo = r1 % B := by
       have := Nat.div_add_mod r1 B
       rw [HQ.out] at this
       omega
      have hbl : (digs (B * lo)).length ≤ 1000000 := by
       have h1 := digs_len_lt r1
       have := digs_len_le (Nat.lt_of_le_of_lt hbr h1)
       omega
      have HMI : Hid (∀ w7 v7, Below wr.heap.size wr w7 → Row .i64 w7 v7 (natI (digs (B * lo))) → Calls Tryz.prog 99 #[.slice (some ⟨g2, 0, none⟩) m5 k5, v7] w7 (DEndAt (fun out => valD out = valD (digs r1) - valD (digs (B * lo)) ∧ out.length = (digs r1).length ∧ ∀ c ∈ out, c < 10000) w7)) := Lib.hid (fun w7 v7 h1 h2 => minus_loc _ v7 (digs r1) (digs (B * lo)) w7 (row_keeps HR6.out h1) h2 (digs_lt _) (digs_lt _) (by omega) hbl (by rw [valD_digs, valD_digs]; exact hbr))
      rw [valD_digs, valD_digs, hrv] at HMI
      unfold DEndAt at HMI
      have HLEN1 := Lib.hid hr1d
      clear SMA hbr hrv hbl
      go_wp2_with fail
      go_must (refine HSMA.out.mono ?_)
      rintro e w7 ⟨v7, rfl, hr7, hb7⟩
      have HM7 := Lib.hid (HMI.out w7 v7 hb7 hr7)
      have HB7 := Lib.hid (below_then HBL.out hb7)
      clear hr7 hb7 HSMA HMI
      go_wp2_with fail
      go_must (refine HM7.out.mono ?_)
      rintro e w8 ⟨v8, out, rfl, hr8, ⟨ho1, ho2, ho3⟩, hb8, hloc8⟩
      obtain ⟨p8, c8, rfl, hc8, hcm8⟩ : ∃ p c, v8 = .slice p out.length c ∧ out.length ≤ c ∧ c ≤ 9223372036854775807 := by
       obtain ⟨p, c, e, h1, h2, _⟩ := hr8
       rw [natI_length] at e h1
       exact ⟨p, c, e, h1, h2⟩
      have NM := normal_loc false p8 c8 out w8 hr8 ho3 (by rw [ho2]; have := HLEN1.out; omega)
      rw [ho1] at NM
      unfold NEndAt at NM
      have HNM := Lib.hid NM
      have HB8 := Lib.hid (below_then HB7.out hb8)
      have HLOC8 : Hid (∀ j, blockOf (.slice p8 out.length c8) j → W5.heap.size ≤ j) := Lib.hid (fun j hj => Nat.le_trans HB7.out.size (hloc8 j hj))
      clear NM hr8 ho1 ho2 ho3 hb8 hloc8 HM7 hc8 hcm8
      go_wp2_with fail
      go_must (refine HNM.out.mono ?_)
      rintro e w9 ⟨b9, m9, k9, rfl, hx9, hb9⟩
      have hal9 := below_one2 w9 (.cells #[.bool b9, .slice p8 m9 k9] 24)
      have HR9 := Lib.hid (row_keeps (nat_rowAt hx9) hal9)
      have HB9 := Lib.hid (below_then (below_then HB8.out hb9) hal9)
      have HBR9 := Lib.hid (below_then HBR5.out HB9.out)
      have HFR9 := Lib.hid (fresh_keeps HFR.out HBR9.out)
      have hW5 := HBR5.out.size
      have hW9 := HB9.out.size
      obtain ⟨c0, c1, _, _⟩ := cells2 (Laid.new w9 24 [.bool b9, .slice p8 m9 k9])
      have hW89 := hb9.size
      clear hx9 hb9 hal9 HNM
      have hsz9 : (w9.alloc (.cells #[.bool b9, .slice p8 m9 k9] 24)).heap.size = w9.heap.size + 1 := by simp
      have hW8 := Nat.le_trans HB8.out.size hW89
      have hne1 : ¬ g = w9.heap.size := by omega
      have hne2 : ¬ w9.heap.size = g := by omega
      have hiQ : i < Q.length := by rw [HQL.out]; exact hdal
      have c2 := fresh_cell HFR9.out (j := i) (by rw [natI_length]; exact hiQ)
      have c3 := fresh_frozen2 HFR9.out (by rw [natI_length, HQL.out]) i
      have HSTO : Hid (Fresh g 3 .i64 ((w9.alloc (.cells #[.bool b9, .slice p8 m9 k9] 24)).setCell ⟨g, i, none⟩ (.int .i64 (lo : Int))) (.slice (some ⟨g, 0, none⟩) da.length da.length) (natI (Q.set i lo))) := Lib.hid (by
       rw [natI_setW]
       exact (fresh_store2 HFR9.out (by rw [natI_length, HQL.out]) i (lo : Int)).1)
      have HRG9 : Hid (∀ j, blockOf (.slice p8 m9 k9) j → j = g → natI (digs (r1 % B)) = []) := Lib.hid (fun j hj he => by
       exfalso
       have := HLOC8.out j (by cases p8 with | none => exact hj | some a => exact hj)
       omega)
      have HRS9 := Lib.hid (row_store (r := g) (t := i) (u := .int .i64 (lo : Int)) HR9.out HRG9.out)
      have HBG9 := Lib.hid ((HBB.out.trans (HBR9.out.mono (Nat.le_of_lt hgl))).setCell (p := ⟨g, i, none⟩) (Nat.le_refl _) (.int .i64 (lo : Int)))
      have HVN : Hid (valD (da.drop i) = valD ((Q.set i lo).drop i) * B + r1 % B) := Lib.hid HSTEP.out
      have hlt : r1 % B < B := Nat.mod_lt _ (by omega)
      have HQN := Lib.hid (set_lt HQD.out (show lo < 10000 by omega) i)
      have HQLN : Hid ((Q.set i lo).length = da.length) := Lib.hid (by rw [List.length_set]; exact HQL.out)
      clear HSTEP hiQ
      go_wp2_with fail
      go_roundg i
      case measure => omega
      case rel => exact ⟨r1 % B, Q.set i lo, p8, m9, k9, rfl, rfl, by omega, hlt, HRS9, HRG9, HQLN, HQN, HVN, HSTO, HBG9⟩
end Go.Proofs.YtepakogbbomaoaaGreatDoor
