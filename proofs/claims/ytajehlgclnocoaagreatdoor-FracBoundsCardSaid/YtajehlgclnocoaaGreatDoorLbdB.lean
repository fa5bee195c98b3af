/-
 The law FracBounds. (tools/genLbd.py makes this text.)
-/
import Derived.Test.YtajehlgclnocoaaGreatDoorLfbB
import Derived.Test.YtajehlgclnocoaaGreatDoorNboB
import Derived.Test.YtajehlgclnocoaaGreatDoorRbdB
import Derived.Test.YtajehlgclnocoaaGreatDoorNmQB
namespace Go.Proofs.YtajehlgclnocoaaGreatDoor
open Go.RowKit Go.Shelf
set_option linter.unusedVariables false
set_option maxRecDepth 100000
def aroundZ (n m : Int) : Int := if n.tmod m < 0 then n.tmod m + m else n.tmod m
theorem around_range {n m : Int} (hm : 0 < m) : 0 ≤ aroundZ n m ∧ aroundZ n m < m := by
 have h1 := Int.lt_tmod_of_pos n hm
 have h2 := Int.tmod_lt_of_pos n hm
 unfold aroundZ
 split <;> omega
set_option maxHeartbeats 4000000 in
theorem lAround_any (n m : Int) (w : World) (hn : -9223372036854775808 ≤ n ∧ n ≤ 9223372036854775807) (hm : 0 < m) (hm2 : m ≤ 1000) :
  Calls Tryz.prog 33 #[.int .i64 n, .int .i64 m] w fun e w' => e = .returned (.int .i64 (aroundZ n m)) ∧ w' = w := by
 obtain ⟨k, hk⟩ : ∃ k, n.tmod m = k := ⟨_, rfl⟩
 have h1 := Int.lt_tmod_of_pos n hm
 have h2 := Int.tmod_lt_of_pos n hm
 rw [hk] at h1 h2
 have hm0 : ¬ m = 0 := by omega
 obtain ⟨hn1, hn2⟩ := hn
 unfold aroundZ
 rw [hk]
 rcases Int.lt_or_le k 0 with h | h
 ·have hw2 : IntKind.i64.wrap (k + m) = k + m := IntWalk.i64_in _ (by omega)
  rw [if_pos h]
  go_enter Tryz.func33, Tryz.ntmps33
  go_wp2_with fail
  go_ret
  exact ⟨rfl, rfl⟩
 ·have h' : ¬ k < 0 := by omega
  rw [if_neg h']
  go_enter Tryz.func33, Tryz.ntmps33
  go_wp2_with fail
  go_ret
  exact ⟨rfl, rfl⟩
theorem top_fit {k : Nat} (hk : k = 16384) {E a : Int} (hE : E = ((2 ^ k : Nat) : Int)) (h0 : 0 ≤ a) (h1 : a < 40) : ¬ big (E - (1 + a)) := by
 intro hb
 have h2 := (big_pow (n := E - (1 + a)) (k := k) (m := 512) rfl (by rw [hk])).1 hb
 have h3 : 2 ^ 6 ≤ 2 ^ k := Nat.pow_le_pow_right (by decide) (by omega)
 generalize 2 ^ k = T at *
 omega
theorem pow_fit {K : Nat} (h : K ≤ 16000) {E : Int} (hE : E = ((2 ^ K : Nat) : Int)) : ¬ big E := by
 have h1 : Lo K E := by unfold Lo; rw [hE, Int.natAbs_natCast]; exact Nat.le_refl _
 exact (h1.small h).notBig
theorem pow_lo {K : Nat} {E : Int} (hE : E = ((2 ^ K : Nat) : Int)) : Lo K E := by unfold Lo; rw [hE, Int.natAbs_natCast]; exact Nat.le_refl _
theorem num_nb {z : Int} (h : ¬ big z) : ∀ (X : World) (u : Value), NAt X u z → Calls Tryz.prog 36 #[u] X (VEnd (KI z) X) := fun X u hu => (lNumber_any u z X hu (nb_both h)).mono (fun _ _ => v_i)
theorem fmake_nb {a b : Int} (h1 : ¬ big a) (h2 : ¬ big b) : ∀ (X : World) (u x : Value), IAt X u a → IAt X x b → Calls Tryz.prog 35 #[u, x] X (VEnd (KTF (rMake a b)) X) := fun X u x h3 h4 => (make_any u x a b X h3 h4 (nb_words h1) (nb_words h2)).mono (fun _ _ h => v_tf (make_end h))
theorem rmake_nbc {a b : Int} (h1 : ¬ big a) (h2 : ¬ big b) : ∀ (X : World) (u x : Value), NAt X u a → NAt X x b → Calls Tryz.prog 38 #[u, x] X (VEnd (KTR (rMake a b)) X) := fun X u x h3 h4 => rMake_any u x a b X h3 h4 (by have := nb_digs h1; omega) (by have := nb_digs h2; omega)
theorem int_fit {n : Int} (h : -9223372036854775808 ≤ n ∧ n ≤ 9223372036854775807) : ¬ big n := ((lo_int h).small (by decide)).notBig
set_option maxHeartbeats 32000000 in
theorem walk_FracBounds (n m : Int) (neg : Bool) (w : World) (hn : -9223372036854775808 ≤ n ∧ n ≤ 9223372036854775807) (hm : -9223372036854775808 ≤ m ∧ m ≤ 9223372036854775807) :
  Calls Tryz.prog 4 #[.int .i64 n, .int .i64 m, .bool neg] w fun e w' => e = .returned (.bool true) ∧ Below w.heap.size w w' := by
 have AR1 : Hid (∀ X : World, Calls Tryz.prog 33 #[.int .i64 n, .int .i64 40] X (VEnd (KX (.int .i64 (aroundZ n 40))) X)) := Lib.hid (fun X => (lAround_any n 40 X hn (by decide) (by decide)).mono (fun _ _ ⟨g1, g2⟩ => ⟨_, g1, rfl, g2 ▸ Below.refl _ _⟩))
 have AR2 : Hid (∀ X : World, Calls Tryz.prog 33 #[.int .i64 m, .int .i64 80] X (VEnd (KX (.int .i64 (aroundZ m 80))) X)) := Lib.hid (fun X => (lAround_any m 80 X hm (by decide) (by decide)).mono (fun _ _ ⟨g1, g2⟩ => ⟨_, g1, rfl, g2 ▸ Below.refl _ _⟩))
 have ra := around_range (n := n) (m := 40) (by decide)
 have rb := around_range (n := m) (m := 80) (by decide)
 generalize aroundZ n 40 = a0 at *
 generalize aroundZ m 80 = b0 at *
 obtain ⟨K, hK⟩ : ∃ K : Nat, K = 16384 := ⟨_, rfl⟩
 obtain ⟨K2, hK2⟩ : ∃ K : Nat, K = 8190 := ⟨_, rfl⟩
 obtain ⟨E, hE⟩ : ∃ E : Int, E = ((2 ^ K : Nat) : Int) := ⟨_, rfl⟩
 obtain ⟨F, hF⟩ : ∃ E : Int, E = ((2 ^ K2 : Nat) : Int) := ⟨_, rfl⟩
 have hKi : ((K : Nat) : Int) = 16384 := by omega
 have hKi2 : ((K2 : Nat) : Int) = 8190 := by omega
 have PW1 : Hid (∀ X : World, Calls Tryz.prog 31 #[.int .i64 16384] X (VEnd (KN E) X)) := Lib.hid (fun X => by
  have := power_any K X (by omega)
  rw [hKi, ← hE] at this
  exact this.mono (fun _ _ => v_n))
 have PW2 : Hid (∀ X : World, Calls Tryz.prog 31 #[.int .i64 8190] X (VEnd (KN F) X)) := Lib.hid (fun X => by
  have := power_any K2 X (by omega)
  rw [hKi2, ← hF] at this
  exact this.mono (fun _ _ => v_n))
 have dE : (digs E.natAbs).length ≤ 500000 := by have := lo_dg2 (pow_lo hE); omega
 have nF : ¬ big F := pow_fit (by omega) hF
 have nT : ¬ big (E - (1 + a0)) := top_fit hK hE ra.1 ra.2
 have OF : Hid (∀ (X : World) (z : Int), -9223372036854775808 ≤ z ∧ z ≤ 9223372036854775807 → Calls Tryz.prog 32 #[.int .i64 z] X (VEnd (KN z) X)) := Lib.hid (fun X z h => (of_any z X h).mono (fun _ _ => v_n))
 obtain ⟨a1, ha1⟩ : ∃ a, a = 1 + a0 := ⟨_, rfl⟩
 obtain ⟨g0, hg0⟩ : ∃ g, g = b0 - 40 := ⟨_, rfl⟩
 have hw1 : IntKind.i64.wrap (1 + a0) = a1 := by rw [ha1]; exact IntWalk.i64_in _ (by omega)
 have hw2 : IntKind.i64.wrap (b0 - 40) = g0 := by rw [hg0]; exact IntWalk.i64_in _ (by omega)
 rw [← ha1] at nT
 have OFA := Lib.hid (fun X => OF.out X a1 (by omega))
 have OF1 := Lib.hid (fun X => OF.out X 1 (by decide))
 have OF3 := Lib.hid (fun X => OF.out X 3 (by decide))
 have SU : Hid (∀ (X : World) (u x : Value), NAt X u E → NAt X x a1 → Calls Tryz.prog 30 #[u, x] X (VEnd (KN (E - a1)) X)) := Lib.hid (fun X u x h1 h2 => (sub_any u x E a1 X h1 h2 dE (by have := nb_digs (int_fit (n := a1) (by omega)); omega)).mono (fun _ _ => v_n))
 have NG : Hid (∀ (X : World) (u : Value), NAt X u (E - a1) → Calls Tryz.prog 34 #[u] X (VEnd (KN (-(E - a1))) X)) := Lib.hid (fun X u h => (neg_any u _ X h (by have := nb_digs nT; omega)).mono (fun _ _ => v_n))
 have FR1 : Hid (∀ X : World, Calls Tryz.prog 37 #[.int .i64 1] X (VEnd (KI 1) X)) := Lib.hid (fun X => (wFrom_any 1 X (by decide)).mono (fun _ _ => v_i))
 have FR3 : Hid (∀ X : World, Calls Tryz.prog 37 #[.int .i64 3] X (VEnd (KI 3) X)) := Lib.hid (fun X => (wFrom_any 3 X (by decide)).mono (fun _ _ => v_i))
 have rg : -9223372036854775808 ≤ g0 ∧ g0 ≤ 9223372036854775807 := by omega
 have WHO : Hid (∀ X : World, Calls Tryz.prog 39 #[.int .i64 g0] X (VEnd (KF g0 1) X)) := Lib.hid (fun X => (lWhole_any g0 X rg).mono (fun _ _ => v_f))
 have ROF : Hid (∀ X : World, Calls Tryz.prog 18 #[.int .i64 g0] X (VEnd (KR g0 1) X)) := Lib.hid (fun X => (rOf_any g0 X rg).mono (fun _ _ => v_r))
 have n1 : ¬ big 1 := int_fit (by decide)
 have n3 : ¬ big 3 := int_fit (by decide)
 have nK := nb_int (int_fit rg)
 -- what follows from the number at the top, whatever its sign
 have ALL : Hid (∀ Z : Int, ¬ big Z → ∃ R1 R3 RA RD : Int × Int × Int, (∀ (X : World) (u : Value), NAt X u Z → Calls Tryz.prog 36 #[u] X (VEnd (KI Z) X)) ∧ (∀ (X : World) (u x : Value), IAt X u Z → IAt X x 1 → Calls Tryz.prog 35 #[u, x] X (VEnd (KTF R1) X)) ∧ (∀ (X : World) (u x : Value), NAt X u Z → NAt X x 1 → Calls Tryz.prog 38 #[u, x] X (VEnd (KTR R1) X)) ∧ (∀ (X : World) (u x : Value), IAt X u 3 → IAt X x Z → Calls Tryz.prog 35 #[u, x] X (VEnd (KTF R3) X)) ∧ (∀ (X : World) (u x : Value), NAt X u 3 → NAt X x Z → Calls Tryz.prog 38 #[u, x] X (VEnd (KTR R3) X)) ∧ SameC R1.2.1 R1.2.2 ∧ SameC R3.2.1 R3.2.2 ∧ OpC 20 21 R1.2.1 R1.2.2 g0 1 RA ∧ SameC RA.2.1 RA.2.2 ∧ OpC 26 27 R3.2.1 R3.2.2 g0 1 RD ∧ SameC RD.2.1 RD.2.2) := Lib.hid (fun Z hZ => by
  have h1 := rmake_nb hZ n1
  have h3 := rmake_nb n3 hZ
  obtain ⟨RA, c1, _, s1⟩ := p_add h1 nK
  obtain ⟨RD, c2, _, s2⟩ := p_div h3 nK
  exact ⟨rMake Z 1, rMake 3 Z, RA, RD, num_nb hZ, fmake_nb hZ n1, rmake_nbc hZ n1, fmake_nb n3 hZ, rmake_nbc n3 hZ, same_nb h1, same_nb h3, c1, s1, c2, s2⟩)
 have HH : Hid (∃ RH RM RT : Int × Int × Int, (∀ (X : World) (u x : Value), NAt X u F → NAt X x 3 → Calls Tryz.prog 38 #[u, x] X (VEnd (KTR RH) X)) ∧ (∀ (X : World) (u : Value), RFAt X u RH.2.1 RH.2.2 → Calls Tryz.prog 19 #[u] X (VEnd (KF RH.2.1 RH.2.2) X)) ∧ OpC 24 25 RH.2.1 RH.2.2 RH.2.1 RH.2.2 RM ∧ SameC RM.2.1 RM.2.2 ∧ OpC 24 25 RM.2.1 RM.2.2 g0 1 RT ∧ SameC RT.2.1 RT.2.2) := Lib.hid (by
  have h1 := rmake_nb nF n3
  obtain ⟨RM, c1, n2, s1⟩ := p_mul h1 h1
  obtain ⟨RT, c2, _, s2⟩ := p_mul n2 nK
  exact ⟨rMake F 3, RM, RT, rmake_nbc nF n3, of_nb h1, c1, s1, c2, s2⟩)
 obtain ⟨RH, RM, RT, hh1, hh2, hh3, hh4, hh5, hh6⟩ := HH.out
 have HF := Lib.hid hh1
 have OH := Lib.hid hh2
 have MH := Lib.hid hh3
 have SM := Lib.hid hh4
 have MT := Lib.hid hh5
 have ST := Lib.hid hh6
 have NT := Lib.hid nT
 have NTN : Hid (¬ big (-(E - a1))) := Lib.hid (big_le (by rw [Int.natAbs_neg]; exact Nat.le_refl _) nT)
 have LV : Hid (∀ X : World, Calls Tryz.prog 29 #[] X (VEnd (KX (.bool true)) X)) := Lib.hid (fun X => lives4_any X)
 have HB : Hid (Below w.heap.size w w) := Lib.hid (Below.refl _ _)
 clear HH hh1 hh2 hh3 hh4 hh5 hh6 hn hm ra rb hK hK2 hE hF hKi hKi2 dE nF nT OF rg n1 n3 nK hg0 ha1
 generalize E - a1 = T0 at *
 go_enter Tryz.func4, Tryz.ntmps4
 go_wp2_with fail
 have C := PW1.out w
 unfold VEnd at C
 have HC := Lib.hid C
 clear C
 go_must (refine HC.out.mono ?_)
 rintro e w21 ⟨v5, rfl, hx5, hb5⟩
 obtain ⟨sre, are, mre, cre, rfl⟩ := nat_shape hx5
 clear HC
 have U := Lib.hid (below_then HB.out hb5)
 clear HB
 have HB := U
 clear U
 have Ge := Lib.hid hx5
 clear hx5 hb5
 go_wp2_with fail
 have C := AR1.out w21
 unfold VEnd at C
 have HC := Lib.hid C
 clear C
 go_must (refine HC.out.mono ?_)
 rintro e w22 ⟨v5, rfl, hv5, hb5⟩
 obtain rfl := hv5
 clear HC
 have U := Lib.hid (below_then HB.out hb5)
 clear HB
 have HB := U
 clear U
 have U := Lib.hid (nat_keeps Ge.out hb5)
 clear Ge
 have Ge := U
 clear U
 clear hb5
 go_wp2_with fail
 have C := OFA.out w22
 unfold VEnd at C
 have HC := Lib.hid C
 clear C
 go_must (refine HC.out.mono ?_)
 rintro e w23 ⟨v5, rfl, hx5, hb5⟩
 obtain ⟨srf, arf, mrf, crf, rfl⟩ := nat_shape hx5
 clear HC
 have U := Lib.hid (below_then HB.out hb5)
 clear HB
 have HB := U
 clear U
 have U := Lib.hid (nat_keeps Ge.out hb5)
 clear Ge
 have Ge := U
 clear U
 have Gf := Lib.hid hx5
 clear hx5 hb5
 go_wp2_with fail
 have C := SU.out w23 _ _ Ge.out Gf.out
 unfold VEnd at C
 have HC := Lib.hid C
 clear C
 go_must (refine HC.out.mono ?_)
 rintro e w24 ⟨v5, rfl, hx5, hb5⟩
 obtain ⟨srg, arg, mrg, crg, rfl⟩ := nat_shape hx5
 clear HC
 have HPg := Lib.hid (Nat.le_trans HB.out.size hb5.size)
 have hbb := below_then hb5 (below_one w24 (.cells #[.bool srg, .slice arg mrg crg] 24))
 have U := Lib.hid (below_then HB.out hbb)
 clear HB
 have HB := U
 clear U
 have U := Lib.hid (nat_keeps Ge.out hbb)
 clear Ge
 have Ge := U
 clear U
 have U := Lib.hid (nat_keeps Gf.out hbb)
 clear Gf
 have Gf := U
 clear U
 have Tg := Lib.hid (NBox.new hx5)
 clear hx5 hb5 hbb
 clear Ge Gf SU PW1 AR1 OFA
 cases neg
 case' false =>
  obtain ⟨R1, R3, RA, RD, q1, q2, q3, q4, q5, q6, q7, q8, q9, q10, q11⟩ := ALL.out _ NT.out
  go_upto_region 4 with (fail)
  have HSZY1 := Lib.hid (size_alloc1 w24 (.cells #[.bool srg, .slice arg mrg crg] 24))
  generalize w24.alloc (.cells #[.bool srg, .slice arg mrg crg] 24) = Y1 at *
  generalize w24.heap.size = tg at *
  obtain ⟨Z, hZ⟩ : ∃ Z, Z = T0 := ⟨_, rfl⟩
  rw [← hZ] at q1 q2 q3 q4 q5 Tg
  clear hZ NG
  have Q1 := Lib.hid q1
  have Q2 := Lib.hid q2
  have Q3 := Lib.hid q3
  have Q4 := Lib.hid q4
  have Q5 := Lib.hid q5
  have S1 := Lib.hid q6
  have S3 := Lib.hid q7
  have QA := Lib.hid q8
  have SA := Lib.hid q9
  have QD := Lib.hid q10
  have SD := Lib.hid q11
  clear q1 q2 q3 q4 q5 q6 q7 q8 q9 q10 q11 ALL NT NTN
 case' true =>
  obtain ⟨R1, R3, RA, RD, q1, q2, q3, q4, q5, q6, q7, q8, q9, q10, q11⟩ := ALL.out _ NTN.out
  obtain ⟨sg_4, ag_4, mg_4, cg_4, ⟨cg_40, cg_41⟩, _, hg_4, _⟩ := Tg.out.open
  go_wp2_with fail
  have HSZY1 := Lib.hid (size_alloc1 w24 (.cells #[.bool srg, .slice arg mrg crg] 24))
  generalize w24.alloc (.cells #[.bool srg, .slice arg mrg crg] 24) = Y1 at *
  generalize w24.heap.size = tg at *
  have C := NG.out Y1 _ hg_4
  unfold VEnd at C
  have HC := Lib.hid C
  clear C
  clear cg_40 cg_41 hg_4
  go_must (refine HC.out.mono ?_)
  rintro e w30 ⟨v5, rfl, hx5, hb5⟩
  obtain ⟨srn, arn, mrn, crn, rfl⟩ := nat_shape hx5
  clear HC
  have U := Lib.hid (Tg.out.below hb5)
  clear Tg
  have Tg := U
  clear U
  have U := Lib.hid (below_then HB.out hb5)
  clear HB
  have HB := U
  clear U
  obtain ⟨so, ao, mo, co, lo, _⟩ := id Tg.out
  obtain ⟨co0, co1, co2, co3⟩ := cells2 lo
  clear lo
  go_upto_region 4 with (fail)
  have U := Lib.hid (below_set2 (p := tg) (u := .bool srn) (v := .slice arn mrn crn) HB.out HPg.out)
  clear HB
  have HB := U
  clear U
  have U := Lib.hid (Tg.out.store hx5)
  clear Tg
  have Tg := U
  clear U hx5 hb5 co0 co1 co2 co3 NG
  generalize (w30.setCell ⟨tg, 0, none⟩ (.bool srn)).setCell ⟨tg, 1, none⟩ (.slice arn mrn crn) = Y1 at *
  obtain ⟨Z, hZ⟩ : ∃ Z, Z = -T0 := ⟨_, rfl⟩
  rw [← hZ] at q1 q2 q3 q4 q5 Tg
  clear hZ
  have Q1 := Lib.hid q1
  have Q2 := Lib.hid q2
  have Q3 := Lib.hid q3
  have Q4 := Lib.hid q4
  have Q5 := Lib.hid q5
  have S1 := Lib.hid q6
  have S3 := Lib.hid q7
  have QA := Lib.hid q8
  have SA := Lib.hid q9
  have QD := Lib.hid q10
  have SD := Lib.hid q11
  clear q1 q2 q3 q4 q5 q6 q7 q8 q9 q10 q11 ALL NT NTN
 all_goals
  obtain ⟨sg_40, ag_40, mg_40, cg_40, ⟨cg_400, cg_401⟩, _, hg_40, _⟩ := Tg.out.open
  go_wp2_with fail
  have C := Q1.out Y1 _ hg_40
  unfold VEnd at C
  have HC := Lib.hid C
  clear C
  clear cg_400 cg_401 hg_40
  go_must (refine HC.out.mono ?_)
  rintro e w61 ⟨v5, rfl, hx5, hb5⟩
  obtain ⟨sre, are, mre, cre, rfl⟩ := iat_shape hx5
  clear HC
  have U := Lib.hid (Tg.out.below hb5)
  clear Tg
  have Tg := U
  clear U
  have U := Lib.hid (below_then HB.out hb5)
  clear HB
  have HB := U
  clear U
  have Ge := Lib.hid hx5
  clear hx5 hb5
  go_wp2_with fail
  have C := FR1.out w61
  unfold VEnd at C
  have HC := Lib.hid C
  clear C
  go_must (refine HC.out.mono ?_)
  rintro e w62 ⟨v5, rfl, hx5, hb5⟩
  obtain ⟨srf, arf, mrf, crf, rfl⟩ := iat_shape hx5
  clear HC
  have U := Lib.hid (Tg.out.below hb5)
  clear Tg
  have Tg := U
  clear U
  have U := Lib.hid (below_then HB.out hb5)
  clear HB
  have HB := U
  clear U
  have U := Lib.hid (iat_keeps Ge.out hb5)
  clear Ge
  have Ge := U
  clear U
  have Gf := Lib.hid hx5
  clear hx5 hb5
  go_wp2_with fail
  have C := Q2.out w62 _ _ Ge.out Gf.out
  unfold VEnd at C
  have HC := Lib.hid C
  clear C
  go_must (refine HC.out.mono ?_)
  rintro e w63 ⟨v5, rfl, ⟨y5, rfl, hx5⟩, hb5⟩
  obtain ⟨sra, tra, ara, dra, mra, ira, cra, jra, rfl⟩ := fat_shape hx5
  clear HC
  have hbb := below_then hb5 (below_one w63 (.cells #[.bool sra, .slice ara mra cra, .bool tra, .slice dra ira jra] 35))
  have U := Lib.hid (Tg.out.below hbb)
  clear Tg
  have Tg := U
  clear U
  have U := Lib.hid (below_then HB.out hbb)
  clear HB
  have HB := U
  clear U
  have U := Lib.hid (iat_keeps Ge.out hbb)
  clear Ge
  have Ge := U
  clear U
  have U := Lib.hid (iat_keeps Gf.out hbb)
  clear Gf
  have Gf := U
  clear U
  have Ta := Lib.hid (FBox.new hx5)
  clear hx5 hb5 hbb
  clear Ge Gf Q2 FR1
  go_upto_region 5 with (fail)
  have HSZZ1 := Lib.hid (size_alloc1 w63 (.cells #[.bool sra, .slice ara mra cra, .bool tra, .slice dra ira jra] 35))
  generalize w63.alloc (.cells #[.bool sra, .slice ara mra cra, .bool tra, .slice dra ira jra] 35) = Z1 at *
  generalize w63.heap.size = ta at *
  obtain ⟨s7, a7, m7, c7, lg, hg⟩ := id Tg.out
  have Lg := Lib.hid lg
  have Gg := Lib.hid hg
  clear lg hg
  have LD : Hid (∀ X : World, Below Z1.heap.size Z1 X → X.cell? ⟨tg, 0, none⟩ = some (.bool s7) ∧ X.cell? ⟨tg, 1, none⟩ = some (.slice a7 m7 c7)) := Lib.hid (fun X h => by
   obtain ⟨f0, f1, _, _⟩ := cells2 (Lg.out.below h)
   exact ⟨f0, f1⟩)
  refine regLB5 (z53 := 1) (R := R1) (fun _ _ d _ _ h => by cases d <;> exact h) LD (Lib.hid (fun X h => OF1.out X)) (Lib.hid (fun X x0 h k0 => Q3.out X _ _ (nat_keeps Gg.out h) k0)) ?_
  intro Z2 z0 z1 z2 sv tv av dv mv iv cv jv tb hB L U
  clear LD Lg Gg
  have U := Lib.hid (Tg.out.below hB.out)
  clear Tg
  have Tg := U
  clear U
  have U := Lib.hid (Ta.out.below hB.out)
  clear Ta
  have Ta := U
  clear U
  have U := Lib.hid (below_then HB.out hB.out)
  clear HB
  have HB := U
  clear U
  have Tb := U
  clear U hB L
  go_upto_region 6 with (fail)
  obtain ⟨s7, a7, m7, c7, lg, hg⟩ := id Tg.out
  have Lg := Lib.hid lg
  have Gg := Lib.hid hg
  clear lg hg
  have LD : Hid (∀ X : World, Below Z2.heap.size Z2 X → X.cell? ⟨tg, 0, none⟩ = some (.bool s7) ∧ X.cell? ⟨tg, 1, none⟩ = some (.slice a7 m7 c7)) := Lib.hid (fun X h => by
   obtain ⟨f0, f1, _, _⟩ := cells2 (Lg.out.below h)
   exact ⟨f0, f1⟩)
  refine regLB6 (z58 := 3) (z60 := Z) (R := R3) (fun _ _ d _ _ h => by cases d <;> exact h) LD (Lib.hid (fun X h => FR3.out X)) (Lib.hid (fun X h => Q1.out X _ (nat_keeps Gg.out h))) (Lib.hid (fun X x0 x1 h k0 k1 => Q4.out X _ _ k0 k1)) ?_
  intro Z3 z0 z1 z2 z3 sv tv av dv mv iv cv jv tc hB L U
  clear LD Lg Gg
  have U := Lib.hid (Tg.out.below hB.out)
  clear Tg
  have Tg := U
  clear U
  have U := Lib.hid (Ta.out.below hB.out)
  clear Ta
  have Ta := U
  clear U
  have U := Lib.hid (Tb.out.below hB.out)
  clear Tb
  have Tb := U
  clear U
  have U := Lib.hid (below_then HB.out hB.out)
  clear HB
  have HB := U
  clear U
  have Tc := U
  clear U hB L
  go_upto_region 7 with (fail)
  obtain ⟨s7, a7, m7, c7, lg, hg⟩ := id Tg.out
  have Lg := Lib.hid lg
  have Gg := Lib.hid hg
  clear lg hg
  have LD : Hid (∀ X : World, Below Z3.heap.size Z3 X → X.cell? ⟨tg, 0, none⟩ = some (.bool s7) ∧ X.cell? ⟨tg, 1, none⟩ = some (.slice a7 m7 c7)) := Lib.hid (fun X h => by
   obtain ⟨f0, f1, _, _⟩ := cells2 (Lg.out.below h)
   exact ⟨f0, f1⟩)
  refine regLB7 (z65 := 3) (R := R3) (fun _ _ d _ _ h => by cases d <;> exact h) LD (Lib.hid (fun X h => OF3.out X)) (Lib.hid (fun X x0 h k0 => Q5.out X _ _ k0 (nat_keeps Gg.out h))) ?_
  intro Z4 z0 z1 z2 sv tv av dv mv iv cv jv td hB L U
  clear LD Lg Gg
  have U := Lib.hid (Tg.out.below hB.out)
  clear Tg
  have Tg := U
  clear U
  have U := Lib.hid (Ta.out.below hB.out)
  clear Ta
  have Ta := U
  clear U
  have U := Lib.hid (Tb.out.below hB.out)
  clear Tb
  have Tb := U
  clear U
  have U := Lib.hid (Tc.out.below hB.out)
  clear Tc
  have Tc := U
  clear U
  have U := Lib.hid (below_then HB.out hB.out)
  clear HB
  have HB := U
  clear U
  have Td := U
  clear U hB L
  clear Tg
  clear Q1 Q3 Q4 Q5
  obtain ⟨sa_43, ta_43, aa_43, da_43, ma_43, ia_43, ca_43, ja_43, ⟨ca_430, ca_431, ca_432, ca_433⟩, _, ha_43⟩ := Ta.out.open
  obtain ⟨sb_43, tb_43, ab_43, db_43, mb_43, ib_43, cb_43, jb_43, ⟨cb_430, cb_431, cb_432, cb_433⟩, _, hb_43⟩ := Tb.out.open
  go_wp2_with fail
  have C := S1.out Z4 _ _ ha_43 hb_43
  unfold VEnd at C
  have HC := Lib.hid C
  clear C
  clear ca_430 ca_431 ca_432 ca_433 ha_43
  clear cb_430 cb_431 cb_432 cb_433 hb_43
  go_must (refine HC.out.mono ?_)
  rintro e w64 ⟨v5, rfl, hv5, hb5⟩
  obtain rfl := hv5
  clear HC
  have U := Lib.hid (Ta.out.below hb5)
  clear Ta
  have Ta := U
  clear U
  have U := Lib.hid (Tb.out.below hb5)
  clear Tb
  have Tb := U
  clear U
  have U := Lib.hid (Tc.out.below hb5)
  clear Tc
  have Tc := U
  clear U
  have U := Lib.hid (Td.out.below hb5)
  clear Td
  have Td := U
  clear U
  have U := Lib.hid (below_then HB.out hb5)
  clear HB
  have HB := U
  clear U
  clear hb5
  obtain ⟨sc_44, tc_44, ac_44, dc_44, mc_44, ic_44, cc_44, jc_44, ⟨cc_440, cc_441, cc_442, cc_443⟩, _, hc_44⟩ := Tc.out.open
  obtain ⟨sd_44, td_44, ad_44, dd_44, md_44, id_44, cd_44, jd_44, ⟨cd_440, cd_441, cd_442, cd_443⟩, _, hd_44⟩ := Td.out.open
  go_wp2_with fail
  have C := S3.out w64 _ _ hc_44 hd_44
  unfold VEnd at C
  have HC := Lib.hid C
  clear C
  clear cc_440 cc_441 cc_442 cc_443 hc_44
  clear cd_440 cd_441 cd_442 cd_443 hd_44
  go_must (refine HC.out.mono ?_)
  rintro e w65 ⟨v5, rfl, hv5, hb5⟩
  obtain rfl := hv5
  clear HC
  have U := Lib.hid (Ta.out.below hb5)
  clear Ta
  have Ta := U
  clear U
  have U := Lib.hid (Tb.out.below hb5)
  clear Tb
  have Tb := U
  clear U
  have U := Lib.hid (Tc.out.below hb5)
  clear Tc
  have Tc := U
  clear U
  have U := Lib.hid (Td.out.below hb5)
  clear Td
  have Td := U
  clear U
  have U := Lib.hid (below_then HB.out hb5)
  clear HB
  have HB := U
  clear U
  clear hb5
  clear S1 S3
  go_wp2_with fail
  have C := AR2.out w65
  unfold VEnd at C
  have HC := Lib.hid C
  clear C
  go_must (refine HC.out.mono ?_)
  rintro e w66 ⟨v5, rfl, hv5, hb5⟩
  obtain rfl := hv5
  clear HC
  have U := Lib.hid (Ta.out.below hb5)
  clear Ta
  have Ta := U
  clear U
  have U := Lib.hid (Tb.out.below hb5)
  clear Tb
  have Tb := U
  clear U
  have U := Lib.hid (Tc.out.below hb5)
  clear Tc
  have Tc := U
  clear U
  have U := Lib.hid (Td.out.below hb5)
  clear Td
  have Td := U
  clear U
  have U := Lib.hid (below_then HB.out hb5)
  clear HB
  have HB := U
  clear U
  clear hb5
  clear AR2
  go_upto_region 11 with (fail)
  obtain ⟨s8, s8x, a8, a8x, m8, m8x, c8, c8x, la, ha⟩ := id Ta.out
  have La := Lib.hid la
  have Ga := Lib.hid ha
  clear la ha
  have LD : Hid (∀ X : World, Below w66.heap.size w66 X → X.cell? ⟨ta, 0, none⟩ = some (.bool s8) ∧ X.cell? ⟨ta, 1, none⟩ = some (.slice a8 m8 c8) ∧ X.cell? ⟨ta, 2, none⟩ = some (.bool s8x) ∧ X.cell? ⟨ta, 3, none⟩ = some (.slice a8x m8x c8x)) := Lib.hid (fun X h => by
   obtain ⟨⟨f0, f1, f2, f3⟩, _⟩ := cellsF (La.out.below h)
   exact ⟨f0, f1, f2, f3⟩)
  refine regLB11 (n16 := g0) (p96 := g0) (q96 := 1) (R := RA) (fun _ _ d _ _ h => by cases d <;> exact h) LD (Lib.hid (fun X h => WHO.out X)) (Lib.hid (fun X x0 h k0 => QA.out.1 X _ _ (fat_keeps Ga.out h) k0)) ?_
  intro Z5 z0 z1 z2 sv tv av dv mv iv cv jv tp hB L U
  clear LD La Ga
  have U := Lib.hid (Ta.out.below hB.out)
  clear Ta
  have Ta := U
  clear U
  have U := Lib.hid (Tb.out.below hB.out)
  clear Tb
  have Tb := U
  clear U
  have U := Lib.hid (Tc.out.below hB.out)
  clear Tc
  have Tc := U
  clear U
  have U := Lib.hid (Td.out.below hB.out)
  clear Td
  have Td := U
  clear U
  have U := Lib.hid (below_then HB.out hB.out)
  clear HB
  have HB := U
  clear U
  have Tp := U
  clear U hB L
  go_upto_region 12 with (fail)
  obtain ⟨s10, s10x, a10, a10x, m10, m10x, c10, c10x, lb, hb⟩ := id Tb.out
  have Lb := Lib.hid lb
  have Gb := Lib.hid hb
  clear lb hb
  have LD : Hid (∀ X : World, Below Z5.heap.size Z5 X → X.cell? ⟨tb, 0, none⟩ = some (.bool s10) ∧ X.cell? ⟨tb, 1, none⟩ = some (.slice a10 m10 c10) ∧ X.cell? ⟨tb, 2, none⟩ = some (.bool s10x) ∧ X.cell? ⟨tb, 3, none⟩ = some (.slice a10x m10x c10x)) := Lib.hid (fun X h => by
   obtain ⟨⟨f0, f1, f2, f3⟩, _⟩ := cellsF (Lb.out.below h)
   exact ⟨f0, f1, f2, f3⟩)
  refine regLB12 (n16 := g0) (p103 := g0) (q103 := 1) (R := RA) (fun _ _ d _ _ h => by cases d <;> exact h) LD (Lib.hid (fun X h => ROF.out X)) (Lib.hid (fun X x0 h k0 => QA.out.2 X _ _ (rf_keeps Gb.out h) k0)) ?_
  intro Z6 z0 z1 z2 sv tv av dv mv iv cv jv tq hB L U
  clear LD Lb Gb
  have U := Lib.hid (Ta.out.below hB.out)
  clear Ta
  have Ta := U
  clear U
  have U := Lib.hid (Tb.out.below hB.out)
  clear Tb
  have Tb := U
  clear U
  have U := Lib.hid (Tc.out.below hB.out)
  clear Tc
  have Tc := U
  clear U
  have U := Lib.hid (Td.out.below hB.out)
  clear Td
  have Td := U
  clear U
  have U := Lib.hid (Tp.out.below hB.out)
  clear Tp
  have Tp := U
  clear U
  have U := Lib.hid (below_then HB.out hB.out)
  clear HB
  have HB := U
  clear U
  have Tq := U
  clear U hB L
  clear Ta
  clear Tb
  clear QA
  go_wp2_with fail
  have C := PW2.out Z6
  unfold VEnd at C
  have HC := Lib.hid C
  clear C
  go_must (refine HC.out.mono ?_)
  rintro e w67 ⟨v5, rfl, hx5, hb5⟩
  obtain ⟨sre, are, mre, cre, rfl⟩ := nat_shape hx5
  clear HC
  have U := Lib.hid (Tc.out.below hb5)
  clear Tc
  have Tc := U
  clear U
  have U := Lib.hid (Td.out.below hb5)
  clear Td
  have Td := U
  clear U
  have U := Lib.hid (Tp.out.below hb5)
  clear Tp
  have Tp := U
  clear U
  have U := Lib.hid (Tq.out.below hb5)
  clear Tq
  have Tq := U
  clear U
  have U := Lib.hid (below_then HB.out hb5)
  clear HB
  have HB := U
  clear U
  have Ge := Lib.hid hx5
  clear hx5 hb5
  go_wp2_with fail
  have C := OF3.out w67
  unfold VEnd at C
  have HC := Lib.hid C
  clear C
  go_must (refine HC.out.mono ?_)
  rintro e w68 ⟨v5, rfl, hx5, hb5⟩
  obtain ⟨srf, arf, mrf, crf, rfl⟩ := nat_shape hx5
  clear HC
  have U := Lib.hid (Tc.out.below hb5)
  clear Tc
  have Tc := U
  clear U
  have U := Lib.hid (Td.out.below hb5)
  clear Td
  have Td := U
  clear U
  have U := Lib.hid (Tp.out.below hb5)
  clear Tp
  have Tp := U
  clear U
  have U := Lib.hid (Tq.out.below hb5)
  clear Tq
  have Tq := U
  clear U
  have U := Lib.hid (below_then HB.out hb5)
  clear HB
  have HB := U
  clear U
  have U := Lib.hid (nat_keeps Ge.out hb5)
  clear Ge
  have Ge := U
  clear U
  have Gf := Lib.hid hx5
  clear hx5 hb5
  go_wp2_with fail
  have C := HF.out w68 _ _ Ge.out Gf.out
  unfold VEnd at C
  have HC := Lib.hid C
  clear C
  go_must (refine HC.out.mono ?_)
  rintro e w69 ⟨v5, rfl, ⟨y5, rfl, hx5⟩, hb5⟩
  obtain ⟨srh, trh, arh, drh, mrh, irh, crh, jrh, rfl⟩ := rf_shape hx5
  clear HC
  have hbb := below_then hb5 (below_one w69 (.cells #[.bool srh, .slice arh mrh crh, .bool trh, .slice drh irh jrh] 26))
  have U := Lib.hid (Tc.out.below hbb)
  clear Tc
  have Tc := U
  clear U
  have U := Lib.hid (Td.out.below hbb)
  clear Td
  have Td := U
  clear U
  have U := Lib.hid (Tp.out.below hbb)
  clear Tp
  have Tp := U
  clear U
  have U := Lib.hid (Tq.out.below hbb)
  clear Tq
  have Tq := U
  clear U
  have U := Lib.hid (below_then HB.out hbb)
  clear HB
  have HB := U
  clear U
  have U := Lib.hid (nat_keeps Ge.out hbb)
  clear Ge
  have Ge := U
  clear U
  have U := Lib.hid (nat_keeps Gf.out hbb)
  clear Gf
  have Gf := U
  clear U
  have Th := Lib.hid (RBox.new hx5)
  clear hx5 hb5 hbb
  clear Ge Gf HF PW2 OF3
  go_upto_region 14 with (fail)
  have HSZZ7 := Lib.hid (size_alloc1 w69 (.cells #[.bool srh, .slice arh mrh crh, .bool trh, .slice drh irh jrh] 26))
  generalize w69.alloc (.cells #[.bool srh, .slice arh mrh crh, .bool trh, .slice drh irh jrh] 26) = Z7 at *
  generalize w69.heap.size = th at *
  obtain ⟨s21, s21x, a21, a21x, m21, m21x, c21, c21x, lh, hh⟩ := id Th.out
  have Lh := Lib.hid lh
  have Gh := Lib.hid hh
  clear lh hh
  have LD : Hid (∀ X : World, Below Z7.heap.size Z7 X → X.cell? ⟨th, 0, none⟩ = some (.bool s21) ∧ X.cell? ⟨th, 1, none⟩ = some (.slice a21 m21 c21) ∧ X.cell? ⟨th, 2, none⟩ = some (.bool s21x) ∧ X.cell? ⟨th, 3, none⟩ = some (.slice a21x m21x c21x)) := Lib.hid (fun X h => by
   obtain ⟨⟨f0, f1, f2, f3⟩, _⟩ := cellsF (Lh.out.below h)
   exact ⟨f0, f1, f2, f3⟩)
  refine regLB14 (p115 := RH.2.1) (q115 := RH.2.2) (p117 := RH.2.1) (q117 := RH.2.2) (R := RM) (fun _ _ d _ _ h => by cases d <;> exact h) LD (Lib.hid (fun X h => OH.out X _ (rf_keeps Gh.out h))) (Lib.hid (fun X h => OH.out X _ (rf_keeps Gh.out h))) (Lib.hid (fun X x0 x1 h k0 k1 => MH.out.1 X _ _ k0 k1)) ?_
  intro Z8 z0 z1 z2 z3 sv tv av dv mv iv cv jv tr hB L U
  clear LD Lh Gh
  have U := Lib.hid (Tc.out.below hB.out)
  clear Tc
  have Tc := U
  clear U
  have U := Lib.hid (Td.out.below hB.out)
  clear Td
  have Td := U
  clear U
  have U := Lib.hid (Tp.out.below hB.out)
  clear Tp
  have Tp := U
  clear U
  have U := Lib.hid (Tq.out.below hB.out)
  clear Tq
  have Tq := U
  clear U
  have U := Lib.hid (Th.out.below hB.out)
  clear Th
  have Th := U
  clear U
  have U := Lib.hid (below_then HB.out hB.out)
  clear HB
  have HB := U
  clear U
  have Tr := U
  clear U hB L
  obtain ⟨sh_49, th_49, ah_49, dh_49, mh_49, ih_49, ch_49, jh_49, ⟨ch_490, ch_491, ch_492, ch_493⟩, _, hh_49⟩ := Th.out.open
  go_wp2_with fail
  have C := MH.out.2 Z8 _ _ hh_49 hh_49
  unfold VEnd at C
  have HC := Lib.hid C
  clear C
  clear ch_490 ch_491 ch_492 ch_493 hh_49
  go_must (refine HC.out.mono ?_)
  rintro e w70 ⟨v5, rfl, ⟨y5, rfl, hx5⟩, hb5⟩
  obtain ⟨srs, trs, ars, drs, mrs, irs, crs, jrs, rfl⟩ := rf_shape hx5
  clear HC
  have hbb := below_then hb5 (below_one w70 (.cells #[.bool srs, .slice ars mrs crs, .bool trs, .slice drs irs jrs] 26))
  have U := Lib.hid (Tc.out.below hbb)
  clear Tc
  have Tc := U
  clear U
  have U := Lib.hid (Td.out.below hbb)
  clear Td
  have Td := U
  clear U
  have U := Lib.hid (Tp.out.below hbb)
  clear Tp
  have Tp := U
  clear U
  have U := Lib.hid (Tq.out.below hbb)
  clear Tq
  have Tq := U
  clear U
  have U := Lib.hid (Th.out.below hbb)
  clear Th
  have Th := U
  clear U
  have U := Lib.hid (Tr.out.below hbb)
  clear Tr
  have Tr := U
  clear U
  have U := Lib.hid (below_then HB.out hbb)
  clear HB
  have HB := U
  clear U
  have Ts := Lib.hid (RBox.new hx5)
  clear hx5 hb5 hbb
  clear Th
  clear OH MH
  go_upto_region 16 with (fail)
  have HSZZ9 := Lib.hid (size_alloc1 w70 (.cells #[.bool srs, .slice ars mrs crs, .bool trs, .slice drs irs jrs] 26))
  generalize w70.alloc (.cells #[.bool srs, .slice ars mrs crs, .bool trs, .slice drs irs jrs] 26) = Z9 at *
  generalize w70.heap.size = ts at *
  obtain ⟨s23, s23x, a23, a23x, m23, m23x, c23, c23x, lr, hr⟩ := id Tr.out
  have Lr := Lib.hid lr
  have Gr := Lib.hid hr
  clear lr hr
  have LD : Hid (∀ X : World, Below Z9.heap.size Z9 X → X.cell? ⟨tr, 0, none⟩ = some (.bool s23) ∧ X.cell? ⟨tr, 1, none⟩ = some (.slice a23 m23 c23) ∧ X.cell? ⟨tr, 2, none⟩ = some (.bool s23x) ∧ X.cell? ⟨tr, 3, none⟩ = some (.slice a23x m23x c23x)) := Lib.hid (fun X h => by
   obtain ⟨⟨f0, f1, f2, f3⟩, _⟩ := cellsF (Lr.out.below h)
   exact ⟨f0, f1, f2, f3⟩)
  refine regLB16 (n16 := g0) (p130 := g0) (q130 := 1) (R := RT) (fun _ _ d _ _ h => by cases d <;> exact h) LD (Lib.hid (fun X h => WHO.out X)) (Lib.hid (fun X x0 h k0 => MT.out.1 X _ _ (fat_keeps Gr.out h) k0)) ?_
  intro Z10 z0 z1 z2 sv tv av dv mv iv cv jv tu hB L U
  clear LD Lr Gr
  have U := Lib.hid (Tc.out.below hB.out)
  clear Tc
  have Tc := U
  clear U
  have U := Lib.hid (Td.out.below hB.out)
  clear Td
  have Td := U
  clear U
  have U := Lib.hid (Tp.out.below hB.out)
  clear Tp
  have Tp := U
  clear U
  have U := Lib.hid (Tq.out.below hB.out)
  clear Tq
  have Tq := U
  clear U
  have U := Lib.hid (Tr.out.below hB.out)
  clear Tr
  have Tr := U
  clear U
  have U := Lib.hid (Ts.out.below hB.out)
  clear Ts
  have Ts := U
  clear U
  have U := Lib.hid (below_then HB.out hB.out)
  clear HB
  have HB := U
  clear U
  have Tu := U
  clear U hB L
  go_upto_region 17 with (fail)
  obtain ⟨s25, s25x, a25, a25x, m25, m25x, c25, c25x, ls, hs⟩ := id Ts.out
  have Ls := Lib.hid ls
  have Gs := Lib.hid hs
  clear ls hs
  have LD : Hid (∀ X : World, Below Z10.heap.size Z10 X → X.cell? ⟨ts, 0, none⟩ = some (.bool s25) ∧ X.cell? ⟨ts, 1, none⟩ = some (.slice a25 m25 c25) ∧ X.cell? ⟨ts, 2, none⟩ = some (.bool s25x) ∧ X.cell? ⟨ts, 3, none⟩ = some (.slice a25x m25x c25x)) := Lib.hid (fun X h => by
   obtain ⟨⟨f0, f1, f2, f3⟩, _⟩ := cellsF (Ls.out.below h)
   exact ⟨f0, f1, f2, f3⟩)
  refine regLB17 (n16 := g0) (p137 := g0) (q137 := 1) (R := RT) (fun _ _ d _ _ h => by cases d <;> exact h) LD (Lib.hid (fun X h => ROF.out X)) (Lib.hid (fun X x0 h k0 => MT.out.2 X _ _ (rf_keeps Gs.out h) k0)) ?_
  intro Z11 z0 z1 z2 sv tv av dv mv iv cv jv tx hB L U
  clear LD Ls Gs
  have U := Lib.hid (Tc.out.below hB.out)
  clear Tc
  have Tc := U
  clear U
  have U := Lib.hid (Td.out.below hB.out)
  clear Td
  have Td := U
  clear U
  have U := Lib.hid (Tp.out.below hB.out)
  clear Tp
  have Tp := U
  clear U
  have U := Lib.hid (Tq.out.below hB.out)
  clear Tq
  have Tq := U
  clear U
  have U := Lib.hid (Tr.out.below hB.out)
  clear Tr
  have Tr := U
  clear U
  have U := Lib.hid (Ts.out.below hB.out)
  clear Ts
  have Ts := U
  clear U
  have U := Lib.hid (Tu.out.below hB.out)
  clear Tu
  have Tu := U
  clear U
  have U := Lib.hid (below_then HB.out hB.out)
  clear HB
  have HB := U
  clear U
  have Tx := U
  clear U hB L
  clear MT
  go_upto_region 18 with (fail)
  obtain ⟨s12, s12x, a12, a12x, m12, m12x, c12, c12x, lc, hc⟩ := id Tc.out
  have Lc := Lib.hid lc
  have Gc := Lib.hid hc
  clear lc hc
  have LD : Hid (∀ X : World, Below Z11.heap.size Z11 X → X.cell? ⟨tc, 0, none⟩ = some (.bool s12) ∧ X.cell? ⟨tc, 1, none⟩ = some (.slice a12 m12 c12) ∧ X.cell? ⟨tc, 2, none⟩ = some (.bool s12x) ∧ X.cell? ⟨tc, 3, none⟩ = some (.slice a12x m12x c12x)) := Lib.hid (fun X h => by
   obtain ⟨⟨f0, f1, f2, f3⟩, _⟩ := cellsF (Lc.out.below h)
   exact ⟨f0, f1, f2, f3⟩)
  refine regLB18 (n16 := g0) (p144 := g0) (q144 := 1) (R := RD) (fun _ _ d _ _ h => by cases d <;> exact h) LD (Lib.hid (fun X h => WHO.out X)) (Lib.hid (fun X x0 h k0 => QD.out.1 X _ _ (fat_keeps Gc.out h) k0)) ?_
  intro Z12 z0 z1 z2 sv tv av dv mv iv cv jv tz hB L U
  clear LD Lc Gc
  have U := Lib.hid (Tc.out.below hB.out)
  clear Tc
  have Tc := U
  clear U
  have U := Lib.hid (Td.out.below hB.out)
  clear Td
  have Td := U
  clear U
  have U := Lib.hid (Tp.out.below hB.out)
  clear Tp
  have Tp := U
  clear U
  have U := Lib.hid (Tq.out.below hB.out)
  clear Tq
  have Tq := U
  clear U
  have U := Lib.hid (Tr.out.below hB.out)
  clear Tr
  have Tr := U
  clear U
  have U := Lib.hid (Ts.out.below hB.out)
  clear Ts
  have Ts := U
  clear U
  have U := Lib.hid (Tu.out.below hB.out)
  clear Tu
  have Tu := U
  clear U
  have U := Lib.hid (Tx.out.below hB.out)
  clear Tx
  have Tx := U
  clear U
  have U := Lib.hid (below_then HB.out hB.out)
  clear HB
  have HB := U
  clear U
  have Tz := U
  clear U hB L
  go_upto_region 19 with (fail)
  obtain ⟨s14, s14x, a14, a14x, m14, m14x, c14, c14x, ld, hd⟩ := id Td.out
  have Ld := Lib.hid ld
  have Gd := Lib.hid hd
  clear ld hd
  have LD : Hid (∀ X : World, Below Z12.heap.size Z12 X → X.cell? ⟨td, 0, none⟩ = some (.bool s14) ∧ X.cell? ⟨td, 1, none⟩ = some (.slice a14 m14 c14) ∧ X.cell? ⟨td, 2, none⟩ = some (.bool s14x) ∧ X.cell? ⟨td, 3, none⟩ = some (.slice a14x m14x c14x)) := Lib.hid (fun X h => by
   obtain ⟨⟨f0, f1, f2, f3⟩, _⟩ := cellsF (Ld.out.below h)
   exact ⟨f0, f1, f2, f3⟩)
  refine regLB19 (n16 := g0) (p151 := g0) (q151 := 1) (R := RD) (fun _ _ d _ _ h => by cases d <;> exact h) LD (Lib.hid (fun X h => ROF.out X)) (Lib.hid (fun X x0 h k0 => QD.out.2 X _ _ (rf_keeps Gd.out h) k0)) ?_
  intro Z13 z0 z1 z2 sv tv av dv mv iv cv jv tl hB L U
  clear LD Ld Gd
  have U := Lib.hid (Tc.out.below hB.out)
  clear Tc
  have Tc := U
  clear U
  have U := Lib.hid (Td.out.below hB.out)
  clear Td
  have Td := U
  clear U
  have U := Lib.hid (Tp.out.below hB.out)
  clear Tp
  have Tp := U
  clear U
  have U := Lib.hid (Tq.out.below hB.out)
  clear Tq
  have Tq := U
  clear U
  have U := Lib.hid (Tr.out.below hB.out)
  clear Tr
  have Tr := U
  clear U
  have U := Lib.hid (Ts.out.below hB.out)
  clear Ts
  have Ts := U
  clear U
  have U := Lib.hid (Tu.out.below hB.out)
  clear Tu
  have Tu := U
  clear U
  have U := Lib.hid (Tx.out.below hB.out)
  clear Tx
  have Tx := U
  clear U
  have U := Lib.hid (Tz.out.below hB.out)
  clear Tz
  have Tz := U
  clear U
  have U := Lib.hid (below_then HB.out hB.out)
  clear HB
  have HB := U
  clear U
  have Tl := U
  clear U hB L
  clear Tc
  clear Td
  clear QD
  obtain ⟨sp_50, tp_50, ap_50, dp_50, mp_50, ip_50, cp_50, jp_50, ⟨cp_500, cp_501, cp_502, cp_503⟩, _, hp_50⟩ := Tp.out.open
  obtain ⟨sq_50, tq_50, aq_50, dq_50, mq_50, iq_50, cq_50, jq_50, ⟨cq_500, cq_501, cq_502, cq_503⟩, _, hq_50⟩ := Tq.out.open
  go_wp2_with fail
  have C := SA.out Z13 _ _ hp_50 hq_50
  unfold VEnd at C
  have HC := Lib.hid C
  clear C
  clear cp_500 cp_501 cp_502 cp_503 hp_50
  clear cq_500 cq_501 cq_502 cq_503 hq_50
  go_must (refine HC.out.mono ?_)
  rintro e w71 ⟨v5, rfl, hv5, hb5⟩
  obtain rfl := hv5
  clear HC
  have U := Lib.hid (Tp.out.below hb5)
  clear Tp
  have Tp := U
  clear U
  have U := Lib.hid (Tq.out.below hb5)
  clear Tq
  have Tq := U
  clear U
  have U := Lib.hid (Tr.out.below hb5)
  clear Tr
  have Tr := U
  clear U
  have U := Lib.hid (Ts.out.below hb5)
  clear Ts
  have Ts := U
  clear U
  have U := Lib.hid (Tu.out.below hb5)
  clear Tu
  have Tu := U
  clear U
  have U := Lib.hid (Tx.out.below hb5)
  clear Tx
  have Tx := U
  clear U
  have U := Lib.hid (Tz.out.below hb5)
  clear Tz
  have Tz := U
  clear U
  have U := Lib.hid (Tl.out.below hb5)
  clear Tl
  have Tl := U
  clear U
  have U := Lib.hid (below_then HB.out hb5)
  clear HB
  have HB := U
  clear U
  clear hb5
  clear Tp
  clear Tq
  clear SA
  obtain ⟨sr_51, tr_51, ar_51, dr_51, mr_51, ir_51, cr_51, jr_51, ⟨cr_510, cr_511, cr_512, cr_513⟩, _, hr_51⟩ := Tr.out.open
  obtain ⟨ss_51, ts_51, as_51, ds_51, ms_51, is_51, cs_51, js_51, ⟨cs_510, cs_511, cs_512, cs_513⟩, _, hs_51⟩ := Ts.out.open
  go_wp2_with fail
  have C := SM.out w71 _ _ hr_51 hs_51
  unfold VEnd at C
  have HC := Lib.hid C
  clear C
  clear cr_510 cr_511 cr_512 cr_513 hr_51
  clear cs_510 cs_511 cs_512 cs_513 hs_51
  go_must (refine HC.out.mono ?_)
  rintro e w72 ⟨v5, rfl, hv5, hb5⟩
  obtain rfl := hv5
  clear HC
  have U := Lib.hid (Tr.out.below hb5)
  clear Tr
  have Tr := U
  clear U
  have U := Lib.hid (Ts.out.below hb5)
  clear Ts
  have Ts := U
  clear U
  have U := Lib.hid (Tu.out.below hb5)
  clear Tu
  have Tu := U
  clear U
  have U := Lib.hid (Tx.out.below hb5)
  clear Tx
  have Tx := U
  clear U
  have U := Lib.hid (Tz.out.below hb5)
  clear Tz
  have Tz := U
  clear U
  have U := Lib.hid (Tl.out.below hb5)
  clear Tl
  have Tl := U
  clear U
  have U := Lib.hid (below_then HB.out hb5)
  clear HB
  have HB := U
  clear U
  clear hb5
  clear Tr
  clear Ts
  clear SM
  obtain ⟨su_52, tu_52, au_52, du_52, mu_52, iu_52, cu_52, ju_52, ⟨cu_520, cu_521, cu_522, cu_523⟩, _, hu_52⟩ := Tu.out.open
  obtain ⟨sx_52, tx_52, ax_52, dx_52, mx_52, ix_52, cx_52, jx_52, ⟨cx_520, cx_521, cx_522, cx_523⟩, _, hx_52⟩ := Tx.out.open
  go_wp2_with fail
  have C := ST.out w72 _ _ hu_52 hx_52
  unfold VEnd at C
  have HC := Lib.hid C
  clear C
  clear cu_520 cu_521 cu_522 cu_523 hu_52
  clear cx_520 cx_521 cx_522 cx_523 hx_52
  go_must (refine HC.out.mono ?_)
  rintro e w73 ⟨v5, rfl, hv5, hb5⟩
  obtain rfl := hv5
  clear HC
  have U := Lib.hid (Tu.out.below hb5)
  clear Tu
  have Tu := U
  clear U
  have U := Lib.hid (Tx.out.below hb5)
  clear Tx
  have Tx := U
  clear U
  have U := Lib.hid (Tz.out.below hb5)
  clear Tz
  have Tz := U
  clear U
  have U := Lib.hid (Tl.out.below hb5)
  clear Tl
  have Tl := U
  clear U
  have U := Lib.hid (below_then HB.out hb5)
  clear HB
  have HB := U
  clear U
  clear hb5
  clear Tu
  clear Tx
  clear ST
  obtain ⟨sz_53, tz_53, az_53, dz_53, mz_53, iz_53, cz_53, jz_53, ⟨cz_530, cz_531, cz_532, cz_533⟩, _, hz_53⟩ := Tz.out.open
  obtain ⟨sl_53, tl_53, al_53, dl_53, ml_53, il_53, cl_53, jl_53, ⟨cl_530, cl_531, cl_532, cl_533⟩, _, hl_53⟩ := Tl.out.open
  go_wp2_with fail
  have C := SD.out w73 _ _ hz_53 hl_53
  unfold VEnd at C
  have HC := Lib.hid C
  clear C
  clear cz_530 cz_531 cz_532 cz_533 hz_53
  clear cl_530 cl_531 cl_532 cl_533 hl_53
  go_must (refine HC.out.mono ?_)
  rintro e w74 ⟨v5, rfl, hv5, hb5⟩
  obtain rfl := hv5
  clear HC
  have U := Lib.hid (Tz.out.below hb5)
  clear Tz
  have Tz := U
  clear U
  have U := Lib.hid (Tl.out.below hb5)
  clear Tl
  have Tl := U
  clear U
  have U := Lib.hid (below_then HB.out hb5)
  clear HB
  have HB := U
  clear U
  clear hb5
  clear Tz
  clear Tl
  clear SD
  go_wp2_with fail
  have C := LV.out w74
  unfold VEnd at C
  have HC := Lib.hid C
  clear C
  go_must (refine HC.out.mono ?_)
  rintro e w75 ⟨v5, rfl, hv5, hb5⟩
  obtain rfl := hv5
  clear HC
  have U := Lib.hid (below_then HB.out hb5)
  clear HB
  have HB := U
  clear U
  clear hb5
  go_wp2_with fail
  go_ret
  exact ⟨rfl, HB.out⟩
end Go.Proofs.YtajehlgclnocoaaGreatDoor
