/-
  The reference of package wide: Near, Fits and Small.
-/
import Derived.Test.YtldbhlafijjkdaaDoorNmQ
import Derived.Test.YtldbhlafijjkdaaDoorBgI
namespace Go.Proofs.YtldbhlafijjkdaaDoor
open Go.RowKit Go.Shelf
set_option linter.unusedVariables false
set_option maxRecDepth 100000

theorem below_near (W : World) (o : Obj) : Below W.heap.size W (W.alloc o) := (Below.refl _ W).alloc (Nat.le_refl _) _
/-- The exponents of Near. -/
def nearE (r : Nat) : Nat := if r = 0 then 16384 else if r = 1 then 16383 else if r = 2 then 8192 else 63
theorem near_bnd {E : Nat} {d : Int} (hd : -3 ≤ d ∧ d ≤ 3) : (((2 ^ E : Nat) : Int) + d).natAbs ≤ 2 ^ (E + 2) := by
  have h : 1 ≤ 2 ^ E := Nat.one_le_two_pow
  rw [show E + 2 = (E + 1) + 1 from rfl, Nat.pow_succ, Nat.pow_succ]
  generalize 2 ^ E = q at *
  omega
theorem near_digs {E : Nat} {d : Int} (hE : E ≤ 16384) (hd : -3 ≤ d ∧ d ≤ 3) : (digs (((2 ^ E : Nat) : Int) + d).natAbs).length ≤ 20000 := by
  refine digs_len_le (Nat.lt_of_le_of_lt (near_bnd hd) ?_)
  obtain ⟨k, hk⟩ : ∃ k, k + 1 = 20000 := ⟨19999, rfl⟩
  rw [← hk]
  have h1 : (2 : Nat) ^ (E + 2) ≤ 2 ^ (k + 1) := Nat.pow_le_pow_right (by decide) (by omega)
  exact Nat.lt_of_le_of_lt h1 (Nat.pow_lt_pow_left (by decide) (Nat.succ_ne_zero k))
theorem pow_digs2 {E : Nat} (hE : E ≤ 16384) : (digs ((2 ^ E : Nat) : Int).natAbs).length ≤ 20000 := by
  have := near_digs (d := 0) hE (by decide)
  rwa [Int.add_zero] at this
theorem small_dig3 {d : Int} (hd : -3 ≤ d ∧ d ≤ 3) : (digs d.natAbs).length ≤ 500000 := small_digs (K := 3) (by show d.natAbs ≤ 8; omega) (by decide)
def NearEnd (E : Nat) (d : Int) (w : World) (e : Ending) (w' : World) : Prop := ∃ z : Int, (z = ((2 ^ E : Nat) : Int) + d ∨ z = -(((2 ^ E : Nat) : Int) + d)) ∧ NEnd z w e w'
theorem tdiv_rng {n m : Int} (hn : -9223372036854775808 ≤ n ∧ n ≤ 9223372036854775807) (hm : 1 ≤ m) : -9223372036854775808 ≤ n.tdiv m ∧ n.tdiv m ≤ 9223372036854775807 := by
  have h1 : (n.tdiv m).natAbs = n.natAbs / m.natAbs := Int.natAbs_tdiv n m
  have h2 : n.natAbs / m.natAbs ≤ n.natAbs := Nat.div_le_self _ _
  rcases Int.le_total 0 n with h | h
  · have := Int.tdiv_nonneg h (show (0 : Int) ≤ m by omega)
    omega
  · have := Int.tdiv_nonneg (a := -n) (b := m) (by omega) (by omega)
    rw [Int.neg_tdiv] at this
    omega

set_option maxHeartbeats 4000000 in
theorem near_at (n : Int) (k r E : Nat) (w : World) (hn : -9223372036854775808 ≤ n ∧ n ≤ 9223372036854775807) (hk : aroundI n 28 = (k : Int)) (hk2 : k < 28) (hr : k % 4 = r) (hE : nearE r = E) :
    Calls Tryd.prog 20 #[.int .i64 n] w (NearEnd E ((k / 4 : Nat) - 3 : Int) w) := by
  have HA : Hid (∀ w1, Calls Tryd.prog 10 #[.int .i64 n, .int .i64 28] w1 fun e w' => e = .returned (.int .i64 (k : Int)) ∧ w1 = w') := Lib.hid (fun w1 => by rw [← hk]; exact around_any n 28 w1 hn (by decide) (by decide))
  obtain ⟨q, hq⟩ : ∃ q : Int, n.tdiv 28 = q := ⟨_, rfl⟩
  have hqr := tdiv_rng (m := 28) hn (by decide)
  rw [hq] at hqr
  have HA2 : Hid (∀ w1, Calls Tryd.prog 10 #[.int .i64 q, .int .i64 2] w1 (AroundEnd 2 w1)) := Lib.hid (fun w1 => around_nat q 2 w1 hqr (by decide) (by decide))
  unfold AroundEnd at HA2
  obtain ⟨d4, hd4⟩ : ∃ d4 : Nat, k / 4 = d4 := ⟨_, rfl⟩
  have htm : (k : Int).tmod 4 = (r : Int) := by rw [Int.tmod_eq_emod_of_nonneg (by omega)]; omega
  have htd : (k : Int).tdiv 4 = (d4 : Int) := by rw [Int.tdiv_eq_ediv_of_nonneg (by omega)]; omega
  obtain ⟨d, hd⟩ : ∃ d : Int, (d4 : Int) - 3 = d := ⟨_, rfl⟩
  have hd3 : -3 ≤ d ∧ d ≤ 3 := by omega
  have hE4 : E ≤ 16384 := by subst hE; unfold nearE; split <;> (try split) <;> (try split) <;> omega
  have PW : Hid (∀ w1, Calls Tryd.prog 40 #[.int .i64 (E : Int)] w1 (NEnd ((2 ^ E : Nat) : Int) w1)) := Lib.hid (fun w1 => power_any E w1 (by omega))
  have HOF : Hid (∀ w1, Calls Tryd.prog 19 #[.int .i64 d] w1 (NEnd d w1)) := Lib.hid (fun w1 => of_any d w1 (by omega))
  have HZ : Hid ((digs (((2 ^ E : Nat) : Int) + d).natAbs).length ≤ 20000) := Lib.hid (near_digs hE4 hd3)
  have HP : Hid ((digs ((2 ^ E : Nat) : Int).natAbs).length ≤ 20000) := Lib.hid (pow_digs2 hE4)
  have HD : Hid ((digs d.natAbs).length ≤ 500000) := Lib.hid (small_dig3 hd3)
  unfold NEnd at PW HOF
  have HB0 := Lib.hid ((Below.refl _ w).alloc (Nat.le_refl _) (.cells #[.bool false, .slice none 0 0] 25))
  have HR0 := Lib.hid (NBox.new (nat_zero w))
  have HEE := Lib.hid hE
  have HK : Hid (k < 28) := Lib.hid hk2
  have hr4 : r < 4 := by omega
  have NG : Hid (∀ w1 y, NAt w1 y (((2 ^ E : Nat) : Int) + d) → Calls Tryd.prog 28 #[y] w1 (NEnd (-(((2 ^ E : Nat) : Int) + d)) w1)) := Lib.hid (fun w1 y h => neg_any y _ w1 h (by have := HZ.out; omega))
  have AD : Hid (∀ w1 x y, NAt w1 x ((2 ^ E : Nat) : Int) → NAt w1 y d → Calls Tryd.prog 23 #[x, y] w1 (NEnd (((2 ^ E : Nat) : Int) + d) w1)) := Lib.hid (fun w1 x y h1 h2 => add_any x y _ _ w1 h1 h2 (by have := HP.out; omega) (by have := HD.out; omega))
  unfold NEnd at NG AD
  have HEND : Hid (∀ z, z = ((2 ^ E : Nat) : Int) + d ∨ z = -(((2 ^ E : Nat) : Int) + d) → ∀ e w', NEnd z w e w' → NearEnd E d w e w') := Lib.hid (fun z hz e w' h => ⟨z, hz, h⟩)
  clear hE hk hr hk2 HZ HP HD
  rw [show ((k / 4 : Nat) - 3 : Int) = d by omega]
  have hd7 : d4 < 7 := by have := HK.out; omega
  clear hd4 hd3
  generalize ((2 ^ E : Nat) : Int) = P at *
  obtain rfl | rfl | rfl | rfl : r = 0 ∨ r = 1 ∨ r = 2 ∨ r = 3 := by omega
  · have HPW : Hid (∀ w1, Calls Tryd.prog 40 #[.int .i64 16384] w1 fun e w' => ∃ x, e = .returned x ∧ NAt w' x P ∧ Below w1.heap.size w1 w') := by
      have h := HEE.out
      unfold nearE at h
      simp at h
      rw [← h] at PW
      exact PW
    clear PW HEE hE4 hr4
    go_enter Tryd.func20, Tryd.ntmps20
    go_wp2_with fail
    have HB1 := Lib.hid HB0.out
    have HR1 := Lib.hid HR0.out
    clear HB0 HR0
    generalize w.alloc (.cells #[.bool false, .slice none 0 0] 25) = w1 at *
    have HAA := Lib.hid (HA.out w1)
    go_must (refine HAA.out.mono ?_)
    rintro e w2 ⟨rfl, rfl⟩
    clear HA HAA
    go_wp2_with fail
    have hal := below_near w1 (.cells #[.int .i64 16384, .int .i64 16383, .int .i64 8192, .int .i64 63] 3)
    have HB3 := Lib.hid (below_then HB1.out hal)
    have HR3 := Lib.hid (HR1.out.below hal)
    clear hal HB1 HR1
    generalize w1.alloc (.cells #[.int .i64 16384, .int .i64 16383, .int .i64 8192, .int .i64 63] 3) = w3 at *
    have HP := Lib.hid (HPW.out w3)
    clear HPW
    go_must (refine HP.out.mono ?_)
    rintro e w4 ⟨x4, rfl, hx4, hb4⟩
    have HX4 := Lib.hid hx4
    have HB4 := Lib.hid (below_then HB3.out hb4)
    have HR4 := Lib.hid (HR3.out.below hb4)
    have HO := Lib.hid (HOF.out w4)
    clear hx4 hb4 HP HB3 HR3 HOF
    go_wp2_with fail
    go_must (refine HO.out.mono ?_)
    rintro e w5 ⟨x5, rfl, hx5, hb5⟩
    have HAD := Lib.hid (AD.out w5 _ _ (nat_keeps HX4.out hb5) hx5)
    have HB5 := Lib.hid (below_then HB4.out hb5)
    have HR5 := Lib.hid (HR4.out.below hb5)
    clear hx5 hb5 HO HB4 HR4 HX4 AD
    go_wp2_with fail
    go_must (refine HAD.out.mono ?_)
    rintro e w6 ⟨x6, rfl, hx6, hb6⟩
    obtain ⟨b6, p6, n6, q6, rfl⟩ := nat_shape hx6
    have hal := below_near w6 (.cells #[.bool b6, .slice p6 n6 q6] 25)
    have HX6 := Lib.hid (NBox.new hx6)
    have HB6 := Lib.hid (below_then (below_then HB5.out hb6) hal)
    have HR6 := Lib.hid ((HR5.out.below hb6).below hal)
    clear hx6 hb6 HAD HB5 HR5 hal
    go_wp2_with fail
    generalize w6.alloc (.cells #[.bool b6, .slice p6 n6 q6] 25) = w7 at *
    generalize w6.heap.size = t4 at *
    have HAR := Lib.hid (HA2.out w7)
    clear HA2
    go_must (refine HAR.out.mono ?_)
    rintro e w8 ⟨b, hb2, rfl, rfl⟩
    obtain ⟨sz, az, mz, cz, lz, hz⟩ := HX6.out
    obtain ⟨c0, c1, _, _⟩ := cells2 lz
    obtain ⟨sr, ar, mr, cr, lr, _⟩ := HR6.out
    obtain ⟨r0, r1, r2, r3⟩ := cells2 lr
    clear HAR HX6 HR6
    obtain rfl | rfl : b = 0 ∨ b = 1 := by omega
    · have HE := Lib.hid (HEND.out _ (.inl rfl) _ _ (nend_at (w := w) HB6.out (Nat.le_refl _) lr hz))
      clear NG HEND hz lz lr
      go_wp2_with fail
      refine bodyPost_ret (v := .agg #[.bool sz, .slice az mz cz]) (by simp [results, Tryd.results20, go_sem, r0, r1]) rfl ?_
      exact HE.out
    · have HNG := Lib.hid (NG.out w7 _ hz)
      have HLR := Lib.hid lr
      clear NG hz lz lr
      go_wp2_with fail
      go_must (refine HNG.out.mono ?_)
      rintro e w9 ⟨x9, rfl, hx9, hb9⟩
      obtain ⟨b9, p9, n9, q9, rfl⟩ := nat_shape hx9
      obtain ⟨r0, r1, r2, r3⟩ := cells2 (HLR.out.below hb9)
      have HE := Lib.hid (HEND.out _ (.inr rfl) _ _ (nend_at (w := w) (below_then HB6.out hb9) (Nat.le_refl _) (HLR.out.below hb9) hx9))
      clear HEND hx9 hb9 HNG HLR
      go_wp2_with fail
      refine bodyPost_ret (v := .agg #[.bool b9, .slice p9 n9 q9]) (by simp [results, Tryd.results20, go_sem, r0, r1]) rfl ?_
      exact HE.out
  · have HPW : Hid (∀ w1, Calls Tryd.prog 40 #[.int .i64 16383] w1 fun e w' => ∃ x, e = .returned x ∧ NAt w' x P ∧ Below w1.heap.size w1 w') := by
      have h := HEE.out
      unfold nearE at h
      simp at h
      rw [← h] at PW
      exact PW
    clear PW HEE hE4 hr4
    go_enter Tryd.func20, Tryd.ntmps20
    go_wp2_with fail
    have HB1 := Lib.hid HB0.out
    have HR1 := Lib.hid HR0.out
    clear HB0 HR0
    generalize w.alloc (.cells #[.bool false, .slice none 0 0] 25) = w1 at *
    have HAA := Lib.hid (HA.out w1)
    go_must (refine HAA.out.mono ?_)
    rintro e w2 ⟨rfl, rfl⟩
    clear HA HAA
    go_wp2_with fail
    have hal := below_near w1 (.cells #[.int .i64 16384, .int .i64 16383, .int .i64 8192, .int .i64 63] 3)
    have HB3 := Lib.hid (below_then HB1.out hal)
    have HR3 := Lib.hid (HR1.out.below hal)
    clear hal HB1 HR1
    generalize w1.alloc (.cells #[.int .i64 16384, .int .i64 16383, .int .i64 8192, .int .i64 63] 3) = w3 at *
    have HP := Lib.hid (HPW.out w3)
    clear HPW
    go_must (refine HP.out.mono ?_)
    rintro e w4 ⟨x4, rfl, hx4, hb4⟩
    have HX4 := Lib.hid hx4
    have HB4 := Lib.hid (below_then HB3.out hb4)
    have HR4 := Lib.hid (HR3.out.below hb4)
    have HO := Lib.hid (HOF.out w4)
    clear hx4 hb4 HP HB3 HR3 HOF
    go_wp2_with fail
    go_must (refine HO.out.mono ?_)
    rintro e w5 ⟨x5, rfl, hx5, hb5⟩
    have HAD := Lib.hid (AD.out w5 _ _ (nat_keeps HX4.out hb5) hx5)
    have HB5 := Lib.hid (below_then HB4.out hb5)
    have HR5 := Lib.hid (HR4.out.below hb5)
    clear hx5 hb5 HO HB4 HR4 HX4 AD
    go_wp2_with fail
    go_must (refine HAD.out.mono ?_)
    rintro e w6 ⟨x6, rfl, hx6, hb6⟩
    obtain ⟨b6, p6, n6, q6, rfl⟩ := nat_shape hx6
    have hal := below_near w6 (.cells #[.bool b6, .slice p6 n6 q6] 25)
    have HX6 := Lib.hid (NBox.new hx6)
    have HB6 := Lib.hid (below_then (below_then HB5.out hb6) hal)
    have HR6 := Lib.hid ((HR5.out.below hb6).below hal)
    clear hx6 hb6 HAD HB5 HR5 hal
    go_wp2_with fail
    generalize w6.alloc (.cells #[.bool b6, .slice p6 n6 q6] 25) = w7 at *
    generalize w6.heap.size = t4 at *
    have HAR := Lib.hid (HA2.out w7)
    clear HA2
    go_must (refine HAR.out.mono ?_)
    rintro e w8 ⟨b, hb2, rfl, rfl⟩
    obtain ⟨sz, az, mz, cz, lz, hz⟩ := HX6.out
    obtain ⟨c0, c1, _, _⟩ := cells2 lz
    obtain ⟨sr, ar, mr, cr, lr, _⟩ := HR6.out
    obtain ⟨r0, r1, r2, r3⟩ := cells2 lr
    clear HAR HX6 HR6
    obtain rfl | rfl : b = 0 ∨ b = 1 := by omega
    · have HE := Lib.hid (HEND.out _ (.inl rfl) _ _ (nend_at (w := w) HB6.out (Nat.le_refl _) lr hz))
      clear NG HEND hz lz lr
      go_wp2_with fail
      refine bodyPost_ret (v := .agg #[.bool sz, .slice az mz cz]) (by simp [results, Tryd.results20, go_sem, r0, r1]) rfl ?_
      exact HE.out
    · have HNG := Lib.hid (NG.out w7 _ hz)
      have HLR := Lib.hid lr
      clear NG hz lz lr
      go_wp2_with fail
      go_must (refine HNG.out.mono ?_)
      rintro e w9 ⟨x9, rfl, hx9, hb9⟩
      obtain ⟨b9, p9, n9, q9, rfl⟩ := nat_shape hx9
      obtain ⟨r0, r1, r2, r3⟩ := cells2 (HLR.out.below hb9)
      have HE := Lib.hid (HEND.out _ (.inr rfl) _ _ (nend_at (w := w) (below_then HB6.out hb9) (Nat.le_refl _) (HLR.out.below hb9) hx9))
      clear HEND hx9 hb9 HNG HLR
      go_wp2_with fail
      refine bodyPost_ret (v := .agg #[.bool b9, .slice p9 n9 q9]) (by simp [results, Tryd.results20, go_sem, r0, r1]) rfl ?_
      exact HE.out
  · have HPW : Hid (∀ w1, Calls Tryd.prog 40 #[.int .i64 8192] w1 fun e w' => ∃ x, e = .returned x ∧ NAt w' x P ∧ Below w1.heap.size w1 w') := by
      have h := HEE.out
      unfold nearE at h
      simp at h
      rw [← h] at PW
      exact PW
    clear PW HEE hE4 hr4
    go_enter Tryd.func20, Tryd.ntmps20
    go_wp2_with fail
    have HB1 := Lib.hid HB0.out
    have HR1 := Lib.hid HR0.out
    clear HB0 HR0
    generalize w.alloc (.cells #[.bool false, .slice none 0 0] 25) = w1 at *
    have HAA := Lib.hid (HA.out w1)
    go_must (refine HAA.out.mono ?_)
    rintro e w2 ⟨rfl, rfl⟩
    clear HA HAA
    go_wp2_with fail
    have hal := below_near w1 (.cells #[.int .i64 16384, .int .i64 16383, .int .i64 8192, .int .i64 63] 3)
    have HB3 := Lib.hid (below_then HB1.out hal)
    have HR3 := Lib.hid (HR1.out.below hal)
    clear hal HB1 HR1
    generalize w1.alloc (.cells #[.int .i64 16384, .int .i64 16383, .int .i64 8192, .int .i64 63] 3) = w3 at *
    have HP := Lib.hid (HPW.out w3)
    clear HPW
    go_must (refine HP.out.mono ?_)
    rintro e w4 ⟨x4, rfl, hx4, hb4⟩
    have HX4 := Lib.hid hx4
    have HB4 := Lib.hid (below_then HB3.out hb4)
    have HR4 := Lib.hid (HR3.out.below hb4)
    have HO := Lib.hid (HOF.out w4)
    clear hx4 hb4 HP HB3 HR3 HOF
    go_wp2_with fail
    go_must (refine HO.out.mono ?_)
    rintro e w5 ⟨x5, rfl, hx5, hb5⟩
    have HAD := Lib.hid (AD.out w5 _ _ (nat_keeps HX4.out hb5) hx5)
    have HB5 := Lib.hid (below_then HB4.out hb5)
    have HR5 := Lib.hid (HR4.out.below hb5)
    clear hx5 hb5 HO HB4 HR4 HX4 AD
    go_wp2_with fail
    go_must (refine HAD.out.mono ?_)
    rintro e w6 ⟨x6, rfl, hx6, hb6⟩
    obtain ⟨b6, p6, n6, q6, rfl⟩ := nat_shape hx6
    have hal := below_near w6 (.cells #[.bool b6, .slice p6 n6 q6] 25)
    have HX6 := Lib.hid (NBox.new hx6)
    have HB6 := Lib.hid (below_then (below_then HB5.out hb6) hal)
    have HR6 := Lib.hid ((HR5.out.below hb6).below hal)
    clear hx6 hb6 HAD HB5 HR5 hal
    go_wp2_with fail
    generalize w6.alloc (.cells #[.bool b6, .slice p6 n6 q6] 25) = w7 at *
    generalize w6.heap.size = t4 at *
    have HAR := Lib.hid (HA2.out w7)
    clear HA2
    go_must (refine HAR.out.mono ?_)
    rintro e w8 ⟨b, hb2, rfl, rfl⟩
    obtain ⟨sz, az, mz, cz, lz, hz⟩ := HX6.out
    obtain ⟨c0, c1, _, _⟩ := cells2 lz
    obtain ⟨sr, ar, mr, cr, lr, _⟩ := HR6.out
    obtain ⟨r0, r1, r2, r3⟩ := cells2 lr
    clear HAR HX6 HR6
    obtain rfl | rfl : b = 0 ∨ b = 1 := by omega
    · have HE := Lib.hid (HEND.out _ (.inl rfl) _ _ (nend_at (w := w) HB6.out (Nat.le_refl _) lr hz))
      clear NG HEND hz lz lr
      go_wp2_with fail
      refine bodyPost_ret (v := .agg #[.bool sz, .slice az mz cz]) (by simp [results, Tryd.results20, go_sem, r0, r1]) rfl ?_
      exact HE.out
    · have HNG := Lib.hid (NG.out w7 _ hz)
      have HLR := Lib.hid lr
      clear NG hz lz lr
      go_wp2_with fail
      go_must (refine HNG.out.mono ?_)
      rintro e w9 ⟨x9, rfl, hx9, hb9⟩
      obtain ⟨b9, p9, n9, q9, rfl⟩ := nat_shape hx9
      obtain ⟨r0, r1, r2, r3⟩ := cells2 (HLR.out.below hb9)
      have HE := Lib.hid (HEND.out _ (.inr rfl) _ _ (nend_at (w := w) (below_then HB6.out hb9) (Nat.le_refl _) (HLR.out.below hb9) hx9))
      clear HEND hx9 hb9 HNG HLR
      go_wp2_with fail
      refine bodyPost_ret (v := .agg #[.bool b9, .slice p9 n9 q9]) (by simp [results, Tryd.results20, go_sem, r0, r1]) rfl ?_
      exact HE.out
  · have HPW : Hid (∀ w1, Calls Tryd.prog 40 #[.int .i64 63] w1 fun e w' => ∃ x, e = .returned x ∧ NAt w' x P ∧ Below w1.heap.size w1 w') := by
      have h := HEE.out
      unfold nearE at h
      simp at h
      rw [← h] at PW
      exact PW
    clear PW HEE hE4 hr4
    go_enter Tryd.func20, Tryd.ntmps20
    go_wp2_with fail
    have HB1 := Lib.hid HB0.out
    have HR1 := Lib.hid HR0.out
    clear HB0 HR0
    generalize w.alloc (.cells #[.bool false, .slice none 0 0] 25) = w1 at *
    have HAA := Lib.hid (HA.out w1)
    go_must (refine HAA.out.mono ?_)
    rintro e w2 ⟨rfl, rfl⟩
    clear HA HAA
    go_wp2_with fail
    have hal := below_near w1 (.cells #[.int .i64 16384, .int .i64 16383, .int .i64 8192, .int .i64 63] 3)
    have HB3 := Lib.hid (below_then HB1.out hal)
    have HR3 := Lib.hid (HR1.out.below hal)
    clear hal HB1 HR1
    generalize w1.alloc (.cells #[.int .i64 16384, .int .i64 16383, .int .i64 8192, .int .i64 63] 3) = w3 at *
    have HP := Lib.hid (HPW.out w3)
    clear HPW
    go_must (refine HP.out.mono ?_)
    rintro e w4 ⟨x4, rfl, hx4, hb4⟩
    have HX4 := Lib.hid hx4
    have HB4 := Lib.hid (below_then HB3.out hb4)
    have HR4 := Lib.hid (HR3.out.below hb4)
    have HO := Lib.hid (HOF.out w4)
    clear hx4 hb4 HP HB3 HR3 HOF
    go_wp2_with fail
    go_must (refine HO.out.mono ?_)
    rintro e w5 ⟨x5, rfl, hx5, hb5⟩
    have HAD := Lib.hid (AD.out w5 _ _ (nat_keeps HX4.out hb5) hx5)
    have HB5 := Lib.hid (below_then HB4.out hb5)
    have HR5 := Lib.hid (HR4.out.below hb5)
    clear hx5 hb5 HO HB4 HR4 HX4 AD
    go_wp2_with fail
    go_must (refine HAD.out.mono ?_)
    rintro e w6 ⟨x6, rfl, hx6, hb6⟩
    obtain ⟨b6, p6, n6, q6, rfl⟩ := nat_shape hx6
    have hal := below_near w6 (.cells #[.bool b6, .slice p6 n6 q6] 25)
    have HX6 := Lib.hid (NBox.new hx6)
    have HB6 := Lib.hid (below_then (below_then HB5.out hb6) hal)
    have HR6 := Lib.hid ((HR5.out.below hb6).below hal)
    clear hx6 hb6 HAD HB5 HR5 hal
    go_wp2_with fail
    generalize w6.alloc (.cells #[.bool b6, .slice p6 n6 q6] 25) = w7 at *
    generalize w6.heap.size = t4 at *
    have HAR := Lib.hid (HA2.out w7)
    clear HA2
    go_must (refine HAR.out.mono ?_)
    rintro e w8 ⟨b, hb2, rfl, rfl⟩
    obtain ⟨sz, az, mz, cz, lz, hz⟩ := HX6.out
    obtain ⟨c0, c1, _, _⟩ := cells2 lz
    obtain ⟨sr, ar, mr, cr, lr, _⟩ := HR6.out
    obtain ⟨r0, r1, r2, r3⟩ := cells2 lr
    clear HAR HX6 HR6
    obtain rfl | rfl : b = 0 ∨ b = 1 := by omega
    · have HE := Lib.hid (HEND.out _ (.inl rfl) _ _ (nend_at (w := w) HB6.out (Nat.le_refl _) lr hz))
      clear NG HEND hz lz lr
      go_wp2_with fail
      refine bodyPost_ret (v := .agg #[.bool sz, .slice az mz cz]) (by simp [results, Tryd.results20, go_sem, r0, r1]) rfl ?_
      exact HE.out
    · have HNG := Lib.hid (NG.out w7 _ hz)
      have HLR := Lib.hid lr
      clear NG hz lz lr
      go_wp2_with fail
      go_must (refine HNG.out.mono ?_)
      rintro e w9 ⟨x9, rfl, hx9, hb9⟩
      obtain ⟨b9, p9, n9, q9, rfl⟩ := nat_shape hx9
      obtain ⟨r0, r1, r2, r3⟩ := cells2 (HLR.out.below hb9)
      have HE := Lib.hid (HEND.out _ (.inr rfl) _ _ (nend_at (w := w) (below_then HB6.out hb9) (Nat.le_refl _) (HLR.out.below hb9) hx9))
      clear HEND hx9 hb9 HNG HLR
      go_wp2_with fail
      refine bodyPost_ret (v := .agg #[.bool b9, .slice p9 n9 q9]) (by simp [results, Tryd.results20, go_sem, r0, r1]) rfl ?_
      exact HE.out
end Go.Proofs.YtldbhlafijjkdaaDoor
