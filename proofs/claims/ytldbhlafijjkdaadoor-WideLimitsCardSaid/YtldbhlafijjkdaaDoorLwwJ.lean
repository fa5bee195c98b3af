/-
  The law WideLimits. (tools/genLwwD.py makes this text.)
-/
import Derived.Test.YtldbhlafijjkdaaDoorCmr
import Derived.Test.YtldbhlafijjkdaaDoorNra
import Derived.Test.YtldbhlafijjkdaaDoorNfi
import Derived.Test.YtldbhlafijjkdaaDoorNps
import Derived.Deep.DeepCutAuto
namespace Go.Proofs.YtldbhlafijjkdaaDoor
open Go.RowKit Go.Shelf
set_option linter.unusedVariables false
set_option maxRecDepth 100000

theorem two_ten2 {k m : Nat} (hk : k = 16386) (hm : m = 4990) : 2 ^ k < 10 ^ m := by subst hk; subst hm; decide +kernel
/-- Sizes that the reference's Parse takes. -/
def Mid (z : Int) : Prop := (digs z.natAbs).length ≤ 20000 ∧ (digsW z.natAbs).length ≤ 20000 ∧ (txtN z).length ≤ 5000
def MidEnd (w : World) (e : Ending) (w' : World) : Prop := ∃ z : Int, Mid z ∧ NEnd z w e w'
def TopEnd (w : World) (e : Ending) (w' : World) : Prop := ∃ z : Int, (Mid z ∧ Small z) ∧ NEnd z w e w'
theorem digsW_two {x K : Nat} (h : x ≤ 2 ^ K) : (digsW x).length ≤ K + 1 := by
  refine digs_len_leW (Nat.lt_of_le_of_lt h ?_)
  exact Nat.lt_of_lt_of_le (Nat.pow_lt_pow_right (by decide) (Nat.lt_succ_self K)) (Nat.pow_le_pow_left (by decide) _)
theorem near_mids {E : Nat} {d z : Int} (hE : E ≤ 16384) (hd : -3 ≤ d ∧ d ≤ 3) (hz : z = ((2 ^ E : Nat) : Int) + d ∨ z = -(((2 ^ E : Nat) : Int) + d)) : Mid z ∧ z.natAbs ≤ 2 ^ (E + 2) := by
  have h1 := near_bnd (E := E) hd
  have h2 := near_digs hE hd
  have hn : z.natAbs = (((2 ^ E : Nat) : Int) + d).natAbs := by rcases hz with rfl | rfl <;> simp [Int.natAbs_neg]
  refine ⟨⟨by rw [hn]; exact h2, ?_, ?_⟩, by rw [hn]; exact h1⟩
  · have := digsW_two h1
    rw [hn]; omega
  · obtain ⟨k, hk⟩ : ∃ k, k = 16386 := ⟨_, rfl⟩
    obtain ⟨m, hm⟩ : ∃ m, m = 4990 := ⟨_, rfl⟩
    have h3 := two_ten2 hk hm
    have h4 : (2 : Nat) ^ (E + 2) ≤ 2 ^ k := Nat.pow_le_pow_right (by decide) (by omega)
    have := txtN_len (n := z) (k := m) (by rw [hn]; exact Nat.lt_of_le_of_lt h1 (Nat.lt_of_le_of_lt h4 h3)) (by omega)
    omega
/-- A slice of integers of the package, and one of errors. -/
def IRow (W : World) (b : Nat) (zs : List Int) : Prop := b < W.heap.size ∧ ∀ k z, zs[k]? = some z → ∃ (s : Bool) (a : Option Addr) (m c : Nat), (W.cell? ⟨b, k * 2, none⟩ = some (.bool s) ∧ W.cell? ⟨b, k * 2 + 1, none⟩ = some (.slice a m c)) ∧ IAt W (.agg #[.bool s, .slice a m c]) z
theorem irow_keeps {W W2 : World} {b : Nat} {zs : List Int} (h : IRow W b zs) (hb : Below W.heap.size W W2) : IRow W2 b zs := by
  refine ⟨Nat.lt_of_lt_of_le h.1 hb.size, fun k z hz => ?_⟩
  obtain ⟨s, a, m, c, ⟨h1, h2⟩, h3⟩ := h.2 k z hz
  exact ⟨s, a, m, c, ⟨(hb.cell (p := ⟨b, k * 2, none⟩) h.1).trans h1, (hb.cell (p := ⟨b, k * 2 + 1, none⟩) h.1).trans h2⟩, iat_keeps h3 hb⟩
def ERow (W : World) (b : Nat) (cs : List Int) : Prop := b < W.heap.size ∧ ∀ k c, cs[k]? = some c → W.cell? ⟨b, k, none⟩ = some (.int .i64 c)
theorem erow_keeps {W W2 : World} {b : Nat} {cs : List Int} (h : ERow W b cs) (hb : Below W.heap.size W W2) : ERow W2 b cs :=
  ⟨Nat.lt_of_lt_of_le h.1 hb.size, fun k c hc => (hb.cell (p := ⟨b, k, none⟩) h.1).trans (h.2 k c hc)⟩
theorem erow_four (W : World) (c0 c1 c2 c3 : Int) : ERow (W.alloc (.cells #[.int .i64 c0, .int .i64 c1, .int .i64 c2, .int .i64 c3] 34)) W.heap.size [c0, c1, c2, c3] := by
  have hl := Laid.new W 34 [.int .i64 c0, .int .i64 c1, .int .i64 c2, .int .i64 c3]
  refine ⟨hl.lt, fun k c hc => ?_⟩
  match k, hc with
  | 0, hc => cases hc; exact hl.cell 0
  | 1, hc => cases hc; exact hl.cell 1
  | 2, hc => cases hc; exact hl.cell 2
  | 3, hc => cases hc; exact hl.cell 3
section
variable {W : World} {z0 z1 z2 z3 : Int} {s0 s1 s2 s3 : Bool} {a0 a1 a2 a3 : Option Addr} {m0 m1 m2 m3 c0 c1 c2 c3 : Nat}
theorem irow_four (h0 : IAt W (.agg #[.bool s0, .slice a0 m0 c0]) z0) (h1 : IAt W (.agg #[.bool s1, .slice a1 m1 c1]) z1) (h2 : IAt W (.agg #[.bool s2, .slice a2 m2 c2]) z2) (h3 : IAt W (.agg #[.bool s3, .slice a3 m3 c3]) z3) :
    IRow (W.alloc (.cells #[.bool s0, .slice a0 m0 c0, .bool s1, .slice a1 m1 c1, .bool s2, .slice a2 m2 c2, .bool s3, .slice a3 m3 c3] 33)) W.heap.size [z0, z1, z2, z3] := by
  have hl := Laid.new W 33 [.bool s0, .slice a0 m0 c0, .bool s1, .slice a1 m1 c1, .bool s2, .slice a2 m2 c2, .bool s3, .slice a3 m3 c3]
  have hb := below_one W (.cells #[.bool s0, .slice a0 m0 c0, .bool s1, .slice a1 m1 c1, .bool s2, .slice a2 m2 c2, .bool s3, .slice a3 m3 c3] 33)
  refine ⟨hl.lt, fun k z hz => ?_⟩
  match k, hz with
  | 0, hz => cases hz; exact ⟨s0, a0, m0, c0, ⟨hl.cell 0, hl.cell 1⟩, iat_keeps h0 hb⟩
  | 1, hz => cases hz; exact ⟨s1, a1, m1, c1, ⟨hl.cell 2, hl.cell 3⟩, iat_keeps h1 hb⟩
  | 2, hz => cases hz; exact ⟨s2, a2, m2, c2, ⟨hl.cell 4, hl.cell 5⟩, iat_keeps h2 hb⟩
  | 3, hz => cases hz; exact ⟨s3, a3, m3, c3, ⟨hl.cell 6, hl.cell 7⟩, iat_keeps h3 hb⟩
theorem nrow_four (h0 : NAt W (.agg #[.bool s0, .slice a0 m0 c0]) z0) (h1 : NAt W (.agg #[.bool s1, .slice a1 m1 c1]) z1) (h2 : NAt W (.agg #[.bool s2, .slice a2 m2 c2]) z2) (h3 : NAt W (.agg #[.bool s3, .slice a3 m3 c3]) z3) :
    NRow (W.alloc (.cells #[.bool s0, .slice a0 m0 c0, .bool s1, .slice a1 m1 c1, .bool s2, .slice a2 m2 c2, .bool s3, .slice a3 m3 c3] 25)) W.heap.size [z0, z1, z2, z3] := by
  have hl := Laid.new W 25 [.bool s0, .slice a0 m0 c0, .bool s1, .slice a1 m1 c1, .bool s2, .slice a2 m2 c2, .bool s3, .slice a3 m3 c3]
  have hb := below_one W (.cells #[.bool s0, .slice a0 m0 c0, .bool s1, .slice a1 m1 c1, .bool s2, .slice a2 m2 c2, .bool s3, .slice a3 m3 c3] 25)
  refine ⟨hl.lt, fun k z hz => ?_⟩
  match k, hz with
  | 0, hz => cases hz; exact ⟨s0, a0, m0, c0, ⟨hl.cell 0, hl.cell 1⟩, nat_keeps h0 hb⟩
  | 1, hz => cases hz; exact ⟨s1, a1, m1, c1, ⟨hl.cell 2, hl.cell 3⟩, nat_keeps h1 hb⟩
  | 2, hz => cases hz; exact ⟨s2, a2, m2, c2, ⟨hl.cell 4, hl.cell 5⟩, nat_keeps h2 hb⟩
  | 3, hz => cases hz; exact ⟨s3, a3, m3, c3, ⟨hl.cell 6, hl.cell 7⟩, nat_keeps h3 hb⟩
end
theorem digs_mul {a b : Int} {k : Nat} (ha : (digs a.natAbs).length ≤ k) (hb : (digs b.natAbs).length ≤ k) : (digs (a * b).natAbs).length ≤ k + k := by
  refine digs_len_le ?_
  rw [Int.natAbs_mul, Nat.pow_add]
  have h1 := digs_len_lt a.natAbs
  have h2 := digs_len_lt b.natAbs
  have h3 : 10000 ^ (digs a.natAbs).length ≤ 10000 ^ k := Nat.pow_le_pow_right (by decide) ha
  have h4 : 10000 ^ (digs b.natAbs).length ≤ 10000 ^ k := Nat.pow_le_pow_right (by decide) hb
  exact Nat.mul_lt_mul'' (by omega) (by omega)
theorem digs_sum {a b : Int} {k : Nat} (ha : (digs a.natAbs).length ≤ k) (hb : (digs b.natAbs).length ≤ k) : (digs (a + b).natAbs).length ≤ k + 1 ∧ (digs (a - b).natAbs).length ≤ k + 1 := by
  have h1 := digs_len_lt a.natAbs
  have h2 := digs_len_lt b.natAbs
  have h3 : 10000 ^ (digs a.natAbs).length ≤ 10000 ^ k := Nat.pow_le_pow_right (by decide) ha
  have h4 : 10000 ^ (digs b.natAbs).length ≤ 10000 ^ k := Nat.pow_le_pow_right (by decide) hb
  constructor <;> (refine digs_len_le ?_; rw [Nat.pow_succ]; omega)
theorem digs3 {d : Int} (h : -3 ≤ d ∧ d ≤ 3) : (digs d.natAbs).length ≤ 20000 := by
  have := digs_len_le (n := d.natAbs) (k := 1) (by omega)
  omega
theorem lim_rng {a b c : Int} (ha : (digs a.natAbs).length ≤ 20000) (hb : (digs b.natAbs).length ≤ 20000) (hc : (digs c.natAbs).length ≤ 20000) : ∀ k, k < 4 → ∃ z, [a + b, a - b, a * b, c * c][k]? = some z ∧ (digs z.natAbs).length ≤ 500000 := by
  intro k hk
  match k, hk with
  | 0, _ => exact ⟨_, rfl, by have := (digs_sum ha hb).1; omega⟩
  | 1, _ => exact ⟨_, rfl, by have := (digs_sum ha hb).2; omega⟩
  | 2, _ => exact ⟨_, rfl, by have := digs_mul ha hb; omega⟩
  | 3, _ => exact ⟨_, rfl, by have := digs_mul hc hc; omega⟩
theorem near_mid (n : Int) (w : World) (hn : -9223372036854775808 ≤ n ∧ n ≤ 9223372036854775807) : Calls Tryd.prog 20 #[.int .i64 n] w (MidEnd w) := by
  obtain ⟨k, hk⟩ := Int.eq_ofNat_of_zero_le (show 0 ≤ aroundI n 28 from Int.emod_nonneg _ (by decide))
  have hk2 : k < 28 := by have := (show aroundI n 28 < 28 from Int.emod_lt_of_pos _ (by decide)); omega
  refine (near_at n k (k % 4) (nearE (k % 4)) w hn hk hk2 rfl rfl).mono ?_
  rintro e w' ⟨z, hz, h⟩
  exact ⟨z, (near_mids (by unfold nearE; split <;> (try split) <;> (try split) <;> omega) (by omega) hz).1, h⟩
theorem near_top (a : Nat) (w : World) (ha : a < 7) : Calls Tryd.prog 20 #[.int .i64 (4 * (a : Int) + 2)] w (TopEnd w) := by
  have hk : aroundI (4 * (a : Int) + 2) 28 = ((4 * a + 2 : Nat) : Int) := by
    unfold aroundI
    rw [if_neg (by omega)]
    omega
  obtain ⟨E, hE⟩ : ∃ E, E = 8192 := ⟨_, rfl⟩
  refine (near_at _ (4 * a + 2) 2 E w (by omega) hk (by omega) (by omega) (by rw [hE]; rfl)).mono ?_
  rintro e w' ⟨z, hz, h⟩
  have := near_mids (E := E) (by omega) (d := (((4 * a + 2) / 4 : Nat) - 3 : Int)) (by omega) hz
  exact ⟨z, ⟨this.1, small_of this.2 (by omega)⟩, h⟩
theorem small3 {d : Int} (h : -3 ≤ d ∧ d ≤ 3) : Small d := small_of (K := 3) (by show d.natAbs ≤ 8; omega) (by decide)
theorem small_not {z : Int} (h : ¬ big z) : Small z := by
  obtain ⟨k, hk⟩ : ∃ k, k = 16384 := ⟨_, rfl⟩
  have := big_pow (n := z) (k := k) (m := 512) rfl (by rw [hk])
  exact small_lt hk (by have := mt this.2 h; omega)
open Classical in
noncomputable def lim (z : Int) : Int := if big z then 0 else z
open Classical in
noncomputable def ec (z : Int) : Int := if big z then 4 else 0
theorem rend_lim {W : World} {b : Bool} {a : Option Addr} {m k : Nat} {z c : Int} (h : RIs W b a m k z c) : c = ec z ∧ IAt W (.agg #[.bool b, .slice a m k]) (lim z) := by
  unfold ec lim
  rcases h with ⟨h1, h2, h3⟩ | ⟨h1, h2, h3⟩
  · rw [if_neg h1, if_neg h1]; exact ⟨h2, h3⟩
  · obtain ⟨rfl, rfl, rfl, rfl⟩ := h3
    rw [if_pos h1, if_pos h1]; exact ⟨h2, iat_zero W⟩
theorem rend_big {W : World} {b : Bool} {a : Option Addr} {m k : Nat} {z c : Int} (h : RIs W b a m k z c) (hb : big z) : c = 4 ∧ IAt W (.agg #[.bool b, .slice a m k]) 0 := by
  have := rend_lim h
  unfold ec lim at this
  rwa [if_pos hb, if_pos hb] at this
theorem nrend_small {W : World} {x : Value} {z c : Int} (h : (¬ big z ∧ c = 0 ∧ NAt W x z) ∨ (big z ∧ c = 4 ∧ x = .agg #[.bool false, .slice none 0 0])) (hb : ¬ big z) : c = 0 ∧ NAt W x z := by
  rcases h with ⟨_, h1, h2⟩ | ⟨h, _⟩
  · exact ⟨h1, h2⟩
  · exact absurd h hb
theorem nrend_big {W : World} {x : Value} {z c : Int} (h : (¬ big z ∧ c = 0 ∧ NAt W x z) ∨ (big z ∧ c = 4 ∧ x = .agg #[.bool false, .slice none 0 0])) (hb : big z) : c = 4 ∧ NAt W x 0 := by
  rcases h with ⟨h, _⟩ | ⟨_, h1, rfl⟩
  · exact absurd hb h
  · exact ⟨h1, nat_zero W⟩

set_option maxHeartbeats 8000000 in
theorem walk_WideLimits (n m k : Int) (w : World) (hn : -9223372036854775808 ≤ n ∧ n ≤ 9223372036854775807) (hm : -9223372036854775808 ≤ m ∧ m ≤ 9223372036854775807) (hk : -9223372036854775808 ≤ k ∧ k ≤ 9223372036854775807) :
    Calls Tryd.prog 7 #[.int .i64 n, .int .i64 m, .int .i64 k] w fun e w' => e = .returned (.bool true) ∧ Below w.heap.size w w' := by
  have HN := Lib.hid hn
  have HM := Lib.hid hm
  have HK := Lib.hid hk
  have HB : Hid (Below w.heap.size w w) := Lib.hid (Below.refl _ _)
  obtain ⟨b, hb0, hb1⟩ : ∃ b : Int, b = boundI k 3 ∧ (-3 ≤ b ∧ b ≤ 3) := ⟨_, rfl, boundI_range k (by decide)⟩
  have BND : Hid (∀ w', Calls Tryd.prog 27 #[.int .i64 k, .int .i64 3] w' fun e w2 => e = .returned (.int .i64 b) ∧ w' = w2) := Lib.hid (fun w' => by rw [hb0]; exact bound_any k 3 w' HK.out (by decide))
  have ARD : Hid (∀ w', Calls Tryd.prog 10 #[.int .i64 m, .int .i64 7] w' (AroundEnd 7 w')) := Lib.hid (fun w' => around_nat m 7 w' HM.out (by decide) (by decide))
  unfold AroundEnd at ARD
  have HBB := Lib.hid hb1
  clear hb0 hb1
  go_enter Tryd.func7, Tryd.ntmps7
  go_wp2_with fail
  have C0 := near_mid n w HN.out
  unfold MidEnd at C0
  unfold NEnd at C0
  have HC0 := Lib.hid C0
  clear C0
  go_must (refine HC0.out.mono ?_)
  rintro e w0 ⟨zA, hzA, y0, rfl, hx0, hb0⟩
  have HZA := Lib.hid hzA
  clear hzA
  obtain ⟨b0, p0, n0, q0, rfl⟩ := nat_shape hx0
  have hbb := below_then hb0 (below_one w0 (.cells #[.bool b0, .slice p0 n0 q0] 25))
  have U := Lib.hid (below_then HB.out hbb)
  clear HB
  have HB := U
  clear U
  have TA := Lib.hid (NBox.new hx0)
  clear HC0 hb0 hbb hx0
  go_wp2_with fail
  generalize w0.alloc (.cells #[.bool b0, .slice p0 n0 q0] 25) = W0 at *
  generalize w0.heap.size = t0 at *
  go_must (refine (BND.out _).mono ?_)
  rintro e wB ⟨rfl, rfl⟩
  clear BND
  go_wp2_with fail
  have C1 := of_any b W0 (by have := HBB.out; omega)
  unfold NEnd at C1
  have HC1 := Lib.hid C1
  clear C1
  go_must (refine HC1.out.mono ?_)
  rintro e w1 ⟨y1, rfl, hx1, hb1⟩
  obtain ⟨b1, p1, n1, q1, rfl⟩ := nat_shape hx1
  have hbb := below_then hb1 (below_one w1 (.cells #[.bool b1, .slice p1 n1 q1] 25))
  have U := Lib.hid (TA.out.below hbb)
  clear TA
  have TA := U
  clear U
  have U := Lib.hid (below_then HB.out hbb)
  clear HB
  have HB := U
  clear U
  have TB := Lib.hid (NBox.new hx1)
  clear HC1 hb1 hbb hx1
  go_wp2_with fail
  generalize w1.alloc (.cells #[.bool b1, .slice p1 n1 q1] 25) = W1 at *
  generalize w1.heap.size = t1 at *
  go_must (refine (ARD.out _).mono ?_)
  rintro e wC ⟨a, ha, rfl, rfl⟩
  clear ARD
  have HAA := Lib.hid ha
  go_wp2_with fail
  have C2 := near_top a W1 HAA.out
  unfold TopEnd at C2
  unfold NEnd at C2
  have HC2 := Lib.hid C2
  clear C2
  go_must (refine HC2.out.mono ?_)
  rintro e w2 ⟨zC, hzC, y2, rfl, hx2, hb2⟩
  have HZC := Lib.hid hzC
  clear hzC
  obtain ⟨b2, p2, n2, q2, rfl⟩ := nat_shape hx2
  have hbb := below_then hb2 (below_one w2 (.cells #[.bool b2, .slice p2 n2 q2] 25))
  have U := Lib.hid (TA.out.below hbb)
  clear TA
  have TA := U
  clear U
  have U := Lib.hid (TB.out.below hbb)
  clear TB
  have TB := U
  clear U
  have U := Lib.hid (below_then HB.out hbb)
  clear HB
  have HB := U
  clear U
  have TC := Lib.hid (NBox.new hx2)
  clear HC2 hb2 hbb hx2
  obtain ⟨sA3, aA3, mA3, kA3, ⟨cA30, cA31⟩, _, hA3, _⟩ := TA.out.open
  go_wp2_with fail
  generalize w2.alloc (.cells #[.bool b2, .slice p2 n2 q2] 25) = W2 at *
  generalize w2.heap.size = t2 at *
  have C3 := text_any _ zA W2 hA3 (by have := HZA.out.1; omega)
  unfold TxtEnd at C3
  have HC3 := Lib.hid C3
  clear C3
  clear cA30 cA31 hA3
  go_must (refine HC3.out.mono ?_)
  rintro e w3 ⟨rfl, hb3⟩
  have hbb := hb3
  have U := Lib.hid (TA.out.below hbb)
  clear TA
  have TA := U
  clear U
  have U := Lib.hid (TB.out.below hbb)
  clear TB
  have TB := U
  clear U
  have U := Lib.hid (TC.out.below hbb)
  clear TC
  have TC := U
  clear U
  have U := Lib.hid (below_then HB.out hbb)
  clear HB
  have HB := U
  clear U
  clear HC3 hb3 hbb 
  go_wp2_with fail
  rcases Classical.em (big zA) with hbig | hbig
  · have HBG := Lib.hid hbig
    clear hbig
    have C4 := wParse_txt zA w3 HZA.out.2.2
    have HC4 := Lib.hid C4
    clear C4
    go_must (refine HC4.out.mono ?_)
    rintro e w4 hw4
    obtain ⟨b4, p4, n4, q4, e4, rfl, hy4, hb4⟩ := rend_form hw4
    obtain ⟨rfl, hx4⟩ := rend_big hy4 HBG.out
    have hbb := below_then hb4 (below_one w4 (.cells #[.bool b4, .slice p4 n4 q4] 33))
    clear hw4 hy4
    have U := Lib.hid (TA.out.below hbb)
    clear TA
    have TA := U
    clear U
    have U := Lib.hid (TB.out.below hbb)
    clear TB
    have TB := U
    clear U
    have U := Lib.hid (TC.out.below hbb)
    clear TC
    have TC := U
    clear U
    have U := Lib.hid (below_then HB.out hbb)
    clear HB
    have HB := U
    clear U
    have TX := Lib.hid (IBox.new hx4)
    clear HC4 hb4 hbb hx4
    obtain ⟨sA5, aA5, mA5, kA5, ⟨cA50, cA51⟩, _, hA5, _⟩ := TA.out.open
    go_wp2_with fail
    generalize w4.alloc (.cells #[.bool b4, .slice p4 n4 q4] 33) = W4 at *
    generalize w4.heap.size = t4 at *
    have C5 := text_any _ zA W4 hA5 (by have := HZA.out.1; omega)
    unfold TxtEnd at C5
    have HC5 := Lib.hid C5
    clear C5
    clear cA50 cA51 hA5
    go_must (refine HC5.out.mono ?_)
    rintro e w5 ⟨rfl, hb5⟩
    have hbb := hb5
    have U := Lib.hid (TA.out.below hbb)
    clear TA
    have TA := U
    clear U
    have U := Lib.hid (TB.out.below hbb)
    clear TB
    have TB := U
    clear U
    have U := Lib.hid (TC.out.below hbb)
    clear TC
    have TC := U
    clear U
    have U := Lib.hid (TX.out.below hbb)
    clear TX
    have TX := U
    clear U
    have U := Lib.hid (below_then HB.out hbb)
    clear HB
    have HB := U
    clear U
    clear HC5 hb5 hbb 
    go_wp2_with fail
    have C6 := nParse_txt zA w5 HZA.out.2.2
    unfold NREnd at C6
    have HC6 := Lib.hid C6
    clear C6
    go_must (refine HC6.out.mono ?_)
    rintro e w6 ⟨x6, e6, rfl, hy6, hb6⟩
    obtain ⟨rfl, hx6⟩ := nrend_big hy6 HBG.out
    obtain ⟨b6, p6, n6, q6, rfl⟩ := nat_shape hx6
    have hbb := below_then hb6 (below_one w6 (.cells #[.bool b6, .slice p6 n6 q6] 25))
    clear hy6
    have U := Lib.hid (TA.out.below hbb)
    clear TA
    have TA := U
    clear U
    have U := Lib.hid (TB.out.below hbb)
    clear TB
    have TB := U
    clear U
    have U := Lib.hid (TC.out.below hbb)
    clear TC
    have TC := U
    clear U
    have U := Lib.hid (TX.out.below hbb)
    clear TX
    have TX := U
    clear U
    have U := Lib.hid (below_then HB.out hbb)
    clear HB
    have HB := U
    clear U
    have TF := Lib.hid (NBox.new hx6)
    clear HC6 hb6 hbb hx6
    obtain ⟨sB7, aB7, mB7, kB7, ⟨cB70, cB71⟩, _, hB7, _⟩ := TB.out.open
    go_wp2_with fail
    generalize w6.alloc (.cells #[.bool b6, .slice p6 n6 q6] 25) = W6 at *
    generalize w6.heap.size = t6 at *
    have C7 := wider_any _ b W6 hB7 (small3 HBB.out)
    unfold WiderEnd at C7
    have HC7 := Lib.hid C7
    clear C7
    clear cB70 cB71 hB7
    go_must (refine HC7.out.mono ?_)
    rintro e w7 ⟨b7, p7, n7, q7, rfl, hx7, hb7⟩
    have hbb := below_then hb7 (below_one w7 (.cells #[.bool b7, .slice p7 n7 q7] 33))
    have U := Lib.hid (TA.out.below hbb)
    clear TA
    have TA := U
    clear U
    have U := Lib.hid (TB.out.below hbb)
    clear TB
    have TB := U
    clear U
    have U := Lib.hid (TC.out.below hbb)
    clear TC
    have TC := U
    clear U
    have U := Lib.hid (TX.out.below hbb)
    clear TX
    have TX := U
    clear U
    have U := Lib.hid (TF.out.below hbb)
    clear TF
    have TF := U
    clear U
    have U := Lib.hid (below_then HB.out hbb)
    clear HB
    have HB := U
    clear U
    have TY := Lib.hid (IBox.new hx7)
    clear HC7 hb7 hbb hx7
    obtain ⟨sC8, aC8, mC8, kC8, ⟨cC80, cC81⟩, _, hC8, _⟩ := TC.out.open
    go_wp2_with fail
    generalize w7.alloc (.cells #[.bool b7, .slice p7 n7 q7] 33) = W7 at *
    generalize w7.heap.size = t7 at *
    have C8 := wider_any _ zC W7 hC8 (HZC.out.2)
    unfold WiderEnd at C8
    have HC8 := Lib.hid C8
    clear C8
    clear cC80 cC81 hC8
    go_must (refine HC8.out.mono ?_)
    rintro e w8 ⟨b8, p8, n8, q8, rfl, hx8, hb8⟩
    have hbb := below_then hb8 (below_one w8 (.cells #[.bool b8, .slice p8 n8 q8] 33))
    have U := Lib.hid (TA.out.below hbb)
    clear TA
    have TA := U
    clear U
    have U := Lib.hid (TB.out.below hbb)
    clear TB
    have TB := U
    clear U
    have U := Lib.hid (TC.out.below hbb)
    clear TC
    have TC := U
    clear U
    have U := Lib.hid (TX.out.below hbb)
    clear TX
    have TX := U
    clear U
    have U := Lib.hid (TF.out.below hbb)
    clear TF
    have TF := U
    clear U
    have U := Lib.hid (TY.out.below hbb)
    clear TY
    have TY := U
    clear U
    have U := Lib.hid (below_then HB.out hbb)
    clear HB
    have HB := U
    clear U
    have TZ := Lib.hid (IBox.new hx8)
    clear HC8 hb8 hbb hx8
    obtain ⟨sXE, aXE, mXE, kXE, ⟨cXE0, cXE1⟩, hXE⟩ := TX.out.open
    go_wp2_with fail
    generalize w8.alloc (.cells #[.bool b8, .slice p8 n8 q8] 33) = W8 at *
    generalize w8.heap.size = t8 at *
    have CP := equal_any _ _ _ (same_mk hXE (nat_zero W8) (small_zero rfl))
    unfold TrueEnd at CP
    have HCP := Lib.hid CP
    clear CP cXE0 cXE1 hXE
    go_must (refine HCP.out.mono ?_)
    rintro e w95 ⟨rfl, hbe⟩
    have HE1 := Lib.hid (below_then HB.out hbe)
    have LV := lives_any w95
    unfold TrueEnd at LV
    have HLV := Lib.hid LV
    clear LV hbe HCP
    go_wp2_with fail
    go_must (refine HLV.out.mono ?_)
    rintro e w96 ⟨rfl, hbe⟩
    have HE := Lib.hid (below_then HE1.out hbe)
    clear hbe HLV
    go_wp2_with fail
    go_ret
    exact ⟨rfl, HE.out⟩
  · have HBG := Lib.hid hbig
    clear hbig
    have C4 := wParse_txt zA w3 HZA.out.2.2
    have HC4 := Lib.hid C4
    clear C4
    go_must (refine HC4.out.mono ?_)
    rintro e w4 hw4
    obtain ⟨b4, p4, n4, q4, e4, rfl, hy4, hb4⟩ := rend_form hw4
    obtain ⟨rfl, hx4⟩ : e4 = 0 ∧ IAt w4 (.agg #[.bool b4, .slice p4 n4 q4]) (zA) := by
      rcases hy4 with ⟨_, h1, h2⟩ | ⟨h, _⟩
      · exact ⟨h1, h2⟩
      · exact absurd h HBG.out
    have hbb := below_then hb4 (below_one w4 (.cells #[.bool b4, .slice p4 n4 q4] 33))
    clear hw4 hy4
    have U := Lib.hid (TA.out.below hbb)
    clear TA
    have TA := U
    clear U
    have U := Lib.hid (TB.out.below hbb)
    clear TB
    have TB := U
    clear U
    have U := Lib.hid (TC.out.below hbb)
    clear TC
    have TC := U
    clear U
    have U := Lib.hid (below_then HB.out hbb)
    clear HB
    have HB := U
    clear U
    have TX := Lib.hid (IBox.new hx4)
    clear HC4 hb4 hbb hx4
    obtain ⟨sA5, aA5, mA5, kA5, ⟨cA50, cA51⟩, _, hA5, _⟩ := TA.out.open
    go_wp2_with fail
    generalize w4.alloc (.cells #[.bool b4, .slice p4 n4 q4] 33) = W4 at *
    generalize w4.heap.size = t4 at *
    have C5 := text_any _ zA W4 hA5 (by have := HZA.out.1; omega)
    unfold TxtEnd at C5
    have HC5 := Lib.hid C5
    clear C5
    clear cA50 cA51 hA5
    go_must (refine HC5.out.mono ?_)
    rintro e w5 ⟨rfl, hb5⟩
    have hbb := hb5
    have U := Lib.hid (TA.out.below hbb)
    clear TA
    have TA := U
    clear U
    have U := Lib.hid (TB.out.below hbb)
    clear TB
    have TB := U
    clear U
    have U := Lib.hid (TC.out.below hbb)
    clear TC
    have TC := U
    clear U
    have U := Lib.hid (TX.out.below hbb)
    clear TX
    have TX := U
    clear U
    have U := Lib.hid (below_then HB.out hbb)
    clear HB
    have HB := U
    clear U
    clear HC5 hb5 hbb 
    go_wp2_with fail
    have C6 := nParse_txt zA w5 HZA.out.2.2
    unfold NREnd at C6
    have HC6 := Lib.hid C6
    clear C6
    go_must (refine HC6.out.mono ?_)
    rintro e w6 ⟨x6, e6, rfl, hy6, hb6⟩
    obtain ⟨rfl, hx6⟩ := nrend_small hy6 HBG.out
    obtain ⟨b6, p6, n6, q6, rfl⟩ := nat_shape hx6
    have hbb := below_then hb6 (below_one w6 (.cells #[.bool b6, .slice p6 n6 q6] 25))
    clear hy6
    have U := Lib.hid (TA.out.below hbb)
    clear TA
    have TA := U
    clear U
    have U := Lib.hid (TB.out.below hbb)
    clear TB
    have TB := U
    clear U
    have U := Lib.hid (TC.out.below hbb)
    clear TC
    have TC := U
    clear U
    have U := Lib.hid (TX.out.below hbb)
    clear TX
    have TX := U
    clear U
    have U := Lib.hid (below_then HB.out hbb)
    clear HB
    have HB := U
    clear U
    have TF := Lib.hid (NBox.new hx6)
    clear HC6 hb6 hbb hx6
    obtain ⟨sB7, aB7, mB7, kB7, ⟨cB70, cB71⟩, _, hB7, _⟩ := TB.out.open
    go_wp2_with fail
    generalize w6.alloc (.cells #[.bool b6, .slice p6 n6 q6] 25) = W6 at *
    generalize w6.heap.size = t6 at *
    have C7 := wider_any _ b W6 hB7 (small3 HBB.out)
    unfold WiderEnd at C7
    have HC7 := Lib.hid C7
    clear C7
    clear cB70 cB71 hB7
    go_must (refine HC7.out.mono ?_)
    rintro e w7 ⟨b7, p7, n7, q7, rfl, hx7, hb7⟩
    have hbb := below_then hb7 (below_one w7 (.cells #[.bool b7, .slice p7 n7 q7] 33))
    have U := Lib.hid (TA.out.below hbb)
    clear TA
    have TA := U
    clear U
    have U := Lib.hid (TB.out.below hbb)
    clear TB
    have TB := U
    clear U
    have U := Lib.hid (TC.out.below hbb)
    clear TC
    have TC := U
    clear U
    have U := Lib.hid (TX.out.below hbb)
    clear TX
    have TX := U
    clear U
    have U := Lib.hid (TF.out.below hbb)
    clear TF
    have TF := U
    clear U
    have U := Lib.hid (below_then HB.out hbb)
    clear HB
    have HB := U
    clear U
    have TY := Lib.hid (IBox.new hx7)
    clear HC7 hb7 hbb hx7
    obtain ⟨sC8, aC8, mC8, kC8, ⟨cC80, cC81⟩, _, hC8, _⟩ := TC.out.open
    go_wp2_with fail
    generalize w7.alloc (.cells #[.bool b7, .slice p7 n7 q7] 33) = W7 at *
    generalize w7.heap.size = t7 at *
    have C8 := wider_any _ zC W7 hC8 (HZC.out.2)
    unfold WiderEnd at C8
    have HC8 := Lib.hid C8
    clear C8
    clear cC80 cC81 hC8
    go_must (refine HC8.out.mono ?_)
    rintro e w8 ⟨b8, p8, n8, q8, rfl, hx8, hb8⟩
    have hbb := below_then hb8 (below_one w8 (.cells #[.bool b8, .slice p8 n8 q8] 33))
    have U := Lib.hid (TA.out.below hbb)
    clear TA
    have TA := U
    clear U
    have U := Lib.hid (TB.out.below hbb)
    clear TB
    have TB := U
    clear U
    have U := Lib.hid (TC.out.below hbb)
    clear TC
    have TC := U
    clear U
    have U := Lib.hid (TX.out.below hbb)
    clear TX
    have TX := U
    clear U
    have U := Lib.hid (TF.out.below hbb)
    clear TF
    have TF := U
    clear U
    have U := Lib.hid (TY.out.below hbb)
    clear TY
    have TY := U
    clear U
    have U := Lib.hid (below_then HB.out hbb)
    clear HB
    have HB := U
    clear U
    have TZ := Lib.hid (IBox.new hx8)
    clear HC8 hb8 hbb hx8
    obtain ⟨sX9, aX9, mX9, kX9, ⟨cX90, cX91⟩, hX9⟩ := TX.out.open
    obtain ⟨sY9, aY9, mY9, kY9, ⟨cY90, cY91⟩, hY9⟩ := TY.out.open
    go_wp2_with fail
    generalize w8.alloc (.cells #[.bool b8, .slice p8 n8 q8] 33) = W8 at *
    generalize w8.heap.size = t8 at *
    have C9 := wAdd_any _ _ _ _ W8 hX9 hY9 (small_not HBG.out).words (small3 HBB.out).words
    have HC9 := Lib.hid C9
    clear C9
    clear cX90 cX91 hX9
    clear cY90 cY91 hY9
    go_must (refine HC9.out.mono ?_)
    rintro e w9 hw9
    obtain ⟨b9, p9, n9, q9, e9, rfl, hy9, hb9⟩ := rend_form hw9
    obtain ⟨rfl, hx9⟩ := rend_lim hy9
    have hbb := below_then hb9 (below_one w9 (.cells #[.bool b9, .slice p9 n9 q9] 33))
    clear hw9 hy9
    have U := Lib.hid (TA.out.below hbb)
    clear TA
    have TA := U
    clear U
    have U := Lib.hid (TB.out.below hbb)
    clear TB
    have TB := U
    clear U
    have U := Lib.hid (TC.out.below hbb)
    clear TC
    have TC := U
    clear U
    have U := Lib.hid (TX.out.below hbb)
    clear TX
    have TX := U
    clear U
    have U := Lib.hid (TF.out.below hbb)
    clear TF
    have TF := U
    clear U
    have U := Lib.hid (TY.out.below hbb)
    clear TY
    have TY := U
    clear U
    have U := Lib.hid (TZ.out.below hbb)
    clear TZ
    have TZ := U
    clear U
    have U := Lib.hid (below_then HB.out hbb)
    clear HB
    have HB := U
    clear U
    have TS := Lib.hid (IBox.new hx9)
    clear HC9 hb9 hbb hx9
    obtain ⟨sX10, aX10, mX10, kX10, ⟨cX100, cX101⟩, hX10⟩ := TX.out.open
    obtain ⟨sY10, aY10, mY10, kY10, ⟨cY100, cY101⟩, hY10⟩ := TY.out.open
    go_wp2_with fail
    generalize w9.alloc (.cells #[.bool b9, .slice p9 n9 q9] 33) = W9 at *
    generalize w9.heap.size = t9 at *
    have C10 := wSub_any _ _ _ _ W9 hX10 hY10 (small_not HBG.out).words (small3 HBB.out).words
    have HC10 := Lib.hid C10
    clear C10
    clear cX100 cX101 hX10
    clear cY100 cY101 hY10
    go_must (refine HC10.out.mono ?_)
    rintro e w10 hw10
    obtain ⟨b10, p10, n10, q10, e10, rfl, hy10, hb10⟩ := rend_form hw10
    obtain ⟨rfl, hx10⟩ := rend_lim hy10
    have hbb := below_then hb10 (below_one w10 (.cells #[.bool b10, .slice p10 n10 q10] 33))
    clear hw10 hy10
    have U := Lib.hid (TA.out.below hbb)
    clear TA
    have TA := U
    clear U
    have U := Lib.hid (TB.out.below hbb)
    clear TB
    have TB := U
    clear U
    have U := Lib.hid (TC.out.below hbb)
    clear TC
    have TC := U
    clear U
    have U := Lib.hid (TX.out.below hbb)
    clear TX
    have TX := U
    clear U
    have U := Lib.hid (TF.out.below hbb)
    clear TF
    have TF := U
    clear U
    have U := Lib.hid (TY.out.below hbb)
    clear TY
    have TY := U
    clear U
    have U := Lib.hid (TZ.out.below hbb)
    clear TZ
    have TZ := U
    clear U
    have U := Lib.hid (TS.out.below hbb)
    clear TS
    have TS := U
    clear U
    have U := Lib.hid (below_then HB.out hbb)
    clear HB
    have HB := U
    clear U
    have TD := Lib.hid (IBox.new hx10)
    clear HC10 hb10 hbb hx10
    obtain ⟨sX11, aX11, mX11, kX11, ⟨cX110, cX111⟩, hX11⟩ := TX.out.open
    obtain ⟨sY11, aY11, mY11, kY11, ⟨cY110, cY111⟩, hY11⟩ := TY.out.open
    go_wp2_with fail
    generalize w10.alloc (.cells #[.bool b10, .slice p10 n10 q10] 33) = W10 at *
    generalize w10.heap.size = t10 at *
    have C11 := wMul_any _ _ _ _ W10 hX11 hY11 (small_not HBG.out).words (small3 HBB.out).words
    have HC11 := Lib.hid C11
    clear C11
    clear cX110 cX111 hX11
    clear cY110 cY111 hY11
    go_must (refine HC11.out.mono ?_)
    rintro e w11 hw11
    obtain ⟨b11, p11, n11, q11, e11, rfl, hy11, hb11⟩ := rend_form hw11
    obtain ⟨rfl, hx11⟩ := rend_lim hy11
    have hbb := below_then hb11 (below_one w11 (.cells #[.bool b11, .slice p11 n11 q11] 33))
    clear hw11 hy11
    have U := Lib.hid (TA.out.below hbb)
    clear TA
    have TA := U
    clear U
    have U := Lib.hid (TB.out.below hbb)
    clear TB
    have TB := U
    clear U
    have U := Lib.hid (TC.out.below hbb)
    clear TC
    have TC := U
    clear U
    have U := Lib.hid (TX.out.below hbb)
    clear TX
    have TX := U
    clear U
    have U := Lib.hid (TF.out.below hbb)
    clear TF
    have TF := U
    clear U
    have U := Lib.hid (TY.out.below hbb)
    clear TY
    have TY := U
    clear U
    have U := Lib.hid (TZ.out.below hbb)
    clear TZ
    have TZ := U
    clear U
    have U := Lib.hid (TS.out.below hbb)
    clear TS
    have TS := U
    clear U
    have U := Lib.hid (TD.out.below hbb)
    clear TD
    have TD := U
    clear U
    have U := Lib.hid (below_then HB.out hbb)
    clear HB
    have HB := U
    clear U
    have TP := Lib.hid (IBox.new hx11)
    clear HC11 hb11 hbb hx11
    obtain ⟨sZ12, aZ12, mZ12, kZ12, ⟨cZ120, cZ121⟩, hZ12⟩ := TZ.out.open
    go_wp2_with fail
    generalize w11.alloc (.cells #[.bool b11, .slice p11 n11 q11] 33) = W11 at *
    generalize w11.heap.size = t11 at *
    have C12 := wMul_any _ _ _ _ W11 hZ12 hZ12 (HZC.out.2).words (HZC.out.2).words
    have HC12 := Lib.hid C12
    clear C12
    clear cZ120 cZ121 hZ12
    go_must (refine HC12.out.mono ?_)
    rintro e w12 hw12
    obtain ⟨b12, p12, n12, q12, e12, rfl, hy12, hb12⟩ := rend_form hw12
    obtain ⟨rfl, hx12⟩ := rend_lim hy12
    have hbb := below_then hb12 (below_one w12 (.cells #[.bool b12, .slice p12 n12 q12] 33))
    clear hw12 hy12
    have U := Lib.hid (TA.out.below hbb)
    clear TA
    have TA := U
    clear U
    have U := Lib.hid (TB.out.below hbb)
    clear TB
    have TB := U
    clear U
    have U := Lib.hid (TC.out.below hbb)
    clear TC
    have TC := U
    clear U
    have U := Lib.hid (TX.out.below hbb)
    clear TX
    have TX := U
    clear U
    have U := Lib.hid (TF.out.below hbb)
    clear TF
    have TF := U
    clear U
    have U := Lib.hid (TY.out.below hbb)
    clear TY
    have TY := U
    clear U
    have U := Lib.hid (TZ.out.below hbb)
    clear TZ
    have TZ := U
    clear U
    have U := Lib.hid (TS.out.below hbb)
    clear TS
    have TS := U
    clear U
    have U := Lib.hid (TD.out.below hbb)
    clear TD
    have TD := U
    clear U
    have U := Lib.hid (TP.out.below hbb)
    clear TP
    have TP := U
    clear U
    have U := Lib.hid (below_then HB.out hbb)
    clear HB
    have HB := U
    clear U
    have TQ := Lib.hid (IBox.new hx12)
    clear HC12 hb12 hbb hx12
    obtain ⟨sSE, aSE, mSE, kSE, ⟨cSE0, cSE1⟩, hSE⟩ := TS.out.open
    obtain ⟨sDE, aDE, mDE, kDE, ⟨cDE0, cDE1⟩, hDE⟩ := TD.out.open
    obtain ⟨sPE, aPE, mPE, kPE, ⟨cPE0, cPE1⟩, hPE⟩ := TP.out.open
    obtain ⟨sQE, aQE, mQE, kQE, ⟨cQE0, cQE1⟩, hQE⟩ := TQ.out.open
    have HSZ := Lib.hid (size_alloc1 w12 (.cells #[.bool b12, .slice p12 n12 q12] 33))
    go_wp2_with fail
    generalize w12.alloc (.cells #[.bool b12, .slice p12 n12 q12] 33) = W12 at *
    generalize w12.heap.size = t12 at *
    have HIR := Lib.hid (irow_keeps (irow_four hSE hDE hPE hQE) (below_one _ (.cells #[.int .i64 (ec (zA + b)), .int .i64 (ec (zA - b)), .int .i64 (ec (zA * b)), .int .i64 (ec (zC * zC))] 34)))
    have HER := Lib.hid (erow_four (W12.alloc (.cells #[.bool sSE, .slice aSE mSE kSE, .bool sDE, .slice aDE mDE kDE, .bool sPE, .slice aPE mPE kPE, .bool sQE, .slice aQE mQE kQE] 33)) (ec (zA + b)) (ec (zA - b)) (ec (zA * b)) (ec (zC * zC)))
    rw [size_alloc1, HSZ.out] at HER
    rw [HSZ.out] at HIR
    have hbb := below_then (below_one W12 (.cells #[.bool sSE, .slice aSE mSE kSE, .bool sDE, .slice aDE mDE kDE, .bool sPE, .slice aPE mPE kPE, .bool sQE, .slice aQE mQE kQE] 33)) (below_one _ (.cells #[.int .i64 (ec (zA + b)), .int .i64 (ec (zA - b)), .int .i64 (ec (zA * b)), .int .i64 (ec (zC * zC))] 34))
    clear cSE0 cSE1 hSE cDE0 cDE1 hDE cPE0 cPE1 hPE cQE0 cQE1 hQE
    have U := Lib.hid (TA.out.below hbb)
    clear TA
    have TA := U
    clear U
    have U := Lib.hid (TB.out.below hbb)
    clear TB
    have TB := U
    clear U
    have U := Lib.hid (TC.out.below hbb)
    clear TC
    have TC := U
    clear U
    have U := Lib.hid (below_then HB.out hbb)
    clear HB hbb
    have HB := U
    clear U
    generalize (W12.alloc (.cells #[.bool sSE, .slice aSE mSE kSE, .bool sDE, .slice aDE mDE kDE, .bool sPE, .slice aPE mPE kPE, .bool sQE, .slice aQE mQE kQE] 33)).alloc (.cells #[.int .i64 (ec (zA + b)), .int .i64 (ec (zA - b)), .int .i64 (ec (zA * b)), .int .i64 (ec (zC * zC))] 34) = W9 at *
    clear HSZ TS TD TP TQ TX TY TZ TF
    obtain ⟨sAE, aAE, mAE, kAE, lAE, hAE⟩ := TA.out
    have GA := Lib.hid hAE
    have LA := Lib.hid lAE
    clear hAE lAE
    obtain ⟨sBE, aBE, mBE, kBE, lBE, hBE⟩ := TB.out
    have GB := Lib.hid hBE
    have LB := Lib.hid lBE
    clear hBE lBE
    obtain ⟨sCE, aCE, mCE, kCE, lCE, hCE⟩ := TC.out
    have GC := Lib.hid hCE
    have LC := Lib.hid lCE
    clear hCE lCE
    have CELLS : Hid (∀ X : World, Below W9.heap.size W9 X → X.cell? ⟨t0, 0, none⟩ = some (.bool sAE) ∧ X.cell? ⟨t0, 1, none⟩ = some (.slice aAE mAE kAE) ∧ X.cell? ⟨t1, 0, none⟩ = some (.bool sBE) ∧ X.cell? ⟨t1, 1, none⟩ = some (.slice aBE mBE kBE) ∧ X.cell? ⟨t2, 0, none⟩ = some (.bool sCE) ∧ X.cell? ⟨t2, 1, none⟩ = some (.slice aCE mCE kCE)) := Lib.hid (fun X h => by
      obtain ⟨eA0, eA1, _, _⟩ := cells2 (LA.out.below h)
      obtain ⟨eB0, eB1, _, _⟩ := cells2 (LB.out.below h)
      obtain ⟨eC0, eC1, _, _⟩ := cells2 (LC.out.below h)
      exact ⟨eA0, eA1, eB0, eB1, eC0, eC1⟩)
    have HW0 := HB
    clear HB
    have HB : Hid (Below W9.heap.size W9 W9.drew) := Lib.hid (Below.refl _ _).drew
    have ADD : Hid (∀ w', Below W9.heap.size W9 w' → Calls Tryd.prog 23 #[(.agg #[.bool sAE, .slice aAE mAE kAE]), (.agg #[.bool sBE, .slice aBE mBE kBE])] w' (NEnd (zA + b) w')) := Lib.hid (fun w' h => add_any _ _ zA b w' (nat_keeps GA.out h) (nat_keeps GB.out h) (by have := HZA.out.1; omega) (digs_of_small (small3 HBB.out)))
    have SUB : Hid (∀ w', Below W9.heap.size W9 w' → Calls Tryd.prog 36 #[(.agg #[.bool sAE, .slice aAE mAE kAE]), (.agg #[.bool sBE, .slice aBE mBE kBE])] w' (NEnd (zA - b) w')) := Lib.hid (fun w' h => sub_any _ _ zA b w' (nat_keeps GA.out h) (nat_keeps GB.out h) (by have := HZA.out.1; omega) (digs_of_small (small3 HBB.out)))
    have MUL : Hid (∀ w' x y z, Prod w' x y z → Calls Tryd.prog 24 #[x, y] w' (NEnd z w')) := Lib.hid (fun w' x y z h => prod_mul w' x y z h)
    have PAB : Hid (∀ w', Below W9.heap.size W9 w' → Prod w' (.agg #[.bool sAE, .slice aAE mAE kAE]) (.agg #[.bool sBE, .slice aBE mBE kBE]) (zA * b)) := Lib.hid (fun w' h => ⟨zA, b, nat_keeps GA.out h, nat_keeps GB.out h, rfl, by have := HZA.out.1; omega, digs_of_small (small3 HBB.out)⟩)
    have PCC : Hid (∀ w', Below W9.heap.size W9 w' → Prod w' (.agg #[.bool sCE, .slice aCE mCE kCE]) (.agg #[.bool sCE, .slice aCE mCE kCE]) (zC * zC)) := Lib.hid (fun w' h => ⟨zC, zC, nat_keeps GC.out h, nat_keeps GC.out h, rfl, by have := HZC.out.1.1; omega, by have := HZC.out.1.1; omega⟩)
    unfold NEnd at ADD SUB MUL
    go_cut [28] (fun s28 wx => ∃ t : Nat, s28 = .slice (some ⟨t, 0, none⟩) 4 4 ∧ Hid (NRow wx t [zA + b, zA - b, zA * b, zC * zC]) ∧ Hid (Below W9.heap.size W9 wx))
    case first =>
      go_region_held3 (fun X : World => X.cell? ⟨t0, 0, none⟩ = some (.bool sAE) ∧ X.cell? ⟨t0, 1, none⟩ = some (.slice aAE mAE kAE) ∧ X.cell? ⟨t1, 0, none⟩ = some (.bool sBE) ∧ X.cell? ⟨t1, 1, none⟩ = some (.slice aBE mBE kBE) ∧ X.cell? ⟨t2, 0, none⟩ = some (.bool sCE) ∧ X.cell? ⟨t2, 1, none⟩ = some (.slice aCE mCE kCE)) (with_reducible first | exact CELLS.out _ HB.out | exact CELLS.out _ (below_then HB.out (below_one _ _))) (first
        | (go_at_call 23; ((with_reducible refine (ADD.out _ HB.out).mono ?_); rintro e w11 ⟨y10, rfl, hx10, hb10⟩); obtain ⟨b11, p11, n11, q11, rfl⟩ := nat_shape hx10; have HX1 := Lib.hid hx10; have UB := Lib.hid (below_then HB.out hb10); clear hx10 hb10 HB; have HB := UB; clear UB)
        | (go_at_call 36; ((with_reducible refine (SUB.out _ HB.out).mono ?_); rintro e w12 ⟨y10, rfl, hx10, hb10⟩); obtain ⟨b12, p12, n12, q12, rfl⟩ := nat_shape hx10; have HX2 := Lib.hid hx10; have U1 := Lib.hid (nat_keeps HX1.out hb10); clear HX1; have HX1 := U1; clear U1; have UB := Lib.hid (below_then HB.out hb10); clear hx10 hb10 HB; have HB := UB; clear UB)
        | (go_at_call 24; ((with_reducible refine (MUL.out _ _ _ _ (PAB.out _ HB.out)).mono ?_); rintro e w13 ⟨y10, rfl, hx10, hb10⟩); obtain ⟨b13, p13, n13, q13, rfl⟩ := nat_shape hx10; have HX3 := Lib.hid hx10; have U1 := Lib.hid (nat_keeps HX1.out hb10); clear HX1; have HX1 := U1; clear U1; have U2 := Lib.hid (nat_keeps HX2.out hb10); clear HX2; have HX2 := U2; clear U2; have UB := Lib.hid (below_then HB.out hb10); clear hx10 hb10 HB; have HB := UB; clear UB)
        | (go_at_call 24; ((with_reducible refine (MUL.out _ _ _ _ (PCC.out _ HB.out)).mono ?_); rintro e w14 ⟨y10, rfl, hx10, hb10⟩); obtain ⟨b14, p14, n14, q14, rfl⟩ := nat_shape hx10; have HX4 := Lib.hid hx10; have U1 := Lib.hid (nat_keeps HX1.out hb10); clear HX1; have HX1 := U1; clear U1; have U2 := Lib.hid (nat_keeps HX2.out hb10); clear HX2; have HX2 := U2; clear U2; have U3 := Lib.hid (nat_keeps HX3.out hb10); clear HX3; have HX3 := U3; clear U3; have UB := Lib.hid (below_then HB.out hb10); clear hx10 hb10 HB; have HB := UB; clear UB))
      go_wp2_with fail
      go_meet
      exact ⟨_, rfl, Lib.hid (nrow_four HX1.out HX2.out HX3.out HX4.out), Lib.hid (below_then HB.out (below_one _ _))⟩
    obtain ⟨t8, rfl, HRW, HBx⟩ := hcut
    have HBN := Lib.hid (below_then HW0.out HBx.out)
    have U1 := Lib.hid (irow_keeps HIR.out HBx.out)
    have U2 := Lib.hid (erow_keeps HER.out HBx.out)
    clear HB HW0 HBx HIR HER ADD SUB MUL PAB PCC CELLS GA GB GC LA LB LC TA TB TC
    have HB := HBN
    have HIR := U1
    have HER := U2
    have HRNG := Lib.hid (lim_rng HZA.out.1 (digs3 HBB.out) HZC.out.1.1)
    clear HBN U1 U2
    generalize hzs : [zA + b, zA - b, zA * b, zC * zC] = zs at *
    have HEC : Hid (ERow wc (t12 + 1 + 1) (zs.map ec)) := Lib.hid (by rw [← hzs]; exact HER.out)
    have HIC : Hid (IRow wc (t12 + 1) (zs.map lim)) := Lib.hid (by rw [← hzs]; exact HIR.out)
    clear hzs HER HIR
    go_wp2_with fail
    go_loopw [29, 30] (fun iv _ wr => ∃ j : Nat, iv = .int .i64 (j : Int) ∧ j ≤ 4 ∧ Hid (NRow wr t8 zs) ∧ Hid (IRow wr (t12 + 1) (zs.map lim)) ∧ Hid (ERow wr (t12 + 1 + 1) (zs.map ec)) ∧ Hid (Below w.heap.size w wr)) (fun iv _ _ => (4 - intOf iv).toNat)
    case atStart => exact ⟨0, rfl, by decide, HRW, HIC, HEC, HB⟩
    case round =>
      clear HRW HIC HEC HB
      obtain ⟨j, rfl, hj4, HRW, HIC, HEC, HB⟩ := hrel
      rcases Nat.lt_or_ge j 4 with hlt | hge
      · obtain ⟨z, hz, hzl⟩ := HRNG.out j hlt
        have HZL := Lib.hid hzl
        have HZS := Lib.hid hz
        have hlti : (j : Int) < 4 := by omega
        obtain ⟨sK, aK, mK, qK, ⟨cK0, cK1⟩, hK⟩ := HRW.out.2 j z hz
        have FT : Hid (∀ r, (r = true ∧ ¬ big z) ∨ (r = false ∧ big z) → Calls Tryd.prog 37 #[.agg #[.bool sK, .slice aK mK qK]] wr fun e w' => e = .returned (.bool r) ∧ Below wr.heap.size wr w') := Lib.hid (fun r hr => fits_bool _ z r _ hK HZL.out hr)
        clear hzl hz hK
        go_wp2_with fail
        clear cK0 cK1
        rcases Classical.em (big z) with hbig | hbig
        · have F := Lib.hid (FT.out false (.inr ⟨rfl, hbig⟩))
          have HLZ : Hid (lim z = 0) := Lib.hid (by unfold lim; rw [if_pos hbig])
          have HEZ : Hid (ec z = 4) := Lib.hid (by unfold ec; rw [if_pos hbig])
          clear hbig FT
          go_must (refine F.out.mono ?_)
          rintro e w4 ⟨rfl, hb4⟩
          have HRW4 := Lib.hid (nrow_keeps HRW.out hb4)
          have HIC4 := Lib.hid (irow_keeps HIC.out hb4)
          have HEC4 := Lib.hid (erow_keeps HEC.out hb4)
          have HB4 := Lib.hid (below_then HB.out hb4)
          clear hb4 HRW HIC HEC HB F
          obtain ⟨sG, aG, mG, qG, ⟨cG0, cG1⟩, hG⟩ := HIC4.out.2 j (lim z) (by rw [List.getElem?_map, HZS.out]; rfl)
          have cE := HEC4.out.2 j (ec z) (by rw [List.getElem?_map, HZS.out]; rfl)
          rw [HEZ.out] at cE
          rw [HLZ.out] at hG
          have SG := wSign_any _ 0 w4.drew (iat_keeps hG (Below.refl _ _).drew) (small_zero rfl).words
          rw [show cmpZ 0 0 = 0 from rfl] at SG
          unfold CmpEnd at SG
          have HSG := Lib.hid SG
          have d0 : w4.drew.cell? ⟨t12 + 1, j * 2, none⟩ = some (.bool sG) := cG0
          have d1 : w4.drew.cell? ⟨t12 + 1, j * 2 + 1, none⟩ = some (.slice aG mG qG) := cG1
          have d2 : w4.drew.cell? ⟨t12 + 1 + 1, j, none⟩ = some (.int .i64 4) := cE
          clear hG SG cG0 cG1 cE
          go_wp2_with fail
          have CELLF : Hid (∀ X : World, Below w4.heap.size w4 X → X.cell? ⟨t12 + 1, j * 2, none⟩ = some (.bool sG) ∧ X.cell? ⟨t12 + 1, j * 2 + 1, none⟩ = some (.slice aG mG qG) ∧ X.cell? ⟨t12 + 1 + 1, j, none⟩ = some (.int .i64 4)) := Lib.hid (fun X h => ⟨(h.cell (p := ⟨t12 + 1, j * 2, none⟩) HIC4.out.1).trans d0, (h.cell (p := ⟨t12 + 1, j * 2 + 1, none⟩) HIC4.out.1).trans d1, (h.cell (p := ⟨t12 + 1 + 1, j, none⟩) HEC4.out.1).trans d2⟩)
          refine wp_region_held_drew (S := fun X : World => X.cell? ⟨t12 + 1, j * 2, none⟩ = some (.bool sG) ∧ X.cell? ⟨t12 + 1, j * 2 + 1, none⟩ = some (.slice aG mG qG) ∧ X.cell? ⟨t12 + 1 + 1, j, none⟩ = some (.int .i64 4)) (by kernel_rfl) ?_ (fun hHeld => ?_)
          · exact CELLF.out _ (Below.refl _ _).drew
          clear d0 d1 d2
          refine wpAnyH_take (i := 0) (oi := { dst := some 138, op := Op.move (Operand.tmp 30), type := 4, pos := "law.go:200", after := #[], guard := none }) (v := ?_) rfl (by kernel_rfl) (by kernel_rfl) (by kernel_rfl) (fun _ _ _ h => h) (Or.inl ⟨by rfl, ?_⟩) (by assumption) ?_
          rotate_left
          · (intro wq hSw; (try dsimp only at hSw); go_simp; try with_reducible rfl)
          try simp only [Act.put, List.setIfInBounds_toArray, List.set_cons_zero, List.set_cons_succ]
          refine wpAnyH_take (i := 1) (oi := { dst := some 139, op := Op.move (Operand.tmp 27), type := 65, pos := "law.go:200", after := #[], guard := none }) (v := ?_) rfl (by kernel_rfl) (by kernel_rfl) (by kernel_rfl) (fun _ _ _ h => h) (Or.inl ⟨by rfl, ?_⟩) (by assumption) ?_
          rotate_left
          · (intro wq hSw; (try dsimp only at hSw); go_simp; try with_reducible rfl)
          try simp only [Act.put, List.setIfInBounds_toArray, List.set_cons_zero, List.set_cons_succ]
          refine wpAnyH_take (i := 2) (oi := { dst := some 140, op := Op.move (Operand.tmp 29), type := 3, pos := "law.go:200", after := #[], guard := none }) (v := ?_) rfl (by kernel_rfl) (by kernel_rfl) (by kernel_rfl) (fun _ _ _ h => h) (Or.inl ⟨by rfl, ?_⟩) (by assumption) ?_
          rotate_left
          · (intro wq hSw; (try dsimp only at hSw); go_simp; try with_reducible rfl)
          try simp only [Act.put, List.setIfInBounds_toArray, List.set_cons_zero, List.set_cons_succ]
          refine wpAnyH_take (i := 3) (oi := { dst := some 141, op := Op.indexAddr 65 (Operand.tmp 139) (Operand.tmp 140), type := 0, pos := "law.go:200", after := #[{ on := 1, ground := Ground.data }, { on := 2, ground := Ground.data }], guard := none }) (v := ?_) rfl (by kernel_rfl) (by kernel_rfl) (by kernel_rfl) (fun _ _ _ h => h) (Or.inl ⟨by rfl, ?_⟩) (by assumption) ?_
          rotate_left
          · (intro wq hSw; (try dsimp only at hSw); go_simp; try with_reducible rfl)
          try simp only [Act.put, List.setIfInBounds_toArray, List.set_cons_zero, List.set_cons_succ]
          refine wpAnyH_take (i := 4) (oi := { dst := some 142, op := Op.load 34 (Operand.tmp 141), type := 34, pos := "law.go:200", after := #[{ on := 3, ground := Ground.data }], guard := none }) (v := ?_) rfl (by kernel_rfl) (by kernel_rfl) (by kernel_rfl) (fun _ _ _ h => h) (Or.inl ⟨by rfl, ?_⟩) (by assumption) ?_
          rotate_left
          · (intro wq hSw; (try dsimp only at hSw); go_simp; try with_reducible rfl)
          try simp only [Act.put, List.setIfInBounds_toArray, List.set_cons_zero, List.set_cons_succ]
          refine wpAnyH_take (i := 5) (oi := { dst := some 143, op := Op.binOp BinOp.eql 34 (Operand.tmp 142) (Operand.const (Value.int IntKind.i64 0)) 34, type := 4, pos := "law.go:200", after := #[{ on := 4, ground := Ground.data }], guard := none }) (v := ?_) rfl (by kernel_rfl) (by kernel_rfl) (by kernel_rfl) (fun _ _ _ h => h) (Or.inl ⟨by rfl, ?_⟩) (by assumption) ?_
          rotate_left
          · (intro wq hSw; (try dsimp only at hSw); go_simp; try with_reducible rfl)
          try simp only [Act.put, List.setIfInBounds_toArray, List.set_cons_zero, List.set_cons_succ]
          refine wpAnyH_take (i := 6) (oi := { dst := some 144, op := Op.binOp BinOp.neq 4 (Operand.tmp 138) (Operand.tmp 143) 4, type := 4, pos := "law.go:200", after := #[{ on := 0, ground := Ground.data }, { on := 5, ground := Ground.data }], guard := none }) (v := ?_) rfl (by kernel_rfl) (by kernel_rfl) (by kernel_rfl) (fun _ _ _ h => h) (Or.inl ⟨by rfl, ?_⟩) (by assumption) ?_
          rotate_left
          · (intro wq hSw; (try dsimp only at hSw); go_simp; try with_reducible rfl)
          try simp only [Act.put, List.setIfInBounds_toArray, List.set_cons_zero, List.set_cons_succ]
          refine wpAnyH_take (i := 7) (oi := { dst := some 145, op := Op.move (Operand.tmp 144), type := 4, pos := "law.go:200", after := #[{ on := 6, ground := Ground.data }], guard := none }) (v := ?_) rfl (by kernel_rfl) (by kernel_rfl) (by kernel_rfl) (fun _ _ _ h => h) (Or.inl ⟨by rfl, ?_⟩) (by assumption) ?_
          rotate_left
          · (intro wq hSw; (try dsimp only at hSw); go_simp; try with_reducible rfl)
          try simp only [Act.put, List.setIfInBounds_toArray, List.set_cons_zero, List.set_cons_succ]
          refine wpAnyH_take (i := 8) (oi := { dst := some 146, op := Op.move (Operand.tmp 30), type := 4, pos := "law.go:200", after := #[{ on := 7, ground := Ground.guard }], guard := some (7, false) }) (v := ?_) rfl (by kernel_rfl) (by kernel_rfl) (by kernel_rfl) (fun _ _ _ h => h) (Or.inl ⟨by rfl, ?_⟩) (by assumption) ?_
          rotate_left
          · (intro wq hSw; (try dsimp only at hSw); go_simp; try with_reducible rfl)
          try simp only [Act.put, List.setIfInBounds_toArray, List.set_cons_zero, List.set_cons_succ]
          refine wpAnyH_take (i := 9) (oi := { dst := some 147, op := Op.unOp UnOp.not 4 (Operand.tmp 146), type := 4, pos := "law.go:200", after := #[{ on := 8, ground := Ground.data }, { on := 7, ground := Ground.guard }], guard := some (7, false) }) (v := ?_) rfl (by kernel_rfl) (by kernel_rfl) (by kernel_rfl) (fun _ _ _ h => h) (Or.inl ⟨by rfl, ?_⟩) (by assumption) ?_
          rotate_left
          · (intro wq hSw; (try dsimp only at hSw); go_simp; try with_reducible rfl)
          try simp only [Act.put, List.setIfInBounds_toArray, List.set_cons_zero, List.set_cons_succ]
          refine wpAnyH_take (i := 10) (oi := { dst := some 148, op := Op.move (Operand.tmp 147), type := 4, pos := "law.go:200", after := #[{ on := 9, ground := Ground.data }, { on := 7, ground := Ground.chain }, { on := 7, ground := Ground.guard }], guard := some (7, false) }) (v := ?_) rfl (by kernel_rfl) (by kernel_rfl) (by kernel_rfl) (fun _ _ _ h => h) (Or.inl ⟨by rfl, ?_⟩) (by assumption) ?_
          rotate_left
          · (intro wq hSw; (try dsimp only at hSw); go_simp; try with_reducible rfl)
          try simp only [Act.put, List.setIfInBounds_toArray, List.set_cons_zero, List.set_cons_succ]
          refine wpAnyH_take (i := 11) (oi := { dst := some 149, op := Op.move (Operand.tmp 27), type := 65, pos := "law.go:200", after := #[{ on := 10, ground := Ground.guard }], guard := some (10, true) }) (v := ?_) rfl (by kernel_rfl) (by kernel_rfl) (by kernel_rfl) (fun _ _ _ h => h) (Or.inl ⟨by rfl, ?_⟩) (by assumption) ?_
          rotate_left
          · (intro wq hSw; (try dsimp only at hSw); go_simp; try with_reducible rfl)
          try simp only [Act.put, List.setIfInBounds_toArray, List.set_cons_zero, List.set_cons_succ]
          refine wpAnyH_take (i := 12) (oi := { dst := some 150, op := Op.move (Operand.tmp 29), type := 3, pos := "law.go:200", after := #[{ on := 10, ground := Ground.guard }], guard := some (10, true) }) (v := ?_) rfl (by kernel_rfl) (by kernel_rfl) (by kernel_rfl) (fun _ _ _ h => h) (Or.inl ⟨by rfl, ?_⟩) (by assumption) ?_
          rotate_left
          · (intro wq hSw; (try dsimp only at hSw); go_simp; try with_reducible rfl)
          try simp only [Act.put, List.setIfInBounds_toArray, List.set_cons_zero, List.set_cons_succ]
          refine wpAnyH_take (i := 13) (oi := { dst := some 151, op := Op.indexAddr 65 (Operand.tmp 149) (Operand.tmp 150), type := 0, pos := "law.go:200", after := #[{ on := 11, ground := Ground.data }, { on := 12, ground := Ground.data }, { on := 10, ground := Ground.guard }], guard := some (10, true) }) (v := ?_) rfl (by kernel_rfl) (by kernel_rfl) (by kernel_rfl) (fun _ _ _ h => h) (Or.inl ⟨by rfl, ?_⟩) (by assumption) ?_
          rotate_left
          · (intro wq hSw; (try dsimp only at hSw); go_simp; try with_reducible rfl)
          try simp only [Act.put, List.setIfInBounds_toArray, List.set_cons_zero, List.set_cons_succ]
          refine wpAnyH_take (i := 14) (oi := { dst := some 152, op := Op.load 34 (Operand.tmp 151), type := 34, pos := "law.go:200", after := #[{ on := 13, ground := Ground.data }, { on := 10, ground := Ground.guard }], guard := some (10, true) }) (v := ?_) rfl (by kernel_rfl) (by kernel_rfl) (by kernel_rfl) (fun _ _ _ h => h) (Or.inl ⟨by rfl, ?_⟩) (by assumption) ?_
          rotate_left
          · (intro wq hSw; (try dsimp only at hSw); go_simp; try with_reducible rfl)
          try simp only [Act.put, List.setIfInBounds_toArray, List.set_cons_zero, List.set_cons_succ]
          refine wpAnyH_take (i := 15) (oi := { dst := some 153, op := Op.binOp BinOp.neq 34 (Operand.tmp 152) (Operand.const (Value.int IntKind.i64 4)) 34, type := 4, pos := "law.go:200", after := #[{ on := 14, ground := Ground.data }, { on := 10, ground := Ground.guard }], guard := some (10, true) }) (v := ?_) rfl (by kernel_rfl) (by kernel_rfl) (by kernel_rfl) (fun _ _ _ h => h) (Or.inl ⟨by rfl, ?_⟩) (by assumption) ?_
          rotate_left
          · (intro wq hSw; (try dsimp only at hSw); go_simp; try with_reducible rfl)
          try simp only [Act.put, List.setIfInBounds_toArray, List.set_cons_zero, List.set_cons_succ]
          refine wpAnyH_take (i := 16) (oi := { dst := some 154, op := Op.move (Operand.tmp 153), type := 4, pos := "law.go:200", after := #[{ on := 15, ground := Ground.data }, { on := 10, ground := Ground.chain }, { on := 10, ground := Ground.guard }], guard := some (10, true) }) (v := ?_) rfl (by kernel_rfl) (by kernel_rfl) (by kernel_rfl) (fun _ _ _ h => h) (Or.inl ⟨by rfl, ?_⟩) (by assumption) ?_
          rotate_left
          · (intro wq hSw; (try dsimp only at hSw); go_simp; try with_reducible rfl)
          try simp only [Act.put, List.setIfInBounds_toArray, List.set_cons_zero, List.set_cons_succ]
          refine wpAnyH_take (i := 17) (oi := { dst := some 155, op := Op.move (Operand.tmp 26), type := 64, pos := "law.go:200", after := #[{ on := 16, ground := Ground.guard }], guard := some (16, false) }) (v := ?_) rfl (by kernel_rfl) (by kernel_rfl) (by kernel_rfl) (fun _ _ _ h => h) (Or.inl ⟨by rfl, ?_⟩) (by assumption) ?_
          rotate_left
          · (intro wq hSw; (try dsimp only at hSw); go_simp; try with_reducible rfl)
          try simp only [Act.put, List.setIfInBounds_toArray, List.set_cons_zero, List.set_cons_succ]
          refine wpAnyH_take (i := 18) (oi := { dst := some 156, op := Op.move (Operand.tmp 29), type := 3, pos := "law.go:200", after := #[{ on := 16, ground := Ground.guard }], guard := some (16, false) }) (v := ?_) rfl (by kernel_rfl) (by kernel_rfl) (by kernel_rfl) (fun _ _ _ h => h) (Or.inl ⟨by rfl, ?_⟩) (by assumption) ?_
          rotate_left
          · (intro wq hSw; (try dsimp only at hSw); go_simp; try with_reducible rfl)
          try simp only [Act.put, List.setIfInBounds_toArray, List.set_cons_zero, List.set_cons_succ]
          refine wpAnyH_take (i := 19) (oi := { dst := some 157, op := Op.indexAddr 64 (Operand.tmp 155) (Operand.tmp 156), type := 0, pos := "law.go:200", after := #[{ on := 17, ground := Ground.data }, { on := 18, ground := Ground.data }, { on := 16, ground := Ground.guard }], guard := some (16, false) }) (v := ?_) rfl (by kernel_rfl) (by kernel_rfl) (by kernel_rfl) (fun _ _ _ h => h) (Or.inl ⟨by rfl, ?_⟩) (by assumption) ?_
          rotate_left
          · (intro wq hSw; (try dsimp only at hSw); go_simp; try with_reducible rfl)
          try simp only [Act.put, List.setIfInBounds_toArray, List.set_cons_zero, List.set_cons_succ]
          refine wpAnyH_take (i := 20) (oi := { dst := some 158, op := Op.load 33 (Operand.tmp 157), type := 33, pos := "law.go:200", after := #[{ on := 19, ground := Ground.data }, { on := 16, ground := Ground.guard }], guard := some (16, false) }) (v := ?_) rfl (by kernel_rfl) (by kernel_rfl) (by kernel_rfl) (fun _ _ _ h => h) (Or.inl ⟨by rfl, ?_⟩) (by assumption) ?_
          rotate_left
          · (intro wq hSw; (try dsimp only at hSw); go_simp; try with_reducible rfl)
          try simp only [Act.put, List.setIfInBounds_toArray, List.set_cons_zero, List.set_cons_succ]
          refine wpAnyH_ready (rs := [21]) (by kernel_rfl) (by simp) ?_
          refine AllReadyH.cons (o := { dst := some 159, op := Op.call { callee := Callee.value (Operand.func 31), args := #[Operand.tmp 158], argTypes := #[33] }, type := 3, pos := "law.go:200", after := #[{ on := 20, ground := Ground.data }, { on := 16, ground := Ground.chain }, { on := 16, ground := Ground.guard }], guard := some (16, false) }) rfl (fun K hK => ?_) AllReadyH.nil
          go_simp
          go_at_call 31
          refine HSG.out.mono ?_
          rintro e w5 ⟨rfl, hb5⟩
          have HB5 := Lib.hid ((Below.refl w4.heap.size w4).drew.trans hb5)
          clear hb5
          go_wp2_with fail
          refine hK.out _ _ ?_ (fun hHeld => ?_)
          · exact CELLF.out _ HB5.out
          clear hK K
          try simp only [Act.put, List.setIfInBounds_toArray, List.set_cons_zero, List.set_cons_succ]
          refine wpAnyH_take (i := 22) (oi := { dst := some 160, op := Op.binOp BinOp.neq 3 (Operand.tmp 159) (Operand.const (Value.int IntKind.i64 0)) 3, type := 4, pos := "law.go:200", after := #[{ on := 21, ground := Ground.data }, { on := 16, ground := Ground.guard }], guard := some (16, false) }) (v := ?_) rfl (by kernel_rfl) (by kernel_rfl) (by kernel_rfl) (fun _ _ _ h => h) (Or.inl ⟨by rfl, ?_⟩) (by assumption) ?_
          rotate_left
          · (intro wq hSw; (try dsimp only at hSw); go_simp; try with_reducible rfl)
          try simp only [Act.put, List.setIfInBounds_toArray, List.set_cons_zero, List.set_cons_succ]
          refine wpAnyH_take (i := 23) (oi := { dst := some 161, op := Op.pick (Operand.tmp 154) (Operand.const (Value.bool true)) (Operand.tmp 160), type := 4, pos := "law.go:200", after := #[{ on := 16, ground := Ground.data }, { on := 22, ground := Ground.data }, { on := 10, ground := Ground.guard }], guard := some (10, true) }) (v := ?_) rfl (by kernel_rfl) (by kernel_rfl) (by kernel_rfl) (fun _ _ _ h => h) (Or.inl ⟨by rfl, ?_⟩) (by assumption) ?_
          rotate_left
          · (intro wq hSw; (try dsimp only at hSw); go_simp; try with_reducible rfl)
          try simp only [Act.put, List.setIfInBounds_toArray, List.set_cons_zero, List.set_cons_succ]
          refine wpAnyH_take (i := 24) (oi := { dst := some 162, op := Op.pick (Operand.tmp 148) (Operand.tmp 161) (Operand.const (Value.bool false)), type := 4, pos := "law.go:200", after := #[{ on := 10, ground := Ground.data }, { on := 23, ground := Ground.data }, { on := 7, ground := Ground.guard }], guard := some (7, false) }) (v := ?_) rfl (by kernel_rfl) (by kernel_rfl) (by kernel_rfl) (fun _ _ _ h => h) (Or.inl ⟨by rfl, ?_⟩) (by assumption) ?_
          rotate_left
          · (intro wq hSw; (try dsimp only at hSw); go_simp; try with_reducible rfl)
          try simp only [Act.put, List.setIfInBounds_toArray, List.set_cons_zero, List.set_cons_succ]
          refine wpAnyH_take (i := 25) (oi := { dst := some 163, op := Op.pick (Operand.tmp 145) (Operand.const (Value.bool true)) (Operand.tmp 162), type := 4, pos := "law.go:200", after := #[{ on := 7, ground := Ground.data }, { on := 24, ground := Ground.data }], guard := none }) (v := ?_) rfl (by kernel_rfl) (by kernel_rfl) (by kernel_rfl) (fun _ _ _ h => h) (Or.inl ⟨by rfl, ?_⟩) (by assumption) ?_
          rotate_left
          · (intro wq hSw; (try dsimp only at hSw); go_simp; try with_reducible rfl)
          try simp only [Act.put, List.setIfInBounds_toArray, List.set_cons_zero, List.set_cons_succ]
          refine wpAnyH_take (i := 26) (oi := { dst := some 164, op := Op.move (Operand.tmp 163), type := 4, pos := "law.go:200", after := #[{ on := 25, ground := Ground.data }, { on := 21, ground := Ground.chain }], guard := none }) (v := ?_) rfl (by kernel_rfl) (by kernel_rfl) (by kernel_rfl) (fun _ _ _ h => h) (Or.inl ⟨by rfl, ?_⟩) (by assumption) ?_
          rotate_left
          · (intro wq hSw; (try dsimp only at hSw); go_simp; try with_reducible rfl)
          try simp only [Act.put, List.setIfInBounds_toArray, List.set_cons_zero, List.set_cons_succ]
          refine wpAnyH_take (i := 27) (oi := { dst := some 165, op := Op.move (Operand.tmp 30), type := 4, pos := "law.go:200", after := #[{ on := 26, ground := Ground.guard }], guard := some (26, false) }) (v := ?_) rfl (by kernel_rfl) (by kernel_rfl) (by kernel_rfl) (fun _ _ _ h => h) (Or.inl ⟨by rfl, ?_⟩) (by assumption) ?_
          rotate_left
          · (intro wq hSw; (try dsimp only at hSw); go_simp; try with_reducible rfl)
          try simp only [Act.put, List.setIfInBounds_toArray, List.set_cons_zero, List.set_cons_succ]
          refine wpAnyH_take (i := 28) (oi := { dst := some 166, op := Op.move (Operand.tmp 165), type := 4, pos := "law.go:200", after := #[{ on := 27, ground := Ground.data }, { on := 26, ground := Ground.chain }, { on := 26, ground := Ground.guard }], guard := some (26, false) }) (v := ?_) rfl (by kernel_rfl) (by kernel_rfl) (by kernel_rfl) (fun _ _ _ h => h) (Or.inl ⟨by rfl, ?_⟩) (by assumption) ?_
          rotate_left
          · (intro wq hSw; (try dsimp only at hSw); go_simp; try with_reducible rfl)
          try simp only [Act.put, List.setIfInBounds_toArray, List.set_cons_zero, List.set_cons_succ]
          refine wpAnyH_take (i := 29) (oi := { dst := some 167, op := Op.move (Operand.tmp 26), type := 64, pos := "law.go:200", after := #[{ on := 28, ground := Ground.guard }], guard := some (28, true) }) (v := undef) rfl (by kernel_rfl) (by kernel_rfl) (by kernel_rfl) (fun _ _ _ h => h) (Or.inr ⟨by rfl, rfl⟩) (by assumption) ?_
          try simp only [Act.put, List.setIfInBounds_toArray, List.set_cons_zero, List.set_cons_succ]
          refine wpAnyH_take (i := 30) (oi := { dst := some 168, op := Op.move (Operand.tmp 29), type := 3, pos := "law.go:200", after := #[{ on := 28, ground := Ground.guard }], guard := some (28, true) }) (v := undef) rfl (by kernel_rfl) (by kernel_rfl) (by kernel_rfl) (fun _ _ _ h => h) (Or.inr ⟨by rfl, rfl⟩) (by assumption) ?_
          try simp only [Act.put, List.setIfInBounds_toArray, List.set_cons_zero, List.set_cons_succ]
          refine wpAnyH_take (i := 31) (oi := { dst := some 169, op := Op.indexAddr 64 (Operand.tmp 167) (Operand.tmp 168), type := 0, pos := "law.go:200", after := #[{ on := 29, ground := Ground.data }, { on := 30, ground := Ground.data }, { on := 28, ground := Ground.guard }], guard := some (28, true) }) (v := undef) rfl (by kernel_rfl) (by kernel_rfl) (by kernel_rfl) (fun _ _ _ h => h) (Or.inr ⟨by rfl, rfl⟩) (by assumption) ?_
          try simp only [Act.put, List.setIfInBounds_toArray, List.set_cons_zero, List.set_cons_succ]
          refine wpAnyH_take (i := 32) (oi := { dst := some 170, op := Op.load 33 (Operand.tmp 169), type := 33, pos := "law.go:200", after := #[{ on := 31, ground := Ground.data }, { on := 28, ground := Ground.guard }], guard := some (28, true) }) (v := undef) rfl (by kernel_rfl) (by kernel_rfl) (by kernel_rfl) (fun _ _ _ h => h) (Or.inr ⟨by rfl, rfl⟩) (by assumption) ?_
          try simp only [Act.put, List.setIfInBounds_toArray, List.set_cons_zero, List.set_cons_succ]
          refine wpAnyH_take (i := 33) (oi := { dst := some 171, op := Op.move (Operand.tmp 28), type := 47, pos := "law.go:200", after := #[{ on := 28, ground := Ground.guard }], guard := some (28, true) }) (v := undef) rfl (by kernel_rfl) (by kernel_rfl) (by kernel_rfl) (fun _ _ _ h => h) (Or.inr ⟨by rfl, rfl⟩) (by assumption) ?_
          try simp only [Act.put, List.setIfInBounds_toArray, List.set_cons_zero, List.set_cons_succ]
          refine wpAnyH_take (i := 34) (oi := { dst := some 172, op := Op.move (Operand.tmp 29), type := 3, pos := "law.go:200", after := #[{ on := 28, ground := Ground.guard }], guard := some (28, true) }) (v := undef) rfl (by kernel_rfl) (by kernel_rfl) (by kernel_rfl) (fun _ _ _ h => h) (Or.inr ⟨by rfl, rfl⟩) (by assumption) ?_
          try simp only [Act.put, List.setIfInBounds_toArray, List.set_cons_zero, List.set_cons_succ]
          refine wpAnyH_take (i := 35) (oi := { dst := some 173, op := Op.indexAddr 47 (Operand.tmp 171) (Operand.tmp 172), type := 0, pos := "law.go:200", after := #[{ on := 33, ground := Ground.data }, { on := 34, ground := Ground.data }, { on := 28, ground := Ground.guard }], guard := some (28, true) }) (v := undef) rfl (by kernel_rfl) (by kernel_rfl) (by kernel_rfl) (fun _ _ _ h => h) (Or.inr ⟨by rfl, rfl⟩) (by assumption) ?_
          try simp only [Act.put, List.setIfInBounds_toArray, List.set_cons_zero, List.set_cons_succ]
          refine wpAnyH_take (i := 36) (oi := { dst := some 174, op := Op.load 25 (Operand.tmp 173), type := 25, pos := "law.go:200", after := #[{ on := 35, ground := Ground.data }, { on := 28, ground := Ground.guard }], guard := some (28, true) }) (v := undef) rfl (by kernel_rfl) (by kernel_rfl) (by kernel_rfl) (fun _ _ _ h => h) (Or.inr ⟨by rfl, rfl⟩) (by assumption) ?_
          try simp only [Act.put, List.setIfInBounds_toArray, List.set_cons_zero, List.set_cons_succ]
          refine wpAnyH_take (i := 37) (oi := { dst := some 175, op := Op.call { callee := Callee.value (Operand.func 14), args := #[Operand.tmp 170, Operand.tmp 174], argTypes := #[33, 25] }, type := 4, pos := "law.go:200", after := #[{ on := 32, ground := Ground.data }, { on := 36, ground := Ground.data }, { on := 28, ground := Ground.chain }, { on := 28, ground := Ground.guard }], guard := some (28, true) }) (v := undef) rfl (by kernel_rfl) (by kernel_rfl) (by kernel_rfl) (fun _ _ _ h => h) (Or.inr ⟨by rfl, rfl⟩) (by assumption) ?_
          try simp only [Act.put, List.setIfInBounds_toArray, List.set_cons_zero, List.set_cons_succ]
          refine wpAnyH_take (i := 38) (oi := { dst := some 176, op := Op.unOp UnOp.not 4 (Operand.tmp 175), type := 4, pos := "law.go:200", after := #[{ on := 37, ground := Ground.data }, { on := 28, ground := Ground.guard }], guard := some (28, true) }) (v := undef) rfl (by kernel_rfl) (by kernel_rfl) (by kernel_rfl) (fun _ _ _ h => h) (Or.inr ⟨by rfl, rfl⟩) (by assumption) ?_
          try simp only [Act.put, List.setIfInBounds_toArray, List.set_cons_zero, List.set_cons_succ]
          refine wpAnyH_take (i := 39) (oi := { dst := some 177, op := Op.pick (Operand.tmp 166) (Operand.tmp 176) (Operand.const (Value.bool false)), type := 4, pos := "law.go:200", after := #[{ on := 28, ground := Ground.data }, { on := 38, ground := Ground.data }, { on := 26, ground := Ground.guard }], guard := some (26, false) }) (v := ?_) rfl (by kernel_rfl) (by kernel_rfl) (by kernel_rfl) (fun _ _ _ h => h) (Or.inl ⟨by rfl, ?_⟩) (by assumption) ?_
          rotate_left
          · (intro wq hSw; (try dsimp only at hSw); go_simp; try with_reducible rfl)
          try simp only [Act.put, List.setIfInBounds_toArray, List.set_cons_zero, List.set_cons_succ]
          refine wpAnyH_take (i := 40) (oi := { dst := some 178, op := Op.pick (Operand.tmp 164) (Operand.const (Value.bool true)) (Operand.tmp 177), type := 4, pos := "law.go:200", after := #[{ on := 26, ground := Ground.data }, { on := 39, ground := Ground.data }], guard := none }) (v := ?_) rfl (by kernel_rfl) (by kernel_rfl) (by kernel_rfl) (fun _ _ _ h => h) (Or.inl ⟨by rfl, ?_⟩) (by assumption) ?_
          rotate_left
          · (intro wq hSw; (try dsimp only at hSw); go_simp; try with_reducible rfl)
          try simp only [Act.put, List.setIfInBounds_toArray, List.set_cons_zero, List.set_cons_succ]
          refine wpAnyH_done (by kernel_rfl) ?_ _
          have HRW5 := Lib.hid (nrow_keeps HRW4.out HB5.out)
          have HIC5 := Lib.hid (irow_keeps HIC4.out HB5.out)
          have HEC5 := Lib.hid (erow_keeps HEC4.out HB5.out)
          have HB6 := Lib.hid (below_then HB4.out HB5.out)
          go_wp2_with fail
          go_roundw
          case rel => exact ⟨j + 1, by go_num, by omega, HRW5, HIC5, HEC5, HB6⟩
          case measure => simp [intOf] <;> omega
        · have F := Lib.hid (FT.out true (.inl ⟨rfl, hbig⟩))
          have HLZ : Hid (lim z = z) := Lib.hid (by unfold lim; rw [if_neg hbig])
          have HEZ : Hid (ec z = 0) := Lib.hid (by unfold ec; rw [if_neg hbig])
          have HSM := Lib.hid (small_not hbig)
          clear hbig FT
          go_must (refine F.out.mono ?_)
          rintro e w4 ⟨rfl, hb4⟩
          have HRW4 := Lib.hid (nrow_keeps HRW.out hb4)
          have HIC4 := Lib.hid (irow_keeps HIC.out hb4)
          have HEC4 := Lib.hid (erow_keeps HEC.out hb4)
          have HB4 := Lib.hid (below_then HB.out hb4)
          clear hb4 HRW HIC HEC HB F
          obtain ⟨sG, aG, mG, qG, ⟨cG0, cG1⟩, hG⟩ := HIC4.out.2 j (lim z) (by rw [List.getElem?_map, HZS.out]; rfl)
          obtain ⟨sV, aV, mV, qV, ⟨cV0, cV1⟩, hV⟩ := HRW4.out.2 j z HZS.out
          have cE := HEC4.out.2 j (ec z) (by rw [List.getElem?_map, HZS.out]; rfl)
          rw [HEZ.out] at cE
          rw [HLZ.out] at hG
          have SG := equal_any _ _ w4.drew (same_mk (iat_keeps hG (Below.refl _ _).drew) (nat_keeps hV (Below.refl _ _).drew) HSM.out)
          unfold TrueEnd at SG
          have HSG := Lib.hid SG
          have d0 : w4.drew.cell? ⟨t12 + 1, j * 2, none⟩ = some (.bool sG) := cG0
          have d1 : w4.drew.cell? ⟨t12 + 1, j * 2 + 1, none⟩ = some (.slice aG mG qG) := cG1
          have d2 : w4.drew.cell? ⟨t12 + 1 + 1, j, none⟩ = some (.int .i64 0) := cE
          have d3 : w4.drew.cell? ⟨t8, j * 2, none⟩ = some (.bool sV) := cV0
          have d4 : w4.drew.cell? ⟨t8, j * 2 + 1, none⟩ = some (.slice aV mV qV) := cV1
          clear hG hV SG cG0 cG1 cE cV0 cV1
          go_wp2_with fail
          have CELLF : Hid (∀ X : World, Below w4.heap.size w4 X → X.cell? ⟨t12 + 1, j * 2, none⟩ = some (.bool sG) ∧ X.cell? ⟨t12 + 1, j * 2 + 1, none⟩ = some (.slice aG mG qG) ∧ X.cell? ⟨t12 + 1 + 1, j, none⟩ = some (.int .i64 0) ∧ X.cell? ⟨t8, j * 2, none⟩ = some (.bool sV) ∧ X.cell? ⟨t8, j * 2 + 1, none⟩ = some (.slice aV mV qV)) := Lib.hid (fun X h => ⟨(h.cell (p := ⟨t12 + 1, j * 2, none⟩) HIC4.out.1).trans d0, (h.cell (p := ⟨t12 + 1, j * 2 + 1, none⟩) HIC4.out.1).trans d1, (h.cell (p := ⟨t12 + 1 + 1, j, none⟩) HEC4.out.1).trans d2, (h.cell (p := ⟨t8, j * 2, none⟩) HRW4.out.1).trans d3, (h.cell (p := ⟨t8, j * 2 + 1, none⟩) HRW4.out.1).trans d4⟩)
          refine wp_region_held_drew (S := fun X : World => X.cell? ⟨t12 + 1, j * 2, none⟩ = some (.bool sG) ∧ X.cell? ⟨t12 + 1, j * 2 + 1, none⟩ = some (.slice aG mG qG) ∧ X.cell? ⟨t12 + 1 + 1, j, none⟩ = some (.int .i64 0) ∧ X.cell? ⟨t8, j * 2, none⟩ = some (.bool sV) ∧ X.cell? ⟨t8, j * 2 + 1, none⟩ = some (.slice aV mV qV)) (by kernel_rfl) ?_ (fun hHeld => ?_)
          · exact CELLF.out _ (Below.refl _ _).drew
          clear d0 d1 d2 d3 d4
          refine wpAnyH_take (i := 0) (oi := { dst := some 138, op := Op.move (Operand.tmp 30), type := 4, pos := "law.go:200", after := #[], guard := none }) (v := ?_) rfl (by kernel_rfl) (by kernel_rfl) (by kernel_rfl) (fun _ _ _ h => h) (Or.inl ⟨by rfl, ?_⟩) (by assumption) ?_
          rotate_left
          · (intro wq hSw; (try dsimp only at hSw); go_simp; try with_reducible rfl)
          try simp only [Act.put, List.setIfInBounds_toArray, List.set_cons_zero, List.set_cons_succ]
          refine wpAnyH_take (i := 1) (oi := { dst := some 139, op := Op.move (Operand.tmp 27), type := 65, pos := "law.go:200", after := #[], guard := none }) (v := ?_) rfl (by kernel_rfl) (by kernel_rfl) (by kernel_rfl) (fun _ _ _ h => h) (Or.inl ⟨by rfl, ?_⟩) (by assumption) ?_
          rotate_left
          · (intro wq hSw; (try dsimp only at hSw); go_simp; try with_reducible rfl)
          try simp only [Act.put, List.setIfInBounds_toArray, List.set_cons_zero, List.set_cons_succ]
          refine wpAnyH_take (i := 2) (oi := { dst := some 140, op := Op.move (Operand.tmp 29), type := 3, pos := "law.go:200", after := #[], guard := none }) (v := ?_) rfl (by kernel_rfl) (by kernel_rfl) (by kernel_rfl) (fun _ _ _ h => h) (Or.inl ⟨by rfl, ?_⟩) (by assumption) ?_
          rotate_left
          · (intro wq hSw; (try dsimp only at hSw); go_simp; try with_reducible rfl)
          try simp only [Act.put, List.setIfInBounds_toArray, List.set_cons_zero, List.set_cons_succ]
          refine wpAnyH_take (i := 3) (oi := { dst := some 141, op := Op.indexAddr 65 (Operand.tmp 139) (Operand.tmp 140), type := 0, pos := "law.go:200", after := #[{ on := 1, ground := Ground.data }, { on := 2, ground := Ground.data }], guard := none }) (v := ?_) rfl (by kernel_rfl) (by kernel_rfl) (by kernel_rfl) (fun _ _ _ h => h) (Or.inl ⟨by rfl, ?_⟩) (by assumption) ?_
          rotate_left
          · (intro wq hSw; (try dsimp only at hSw); go_simp; try with_reducible rfl)
          try simp only [Act.put, List.setIfInBounds_toArray, List.set_cons_zero, List.set_cons_succ]
          refine wpAnyH_take (i := 4) (oi := { dst := some 142, op := Op.load 34 (Operand.tmp 141), type := 34, pos := "law.go:200", after := #[{ on := 3, ground := Ground.data }], guard := none }) (v := ?_) rfl (by kernel_rfl) (by kernel_rfl) (by kernel_rfl) (fun _ _ _ h => h) (Or.inl ⟨by rfl, ?_⟩) (by assumption) ?_
          rotate_left
          · (intro wq hSw; (try dsimp only at hSw); go_simp; try with_reducible rfl)
          try simp only [Act.put, List.setIfInBounds_toArray, List.set_cons_zero, List.set_cons_succ]
          refine wpAnyH_take (i := 5) (oi := { dst := some 143, op := Op.binOp BinOp.eql 34 (Operand.tmp 142) (Operand.const (Value.int IntKind.i64 0)) 34, type := 4, pos := "law.go:200", after := #[{ on := 4, ground := Ground.data }], guard := none }) (v := ?_) rfl (by kernel_rfl) (by kernel_rfl) (by kernel_rfl) (fun _ _ _ h => h) (Or.inl ⟨by rfl, ?_⟩) (by assumption) ?_
          rotate_left
          · (intro wq hSw; (try dsimp only at hSw); go_simp; try with_reducible rfl)
          try simp only [Act.put, List.setIfInBounds_toArray, List.set_cons_zero, List.set_cons_succ]
          refine wpAnyH_take (i := 6) (oi := { dst := some 144, op := Op.binOp BinOp.neq 4 (Operand.tmp 138) (Operand.tmp 143) 4, type := 4, pos := "law.go:200", after := #[{ on := 0, ground := Ground.data }, { on := 5, ground := Ground.data }], guard := none }) (v := ?_) rfl (by kernel_rfl) (by kernel_rfl) (by kernel_rfl) (fun _ _ _ h => h) (Or.inl ⟨by rfl, ?_⟩) (by assumption) ?_
          rotate_left
          · (intro wq hSw; (try dsimp only at hSw); go_simp; try with_reducible rfl)
          try simp only [Act.put, List.setIfInBounds_toArray, List.set_cons_zero, List.set_cons_succ]
          refine wpAnyH_take (i := 7) (oi := { dst := some 145, op := Op.move (Operand.tmp 144), type := 4, pos := "law.go:200", after := #[{ on := 6, ground := Ground.data }], guard := none }) (v := ?_) rfl (by kernel_rfl) (by kernel_rfl) (by kernel_rfl) (fun _ _ _ h => h) (Or.inl ⟨by rfl, ?_⟩) (by assumption) ?_
          rotate_left
          · (intro wq hSw; (try dsimp only at hSw); go_simp; try with_reducible rfl)
          try simp only [Act.put, List.setIfInBounds_toArray, List.set_cons_zero, List.set_cons_succ]
          refine wpAnyH_take (i := 8) (oi := { dst := some 146, op := Op.move (Operand.tmp 30), type := 4, pos := "law.go:200", after := #[{ on := 7, ground := Ground.guard }], guard := some (7, false) }) (v := ?_) rfl (by kernel_rfl) (by kernel_rfl) (by kernel_rfl) (fun _ _ _ h => h) (Or.inl ⟨by rfl, ?_⟩) (by assumption) ?_
          rotate_left
          · (intro wq hSw; (try dsimp only at hSw); go_simp; try with_reducible rfl)
          try simp only [Act.put, List.setIfInBounds_toArray, List.set_cons_zero, List.set_cons_succ]
          refine wpAnyH_take (i := 9) (oi := { dst := some 147, op := Op.unOp UnOp.not 4 (Operand.tmp 146), type := 4, pos := "law.go:200", after := #[{ on := 8, ground := Ground.data }, { on := 7, ground := Ground.guard }], guard := some (7, false) }) (v := ?_) rfl (by kernel_rfl) (by kernel_rfl) (by kernel_rfl) (fun _ _ _ h => h) (Or.inl ⟨by rfl, ?_⟩) (by assumption) ?_
          rotate_left
          · (intro wq hSw; (try dsimp only at hSw); go_simp; try with_reducible rfl)
          try simp only [Act.put, List.setIfInBounds_toArray, List.set_cons_zero, List.set_cons_succ]
          refine wpAnyH_take (i := 10) (oi := { dst := some 148, op := Op.move (Operand.tmp 147), type := 4, pos := "law.go:200", after := #[{ on := 9, ground := Ground.data }, { on := 7, ground := Ground.chain }, { on := 7, ground := Ground.guard }], guard := some (7, false) }) (v := ?_) rfl (by kernel_rfl) (by kernel_rfl) (by kernel_rfl) (fun _ _ _ h => h) (Or.inl ⟨by rfl, ?_⟩) (by assumption) ?_
          rotate_left
          · (intro wq hSw; (try dsimp only at hSw); go_simp; try with_reducible rfl)
          try simp only [Act.put, List.setIfInBounds_toArray, List.set_cons_zero, List.set_cons_succ]
          refine wpAnyH_take (i := 11) (oi := { dst := some 149, op := Op.move (Operand.tmp 27), type := 65, pos := "law.go:200", after := #[{ on := 10, ground := Ground.guard }], guard := some (10, true) }) (v := undef) rfl (by kernel_rfl) (by kernel_rfl) (by kernel_rfl) (fun _ _ _ h => h) (Or.inr ⟨by rfl, rfl⟩) (by assumption) ?_
          try simp only [Act.put, List.setIfInBounds_toArray, List.set_cons_zero, List.set_cons_succ]
          refine wpAnyH_take (i := 12) (oi := { dst := some 150, op := Op.move (Operand.tmp 29), type := 3, pos := "law.go:200", after := #[{ on := 10, ground := Ground.guard }], guard := some (10, true) }) (v := undef) rfl (by kernel_rfl) (by kernel_rfl) (by kernel_rfl) (fun _ _ _ h => h) (Or.inr ⟨by rfl, rfl⟩) (by assumption) ?_
          try simp only [Act.put, List.setIfInBounds_toArray, List.set_cons_zero, List.set_cons_succ]
          refine wpAnyH_take (i := 13) (oi := { dst := some 151, op := Op.indexAddr 65 (Operand.tmp 149) (Operand.tmp 150), type := 0, pos := "law.go:200", after := #[{ on := 11, ground := Ground.data }, { on := 12, ground := Ground.data }, { on := 10, ground := Ground.guard }], guard := some (10, true) }) (v := undef) rfl (by kernel_rfl) (by kernel_rfl) (by kernel_rfl) (fun _ _ _ h => h) (Or.inr ⟨by rfl, rfl⟩) (by assumption) ?_
          try simp only [Act.put, List.setIfInBounds_toArray, List.set_cons_zero, List.set_cons_succ]
          refine wpAnyH_take (i := 14) (oi := { dst := some 152, op := Op.load 34 (Operand.tmp 151), type := 34, pos := "law.go:200", after := #[{ on := 13, ground := Ground.data }, { on := 10, ground := Ground.guard }], guard := some (10, true) }) (v := undef) rfl (by kernel_rfl) (by kernel_rfl) (by kernel_rfl) (fun _ _ _ h => h) (Or.inr ⟨by rfl, rfl⟩) (by assumption) ?_
          try simp only [Act.put, List.setIfInBounds_toArray, List.set_cons_zero, List.set_cons_succ]
          refine wpAnyH_take (i := 15) (oi := { dst := some 153, op := Op.binOp BinOp.neq 34 (Operand.tmp 152) (Operand.const (Value.int IntKind.i64 4)) 34, type := 4, pos := "law.go:200", after := #[{ on := 14, ground := Ground.data }, { on := 10, ground := Ground.guard }], guard := some (10, true) }) (v := undef) rfl (by kernel_rfl) (by kernel_rfl) (by kernel_rfl) (fun _ _ _ h => h) (Or.inr ⟨by rfl, rfl⟩) (by assumption) ?_
          try simp only [Act.put, List.setIfInBounds_toArray, List.set_cons_zero, List.set_cons_succ]
          refine wpAnyH_take (i := 16) (oi := { dst := some 154, op := Op.move (Operand.tmp 153), type := 4, pos := "law.go:200", after := #[{ on := 15, ground := Ground.data }, { on := 10, ground := Ground.chain }, { on := 10, ground := Ground.guard }], guard := some (10, true) }) (v := undef) rfl (by kernel_rfl) (by kernel_rfl) (by kernel_rfl) (fun _ _ _ h => h) (Or.inr ⟨by rfl, rfl⟩) (by assumption) ?_
          try simp only [Act.put, List.setIfInBounds_toArray, List.set_cons_zero, List.set_cons_succ]
          refine wpAnyH_take (i := 17) (oi := { dst := some 155, op := Op.move (Operand.tmp 26), type := 64, pos := "law.go:200", after := #[{ on := 16, ground := Ground.guard }], guard := some (16, false) }) (v := undef) rfl (by kernel_rfl) (by kernel_rfl) (by kernel_rfl) (fun _ _ _ h => h) (Or.inr ⟨by rfl, rfl⟩) (by assumption) ?_
          try simp only [Act.put, List.setIfInBounds_toArray, List.set_cons_zero, List.set_cons_succ]
          refine wpAnyH_take (i := 18) (oi := { dst := some 156, op := Op.move (Operand.tmp 29), type := 3, pos := "law.go:200", after := #[{ on := 16, ground := Ground.guard }], guard := some (16, false) }) (v := undef) rfl (by kernel_rfl) (by kernel_rfl) (by kernel_rfl) (fun _ _ _ h => h) (Or.inr ⟨by rfl, rfl⟩) (by assumption) ?_
          try simp only [Act.put, List.setIfInBounds_toArray, List.set_cons_zero, List.set_cons_succ]
          refine wpAnyH_take (i := 19) (oi := { dst := some 157, op := Op.indexAddr 64 (Operand.tmp 155) (Operand.tmp 156), type := 0, pos := "law.go:200", after := #[{ on := 17, ground := Ground.data }, { on := 18, ground := Ground.data }, { on := 16, ground := Ground.guard }], guard := some (16, false) }) (v := undef) rfl (by kernel_rfl) (by kernel_rfl) (by kernel_rfl) (fun _ _ _ h => h) (Or.inr ⟨by rfl, rfl⟩) (by assumption) ?_
          try simp only [Act.put, List.setIfInBounds_toArray, List.set_cons_zero, List.set_cons_succ]
          refine wpAnyH_take (i := 20) (oi := { dst := some 158, op := Op.load 33 (Operand.tmp 157), type := 33, pos := "law.go:200", after := #[{ on := 19, ground := Ground.data }, { on := 16, ground := Ground.guard }], guard := some (16, false) }) (v := undef) rfl (by kernel_rfl) (by kernel_rfl) (by kernel_rfl) (fun _ _ _ h => h) (Or.inr ⟨by rfl, rfl⟩) (by assumption) ?_
          try simp only [Act.put, List.setIfInBounds_toArray, List.set_cons_zero, List.set_cons_succ]
          refine wpAnyH_take (i := 21) (oi := { dst := some 159, op := Op.call { callee := Callee.value (Operand.func 31), args := #[Operand.tmp 158], argTypes := #[33] }, type := 3, pos := "law.go:200", after := #[{ on := 20, ground := Ground.data }, { on := 16, ground := Ground.chain }, { on := 16, ground := Ground.guard }], guard := some (16, false) }) (v := undef) rfl (by kernel_rfl) (by kernel_rfl) (by kernel_rfl) (fun _ _ _ h => h) (Or.inr ⟨by rfl, rfl⟩) (by assumption) ?_
          try simp only [Act.put, List.setIfInBounds_toArray, List.set_cons_zero, List.set_cons_succ]
          refine wpAnyH_take (i := 22) (oi := { dst := some 160, op := Op.binOp BinOp.neq 3 (Operand.tmp 159) (Operand.const (Value.int IntKind.i64 0)) 3, type := 4, pos := "law.go:200", after := #[{ on := 21, ground := Ground.data }, { on := 16, ground := Ground.guard }], guard := some (16, false) }) (v := undef) rfl (by kernel_rfl) (by kernel_rfl) (by kernel_rfl) (fun _ _ _ h => h) (Or.inr ⟨by rfl, rfl⟩) (by assumption) ?_
          try simp only [Act.put, List.setIfInBounds_toArray, List.set_cons_zero, List.set_cons_succ]
          refine wpAnyH_take (i := 23) (oi := { dst := some 161, op := Op.pick (Operand.tmp 154) (Operand.const (Value.bool true)) (Operand.tmp 160), type := 4, pos := "law.go:200", after := #[{ on := 16, ground := Ground.data }, { on := 22, ground := Ground.data }, { on := 10, ground := Ground.guard }], guard := some (10, true) }) (v := undef) rfl (by kernel_rfl) (by kernel_rfl) (by kernel_rfl) (fun _ _ _ h => h) (Or.inr ⟨by rfl, rfl⟩) (by assumption) ?_
          try simp only [Act.put, List.setIfInBounds_toArray, List.set_cons_zero, List.set_cons_succ]
          refine wpAnyH_take (i := 24) (oi := { dst := some 162, op := Op.pick (Operand.tmp 148) (Operand.tmp 161) (Operand.const (Value.bool false)), type := 4, pos := "law.go:200", after := #[{ on := 10, ground := Ground.data }, { on := 23, ground := Ground.data }, { on := 7, ground := Ground.guard }], guard := some (7, false) }) (v := ?_) rfl (by kernel_rfl) (by kernel_rfl) (by kernel_rfl) (fun _ _ _ h => h) (Or.inl ⟨by rfl, ?_⟩) (by assumption) ?_
          rotate_left
          · (intro wq hSw; (try dsimp only at hSw); go_simp; try with_reducible rfl)
          try simp only [Act.put, List.setIfInBounds_toArray, List.set_cons_zero, List.set_cons_succ]
          refine wpAnyH_take (i := 25) (oi := { dst := some 163, op := Op.pick (Operand.tmp 145) (Operand.const (Value.bool true)) (Operand.tmp 162), type := 4, pos := "law.go:200", after := #[{ on := 7, ground := Ground.data }, { on := 24, ground := Ground.data }], guard := none }) (v := ?_) rfl (by kernel_rfl) (by kernel_rfl) (by kernel_rfl) (fun _ _ _ h => h) (Or.inl ⟨by rfl, ?_⟩) (by assumption) ?_
          rotate_left
          · (intro wq hSw; (try dsimp only at hSw); go_simp; try with_reducible rfl)
          try simp only [Act.put, List.setIfInBounds_toArray, List.set_cons_zero, List.set_cons_succ]
          refine wpAnyH_take (i := 26) (oi := { dst := some 164, op := Op.move (Operand.tmp 163), type := 4, pos := "law.go:200", after := #[{ on := 25, ground := Ground.data }, { on := 21, ground := Ground.chain }], guard := none }) (v := ?_) rfl (by kernel_rfl) (by kernel_rfl) (by kernel_rfl) (fun _ _ _ h => h) (Or.inl ⟨by rfl, ?_⟩) (by assumption) ?_
          rotate_left
          · (intro wq hSw; (try dsimp only at hSw); go_simp; try with_reducible rfl)
          try simp only [Act.put, List.setIfInBounds_toArray, List.set_cons_zero, List.set_cons_succ]
          refine wpAnyH_take (i := 27) (oi := { dst := some 165, op := Op.move (Operand.tmp 30), type := 4, pos := "law.go:200", after := #[{ on := 26, ground := Ground.guard }], guard := some (26, false) }) (v := ?_) rfl (by kernel_rfl) (by kernel_rfl) (by kernel_rfl) (fun _ _ _ h => h) (Or.inl ⟨by rfl, ?_⟩) (by assumption) ?_
          rotate_left
          · (intro wq hSw; (try dsimp only at hSw); go_simp; try with_reducible rfl)
          try simp only [Act.put, List.setIfInBounds_toArray, List.set_cons_zero, List.set_cons_succ]
          refine wpAnyH_take (i := 28) (oi := { dst := some 166, op := Op.move (Operand.tmp 165), type := 4, pos := "law.go:200", after := #[{ on := 27, ground := Ground.data }, { on := 26, ground := Ground.chain }, { on := 26, ground := Ground.guard }], guard := some (26, false) }) (v := ?_) rfl (by kernel_rfl) (by kernel_rfl) (by kernel_rfl) (fun _ _ _ h => h) (Or.inl ⟨by rfl, ?_⟩) (by assumption) ?_
          rotate_left
          · (intro wq hSw; (try dsimp only at hSw); go_simp; try with_reducible rfl)
          try simp only [Act.put, List.setIfInBounds_toArray, List.set_cons_zero, List.set_cons_succ]
          refine wpAnyH_take (i := 29) (oi := { dst := some 167, op := Op.move (Operand.tmp 26), type := 64, pos := "law.go:200", after := #[{ on := 28, ground := Ground.guard }], guard := some (28, true) }) (v := ?_) rfl (by kernel_rfl) (by kernel_rfl) (by kernel_rfl) (fun _ _ _ h => h) (Or.inl ⟨by rfl, ?_⟩) (by assumption) ?_
          rotate_left
          · (intro wq hSw; (try dsimp only at hSw); go_simp; try with_reducible rfl)
          try simp only [Act.put, List.setIfInBounds_toArray, List.set_cons_zero, List.set_cons_succ]
          refine wpAnyH_take (i := 30) (oi := { dst := some 168, op := Op.move (Operand.tmp 29), type := 3, pos := "law.go:200", after := #[{ on := 28, ground := Ground.guard }], guard := some (28, true) }) (v := ?_) rfl (by kernel_rfl) (by kernel_rfl) (by kernel_rfl) (fun _ _ _ h => h) (Or.inl ⟨by rfl, ?_⟩) (by assumption) ?_
          rotate_left
          · (intro wq hSw; (try dsimp only at hSw); go_simp; try with_reducible rfl)
          try simp only [Act.put, List.setIfInBounds_toArray, List.set_cons_zero, List.set_cons_succ]
          refine wpAnyH_take (i := 31) (oi := { dst := some 169, op := Op.indexAddr 64 (Operand.tmp 167) (Operand.tmp 168), type := 0, pos := "law.go:200", after := #[{ on := 29, ground := Ground.data }, { on := 30, ground := Ground.data }, { on := 28, ground := Ground.guard }], guard := some (28, true) }) (v := ?_) rfl (by kernel_rfl) (by kernel_rfl) (by kernel_rfl) (fun _ _ _ h => h) (Or.inl ⟨by rfl, ?_⟩) (by assumption) ?_
          rotate_left
          · (intro wq hSw; (try dsimp only at hSw); go_simp; try with_reducible rfl)
          try simp only [Act.put, List.setIfInBounds_toArray, List.set_cons_zero, List.set_cons_succ]
          refine wpAnyH_take (i := 32) (oi := { dst := some 170, op := Op.load 33 (Operand.tmp 169), type := 33, pos := "law.go:200", after := #[{ on := 31, ground := Ground.data }, { on := 28, ground := Ground.guard }], guard := some (28, true) }) (v := ?_) rfl (by kernel_rfl) (by kernel_rfl) (by kernel_rfl) (fun _ _ _ h => h) (Or.inl ⟨by rfl, ?_⟩) (by assumption) ?_
          rotate_left
          · (intro wq hSw; (try dsimp only at hSw); go_simp; try with_reducible rfl)
          try simp only [Act.put, List.setIfInBounds_toArray, List.set_cons_zero, List.set_cons_succ]
          refine wpAnyH_take (i := 33) (oi := { dst := some 171, op := Op.move (Operand.tmp 28), type := 47, pos := "law.go:200", after := #[{ on := 28, ground := Ground.guard }], guard := some (28, true) }) (v := ?_) rfl (by kernel_rfl) (by kernel_rfl) (by kernel_rfl) (fun _ _ _ h => h) (Or.inl ⟨by rfl, ?_⟩) (by assumption) ?_
          rotate_left
          · (intro wq hSw; (try dsimp only at hSw); go_simp; try with_reducible rfl)
          try simp only [Act.put, List.setIfInBounds_toArray, List.set_cons_zero, List.set_cons_succ]
          refine wpAnyH_take (i := 34) (oi := { dst := some 172, op := Op.move (Operand.tmp 29), type := 3, pos := "law.go:200", after := #[{ on := 28, ground := Ground.guard }], guard := some (28, true) }) (v := ?_) rfl (by kernel_rfl) (by kernel_rfl) (by kernel_rfl) (fun _ _ _ h => h) (Or.inl ⟨by rfl, ?_⟩) (by assumption) ?_
          rotate_left
          · (intro wq hSw; (try dsimp only at hSw); go_simp; try with_reducible rfl)
          try simp only [Act.put, List.setIfInBounds_toArray, List.set_cons_zero, List.set_cons_succ]
          refine wpAnyH_take (i := 35) (oi := { dst := some 173, op := Op.indexAddr 47 (Operand.tmp 171) (Operand.tmp 172), type := 0, pos := "law.go:200", after := #[{ on := 33, ground := Ground.data }, { on := 34, ground := Ground.data }, { on := 28, ground := Ground.guard }], guard := some (28, true) }) (v := ?_) rfl (by kernel_rfl) (by kernel_rfl) (by kernel_rfl) (fun _ _ _ h => h) (Or.inl ⟨by rfl, ?_⟩) (by assumption) ?_
          rotate_left
          · (intro wq hSw; (try dsimp only at hSw); go_simp; try with_reducible rfl)
          try simp only [Act.put, List.setIfInBounds_toArray, List.set_cons_zero, List.set_cons_succ]
          refine wpAnyH_take (i := 36) (oi := { dst := some 174, op := Op.load 25 (Operand.tmp 173), type := 25, pos := "law.go:200", after := #[{ on := 35, ground := Ground.data }, { on := 28, ground := Ground.guard }], guard := some (28, true) }) (v := ?_) rfl (by kernel_rfl) (by kernel_rfl) (by kernel_rfl) (fun _ _ _ h => h) (Or.inl ⟨by rfl, ?_⟩) (by assumption) ?_
          rotate_left
          · (intro wq hSw; (try dsimp only at hSw); go_simp; try with_reducible rfl)
          try simp only [Act.put, List.setIfInBounds_toArray, List.set_cons_zero, List.set_cons_succ]
          refine wpAnyH_ready (rs := [37]) (by kernel_rfl) (by simp) ?_
          refine AllReadyH.cons (o := { dst := some 175, op := Op.call { callee := Callee.value (Operand.func 14), args := #[Operand.tmp 170, Operand.tmp 174], argTypes := #[33, 25] }, type := 4, pos := "law.go:200", after := #[{ on := 32, ground := Ground.data }, { on := 36, ground := Ground.data }, { on := 28, ground := Ground.chain }, { on := 28, ground := Ground.guard }], guard := some (28, true) }) rfl (fun K hK => ?_) AllReadyH.nil
          go_simp
          go_at_call 14
          refine HSG.out.mono ?_
          rintro e w5 ⟨rfl, hb5⟩
          have HB5 := Lib.hid ((Below.refl w4.heap.size w4).drew.trans hb5)
          clear hb5
          go_wp2_with fail
          refine hK.out _ _ ?_ (fun hHeld => ?_)
          · exact CELLF.out _ HB5.out
          clear hK K
          try simp only [Act.put, List.setIfInBounds_toArray, List.set_cons_zero, List.set_cons_succ]
          refine wpAnyH_take (i := 38) (oi := { dst := some 176, op := Op.unOp UnOp.not 4 (Operand.tmp 175), type := 4, pos := "law.go:200", after := #[{ on := 37, ground := Ground.data }, { on := 28, ground := Ground.guard }], guard := some (28, true) }) (v := ?_) rfl (by kernel_rfl) (by kernel_rfl) (by kernel_rfl) (fun _ _ _ h => h) (Or.inl ⟨by rfl, ?_⟩) (by assumption) ?_
          rotate_left
          · (intro wq hSw; (try dsimp only at hSw); go_simp; try with_reducible rfl)
          try simp only [Act.put, List.setIfInBounds_toArray, List.set_cons_zero, List.set_cons_succ]
          refine wpAnyH_take (i := 39) (oi := { dst := some 177, op := Op.pick (Operand.tmp 166) (Operand.tmp 176) (Operand.const (Value.bool false)), type := 4, pos := "law.go:200", after := #[{ on := 28, ground := Ground.data }, { on := 38, ground := Ground.data }, { on := 26, ground := Ground.guard }], guard := some (26, false) }) (v := ?_) rfl (by kernel_rfl) (by kernel_rfl) (by kernel_rfl) (fun _ _ _ h => h) (Or.inl ⟨by rfl, ?_⟩) (by assumption) ?_
          rotate_left
          · (intro wq hSw; (try dsimp only at hSw); go_simp; try with_reducible rfl)
          try simp only [Act.put, List.setIfInBounds_toArray, List.set_cons_zero, List.set_cons_succ]
          refine wpAnyH_take (i := 40) (oi := { dst := some 178, op := Op.pick (Operand.tmp 164) (Operand.const (Value.bool true)) (Operand.tmp 177), type := 4, pos := "law.go:200", after := #[{ on := 26, ground := Ground.data }, { on := 39, ground := Ground.data }], guard := none }) (v := ?_) rfl (by kernel_rfl) (by kernel_rfl) (by kernel_rfl) (fun _ _ _ h => h) (Or.inl ⟨by rfl, ?_⟩) (by assumption) ?_
          rotate_left
          · (intro wq hSw; (try dsimp only at hSw); go_simp; try with_reducible rfl)
          try simp only [Act.put, List.setIfInBounds_toArray, List.set_cons_zero, List.set_cons_succ]
          refine wpAnyH_done (by kernel_rfl) ?_ _
          have HRW5 := Lib.hid (nrow_keeps HRW4.out HB5.out)
          have HIC5 := Lib.hid (irow_keeps HIC4.out HB5.out)
          have HEC5 := Lib.hid (erow_keeps HEC4.out HB5.out)
          have HB6 := Lib.hid (below_then HB4.out HB5.out)
          go_wp2_with fail
          go_roundw
          case rel => exact ⟨j + 1, by go_num, by omega, HRW5, HIC5, HEC5, HB6⟩
          case measure => simp [intOf] <;> omega
      · obtain rfl : j = 4 := by omega
        go_wp2_with fail
        have LV := lives_any wr
        unfold TrueEnd at LV
        have HLV := Lib.hid LV
        clear LV
        go_must (refine HLV.out.mono ?_)
        rintro e w96 ⟨rfl, hbe⟩
        have HE := Lib.hid (below_then HB.out hbe)
        clear hbe HLV
        go_wp2_with fail
        go_ret
        exact ⟨rfl, HE.out⟩
end Go.Proofs.YtldbhlafijjkdaaDoor
