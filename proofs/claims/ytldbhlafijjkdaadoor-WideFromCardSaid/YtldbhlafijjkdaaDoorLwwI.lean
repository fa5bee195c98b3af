/-
  The law WideFrom. (tools/genLwwD.py makes this text.)
-/
import Derived.Test.YtldbhlafijjkdaaDoorCmr
import Derived.Test.YtldbhlafijjkdaaDoorNra
import Derived.Test.YtldbhlafijjkdaaDoorNsm
import Derived.Deep.DeepCutAuto
namespace Go.Proofs.YtldbhlafijjkdaaDoor
open Go.RowKit Go.Shelf
set_option linter.unusedVariables false
set_option maxRecDepth 100000

theorem nrow_two {W : World} {z0 z1 : Int} {s0 s1 : Bool} {a0 a1 : Option Addr} {m0 m1 c0 c1 : Nat} (h0 : NAt W (.agg #[.bool s0, .slice a0 m0 c0]) z0) (h1 : NAt W (.agg #[.bool s1, .slice a1 m1 c1]) z1) :
    NRow (W.alloc (.cells #[.bool s0, .slice a0 m0 c0, .bool s1, .slice a1 m1 c1] 25)) W.heap.size [z0, z1] := by
  have hl := Laid.new W 25 [.bool s0, .slice a0 m0 c0, .bool s1, .slice a1 m1 c1]
  have hb := below_one W (.cells #[.bool s0, .slice a0 m0 c0, .bool s1, .slice a1 m1 c1] 25)
  refine ⟨hl.lt, fun k z hz => ?_⟩
  match k, hz with
  | 0, hz => cases hz; exact ⟨s0, a0, m0, c0, ⟨hl.cell 0, hl.cell 1⟩, nat_keeps h0 hb⟩
  | 1, hz => cases hz; exact ⟨s1, a1, m1, c1, ⟨hl.cell 2, hl.cell 3⟩, nat_keeps h1 hb⟩
theorem from_rng {a b : Int} (ha : Lo 240 a) (hb : Lo 66 b) : ∀ k, k < 2 → ∃ z, [a, b][k]? = some z ∧ Lo 240 z := by
  intro k hk
  match k, hk with
  | 0, _ => exact ⟨a, rfl, ha⟩
  | 1, _ => exact ⟨b, rfl, hb.more (by decide)⟩
def NearFor (w : World) (e : Ending) (w' : World) : Prop := ∃ z : Int, Lo 66 z ∧ NEnd z w e w'
theorem near_for (a b : Nat) (w : World) (ha : a < 7) (hb : b < 2) : Calls Tryd.prog 20 #[.int .i64 (4 * (a : Int) + 3 + 28 * (b : Int))] w (NearFor w) := by
  have hk : aroundI (4 * (a : Int) + 3 + 28 * (b : Int)) 28 = ((4 * a + 3 : Nat) : Int) := by
    unfold aroundI
    rw [if_neg (by omega)]
    omega
  refine (near_at _ (4 * a + 3) 3 63 w (by omega) hk (by omega) (by omega) rfl).mono ?_
  rintro e w' ⟨z, hz, h⟩
  refine ⟨z, ?_, h⟩
  have := near_bnd (E := 63) (d := (((4 * a + 3) / 4 : Nat) - 3 : Int)) (by omega)
  unfold Lo
  have h2 : (2 : Nat) ^ (63 + 2) ≤ 2 ^ 66 := Nat.pow_le_pow_right (by decide) (by decide)
  rcases hz with rfl | rfl
  · omega
  · rw [Int.natAbs_neg]; omega

set_option maxHeartbeats 8000000 in
theorem walk_WideFrom (n : Int) (v : Value) (l : List Int) (k : Int) (w : World) (hn : -9223372036854775808 ≤ n ∧ n ≤ 9223372036854775807) (hv : Row .i64 w v l) (hr : ∀ n ∈ l, -9223372036854775808 ≤ n ∧ n ≤ 9223372036854775807) (hk : -9223372036854775808 ≤ k ∧ k ≤ 9223372036854775807) :
    Calls Tryd.prog 4 #[.int .i64 n, v, .int .i64 k] w fun e w' => e = .returned (.bool true) ∧ Below w.heap.size w w' := by
  obtain ⟨pv, cv, rfl, hcv, hcvm⟩ := (show ∃ p c, v = .slice p l.length c ∧ l.length ≤ c ∧ c ≤ 9223372036854775807 by obtain ⟨p, c, e, h1, h2, _⟩ := hv; exact ⟨p, c, e, h1, h2⟩)
  have HL := Lib.hid hv
  have HR := Lib.hid hr
  have HN := Lib.hid hn
  have HK := Lib.hid hk
  have HB : Hid (Below w.heap.size w w) := Lib.hid (Below.refl _ _)
  have BN : Hid (Small n) := Lib.hid ((lo_int HN.out).small (by decide))
  clear hv hr
  generalize hll : l.length = ll at *
  clear hll
  go_enter Tryd.func4, Tryd.ntmps4
  go_wp2_with fail
  have C0 := wFrom_any n w HN.out
  unfold IEnd at C0
  have HC0 := Lib.hid C0
  clear C0
  go_must (refine HC0.out.mono ?_)
  rintro e w0 ⟨b0, p0, n0, q0, rfl, hx0, hb0⟩
  have hbb := below_then hb0 (below_one w0 (.cells #[.bool b0, .slice p0 n0 q0] 33))
  have U := Lib.hid (row_keeps HL.out hbb)
  clear HL
  have HL := U
  clear U
  have U := Lib.hid (below_then HB.out hbb)
  clear HB
  have HB := U
  clear U
  have TX := Lib.hid (IBox.new hx0)
  clear HC0 hb0 hbb hx0
  obtain ⟨sXE, aXE, mXE, kXE, ⟨cXE0, cXE1⟩, hXE⟩ := TX.out.open
  go_wp2_with fail
  generalize w0.alloc (.cells #[.bool b0, .slice p0 n0 q0] 33) = W0 at *
  generalize w0.heap.size = t0 at *
  have SM := wSmall_any _ n W0 hXE
  rw [show smallV n = .tuple #[.int .i64 n, .bool true] by unfold smallV; rw [if_pos HN.out]] at SM
  have HSM := Lib.hid SM
  clear SM cXE0 cXE1 hXE
  go_must (refine HSM.out.mono ?_)
  rintro e w30 ⟨rfl, hbb⟩
  have U := Lib.hid (TX.out.below hbb)
  clear TX HSM
  have TX := U
  clear U
  have U := Lib.hid (row_keeps HL.out hbb)
  clear HL
  have HL := U
  clear U
  have U := Lib.hid (below_then HB.out hbb)
  clear HB hbb
  have HB := U
  clear U
  go_wp2_with fail
  obtain ⟨sXE, aXE, mXE, kXE, lXE, hXE⟩ := TX.out
  have GX := Lib.hid hXE
  have LX := Lib.hid lXE
  clear hXE lXE
  have CELLS : Hid (∀ X : World, Below w30.heap.size w30 X → X.cell? ⟨t0, 0, none⟩ = some (.bool sXE) ∧ X.cell? ⟨t0, 1, none⟩ = some (.slice aXE mXE kXE)) := Lib.hid (fun X h => by
    obtain ⟨eX0, eX1, _, _⟩ := cells2 (LX.out.below h)
    exact ⟨eX0, eX1⟩)
  have HW0 := HB
  clear HB
  have HB : Hid (Below w30.heap.size w30 w30.drew) := Lib.hid (Below.refl _ _).drew
  have OF : Hid (∀ w', Calls Tryd.prog 19 #[.int .i64 n] w' (NEnd n w')) := Lib.hid (fun w' => of_any n w' HN.out)
  unfold NEnd at OF
  go_region_held3 (fun X : World => X.cell? ⟨t0, 0, none⟩ = some (.bool sXE) ∧ X.cell? ⟨t0, 1, none⟩ = some (.slice aXE mXE kXE)) (with_reducible first | exact CELLS.out _ HB.out) (first
    | (go_at_call 19; ((with_reducible refine (OF.out _).mono ?_); rintro e w9 ⟨y9, rfl, hy9, hb9⟩); have UB := Lib.hid (below_then HB.out hb9); have EQ := Lib.hid (same_mk (iat_keeps GX.out UB.out) hy9 BN.out); clear hy9 hb9 HB; have HB := UB; clear UB)
    | (go_at_call 14; refine (equal_any _ _ _ EQ.out).mono ?_; rintro e w9 ⟨rfl, hb9⟩; have UB := Lib.hid (below_then HB.out hb9); clear hb9 HB; have HB := UB; clear UB))
  clear OF EQ
  have hbb := HB.out
  clear HB CELLS GX LX
  have U := Lib.hid (TX.out.below hbb)
  clear TX
  have TX := U
  clear U
  have U := Lib.hid (row_keeps HL.out hbb)
  clear HL
  have HL := U
  clear U
  have HB := Lib.hid (below_then HW0.out hbb)
  clear HW0 hbb
  go_wp2_with fail
  have C := number_ref _ l 0 w9 HL.out HR.out (by decide)
  unfold NumEnd at C
  unfold NEnd at C
  have HC := Lib.hid C
  clear C TX
  go_must (refine HC.out.mono ?_)
  rintro e w10 ⟨z0, hz0, y0, rfl, hx0, hb0⟩
  obtain ⟨b0, p0, n0, q0, rfl⟩ := nat_shape hx0
  have HX0 := Lib.hid hx0
  have HZ0 := Lib.hid hz0
  have HB1 := Lib.hid (below_then HB.out hb0)
  have HA1 := Lib.hid (around_nat k 7 w10 HK.out (by decide) (by decide))
  rw [show ((7 : Nat) : Int) = 7 from rfl] at HA1
  unfold AroundEnd at HA1
  clear hx0 hb0 hz0 HB HC HL
  go_wp2_with fail
  go_must (refine HA1.out.mono ?_)
  rintro e w11 ⟨a, ha, rfl, rfl⟩
  obtain ⟨q, hq⟩ : ∃ q : Int, k.tdiv 7 = q := ⟨_, rfl⟩
  have hqr := tdiv_rng (m := 7) hk (by decide)
  rw [hq] at hqr
  have HA2 := Lib.hid (around_nat q 2 w10 hqr (by decide) (by decide))
  rw [show ((2 : Nat) : Int) = 2 from rfl] at HA2
  unfold AroundEnd at HA2
  clear HA1
  go_wp2_with fail
  go_must (refine HA2.out.mono ?_)
  rintro e w12 ⟨b, hb, rfl, rfl⟩
  have HNR := Lib.hid (near_for a b w10 ha hb)
  unfold NearFor at HNR
  clear HA2 hq
  go_wp2_with fail
  go_must (refine HNR.out.mono ?_)
  rintro e w13 ⟨z1, hz1, y1, rfl, hx1, hb1⟩
  obtain ⟨b1, p1, n1, q1, rfl⟩ := nat_shape hx1
  have HZ1 := Lib.hid hz1
  have HRW := Lib.hid (nrow_two (nat_keeps HX0.out hb1) hx1)
  have HB := Lib.hid (below_then (below_then HB1.out hb1) (below_one w13 (.cells #[.bool b0, .slice p0 n0 q0, .bool b1, .slice p1 n1 q1] 25)))
  have HRNG := Lib.hid (from_rng HZ0.out HZ1.out)
  clear hx1 hb1 hz1 HX0 HB1 HNR HZ0 HZ1
  go_wp2_with fail
  generalize hzs : [z0, z1] = zs at *
  clear hzs
  generalize w13.alloc (.cells #[.bool b0, .slice p0 n0 q0, .bool b1, .slice p1 n1 q1] 25) = W7 at *
  generalize w13.heap.size = t7 at *
  go_loopw [11, 12, 13, 14, 15, 16, 17] (fun iv _ _ _ _ _ _ wr => ∃ j : Nat, iv = .int .i64 (j : Int) ∧ j ≤ 2 ∧ Hid (NRow wr t7 zs) ∧ Hid (Below w.heap.size w wr)) (fun iv _ _ _ _ _ _ _ => (2 - intOf iv).toNat)
  case atStart => exact ⟨0, rfl, by decide, HRW, HB⟩
  case round =>
    clear HRW HB
    obtain ⟨j, rfl, hj2, HRW, HB⟩ := hrel
    rcases Nat.lt_or_ge j 2 with hlt | hge
    · obtain ⟨z, hz, hzl⟩ := HRNG.out j hlt
      have HZ := Lib.hid hzl
      have HZS := Lib.hid hz
      have hlti : (j : Int) < 2 := by omega
      obtain ⟨p, q2, hpq⟩ : ∃ (p : Int) (q2 : Bool), smallV z = .tuple #[.int .i64 p, .bool q2] := by unfold smallV; split <;> exact ⟨_, _, rfl⟩
      have SW : Hid (∀ w' x, IAt w' x z → Calls Tryd.prog 18 #[x] w' fun e w2 => e = .returned (.tuple #[.int .i64 p, .bool q2]) ∧ Below w'.heap.size w' w2) := Lib.hid (fun w' x h => by rw [← hpq]; exact wSmall_any x z w' h)
      have SN : Hid (∀ w' x, NAt w' x z → Calls Tryd.prog 22 #[x] w' fun e w2 => e = .returned (.tuple #[.int .i64 p, .bool q2]) ∧ Below w'.heap.size w' w2) := Lib.hid (fun w' x h => by rw [← hpq]; exact nSmall_any x z w' h (digs_of_small (HZ.out.small (by decide))))
      obtain ⟨sK, aK, mK, qK, ⟨cK0, cK1⟩, hK⟩ := HRW.out.2 j z hz
      have HWD := Lib.hid (wider_any _ z wr hK (HZ.out.small (by decide)))
      unfold WiderEnd at HWD
      clear hzl hz hpq hK
      go_wp2_with fail
      go_must (refine HWD.out.mono ?_)
      rintro e w20 ⟨b20, p20, n20, q20, rfl, hx20, hb20⟩
      have hbb := below_then hb20 (below_one w20 (.cells #[.bool b20, .slice p20 n20 q20] 33))
      have HS1 := Lib.hid (SW.out _ _ (iat_keeps hx20 (below_one w20 (.cells #[.bool b20, .slice p20 n20 q20] 33))))
      have HB2 := Lib.hid (below_then HB.out hbb)
      have HRW2 := Lib.hid (nrow_keeps HRW.out hbb)
      clear hx20 hb20 hbb HB HRW HWD SW cK0 cK1
      go_wp2_with fail
      generalize w20.alloc (.cells #[.bool b20, .slice p20 n20 q20] 33) = W8 at *
      go_must (refine HS1.out.mono ?_)
      rintro e w21 ⟨rfl, hb21⟩
      have HB3 := Lib.hid (below_then HB2.out hb21)
      have HRW3 := Lib.hid (nrow_keeps HRW2.out hb21)
      obtain ⟨sV, aV, mV, qV, ⟨cV0, cV1⟩, hV⟩ := HRW3.out.2 j z HZS.out
      have HS2 := Lib.hid (SN.out _ _ hV)
      clear hb21 HB2 HRW2 HS1 SN hV
      go_wp2_with fail
      go_must (refine HS2.out.mono ?_)
      rintro e w22 ⟨rfl, hb22⟩
      have HB4 := Lib.hid (below_then HB3.out hb22)
      have HRW4 := Lib.hid (nrow_keeps HRW3.out hb22)
      clear hb22 HB3 HRW3 HS2 cV0 cV1
      go_wp2_with fail
      go_roundw
      case rel => exact ⟨j + 1, by go_num, by omega, HRW4, HB4⟩
      case measure => simp [intOf] <;> omega
    · obtain rfl : j = 2 := by omega
      go_wp2_with fail
      have LV := lives_any wr
      unfold TrueEnd at LV
      have HLV := Lib.hid LV
      clear LV
      go_must (refine HLV.out.mono ?_)
      rintro e w96 ⟨rfl, hbe⟩
      have HE := Lib.hid (below_then HB.out hbe)
      clear hbe HLV
      go_wp2_with fail
      go_ret
      exact ⟨rfl, HE.out⟩
end Go.Proofs.YtldbhlafijjkdaaDoor
