/-
  The reference of package wide: Small and Fits.
-/
import Derived.Test.YtldbhlafijjkdaaDoorCmr
import Derived.Test.YtldbhlafijjkdaaDoorTxA
namespace Go.Proofs.YtldbhlafijjkdaaDoor
open Go.RowKit Go.Shelf
set_option linter.unusedVariables false
set_option maxRecDepth 100000

theorem nat_sign {W : World} {s : Bool} {a : Option Addr} {m c : Nat} {z : Int} (h : NAt W (.agg #[.bool s, .slice a m c]) z) : s = decide (z < 0) := by
  obtain ⟨v, e, _⟩ := h
  injection e with e
  have e1 : Value.bool s = .bool (decide (z < 0)) := by simpa using congrArg (fun t => t[0]!) e
  simpa using e1
theorem drop_le (d : List Nat) (i : Nat) : valD (d.drop i) ≤ valD d := by
  rw [valD_split d i]
  have := Nat.le_mul_of_pos_left (valD (d.drop i)) (pow_pos4 (d.take i).length)
  omega
def NSmallEnd (z : Int) (w : World) (e : Ending) (w' : World) : Prop := e = .returned (smallV z) ∧ Below w.heap.size w w'
def sgnI (s : Bool) (m : Nat) : Int := if s then -(m : Int) else (m : Int)
theorem npair_mk2 {W : World} {x y : Value} {a b : Int} (h1 : NAt W x a) (h2 : NAt W y b) (h3 : (digs a.natAbs).length ≤ 500000) (h4 : (digs b.natAbs).length ≤ 500000) : NPair W x y (cmpZ a b) := ⟨a, b, h1, h2, rfl, by omega, by omega⟩
theorem dig_int {n : Int} (h : -9223372036854775808 ≤ n ∧ n ≤ 9223372036854775807) : (digs n.natAbs).length ≤ 500000 := digs_of_small ((lo_int h).small (by decide))

set_option maxHeartbeats 4000000 in
theorem nSmall_any (x : Value) (z : Int) (w : World) (hx : NAt w x z) (hs : (digs z.natAbs).length ≤ 500000) :
    Calls Tryd.prog 22 #[x] w (NSmallEnd z w) := by
  obtain ⟨s, a, m, c, rfl⟩ := nat_shape hx
  obtain ⟨w2, hw2⟩ : ∃ w2, w2 = w.alloc (.cells #[.bool s, .slice a m c] 25) := ⟨_, rfl⟩
  have hb2 : Below w.heap.size w w2 := by rw [hw2]; exact below_one _ _
  have hl1 : Laid w2 w.heap.size 25 [.bool s, .slice a m c] := by rw [hw2]; exact Laid.new _ _ _
  obtain ⟨c1, hc1⟩ : ∃ c1, c1 = cmpZ z 9223372036854775807 := ⟨_, rfl⟩
  obtain ⟨c2, hc2⟩ : ∃ c2, c2 = cmpZ z (-9223372036854775808) := ⟨_, rfl⟩
  have OF1 : Hid (∀ w1, Calls Tryd.prog 19 #[.int .i64 9223372036854775807] w1 (NEnd 9223372036854775807 w1)) := Lib.hid (fun w1 => of_any _ w1 (by decide))
  have OF2 : Hid (∀ w1, Calls Tryd.prog 19 #[.int .i64 (-9223372036854775808)] w1 (NEnd (-9223372036854775808) w1)) := Lib.hid (fun w1 => of_any _ w1 (by decide))
  have CMP : Hid (∀ w1 x y c, NPair w1 x y c → Calls Tryd.prog 30 #[x, y] w1 (CmpEnd c w1)) := Lib.hid npair_cmp
  have P1 : Hid (∀ w1 y, Below w2.heap.size w2 w1 → NAt w1 y 9223372036854775807 → NPair w1 (.agg #[.bool s, .slice a m c]) y c1) := Lib.hid (fun w1 y h h2 => hc1 ▸ npair_mk2 (nat_keeps (nat_keeps hx hb2) h) h2 hs (dig_int (by decide)))
  have P2 : Hid (∀ w1 y, Below w2.heap.size w2 w1 → NAt w1 y (-9223372036854775808) → NPair w1 (.agg #[.bool s, .slice a m c]) y c2) := Lib.hid (fun w1 y h h2 => hc2 ▸ npair_mk2 (nat_keeps (nat_keeps hx hb2) h) h2 hs (dig_int (by decide)))
  have CELLS : Hid (∀ w1, Below w2.heap.size w2 w1 → w1.cell? ⟨w.heap.size, 0, none⟩ = some (.bool s) ∧ w1.cell? ⟨w.heap.size, 1, none⟩ = some (.slice a m c)) := Lib.hid (fun w1 hb => by
    obtain ⟨e1, e2, _, _⟩ := cells2 (hl1.below hb)
    exact ⟨e1, e2⟩)
  have HB : Hid (Below w2.heap.size w2 w2.drew) := Lib.hid (Below.refl _ _).drew
  have HB2 := Lib.hid hb2
  have HX := Lib.hid hx
  have HS := Lib.hid hs
  unfold NEnd at OF1 OF2
  unfold CmpEnd at CMP
  have HC : Hid ((9223372036854775807 < z ∧ c1 = 1) ∨ (z < -9223372036854775808 ∧ c1 = -1 ∧ c2 = -1) ∨ ((-9223372036854775808 ≤ z ∧ z ≤ 9223372036854775807) ∧ (c1 = -1 ∨ c1 = 0) ∧ (c2 = 0 ∨ c2 = 1))) := Lib.hid (by
    rw [hc1, hc2]; unfold cmpZ
    split <;> split <;> (try split) <;> (try split) <;> omega)
  have HROW : Hid (Row .i64 w (.slice a m c) (natI (digs z.natAbs))) := Lib.hid (nat_row2 hx)
  have HSD : Hid (s = decide (z < 0)) := Lib.hid (nat_sign hx)
  clear hb2 hl1 hx hs hc1 hc2
  unfold NSmallEnd
  rcases HC.out with ⟨hz, rfl⟩ | ⟨hz, rfl, rfl⟩ | ⟨hz, h1, h2⟩
  · have HV : Hid (smallV z = .tuple #[.int .i64 0, .bool false]) := Lib.hid (by unfold smallV; rw [if_neg (by omega)])
    clear hz HC HX HS
    go_enter Tryd.func22, Tryd.ntmps22
    go_wp2_with fail
    rw [← hw2]
    clear hw2
    obtain ⟨q0, q1⟩ := CELLS.out _ HB.out
    go_region_with (first
      | (go_at_call 19; ((with_reducible refine (OF1.out _).mono ?_); rintro e w3 ⟨y3, rfl, hx3, hb3⟩); have UB := Lib.hid (below_then HB.out hb3); clear HB; have HB := UB; clear UB; have PP := Lib.hid (P1.out _ _ HB.out hx3); obtain ⟨q2, q3⟩ := CELLS.out _ HB.out; clear hx3 hb3)
      | (go_at_call 30; ((with_reducible refine (CMP.out _ _ _ _ PP.out).mono ?_); rintro e w4 ⟨rfl, hb4⟩); have UB := Lib.hid (below_then HB.out hb4); clear HB; have HB := UB; clear UB; clear hb4))
    all_goals
      go_wp2_with fail
      have HE := Lib.hid (below_then HB2.out HB.out)
      go_ret2
      exact ⟨by rw [HV.out]; rfl, HE.out⟩
  · have HV : Hid (smallV z = .tuple #[.int .i64 0, .bool false]) := Lib.hid (by unfold smallV; rw [if_neg (by omega)])
    clear hz HC HX HS
    go_enter Tryd.func22, Tryd.ntmps22
    go_wp2_with fail
    rw [← hw2]
    clear hw2
    go_region_held3 (fun X : World => X.cell? ⟨w.heap.size, 0, none⟩ = some (.bool s) ∧ X.cell? ⟨w.heap.size, 1, none⟩ = some (.slice a m c)) (with_reducible first | exact CELLS.out _ HB.out) (first
      | (go_at_call 19; ((with_reducible refine (OF1.out _).mono ?_); rintro e w3 ⟨y3, rfl, hx3, hb3⟩); have UB := Lib.hid (below_then HB.out hb3); clear HB; have HB := UB; clear UB; have PP := Lib.hid (P1.out _ _ HB.out hx3); clear hx3 hb3)
      | (go_at_call 19; ((with_reducible refine (OF2.out _).mono ?_); rintro e w5 ⟨y5, rfl, hx5, hb5⟩); have UB := Lib.hid (below_then HB.out hb5); clear HB; have HB := UB; clear UB; have PQ := Lib.hid (P2.out _ _ HB.out hx5); clear hx5 hb5)
      | (go_at_call 30; ((with_reducible refine (CMP.out _ _ _ _ PP.out).mono ?_); rintro e w4 ⟨rfl, hb4⟩); have UB := Lib.hid (below_then HB.out hb4); clear HB; have HB := UB; clear UB; clear hb4)
      | (go_at_call 30; ((with_reducible refine (CMP.out _ _ _ _ PQ.out).mono ?_); rintro e w6 ⟨rfl, hb6⟩); have UB := Lib.hid (below_then HB.out hb6); clear HB; have HB := UB; clear UB; clear hb6))
    go_wp2_with fail
    have HE := Lib.hid (below_then HB2.out HB.out)
    go_ret2
    exact ⟨by rw [HV.out]; rfl, HE.out⟩
  · have HV : Hid (smallV z = .tuple #[.int .i64 z, .bool true]) := Lib.hid (by unfold smallV; rw [if_pos hz])
    have HR := Lib.hid hz
    have HM : Hid (m = (digs z.natAbs).length) := Lib.hid (row_lenN HROW.out).symm
    obtain ⟨pu, cu, hvu, hcu, hcmu, hneu, _⟩ := HROW.out
    injection hvu with hv1 hv2 hv3
    subst hv1
    have HNE := Lib.hid hneu
    have hmc : m ≤ 500000 := by have := HM.out; have := HS.out; omega
    have hcm : m ≤ c := by have := HM.out; rw [natI_length] at hcu; omega
    clear hz HC hneu HX hv2 hv3 hcu hcmu
    rcases h1 with rfl | rfl <;> rcases h2 with rfl | rfl
    all_goals
      go_enter Tryd.func22, Tryd.ntmps22
      go_wp2_with fail
      rw [← hw2]
      clear hw2
      go_region_held3 (fun X : World => X.cell? ⟨w.heap.size, 0, none⟩ = some (.bool s) ∧ X.cell? ⟨w.heap.size, 1, none⟩ = some (.slice a m c)) (with_reducible first | exact CELLS.out _ HB.out) (first
        | (go_at_call 19; ((with_reducible refine (OF1.out _).mono ?_); rintro e w3 ⟨y3, rfl, hx3, hb3⟩); have UB := Lib.hid (below_then HB.out hb3); clear HB; have HB := UB; clear UB; have PP := Lib.hid (P1.out _ _ HB.out hx3); clear hx3 hb3)
        | (go_at_call 19; ((with_reducible refine (OF2.out _).mono ?_); rintro e w5 ⟨y5, rfl, hx5, hb5⟩); have UB := Lib.hid (below_then HB.out hb5); clear HB; have HB := UB; clear UB; have PQ := Lib.hid (P2.out _ _ HB.out hx5); clear hx5 hb5)
        | (go_at_call 30; ((with_reducible refine (CMP.out _ _ _ _ PP.out).mono ?_); rintro e w4 ⟨rfl, hb4⟩); have UB := Lib.hid (below_then HB.out hb4); clear HB; have HB := UB; clear UB; clear hb4)
        | (go_at_call 30; ((with_reducible refine (CMP.out _ _ _ _ PQ.out).mono ?_); rintro e w6 ⟨rfl, hb6⟩); have UB := Lib.hid (below_then HB.out hb6); clear HB; have HB := UB; clear UB; clear hb6))
  
      clear OF1 OF2 CMP P1 P2
      rcases Classical.em (z < 0) with hn | hn
      · have HSG : Hid (z < 0) := Lib.hid hn
        obtain rfl : s = true := by rw [HSD.out]; simpa using hn
        clear hn HSD
        go_wp2_with fail
        go_loopw [4, 5] (fun nv iv wr => ∃ j : Nat, iv = .int .i64 ((j : Int) - 1) ∧ nv = .int .i64 (-(valD ((digs z.natAbs).drop j) : Int)) ∧ Hid (j ≤ m) ∧ Hid (Below w2.heap.size w2 wr)) (fun _ iv _ => (intOf iv + 1).toNat)
        case atStart => exact ⟨m, rfl, by rw [HM.out, List.drop_length]; rfl, Lib.hid (Nat.le_refl _), HB⟩
        case round =>
          clear HB
          obtain ⟨j, rfl, rfl, HJ, HB⟩ := hrel
          obtain ⟨c0, c1⟩ := CELLS.out _ HB.out
          rcases Nat.eq_zero_or_pos j with hj0 | hj0
          · subst hj0
            have HZV : Hid (-(valD ((digs z.natAbs).drop 0) : Int) = z) := Lib.hid (by rw [List.drop_zero, valD_digs]; have := HSG.out; omega)
            have HE := Lib.hid (below_then HB2.out HB.out)
            rw [show ((0 : Nat) : Int) - 1 = -1 from rfl]
            go_wp2_with fail
            go_ret2
            exact ⟨by rw [HV.out, HZV.out]; rfl, HE.out⟩
          · obtain ⟨i, rfl⟩ : ∃ i, j = i + 1 := ⟨j - 1, by omega⟩
            have hi : i < (digs z.natAbs).length := by have := HJ.out; have := HM.out; omega
            obtain ⟨bu, ou, rfl, hc⟩ := HNE.out (fun h => by have := congrArg List.length h; rw [natI_length, List.length_nil] at this; omega)
            have hx0 := hc i (by rw [natI_length]; exact hi)
            rw [natI_getD] at hx0
            have hx1 := ((HB2.out.trans (HB.out.mono HB2.out.size)).cell (p := ⟨bu, ou + i, none⟩) (World.block_lt_of_cell? _ _ hx0)).trans hx0
            have HST := Lib.hid (drop_val hi)
            have hle := drop_le (digs z.natAbs) i
            rw [valD_digs, drop_val hi] at hle
            have hd4 := atD_lt (digs_lt z.natAbs) i
            have him : i < m := by have := HJ.out; omega
            have HJ2 : Hid (i ≤ m) := Lib.hid (by omega)
            rw [show ((digs z.natAbs)[i]?.getD 0) = atD (digs z.natAbs) i from rfl] at hx1
            obtain ⟨h1, h2⟩ := HR.out
            generalize atD (digs z.natAbs) i = d at *
            generalize hV : valD ((digs z.natAbs).drop (i + 1)) = V at *
            rw [show ((i + 1 : Nat) : Int) - 1 = (i : Int) by omega]
            have hb1 : z.natAbs ≤ 9223372036854775808 := by omega
            have hi0 : (0 : Int) ≤ (i : Int) := by omega
            have HSG2 := HSG.out
            have k1 : -9223372036854775808 ≤ -(V : Int) * 10000 ∧ -(V : Int) * 10000 ≤ 9223372036854775807 := by omega
            have k2 : -9223372036854775808 ≤ -(V : Int) * 10000 - (d : Int) ∧ -(V : Int) * 10000 - (d : Int) ≤ 9223372036854775807 := by omega
            clear hc hx0 hle hV hb1 HSG2 hi
            go_wp2_with fail
            go_roundw
            case rel => exact ⟨i, rfl, by rw [HST.out]; first | go_num | (congr 1; omega), HJ2, HB⟩
            case measure => simp [intOf] <;> omega
      · have HSG : Hid (¬ z < 0) := Lib.hid hn
        obtain rfl : s = false := by rw [HSD.out]; simpa using hn
        clear hn HSD
        go_wp2_with fail
        go_loopw [4, 5] (fun nv iv wr => ∃ j : Nat, iv = .int .i64 ((j : Int) - 1) ∧ nv = .int .i64 ((valD ((digs z.natAbs).drop j) : Int)) ∧ Hid (j ≤ m) ∧ Hid (Below w2.heap.size w2 wr)) (fun _ iv _ => (intOf iv + 1).toNat)
        case atStart => exact ⟨m, rfl, by rw [HM.out, List.drop_length]; rfl, Lib.hid (Nat.le_refl _), HB⟩
        case round =>
          clear HB
          obtain ⟨j, rfl, rfl, HJ, HB⟩ := hrel
          obtain ⟨c0, c1⟩ := CELLS.out _ HB.out
          rcases Nat.eq_zero_or_pos j with hj0 | hj0
          · subst hj0
            have HZV : Hid ((valD ((digs z.natAbs).drop 0) : Int) = z) := Lib.hid (by rw [List.drop_zero, valD_digs]; have := HSG.out; omega)
            have HE := Lib.hid (below_then HB2.out HB.out)
            rw [show ((0 : Nat) : Int) - 1 = -1 from rfl]
            go_wp2_with fail
            go_ret2
            exact ⟨by rw [HV.out, HZV.out]; rfl, HE.out⟩
          · obtain ⟨i, rfl⟩ : ∃ i, j = i + 1 := ⟨j - 1, by omega⟩
            have hi : i < (digs z.natAbs).length := by have := HJ.out; have := HM.out; omega
            obtain ⟨bu, ou, rfl, hc⟩ := HNE.out (fun h => by have := congrArg List.length h; rw [natI_length, List.length_nil] at this; omega)
            have hx0 := hc i (by rw [natI_length]; exact hi)
            rw [natI_getD] at hx0
            have hx1 := ((HB2.out.trans (HB.out.mono HB2.out.size)).cell (p := ⟨bu, ou + i, none⟩) (World.block_lt_of_cell? _ _ hx0)).trans hx0
            have HST := Lib.hid (drop_val hi)
            have hle := drop_le (digs z.natAbs) i
            rw [valD_digs, drop_val hi] at hle
            have hd4 := atD_lt (digs_lt z.natAbs) i
            have him : i < m := by have := HJ.out; omega
            have HJ2 : Hid (i ≤ m) := Lib.hid (by omega)
            rw [show ((digs z.natAbs)[i]?.getD 0) = atD (digs z.natAbs) i from rfl] at hx1
            obtain ⟨h1, h2⟩ := HR.out
            generalize atD (digs z.natAbs) i = d at *
            generalize hV : valD ((digs z.natAbs).drop (i + 1)) = V at *
            rw [show ((i + 1 : Nat) : Int) - 1 = (i : Int) by omega]
            have hb1 : z.natAbs ≤ 9223372036854775808 := by omega
            have hi0 : (0 : Int) ≤ (i : Int) := by omega
            have HSG2 := HSG.out
            have k1 : -9223372036854775808 ≤ (V : Int) * 10000 ∧ (V : Int) * 10000 ≤ 9223372036854775807 := by omega
            have k2 : -9223372036854775808 ≤ (V : Int) * 10000 + (d : Int) ∧ (V : Int) * 10000 + (d : Int) ≤ 9223372036854775807 := by omega
            clear hc hx0 hle hV hb1 HSG2 hi
            go_wp2_with fail
            go_roundw
            case rel => exact ⟨i, rfl, by rw [HST.out]; first | go_num | (congr 1; omega), HJ2, HB⟩
            case measure => simp [intOf] <;> omega
end Go.Proofs.YtldbhlafijjkdaaDoor
