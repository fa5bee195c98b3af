/-
  The laws' examples.
-/
import Derived.Test.YtghilgkkpbhoiaaDevH
namespace Go.Proofs.Ytghilgkkpbhoiaa
open Go.RowKit Go.Shelf
set_option linter.unusedVariables false

theorem var300 : varN 300 = [172, 2] := by rw [varN_big (by decide), varN_small (by decide)]
theorem zigm1 : varN (zigN (-1)) = [1] := by rw [show zigN (-1) = 1 by decide, varN_small (by decide)]
theorem var2 : varN 2 = [2] := varN_small (by decide)

/-- A step that touches only blocks from B on. -/
theorem below_foot {A : Foot} {B : Nat} {w W W2 : World} (h : Below B w W) (hk : Keeps A W W2) (hB : B ≤ W.heap.size) (hA : ∀ k, A k → B ≤ k) : Below B w W2 := h.trans (hk.below hB hA)

theorem rx_below {W W2 : World} {r b : Nat} {s : RS} (h : Rx W r b s) (hb : b < W.heap.size) (hk : Below W.heap.size W W2) : Rx W2 r b s :=
  rx_keeps h (Keeps.of_below hk) (by have := h.lts; omega) (by omega)

set_option maxRecDepth 100000 in
set_option maxHeartbeats 4000000 in
theorem lives_any2 (w : World) :
    Calls Try.prog 18 #[] w fun e w' => e = .returned (.bool true) ∧ Below w.heap.size w w' := by
  have hW := wr_new w
  have hb0 : Below w.heap.size w (w.alloc (.cells #[.slice none 0 0] 32)) := (Below.refl _ w).alloc (Nat.le_refl _) _
  have hs0 : (w.alloc (.cells #[.slice none 0 0] 32)).heap.size = w.heap.size + 1 := by simp
  have HW := Lib.hid hW
  clear hW
  go_enter Try.func18, Try.ntmps18
  go_wp2_with fail
  generalize w.alloc (.cells #[.slice none 0 0] 32) = w0 at *
  refine (devUint_any _ _ [] 300 w0 HW.out (by decide) (by simp)).mono ?_
  rintro e w1 ⟨rfl, g1, hw1, hg1, hk1⟩
  have hb1 := below_foot hb0 hk1 (by omega) (fun k hk => by omega)
  rw [var300, List.nil_append] at hw1
  have HW1 := Lib.hid hw1
  have hs1 := hk1.size
  clear hb0 hk1 hw1
  go_wp2_with fail
  refine (devInt_any _ _ _ (-1) w1 HW1.out (by decide) (by simp)).mono ?_
  rintro e w2 ⟨rfl, g2, hw2, hg2, hk2⟩
  have hb2 := below_foot hb1 hk2 (by omega) (fun k hk => by omega)
  rw [zigm1] at hw2
  have HW2 := Lib.hid hw2
  have hs2 := hk2.size
  clear hb1 hk2 hw2
  go_wp2_with fail
  refine (devText_any _ _ _ ⟨#[97, 98]⟩ w2 HW2.out (by decide)).mono ?_
  rintro e w3 ⟨rfl, g3, hw3, hg3, hk3⟩
  have hb3 := below_foot hb2 hk3 (by omega) (fun k hk => by omega)
  rw [show (⟨#[97, 98]⟩ : ByteArray).size = 2 from rfl, var2, show strB ⟨#[97, 98]⟩ = [97, 98] from rfl] at hw3
  have HW3 : Hid (Wr w3 w.heap.size g3 [172, 2, 1, 2, 97, 98]) := Lib.hid hw3
  have hs3 := hk3.size
  clear hb2 hk3 hw3
  go_wp2_with fail
  refine (devDone_any _ _ _ w3 HW3.out (by simp)).mono ?_
  rintro e w4 ⟨v, rfl, hv, hb⟩
  have hb4 := below_foot hb3 (Keeps.of_below hb) (by omega) (fun k hk => by omega)
  have hs4 := hb.size
  have HV := Lib.hid (row_of_fresh hv)
  have HVB := Lib.hid (fresh_block hv)
  clear hb3 hb hv
  go_wp2_with fail
  refine (devRead_any v [172, 2, 1, 2, 97, 98] w4 HV.out (by decide) (by simp)).mono ?_
  rintro e w5 ⟨r, b, rfl, hr, hrB, hbB, hbl, hb⟩
  have hb5 := below_foot hb4 (Keeps.of_below hb) (by omega) (fun k hk => by omega)
  have hs5 := hb.size
  have HR := Lib.hid hr
  have HV5 := Lib.hid (row_keeps HV.out hb)
  clear hb4 hb hr HV
  have HF := Lib.hid (fresh_lit w5 w5.heap.size 5 .u8 [128, 0] (Nat.le_refl _) (by simp))
  have hbL : Below w5.heap.size w5 (w5.alloc (.cells (([128, 0] : List Int).map (Value.int .u8)).toArray 5)) := (Below.refl _ w5).alloc (Nat.le_refl _) _
  have HRL := Lib.hid (rw_below HR.out hbl hbL)
  have HVL := Lib.hid (row_keeps HV5.out hbL)
  have hb6 := below_foot hb5 (Keeps.of_below hbL) (by omega) (fun k hk => by omega)
  have hs6 := hbL.size
  clear hbL HR HV5 hb5
  go_wp2_with fail
  refine (devRead_any _ [128, 0] _ (row_of_fresh HF.out) (by decide) (by simp)).mono ?_
  rintro e w7 ⟨r2, b2, rfl, hr2, hrB2, hbB2, hbl2, hb⟩
  have hb7 := below_foot hb6 (Keeps.of_below hb) (by omega) (fun k hk => by omega)
  have hs7 := hb.size
  have HR1 := Lib.hid (rx_of (rw_below HRL.out (by omega) hb))
  have HV7 := Lib.hid (row_keeps HVL.out hb)
  have HR2 := Lib.hid (rx_of hr2)
  have hrl := HRL.out.lts
  clear hb hb6 HRL HVL HF hr2
  generalize w5.alloc (Obj.cells (List.map (Value.int .u8) [128, 0]).toArray 5) = w6 at *
  have e1 : rUint ([172, 2, 1, 2, 97, 98], 0) = (300, ([1, 2, 97, 98], 0)) := rfl
  have e2 : rInt ([1, 2, 97, 98], 0) = (-1, ([2, 97, 98], 0)) := rfl
  have e3 : rRaw ([2, 97, 98], 0) = ([97, 98], ([], 0)) := rfl
  have e4 : rInt ([128, 0], 0) = (0, ([128, 0], 2)) := rfl
  have E1 := Lib.hid e1
  have E2 := Lib.hid e2
  have E3 := Lib.hid e3
  have E4 := Lib.hid e4
  clear e1 e2 e3 e4
  go_wp2_with fail
  refine (devRdUint_any r b _ w7 HR1.out).mono ?_
  rintro e w8 ⟨rfl, hr, hk⟩
  rw [E1.out] at hr ⊢
  have hb8 := below_foot hb7 hk (by omega) (fun k hk => by omega)
  have hs8 := hk.size
  have HR8 : Hid (Rx w8 r b ([1, 2, 97, 98], 0)) := Lib.hid hr
  have HS8 := Lib.hid (rx_keeps HR2.out hk (by omega) (by omega))
  have HV8 := Lib.hid (row_foot HV7.out hk (fun j hj e => by have := HVB.out j hj; omega))
  clear hb7 hk hr HR1 HR2 HV7 E1
  go_wp2_with fail
  refine (devRdInt_any r b _ w8 HR8.out (by decide)).mono ?_
  rintro e w9 ⟨rfl, hr, hk⟩
  rw [E2.out] at hr ⊢
  have hb9 := below_foot hb8 hk (by omega) (fun k hk => by omega)
  have hs9 := hk.size
  have HR9 : Hid (Rx w9 r b ([2, 97, 98], 0)) := Lib.hid hr
  have HS9 := Lib.hid (rx_keeps HS8.out hk (by omega) (by omega))
  have HV9 := Lib.hid (row_foot HV8.out hk (fun j hj e => by have := HVB.out j hj; omega))
  clear hb8 hk hr HR8 HS8 HV8 E2
  go_wp2_with fail
  refine (devRdText_any r b _ w9 HR9.out (by decide) (by omega)).mono ?_
  rintro e wA ⟨rfl, hr, hk⟩
  rw [E3.out] at hr ⊢
  have hbA := below_foot hb9 hk (by omega) (fun k hk => by omega)
  have hsA := hk.size
  have HRA : Hid (Rx wA r b ([], 0)) := Lib.hid hr
  have HSA := Lib.hid (rx_keeps HS9.out hk (by omega) (by omega))
  have HVA := Lib.hid (row_foot HV9.out hk (fun j hj e => by have := HVB.out j hj; omega))
  have eab : strOfNums (natI [97, 98]) = ⟨#[97, 98]⟩ := rfl
  simp only [eab]
  clear hb9 hk hr HR9 HS9 HV9 E3 eab
  go_wp2_with fail
  refine (devRdInt_any r2 b2 _ wA HSA.out (by decide)).mono ?_
  rintro e wB ⟨rfl, hr, hk⟩
  rw [E4.out] at hr ⊢
  have hbB := below_foot hbA hk (by omega) (fun k hk => by omega)
  have hsB := hk.size
  have HSB : Hid (Rx wB r2 b2 ([128, 0], 2)) := Lib.hid hr
  have HRB := Lib.hid (rx_keeps HRA.out hk (by omega) (by omega))
  have HVB2 := Lib.hid (row_foot HVA.out hk (fun j hj e => by have := HVB.out j hj; omega))
  clear hbA hk hr HRA HSA HVA E4
  have HF := Lib.hid (Elems.of_row (row_of_fresh (fresh_lit wB wB.heap.size 5 .u8 [172, 2, 1, 2, 97, 98] (Nat.le_refl _) (by simp))))
  have hbL : Below wB.heap.size wB (wB.alloc (.cells (([172, 2, 1, 2, 97, 98] : List Int).map (Value.int .u8)).toArray 5)) := (Below.refl _ wB).alloc (Nat.le_refl _) _
  have HVL := Lib.hid (Elems.of_row (row_keeps HVB2.out hbL))
  have HRL := Lib.hid (rx_below HRB.out (by omega) hbL)
  have HSL := Lib.hid (rx_below HSB.out (by omega) hbL)
  have hbC := below_foot hbB (Keeps.of_below hbL) (by omega) (fun k hk => by omega)
  have hsC := hbL.size
  clear hbL hbB HRB HSB HVB2
  go_wp2_with fail
  refine (sameBytes_any v _ _ _ _ HVL.out HF.out (by simp [natI]) (by simp)).mono ?_
  rintro e wD ⟨rfl, hb⟩
  have hbD := below_foot hbC (Keeps.of_below hb) (by omega) (fun k hk => by omega)
  have HRD := Lib.hid (rx_below HRL.out (by omega) hb)
  have HSD := Lib.hid (rx_below HSL.out (by omega) hb)
  rw [show decide (natI [172, 2, 1, 2, 97, 98] = [172, 2, 1, 2, 97, 98]) = true from rfl]
  clear hb hbC HRL HSL HF HVL hsC
  go_wp2_with fail
  refine (devRdEnd_any r b _ wD HRD.out).mono ?_
  rintro e wE ⟨rfl, rfl⟩
  rw [show rEnd ([], 0) = 0 from rfl]
  go_wp2_with fail
  refine (devRdEnd_any r2 b2 _ wD HSD.out).mono ?_
  rintro e wF ⟨rfl, rfl⟩
  rw [show rEnd ([128, 0], 2) = 2 from rfl]
  go_wp2_with fail
  go_ret
  exact ⟨rfl, hbD⟩
end Go.Proofs.Ytghilgkkpbhoiaa
