/-
  The walk of the law HashArguments: hashing leaves its arguments as they are and repeats its result.
-/
import Derived.Test.YtdcgdgejoalfdaaWalkI
namespace Go.Proofs.Ytdcgdgejoalfdaa
open Go.RowKit Go.Shelf
set_option linter.unusedVariables false

set_option maxRecDepth 100000 in
set_option maxHeartbeats 4000000 in
theorem walk_HashArguments (v : Value) (l : List Int) (u : Value) (b : List Int) (w : World) (hv : Row .i64 w v l) (_hl : ∀ n ∈ l, -9223372036854775808 ≤ n ∧ n ≤ 9223372036854775807) (hu : Row .u8 w u b) (hb : ∀ n ∈ b, 0 ≤ n ∧ n ≤ 255) :
    Calls Try.prog 10 #[v, u] w fun e w' => e = .returned (.bool true) ∧ Below w.heap.size w w' := by
  have h10 : (l.take 10).length ≤ 10 := by simp; omega
  have h30 : (b.take 30).length ≤ 30 := by simp; omega
  have hr : ∀ n ∈ b.take 30, 0 ≤ n ∧ n ≤ 255 := fun n hn => hb n (List.mem_of_mem_take hn)
  have HV := Lib.hid hv
  have HU := Lib.hid hu
  have HR := Lib.hid hr
  have H10 := Lib.hid h10
  have H30 := Lib.hid h30
  have L := Lib.hid (fun W => lives_any W)
  clear hv hu hb _hl hr h10 h30
  generalize hcl : l.take 10 = cl at *
  generalize hcb : b.take 30 = cb at *
  have HCL := Lib.hid hcl
  have HCB := Lib.hid hcb
  clear hcl hcb
  have S0 := fun (W : World) (v : Value) => sum_any ⟨#[115, 97, 109, 101]⟩ v cl W (by decide)
  have B0 := fun (W : World) (v : Value) h1 h2 => bytes_any ⟨#[115, 97, 109, 101]⟩ v (toNats cb) W (by decide) h1 h2 (by rw [toNats_length]; have := H30.out; omega)
  generalize sumN (strN ⟨#[115, 97, 109, 101]⟩) cl = X at *
  generalize bytesN (strN ⟨#[115, 97, 109, 101]⟩) (toNats cb) = Y at *
  have S := Lib.hid S0
  have Bs := Lib.hid B0
  clear S0 B0
  have qx := eq_bool (rfl : X = X)
  have qy := eq_bool (rfl : Y = Y)
  go_enter Try.func10, Try.ntmps10
  go_wp2_with fail
  refine (refInts_any v l 10 w HV.out (by decide)).mono ?_
  rintro e w1 ⟨v1, rfl, hf1, hb1⟩
  rw [HCL.out] at hf1
  have F1 := Lib.hid hf1
  clear hf1
  go_wp2_with fail
  refine (refFew_any u b 30 w1 (row_keeps HU.out hb1) (by decide)).mono ?_
  rintro e w2 ⟨v2, rfl, hf2, hb2⟩
  rw [HCB.out] at hf2
  have F2 := Lib.hid hf2
  clear hf2
  replace F1 : Hid _ := Lib.hid (fresh_keeps F1.out hb2)
  have hb3 := below_then hb1 hb2
  clear hb1 hb2
  go_wp2_with fail
  refine (S.out w2 v1 (Ints.of_fresh F1.out (by have := H10.out; omega))).mono ?_
  rintro e w3 ⟨rfl, hb4⟩
  have hb5 := below_then hb3 hb4
  replace F1 : Hid _ := Lib.hid (fresh_keeps F1.out hb4)
  replace F2 : Hid _ := Lib.hid (fresh_keeps F2.out hb4)
  clear hb3 hb4
  go_wp2_with fail
  refine (Bs.out w3 v2 (Bytes.of_fresh F2.out (by have := H30.out; omega) HR.out) (fresh_block F2.out)).mono ?_
  rintro e w4 ⟨rfl, hb6⟩
  have hb7 := below_then hb5 hb6
  replace F1 : Hid _ := Lib.hid (fresh_keeps F1.out hb6)
  replace F2 : Hid _ := Lib.hid (fresh_keeps F2.out hb6)
  clear hb5 hb6
  go_wp2_with fail
  refine (refInts_any v l 10 w4 (row_keeps HV.out hb7) (by decide)).mono ?_
  rintro e w5 ⟨v5, rfl, hf5, hb8⟩
  rw [HCL.out] at hf5
  have F5 := Lib.hid hf5
  have hb9 := below_then hb7 hb8
  replace F1 : Hid _ := Lib.hid (fresh_keeps F1.out hb8)
  replace F2 : Hid _ := Lib.hid (fresh_keeps F2.out hb8)
  clear hf5 hb7 hb8
  go_wp2_with fail
  refine (sameInts_any v1 v5 cl cl w5 (Elems.of_fresh F1.out) (Elems.of_fresh F5.out) (by have := H10.out; omega) (by have := H10.out; omega)).mono ?_
  rintro e w6 ⟨rfl, hb10⟩
  rw [decide_eq_true (rfl : cl = cl)]
  have hb11 := below_then hb9 hb10
  replace F1 : Hid _ := Lib.hid (fresh_keeps F1.out hb10)
  replace F2 : Hid _ := Lib.hid (fresh_keeps F2.out hb10)
  clear F5 hb9 hb10
  go_wp2_with fail
  refine (refFew_any u b 30 w6 (row_keeps HU.out hb11) (by decide)).mono ?_
  rintro e w7 ⟨v7, rfl, hf7, hb12⟩
  rw [HCB.out] at hf7
  have F7 := Lib.hid hf7
  have hb13 := below_then hb11 hb12
  replace F1 : Hid _ := Lib.hid (fresh_keeps F1.out hb12)
  replace F2 : Hid _ := Lib.hid (fresh_keeps F2.out hb12)
  clear hf7 hb11 hb12
  go_wp2_with fail
  refine (sameBytes_any v2 v7 cb cb w7 (Elems.of_fresh F2.out) (Elems.of_fresh F7.out) (by have := H30.out; omega) (by have := H30.out; omega)).mono ?_
  rintro e w8 ⟨rfl, hb14⟩
  rw [decide_eq_true (rfl : cb = cb)]
  have hb15 := below_then hb13 hb14
  replace F1 : Hid _ := Lib.hid (fresh_keeps F1.out hb14)
  replace F2 : Hid _ := Lib.hid (fresh_keeps F2.out hb14)
  clear F7 hb13 hb14
  go_wp2_with fail
  refine (S.out w8 v1 (Ints.of_fresh F1.out (by have := H10.out; omega))).mono ?_
  rintro e w9 ⟨rfl, hb16⟩
  have hb17 := below_then hb15 hb16
  replace F2 : Hid _ := Lib.hid (fresh_keeps F2.out hb16)
  clear hb15 hb16
  go_wp2_with fail
  refine (Bs.out w9 v2 (Bytes.of_fresh F2.out (by have := H30.out; omega) HR.out) (fresh_block F2.out)).mono ?_
  rintro e w10 ⟨rfl, hb18⟩
  have hb19 := below_then hb17 hb18
  clear hb17 hb18
  go_wp2_with fail
  refine (L.out w10).mono ?_
  rintro e w11 ⟨rfl, hb20⟩
  have hb21 := below_then hb19 hb20
  clear hb19 hb20
  go_wp2_with fail
  go_ret
  exact ⟨rfl, hb21⟩
end Go.Proofs.Ytdcgdgejoalfdaa
