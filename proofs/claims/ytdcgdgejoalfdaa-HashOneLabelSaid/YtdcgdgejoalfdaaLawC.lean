/-
  The walks of the laws HashSum and HashBytes: Sum, Bytes and Pair agree with the reference.
-/
import Derived.Test.YtdcgdgejoalfdaaWalkL
namespace Go.Proofs.Ytdcgdgejoalfdaa
open Go.RowKit Go.Shelf
set_option linter.unusedVariables false

theorem ints_nil (k : IntKind) (w : World) : Ints k w (.slice none 0 0) [] := ⟨none, 0, rfl, Nat.le_refl _, by decide, fun h => (h rfl).elim⟩

set_option maxRecDepth 100000 in
set_option maxHeartbeats 4000000 in
theorem walk_HashSum (label : ByteArray) (v : Value) (l : List Int) (w : World) (hs : label.size ≤ maxLen) (hv : Row .i64 w v l) (_hl : ∀ n ∈ l, -9223372036854775808 ≤ n ∧ n ≤ 9223372036854775807) :
    Calls Try.prog 3 #[.string label, v] w fun e w' => e = .returned (.bool true) ∧ Below w.heap.size w w' := by
  have h12 : (l.take 12).length ≤ 12 := by simp; omega
  have HV := Lib.hid hv
  have HS := Lib.hid hs
  have H12 := Lib.hid h12
  have L := Lib.hid (fun W => lives_any W)
  clear hv hs h12 _hl
  generalize hcl : l.take 12 = cl at *
  have HCL := Lib.hid hcl
  clear hcl
  go_enter Try.func3, Try.ntmps3
  go_wp2_with fail
  refine (short_any label 40 w HS.out (by decide)).mono ?_
  rintro e w0 ⟨s, rfl, hs40, rfl⟩
  have S1 := Lib.hid (fun (W : World) (v : Value) => sum_any s v cl W (by omega))
  have R1 := Lib.hid (fun (W : World) (v : Value) => refSum_any s v cl W (by omega))
  have S2 := Lib.hid (fun (W : World) (v : Value) => sum_any s v [] W (by omega))
  have R2 := Lib.hid (fun (W : World) (v : Value) => refSum_any s v [] W (by omega))
  generalize sumN (strN s) cl = X at *
  generalize sumN (strN s) [] = Y at *
  have qx := eq_bool (rfl : X = X)
  have qy := eq_bool (rfl : Y = Y)
  clear hs40
  go_wp2_with fail
  refine (refInts_any v l 12 _ HV.out (by decide)).mono ?_
  rintro e w1 ⟨v1, rfl, hf1, hb1⟩
  rw [HCL.out] at hf1
  have F1 := Lib.hid hf1
  clear hf1
  go_wp2_with fail
  refine (S1.out w1 v1 (Ints.of_fresh F1.out (by have := H12.out; omega))).mono ?_
  rintro e w2 ⟨rfl, hb2⟩
  have hb3 := below_then hb1 hb2
  replace F1 : Hid _ := Lib.hid (fresh_keeps F1.out hb2)
  clear hb1 hb2
  go_wp2_with fail
  refine (R1.out w2 v1 (Ints.of_fresh F1.out (by have := H12.out; omega))).mono ?_
  rintro e w3 ⟨rfl, hb4⟩
  have hb5 := below_then hb3 hb4
  clear hb3 hb4 F1
  go_wp2_with fail
  refine (S2.out w3 _ (ints_nil _ _)).mono ?_
  rintro e w4 ⟨rfl, hb6⟩
  have hb7 := below_then hb5 hb6
  clear hb5 hb6
  go_wp2_with fail
  refine (R2.out w4 _ (ints_nil _ _)).mono ?_
  rintro e w5 ⟨rfl, hb8⟩
  have hb9 := below_then hb7 hb8
  clear hb7 hb8
  go_wp2_with fail
  refine (L.out w5).mono ?_
  rintro e w6 ⟨rfl, hb10⟩
  have hb11 := below_then hb9 hb10
  clear hb9 hb10
  go_wp2_with fail
  go_ret
  exact ⟨rfl, hb11⟩

set_option maxRecDepth 100000 in
set_option maxHeartbeats 4000000 in
theorem walkN_HashBytes (label : ByteArray) (u : Value) (b : List Int) (x y : Nat) (w : World) (hs : label.size ≤ maxLen) (hu : Row .u8 w u b) (hb : ∀ n ∈ b, 0 ≤ n ∧ n ≤ 255) (hx : x < T64) (hy : y < T64) :
    Calls Try.prog 4 #[.string label, u, .int .u64 (x : Int), .int .u64 (y : Int)] w fun e w' => e = .returned (.bool true) ∧ Below w.heap.size w w' := by
  have h60 : (b.take 60).length ≤ 60 := by simp; omega
  have hr : ∀ n ∈ b.take 60, 0 ≤ n ∧ n ≤ 255 := fun n hn => hb n (List.mem_of_mem_take hn)
  have HU := Lib.hid hu
  have HS := Lib.hid hs
  have HR := Lib.hid hr
  have H60 := Lib.hid h60
  have L := Lib.hid (fun W => lives_any W)
  have P1 := Lib.hid (fun W => pair_any x y W hx hy)
  have P2 := Lib.hid (fun W => refPair_any x y W hx hy)
  clear hu hs h60 hb hr hx hy
  generalize pairN x y = Z at *
  have qz := eq_bool (rfl : Z = Z)
  generalize hcb : b.take 60 = cb at *
  have HCB := Lib.hid hcb
  clear hcb
  go_enter Try.func4, Try.ntmps4
  go_wp2_with fail
  refine (short_any label 20 w HS.out (by decide)).mono ?_
  rintro e w0 ⟨s, rfl, hs20, rfl⟩
  have B1 := Lib.hid (fun (W : World) (v : Value) h1 h2 => bytes_any s v (toNats cb) W (by omega) h1 h2 (by rw [toNats_length]; have := H60.out; omega))
  have R1 := Lib.hid (fun (W : World) (v : Value) h1 => refBytes_any s v (toNats cb) W (by omega) h1 (by rw [toNats_length]; have := H60.out; omega))
  generalize bytesN (strN s) (toNats cb) = X at *
  have qx := eq_bool (rfl : X = X)
  clear hs20
  go_wp2_with fail
  refine (refFew_any u b 60 _ HU.out (by decide)).mono ?_
  rintro e w1 ⟨v1, rfl, hf1, hb1⟩
  rw [HCB.out] at hf1
  have F1 := Lib.hid hf1
  clear hf1
  go_wp2_with fail
  refine (B1.out w1 v1 (Bytes.of_fresh F1.out (by have := H60.out; omega) HR.out) (fresh_block F1.out)).mono ?_
  rintro e w2 ⟨rfl, hb2⟩
  have hb3 := below_then hb1 hb2
  replace F1 : Hid _ := Lib.hid (fresh_keeps F1.out hb2)
  clear hb1 hb2
  go_wp2_with fail
  refine (R1.out w2 v1 (Bytes.of_fresh F1.out (by have := H60.out; omega) HR.out)).mono ?_
  rintro e w3 ⟨rfl, hb4⟩
  have hb5 := below_then hb3 hb4
  clear hb3 hb4 F1
  go_wp2_with fail
  refine (P1.out w3).mono ?_
  rintro e w4 ⟨rfl, hb6⟩
  have hb7 := below_then hb5 hb6
  clear hb5 hb6
  go_wp2_with fail
  refine (P2.out w4).mono ?_
  rintro e w5 ⟨rfl, hb8⟩
  have hb9 := below_then hb7 hb8
  clear hb7 hb8
  go_wp2_with fail
  refine (L.out w5).mono ?_
  rintro e w6 ⟨rfl, hb10⟩
  have hb11 := below_then hb9 hb10
  clear hb9 hb10
  go_wp2_with fail
  go_ret
  exact ⟨rfl, hb11⟩

theorem walk_HashBytes (label : ByteArray) (u : Value) (b : List Int) (x y : Int) (w : World) (hs : label.size ≤ maxLen) (hu : Row .u8 w u b) (hb : ∀ n ∈ b, 0 ≤ n ∧ n ≤ 255) (hx : 0 ≤ x ∧ x ≤ 18446744073709551615) (hy : 0 ≤ y ∧ y ≤ 18446744073709551615) :
    Calls Try.prog 4 #[.string label, u, .int .u64 x, .int .u64 y] w fun e w' => e = .returned (.bool true) ∧ Below w.heap.size w w' := by
  obtain ⟨x, rfl⟩ := Int.eq_ofNat_of_zero_le hx.1
  obtain ⟨y, rfl⟩ := Int.eq_ofNat_of_zero_le hy.1
  exact walkN_HashBytes label u b x y w hs hu hb (by unfold T64; omega) (by unfold T64; omega)
end Go.Proofs.Ytdcgdgejoalfdaa
