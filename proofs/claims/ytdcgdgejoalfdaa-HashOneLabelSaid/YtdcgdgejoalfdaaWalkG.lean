/-
  The laws' check of the documented examples; the sum is injective in one word, in one group, in one label.
-/
import Derived.Test.YtdcgdgejoalfdaaWalkF
namespace Go.Proofs.Ytdcgdgejoalfdaa
open Go.RowKit Go.Shelf
set_option linter.unusedVariables false

/-! ### One word -/
theorem fold_word {s : Nat} (hs : s < T64) (us vs : List Nat) {a b : Nat} (ha : a < T64) (hb : b < T64) (hv : ∀ w ∈ vs, w < T64)
    (h : fold s (us ++ a :: vs) = fold s (us ++ b :: vs)) : a = b := by
  rw [fold_append, fold_append, fold_cons, fold_cons] at h
  exact mixN_word (fold_lt hs us) ha hb (fold_state (mixN_lt _ _) (mixN_lt _ _) vs hv h)

theorem map_ofInt_lt (zs : List Int) : ∀ w ∈ zs.map ofInt, w < T64 := by
  intro w hw
  obtain ⟨z, _, rfl⟩ := List.mem_map.1 hw
  exact ofInt_lt z

theorem sumN_word (label : List Nat) (us vs : List Int) {a b : Int} (h : sumN label (us ++ a :: vs) = sumN label (us ++ b :: vs)) : ofInt a = ofInt b := by
  unfold sumN at h
  have h2 := mixN_state (by decide) (fold_lt (mixN_lt _ _) _) (fold_lt (mixN_lt _ _) _) h
  rw [List.map_append, List.map_append, List.map_cons, List.map_cons] at h2
  rw [show (us ++ a :: vs).length = (us ++ b :: vs).length by simp] at h2
  exact fold_word (mixN_lt _ _) _ _ (ofInt_lt a) (ofInt_lt b) (map_ofInt_lt vs) h2

theorem pairN_first {a b c : Nat} (ha : a < T64) (hb : b < T64) (h : pairN a c = pairN b c) : a = b := by
  have := sumN_word _ [] [toInt c] h
  rwa [ofInt_toInt ha, ofInt_toInt hb] at this
theorem pairN_second {a b c : Nat} (ha : a < T64) (hb : b < T64) (h : pairN c a = pairN c b) : a = b := by
  have := sumN_word _ [toInt c] [] h
  rwa [ofInt_toInt ha, ofInt_toInt hb] at this

/-! ### The documented examples -/
theorem ne_bool {a b : Nat} (h : a ≠ b) : ((a : Int) != (b : Int)) = true := by
  rw [bne_iff_ne]; intro e; exact h (Int.ofNat.inj e)
theorem eq_bool {a b : Nat} (h : a = b) : ((a : Int) == (b : Int)) = true := by
  rw [beq_iff_eq, h]
theorem eq_false {a b : Nat} (h : a ≠ b) : ((a : Int) == (b : Int)) = false := by
  rw [beq_eq_false_iff_ne]; intro e; exact h (Int.ofNat.inj e)

theorem ex_sum : sumN (strN ⟨#[97]⟩) [5] ≠ sumN (strN ⟨#[97]⟩) [6] := fun h => by
  have := sumN_word _ [] [] h
  revert this; decide
theorem ex_bytes : bytesN (strN ⟨#[97]⟩) [1, 2] = sumN (strN ⟨#[97]⟩) [513, 2] := by
  unfold bytesN
  rw [show (wordsN [1, 2]).map toInt ++ [(([1, 2] : List Nat).length : Int)] = [513, 2] by decide]
theorem ex_pair : pairN 1 2 ≠ pairN 1 3 := fun h => by
  have := pairN_second (by decide) (by decide) h
  revert this; decide

set_option maxRecDepth 100000 in
set_option maxHeartbeats 2000000 in
theorem lives_any (w : World) :
    Calls Try.prog 15 #[] w fun e w' => e = .returned (.bool true) ∧ Below w.heap.size w w' := by
  have c5 := fun (W : World) v => sum_any ⟨#[97]⟩ v [5] W (by decide)
  have c6 := fun (W : World) v => sum_any ⟨#[97]⟩ v [6] W (by decide)
  have c7 := fun (W : World) v => sum_any ⟨#[97]⟩ v [513, 2] W (by decide)
  have cb := fun (W : World) v h1 h2 => bytes_any ⟨#[97]⟩ v [1, 2] W (by decide) h1 h2 (by decide)
  have p2 := fun (W : World) => pair_any 1 2 W (by decide) (by decide)
  have p3 := fun (W : World) => pair_any 1 3 W (by decide) (by decide)
  have e1 := ne_bool ex_sum
  have e2 := eq_bool ex_bytes
  have e3 := ne_bool ex_pair
  generalize sumN (strN ⟨#[97]⟩) [5] = A5 at *
  generalize sumN (strN ⟨#[97]⟩) [6] = A6 at *
  generalize sumN (strN ⟨#[97]⟩) [513, 2] = A7 at *
  generalize bytesN (strN ⟨#[97]⟩) [1, 2] = AB at *
  generalize pairN 1 2 = P2 at *
  generalize pairN 1 3 = P3 at *
  have C5 := Lib.hid c5; clear c5
  have C6 := Lib.hid c6; clear c6
  have C7 := Lib.hid c7; clear c7
  have CB := Lib.hid cb; clear cb
  have CP2 := Lib.hid p2; clear p2
  have CP3 := Lib.hid p3; clear p3
  go_enter Try.func15, Try.ntmps15
  go_wp2_with fail
  refine (C5.out _ _ (ints_new w .i64 3 [5] (by simp))).mono ?_
  rintro e w1 ⟨rfl, hb1⟩
  replace hb1 := below_new _ _ hb1
  go_wp2_with fail
  refine (C6.out _ _ (ints_new w1 .i64 3 [6] (by simp))).mono ?_
  rintro e w2 ⟨rfl, hb2⟩
  replace hb2 := below_then hb1 (below_new _ _ hb2)
  clear hb1
  go_wp2_with fail
  refine (CB.out _ _ (bytes_new w2 5 [1, 2] (by simp) (by simp)) (fun k hk => by have : k = w2.heap.size := hk; simp; omega)).mono ?_
  rintro e w3 ⟨rfl, hb3⟩
  replace hb3 := below_then hb2 (below_new _ _ hb3)
  clear hb2
  go_wp2_with fail
  refine (C7.out _ _ (ints_new w3 .i64 3 [513, 2] (by simp))).mono ?_
  rintro e w4 ⟨rfl, hb4⟩
  replace hb4 := below_then hb3 (below_new _ _ hb4)
  clear hb3
  go_wp2_with fail
  refine (CP2.out _).mono ?_
  rintro e w5 ⟨rfl, hb5⟩
  replace hb5 := below_then hb4 hb5
  clear hb4
  go_wp2_with fail
  refine (CP3.out _).mono ?_
  rintro e w6 ⟨rfl, hb6⟩
  replace hb6 := below_then hb5 hb6
  clear hb5
  go_wp2_with fail
  go_ret
  exact ⟨rfl, hb6⟩
end Go.Proofs.Ytdcgdgejoalfdaa
