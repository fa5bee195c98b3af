/-
  The laws' check of the documented examples; the sum is injective in one word, in one group, in one label.
-/
import Derived.Test.YtlljcnhcknmoaaaGreatWalkF
namespace Go.Proofs.YtlljcnhcknmoaaaGreat
open Go.RowKit Go.Shelf
set_option linter.unusedVariables false

/-! ### One word -/
theorem fold_word {s : Nat} (hs : s < T64) (us vs : List Nat) {a b : Nat} (ha : a < T64) (hb : b < T64) (hv : ∀ w ∈ vs, w < T64)
    (h : fold s (us ++ a :: vs) = fold s (us ++ b :: vs)) : a = b := by
  rw [fold_append, fold_append, fold_cons, fold_cons] at h
  exact mixN_word (fold_lt hs us) ha hb (fold_state (mixN_lt _ _) (mixN_lt _ _) vs hv h)

theorem map_ofInt_lt (zs : List Int) : ∀ w ∈ zs.map ofInt, w < T64 := by
  intro w hw
  obtain ⟨z, _, rfl⟩ := List.mem_map.1 hw
  exact ofInt_lt z

theorem sumN_word (label : List Nat) (us vs : List Int) {a b : Int} (h : sumN label (us ++ a :: vs) = sumN label (us ++ b :: vs)) : ofInt a = ofInt b := by
  unfold sumN at h
  have h2 := mixN_state (by decide) (fold_lt (mixN_lt _ _) _) (fold_lt (mixN_lt _ _) _) h
  rw [List.map_append, List.map_append, List.map_cons, List.map_cons] at h2
  rw [show (us ++ a :: vs).length = (us ++ b :: vs).length by simp] at h2
  exact fold_word (mixN_lt _ _) _ _ (ofInt_lt a) (ofInt_lt b) (map_ofInt_lt vs) h2

theorem pairN_first {a b c : Nat} (ha : a < T64) (hb : b < T64) (h : pairN a c = pairN b c) : a = b := by
  have := sumN_word _ [] [toInt c] h
  rwa [ofInt_toInt ha, ofInt_toInt hb] at this
theorem pairN_second {a b c : Nat} (ha : a < T64) (hb : b < T64) (h : pairN c a = pairN c b) : a = b := by
  have := sumN_word _ [toInt c] [] h
  rwa [ofInt_toInt ha, ofInt_toInt hb] at this

/-! ### The documented examples -/
theorem ne_bool {a b : Nat} (h : a ≠ b) : ((a : Int) != (b : Int)) = true := by
  rw [bne_iff_ne]; intro e; exact h (Int.ofNat.inj e)
theorem eq_bool {a b : Nat} (h : a = b) : ((a : Int) == (b : Int)) = true := by
  rw [beq_iff_eq, h]
theorem eq_false {a b : Nat} (h : a ≠ b) : ((a : Int) == (b : Int)) = false := by
  rw [beq_eq_false_iff_ne]; intro e; exact h (Int.ofNat.inj e)

theorem ex_sum : sumN (strN ⟨#[97]⟩) [5] ≠ sumN (strN ⟨#[97]⟩) [6] := fun h => by
  have := sumN_word _ [] [] h
  revert this; decide
theorem ex_bytes : bytesN (strN ⟨#[97]⟩) [1, 2] = sumN (strN ⟨#[97]⟩) [513, 2] := by
  unfold bytesN
  rw [show (wordsN [1, 2]).map toInt ++ [(([1, 2] : List Nat).length : Int)] = [513, 2] by decide]
theorem ex_pair : pairN 1 2 ≠ pairN 1 3 := fun h => by
  have := pairN_second (by decide) (by decide) h
  revert this; decide

end Go.Proofs.YtlljcnhcknmoaaaGreat
