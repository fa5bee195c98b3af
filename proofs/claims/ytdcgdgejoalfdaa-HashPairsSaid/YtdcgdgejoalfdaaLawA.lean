/-
  The walk of the law HashPairs: Pair is injective in each argument, and equals Sum over the two hashes.
-/
import Derived.Test.YtdcgdgejoalfdaaRowIn
namespace Go.Proofs.Ytdcgdgejoalfdaa
open Go.RowKit Go.Shelf
set_option linter.unusedVariables false

theorem pairN_eq (a b : Nat) : pairN a b = sumN (strN ⟨#[112, 97, 105, 114]⟩) [toInt a, toInt b] := rfl

set_option maxRecDepth 100000 in
set_option maxHeartbeats 2000000 in
theorem walkN_HashPairs (a b c : Nat) (w : World) (ha : a < T64) (hb : b < T64) (hc : c < T64) :
    Calls Try.prog 9 #[.int .u64 (a : Int), .int .u64 (b : Int), .int .u64 (c : Int)] w fun e w' => e = .returned (.bool true) ∧ Below w.heap.size w w' := by
  have P1 := Lib.hid (fun (W : World) => pair_any a c W ha hc)
  have P2 := Lib.hid (fun (W : World) => pair_any b c W hb hc)
  have P3 := Lib.hid (fun (W : World) => pair_any c a W hc ha)
  have P4 := Lib.hid (fun (W : World) => pair_any c b W hc hb)
  have P5 := Lib.hid (fun (W : World) => pair_any a b W ha hb)
  have S5 : Hid (∀ (W : World) (v : Value), Ints .i64 W v [wrap64 (a : Int), wrap64 (b : Int)] → Calls Try.prog 13 #[.string ⟨#[112, 97, 105, 114]⟩, v] W fun e w' => e = .returned (.int .u64 (pairN a b)) ∧ Below W.heap.size W w') := by
    intro W v h
    rw [wrap_toInt ha, wrap_toInt hb] at h
    exact sum_any ⟨#[112, 97, 105, 114]⟩ v [toInt a, toInt b] W (by decide) h
  have q5 := eq_bool (rfl : pairN a b = pairN a b)
  have L := Lib.hid (fun W => lives_any W)
  have main : ∀ (t : Bool), ((pairN a c : Int) == (pairN b c : Int)) = t → ((pairN c a : Int) == (pairN c b : Int)) = t → ((a : Int) == (b : Int)) = t →
      Calls Try.prog 9 #[.int .u64 (a : Int), .int .u64 (b : Int), .int .u64 (c : Int)] w fun e w' => e = .returned (.bool true) ∧ Below w.heap.size w w' := by
    intro t h1 h2 h3
    clear ha hb hc
    generalize pairN a c = p1 at *
    generalize pairN b c = p2 at *
    generalize pairN c a = p3 at *
    generalize pairN c b = p4 at *
    generalize pairN a b = p5 at *
    cases t
    all_goals
      go_enter Try.func9, Try.ntmps9
      go_wp2_with fail
      refine (P1.out _).mono ?_
      rintro e w1' ⟨rfl, hb1⟩
      go_wp2_with fail
      refine (P2.out _).mono ?_
      rintro e w2' ⟨rfl, hb2⟩
      replace hb2 := below_then hb1 hb2
      clear hb1
      go_wp2_with fail
      refine (P3.out _).mono ?_
      rintro e w3 ⟨rfl, hb3⟩
      replace hb3 := below_then hb2 hb3
      clear hb2
      go_wp2_with fail
      refine (P4.out _).mono ?_
      rintro e w4 ⟨rfl, hb4⟩
      replace hb4 := below_then hb3 hb4
      clear hb3
      go_wp2_with fail
      refine (P5.out _).mono ?_
      rintro e w5 ⟨rfl, hb5⟩
      replace hb5 := below_then hb4 hb5
      clear hb4
      go_wp2_with fail
      refine (S5.out _ _ (ints_new w5 .i64 3 [wrap64 (a : Int), wrap64 (b : Int)] (by simp))).mono ?_
      rintro e w6 ⟨rfl, hb6⟩
      replace hb6 := below_then hb5 (below_new _ _ hb6)
      clear hb5
      go_wp2_with fail
      refine (L.out _).mono ?_
      rintro e w7 ⟨rfl, hb7⟩
      replace hb7 := below_then hb6 hb7
      clear hb6
      go_wp2_with fail
      go_ret
      exact ⟨rfl, hb7⟩
  by_cases h : a = b
  · subst h
    exact main true (eq_bool rfl) (eq_bool rfl) (eq_bool rfl)
  · exact main false (eq_false (fun e => h (pairN_first ha hb e))) (eq_false (fun e => h (pairN_second ha hb e))) (eq_false h)

theorem walk_HashPairs (a b c : Int) (w : World) (ha : 0 ≤ a ∧ a ≤ 18446744073709551615) (hb : 0 ≤ b ∧ b ≤ 18446744073709551615) (hc : 0 ≤ c ∧ c ≤ 18446744073709551615) :
    Calls Try.prog 9 #[.int .u64 a, .int .u64 b, .int .u64 c] w fun e w' => e = .returned (.bool true) ∧ Below w.heap.size w w' := by
  obtain ⟨a, rfl⟩ := Int.eq_ofNat_of_zero_le ha.1
  obtain ⟨b, rfl⟩ := Int.eq_ofNat_of_zero_le hb.1
  obtain ⟨c, rfl⟩ := Int.eq_ofNat_of_zero_le hc.1
  exact walkN_HashPairs a b c w (by unfold T64; omega) (by unfold T64; omega) (by unfold T64; omega)
end Go.Proofs.Ytdcgdgejoalfdaa
