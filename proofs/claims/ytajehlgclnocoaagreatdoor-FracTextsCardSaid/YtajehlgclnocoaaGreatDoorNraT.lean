/-
 The reference of package wide: Near, Fits and Small.
-/
import Derived.Test.YtajehlgclnocoaaGreatDoorNmQT
import Derived.Test.YtajehlgclnocoaaGreatDoorBgIT
namespace Go.Proofs.YtajehlgclnocoaaGreatDoor
open Go.RowKit Go.Shelf
set_option linter.unusedVariables false
set_option maxRecDepth 100000
theorem near_bnd {E : Nat} {d : Int} (hd : -3 ≤ d ∧ d ≤ 3) : (((2 ^ E : Nat) : Int) + d).natAbs ≤ 2 ^ (E + 2) := by
 have h : 1 ≤ 2 ^ E := Nat.one_le_two_pow
 rw [show E + 2 = (E + 1) + 1 from rfl, Nat.pow_succ, Nat.pow_succ]
 generalize 2 ^ E = q at *
 omega
theorem near_digs {E : Nat} {d : Int} (hE : E ≤ 16384) (hd : -3 ≤ d ∧ d ≤ 3) : (digs (((2 ^ E : Nat) : Int) + d).natAbs).length ≤ 20000 := by
 refine digs_len_le (Nat.lt_of_le_of_lt (near_bnd hd) ?_)
 obtain ⟨k, hk⟩ : ∃ k, k + 1 = 20000 := ⟨19999, rfl⟩
 rw [← hk]
 have h1 : (2 : Nat) ^ (E + 2) ≤ 2 ^ (k + 1) := Nat.pow_le_pow_right (by decide) (by omega)
 exact Nat.lt_of_le_of_lt h1 (Nat.pow_lt_pow_left (by decide) (Nat.succ_ne_zero k))
theorem pow_digs2 {E : Nat} (hE : E ≤ 16384) : (digs ((2 ^ E : Nat) : Int).natAbs).length ≤ 20000 := by
 have := near_digs (d := 0) hE (by decide)
 rwa [Int.add_zero] at this
end Go.Proofs.YtajehlgclnocoaaGreatDoor
