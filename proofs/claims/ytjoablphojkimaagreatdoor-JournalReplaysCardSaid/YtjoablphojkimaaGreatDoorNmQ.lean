/-
  The reference of package wide: integers in boxes; Power.
  The reference of package wide: Number.
-/
import Derived.Test.YtjoablphojkimaaGreatDoorNmH
import Derived.Deep.RegionHeld3
namespace Go.Proofs.YtjoablphojkimaaGreatDoor
open Go.RowKit Go.Shelf
set_option linter.unusedVariables false
set_option maxRecDepth 100000

theorem nat_zero (W : World) : NAt W (.agg #[.bool false, .slice none 0 0]) 0 := ⟨_, rfl, by rw [show (0 : Int).natAbs = 0 from rfl, digs_zero]; exact row_none _ _⟩

theorem pow_digs {m K : Nat} (h : m ≤ 2 ^ K) : (digs m).length ≤ K + 1 := by
  refine digs_len_le ?_
  have h1 : (2 : Nat) ^ K ≤ 10000 ^ K := Nat.pow_le_pow_left (by decide) K
  rw [Nat.pow_succ]
  have := Nat.pow_pos (n := K) (show 0 < 10000 by decide)
  omega

theorem tmod_two (k r : Nat) (h : k % 2 = r) : (k : Int).tmod 2 = (r : Int) := by rw [Int.tmod_eq_emod_of_nonneg (by omega)]; omega
theorem pow_odd {P T k h2 K : Nat} (hh : k / 2 = h2) (ho : k % 2 = 1) (hv : P * T ^ k = 2 ^ K) : P * T * (T * T) ^ h2 = 2 ^ K := by
  rw [← hv, show T * T = T ^ 2 by rw [Nat.pow_succ, Nat.pow_one], ← Nat.pow_mul, Nat.mul_assoc, ← Nat.pow_succ']
  congr 2
  omega
theorem pow_even {P T k h2 K : Nat} (hh : k / 2 = h2) (ho : k % 2 = 0) (hv : P * T ^ k = 2 ^ K) : P * (T * T) ^ h2 = 2 ^ K := by
  rw [← hv, show T * T = T ^ 2 by rw [Nat.pow_succ, Nat.pow_one], ← Nat.pow_mul]
  congr 2
  omega
theorem pow_bnd {A B V h2 : Nat} (hB : 1 ≤ B) (h : A * B ^ h2 = V) : A ≤ V := by
  have h3 : 1 ≤ B ^ h2 := Nat.pow_pos hB
  have h4 : A * 1 ≤ A * B ^ h2 := Nat.mul_le_mul_left _ h3
  omega

theorem pick_nat (l : List Int) (i : Int) (m : Nat) (hr : ∀ n ∈ l, -9223372036854775808 ≤ n ∧ n ≤ 9223372036854775807) (hm : 1 ≤ m) : ∃ k : Nat, pickI l i m = (k : Int) ∧ k < m := by
  have h := pickI_range l i hm
  exact ⟨(pickI l i m).toNat, by omega, by omega⟩
theorem small_digs {z : Int} {K : Nat} (h : z.natAbs ≤ 2 ^ K) (hK : K ≤ 1000) : (digs z.natAbs).length ≤ 500000 := by
  have := pow_digs h
  omega
theorem cellsN_set {W : World} {s r i j : Nat} {a b u v : Value} (h : W.cell? ⟨s, 0, none⟩ = some a ∧ W.cell? ⟨s, 1, none⟩ = some b) (h1 : s ≠ r) :
    ((W.setCell ⟨r, i, none⟩ u).setCell ⟨r, j, none⟩ v).cell? ⟨s, 0, none⟩ = some a ∧ ((W.setCell ⟨r, i, none⟩ u).setCell ⟨r, j, none⟩ v).cell? ⟨s, 1, none⟩ = some b := by
  have hk : Keeps (fun k => k = r) W ((W.setCell ⟨r, i, none⟩ u).setCell ⟨r, j, none⟩ v) := (keeps_set W r i u).trans (keeps_set _ r j v)
  exact ⟨hk.cell h.1 h1, hk.cell h.2 h1⟩
/-- A number of the law's draw is not great. -/
def NumEnd (w : World) (e : Ending) (w' : World) : Prop := ∃ z : Int, z.natAbs ≤ 2 ^ 240 ∧ NEnd z w e w'
theorem term_bnd {K i q Q : Nat} {c d z : Int} (h1 : 2 ^ K ≤ q) (hq : 1 ≤ q) (hQ : Q = 64 * q) (hc : -4 ≤ c ∧ c ≤ 4) (hd : -2 ≤ d ∧ d ≤ 2) (hz : z.natAbs ≤ i * Q) : (((2 ^ K : Nat) : Int) * c).natAbs ≤ Q ∧ (((2 ^ K : Nat) : Int) * c + d).natAbs ≤ Q ∧ (z + (((2 ^ K : Nat) : Int) * c + d)).natAbs ≤ (i + 1) * Q := by
  have h2 : (((2 ^ K : Nat) : Int) * c).natAbs ≤ 4 * q := by
    rw [Int.natAbs_mul, Int.natAbs_natCast, Nat.mul_comm]
    exact Nat.mul_le_mul (by omega) h1
  generalize ((2 ^ K : Nat) : Int) * c = t at *
  refine ⟨by omega, by omega, ?_⟩
  rw [Nat.add_mul, Nat.one_mul]
  generalize i * Q = r at *
  omega

end Go.Proofs.YtjoablphojkimaaGreatDoor
