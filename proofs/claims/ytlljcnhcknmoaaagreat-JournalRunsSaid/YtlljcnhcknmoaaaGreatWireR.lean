/-
  The reference's generator of values: some list of at most 8 proper values comes out.
-/
import Derived.Test.YtlljcnhcknmoaaaGreatWireQ
import Derived.Deep.RegionLaw
import Derived.Deep.AppendLies
namespace Go.Proofs.YtlljcnhcknmoaaaGreat
open Go.RowKit Go.Shelf
set_option linter.unusedVariables false

/-- A value whose fields are those of its kind. -/
def VV.proper (x : VV) : Prop :=
  (x.kind = 0 ∧ x.n = 0 ∧ x.b = [] ∧ x.l = []) ∨ (x.kind = 1 ∧ x.u = 0 ∧ x.b = [] ∧ x.l = []) ∨ (x.kind = 2 ∧ x.u = 0 ∧ (x.n = 0 ∨ x.n = 1) ∧ x.b = [] ∧ x.l = []) ∨
  ((x.kind = 3 ∨ x.kind = 4) ∧ x.u = 0 ∧ x.n = 0 ∧ x.l = []) ∨ (x.kind = 5 ∧ x.u = 0 ∧ x.n = 0 ∧ x.b = [])

theorem wrap64_range (n : Int) : -9223372036854775808 ≤ wrap64 n ∧ wrap64 n ≤ 9223372036854775807 := by unfold wrap64; omega

theorem div_range {z m : Int} (hz : -9223372036854775808 ≤ z ∧ z ≤ 9223372036854775807) (hm : 1 ≤ m) : -9223372036854775808 ≤ z / m ∧ z / m ≤ 9223372036854775807 := by
  constructor
  · refine Int.le_ediv_of_mul_le (by omega) ?_
    have := Int.mul_le_mul_of_nonneg_left hm (show (0 : Int) ≤ 9223372036854775808 by decide)
    omega
  · refine Int.ediv_le_of_le_mul (by omega) ?_
    have := Int.mul_le_mul_of_nonneg_left hm (show (0 : Int) ≤ 9223372036854775807 by decide)
    omega
theorem pow_ge (n : Nat) : (1 : Int) ≤ 2 ^ n := by
  have : 0 < 2 ^ n := Nat.pow_pos (by decide)
  have h : ((2 ^ n : Nat) : Int) = (2 : Int) ^ n := by rw [Int.natCast_pow]; rfl
  omega
theorem shift_nat (z : Int) (n : Nat) : ∃ X : Nat, X < 18446744073709551616 ∧ IntKind.u64.wrap z / 2 ^ n = (X : Int) := by
  have h0 : 0 ≤ IntKind.u64.wrap z ∧ IntKind.u64.wrap z < 18446744073709551616 := by rw [IntKind.wrap_u64]; omega
  have h1 := pow_ge n
  have h2 : 0 ≤ IntKind.u64.wrap z / 2 ^ n := Int.ediv_nonneg h0.1 (by omega)
  have h3 : IntKind.u64.wrap z / 2 ^ n ≤ IntKind.u64.wrap z := Int.ediv_le_self _ h0.1
  exact ⟨(IntKind.u64.wrap z / 2 ^ n).toNat, by omega, by omega⟩
theorem ok_small {k : Int} {u : Nat} {n : Int} (hu : u < 18446744073709551616) (hn : -9223372036854775808 ≤ n ∧ n ≤ 9223372036854775807) : (⟨k, u, n, [], []⟩ : VV).ok :=
  ⟨hu, hn, fun c h => by simp at h, by simp, fun c h => by simp at h, by simp⟩
theorem all_snoc {xs : List VV} {y : VV} (h : ∀ x ∈ xs, x.ok ∧ x.proper) (hy : y.ok ∧ y.proper) : ∀ x ∈ xs ++ [y], x.ok ∧ x.proper := by
  intro x hx
  rcases List.mem_append.1 hx with h1 | h1
  · exact h x h1
  · have : x = y := by simpa using h1
    subst this
    exact hy

theorem natI_toNats {bs : List Int} (h : ∀ c ∈ bs, 0 ≤ c ∧ c ≤ 255) : natI (toNats bs) = bs := by
  unfold natI toNats
  rw [List.map_map]
  conv => rhs; rw [← List.map_id bs]
  refine List.map_congr_left fun c hc => ?_
  have := h c hc
  simp only [Function.comp, id]
  omega

theorem one_vals (a b c d : Nat) (y : VV) (f g : Option Addr) : ∀ u ∈ flatV [(.slice f a b, .slice g c d)] [y], u.oneCell' = true := by
  intro u hu
  rw [flatV_one] at hu
  simp only [cellsV, List.mem_cons, List.not_mem_nil, or_false] at hu
  rcases hu with rfl | rfl | rfl | rfl | rfl <;> rfl

end Go.Proofs.YtlljcnhcknmoaaaGreat
