/-
  The reference's reader.
-/
import Derived.Test.YtadnbakniibmfaaLaid
namespace Go.Proofs.Ytadnbakniibmfaa
open Go.RowKit Go.Shelf
set_option linter.unusedVariables false

/-- A reader's state: the bytes that are left, and the recorded error. -/
abbrev RS := List Nat × Nat

def gotUint (s : RS) : Got Nat → Nat × RS
  | .err k => (0, (s.1, k))
  | .val n r => (n, (r, 0))
/-- Reading an unsigned number. -/
def rUint (s : RS) : Nat × RS := if s.2 = 0 then gotUint s (readVar 0 s.1) else (0, s)

/-- A slice value whose address is a plain one. -/
def PlainS (v : Value) : Prop := v = .slice none 0 0 ∨ ∃ b off len cap, v = .slice (some ⟨b, off, none⟩) len cap

theorem natI_getD (l : List Nat) (j : Nat) : (natI l)[j]?.getD 0 = ((l[j]?.getD 0 : Nat) : Int) := by
  unfold natI
  rw [List.getElem?_map]
  cases l[j]? <;> rfl

theorem pow8_le {i U : Nat} (hU : 128 ^ i = U) (hi : i ≤ 8) : U ≤ 72057594037927936 := by
  rw [← hU]; exact Nat.le_trans (Nat.pow_le_pow_right (by decide) hi) (by decide)
theorem acc_step {acc U c : Nat} (ha : acc < U) (hU : U ≤ 72057594037927936) :
    IntKind.u64.wrap ((acc : Int) + IntKind.u64.wrap ((c : Int) % 128 * (U : Int))) = ((acc + U * (c % 128) : Nat) : Int) := by
  have h1 : U * (c % 128) ≤ U * 127 := Nat.mul_le_mul_left _ (by omega)
  have e : (c : Int) % 128 * (U : Int) = ((U * (c % 128) : Nat) : Int) := by rw [Int.natCast_mul, Int.mul_comm, Int.natCast_emod]; rfl
  rw [e]
  generalize U * (c % 128) = p at *
  rw [IntKind.wrap_u64, IntKind.wrap_u64]
  omega
theorem acc_last {acc U : Nat} (ha : acc < U) (hU : U ≤ 9223372036854775808) :
    IntKind.u64.wrap ((acc : Int) + IntKind.u64.wrap (U : Int)) = ((acc + U * 1 : Nat) : Int) := by
  rw [IntKind.wrap_u64, IntKind.wrap_u64]
  omega
theorem unit_step {i U : Nat} (hU : 128 ^ i = U) (hi : i ≤ 8) : IntKind.u64.wrap ((U : Int) * 128) = ((128 ^ (i + 1) : Nat) : Int) := by
  have h := pow8_le hU hi
  rw [Nat.pow_succ, hU, IntKind.wrap_u64]
  omega
theorem acc_lt {acc U c i : Nat} (hU : 128 ^ i = U) (ha : acc < U) (hc : c < 256) : acc + U * (c - 128) < 128 ^ (i + 1) := by
  have h1 : U * (c - 128) ≤ U * 127 := Nat.mul_le_mul_left _ (by omega)
  rw [Nat.pow_succ, hU]
  omega

end Go.Proofs.Ytadnbakniibmfaa
