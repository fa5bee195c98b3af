/-
  The program's reader: Uint, Int, Bool, End, Read.
-/
import Derived.Test.YtmamohnlallfeaaDevD
import Derived.Laws.Bits64b
namespace Go.Proofs.Ytmamohnlallfeaa
open Go.RowKit Go.Shelf
set_option linter.unusedVariables false
set_option maxRecDepth 100000

theorem pow128 (i : Nat) : 128 ^ i = 2 ^ (7 * i) := by
  rw [show (128 : Nat) = 2 ^ 7 by decide, ← Nat.pow_mul]
theorem or_add {acc U d i : Nat} (hU : 128 ^ i = U) (ha : acc < U) : acc ||| (U * d) = acc + U * d := by
  rw [pow128] at hU
  subst hU
  rw [Nat.or_comm, ← Nat.two_pow_add_eq_or_of_lt ha, Nat.add_comm]

set_option maxRecDepth 100000 in
theorem low_fin : ∀ x : Fin 256, bits BinOp.andNot IntKind.u8 (x.val : Int) 128 = ((x.val % 128 : Nat) : Int) := by decide
theorem low_bits {c : Nat} (h : c < 256) : bits BinOp.andNot IntKind.u8 (c : Int) 128 = ((c % 128 : Nat) : Int) := low_fin ⟨c, h⟩
theorem acc_or {acc U d i : Nat} (hU : 128 ^ i = U) (ha : acc < U) (hb : U * d < 18446744073709551616) (h2 : U < 18446744073709551616) {X : Int} (hX : X = ((U * d : Nat) : Int)) :
    bits BinOp.or IntKind.u64 (acc : Int) X = ((acc + U * d : Nat) : Int) := by
  rw [hX, bits_or_u64_nat _ _ (by omega) hb, or_add hU ha]
theorem shl_form {U i d : Nat} (hU : 128 ^ i = U) (hb : U * d < 18446744073709551616) (hd : d < 256) {X : Int} (hX : X = (d : Int)) : IntKind.u64.wrap (IntKind.u64.wrap X * 2 ^ (7 * i)) = ((U * d : Nat) : Int) := by
  subst hX
  have e1 : IntKind.u64.wrap (d : Int) = (d : Int) := by rw [IntKind.wrap_u64]; omega
  have e2 : (2 : Int) ^ (7 * i) = (U : Int) := by rw [← hU, pow128, Int.natCast_pow]; rfl
  rw [e1, e2, IntKind.wrap_u64, ← Int.natCast_mul, Nat.mul_comm]
  omega
theorem mul_lt {U d i : Nat} (hU : 128 ^ i = U) (hi : i ≤ 8) (hd : d < 128) : U * d < 18446744073709551616 ∧ U < 18446744073709551616 := by
  have h := pow8_le hU hi
  have h1 : U * d ≤ U * 127 := Nat.mul_le_mul_left _ (by omega)
  omega
theorem got_mid {acc U c i : Nat} (hU : 128 ^ i = U) (ha : acc < U) (hi : i ≤ 8) (hc : c < 256) :
    bits BinOp.or IntKind.u64 (acc : Int) (IntKind.u64.wrap (IntKind.u64.wrap (bits BinOp.andNot IntKind.u8 (c : Int) 128) * 2 ^ (7 * i))) = ((acc + U * (c % 128) : Nat) : Int) := by
  obtain ⟨h1, h2⟩ := mul_lt (d := c % 128) hU hi (Nat.mod_lt _ (by decide))
  exact acc_or hU ha h1 h2 (shl_form hU h1 (by omega) (low_bits hc))
theorem got_zero {acc U c : Nat} (hU : 128 ^ 0 = U) (ha : acc < U) (hc : c < 256) :
    bits BinOp.or IntKind.u64 (acc : Int) (IntKind.u64.wrap (IntKind.u64.wrap (bits BinOp.andNot IntKind.u8 (c : Int) 128))) = ((acc + U * (c % 128) : Nat) : Int) := by
  obtain ⟨h1, h2⟩ := mul_lt (d := c % 128) hU (by decide) (Nat.mod_lt _ (by decide))
  refine acc_or hU ha h1 h2 ?_
  rw [low_bits hc, IntKind.wrap_u64, IntKind.wrap_u64, ← hU]
  omega
theorem got_last {acc U : Nat} (hU : 128 ^ 9 = U) (ha : acc < U) :
    bits BinOp.or IntKind.u64 (acc : Int) (IntKind.u64.wrap (IntKind.u64.wrap (bits BinOp.andNot IntKind.u8 1 128) * 9223372036854775808)) = ((acc + U * 1 : Nat) : Int) := by
  have e : U = 9223372036854775808 := by rw [← hU]
  refine acc_or hU ha (by rw [e]; decide) (by rw [e]; decide) ?_
  rw [show bits BinOp.andNot IntKind.u8 1 128 = 1 from low_fin ⟨1, by decide⟩, IntKind.wrap_u64, IntKind.wrap_u64, e]
  decide

end Go.Proofs.Ytmamohnlallfeaa
