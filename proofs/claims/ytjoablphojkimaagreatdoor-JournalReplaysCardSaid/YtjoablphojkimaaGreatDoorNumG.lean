/-
  The reference of package wide: Neg, Add, Sub.
-/
import Derived.Test.YtjoablphojkimaaGreatDoorNmB
namespace Go.Proofs.YtjoablphojkimaaGreatDoor
open Go.RowKit Go.Shelf
set_option linter.unusedVariables false
set_option maxRecDepth 100000

theorem nat_shape {W : World} {x : Value} {n : Int} (h : NAt W x n) : ∃ b a m k, x = .agg #[.bool b, .slice a m k] := by
  obtain ⟨a, c, rfl⟩ := nat_form h
  exact ⟨_, _, _, _, rfl⟩
theorem sgn_not (a : Int) : sgn (!decide (a < 0)) a.natAbs = -a := by
  unfold sgn
  rcases Classical.em (a < 0) with h | h <;> simp [h] <;> omega
theorem sgn_self (a : Int) : sgn (decide (a < 0)) a.natAbs = a := by
  unfold sgn
  rcases Classical.em (a < 0) with h | h <;> simp [h] <;> omega

theorem nat_row {W : World} {a : Option Addr} {c : Nat} {n : Int} (hx : NAt W (.agg #[.bool (decide (n < 0)), .slice a (digs n.natAbs).length c]) n) : Row .i64 W (.slice a (digs n.natAbs).length c) (natI (digs n.natAbs)) := by
  obtain ⟨v, e, h⟩ := hx; injection e with e; have e2 := congrArg (fun t => t[1]!) e; simp at e2; rw [e2]; exact h

theorem add_same (na nb : Bool) (a b : Int) (ha : decide (a < 0) = na) (hb : decide (b < 0) = nb) (h : na = nb) : sgn na (a.natAbs + b.natAbs) = a + b := by
  subst ha
  have h2 : (a < 0) ↔ (b < 0) := by simpa [hb.symm] using h
  unfold sgn
  rcases Classical.em (a < 0) with h1 | h1
  · have := h2.1 h1; simp [h1]; omega
  · have : ¬ b < 0 := fun h => h1 (h2.2 h); simp [h1]; omega
theorem add_less (na nb : Bool) (a b : Int) (ha : decide (a < 0) = na) (hb : decide (b < 0) = nb) (h : na ≠ nb) (hl : a.natAbs < b.natAbs) : sgn nb (b.natAbs - a.natAbs) = a + b := by
  subst ha; subst hb
  unfold sgn
  rcases Classical.em (a < 0) with h1 | h1 <;> rcases Classical.em (b < 0) with h2 | h2 <;> simp [h1, h2] at h ⊢ <;> omega
theorem add_more (na nb : Bool) (a b : Int) (ha : decide (a < 0) = na) (hb : decide (b < 0) = nb) (h : na ≠ nb) (hl : ¬ a.natAbs < b.natAbs) : sgn na (a.natAbs - b.natAbs) = a + b := by
  subst ha; subst hb
  unfold sgn
  rcases Classical.em (a < 0) with h1 | h1 <;> rcases Classical.em (b < 0) with h2 | h2 <;> simp [h1, h2] at h ⊢ <;> omega
theorem cmpN_lt {a b : Nat} : cmpN a b < 0 ↔ a < b := by
  unfold cmpN; split <;> (try split) <;> omega

end Go.Proofs.YtjoablphojkimaaGreatDoor
