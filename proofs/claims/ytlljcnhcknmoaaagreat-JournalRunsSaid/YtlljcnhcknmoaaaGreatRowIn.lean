/-
  A slice of integers that came in, as the walks are told of it.
-/
import Derived.Test.YtlljcnhcknmoaaaGreatWalkH
namespace Go.Proofs.YtlljcnhcknmoaaaGreat
open Go.RowKit

theorem row_none (k : IntKind) (w : World) : Row k w (.slice none 0 0) [] := ⟨none, 0, rfl, Nat.le_refl _, by decide, fun h => (h rfl).elim, fun _ => ⟨rfl, rfl⟩⟩

theorem row_some {k : IntKind} {w : World} {x : Addr} {len cap : Nat} {zs : List Int} (hl : len ≤ cap) (hm : cap ≤ maxLen) (hz : zs.length = cap)
    (hc : ∀ i, i < zs.length → w.cell? (x.add i) = some (.int k (zs.getD i 0))) : Row k w (.slice (some x) len cap) (zs.take len) := by
  have e : (zs.take len).length = len := by rw [List.length_take]; omega
  refine ⟨some x, cap, by rw [e], by rw [e]; exact hl, by unfold maxLen at hm; omega, fun hne => ?_, fun h => by cases h⟩
  have h0 : 0 < zs.length := by
    rcases Nat.eq_zero_or_pos zs.length with h | h
    · exact (hne (by rw [List.eq_nil_of_length_eq_zero h]; simp)).elim
    · exact h
  obtain ⟨b, off, s⟩ := x
  have hs : s = none := by
    have h1 := hc 0 h0
    cases s with
    | none => rfl
    | some s =>
      unfold World.cell? at h1
      simp [Addr.add] at h1
      split at h1 <;> simp_all
  subst hs
  refine ⟨b, off, rfl, fun j hj => ?_⟩
  rw [e] at hj
  have h2 := hc j (by omega)
  have e2 : (⟨b, off, none⟩ : Addr).add j = ⟨b, off + j, none⟩ := by unfold Addr.add; split <;> simp_all
  rw [e2] at h2
  rw [h2, List.getElem?_take_of_lt hj, List.getD_eq_getElem?_getD]
end Go.Proofs.YtlljcnhcknmoaaaGreat
