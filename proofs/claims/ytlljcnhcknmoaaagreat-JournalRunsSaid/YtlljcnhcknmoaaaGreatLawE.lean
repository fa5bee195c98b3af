/-
  The walk of the law HashOneWord: one word that is another changes the sum.
-/
import Derived.Test.YtlljcnhcknmoaaaGreatLawD
import Derived.Deep.RegionWith
namespace Go.Proofs.YtlljcnhcknmoaaaGreat
open Go.RowKit Go.Shelf
set_option linter.unusedVariables false

/-- Two slices of the call's own hold xs and ys; nothing that lay before the call has changed. -/
def Two (B1 B2 : Nat) (e : TypeId) (k : IntKind) (w : World) (u v : Value) (xs ys : List Int) (W : World) : Prop :=
  Fresh B1 e k W u xs ∧ Fresh B2 e k W v ys ∧ Below w.heap.size w W

theorem Two.step {B1 B2 : Nat} {e : TypeId} {k : IntKind} {w : World} {u v : Value} {xs ys : List Int} {W W2 : World} (h : Two B1 B2 e k w u v xs ys W) (hb : Below W.heap.size W W2) : Two B1 B2 e k w u v xs ys W2 :=
  ⟨fresh_keeps h.1 hb, fresh_keeps h.2.1 hb, below_then h.2.2 hb⟩

theorem word_eq (label : List Nat) {xs : List Int} (hx : ∀ n ∈ xs, -9223372036854775808 ≤ n ∧ n ≤ 9223372036854775807) {k : Nat} (hk : k < xs.length) {v : Int} (hv : -9223372036854775808 ≤ v ∧ v ≤ 9223372036854775807) :
    ((sumN label xs : Int) == (sumN label (xs.set k v) : Int)) = (xs[k] == v) := by
  by_cases h : xs[k] = v
  · have : xs.set k v = xs := by rw [← h]; exact List.set_getElem_self hk
    rw [this, h]; simp
  · rw [show (xs[k] == v) = false by simp [h]]
    refine eq_false (fun e => h ?_)
    have := sumN_at label (by simp) hk (fun i hi => (List.getElem?_set_ne (Ne.symm hi)).symm) e
    rw [List.getElem_set_self] at this
    exact ofInt_inj (hx _ (List.getElem_mem hk)) hv this

end Go.Proofs.YtlljcnhcknmoaaaGreat
