/-
  A slice of values of the call's own: its cells, its parts, what append makes of it; the reference's Bound.
-/
import Derived.Test.YtlljcnhcknmoaaaGreatWireP
namespace Go.Proofs.YtlljcnhcknmoaaaGreat
open Go.RowKit Go.Shelf
set_option linter.unusedVariables false

def cellsV (p : Value × Value) (x : VV) : List Value := [.int .i64 x.kind, .int .u64 (x.u : Int), .int .i64 x.n, p.1, p.2]
/-- The cells of values xs whose byte slices and lists are ps. -/
def flatV : List (Value × Value) → List VV → List Value
  | p :: ps, x :: xs => cellsV p x ++ flatV ps xs
  | _, _ => []

theorem flatV_length : ∀ (ps : List (Value × Value)) (xs : List VV), ps.length = xs.length → (flatV ps xs).length = xs.length * 5
  | [], [], _ => rfl
  | p :: ps, x :: xs, h => by
    have := flatV_length ps xs (by simpa using h)
    simp only [flatV, List.length_append, this, List.length_cons, cellsV, List.length_nil]
    omega
  | [], _ :: _, h => by simp at h
  | _ :: _, [], h => by simp at h

theorem flatV_append : ∀ (ps : List (Value × Value)) (xs : List VV) (qs : List (Value × Value)) (ys : List VV), ps.length = xs.length → flatV (ps ++ qs) (xs ++ ys) = flatV ps xs ++ flatV qs ys
  | [], [], _, _, _ => rfl
  | p :: ps, x :: xs, qs, ys, h => by
    show cellsV p x ++ flatV (ps ++ qs) (xs ++ ys) = (cellsV p x ++ flatV ps xs) ++ flatV qs ys
    rw [flatV_append ps xs qs ys (by simpa using h), List.append_assoc]
  | [], _ :: _, _, _, h => by simp at h
  | _ :: _, [], _, _, h => by simp at h

theorem flatV_get : ∀ (ps : List (Value × Value)) (xs : List VV) (j f : Nat), ps.length = xs.length → f < 5 → (hp : j < ps.length) → (hx : j < xs.length) → (flatV ps xs)[j * 5 + f]? = (cellsV ps[j] xs[j])[f]?
  | [], _, _, _, _, _, hp, _ => by simp at hp
  | _ :: _, [], _, _, h, _, _, _ => by simp at h
  | p :: ps, x :: xs, 0, f, h, hf, _, _ => by
    show (cellsV p x ++ flatV ps xs)[0 * 5 + f]? = _
    rw [Nat.zero_mul, Nat.zero_add, List.getElem?_append_left (by simpa [cellsV] using hf)]
    rfl
  | p :: ps, x :: xs, j + 1, f, h, hf, hp, hx => by
    have ih := flatV_get ps xs j f (by simpa using h) hf (by simpa using hp) (by simpa using hx)
    show (cellsV p x ++ flatV ps xs)[(j + 1) * 5 + f]? = _
    rw [List.getElem?_append_right (by simp [cellsV]; omega), show (j + 1) * 5 + f - (cellsV p x).length = j * 5 + f by simp [cellsV]; omega, ih]
    rfl

def Part (B : Nat) (W : World) (p : Value × Value) (x : VV) : Prop := Fresh B 5 .u8 W p.1 (natI x.b) ∧ Fresh B 3 .i64 W p.2 x.l
def Parts (B : Nat) (W : World) (ps : List (Value × Value)) (xs : List VV) : Prop := ps.length = xs.length ∧ ∀ j, (hp : j < ps.length) → (hx : j < xs.length) → Part B W ps[j] xs[j]
theorem part_keeps {B : Nat} {W W2 : World} {p : Value × Value} {x : VV} (h : Part B W p x) (hb : Below W.heap.size W W2) : Part B W2 p x := ⟨fresh_keeps h.1 hb, fresh_keeps h.2 hb⟩

/-- A row of another type is not the block that grew. -/
theorem fresh_other {B B2 : Nat} {e t : TypeId} {k : IntKind} {W W2 : World} {v u : Value} {zs : List Int} {n size : Nat} {cs : List Value} (h : Fresh B e k W v zs) (hu : W.ownsRow B2 t size u n cs) (hne : e ≠ t) (hg : W.grownBy W2 u.ownBlock) : Fresh B e k W2 v zs := by
  refine World.ownsRow.kept h hg ?_
  rcases h.2 with ⟨rfl, _⟩ | ⟨g, cap, cur, rfl, _, hgb, _⟩
  · exact .inl rfl
  · right
    rcases hu.2 with ⟨rfl, _⟩ | ⟨g2, cap2, cur2, rfl, _, hgb2, _⟩
    · simp [Value.ownBlock]
    · intro e1
      have e2 : g = g2 := by simpa [Value.ownBlock] using e1
      subst e2
      rw [hgb] at hgb2
      injection hgb2 with h1
      injection h1 with _ h2
      exact hne h2

theorem flatV_one (p : Value × Value) (y : VV) : flatV [p] [y] = cellsV p y := by simp [flatV]
theorem parts_one {B : Nat} {W : World} {p : Value × Value} {y : VV} (h : Part B W p y) : Parts B W [p] [y] :=
  ⟨rfl, fun j hp hx => by
    have : j = 0 := by simpa using hp
    subst this
    exact h⟩

/-- n brought to the range from -m to m. -/
def boundI (n m : Int) : Int := aroundI n (2 * m + 1) - m
theorem boundI_range (n : Int) {m : Int} (hm : 0 ≤ m) : -m ≤ boundI n m ∧ boundI n m ≤ m := by
  unfold boundI aroundI
  have h1 := Int.emod_nonneg (if n < 0 then -(n + 1) else n) (show (2 * m + 1 : Int) ≠ 0 by omega)
  have h2 := Int.emod_lt_of_pos (if n < 0 then -(n + 1) else n) (show (0 : Int) < 2 * m + 1 by omega)
  omega

end Go.Proofs.YtlljcnhcknmoaaaGreat
