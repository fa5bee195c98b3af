/-
  The reference's encoding of values.
-/
import Derived.Test.YtlljcnhcknmoaaaGreatWireO
namespace Go.Proofs.YtlljcnhcknmoaaaGreat
open Go.RowKit Go.Shelf
set_option linter.unusedVariables false

/-- The encoding of a value. -/
def encV (v : VV) : List Nat :=
  if v.kind = 0 then varN v.u else if v.kind = 1 then varN (zigN v.n) else if v.kind = 2 then boolN (decide (v.n = 1))
  else if v.kind = 3 ∨ v.kind = 4 then varN v.b.length ++ v.b else varN v.l.length ++ zigsN v.l
def encAll (xs : List VV) : List Nat := xs.flatMap encV
theorem encAll_take {xs : List VV} {k : Nat} (hk : k < xs.length) : encAll (xs.take (k + 1)) = encAll (xs.take k) ++ encV xs[k] := by
  unfold encAll
  rw [List.take_succ_eq_append_getElem hk, List.flatMap_append]; simp

/-- A value within the ranges of its types, and not too long. -/
structure VV.ok (v : VV) : Prop where
  u : v.u < 18446744073709551616
  n : -9223372036854775808 ≤ v.n ∧ v.n ≤ 9223372036854775807
  b : ∀ c ∈ v.b, c < 256
  bl : v.b.length ≤ 1000
  l : ∀ n ∈ v.l, -9223372036854775808 ≤ n ∧ n ≤ 9223372036854775807
  ll : v.l.length ≤ 1000

/-- Element j of a row of values. -/
def ValCells (W : World) (b off : Nat) (v : VV) : Prop :=
  ∃ vb vl, W.cell? ⟨b, off, none⟩ = some (.int .i64 v.kind) ∧ W.cell? ⟨b, off + 1, none⟩ = some (.int .u64 (v.u : Int)) ∧ W.cell? ⟨b, off + 2, none⟩ = some (.int .i64 v.n) ∧
    W.cell? ⟨b, off + 3, none⟩ = some vb ∧ W.cell? ⟨b, off + 4, none⟩ = some vl ∧ Row .u8 W vb (natI v.b) ∧ Row .i64 W vl v.l

/-- The slice value v holds the values xs. -/
def ValRow (W : World) (v : Value) (xs : List VV) : Prop :=
  ∃ a cap, v = .slice a xs.length cap ∧ xs.length ≤ cap ∧ cap ≤ 9223372036854775807 ∧
    (xs ≠ [] → ∃ b off, a = some ⟨b, off, none⟩ ∧ ∀ j, (hj : j < xs.length) → ValCells W b (off + j * 5) xs[j])

theorem cells_keeps {W W2 : World} {b off : Nat} {v : VV} (h : ValCells W b off v) (hb : Below W.heap.size W W2) : ValCells W2 b off v := by
  obtain ⟨vb, vl, h0, h1, h2, h3, h4, h5, h6⟩ := h
  have go : ∀ {o : Nat} {u : Value}, W.cell? ⟨b, o, none⟩ = some u → W2.cell? ⟨b, o, none⟩ = some u := fun {o u} h => (hb.cell (p := ⟨b, o, none⟩) (World.block_lt_of_cell? _ _ h)).trans h
  exact ⟨vb, vl, go h0, go h1, go h2, go h3, go h4, row_keeps h5 hb, row_keeps h6 hb⟩
theorem valRow_keeps {W W2 : World} {v : Value} {xs : List VV} (h : ValRow W v xs) (hb : Below W.heap.size W W2) : ValRow W2 v xs := by
  obtain ⟨a, cap, h1, h2, h3, h4⟩ := h
  refine ⟨a, cap, h1, h2, h3, fun hne => ?_⟩
  obtain ⟨b, off, e, hc⟩ := h4 hne
  exact ⟨b, off, e, fun j hj => cells_keeps (hc j hj) hb⟩

theorem encV_len {v : VV} (h : v.ok) : (encV v).length ≤ 20000 := by
  unfold encV
  have h1 := varN_len10 h.u
  have h2 := varN_len10 (zigN_lt h.n)
  have h3 := varN_len10 (n := v.b.length) (by have := h.bl; omega)
  have h4 := varN_len10 (n := v.l.length) (by have := h.ll; omega)
  have h5 := zigsN_len h.l
  have h6 := h.bl
  have h7 := h.ll
  split
  · omega
  · split
    · omega
    · split
      · simp [boolN]
      · split
        · rw [List.length_append]; omega
        · rw [List.length_append]; omega
theorem encAll_len {xs : List VV} (h : ∀ v ∈ xs, v.ok) : (encAll xs).length ≤ 20000 * xs.length := by
  induction xs with
  | nil => simp [encAll]
  | cons v xs ih =>
    have e : encAll (v :: xs) = encV v ++ encAll xs := by simp [encAll]
    rw [e, List.length_append, List.length_cons]
    have := encV_len (h v (by simp))
    have := ih (fun u hu => h u (by simp [hu]))
    omega

end Go.Proofs.YtlljcnhcknmoaaaGreat
