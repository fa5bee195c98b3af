/-
  A slice of values of the call's own: its cells, its parts, what append makes of it; the reference's Bound.
-/
import Derived.Test.YtghilgkkpbhoiaaWireP
namespace Go.Proofs.Ytghilgkkpbhoiaa
open Go.RowKit Go.Shelf
set_option linter.unusedVariables false

def cellsV (p : Value × Value) (x : VV) : List Value := [.int .i64 x.kind, .int .u64 (x.u : Int), .int .i64 x.n, p.1, p.2]
/-- The cells of values xs whose byte slices and lists are ps. -/
def flatV : List (Value × Value) → List VV → List Value
  | p :: ps, x :: xs => cellsV p x ++ flatV ps xs
  | _, _ => []

theorem flatV_length : ∀ (ps : List (Value × Value)) (xs : List VV), ps.length = xs.length → (flatV ps xs).length = xs.length * 5
  | [], [], _ => rfl
  | p :: ps, x :: xs, h => by
    have := flatV_length ps xs (by simpa using h)
    simp only [flatV, List.length_append, this, List.length_cons, cellsV, List.length_nil]
    omega
  | [], _ :: _, h => by simp at h
  | _ :: _, [], h => by simp at h

theorem flatV_append : ∀ (ps : List (Value × Value)) (xs : List VV) (qs : List (Value × Value)) (ys : List VV), ps.length = xs.length → flatV (ps ++ qs) (xs ++ ys) = flatV ps xs ++ flatV qs ys
  | [], [], _, _, _ => rfl
  | p :: ps, x :: xs, qs, ys, h => by
    show cellsV p x ++ flatV (ps ++ qs) (xs ++ ys) = (cellsV p x ++ flatV ps xs) ++ flatV qs ys
    rw [flatV_append ps xs qs ys (by simpa using h), List.append_assoc]
  | [], _ :: _, _, _, h => by simp at h
  | _ :: _, [], _, _, h => by simp at h

theorem flatV_get : ∀ (ps : List (Value × Value)) (xs : List VV) (j f : Nat), ps.length = xs.length → f < 5 → (hp : j < ps.length) → (hx : j < xs.length) → (flatV ps xs)[j * 5 + f]? = (cellsV ps[j] xs[j])[f]?
  | [], _, _, _, _, _, hp, _ => by simp at hp
  | _ :: _, [], _, _, h, _, _, _ => by simp at h
  | p :: ps, x :: xs, 0, f, h, hf, _, _ => by
    show (cellsV p x ++ flatV ps xs)[0 * 5 + f]? = _
    rw [Nat.zero_mul, Nat.zero_add, List.getElem?_append_left (by simpa [cellsV] using hf)]
    rfl
  | p :: ps, x :: xs, j + 1, f, h, hf, hp, hx => by
    have ih := flatV_get ps xs j f (by simpa using h) hf (by simpa using hp) (by simpa using hx)
    show (cellsV p x ++ flatV ps xs)[(j + 1) * 5 + f]? = _
    rw [List.getElem?_append_right (by simp [cellsV]; omega), show (j + 1) * 5 + f - (cellsV p x).length = j * 5 + f by simp [cellsV]; omega, ih]
    rfl

def Part (B : Nat) (W : World) (p : Value × Value) (x : VV) : Prop := Fresh B 5 .u8 W p.1 (natI x.b) ∧ Fresh B 3 .i64 W p.2 x.l
def Parts (B : Nat) (W : World) (ps : List (Value × Value)) (xs : List VV) : Prop := ps.length = xs.length ∧ ∀ j, (hp : j < ps.length) → (hx : j < xs.length) → Part B W ps[j] xs[j]
/-- A slice of values that the call has made, with its parts. -/
def FreshV (B : Nat) (W : World) (v : Value) (xs : List VV) : Prop := ∃ ps, W.ownsRow B 28 5 v xs.length (flatV ps xs) ∧ Parts B W ps xs

theorem part_keeps {B : Nat} {W W2 : World} {p : Value × Value} {x : VV} (h : Part B W p x) (hb : Below W.heap.size W W2) : Part B W2 p x := ⟨fresh_keeps h.1 hb, fresh_keeps h.2 hb⟩

/-- A row of another type is not the block that grew. -/
theorem fresh_other {B B2 : Nat} {e t : TypeId} {k : IntKind} {W W2 : World} {v u : Value} {zs : List Int} {n size : Nat} {cs : List Value} (h : Fresh B e k W v zs) (hu : W.ownsRow B2 t size u n cs) (hne : e ≠ t) (hg : W.grownBy W2 u.ownBlock) : Fresh B e k W2 v zs := by
  refine World.ownsRow.kept h hg ?_
  rcases h.2 with ⟨rfl, _⟩ | ⟨g, cap, cur, rfl, _, hgb, _⟩
  · exact .inl rfl
  · right
    rcases hu.2 with ⟨rfl, _⟩ | ⟨g2, cap2, cur2, rfl, _, hgb2, _⟩
    · simp [Value.ownBlock]
    · intro e1
      have e2 : g = g2 := by simpa [Value.ownBlock] using e1
      subst e2
      rw [hgb] at hgb2
      injection hgb2 with h1
      injection h1 with _ h2
      exact hne h2

theorem type_u8_ne : (5 : TypeId) ≠ 28 := by decide
theorem type_int_ne : (3 : TypeId) ≠ 28 := by decide

theorem freshV_keeps {B : Nat} {W W2 : World} {v : Value} {xs : List VV} (h : FreshV B W v xs) (hb : Below W.heap.size W W2) : FreshV B W2 v xs := by
  obtain ⟨ps, h1, h2, h3⟩ := h
  refine ⟨ps, ⟨h1.1, ?_⟩, h2, fun j hp hx => part_keeps (h3 j hp hx) hb⟩
  rcases h1.2 with hn | ⟨g, cap, cur, rfl, h2, h3, h4⟩
  · exact .inl hn
  · exact .inr ⟨g, cap, cur, rfl, h2, (hb.block g (Array.getElem?_eq_some_iff.1 h3).1).trans h3, h4⟩

theorem freshV_nil (B : Nat) (W : World) : FreshV B W (.slice none 0 0) [] := ⟨[], World.ownsRow_nil W B _ 5, rfl, fun j hp _ => by simp at hp⟩

/-- What append makes of it: the cells of ys, whose parts are the call's own too, behind it. -/
theorem freshV_grown {B : Nat} {W W2 : World} {v v' : Value} {xs ys : List VV} {ps qs : List (Value × Value)} (h1 : W.ownsRow B 28 5 v xs.length (flatV ps xs)) (h2 : Parts B W ps xs) (h3 : Parts B W qs ys)
    (ho : W2.ownsRow B 28 5 v' (xs.length + ys.length) (flatV ps xs ++ flatV qs ys)) (hg : W.grownBy W2 v.ownBlock) : FreshV B W2 v' (xs ++ ys) := by
  refine ⟨ps ++ qs, ?_, by rw [List.length_append, List.length_append, h2.1, h3.1], fun j hp hx => ?_⟩
  · rw [List.length_append, flatV_append _ _ _ _ h2.1]; exact ho
  · have key : ∀ {p : Value × Value} {x : VV}, Part B W p x → Part B W2 p x := fun {p x} h => ⟨fresh_other h.1 h1 type_u8_ne hg, fresh_other h.2 h1 type_int_ne hg⟩
    apply key
    by_cases hj : j < xs.length
    · rw [List.getElem_append_left (h2.1 ▸ hj), List.getElem_append_left hj]
      exact h2.2 j _ _
    · have hq : j - xs.length < ys.length := by rw [List.length_append] at hx; omega
      have e1 : (ps ++ qs)[j] = qs[j - xs.length]'(by rw [h3.1]; exact hq) := by
        rw [List.getElem_append_right (by rw [h2.1]; omega)]
        simp only [h2.1]
      have e2 : (xs ++ ys)[j] = ys[j - xs.length] := List.getElem_append_right (by omega)
      rw [e1, e2]
      exact h3.2 _ _ _

/-- Read only, it is a row of values. -/
theorem valRow_of_freshV {B : Nat} {W : World} {v : Value} {xs : List VV} (h : FreshV B W v xs) : ValRow W v xs := by
  obtain ⟨ps, h1, h2, h3⟩ := h
  have hown := h1
  rcases h1.2 with ⟨rfl, h0⟩ | ⟨g, cap, cur, rfl, hg, hgb, hc, hm, _⟩
  · have : xs = [] := List.eq_nil_of_length_eq_zero h0
    subst this
    exact ⟨none, 0, rfl, Nat.le_refl _, by decide, fun h => (h rfl).elim⟩
  · refine ⟨_, cap, rfl, hc, by unfold maxLen at hm; omega, fun _ => ⟨g, 0, rfl, fun j hj => ?_⟩⟩
    have hp : j < ps.length := h2 ▸ hj
    have cell : ∀ f u, f < 5 → (cellsV ps[j] xs[j])[f]? = some u → W.cell? ⟨g, 0 + j * 5 + f, none⟩ = some u := by
      intro f u hf hu
      have := World.ownsRow.cells hown (g := g) rfl (j * 5 + f) u (by rw [flatV_get ps xs j f h2 hf hp hj]; exact hu)
      rw [add_none] at this
      rw [Nat.add_assoc]; exact this
    obtain ⟨p1, p2⟩ := h3 j hp hj
    exact ⟨ps[j].1, ps[j].2, cell 0 _ (by decide) rfl, cell 1 _ (by decide) rfl, cell 2 _ (by decide) rfl, cell 3 _ (by decide) rfl, cell 4 _ (by decide) rfl, row_of_fresh p1, row_of_fresh p2⟩

theorem info_val : (Try.prog.info? 28).map (fun i => (i.zero, i.size, i.bytes)) = some (some (.agg #[.int .i64 0, .int .u64 0, .int .i64 0, .slice none 0 0, .slice none 0 0]), 5, 72) := by kernel_rfl

/-- append(own values, values..), the new ones in a block laid for the call. -/
theorem wpList_append_vals {W : World} {ops : Array Oper} {rest : List Oper} {o : Oper} {a : Act} {Q : Exit → Act → World → Prop} (hgd : o.guard = none) (s x : Operand)
    (ho : o.op = .call { callee := .builtin .append, args := #[s, x], argTypes := #[25, 25] })
    (B : Nat) (v : Value) (xs : List VV) (hs : a.eval s = v) (hown : FreshV B W v xs) (g c m : Nat) (hx : a.eval x = .slice (some ⟨g, 0, none⟩) m c)
    (qs : List (Value × Value)) (ys : List VV) (hm : m = ys.length) (hl : Laid W g 28 (flatV qs ys)) (hone : ∀ u ∈ flatV qs ys, u.oneCell' = true) (hp : Parts B W qs ys)
    (hlen : xs.length + m ≤ 1000000) (hbase : B ≤ W.heap.size)
    (h : ∀ v' w', FreshV B w' v' (xs ++ ys) → W.grownBy w' v.ownBlock → (∀ k, v.ownBlock = some k → B ≤ k) → wpList Try.prog ops Q rest (a.put o.dst v') w') : wpList Try.prog ops Q (o :: rest) a W := by
  subst hm
  obtain ⟨iv, hi, hz0, hz1, hz2⟩ := info_parts info_val
  obtain ⟨ps, h1, h2⟩ := hown
  refine wpList_append_own W hgd s x 25 ho B 28 iv _ 5 72 Try.underlying25 hi hz0 hz1 hz2 rfl (by decide) v xs.length (flatV ps xs) hs h1 ⟨g, 0, none⟩ ys.length c (flatV qs ys) hx (flatV_length qs ys hp.1) ?_ hone (by unfold maxLen; omega) (by omega) hbase ?_
  · intro j u hu
    rw [add_none, Nat.zero_add, hl.cell]
    exact hu
  · intro v' w' h3 h4 _
    exact h v' w' (freshV_grown h1 h2 hp h3 h4) h4 (fun k hk => (h1.lt k hk).1)

theorem flatV_one (p : Value × Value) (y : VV) : flatV [p] [y] = cellsV p y := by simp [flatV]
theorem parts_one {B : Nat} {W : World} {p : Value × Value} {y : VV} (h : Part B W p y) : Parts B W [p] [y] :=
  ⟨rfl, fun j hp hx => by
    have : j = 0 := by simpa using hp
    subst this
    exact h⟩

/-- n brought to the range from -m to m. -/
def boundI (n m : Int) : Int := aroundI n (2 * m + 1) - m
theorem boundI_range (n : Int) {m : Int} (hm : 0 ≤ m) : -m ≤ boundI n m ∧ boundI n m ≤ m := by
  unfold boundI aroundI
  have h1 := Int.emod_nonneg (if n < 0 then -(n + 1) else n) (show (2 * m + 1 : Int) ≠ 0 by omega)
  have h2 := Int.emod_lt_of_pos (if n < 0 then -(n + 1) else n) (show (0 : Int) < 2 * m + 1 by omega)
  omega

set_option maxHeartbeats 400000 in
theorem bound_any (n : Int) (m : Nat) (w : World) (hn : -9223372036854775808 ≤ n ∧ n ≤ 9223372036854775807) (hm : m ≤ 1000000) :
    Calls Try.prog 28 #[.int .i64 n, .int .i64 (m : Int)] w fun e w' => e = .returned (.int .i64 (boundI n m)) ∧ w = w' := by
  have HN := Lib.hid hn
  have HR : Hid (0 ≤ aroundI n (2 * m + 1) ∧ aroundI n (2 * m + 1) < 2 * m + 1) := Lib.hid ⟨Int.emod_nonneg _ (by omega), Int.emod_lt_of_pos _ (by omega)⟩
  clear hn
  go_enter Try.func28, Try.ntmps28
  go_wp2_with fail
  refine (around_any n (2 * m + 1) w HN.out (by omega) (by omega)).mono ?_
  rintro e w1 ⟨rfl, rfl⟩
  have hr := HR.out
  have hdef : Hid (boundI n m = aroundI n (2 * m + 1) - m) := Lib.hid rfl
  rw [show (((2 * m + 1 : Nat) : Int)) = 2 * (m : Int) + 1 by omega]
  generalize aroundI n (2 * (m : Int) + 1) = q at *
  go_wp2_with fail
  go_ret
  exact ⟨ret_int (by rw [hdef.out]), rfl⟩
end Go.Proofs.Ytghilgkkpbhoiaa
