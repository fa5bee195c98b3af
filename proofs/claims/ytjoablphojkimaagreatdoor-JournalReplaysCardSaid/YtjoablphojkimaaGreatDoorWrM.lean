/-
  Plain facts: what is read from what has been written; one encoding; prefixes. The reference's values: compared, read. The reference's reader: a value of a kind. The reference's encoding of values. A slice of values of the call's own: its cells, its parts, what append makes of it; the reference's Bound. The reference's generator of values: some list of at most 8 proper values comes out.
-/
import Derived.Test.YtjoablphojkimaaGreatDoorWrA
import Derived.Deep.RegionLaw
import Derived.Deep.AppendLies
namespace Go.Proofs.YtjoablphojkimaaGreatDoor
open Go.RowKit Go.Shelf
set_option linter.unusedVariables false
set_option maxRecDepth 100000

/-! ### Round trip -/
theorem rUint_round {n : Nat} (hn : n < 18446744073709551616) (r : List Nat) : rUint (varN n ++ r, 0) = (n, (r, 0)) := by
  unfold rUint
  rw [if_pos rfl, readVar_round n 0 r (by decide) (lt64 hn) (fun h => absurd h (by decide))]
  rfl
theorem rInt_round {n : Int} (hn : -9223372036854775808 ≤ n ∧ n ≤ 9223372036854775807) (r : List Nat) : rInt (varN (zigN n) ++ r, 0) = (n, (r, 0)) := by
  unfold rInt
  rw [rUint_round (zigN_lt hn)]
  show (zagI (zigN n), _) = _
  rw [zag_zig]
theorem rBool_round (b : Bool) (r : List Nat) : rBool (boolN b ++ r, 0) = (b, (r, 0)) := by
  cases b <;> rfl
theorem rLen_round {n : Nat} (hn : n < 18446744073709551616) {r : List Nat} (hr : n ≤ r.length) : rLen (varN n ++ r, 0) = (n, (r, 0)) := by
  unfold rLen
  rw [rUint_round hn]
  rw [if_neg (fun h => h rfl), if_neg (by show ¬ r.length < n; omega)]
theorem rRaw_round {l : List Nat} (hl : l.length < 18446744073709551616) (r : List Nat) : rRaw (varN l.length ++ l ++ r, 0) = (l, (r, 0)) := by
  unfold rRaw
  rw [List.append_assoc, rLen_round hl (by simp), if_neg (fun h => h rfl)]
  show ((l ++ r).take l.length, ((l ++ r).drop l.length, 0)) = _
  rw [List.take_left, List.drop_left]
theorem rMany_round (l : List Int) (hl : ∀ n ∈ l, -9223372036854775808 ≤ n ∧ n ≤ 9223372036854775807) (r : List Nat) : rMany l.length (zigsN l ++ r, 0) = (l, (r, 0)) := by
  induction l with
  | nil => rfl
  | cons n l ih =>
    have e : zigsN (n :: l) ++ r = varN (zigN n) ++ (zigsN l ++ r) := by simp [zigsN]
    show ((rInt (zigsN (n :: l) ++ r, 0)).1 :: (rMany l.length (rInt (zigsN (n :: l) ++ r, 0)).2).1, (rMany l.length (rInt (zigsN (n :: l) ++ r, 0)).2).2) = _
    rw [e, rInt_round (hl n (by simp)), ih (fun m hm => hl m (by simp [hm]))]
theorem zigsN_ge (l : List Int) : l.length ≤ (zigsN l).length := by
  induction l with
  | nil => simp
  | cons n l ih =>
    have : zigsN (n :: l) = varN (zigN n) ++ zigsN l := by simp [zigsN]
    rw [this, List.length_append, List.length_cons]
    have := varN_pos (zigN n)
    omega
theorem rInts_round {l : List Int} (hlen : l.length < 18446744073709551616) (hl : ∀ n ∈ l, -9223372036854775808 ≤ n ∧ n ≤ 9223372036854775807) (r : List Nat) : rInts (varN l.length ++ zigsN l ++ r, 0) = (l, (r, 0)) := by
  have h := zigsN_ge l
  unfold rInts
  rw [List.append_assoc, rLen_round hlen (by rw [List.length_append]; omega)]
  show (if (rMany l.length (zigsN l ++ r, 0)).2.2 ≠ 0 then _ else rMany l.length (zigsN l ++ r, 0)) = _
  rw [rMany_round l hl, if_neg (fun h => h rfl)]

/-! ### One encoding -/
theorem rUint_one {s : RS} (h8 : ∀ c ∈ s.1, c < 256) (h : (rUint s).2.2 = 0) : s.2 = 0 ∧ s.1 = varN (rUint s).1 ++ (rUint s).2.1 ∧ (rUint s).1 < 18446744073709551616 := by
  by_cases h0 : s.2 = 0
  · refine ⟨h0, ?_⟩
    unfold rUint at *
    rw [if_pos h0] at *
    cases hr : readVar 0 s.1 with
    | err k =>
      rw [hr] at h
      have hk : k = 0 := h
      subst hk
      exact absurd hr (readVar_err_ne 0 s.1)
    | val n r =>
      obtain ⟨h1, h2, _⟩ := readVar_one s.1 h8 0 (by decide) n r hr
      exact ⟨h1, h2⟩
  · rw [rUint_err h0] at h
    exact absurd h h0
theorem rInt_one {s : RS} (h8 : ∀ c ∈ s.1, c < 256) (h : (rInt s).2.2 = 0) : s.2 = 0 ∧ s.1 = varN (zigN (rInt s).1) ++ (rInt s).2.1 := by
  obtain ⟨h1, h2, _⟩ := rUint_one h8 h
  refine ⟨h1, ?_⟩
  show s.1 = varN (zigN (zagI (rUint s).1)) ++ _
  rw [zig_zag]
  exact h2
theorem rBool_one {s : RS} (h : (rBool s).2.2 = 0) : s.2 = 0 ∧ s.1 = boolN (rBool s).1 ++ (rBool s).2.1 := by
  obtain ⟨l, e⟩ := s
  by_cases h0 : e = 0
  · subst h0
    refine ⟨rfl, ?_⟩
    cases l with
    | nil => exact absurd (show (3 : Nat) = 0 from h) (by decide)
    | cons c l =>
      have e : rBool (c :: l, 0) = if 1 < c then (false, (c :: l, 2)) else (decide (c = 1), (l, 0)) := rfl
      by_cases hc : 1 < c
      · rw [e, if_pos hc] at h; exact absurd (show (2 : Nat) = 0 from h) (by decide)
      · rw [e, if_neg hc]
        rcases (by omega : c = 0 ∨ c = 1) with rfl | rfl <;> rfl
  · have e1 : rBool (l, e) = (false, (l, e)) := by unfold rBool; rw [if_pos h0]
    rw [e1] at h
    exact absurd h h0
theorem rLen_one {s : RS} (h8 : ∀ c ∈ s.1, c < 256) (h : (rLen s).2.2 = 0) : s.2 = 0 ∧ s.1 = varN (rLen s).1 ++ (rLen s).2.1 ∧ (rLen s).1 ≤ (rLen s).2.1.length := by
  have hle := rLen_le s h
  unfold rLen at *
  by_cases h1 : (rUint s).2.2 ≠ 0
  · rw [if_pos h1] at h; exact absurd h h1
  · rw [if_neg h1] at h hle ⊢
    by_cases h2 : (rUint s).2.1.length < (rUint s).1
    · rw [if_pos h2] at h; exact absurd h (by simp)
    · rw [if_neg h2] at h hle ⊢
      obtain ⟨h3, h4, _⟩ := rUint_one h8 h
      exact ⟨h3, h4, hle⟩
theorem rRaw_one {s : RS} (h8 : ∀ c ∈ s.1, c < 256) (h : (rRaw s).2.2 = 0) : s.2 = 0 ∧ s.1 = varN (rRaw s).1.length ++ (rRaw s).1 ++ (rRaw s).2.1 := by
  unfold rRaw at *
  by_cases h1 : (rLen s).2.2 ≠ 0
  · rw [if_pos h1] at h; exact absurd h h1
  · rw [if_neg h1] at h ⊢
    obtain ⟨h3, h4, h5⟩ := rLen_one h8 (Decidable.not_not.1 h1)
    refine ⟨h3, ?_⟩
    show s.1 = varN ((rLen s).2.1.take (rLen s).1).length ++ (rLen s).2.1.take (rLen s).1 ++ (rLen s).2.1.drop (rLen s).1
    rw [List.append_assoc, List.take_append_drop, List.length_take, Nat.min_eq_left h5]
    exact h4
theorem rMany_one (n : Nat) : ∀ s : RS, (∀ c ∈ s.1, c < 256) → (s.2 = 0 → (rMany n s).2.2 = 0 → s.1 = zigsN (rMany n s).1 ++ (rMany n s).2.1 ∧ (rMany n s).1.length = n) := by
  induction n with
  | zero => intro s _ _ _; exact ⟨rfl, rfl⟩
  | succ n ih =>
    intro s h8 h0 h
    have hs : (rInt s).2.2 = 0 := by
      by_cases h1 : (rInt s).2.2 = 0
      · exact h1
      · have := rMany_err n h1
        change (rMany n (rInt s).2).2.2 = 0 at h
        rw [this] at h
        exact h
    obtain ⟨_, h2⟩ := rInt_one h8 hs
    obtain ⟨h3, h4⟩ := ih (rInt s).2 (fun c hc => h8 c (by rw [h2]; simp [hc])) hs h
    show s.1 = zigsN ((rInt s).1 :: (rMany n (rInt s).2).1) ++ (rMany n (rInt s).2).2.1 ∧ (((rInt s).1 :: (rMany n (rInt s).2).1)).length = n + 1
    refine ⟨?_, by rw [List.length_cons, h4]⟩
    have e : zigsN ((rInt s).1 :: (rMany n (rInt s).2).1) = varN (zigN (rInt s).1) ++ zigsN (rMany n (rInt s).2).1 := by simp [zigsN]
    rw [e, List.append_assoc, ← h3]
    exact h2
theorem rInts_one {s : RS} (h8 : ∀ c ∈ s.1, c < 256) (h : (rInts s).2.2 = 0) : s.2 = 0 ∧ s.1 = varN (rInts s).1.length ++ zigsN (rInts s).1 ++ (rInts s).2.1 := by
  unfold rInts at *
  by_cases h1 : (rMany (rLen s).1 (rLen s).2).2.2 ≠ 0
  · rw [if_pos h1] at h; exact absurd h h1
  · rw [if_neg h1] at h ⊢
    have hl : (rLen s).2.2 = 0 := by
      by_cases h2 : (rLen s).2.2 = 0
      · exact h2
      · rw [rMany_err _ h2] at h; exact h
    obtain ⟨h3, h4, h5⟩ := rLen_one h8 hl
    obtain ⟨h6, h7⟩ := rMany_one (rLen s).1 (rLen s).2 (fun c hc => h8 c (by rw [h4]; simp [hc])) hl h
    refine ⟨h3, ?_⟩
    rw [h7, List.append_assoc, ← h6]
    exact h4

/-! ### Prefixes -/
theorem rUint_prefix {n : Nat} (hn : n < 18446744073709551616) {k : Nat} (hk : k < (varN n).length) : (rUint ((varN n).take k, 0)).2.2 = 3 ∧ (rUint ((varN n).take k, 0)).1 = 0 := by
  unfold rUint
  rw [if_pos rfl, readVar_prefix n 0 k (by decide) (lt64 hn) (fun h => absurd h (by decide)) hk]
  exact ⟨rfl, rfl⟩
theorem rInt_prefix {n : Int} (hn : -9223372036854775808 ≤ n ∧ n ≤ 9223372036854775807) {k : Nat} (hk : k < (varN (zigN n)).length) : (rInt ((varN (zigN n)).take k, 0)).2.2 = 3 := (rUint_prefix (zigN_lt hn) hk).1
theorem rBool_prefix (b : Bool) {k : Nat} (hk : k < (boolN b).length) : (rBool ((boolN b).take k, 0)).2.2 = 3 := by
  have : k = 0 := by simp [boolN] at hk; exact hk
  subst this
  rfl
theorem rLen_bad {s : RS} (h : (rUint s).2.2 ≠ 0) : rLen s = (0, (rUint s).2) := by unfold rLen; rw [if_pos h]
theorem rLen_more {s : RS} (h : (rUint s).2.2 = 0) (h2 : (rUint s).2.1.length < (rUint s).1) : (rLen s).2.2 = 3 ∧ (rLen s).1 = 0 := by
  unfold rLen; rw [if_neg (fun h1 => h1 h), if_pos h2]; exact ⟨rfl, rfl⟩
/-- A length, and then too little, or not even the length. -/
theorem rLen_prefix {n : Nat} (hn : n < 18446744073709551616) {l : List Nat} {k : Nat} (hk : k < (varN n).length + n) (hl : l.length ≤ n ∨ k < (varN n).length) : (rLen ((varN n ++ l).take k, 0)).2.2 = 3 ∧ (rLen ((varN n ++ l).take k, 0)).1 = 0 := by
  by_cases h : k < (varN n).length
  · have e : (varN n ++ l).take k = (varN n).take k := List.take_append_of_le_length (Nat.le_of_lt h)
    rw [e]
    obtain ⟨h1, h2⟩ := rUint_prefix hn h
    rw [rLen_bad (by rw [h1]; decide)]
    exact ⟨h1, rfl⟩
  · have hl2 : l.length ≤ n := by omega
    have e : (varN n ++ l).take k = varN n ++ l.take (k - (varN n).length) := by rw [List.take_append, List.take_of_length_le (by omega)]
    rw [e]
    have h1 := rUint_round hn (l.take (k - (varN n).length))
    refine rLen_more (by rw [h1]) ?_
    rw [h1]
    show (l.take (k - (varN n).length)).length < n
    rw [List.length_take]
    omega
theorem rRaw_bad {s : RS} (h : (rLen s).2.2 ≠ 0) : rRaw s = ([], (rLen s).2) := by unfold rRaw; rw [if_pos h]
theorem rRaw_prefix {l : List Nat} (hl : l.length < 18446744073709551616) {k : Nat} (hk : k < (varN l.length ++ l).length) : (rRaw ((varN l.length ++ l).take k, 0)).2.2 = 3 := by
  rw [List.length_append] at hk
  obtain ⟨h1, _⟩ := rLen_prefix hl (l := l) hk (.inl (Nat.le_refl _))
  rw [rRaw_bad (by rw [h1]; decide)]
  exact h1
theorem rMany_prefix (l : List Int) (hl : ∀ n ∈ l, -9223372036854775808 ≤ n ∧ n ≤ 9223372036854775807) : ∀ k, k < (zigsN l).length → (rMany l.length ((zigsN l).take k, 0)).2.2 = 3 := by
  induction l with
  | nil => intro k hk; simp [zigsN] at hk
  | cons n l ih =>
    intro k hk
    have e : zigsN (n :: l) = varN (zigN n) ++ zigsN l := by simp [zigsN]
    rw [e] at hk ⊢
    show (rMany l.length (rInt ((varN (zigN n) ++ zigsN l).take k, 0)).2).2.2 = 3
    by_cases h : k < (varN (zigN n)).length
    · rw [List.take_append_of_le_length (Nat.le_of_lt h)]
      have h1 := rInt_prefix (hl n (by simp)) h
      rw [rMany_err _ (by rw [h1]; decide)]
      exact h1
    · rw [List.take_append, List.take_of_length_le (by omega), rInt_round (hl n (by simp))]
      rw [List.length_append] at hk
      exact ih (fun m hm => hl m (by simp [hm])) _ (by omega)
theorem rInts_prefix {l : List Int} (hlen : l.length < 18446744073709551616) (hl : ∀ n ∈ l, -9223372036854775808 ≤ n ∧ n ≤ 9223372036854775807) {k : Nat} (hk : k < (varN l.length ++ zigsN l).length) :
    (rInts ((varN l.length ++ zigsN l).take k, 0)).2.2 = 3 := by
  have key : ∀ s : RS, (rMany (rLen s).1 (rLen s).2).2.2 = 3 → (rInts s).2.2 = 3 := by
    intro s h
    unfold rInts
    rw [if_pos (by rw [h]; decide)]
    exact h
  apply key
  by_cases h : k < (varN l.length).length + l.length ∧ k < (varN l.length).length
  · obtain ⟨h1, h2⟩ := rLen_prefix hlen (l := zigsN l) h.1 (.inr h.2)
    rw [rMany_err _ (by rw [h1]; decide)]
    exact h1
  · have hk0 : ¬ k < (varN l.length).length := fun h0 => h ⟨by omega, h0⟩
    have e : (varN l.length ++ zigsN l).take k = varN l.length ++ (zigsN l).take (k - (varN l.length).length) := by rw [List.take_append, List.take_of_length_le (by omega)]
    rw [e]
    rw [List.length_append] at hk
    by_cases h2 : ((zigsN l).take (k - (varN l.length).length)).length < l.length
    · have h1 := rUint_round hlen ((zigsN l).take (k - (varN l.length).length))
      obtain ⟨h3, _⟩ := rLen_more (s := (varN l.length ++ (zigsN l).take (k - (varN l.length).length), 0)) (by rw [h1]) (by rw [h1]; exact h2)
      rw [rMany_err _ (by rw [h3]; decide)]
      exact h3
    · rw [rLen_round hlen (by omega)]
      exact rMany_prefix l hl _ (by omega)

/-- A value of the reference, plainly. -/
structure VV where
  kind : Int
  u : Nat
  n : Int
  b : List Nat
  l : List Int
  deriving DecidableEq

def ValAt (W : World) (x : Value) (v : VV) : Prop :=
  ∃ vb vl, x = .agg #[.int .i64 v.kind, .int .u64 (v.u : Int), .int .i64 v.n, vb, vl] ∧ Row .u8 W vb (natI v.b) ∧ Row .i64 W vl v.l

theorem Elems.of_row {k : IntKind} {w : World} {v : Value} {zs : List Int} (h : Row k w v zs) : Elems k w v zs := by
  obtain ⟨a, cap, h1, h2, h3, h4, h5⟩ := h
  exact ⟨a, cap, h1, h4⟩

def rRead (kind : Int) (s : RS) : VV × RS :=
  if kind = 0 then (⟨0, (rUint s).1, 0, [], []⟩, (rUint s).2)
  else if kind = 1 then (⟨1, 0, (rInt s).1, [], []⟩, (rInt s).2)
  else if kind = 2 then (⟨2, 0, if (rBool s).1 then 1 else 0, [], []⟩, (rBool s).2)
  else if kind = 3 ∨ kind = 4 then (⟨kind, 0, 0, (rRaw s).1, []⟩, (rRaw s).2)
  else (⟨kind, 0, 0, [], (rInts s).1⟩, (rInts s).2)

/-- A store into what the call has laid itself. -/
theorem keeps_own {A : Foot} {w W : World} (h : Keeps A w W) {p : Addr} (hp : w.heap.size ≤ p.block) (u : Value) : Keeps A w (W.setCell p u) :=
  ⟨h.os, h.tape, h.output, by have := h.size; simp [World.setCell]; exact this, fun k hk hn => (Below.heap_setCell _ _ _ _ (by omega)).trans (h.same k hk hn)⟩

/-- The empty value of a kind, in two blocks of the call's own. -/
def zeroV (kind : Int) : List Value := [.int .i64 kind, .int .u64 0, .int .i64 0, .slice none 0 0, .slice none 0 0]
-- END K

/-- The encoding of a value. -/
def encV (v : VV) : List Nat :=
  if v.kind = 0 then varN v.u else if v.kind = 1 then varN (zigN v.n) else if v.kind = 2 then boolN (decide (v.n = 1))
  else if v.kind = 3 ∨ v.kind = 4 then varN v.b.length ++ v.b else varN v.l.length ++ zigsN v.l
def encAll (xs : List VV) : List Nat := xs.flatMap encV
theorem encAll_take {xs : List VV} {k : Nat} (hk : k < xs.length) : encAll (xs.take (k + 1)) = encAll (xs.take k) ++ encV xs[k] := by
  unfold encAll
  rw [List.take_succ_eq_append_getElem hk, List.flatMap_append]; simp

/-- A value within the ranges of its types, and not too long. -/
structure VV.ok (v : VV) : Prop where
  u : v.u < 18446744073709551616
  n : -9223372036854775808 ≤ v.n ∧ v.n ≤ 9223372036854775807
  b : ∀ c ∈ v.b, c < 256
  bl : v.b.length ≤ 1000
  l : ∀ n ∈ v.l, -9223372036854775808 ≤ n ∧ n ≤ 9223372036854775807
  ll : v.l.length ≤ 1000

/-- Element j of a row of values. -/
def ValCells (W : World) (b off : Nat) (v : VV) : Prop :=
  ∃ vb vl, W.cell? ⟨b, off, none⟩ = some (.int .i64 v.kind) ∧ W.cell? ⟨b, off + 1, none⟩ = some (.int .u64 (v.u : Int)) ∧ W.cell? ⟨b, off + 2, none⟩ = some (.int .i64 v.n) ∧
    W.cell? ⟨b, off + 3, none⟩ = some vb ∧ W.cell? ⟨b, off + 4, none⟩ = some vl ∧ Row .u8 W vb (natI v.b) ∧ Row .i64 W vl v.l

/-- The slice value v holds the values xs. -/
def ValRow (W : World) (v : Value) (xs : List VV) : Prop :=
  ∃ a cap, v = .slice a xs.length cap ∧ xs.length ≤ cap ∧ cap ≤ 9223372036854775807 ∧
    (xs ≠ [] → ∃ b off, a = some ⟨b, off, none⟩ ∧ ∀ j, (hj : j < xs.length) → ValCells W b (off + j * 5) xs[j])

theorem cells_keeps {W W2 : World} {b off : Nat} {v : VV} (h : ValCells W b off v) (hb : Below W.heap.size W W2) : ValCells W2 b off v := by
  obtain ⟨vb, vl, h0, h1, h2, h3, h4, h5, h6⟩ := h
  have go : ∀ {o : Nat} {u : Value}, W.cell? ⟨b, o, none⟩ = some u → W2.cell? ⟨b, o, none⟩ = some u := fun {o u} h => (hb.cell (p := ⟨b, o, none⟩) (World.block_lt_of_cell? _ _ h)).trans h
  exact ⟨vb, vl, go h0, go h1, go h2, go h3, go h4, row_keeps h5 hb, row_keeps h6 hb⟩
theorem valRow_keeps {W W2 : World} {v : Value} {xs : List VV} (h : ValRow W v xs) (hb : Below W.heap.size W W2) : ValRow W2 v xs := by
  obtain ⟨a, cap, h1, h2, h3, h4⟩ := h
  refine ⟨a, cap, h1, h2, h3, fun hne => ?_⟩
  obtain ⟨b, off, e, hc⟩ := h4 hne
  exact ⟨b, off, e, fun j hj => cells_keeps (hc j hj) hb⟩

theorem encV_len {v : VV} (h : v.ok) : (encV v).length ≤ 20000 := by
  unfold encV
  have h1 := varN_len10 h.u
  have h2 := varN_len10 (zigN_lt h.n)
  have h3 := varN_len10 (n := v.b.length) (by have := h.bl; omega)
  have h4 := varN_len10 (n := v.l.length) (by have := h.ll; omega)
  have h5 := zigsN_len h.l
  have h6 := h.bl
  have h7 := h.ll
  split
  · omega
  · split
    · omega
    · split
      · simp [boolN]
      · split
        · rw [List.length_append]; omega
        · rw [List.length_append]; omega
theorem encAll_len {xs : List VV} (h : ∀ v ∈ xs, v.ok) : (encAll xs).length ≤ 20000 * xs.length := by
  induction xs with
  | nil => simp [encAll]
  | cons v xs ih =>
    have e : encAll (v :: xs) = encV v ++ encAll xs := by simp [encAll]
    rw [e, List.length_append, List.length_cons]
    have := encV_len (h v (by simp))
    have := ih (fun u hu => h u (by simp [hu]))
    omega

def cellsV (p : Value × Value) (x : VV) : List Value := [.int .i64 x.kind, .int .u64 (x.u : Int), .int .i64 x.n, p.1, p.2]
/-- The cells of values xs whose byte slices and lists are ps. -/
def flatV : List (Value × Value) → List VV → List Value
  | p :: ps, x :: xs => cellsV p x ++ flatV ps xs
  | _, _ => []

theorem flatV_length : ∀ (ps : List (Value × Value)) (xs : List VV), ps.length = xs.length → (flatV ps xs).length = xs.length * 5
  | [], [], _ => rfl
  | p :: ps, x :: xs, h => by
    have := flatV_length ps xs (by simpa using h)
    simp only [flatV, List.length_append, this, List.length_cons, cellsV, List.length_nil]
    omega
  | [], _ :: _, h => by simp at h
  | _ :: _, [], h => by simp at h

theorem flatV_append : ∀ (ps : List (Value × Value)) (xs : List VV) (qs : List (Value × Value)) (ys : List VV), ps.length = xs.length → flatV (ps ++ qs) (xs ++ ys) = flatV ps xs ++ flatV qs ys
  | [], [], _, _, _ => rfl
  | p :: ps, x :: xs, qs, ys, h => by
    show cellsV p x ++ flatV (ps ++ qs) (xs ++ ys) = (cellsV p x ++ flatV ps xs) ++ flatV qs ys
    rw [flatV_append ps xs qs ys (by simpa using h), List.append_assoc]
  | [], _ :: _, _, _, h => by simp at h
  | _ :: _, [], _, _, h => by simp at h

theorem flatV_get : ∀ (ps : List (Value × Value)) (xs : List VV) (j f : Nat), ps.length = xs.length → f < 5 → (hp : j < ps.length) → (hx : j < xs.length) → (flatV ps xs)[j * 5 + f]? = (cellsV ps[j] xs[j])[f]?
  | [], _, _, _, _, _, hp, _ => by simp at hp
  | _ :: _, [], _, _, h, _, _, _ => by simp at h
  | p :: ps, x :: xs, 0, f, h, hf, _, _ => by
    show (cellsV p x ++ flatV ps xs)[0 * 5 + f]? = _
    rw [Nat.zero_mul, Nat.zero_add, List.getElem?_append_left (by simpa [cellsV] using hf)]
    rfl
  | p :: ps, x :: xs, j + 1, f, h, hf, hp, hx => by
    have ih := flatV_get ps xs j f (by simpa using h) hf (by simpa using hp) (by simpa using hx)
    show (cellsV p x ++ flatV ps xs)[(j + 1) * 5 + f]? = _
    rw [List.getElem?_append_right (by simp [cellsV]; omega), show (j + 1) * 5 + f - (cellsV p x).length = j * 5 + f by simp [cellsV]; omega, ih]
    rfl

def Part (B : Nat) (W : World) (p : Value × Value) (x : VV) : Prop := Fresh B 5 .u8 W p.1 (natI x.b) ∧ Fresh B 3 .i64 W p.2 x.l
def Parts (B : Nat) (W : World) (ps : List (Value × Value)) (xs : List VV) : Prop := ps.length = xs.length ∧ ∀ j, (hp : j < ps.length) → (hx : j < xs.length) → Part B W ps[j] xs[j]
theorem part_keeps {B : Nat} {W W2 : World} {p : Value × Value} {x : VV} (h : Part B W p x) (hb : Below W.heap.size W W2) : Part B W2 p x := ⟨fresh_keeps h.1 hb, fresh_keeps h.2 hb⟩

/-- A row of another type is not the block that grew. -/
theorem fresh_other {B B2 : Nat} {e t : TypeId} {k : IntKind} {W W2 : World} {v u : Value} {zs : List Int} {n size : Nat} {cs : List Value} (h : Fresh B e k W v zs) (hu : W.ownsRow B2 t size u n cs) (hne : e ≠ t) (hg : W.grownBy W2 u.ownBlock) : Fresh B e k W2 v zs := by
  refine World.ownsRow.kept h hg ?_
  rcases h.2 with ⟨rfl, _⟩ | ⟨g, cap, cur, rfl, _, hgb, _⟩
  · exact .inl rfl
  · right
    rcases hu.2 with ⟨rfl, _⟩ | ⟨g2, cap2, cur2, rfl, _, hgb2, _⟩
    · simp [Value.ownBlock]
    · intro e1
      have e2 : g = g2 := by simpa [Value.ownBlock] using e1
      subst e2
      rw [hgb] at hgb2
      injection hgb2 with h1
      injection h1 with _ h2
      exact hne h2

theorem flatV_one (p : Value × Value) (y : VV) : flatV [p] [y] = cellsV p y := by simp [flatV]
theorem parts_one {B : Nat} {W : World} {p : Value × Value} {y : VV} (h : Part B W p y) : Parts B W [p] [y] :=
  ⟨rfl, fun j hp hx => by
    have : j = 0 := by simpa using hp
    subst this
    exact h⟩

/-- n brought to the range from -m to m. -/
def boundI (n m : Int) : Int := aroundI n (2 * m + 1) - m
theorem boundI_range (n : Int) {m : Int} (hm : 0 ≤ m) : -m ≤ boundI n m ∧ boundI n m ≤ m := by
  unfold boundI aroundI
  have h1 := Int.emod_nonneg (if n < 0 then -(n + 1) else n) (show (2 * m + 1 : Int) ≠ 0 by omega)
  have h2 := Int.emod_lt_of_pos (if n < 0 then -(n + 1) else n) (show (0 : Int) < 2 * m + 1 by omega)
  omega

/-- A value whose fields are those of its kind. -/
def VV.proper (x : VV) : Prop :=
  (x.kind = 0 ∧ x.n = 0 ∧ x.b = [] ∧ x.l = []) ∨ (x.kind = 1 ∧ x.u = 0 ∧ x.b = [] ∧ x.l = []) ∨ (x.kind = 2 ∧ x.u = 0 ∧ (x.n = 0 ∨ x.n = 1) ∧ x.b = [] ∧ x.l = []) ∨
  ((x.kind = 3 ∨ x.kind = 4) ∧ x.u = 0 ∧ x.n = 0 ∧ x.l = []) ∨ (x.kind = 5 ∧ x.u = 0 ∧ x.n = 0 ∧ x.b = [])

theorem wrap64_range (n : Int) : -9223372036854775808 ≤ wrap64 n ∧ wrap64 n ≤ 9223372036854775807 := by unfold wrap64; omega

theorem div_range {z m : Int} (hz : -9223372036854775808 ≤ z ∧ z ≤ 9223372036854775807) (hm : 1 ≤ m) : -9223372036854775808 ≤ z / m ∧ z / m ≤ 9223372036854775807 := by
  constructor
  · refine Int.le_ediv_of_mul_le (by omega) ?_
    have := Int.mul_le_mul_of_nonneg_left hm (show (0 : Int) ≤ 9223372036854775808 by decide)
    omega
  · refine Int.ediv_le_of_le_mul (by omega) ?_
    have := Int.mul_le_mul_of_nonneg_left hm (show (0 : Int) ≤ 9223372036854775807 by decide)
    omega
theorem pow_ge (n : Nat) : (1 : Int) ≤ 2 ^ n := by
  have : 0 < 2 ^ n := Nat.pow_pos (by decide)
  have h : ((2 ^ n : Nat) : Int) = (2 : Int) ^ n := by rw [Int.natCast_pow]; rfl
  omega
theorem shift_nat (z : Int) (n : Nat) : ∃ X : Nat, X < 18446744073709551616 ∧ IntKind.u64.wrap z / 2 ^ n = (X : Int) := by
  have h0 : 0 ≤ IntKind.u64.wrap z ∧ IntKind.u64.wrap z < 18446744073709551616 := by rw [IntKind.wrap_u64]; omega
  have h1 := pow_ge n
  have h2 : 0 ≤ IntKind.u64.wrap z / 2 ^ n := Int.ediv_nonneg h0.1 (by omega)
  have h3 : IntKind.u64.wrap z / 2 ^ n ≤ IntKind.u64.wrap z := Int.ediv_le_self _ h0.1
  exact ⟨(IntKind.u64.wrap z / 2 ^ n).toNat, by omega, by omega⟩
theorem ok_small {k : Int} {u : Nat} {n : Int} (hu : u < 18446744073709551616) (hn : -9223372036854775808 ≤ n ∧ n ≤ 9223372036854775807) : (⟨k, u, n, [], []⟩ : VV).ok :=
  ⟨hu, hn, fun c h => by simp at h, by simp, fun c h => by simp at h, by simp⟩
theorem all_snoc {xs : List VV} {y : VV} (h : ∀ x ∈ xs, x.ok ∧ x.proper) (hy : y.ok ∧ y.proper) : ∀ x ∈ xs ++ [y], x.ok ∧ x.proper := by
  intro x hx
  rcases List.mem_append.1 hx with h1 | h1
  · exact h x h1
  · have : x = y := by simpa using h1
    subst this
    exact hy

theorem natI_toNats {bs : List Int} (h : ∀ c ∈ bs, 0 ≤ c ∧ c ≤ 255) : natI (toNats bs) = bs := by
  unfold natI toNats
  rw [List.map_map]
  conv => rhs; rw [← List.map_id bs]
  refine List.map_congr_left fun c hc => ?_
  have := h c hc
  simp only [Function.comp, id]
  omega

theorem one_vals (a b c d : Nat) (y : VV) (f g : Option Addr) : ∀ u ∈ flatV [(.slice f a b, .slice g c d)] [y], u.oneCell' = true := by
  intro u hu
  rw [flatV_one] at hu
  simp only [cellsV, List.mem_cons, List.not_mem_nil, or_false] at hu
  rcases hu with rfl | rfl | rfl | rfl | rfl <;> rfl

end Go.Proofs.YtjoablphojkimaaGreatDoor
