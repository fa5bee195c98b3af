/-
  Plain facts: what is read from what has been written; one encoding; prefixes.
-/
import Derived.Test.YtlljcnhcknmoaaaGreatWireE
namespace Go.Proofs.YtlljcnhcknmoaaaGreat
open Go.RowKit Go.Shelf
set_option linter.unusedVariables false

/-! ### Round trip -/
theorem rUint_round {n : Nat} (hn : n < 18446744073709551616) (r : List Nat) : rUint (varN n ++ r, 0) = (n, (r, 0)) := by
  unfold rUint
  rw [if_pos rfl, readVar_round n 0 r (by decide) (lt64 hn) (fun h => absurd h (by decide))]
  rfl
theorem rInt_round {n : Int} (hn : -9223372036854775808 ≤ n ∧ n ≤ 9223372036854775807) (r : List Nat) : rInt (varN (zigN n) ++ r, 0) = (n, (r, 0)) := by
  unfold rInt
  rw [rUint_round (zigN_lt hn)]
  show (zagI (zigN n), _) = _
  rw [zag_zig]
theorem rBool_round (b : Bool) (r : List Nat) : rBool (boolN b ++ r, 0) = (b, (r, 0)) := by
  cases b <;> rfl
theorem rLen_round {n : Nat} (hn : n < 18446744073709551616) {r : List Nat} (hr : n ≤ r.length) : rLen (varN n ++ r, 0) = (n, (r, 0)) := by
  unfold rLen
  rw [rUint_round hn]
  rw [if_neg (fun h => h rfl), if_neg (by show ¬ r.length < n; omega)]
theorem rRaw_round {l : List Nat} (hl : l.length < 18446744073709551616) (r : List Nat) : rRaw (varN l.length ++ l ++ r, 0) = (l, (r, 0)) := by
  unfold rRaw
  rw [List.append_assoc, rLen_round hl (by simp), if_neg (fun h => h rfl)]
  show ((l ++ r).take l.length, ((l ++ r).drop l.length, 0)) = _
  rw [List.take_left, List.drop_left]
theorem rMany_round (l : List Int) (hl : ∀ n ∈ l, -9223372036854775808 ≤ n ∧ n ≤ 9223372036854775807) (r : List Nat) : rMany l.length (zigsN l ++ r, 0) = (l, (r, 0)) := by
  induction l with
  | nil => rfl
  | cons n l ih =>
    have e : zigsN (n :: l) ++ r = varN (zigN n) ++ (zigsN l ++ r) := by simp [zigsN]
    show ((rInt (zigsN (n :: l) ++ r, 0)).1 :: (rMany l.length (rInt (zigsN (n :: l) ++ r, 0)).2).1, (rMany l.length (rInt (zigsN (n :: l) ++ r, 0)).2).2) = _
    rw [e, rInt_round (hl n (by simp)), ih (fun m hm => hl m (by simp [hm]))]
theorem zigsN_ge (l : List Int) : l.length ≤ (zigsN l).length := by
  induction l with
  | nil => simp
  | cons n l ih =>
    have : zigsN (n :: l) = varN (zigN n) ++ zigsN l := by simp [zigsN]
    rw [this, List.length_append, List.length_cons]
    have := varN_pos (zigN n)
    omega
theorem rInts_round {l : List Int} (hlen : l.length < 18446744073709551616) (hl : ∀ n ∈ l, -9223372036854775808 ≤ n ∧ n ≤ 9223372036854775807) (r : List Nat) : rInts (varN l.length ++ zigsN l ++ r, 0) = (l, (r, 0)) := by
  have h := zigsN_ge l
  unfold rInts
  rw [List.append_assoc, rLen_round hlen (by rw [List.length_append]; omega)]
  show (if (rMany l.length (zigsN l ++ r, 0)).2.2 ≠ 0 then _ else rMany l.length (zigsN l ++ r, 0)) = _
  rw [rMany_round l hl, if_neg (fun h => h rfl)]

/-! ### One encoding -/
theorem rUint_one {s : RS} (h8 : ∀ c ∈ s.1, c < 256) (h : (rUint s).2.2 = 0) : s.2 = 0 ∧ s.1 = varN (rUint s).1 ++ (rUint s).2.1 ∧ (rUint s).1 < 18446744073709551616 := by
  by_cases h0 : s.2 = 0
  · refine ⟨h0, ?_⟩
    unfold rUint at *
    rw [if_pos h0] at *
    cases hr : readVar 0 s.1 with
    | err k =>
      rw [hr] at h
      have hk : k = 0 := h
      subst hk
      exact absurd hr (readVar_err_ne 0 s.1)
    | val n r =>
      obtain ⟨h1, h2, _⟩ := readVar_one s.1 h8 0 (by decide) n r hr
      exact ⟨h1, h2⟩
  · rw [rUint_err h0] at h
    exact absurd h h0
theorem rInt_one {s : RS} (h8 : ∀ c ∈ s.1, c < 256) (h : (rInt s).2.2 = 0) : s.2 = 0 ∧ s.1 = varN (zigN (rInt s).1) ++ (rInt s).2.1 := by
  obtain ⟨h1, h2, _⟩ := rUint_one h8 h
  refine ⟨h1, ?_⟩
  show s.1 = varN (zigN (zagI (rUint s).1)) ++ _
  rw [zig_zag]
  exact h2
theorem rBool_one {s : RS} (h : (rBool s).2.2 = 0) : s.2 = 0 ∧ s.1 = boolN (rBool s).1 ++ (rBool s).2.1 := by
  obtain ⟨l, e⟩ := s
  by_cases h0 : e = 0
  · subst h0
    refine ⟨rfl, ?_⟩
    cases l with
    | nil => exact absurd (show (3 : Nat) = 0 from h) (by decide)
    | cons c l =>
      have e : rBool (c :: l, 0) = if 1 < c then (false, (c :: l, 2)) else (decide (c = 1), (l, 0)) := rfl
      by_cases hc : 1 < c
      · rw [e, if_pos hc] at h; exact absurd (show (2 : Nat) = 0 from h) (by decide)
      · rw [e, if_neg hc]
        rcases (by omega : c = 0 ∨ c = 1) with rfl | rfl <;> rfl
  · have e1 : rBool (l, e) = (false, (l, e)) := by unfold rBool; rw [if_pos h0]
    rw [e1] at h
    exact absurd h h0
theorem rLen_one {s : RS} (h8 : ∀ c ∈ s.1, c < 256) (h : (rLen s).2.2 = 0) : s.2 = 0 ∧ s.1 = varN (rLen s).1 ++ (rLen s).2.1 ∧ (rLen s).1 ≤ (rLen s).2.1.length := by
  have hle := rLen_le s h
  unfold rLen at *
  by_cases h1 : (rUint s).2.2 ≠ 0
  · rw [if_pos h1] at h; exact absurd h h1
  · rw [if_neg h1] at h hle ⊢
    by_cases h2 : (rUint s).2.1.length < (rUint s).1
    · rw [if_pos h2] at h; exact absurd h (by simp)
    · rw [if_neg h2] at h hle ⊢
      obtain ⟨h3, h4, _⟩ := rUint_one h8 h
      exact ⟨h3, h4, hle⟩
theorem rRaw_one {s : RS} (h8 : ∀ c ∈ s.1, c < 256) (h : (rRaw s).2.2 = 0) : s.2 = 0 ∧ s.1 = varN (rRaw s).1.length ++ (rRaw s).1 ++ (rRaw s).2.1 := by
  unfold rRaw at *
  by_cases h1 : (rLen s).2.2 ≠ 0
  · rw [if_pos h1] at h; exact absurd h h1
  · rw [if_neg h1] at h ⊢
    obtain ⟨h3, h4, h5⟩ := rLen_one h8 (Decidable.not_not.1 h1)
    refine ⟨h3, ?_⟩
    show s.1 = varN ((rLen s).2.1.take (rLen s).1).length ++ (rLen s).2.1.take (rLen s).1 ++ (rLen s).2.1.drop (rLen s).1
    rw [List.append_assoc, List.take_append_drop, List.length_take, Nat.min_eq_left h5]
    exact h4
theorem rMany_one (n : Nat) : ∀ s : RS, (∀ c ∈ s.1, c < 256) → (s.2 = 0 → (rMany n s).2.2 = 0 → s.1 = zigsN (rMany n s).1 ++ (rMany n s).2.1 ∧ (rMany n s).1.length = n) := by
  induction n with
  | zero => intro s _ _ _; exact ⟨rfl, rfl⟩
  | succ n ih =>
    intro s h8 h0 h
    have hs : (rInt s).2.2 = 0 := by
      by_cases h1 : (rInt s).2.2 = 0
      · exact h1
      · have := rMany_err n h1
        change (rMany n (rInt s).2).2.2 = 0 at h
        rw [this] at h
        exact h
    obtain ⟨_, h2⟩ := rInt_one h8 hs
    obtain ⟨h3, h4⟩ := ih (rInt s).2 (fun c hc => h8 c (by rw [h2]; simp [hc])) hs h
    show s.1 = zigsN ((rInt s).1 :: (rMany n (rInt s).2).1) ++ (rMany n (rInt s).2).2.1 ∧ (((rInt s).1 :: (rMany n (rInt s).2).1)).length = n + 1
    refine ⟨?_, by rw [List.length_cons, h4]⟩
    have e : zigsN ((rInt s).1 :: (rMany n (rInt s).2).1) = varN (zigN (rInt s).1) ++ zigsN (rMany n (rInt s).2).1 := by simp [zigsN]
    rw [e, List.append_assoc, ← h3]
    exact h2
theorem rInts_one {s : RS} (h8 : ∀ c ∈ s.1, c < 256) (h : (rInts s).2.2 = 0) : s.2 = 0 ∧ s.1 = varN (rInts s).1.length ++ zigsN (rInts s).1 ++ (rInts s).2.1 := by
  unfold rInts at *
  by_cases h1 : (rMany (rLen s).1 (rLen s).2).2.2 ≠ 0
  · rw [if_pos h1] at h; exact absurd h h1
  · rw [if_neg h1] at h ⊢
    have hl : (rLen s).2.2 = 0 := by
      by_cases h2 : (rLen s).2.2 = 0
      · exact h2
      · rw [rMany_err _ h2] at h; exact h
    obtain ⟨h3, h4, h5⟩ := rLen_one h8 hl
    obtain ⟨h6, h7⟩ := rMany_one (rLen s).1 (rLen s).2 (fun c hc => h8 c (by rw [h4]; simp [hc])) hl h
    refine ⟨h3, ?_⟩
    rw [h7, List.append_assoc, ← h6]
    exact h4

/-! ### Prefixes -/
theorem rUint_prefix {n : Nat} (hn : n < 18446744073709551616) {k : Nat} (hk : k < (varN n).length) : (rUint ((varN n).take k, 0)).2.2 = 3 ∧ (rUint ((varN n).take k, 0)).1 = 0 := by
  unfold rUint
  rw [if_pos rfl, readVar_prefix n 0 k (by decide) (lt64 hn) (fun h => absurd h (by decide)) hk]
  exact ⟨rfl, rfl⟩
theorem rInt_prefix {n : Int} (hn : -9223372036854775808 ≤ n ∧ n ≤ 9223372036854775807) {k : Nat} (hk : k < (varN (zigN n)).length) : (rInt ((varN (zigN n)).take k, 0)).2.2 = 3 := (rUint_prefix (zigN_lt hn) hk).1
theorem rBool_prefix (b : Bool) {k : Nat} (hk : k < (boolN b).length) : (rBool ((boolN b).take k, 0)).2.2 = 3 := by
  have : k = 0 := by simp [boolN] at hk; exact hk
  subst this
  rfl
theorem rLen_bad {s : RS} (h : (rUint s).2.2 ≠ 0) : rLen s = (0, (rUint s).2) := by unfold rLen; rw [if_pos h]
theorem rLen_more {s : RS} (h : (rUint s).2.2 = 0) (h2 : (rUint s).2.1.length < (rUint s).1) : (rLen s).2.2 = 3 ∧ (rLen s).1 = 0 := by
  unfold rLen; rw [if_neg (fun h1 => h1 h), if_pos h2]; exact ⟨rfl, rfl⟩
/-- A length, and then too little, or not even the length. -/
theorem rLen_prefix {n : Nat} (hn : n < 18446744073709551616) {l : List Nat} {k : Nat} (hk : k < (varN n).length + n) (hl : l.length ≤ n ∨ k < (varN n).length) : (rLen ((varN n ++ l).take k, 0)).2.2 = 3 ∧ (rLen ((varN n ++ l).take k, 0)).1 = 0 := by
  by_cases h : k < (varN n).length
  · have e : (varN n ++ l).take k = (varN n).take k := List.take_append_of_le_length (Nat.le_of_lt h)
    rw [e]
    obtain ⟨h1, h2⟩ := rUint_prefix hn h
    rw [rLen_bad (by rw [h1]; decide)]
    exact ⟨h1, rfl⟩
  · have hl2 : l.length ≤ n := by omega
    have e : (varN n ++ l).take k = varN n ++ l.take (k - (varN n).length) := by rw [List.take_append, List.take_of_length_le (by omega)]
    rw [e]
    have h1 := rUint_round hn (l.take (k - (varN n).length))
    refine rLen_more (by rw [h1]) ?_
    rw [h1]
    show (l.take (k - (varN n).length)).length < n
    rw [List.length_take]
    omega
theorem rRaw_bad {s : RS} (h : (rLen s).2.2 ≠ 0) : rRaw s = ([], (rLen s).2) := by unfold rRaw; rw [if_pos h]
theorem rRaw_prefix {l : List Nat} (hl : l.length < 18446744073709551616) {k : Nat} (hk : k < (varN l.length ++ l).length) : (rRaw ((varN l.length ++ l).take k, 0)).2.2 = 3 := by
  rw [List.length_append] at hk
  obtain ⟨h1, _⟩ := rLen_prefix hl (l := l) hk (.inl (Nat.le_refl _))
  rw [rRaw_bad (by rw [h1]; decide)]
  exact h1
theorem rMany_prefix (l : List Int) (hl : ∀ n ∈ l, -9223372036854775808 ≤ n ∧ n ≤ 9223372036854775807) : ∀ k, k < (zigsN l).length → (rMany l.length ((zigsN l).take k, 0)).2.2 = 3 := by
  induction l with
  | nil => intro k hk; simp [zigsN] at hk
  | cons n l ih =>
    intro k hk
    have e : zigsN (n :: l) = varN (zigN n) ++ zigsN l := by simp [zigsN]
    rw [e] at hk ⊢
    show (rMany l.length (rInt ((varN (zigN n) ++ zigsN l).take k, 0)).2).2.2 = 3
    by_cases h : k < (varN (zigN n)).length
    · rw [List.take_append_of_le_length (Nat.le_of_lt h)]
      have h1 := rInt_prefix (hl n (by simp)) h
      rw [rMany_err _ (by rw [h1]; decide)]
      exact h1
    · rw [List.take_append, List.take_of_length_le (by omega), rInt_round (hl n (by simp))]
      rw [List.length_append] at hk
      exact ih (fun m hm => hl m (by simp [hm])) _ (by omega)
theorem rInts_prefix {l : List Int} (hlen : l.length < 18446744073709551616) (hl : ∀ n ∈ l, -9223372036854775808 ≤ n ∧ n ≤ 9223372036854775807) {k : Nat} (hk : k < (varN l.length ++ zigsN l).length) :
    (rInts ((varN l.length ++ zigsN l).take k, 0)).2.2 = 3 := by
  have key : ∀ s : RS, (rMany (rLen s).1 (rLen s).2).2.2 = 3 → (rInts s).2.2 = 3 := by
    intro s h
    unfold rInts
    rw [if_pos (by rw [h]; decide)]
    exact h
  apply key
  by_cases h : k < (varN l.length).length + l.length ∧ k < (varN l.length).length
  · obtain ⟨h1, h2⟩ := rLen_prefix hlen (l := zigsN l) h.1 (.inr h.2)
    rw [rMany_err _ (by rw [h1]; decide)]
    exact h1
  · have hk0 : ¬ k < (varN l.length).length := fun h0 => h ⟨by omega, h0⟩
    have e : (varN l.length ++ zigsN l).take k = varN l.length ++ (zigsN l).take (k - (varN l.length).length) := by rw [List.take_append, List.take_of_length_le (by omega)]
    rw [e]
    rw [List.length_append] at hk
    by_cases h2 : ((zigsN l).take (k - (varN l.length).length)).length < l.length
    · have h1 := rUint_round hlen ((zigsN l).take (k - (varN l.length).length))
      obtain ⟨h3, _⟩ := rLen_more (s := (varN l.length ++ (zigsN l).take (k - (varN l.length).length), 0)) (by rw [h1]) (by rw [h1]; exact h2)
      rw [rMany_err _ (by rw [h3]; decide)]
      exact h3
    · rw [rLen_round hlen (by omega)]
      exact rMany_prefix l hl _ (by omega)
end Go.Proofs.YtlljcnhcknmoaaaGreat
