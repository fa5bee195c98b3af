/-
  Plain facts on package wire's encodings: varints, zigzag, the reading of a varint with its errors; one encoding for each number. No program is named here.
-/
import Derived.Below
namespace Go.Proofs.YtjoablphojkimaaGreatDoor
set_option linter.unusedVariables false

/-- The varint of a number. -/
def varN (n : Nat) : List Nat := if n < 128 then [n] else (128 + n % 128) :: varN (n / 128)
  termination_by n
  decreasing_by omega

theorem varN_small {n : Nat} (h : n < 128) : varN n = [n] := by rw [varN, if_pos h]
theorem varN_big {n : Nat} (h : ¬ n < 128) : varN n = (128 + n % 128) :: varN (n / 128) := by rw [varN, if_neg h]

theorem varN_lt (n : Nat) : ∀ c ∈ varN n, c < 256 := by
  induction n using Nat.strongRecOn with
  | _ n ih =>
    intro c hc
    by_cases h : n < 128
    · rw [varN_small h] at hc
      have : c = n := by simpa using hc
      omega
    · rw [varN_big h] at hc
      rcases List.mem_cons.1 hc with h1 | h1
      · omega
      · exact ih _ (by omega) c h1

theorem varN_pos (n : Nat) : 1 ≤ (varN n).length := by
  by_cases h : n < 128
  · rw [varN_small h]; simp
  · rw [varN_big h]; simp

/-- A number below 2^(7k) has a varint of at most k bytes. -/
theorem varN_len_le {k n : Nat} (hk : 1 ≤ k) (h : n < 128 ^ k) : (varN n).length ≤ k := by
  induction k generalizing n with
  | zero => omega
  | succ k ih =>
    by_cases hs : n < 128
    · rw [varN_small hs]; simp
    · rw [varN_big hs, List.length_cons]
      rcases Nat.eq_zero_or_pos k with rfl | hk1
      · omega
      · have := ih hk1 (n := n / 128) (by rw [Nat.pow_succ] at h; exact Nat.div_lt_of_lt_mul (by rw [Nat.mul_comm]; exact h))
        omega

theorem varN_len10 {n : Nat} (h : n < 18446744073709551616) : (varN n).length ≤ 10 :=
  varN_len_le (by decide) (Nat.lt_of_lt_of_le h (by decide))

/-! ### Zigzag -/
def zigN (n : Int) : Nat := if n < 0 then (2 * (-(n + 1)) + 1).toNat else (2 * n).toNat
def zagI (z : Nat) : Int := if z % 2 = 1 then -((z / 2 : Nat) : Int) - 1 else ((z / 2 : Nat) : Int)

theorem zag_zig (n : Int) : zagI (zigN n) = n := by
  unfold zagI zigN
  split <;> split <;> omega
theorem zig_zag (z : Nat) : zigN (zagI z) = z := by
  unfold zagI zigN
  split <;> split <;> omega
theorem zigN_lt {n : Int} (h : -9223372036854775808 ≤ n ∧ n ≤ 9223372036854775807) : zigN n < 18446744073709551616 := by
  unfold zigN; split <;> omega
theorem zagI_range {z : Nat} (h : z < 18446744073709551616) : -9223372036854775808 ≤ zagI z ∧ zagI z ≤ 9223372036854775807 := by
  unfold zagI; split <;> omega

/-! ### Reading a varint: an error's number (2: form, 3: more), or the number and what is left -/
inductive Got (α : Type) where
  | err (e : Nat)
  | val (x : α) (rest : List Nat)

/-- Whether the byte c, examined as number i, is a fault of form. -/
def badByte (i c : Nat) : Prop := (i = 9 ∧ 1 < c) ∨ (0 < i ∧ c = 0)
instance (i c : Nat) : Decidable (badByte i c) := by unfold badByte; infer_instance

def readVar : Nat → List Nat → Got Nat
  | _, [] => .err 3
  | i, c :: l => if badByte i c then .err 2 else if c < 128 then .val c l else
    match readVar (i + 1) l with
    | .err e => .err e
    | .val n r => .val (c - 128 + 128 * n) r

theorem readVar_nil (i : Nat) : readVar i [] = .err 3 := rfl
theorem readVar_bad {i c : Nat} (l : List Nat) (h : badByte i c) : readVar i (c :: l) = .err 2 := by rw [readVar, if_pos h]
theorem readVar_last {i c : Nat} (l : List Nat) (h : ¬ badByte i c) (hc : c < 128) : readVar i (c :: l) = .val c l := by rw [readVar, if_neg h, if_pos hc]
theorem readVar_more {i c : Nat} (l : List Nat) (h : ¬ badByte i c) (hc : ¬ c < 128) : readVar i (c :: l) = match readVar (i + 1) l with
    | .err e => .err e
    | .val n r => .val (c - 128 + 128 * n) r := by rw [readVar, if_neg h, if_neg hc]

/-- An error's number is never 0. -/
theorem readVar_err_ne (i : Nat) (l : List Nat) : readVar i l ≠ .err 0 := by
  induction l generalizing i with
  | nil => intro h; cases h
  | cons c l ih =>
    intro h
    by_cases hb : badByte i c
    · rw [readVar_bad l hb] at h; cases h
    · by_cases hc : c < 128
      · rw [readVar_last l hb hc] at h; cases h
      · rw [readVar_more l hb hc] at h
        cases hr : readVar (i + 1) l with
        | err e => rw [hr] at h; injection h with h; subst h; exact ih _ hr
        | val n r => rw [hr] at h; cases h

/-- One encoding: what is read is the varint of the number. -/
theorem readVar_one (l : List Nat) (hl : ∀ c ∈ l, c < 256) : ∀ i, i ≤ 9 → ∀ n r, readVar i l = .val n r → l = varN n ++ r ∧ n < 2 ^ (64 - 7 * i) ∧ (0 < i → 0 < n) := by
  induction l with
  | nil => intro i _ n r h; cases h
  | cons c l ih =>
    intro i hi n r h
    have hc := hl c (by simp)
    by_cases hb : badByte i c
    · rw [readVar_bad l hb] at h; cases h
    · by_cases h128 : c < 128
      · rw [readVar_last l hb h128] at h
        cases h
        refine ⟨by rw [varN_small h128]; rfl, ?_, fun hp => ?_⟩
        · by_cases h9 : i = 9
          · subst h9
            have : ¬ 1 < c := fun h => hb (.inl ⟨rfl, h⟩)
            show c < 2 ^ 1
            omega
          · have : 2 ^ 8 ≤ 2 ^ (64 - 7 * i) := Nat.pow_le_pow_right (by decide) (by omega)
            omega
        · rcases Nat.eq_zero_or_pos c with h0 | h0
          · exact (hb (.inr ⟨hp, h0⟩)).elim
          · exact h0
      · have h9 : i ≤ 8 := by
          rcases Nat.lt_or_ge i 9 with h | h
          · omega
          · exact (hb (.inl ⟨by omega, by omega⟩)).elim
        rw [readVar_more l hb h128] at h
        cases hr : readVar (i + 1) l with
        | err e => rw [hr] at h; cases h
        | val m r' =>
          rw [hr] at h
          injection h with h1 h2
          obtain ⟨e1, e2, e3⟩ := ih (fun d hd => hl d (by simp [hd])) (i + 1) (by omega) m r' hr
          have hm := e3 (by omega)
          subst h2
          have hn : ¬ n < 128 := by omega
          refine ⟨?_, ?_, fun _ => by omega⟩
          · rw [varN_big hn, e1, show n / 128 = m by omega, show 128 + n % 128 = c by omega]; rfl
          · have hp : 2 ^ (64 - 7 * i) = 128 * 2 ^ (64 - 7 * (i + 1)) := by
              rw [show 64 - 7 * i = 7 + (64 - 7 * (i + 1)) by omega, Nat.pow_add]
            rw [hp]
            omega

/-- Round trip. -/
theorem readVar_round (n : Nat) : ∀ i r, i ≤ 9 → n < 2 ^ (64 - 7 * i) → (0 < i → 0 < n) → readVar i (varN n ++ r) = .val n r := by
  induction n using Nat.strongRecOn with
  | _ n ih =>
    intro i r hi hn hp
    by_cases h : n < 128
    · rw [varN_small h]
      refine readVar_last r ?_ h
      rintro (⟨h9, h1⟩ | ⟨h0, h1⟩)
      · subst h9
        have : n < 2 ^ 1 := hn
        omega
      · have := hp h0; omega
    · have h8 : i ≤ 8 := by
        rcases Nat.lt_or_ge i 9 with h1 | h1
        · omega
        · have : i = 9 := by omega
          subst this
          have : n < 2 ^ 1 := hn
          omega
      have hpw : 2 ^ (64 - 7 * i) = 128 * 2 ^ (64 - 7 * (i + 1)) := by
        rw [show 64 - 7 * i = 7 + (64 - 7 * (i + 1)) by omega, Nat.pow_add]
      rw [varN_big h, List.cons_append, readVar_more _ (by rintro (⟨h9, _⟩ | ⟨_, h0⟩) <;> omega) (by omega),
        ih (n / 128) (by omega) (i + 1) r (by omega) (by omega) (fun _ => by omega)]
      show Got.val (128 + n % 128 - 128 + 128 * (n / 128)) r = _
      rw [show 128 + n % 128 - 128 + 128 * (n / 128) = n by omega]

/-- A proper prefix of a varint: more is needed. -/
theorem readVar_prefix (n : Nat) : ∀ i k, i ≤ 9 → n < 2 ^ (64 - 7 * i) → (0 < i → 0 < n) → k < (varN n).length → readVar i ((varN n).take k) = .err 3 := by
  induction n using Nat.strongRecOn with
  | _ n ih =>
    intro i k hi hn hp hk
    cases k with
    | zero => rw [List.take_zero]; rfl
    | succ k =>
      by_cases h : n < 128
      · rw [varN_small h] at hk; simp at hk
      · have h8 : i ≤ 8 := by
          rcases Nat.lt_or_ge i 9 with h1 | h1
          · omega
          · have : i = 9 := by omega
            subst this
            have : n < 2 ^ 1 := hn
            omega
        have hpw : 2 ^ (64 - 7 * i) = 128 * 2 ^ (64 - 7 * (i + 1)) := by
          rw [show 64 - 7 * i = 7 + (64 - 7 * (i + 1)) by omega, Nat.pow_add]
        rw [varN_big h, List.length_cons] at hk
        rw [varN_big h, List.take_succ_cons, readVar_more _ (by rintro (⟨h9, _⟩ | ⟨_, h0⟩) <;> omega) (by omega),
          ih (n / 128) (by omega) (i + 1) k (by omega) (by omega) (fun _ => by omega) (by omega)]

theorem lt64 {a : Nat} (h : a < 18446744073709551616) : a < 2 ^ (64 - 7 * 0) := Nat.lt_of_lt_of_le h (by decide)

/-- Two varints are equal just where the numbers are. -/
theorem varN_inj {a b : Nat} (ha : a < 18446744073709551616) (hb : b < 18446744073709551616) (h : varN a = varN b) : a = b := by
  have h1 := readVar_round a 0 [] (by decide) (lt64 ha) (fun h => absurd h (by decide))
  have h2 := readVar_round b 0 [] (by decide) (lt64 hb) (fun h => absurd h (by decide))
  rw [h, h2] at h1
  injection h1 with e _
  exact e.symm

/-! ### A walk along the bytes: what is read, told from the front -/
def shiftGot (acc unit : Nat) : Got Nat → Got Nat
  | .err e => .err e
  | .val n r => .val (acc + unit * n) r

theorem shiftGot_start (g : Got Nat) : shiftGot 0 1 g = g := by
  cases g with
  | err e => rfl
  | val n r => simp [shiftGot]

/-- The rest of a number behind a low group. -/
def onTop (d : Nat) : Got Nat → Got Nat
  | .err e => .err e
  | .val n r => .val (d + 128 * n) r
theorem readVar_top {i c : Nat} (l : List Nat) (h : ¬ badByte i c) (hc : ¬ c < 128) : readVar i (c :: l) = onTop (c - 128) (readVar (i + 1) l) := by
  rw [readVar_more l h hc]
  cases readVar (i + 1) l <;> rfl
theorem shiftGot_top (acc unit d : Nat) (g : Got Nat) : shiftGot acc unit (onTop d g) = shiftGot (acc + unit * d) (unit * 128) g := by
  cases g with
  | err e => rfl
  | val n r =>
    simp only [onTop, shiftGot]
    rw [Nat.mul_add, Nat.mul_assoc, Nat.add_assoc]
theorem readVar_step (acc unit i c : Nat) (l : List Nat) (hb : ¬ badByte i c) (hc : ¬ c < 128) :
    shiftGot acc unit (readVar i (c :: l)) = shiftGot (acc + unit * (c - 128)) (unit * 128) (readVar (i + 1) l) := by
  rw [readVar_top l hb hc, shiftGot_top]

theorem readVar_stop (acc unit i c : Nat) (l : List Nat) (hb : ¬ badByte i c) (hc : c < 128) :
    shiftGot acc unit (readVar i (c :: l)) = .val (acc + unit * c) l := by
  rw [readVar_last l hb hc]; rfl
theorem readVar_fault (acc unit i c : Nat) (l : List Nat) (hb : badByte i c) : shiftGot acc unit (readVar i (c :: l)) = .err 2 := by
  rw [readVar_bad l hb]; rfl
theorem readVar_end (acc unit i : Nat) : shiftGot acc unit (readVar i []) = .err 3 := rfl
end Go.Proofs.YtjoablphojkimaaGreatDoor
