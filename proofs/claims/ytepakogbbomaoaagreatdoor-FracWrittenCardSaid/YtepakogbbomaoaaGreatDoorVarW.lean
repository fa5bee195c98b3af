/-
 Plain facts on package wire's encodings: varints, zigzag, the reading of a varint with its errors; one encoding for each number. No program is named here.
-/
import Derived.Below
namespace Go.Proofs.YtepakogbbomaoaaGreatDoor
set_option linter.unusedVariables false
def varN (n : Nat) : List Nat := if n < 128 then [n] else (128 + n % 128) :: varN (n / 128)
 termination_by n
 decreasing_by omega
theorem varN_small {n : Nat} (h : n < 128) : varN n = [n] := by rw [varN, if_pos h]
theorem varN_big {n : Nat} (h : ¬ n < 128) : varN n = (128 + n % 128) :: varN (n / 128) := by rw [varN, if_neg h]
theorem varN_lt (n : Nat) : ∀ c ∈ varN n, c < 256 := by
 induction n using Nat.strongRecOn with
 | _ n ih =>
  intro c hc
  by_cases h : n < 128
  ·rw [varN_small h] at hc
   have : c = n := by simpa using hc
   omega
  ·rw [varN_big h] at hc
   rcases List.mem_cons.1 hc with h1 | h1
   ·omega
   ·exact ih _ (by omega) c h1
theorem varN_pos (n : Nat) : 1 ≤ (varN n).length := by
 by_cases h : n < 128
 ·rw [varN_small h]; simp
 ·rw [varN_big h]; simp
theorem varN_len_le {k n : Nat} (hk : 1 ≤ k) (h : n < 128 ^ k) : (varN n).length ≤ k := by
 induction k generalizing n with
 | zero => omega
 | succ k ih =>
  by_cases hs : n < 128
  ·rw [varN_small hs]; simp
  ·rw [varN_big hs, List.length_cons]
   rcases Nat.eq_zero_or_pos k with rfl | hk1
   ·omega
   ·have := ih hk1 (n := n / 128) (by rw [Nat.pow_succ] at h; exact Nat.div_lt_of_lt_mul (by rw [Nat.mul_comm]; exact h))
    omega
theorem varN_len10 {n : Nat} (h : n < 18446744073709551616) : (varN n).length ≤ 10 :=
 varN_len_le (by decide) (Nat.lt_of_lt_of_le h (by decide))
/-! ### Zigzag -/
/-! ### Reading a varint: an error's number (2: form, 3: more), or the number and what is left -/
inductive Got (α : Type) where
 | err (e : Nat)
 | val (x : α) (rest : List Nat)
def badByte (i c : Nat) : Prop := (i = 9 ∧ 1 < c) ∨ (0 < i ∧ c = 0)
instance (i c : Nat) : Decidable (badByte i c) := by unfold badByte; infer_instance
def readVar : Nat → List Nat → Got Nat
 | _, [] => .err 3
 | i, c :: l => if badByte i c then .err 2 else if c < 128 then .val c l else
  match readVar (i + 1) l with
  | .err e => .err e
  | .val n r => .val (c - 128 + 128 * n) r
theorem readVar_bad {i c : Nat} (l : List Nat) (h : badByte i c) : readVar i (c :: l) = .err 2 := by rw [readVar, if_pos h]
theorem readVar_last {i c : Nat} (l : List Nat) (h : ¬ badByte i c) (hc : c < 128) : readVar i (c :: l) = .val c l := by rw [readVar, if_neg h, if_pos hc]
theorem readVar_more {i c : Nat} (l : List Nat) (h : ¬ badByte i c) (hc : ¬ c < 128) : readVar i (c :: l) = match readVar (i + 1) l with
  | .err e => .err e
  | .val n r => .val (c - 128 + 128 * n) r := by rw [readVar, if_neg h, if_neg hc]
theorem readVar_one (l : List Nat) (hl : ∀ c ∈ l, c < 256) : ∀ i, i ≤ 9 → ∀ n r, readVar i l = .val n r → l = varN n ++ r ∧ n < 2 ^ (64 - 7 * i) ∧ (0 < i → 0 < n) := by
 induction l with
 | nil => intro i _ n r h; cases h
 | cons c l ih =>
  intro i hi n r h
  have hc := hl c (by simp)
  by_cases hb : badByte i c
  ·rw [readVar_bad l hb] at h; cases h
  ·by_cases h128 : c < 128
   ·rw [readVar_last l hb h128] at h
    cases h
    refine ⟨by rw [varN_small h128]; rfl, ?_, fun hp => ?_⟩
    ·by_cases h9 : i = 9
     ·subst h9
      have : ¬ 1 < c := fun h => hb (.inl ⟨rfl, h⟩)
      show c < 2 ^ 1
      omega
     ·have : 2 ^ 8 ≤ 2 ^ (64 - 7 * i) := Nat.pow_le_pow_right (by decide) (by omega)
      omega
    ·rcases Nat.eq_zero_or_pos c with h0 | h0
     ·exact (hb (.inr ⟨hp, h0⟩)).elim
     ·exact h0
   ·have h9 : i ≤ 8 := by
     rcases Nat.lt_or_ge i 9 with h | h
     ·omega
     ·exact (hb (.inl ⟨by omega, by omega⟩)).elim
    rw [readVar_more l hb h128] at h
    cases hr : readVar (i + 1) l with
    | err e => rw [hr] at h; cases h
    | val m r' =>
     rw [hr] at h
     injection h with h1 h2
     obtain ⟨e1, e2, e3⟩ := ih (fun d hd => hl d (by simp [hd])) (i + 1) (by omega) m r' hr
     have hm := e3 (by omega)
     subst h2
     have hn : ¬ n < 128 := by omega
     refine ⟨?_, ?_, fun _ => by omega⟩
     ·rw [varN_big hn, e1, show n / 128 = m by omega, show 128 + n % 128 = c by omega]; rfl
     ·have hp : 2 ^ (64 - 7 * i) = 128 * 2 ^ (64 - 7 * (i + 1)) := by
       rw [show 64 - 7 * i = 7 + (64 - 7 * (i + 1)) by omega, Nat.pow_add]
      rw [hp]
      omega
theorem readVar_round (n : Nat) : ∀ i r, i ≤ 9 → n < 2 ^ (64 - 7 * i) → (0 < i → 0 < n) → readVar i (varN n ++ r) = .val n r := by
 induction n using Nat.strongRecOn with
 | _ n ih =>
  intro i r hi hn hp
  by_cases h : n < 128
  ·rw [varN_small h]
   refine readVar_last r ?_ h
   rintro (⟨h9, h1⟩ | ⟨h0, h1⟩)
   ·subst h9
    have : n < 2 ^ 1 := hn
    omega
   ·have := hp h0; omega
  ·have h8 : i ≤ 8 := by
    rcases Nat.lt_or_ge i 9 with h1 | h1
    ·omega
    ·have : i = 9 := by omega
     subst this
     have : n < 2 ^ 1 := hn
     omega
   have hpw : 2 ^ (64 - 7 * i) = 128 * 2 ^ (64 - 7 * (i + 1)) := by
    rw [show 64 - 7 * i = 7 + (64 - 7 * (i + 1)) by omega, Nat.pow_add]
   rw [varN_big h, List.cons_append, readVar_more _ (by rintro (⟨h9, _⟩ | ⟨_, h0⟩) <;> omega) (by omega),
    ih (n / 128) (by omega) (i + 1) r (by omega) (by omega) (fun _ => by omega)]
   show Got.val (128 + n % 128 - 128 + 128 * (n / 128)) r = _
   rw [show 128 + n % 128 - 128 + 128 * (n / 128) = n by omega]
theorem lt64 {a : Nat} (h : a < 18446744073709551616) : a < 2 ^ (64 - 7 * 0) := Nat.lt_of_lt_of_le h (by decide)
/-! ### A walk along the bytes: what is read, told from the front -/
def shiftGot (acc unit : Nat) : Got Nat → Got Nat
 | .err e => .err e
 | .val n r => .val (acc + unit * n) r
theorem shiftGot_start (g : Got Nat) : shiftGot 0 1 g = g := by
 cases g with
 | err e => rfl
 | val n r => simp [shiftGot]
def onTop (d : Nat) : Got Nat → Got Nat
 | .err e => .err e
 | .val n r => .val (d + 128 * n) r
theorem readVar_top {i c : Nat} (l : List Nat) (h : ¬ badByte i c) (hc : ¬ c < 128) : readVar i (c :: l) = onTop (c - 128) (readVar (i + 1) l) := by
 rw [readVar_more l h hc]
 cases readVar (i + 1) l <;> rfl
theorem shiftGot_top (acc unit d : Nat) (g : Got Nat) : shiftGot acc unit (onTop d g) = shiftGot (acc + unit * d) (unit * 128) g := by
 cases g with
 | err e => rfl
 | val n r =>
  simp only [onTop, shiftGot]
  rw [Nat.mul_add, Nat.mul_assoc, Nat.add_assoc]
theorem readVar_step (acc unit i c : Nat) (l : List Nat) (hb : ¬ badByte i c) (hc : ¬ c < 128) :
  shiftGot acc unit (readVar i (c :: l)) = shiftGot (acc + unit * (c - 128)) (unit * 128) (readVar (i + 1) l) := by
 rw [readVar_top l hb hc, shiftGot_top]
theorem readVar_stop (acc unit i c : Nat) (l : List Nat) (hb : ¬ badByte i c) (hc : c < 128) :
  shiftGot acc unit (readVar i (c :: l)) = .val (acc + unit * c) l := by
 rw [readVar_last l hb hc]; rfl
theorem readVar_fault (acc unit i c : Nat) (l : List Nat) (hb : badByte i c) : shiftGot acc unit (readVar i (c :: l)) = .err 2 := by
 rw [readVar_bad l hb]; rfl
end Go.Proofs.YtepakogbbomaoaaGreatDoor
