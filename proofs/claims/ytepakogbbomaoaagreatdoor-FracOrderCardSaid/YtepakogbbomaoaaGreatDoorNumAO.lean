/-
 Plain facts on digits in base 10000, the least significant first: their value, the digits of a number, comparing, adding, subtracting, multiplying. No program is named here.
-/
import Derived.Below
namespace Go.Proofs.YtepakogbbomaoaaGreatDoor
set_option linter.unusedVariables false
set_option maxRecDepth 100000
def valD : List Nat → Nat
 | [] => 0
 | d :: l => d + 10000 * valD l
def digs (n : Nat) : List Nat := if n = 0 then [] else (n % 10000) :: digs (n / 10000)
 termination_by n
 decreasing_by omega
theorem digs_zero : digs 0 = [] := by rw [digs, if_pos rfl]
theorem digs_pos {n : Nat} (h : n ≠ 0) : digs n = (n % 10000) :: digs (n / 10000) := by rw [digs, if_neg h]
theorem valD_digs (n : Nat) : valD (digs n) = n := by
 induction n using Nat.strongRecOn with
 | _ n ih =>
  by_cases h : n = 0
  ·subst h; rw [digs_zero]; rfl
  ·rw [digs_pos h]
   show n % 10000 + 10000 * valD (digs (n / 10000)) = n
   rw [ih (n / 10000) (by omega)]
   omega
theorem digs_lt (n : Nat) : ∀ c ∈ digs n, c < 10000 := by
 induction n using Nat.strongRecOn with
 | _ n ih =>
  intro c hc
  by_cases h : n = 0
  ·subst h; rw [digs_zero] at hc; simp at hc
  ·rw [digs_pos h] at hc
   rcases List.mem_cons.1 hc with h1 | h1
   ·omega
   ·exact ih _ (by omega) c h1
theorem valD_append (a b : List Nat) : valD (a ++ b) = valD a + 10000 ^ a.length * valD b := by
 induction a with
 | nil => simp [valD]
 | cons d a ih =>
  show d + 10000 * valD (a ++ b) = d + 10000 * valD a + 10000 ^ (a.length + 1) * valD b
  rw [ih, Nat.pow_succ, Nat.mul_add, ← Nat.mul_assoc, Nat.mul_comm 10000 (10000 ^ a.length), Nat.add_assoc]
theorem valD_lt {d : List Nat} (h : ∀ c ∈ d, c < 10000) : valD d < 10000 ^ d.length := by
 induction d with
 | nil => simp [valD]
 | cons c d ih =>
  have h1 := ih (fun x hx => h x (by simp [hx]))
  have h2 := h c (by simp)
  show c + 10000 * valD d < 10000 ^ (d.length + 1)
  rw [Nat.pow_succ]
  omega
theorem valD_zeros (n : Nat) : valD (List.replicate n 0) = 0 := by
 induction n with
 | zero => rfl
 | succ n ih => rw [List.replicate_succ]; show 0 + 10000 * valD _ = 0; rw [ih]
theorem valD_snoc (a : List Nat) (c : Nat) : valD (a ++ [c]) = valD a + 10000 ^ a.length * c := by
 rw [valD_append]; show _ + _ * (c + 10000 * 0) = _; simp
theorem valD_take {d : List Nat} {k : Nat} (h : k < d.length) : valD (d.take (k + 1)) = valD (d.take k) + 10000 ^ k * d[k] := by
 rw [List.take_succ_eq_append_getElem h, valD_snoc, List.length_take, Nat.min_eq_left (by omega)]
theorem pow_pos4 (k : Nat) : 0 < 10000 ^ k := Nat.pow_pos (by decide)
theorem digs_of {d : List Nat} (h : ∀ c ∈ d, c < 10000) (hl : ∀ hne : d ≠ [], d.getLast hne ≠ 0) : digs (valD d) = d := by
 induction d with
 | nil => exact digs_zero
 | cons c d ih =>
  have h1 : digs (valD d) = d := by
   refine ih (fun x hx => h x (by simp [hx])) (fun hne => ?_)
   have := hl (by simp)
   rwa [List.getLast_cons hne] at this
  have hc := h c (by simp)
  have hne : valD (c :: d) ≠ 0 := by
   intro e
   have e1 : c + 10000 * valD d = 0 := e
   have hd : valD d = 0 := by omega
   rw [hd, digs_zero] at h1
   subst h1
   exact hl (by simp) (show c = 0 by omega)
  rw [digs_pos hne]
  have e1 : valD (c :: d) = c + 10000 * valD d := rfl
  rw [e1, show (c + 10000 * valD d) % 10000 = c by omega, show (c + 10000 * valD d) / 10000 = valD d by omega, h1]
theorem digs_last {n : Nat} (hne : digs n ≠ []) : (digs n).getLast hne ≠ 0 := by
 induction n using Nat.strongRecOn with
 | _ n ih =>
  by_cases h : n = 0
  ·subst h; exact absurd digs_zero hne
  ·by_cases h2 : digs (n / 10000) = []
   ·have h3 : n / 10000 = 0 := by have := valD_digs (n / 10000); rw [h2] at this; exact this.symm
    have e : digs n = [n % 10000] := by rw [digs_pos h, h2]
    simp only [e, List.getLast_singleton]
    omega
   ·have := ih (n / 10000) (by omega) h2
    have e : digs n = (n % 10000) :: digs (n / 10000) := digs_pos h
    simp only [e]
    rw [List.getLast_cons h2]
    exact this
theorem digs_len_pos {n : Nat} (h : n ≠ 0) : 1 ≤ (digs n).length := by rw [digs_pos h]; simp
theorem digs_len_lt (n : Nat) : n < 10000 ^ (digs n).length := by
 have := valD_lt (digs_lt n)
 rwa [valD_digs] at this
theorem digs_len_ge {n : Nat} (h : n ≠ 0) : 10000 ^ ((digs n).length - 1) ≤ n := by
 induction n using Nat.strongRecOn with
 | _ n ih =>
  rw [digs_pos h, List.length_cons, Nat.add_sub_cancel]
  by_cases h2 : n / 10000 = 0
  ·rw [h2, digs_zero]; simp; omega
  ·have h3 := ih (n / 10000) (by omega) h2
   have h4 := digs_len_pos h2
   have e : (digs (n / 10000)).length = ((digs (n / 10000)).length - 1) + 1 := by omega
   rw [e, Nat.pow_succ]
   generalize 10000 ^ ((digs (n / 10000)).length - 1) = q at *
   omega
theorem digs_len_le {n k : Nat} (h : n < 10000 ^ k) : (digs n).length ≤ k := by
 by_cases h0 : n = 0
 ·subst h0; rw [digs_zero]; exact Nat.zero_le _
 ·have h1 := digs_len_ge h0
  rcases Nat.lt_or_ge k (digs n).length with h2 | h2
  ·have h3 : 10000 ^ k ≤ 10000 ^ ((digs n).length - 1) := Nat.pow_le_pow_right (by decide) (by omega)
   omega
  ·exact h2
/-! ### Comparing -/
def cmpN (a b : Nat) : Int := if a < b then -1 else if b < a then 1 else 0
theorem cmp_len_lt {a b : Nat} (h : (digs a).length < (digs b).length) : cmpN a b = -1 := by
 have hb : b ≠ 0 := fun e => by subst e; rw [digs_zero] at h; simp at h
 have h1 := digs_len_lt a
 have h2 := digs_len_ge hb
 have h3 : 10000 ^ (digs a).length ≤ 10000 ^ ((digs b).length - 1) := Nat.pow_le_pow_right (by decide) (by omega)
 unfold cmpN; rw [if_pos (by omega)]
theorem cmp_len_gt {a b : Nat} (h : (digs b).length < (digs a).length) : cmpN a b = 1 := by
 have ha : a ≠ 0 := fun e => by subst e; rw [digs_zero] at h; simp at h
 have h1 := digs_len_lt b
 have h2 := digs_len_ge ha
 have h3 : 10000 ^ (digs b).length ≤ 10000 ^ ((digs a).length - 1) := Nat.pow_le_pow_right (by decide) (by omega)
 unfold cmpN; rw [if_neg (by omega), if_pos (by omega)]
theorem valD_split (d : List Nat) (k : Nat) : valD d = valD (d.take k) + 10000 ^ (d.take k).length * valD (d.drop k) := by
 rw [← valD_append, List.take_append_drop]
theorem val_lt_at {x y : List Nat} (hx : ∀ c ∈ x, c < 10000) (hl : x.length = y.length) {i : Nat} (hi : i < x.length) (he : x.drop (i + 1) = y.drop (i + 1)) (h : x[i] < y[i]'(by omega)) : valD x < valD y := by
 have hiy : i < y.length := by omega
 rw [valD_split x (i + 1), valD_split y (i + 1), valD_take hi, valD_take hiy, he]
 have e1 : (x.take (i + 1)).length = i + 1 := by rw [List.length_take]; omega
 have e2 : (y.take (i + 1)).length = i + 1 := by rw [List.length_take]; omega
 rw [e1, e2]
 have h1 : valD (x.take i) < 10000 ^ i := by
  have := valD_lt (d := x.take i) (fun c hc => hx c (List.mem_of_mem_take hc))
  rwa [List.length_take, Nat.min_eq_left (by omega)] at this
 have h2 : 10000 ^ i * (x[i] + 1) ≤ 10000 ^ i * y[i] := Nat.mul_le_mul_left _ h
 rw [Nat.mul_add, Nat.mul_one] at h2
 omega
/-! ### Adding -/
def atD (d : List Nat) (i : Nat) : Nat := d[i]?.getD 0
theorem atD_lt {d : List Nat} (h : ∀ c ∈ d, c < 10000) (i : Nat) : atD d i < 10000 := by
 unfold atD
 rcases Nat.lt_or_ge i d.length with hi | hi
 ·rw [List.getElem?_eq_getElem hi]; exact h _ (List.getElem_mem hi)
 ·rw [List.getElem?_eq_none hi]; decide
theorem valD_take_at (d : List Nat) (i : Nat) : valD (d.take (i + 1)) = valD (d.take i) + 10000 ^ i * atD d i := by
 unfold atD
 rcases Nat.lt_or_ge i d.length with hi | hi
 ·rw [valD_take hi, List.getElem?_eq_getElem hi]; rfl
 ·rw [List.getElem?_eq_none hi, List.take_of_length_le (by omega), List.take_of_length_le hi]; simp
theorem add_step {out a b : List Nat} {i carry : Nat} (ho : out.length = i) (h : valD out + 10000 ^ i * carry = valD (a.take i) + valD (b.take i)) :
  valD (out ++ [(atD a i + atD b i + carry) % 10000]) + 10000 ^ (i + 1) * ((atD a i + atD b i + carry) / 10000) = valD (a.take (i + 1)) + valD (b.take (i + 1)) := by
 rw [valD_snoc, valD_take_at, valD_take_at, ho, Nat.pow_succ]
 generalize hv : atD a i + atD b i + carry = v
 have e : 10000 ^ i * (v % 10000) + 10000 ^ i * 10000 * (v / 10000) = 10000 ^ i * v := by
  rw [Nat.mul_assoc, ← Nat.mul_add, Nat.mod_add_div]
 have e2 : 10000 ^ i * v = 10000 ^ i * atD a i + 10000 ^ i * atD b i + 10000 ^ i * carry := by rw [← hv, Nat.mul_add, Nat.mul_add]
 generalize 10000 ^ i * (v % 10000) = p1 at *
 generalize 10000 ^ i * 10000 * (v / 10000) = p2 at *
 omega
/-! ### Subtracting -/
theorem sub_step {out a b : List Nat} {i borrow : Nat} {v : Nat} {borrow' : Nat} (ho : out.length = i) (h : valD out + valD (b.take i) = valD (a.take i) + 10000 ^ i * borrow) (hv : v + atD b i + borrow = atD a i + 10000 * borrow') :
  valD (out ++ [v]) + valD (b.take (i + 1)) = valD (a.take (i + 1)) + 10000 ^ (i + 1) * borrow' := by
 rw [valD_snoc, valD_take_at, valD_take_at, ho, Nat.pow_succ]
 have e := congrArg (fun t => 10000 ^ i * t) hv
 simp only [Nat.mul_add, ← Nat.mul_assoc] at e
 generalize 10000 ^ i * 10000 * borrow' = p at *
 omega
theorem sub_end {out a b : List Nat} {borrow : Nat} (hod : ∀ c ∈ out, c < 10000) (hol : out.length = a.length) (hb1 : borrow ≤ 1) (ha : ∀ c ∈ a, c < 10000) (h : valD out + valD (b.take a.length) = valD a + 10000 ^ a.length * borrow) (hle : valD b ≤ valD a) :
  valD out = valD a - valD b := by
 have h1 := valD_lt hod
 rw [hol] at h1
 have h2 := valD_lt ha
 have h3 := valD_split b a.length
 have hz : valD (b.drop a.length) = 0 ∨ (b.take a.length).length = a.length := by
  rcases Nat.lt_or_ge b.length a.length with hb | hb
  ·left; rw [List.drop_of_length_le (by omega)]; rfl
  ·right; rw [List.length_take]; omega
 have hz2 : valD (b.drop a.length) = 0 := by
  rcases hz with hz | hz
  ·exact hz
  ·rw [hz] at h3
   rcases Nat.eq_zero_or_pos (valD (b.drop a.length)) with h4 | h4
   ·exact h4
   ·have : 10000 ^ a.length * 1 ≤ 10000 ^ a.length * valD (b.drop a.length) := Nat.mul_le_mul_left _ h4
    omega
 rw [hz2, Nat.mul_zero, Nat.add_zero] at h3
 rw [← h3] at h
 rcases (by omega : borrow = 0 ∨ borrow = 1) with hb | hb
 ·subst hb; simp at h; omega
 ·subst hb; simp at h; omega
end Go.Proofs.YtepakogbbomaoaaGreatDoor
