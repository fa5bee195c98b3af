/-
 Plain facts on words: digits in base 2^32, the least significant first. No program is named here.
 Plain facts for a long division of words: the estimate of a digit, one digit more. No program is named here.
 Plain facts for Lehmer's algorithm: what known steps of Euclid's algorithm leave. No program is named here.
 Plain facts on decimal digits, the least significant first. No program is named here.
-/
import Derived.Below
import Derived.Test.YtepakogbbomaoaaGreatDoorNumAO
namespace Go.Proofs.YtepakogbbomaoaaGreatDoor
set_option linter.unusedVariables false
set_option maxRecDepth 100000
def valDW : List Nat → Nat
 | [] => 0
 | d :: l => d + 4294967296 * valDW l
def digsW (n : Nat) : List Nat := if n = 0 then [] else (n % 4294967296) :: digsW (n / 4294967296)
 termination_by n
 decreasing_by omega
theorem digs_zeroW : digsW 0 = [] := by rw [digsW, if_pos rfl]
theorem digs_posW {n : Nat} (h : n ≠ 0) : digsW n = (n % 4294967296) :: digsW (n / 4294967296) := by rw [digsW, if_neg h]
theorem valD_digsW (n : Nat) : valDW (digsW n) = n := by
 induction n using Nat.strongRecOn with
 | _ n ih =>
  by_cases h : n = 0
  ·subst h; rw [digs_zeroW]; rfl
  ·rw [digs_posW h]
   show n % 4294967296 + 4294967296 * valDW (digsW (n / 4294967296)) = n
   rw [ih (n / 4294967296) (by omega)]
   omega
theorem digs_ltW (n : Nat) : ∀ c ∈ digsW n, c < 4294967296 := by
 induction n using Nat.strongRecOn with
 | _ n ih =>
  intro c hc
  by_cases h : n = 0
  ·subst h; rw [digs_zeroW] at hc; simp at hc
  ·rw [digs_posW h] at hc
   rcases List.mem_cons.1 hc with h1 | h1
   ·omega
   ·exact ih _ (by omega) c h1
theorem valD_appendW (a b : List Nat) : valDW (a ++ b) = valDW a + 4294967296 ^ a.length * valDW b := by
 induction a with
 | nil => simp [valDW]
 | cons d a ih =>
  show d + 4294967296 * valDW (a ++ b) = d + 4294967296 * valDW a + 4294967296 ^ (a.length + 1) * valDW b
  rw [ih, Nat.pow_succ, Nat.mul_add, ← Nat.mul_assoc, Nat.mul_comm 4294967296 (4294967296 ^ a.length), Nat.add_assoc]
theorem valD_ltW {d : List Nat} (h : ∀ c ∈ d, c < 4294967296) : valDW d < 4294967296 ^ d.length := by
 induction d with
 | nil => simp [valDW]
 | cons c d ih =>
  have h1 := ih (fun x hx => h x (by simp [hx]))
  have h2 := h c (by simp)
  show c + 4294967296 * valDW d < 4294967296 ^ (d.length + 1)
  rw [Nat.pow_succ]
  omega
theorem valD_zerosW (n : Nat) : valDW (List.replicate n 0) = 0 := by
 induction n with
 | zero => rfl
 | succ n ih => rw [List.replicate_succ]; show 0 + 4294967296 * valDW _ = 0; rw [ih]
theorem valD_snocW (a : List Nat) (c : Nat) : valDW (a ++ [c]) = valDW a + 4294967296 ^ a.length * c := by
 rw [valD_appendW]; show _ + _ * (c + 4294967296 * 0) = _; simp
theorem valD_takeW {d : List Nat} {k : Nat} (h : k < d.length) : valDW (d.take (k + 1)) = valDW (d.take k) + 4294967296 ^ k * d[k] := by
 rw [List.take_succ_eq_append_getElem h, valD_snocW, List.length_take, Nat.min_eq_left (by omega)]
theorem pow_pos4W (k : Nat) : 0 < 4294967296 ^ k := Nat.pow_pos (by decide)
theorem digs_ofW {d : List Nat} (h : ∀ c ∈ d, c < 4294967296) (hl : ∀ hne : d ≠ [], d.getLast hne ≠ 0) : digsW (valDW d) = d := by
 induction d with
 | nil => exact digs_zeroW
 | cons c d ih =>
  have h1 : digsW (valDW d) = d := by
   refine ih (fun x hx => h x (by simp [hx])) (fun hne => ?_)
   have := hl (by simp)
   rwa [List.getLast_cons hne] at this
  have hc := h c (by simp)
  have hne : valDW (c :: d) ≠ 0 := by
   intro e
   have e1 : c + 4294967296 * valDW d = 0 := e
   have hd : valDW d = 0 := by omega
   rw [hd, digs_zeroW] at h1
   subst h1
   exact hl (by simp) (show c = 0 by omega)
  rw [digs_posW hne]
  have e1 : valDW (c :: d) = c + 4294967296 * valDW d := rfl
  rw [e1, show (c + 4294967296 * valDW d) % 4294967296 = c by omega, show (c + 4294967296 * valDW d) / 4294967296 = valDW d by omega, h1]
theorem digs_len_posW {n : Nat} (h : n ≠ 0) : 1 ≤ (digsW n).length := by rw [digs_posW h]; simp
theorem digs_nilW {n : Nat} : digsW n = [] ↔ n = 0 := by
 constructor
 ·intro h; have := valD_digsW n; rw [h] at this; exact this.symm
 ·intro h; subst h; exact digs_zeroW
theorem digs_len_ltW (n : Nat) : n < 4294967296 ^ (digsW n).length := by
 have := valD_ltW (digs_ltW n)
 rwa [valD_digsW] at this
theorem digs_len_geW {n : Nat} (h : n ≠ 0) : 4294967296 ^ ((digsW n).length - 1) ≤ n := by
 induction n using Nat.strongRecOn with
 | _ n ih =>
  rw [digs_posW h, List.length_cons, Nat.add_sub_cancel]
  by_cases h2 : n / 4294967296 = 0
  ·rw [h2, digs_zeroW]; simp; omega
  ·have h3 := ih (n / 4294967296) (by omega) h2
   have h4 := digs_len_posW h2
   have e : (digsW (n / 4294967296)).length = ((digsW (n / 4294967296)).length - 1) + 1 := by omega
   rw [e, Nat.pow_succ]
   generalize 4294967296 ^ ((digsW (n / 4294967296)).length - 1) = q at *
   omega
theorem digs_len_leW {n k : Nat} (h : n < 4294967296 ^ k) : (digsW n).length ≤ k := by
 by_cases h0 : n = 0
 ·subst h0; rw [digs_zeroW]; exact Nat.zero_le _
 ·have h1 := digs_len_geW h0
  rcases Nat.lt_or_ge k (digsW n).length with h2 | h2
  ·have h3 : 4294967296 ^ k ≤ 4294967296 ^ ((digsW n).length - 1) := Nat.pow_le_pow_right (by decide) (by omega)
   omega
  ·exact h2
/-! ### Comparing -/
theorem cmp_len_ltW {a b : Nat} (h : (digsW a).length < (digsW b).length) : cmpN a b = -1 := by
 have hb : b ≠ 0 := fun e => by subst e; rw [digs_zeroW] at h; simp at h
 have h1 := digs_len_ltW a
 have h2 := digs_len_geW hb
 have h3 : 4294967296 ^ (digsW a).length ≤ 4294967296 ^ ((digsW b).length - 1) := Nat.pow_le_pow_right (by decide) (by omega)
 unfold cmpN; rw [if_pos (by omega)]
theorem cmp_len_gtW {a b : Nat} (h : (digsW b).length < (digsW a).length) : cmpN a b = 1 := by
 have ha : a ≠ 0 := fun e => by subst e; rw [digs_zeroW] at h; simp at h
 have h1 := digs_len_ltW b
 have h2 := digs_len_geW ha
 have h3 : 4294967296 ^ (digsW b).length ≤ 4294967296 ^ ((digsW a).length - 1) := Nat.pow_le_pow_right (by decide) (by omega)
 unfold cmpN; rw [if_neg (by omega), if_pos (by omega)]
theorem valD_splitW (d : List Nat) (k : Nat) : valDW d = valDW (d.take k) + 4294967296 ^ (d.take k).length * valDW (d.drop k) := by
 rw [← valD_appendW, List.take_append_drop]
theorem val_lt_atW {x y : List Nat} (hx : ∀ c ∈ x, c < 4294967296) (hl : x.length = y.length) {i : Nat} (hi : i < x.length) (he : x.drop (i + 1) = y.drop (i + 1)) (h : x[i] < y[i]'(by omega)) : valDW x < valDW y := by
 have hiy : i < y.length := by omega
 rw [valD_splitW x (i + 1), valD_splitW y (i + 1), valD_takeW hi, valD_takeW hiy, he]
 have e1 : (x.take (i + 1)).length = i + 1 := by rw [List.length_take]; omega
 have e2 : (y.take (i + 1)).length = i + 1 := by rw [List.length_take]; omega
 rw [e1, e2]
 have h1 : valDW (x.take i) < 4294967296 ^ i := by
  have := valD_ltW (d := x.take i) (fun c hc => hx c (List.mem_of_mem_take hc))
  rwa [List.length_take, Nat.min_eq_left (by omega)] at this
 have h2 : 4294967296 ^ i * (x[i] + 1) ≤ 4294967296 ^ i * y[i] := Nat.mul_le_mul_left _ h
 rw [Nat.mul_add, Nat.mul_one] at h2
 omega
/-! ### Adding -/
def atDW (d : List Nat) (i : Nat) : Nat := d[i]?.getD 0
theorem atD_ltW {d : List Nat} (h : ∀ c ∈ d, c < 4294967296) (i : Nat) : atDW d i < 4294967296 := by
 unfold atDW
 rcases Nat.lt_or_ge i d.length with hi | hi
 ·rw [List.getElem?_eq_getElem hi]; exact h _ (List.getElem_mem hi)
 ·rw [List.getElem?_eq_none hi]; decide
theorem valD_take_atW (d : List Nat) (i : Nat) : valDW (d.take (i + 1)) = valDW (d.take i) + 4294967296 ^ i * atDW d i := by
 unfold atDW
 rcases Nat.lt_or_ge i d.length with hi | hi
 ·rw [valD_takeW hi, List.getElem?_eq_getElem hi]; rfl
 ·rw [List.getElem?_eq_none hi, List.take_of_length_le (by omega), List.take_of_length_le hi]; simp
/-! ### Subtracting -/
theorem val_dropW {d : List Nat} (h : ∀ c ∈ d, c < 4294967296) (k : Nat) : valDW (d.drop k) = valDW d / 4294967296 ^ k := by
 have h1 := valD_splitW d k
 have hp := pow_pos4W k
 have h2 : valDW (d.take k) < 4294967296 ^ k := by
  have := valD_ltW (d := d.take k) (fun c hc => h c (List.mem_of_mem_take hc))
  exact Nat.lt_of_lt_of_le this (Nat.pow_le_pow_right (by decide) (by rw [List.length_take]; omega))
 rcases Nat.lt_or_ge d.length k with hk | hk
 ·rw [List.drop_of_length_le (by omega), List.take_of_length_le (by omega)] at *
  exact (Nat.div_eq_of_lt h2).symm
 ·have e : (d.take k).length = k := by rw [List.length_take]; omega
  rw [e] at h1
  rw [h1, Nat.add_mul_div_left _ _ hp, Nat.div_eq_of_lt h2, Nat.zero_add]
theorem val_oneW (c : Nat) : valDW [c] = c := by simp [valDW]
theorem last_div {d : List Nat} {n : Nat} (h : ∀ c ∈ d, c < 4294967296) (hl : d.length = n + 1) : atDW d n = valDW d / 4294967296 ^ n := by
 rw [← val_dropW h n, List.drop_eq_getElem_cons (by omega), List.drop_of_length_le (by omega), val_oneW]
 unfold atDW; rw [List.getElem?_eq_getElem (by omega)]; rfl
theorem est_ge {P D B t T : Nat} (hB : 0 < B) (ht : t = D / B) (ht0 : 0 < t) (hT : T = P / B) : P / D ≤ T / t := by
 rw [Nat.le_div_iff_mul_le ht0, hT, Nat.le_div_iff_mul_le hB, Nat.mul_assoc]
 have h1 : t * B ≤ D := by rw [ht]; exact Nat.div_mul_le_self D B
 exact Nat.le_trans (Nat.mul_le_mul_left _ h1) (Nat.div_mul_le_self P D)
theorem est_lt {P D B t T q : Nat} (hB : 0 < B) (ht : t = D / B) (ht0 : 0 < t) (hT : T = P / B) (hq : q ≤ T / t) (hq2 : q < 4294967296) : q * D < P + 4294967296 * B := by
 have h1 : D = t * B + D % B := by rw [ht, Nat.mul_comm]; exact (Nat.div_add_mod D B).symm
 have h2 : q * (t * B) ≤ P := by
  rw [← Nat.mul_assoc]
  have : q * t ≤ T := (Nat.le_div_iff_mul_le ht0).1 hq
  exact Nat.le_trans (Nat.mul_le_mul_right B this) (by rw [hT]; exact Nat.div_mul_le_self P B)
 have h3 : q * (D % B) ≤ q * B := Nat.mul_le_mul_left _ (Nat.le_of_lt (Nat.mod_lt _ hB))
 have h4 : q * B < 4294967296 * B := (Nat.mul_lt_mul_right hB).2 hq2
 rw [h1, Nat.mul_add]
 omega
theorem pow_twoW (s : Nat) : 4294967296 * 4294967296 ^ s ≤ 4294967296 ^ (s + 2) := by
 rw [Nat.mul_comm, ← Nat.pow_succ]
 exact Nat.pow_le_pow_right (by decide) (Nat.le_succ _)
theorem est_lt2 {P D t T tq q size s : Nat} (hs : size = s + 1) (ht : t = D / 4294967296 ^ s) (ht0 : 0 < t) (hT : T = P / 4294967296 ^ s) (htq : T / t = tq) (hq : q ≤ tq) (hq2 : q < 4294967296) : q * D < P + 4294967296 ^ (size + 1) := by
 subst hs
 have h1 := est_lt (q := q) (P := P) (D := D) (pow_pos4W s) ht ht0 hT (by rw [htq]; exact hq) hq2
 exact Nat.lt_of_lt_of_le h1 (Nat.add_le_add_left (pow_twoW s) P)
theorem long_first {P D W q out d : Nat} (h : out + q * D = P + W * d) (ho : out < W) (hq : q * D < P + W) : d ≤ 1 := by
 rcases Nat.lt_or_ge 1 d with h1 | h1
 ·have := Nat.mul_le_mul_left W h1
  omega
 ·exact h1
theorem long_neg {P D W x q : Nat} (hD : 0 < D) (h : x + q * D = P + W) (hx : x < W) : ∃ p, q = p + 1 ∧ P / D ≤ p := by
 have h1 : P < q * D := by omega
 have h2 : P / D < q := (Nat.div_lt_iff_lt_mul hD).2 h1
 generalize P / D = e at *
 exact ⟨q - 1, by omega, by omega⟩
theorem long_add {P D W x x' p c : Nat} (h : x + (p + 1) * D = P + W) (ha : x' + W * c = x + D) : x' + p * D + W * c = P + W := by
 rw [Nat.add_mul, Nat.one_mul] at h
 omega
theorem long_done {P D x q : Nat} (hD : 0 < D) (h : x + q * D = P) (hq : P / D ≤ q) : q = P / D ∧ x = P % D := by
 have h1 : q ≤ P / D := (Nat.le_div_iff_mul_le hD).2 (by omega)
 have h2 : q = P / D := by omega
 refine ⟨h2, ?_⟩
 have := Nat.div_add_mod P D
 rw [h2, Nat.mul_comm] at h
 omega
def NegAt (P D size : Nat) (x : List Nat) (q : Nat) (neg : Bool) : Prop := valDW x + q * D = P + 4294967296 ^ (size + 1) * (if neg then 1 else 0)
theorem w_if {P W d : Nat} (h : d ≤ 1) : P + W * d = P + W * (if decide (0 < d) = true then 1 else 0) := by
 match d, h with
 | 0, _ => rfl
 | 1, _ => rfl
theorem w_if2 {y P W c : Nat} (hc : c ≤ 1) (h : y + W * c = P + W) : y = P + W * (if (!decide (0 < c)) = true then 1 else 0) := by
 match c, hc with
 | 0, _ => rw [Nat.mul_zero, Nat.add_zero] at h; simpa using h
 | 1, _ => rw [Nat.mul_one] at h; simp; omega
theorem neg_first {P D size q d : Nat} {x : List Nat} (h : valDW x + q * D = P + 4294967296 ^ (size + 1) * d) (hl : x.length = size + 1) (hx : ∀ k ∈ x, k < 4294967296) (hq : q * D < P + 4294967296 ^ (size + 1)) : NegAt P D size x q (decide (0 < d)) := by
 have h1 := valD_ltW hx
 rw [hl] at h1
 have h2 := long_first h h1 hq
 exact h.trans (w_if h2)
theorem neg_false {P D size q : Nat} {x : List Nat} (h : NegAt P D size x q false) (hD : 0 < D) (hq : P / D ≤ q) : q = P / D ∧ valDW x = P % D := by
 unfold NegAt at h
 generalize 4294967296 ^ (size + 1) = W at *
 exact long_done hD (by simpa using h) hq
theorem neg_true {P D size q : Nat} {x : List Nat} (h : NegAt P D size x q true) (hl : x.length = size + 1) (hx : ∀ k ∈ x, k < 4294967296) (hD : 0 < D) : ∃ p, q = p + 1 ∧ P / D ≤ p := by
 have h1 := valD_ltW hx
 rw [hl] at h1
 unfold NegAt at h
 generalize 4294967296 ^ (size + 1) = W at *
 exact long_neg hD (by simpa using h) h1
theorem neg_next {P D size p c : Nat} {x x' : List Nat} (h : NegAt P D size x (p + 1) true) (ha : valDW x' + 4294967296 ^ (size + 1) * c = valDW x + D) (hc : c ≤ 1) : NegAt P D size x' p (!decide (0 < c)) := by
 have h0 : valDW x + (p + 1) * D = P + 4294967296 ^ (size + 1) := by
  have h1 : valDW x + (p + 1) * D = P + 4294967296 ^ (size + 1) * (if true then 1 else 0) := h
  rwa [if_pos rfl, Nat.mul_one] at h1
 exact w_if2 hc (long_add h0 ha)
theorem pow32_split0 {n : Nat} (hn : n ≤ 32) : (4294967296 : Nat) = 2 ^ n * 2 ^ (32 - n) := by
 rw [← Nat.pow_add, show n + (32 - n) = 32 by omega]
theorem long_step {pre part post : List Nat} {i size A D Qd : Nat} (hpi : pre.length = i) (hpl : part.length = size + 1) (hpre : ∀ c ∈ pre, c < 4294967296) (hpart : ∀ c ∈ part, c < 4294967296) (hD : D < 4294967296 ^ size)
  (hR : valDW (pre ++ part ++ post) + D * (4294967296 ^ (i + 1) * Qd) = A) (hlt : valDW (pre ++ part ++ post) < D * 4294967296 ^ (i + 1)) :
  valDW part < D * 4294967296 ∧ ∀ x : List Nat, x.length = size + 1 → valDW x = valDW part % D →
   valDW (pre ++ x ++ post) + D * (4294967296 ^ i * (valDW part / D + 4294967296 * Qd)) = A ∧ valDW (pre ++ x ++ post) < D * 4294967296 ^ i := by
 have e : ∀ x : List Nat, x.length = size + 1 → valDW (pre ++ x ++ post) = valDW pre + 4294967296 ^ i * (valDW x + 4294967296 ^ (size + 1) * valDW post) := by
  intro x hx
  rw [List.append_assoc, valD_appendW, valD_appendW, hpi, hx]
 have hp := pow_pos4W i
 have h1 := valD_ltW hpre
 rw [hpi] at h1
 rw [e part hpl] at hR hlt
 have hpost : valDW post = 0 := by
  rcases Nat.eq_zero_or_pos (valDW post) with h | h
  ·exact h
  ·exfalso
   have a1 : 4294967296 ^ (size + 1) * 1 ≤ 4294967296 ^ (size + 1) * valDW post := Nat.mul_le_mul_left _ h
   have a2 : 4294967296 ^ i * (4294967296 ^ (size + 1) * 1) ≤ 4294967296 ^ i * (valDW part + 4294967296 ^ (size + 1) * valDW post) := Nat.mul_le_mul_left _ (by omega)
   have a3 : D * 4294967296 ^ (i + 1) < 4294967296 ^ size * 4294967296 ^ (i + 1) := (Nat.mul_lt_mul_right (pow_pos4W _)).2 hD
   have a4 : 4294967296 ^ size * 4294967296 ^ (i + 1) = 4294967296 ^ i * (4294967296 ^ (size + 1) * 1) := by
    rw [Nat.mul_one, ← Nat.pow_add, ← Nat.pow_add]; congr 1; omega
   omega
 rw [hpost, Nat.mul_zero, Nat.add_zero] at hR hlt
 have hPlt : valDW part < D * 4294967296 := by
  rcases Nat.lt_or_ge (valDW part) (D * 4294967296) with h | h
  ·exact h
  ·have := Nat.mul_le_mul_left (4294967296 ^ i) h
   rw [Nat.pow_succ] at hlt
   rw [show 4294967296 ^ i * (D * 4294967296) = D * (4294967296 ^ i * 4294967296) by rw [Nat.mul_left_comm]] at this
   omega
 refine ⟨hPlt, fun x hx hv => ?_⟩
 rw [e x hx, hpost, Nat.mul_zero, Nat.add_zero, hv]
 have hD0 : 0 < D := by
  rcases Nat.eq_zero_or_pos D with h | h
  ·rw [h, Nat.zero_mul] at hPlt; omega
  ·exact h
 have hm := Nat.mod_lt (valDW part) hD0
 have hdm := Nat.div_add_mod (valDW part) D
 rw [Nat.pow_succ] at hR
 clear hlt
 generalize valDW part / D = q at *
 generalize valDW part % D = r at *
 generalize 4294967296 ^ i = W at *
 constructor
 ·rw [← hR, ← hdm]
  have e1 : D * (W * (q + 4294967296 * Qd)) = W * (D * q) + D * (W * 4294967296 * Qd) := by
   rw [Nat.mul_add, Nat.mul_add, Nat.mul_left_comm D W q, ← Nat.mul_assoc W 4294967296 Qd]
  rw [e1, Nat.mul_add]
  omega
 ·have : W * (r + 1) ≤ W * D := Nat.mul_le_mul_left _ hm
  rw [Nat.mul_add, Nat.mul_one] at this
  rw [Nat.mul_comm D W]
  omega
theorem long_end {R D Q A : Nat} (h : R + D * Q = A) (hlt : R < D) : Q = A / D ∧ R = A % D := by
 have hD : 0 < D := by omega
 subst h
 rw [Nat.add_mul_div_left _ _ hD, Nat.div_eq_of_lt hlt, Nat.zero_add, Nat.add_mul_mod_self_left, Nat.mod_eq_of_lt hlt]
 exact ⟨rfl, rfl⟩
theorem long_start {a b la lb s : Nat} (ha : a < 4294967296 ^ la) (hb : 4294967296 ^ (lb - 1) ≤ b) (hlb : 1 ≤ lb) (hl : lb ≤ la) : a * 2 ^ s < b * 2 ^ s * 4294967296 ^ (la + 1 - lb) := by
 have h2 : 4294967296 ^ (lb - 1) * 4294967296 ^ (la + 1 - lb) = 4294967296 ^ la := by
  rw [← Nat.pow_add]; congr 1; omega
 have h3 := Nat.mul_le_mul_right (4294967296 ^ (la + 1 - lb)) hb
 rw [h2] at h3
 rw [Nat.mul_right_comm]
 exact (Nat.mul_lt_mul_right (Nat.two_pow_pos s)).2 (by omega)
theorem shl_len {b s lb : Nat} (hl : (digsW b).length = lb) (hb : b ≠ 0) (hs : s ≤ 32) (ht : atDW (digsW b) (lb - 1) * 2 ^ s < 4294967296) : (digsW (b * 2 ^ s)).length = lb := by
 have hlb : 1 ≤ lb := by rw [← hl]; exact digs_len_posW hb
 have h1 := last_div (n := lb - 1) (digs_ltW b) (by omega)
 rw [valD_digsW] at h1
 have h2 := pow32_split0 hs
 have h3 : (atDW (digsW b) (lb - 1) + 1) * 2 ^ s ≤ 4294967296 := by
  rw [h2] at ht ⊢
  rw [Nat.mul_comm (2 ^ s)] at ht ⊢
  have : atDW (digsW b) (lb - 1) < 2 ^ (32 - s) := Nat.lt_of_mul_lt_mul_right ht
  exact Nat.mul_le_mul_right _ this
 have hW := pow_pos4W (lb - 1)
 have h4 : b < (atDW (digsW b) (lb - 1) + 1) * 4294967296 ^ (lb - 1) := by
  rw [h1]; exact (Nat.div_lt_iff_lt_mul hW).1 (Nat.lt_succ_self _)
 have h5 : b * 2 ^ s < 4294967296 ^ lb := by
  have a1 := (Nat.mul_lt_mul_right (Nat.two_pow_pos s)).2 h4
  rw [Nat.mul_right_comm] at a1
  have a2 := Nat.mul_le_mul_right (4294967296 ^ (lb - 1)) h3
  have a3 : 4294967296 * 4294967296 ^ (lb - 1) = 4294967296 ^ lb := by rw [Nat.mul_comm, ← Nat.pow_succ]; congr 1; omega
  omega
 have h6 := digs_len_leW h5
 have h7 : b * 1 ≤ b * 2 ^ s := Nat.mul_le_mul_left _ (Nat.one_le_two_pow)
 have h8 : 4294967296 ^ (lb - 1) ≤ b * 2 ^ s := by
  have := digs_len_geW hb
  rw [hl] at this; omega
 have h9 : lb - 1 < (digsW (b * 2 ^ s)).length := by
  rcases Nat.lt_or_ge (lb - 1) (digsW (b * 2 ^ s)).length with h | h
  ·exact h
  ·have b1 := digs_len_ltW (b * 2 ^ s)
   have b2 := Nat.pow_le_pow_right (n := 4294967296) (by decide) h
   omega
 omega
/-! ### Shifting to the right -/
theorem shr_word {n N M word V h : Nat} (hM : 4294967296 = N * M) (hN : 0 < N) (hh : h = V % 4294967296) (hw : word < 4294967296) :
  (h * 4294967296 + word) / N % 4294967296 + 4294967296 * (V / N) = (word + 4294967296 * V) / N ∧ (h * 4294967296 + word) / N % 4294967296 < 4294967296 := by
 refine ⟨?_, Nat.mod_lt _ (by decide)⟩
 have hMp : 0 < M := by
  rcases Nat.eq_zero_or_pos M with h0 | h0
  ·rw [h0, Nat.mul_zero] at hM; omega
  ·exact h0
 have e1 : (h * 4294967296 + word) / N = h * M + word / N := by
  rw [hM, show h * (N * M) + word = word + N * (h * M) by rw [Nat.mul_left_comm]; omega, Nat.add_mul_div_left _ _ hN]; omega
 have e2 : (word + 4294967296 * V) / N = V * M + word / N := by
  rw [hM, show word + N * M * V = word + N * (V * M) by rw [Nat.mul_assoc, Nat.mul_comm M V], Nat.add_mul_div_left _ _ hN]; omega
 have hwn : word / N < M := (Nat.div_lt_iff_lt_mul hN).2 (by rw [Nat.mul_comm, ← hM]; exact hw)
 have hv : V = N * (V / N) + V % N := (Nat.div_add_mod V N).symm
 have hm : h % N = V % N := by rw [hh, hM, Nat.mod_mul_right_mod]
 have hh2 : h = N * (h / N) + V % N := by rw [← hm]; exact (Nat.div_add_mod h N).symm
 have hvn : V % N < N := Nat.mod_lt _ hN
 rw [e1, e2]
 have f1 : h * M + word / N = ((V % N) * M + word / N) + 4294967296 * (h / N) := by
  have : h * M = (N * (h / N) + V % N) * M := by rw [← hh2]
  rw [this, Nat.add_mul, Nat.mul_right_comm, ← hM]; omega
 have f2 : V * M + word / N = ((V % N) * M + word / N) + 4294967296 * (V / N) := by
  have : V * M = (N * (V / N) + V % N) * M := by rw [← hv]
  rw [this, Nat.add_mul, Nat.mul_right_comm, ← hM]; omega
 have f3 : (V % N) * M + word / N < 4294967296 := by
  have : (V % N + 1) * M ≤ N * M := Nat.mul_le_mul_right _ hvn
  rw [Nat.add_mul, Nat.one_mul, ← hM] at this
  omega
 rw [f1, f2, Nat.add_mul_mod_self_left, Nat.mod_eq_of_lt f3]
theorem drop_atW {d : List Nat} {i : Nat} (h : i < d.length) : valDW (d.drop i) = atDW d i + 4294967296 * valDW (d.drop (i + 1)) := by
 rw [List.drop_eq_getElem_cons h]; unfold atDW; rw [List.getElem?_eq_getElem h]; rfl
theorem drop_setW {d : List Nat} {i z : Nat} (h : i < d.length) : valDW ((d.set i z).drop i) = z + 4294967296 * valDW (d.drop (i + 1)) := by
 rw [List.drop_eq_getElem_cons (by rw [List.length_set]; exact h), List.getElem_set_self, List.drop_set_of_lt (by omega)]; rfl
theorem drop_modW {d : List Nat} (hd : ∀ c ∈ d, c < 4294967296) (i : Nat) : atDW d i = valDW (d.drop i) % 4294967296 := by
 rcases Nat.lt_or_ge i d.length with h | h
 ·rw [drop_atW h]
  have := atD_ltW hd i
  omega
 ·rw [List.drop_of_length_le h]; unfold atDW; rw [List.getElem?_eq_none h]; rfl
theorem lin_pos {Y c d W α β : Int} (hW : 0 ≤ W) (hα : 0 ≤ α ∧ α ≤ W) (hβ : 0 ≤ β ∧ β ≤ W) (h1 : 0 ≤ Y + c) (h2 : 0 ≤ Y + d) (hs : (0 ≤ c ∧ d ≤ 0) ∨ (c ≤ 0 ∧ 0 ≤ d)) : 0 ≤ Y * W + c * α + d * β := by
 rcases hs with ⟨hc, hd⟩ | ⟨hc, hd⟩
 ·have a1 := Int.mul_nonneg hc hα.1
  have a2 : d * W ≤ d * β := Int.mul_le_mul_of_nonpos_left hd hβ.2
  have a3 := Int.mul_nonneg h2 hW
  rw [Int.add_mul] at a3
  omega
 ·have a1 := Int.mul_nonneg hd hβ.1
  have a2 : c * W ≤ c * α := Int.mul_le_mul_of_nonpos_left hc hα.2
  have a3 := Int.mul_nonneg h1 hW
  rw [Int.add_mul] at a3
  omega
theorem lin_pos1 {Y c d W α β : Int} (hW : 0 < W) (hα : 0 ≤ α ∧ α ≤ W) (hβ : 0 ≤ β ∧ β ≤ W) (h1 : 0 < Y + c) (h2 : 0 < Y + d) (hs : (0 ≤ c ∧ d ≤ 0) ∨ (c ≤ 0 ∧ 0 ≤ d)) : 0 < Y * W + c * α + d * β := by
 have := lin_pos (Y := Y - 1) (by omega) hα hβ (show 0 ≤ Y - 1 + c by omega) (show 0 ≤ Y - 1 + d by omega) hs
 rw [Int.sub_mul] at this
 omega
theorem sq_bound {d x z : Int} (h0 : 0 ≤ d) (h1 : d < x) (h2 : d * x ≤ z) (h3 : z < 4611686018427387904) : d < 2147483648 := by
 rcases Int.lt_or_le d 2147483648 with h | h
 ·exact h
 ·have a1 : (2147483648 : Int) * 2147483648 ≤ d * x := Int.mul_le_mul h (by omega) (by decide) h0
  omega
structure TurnInv (A B : Nat) (x0 y0 a b c d x y : Int) : Prop where
 hx : x = a * x0 + b * y0
 hy : y = c * x0 + d * y0
 sign : (a ≤ 0 ∧ 0 ≤ b ∧ 0 ≤ c ∧ d ≤ 0) ∨ (0 ≤ a ∧ b ≤ 0 ∧ c ≤ 0 ∧ 0 ≤ d)
 det : a * d - b * c = 1 ∨ a * d - b * c = -1
 x1 : 0 ≤ x ∧ x < 4611686018427387904
 y1 : 0 ≤ y ∧ y < 4611686018427387904
 xa : 0 ≤ x + a
 xb : 0 ≤ x + b
 ra : -2147483648 < a ∧ a < 2147483648
 rb : -2147483648 < b ∧ b < 2147483648
 rc : -2147483648 < c ∧ c < 2147483648
 rd : -2147483648 < d ∧ d < 2147483648
 nums : ∃ P Q : Nat, (P : Int) = a * A + b * B ∧ (Q : Int) = c * A + d * B ∧ Nat.gcd P Q = Nat.gcd A B ∧ ((a = 1 ∧ b = 0 ∧ c = 0 ∧ d = 1) ∨ (Q < P ∧ P ≤ B))
theorem turn_start {A B : Nat} {x0 y0 : Int} (hx : 0 ≤ x0 ∧ x0 < 4611686018427387904) (hy : 0 ≤ y0 ∧ y0 < 4611686018427387904) : TurnInv A B x0 y0 1 0 0 1 x0 y0 :=
 ⟨by omega, by omega, .inr ⟨by decide, by decide, by decide, by decide⟩, .inl (by decide), hx, hy, by omega, by omega, by decide, by decide, by decide, by decide, A, B, by omega, by omega, rfl, .inl ⟨rfl, rfl, rfl, rfl⟩⟩
theorem turn_step {A B : Nat} {x0 y0 a b c d x y q W : Int} (h : TurnInv A B x0 y0 a b c d x y) (hx0 : 0 ≤ x0 ∧ x0 < 4611686018427387904) (hy0 : 0 ≤ y0 ∧ y0 < 4611686018427387904)
  (hW : 0 < W) (hA : 0 ≤ (A : Int) - x0 * W ∧ (A : Int) - x0 * W < W) (hB : 0 ≤ (B : Int) - y0 * W ∧ (B : Int) - y0 * W < W)
  (hc : 0 < y + c) (hd : 0 < y + d) (q0 : 0 ≤ q) (q1 : q * (y + c) ≤ x + a ∧ x + a < (q + 1) * (y + c)) (q2 : q * (y + d) ≤ x + b ∧ x + b < (q + 1) * (y + d)) :
  TurnInv A B x0 y0 c d (a - q * c) (b - q * d) y (x - q * y) ∧ x - q * y < y := by
 have e1 : q * (y + c) = q * y + q * c := Int.mul_add _ _ _
 have e2 : q * (y + d) = q * y + q * d := Int.mul_add _ _ _
 have e3 : (q + 1) * (y + c) = q * y + q * c + (y + c) := by rw [Int.add_mul, e1, Int.one_mul]
 have e4 : (q + 1) * (y + d) = q * y + q * d + (y + d) := by rw [Int.add_mul, e2, Int.one_mul]
 rw [e1, e3] at q1
 rw [e2, e4] at q2
 have sg : (0 ≤ a - q * c ∧ b - q * d ≤ 0 ∧ c ≤ 0 ∧ 0 ≤ d) ∨ (a - q * c ≤ 0 ∧ 0 ≤ b - q * d ∧ 0 ≤ c ∧ d ≤ 0) := by
  rcases h.sign with ⟨s1, s2, s3, s4⟩ | ⟨s1, s2, s3, s4⟩
  ·right
   have a1 := Int.mul_nonneg q0 s3
   have a2 : q * d ≤ 0 := Int.mul_nonpos_of_nonneg_of_nonpos q0 s4
   exact ⟨by omega, by omega, s3, s4⟩
  ·left
   have a1 : q * c ≤ 0 := Int.mul_nonpos_of_nonneg_of_nonpos q0 s3
   have a2 := Int.mul_nonneg q0 s4
   exact ⟨by omega, by omega, s3, s4⟩
 obtain ⟨P, Q, hP, hQ, hG, hF⟩ := h.nums
 obtain ⟨α, hα⟩ : ∃ α, (A : Int) - x0 * W = α := ⟨_, rfl⟩
 obtain ⟨β, hβ⟩ : ∃ β, (B : Int) - y0 * W = β := ⟨_, rfl⟩
 rw [hα] at hA
 rw [hβ] at hB
 have hPv : (P : Int) = x * W + a * α + b * β := by
  rw [hP, h.hx, ← hα, ← hβ, Int.add_mul, Int.mul_sub, Int.mul_sub, Int.mul_assoc, Int.mul_assoc]; omega
 have hQv : (Q : Int) = y * W + c * α + d * β := by
  rw [hQ, h.hy, ← hα, ← hβ, Int.add_mul, Int.mul_sub, Int.mul_sub, Int.mul_assoc, Int.mul_assoc]; omega
 obtain ⟨c', hc'⟩ : ∃ c', a - q * c = c' := ⟨_, rfl⟩
 obtain ⟨d', hd'⟩ : ∃ d', b - q * d = d' := ⟨_, rfl⟩
 obtain ⟨y', hy'⟩ : ∃ y', x - q * y = y' := ⟨_, rfl⟩
 rw [hc', hd'] at sg ⊢
 rw [hy']
 have k1 : 0 ≤ y' + c' := by omega
 have k2 : 0 ≤ y' + d' := by omega
 have k3 : y' + c' < y + c := by omega
 have k4 : y' + d' < y + d := by omega
 have f0 : 0 ≤ y' * W + c' * α + d' * β := lin_pos (by omega) ⟨hA.1, by omega⟩ ⟨hB.1, by omega⟩ k1 k2 (by rcases sg with ⟨s1, s2, _, _⟩ | ⟨s1, s2, _, _⟩ <;> omega)
 have f1 : 0 < (y - y') * W + (c - c') * α + (d - d') * β := lin_pos1 hW ⟨hA.1, by omega⟩ ⟨hB.1, by omega⟩ (by omega) (by omega) (by rcases sg with ⟨s1, s2, _, _⟩ | ⟨s1, s2, _, _⟩ <;> omega)
 have hR : (P : Int) - q * Q = y' * W + c' * α + d' * β := by
  rw [hPv, hQv, ← hc', ← hd', ← hy', Int.mul_add, Int.mul_add, Int.sub_mul, Int.sub_mul, Int.sub_mul, Int.mul_assoc, Int.mul_assoc, Int.mul_assoc]; omega
 have hR2 : (Q : Int) - ((P : Int) - q * Q) = (y - y') * W + (c - c') * α + (d - d') * β := by
  rw [hR, hQv, Int.sub_mul, Int.sub_mul, Int.sub_mul]; omega
 obtain ⟨R, hRn⟩ : ∃ R : Nat, (R : Int) = (P : Int) - q * Q := ⟨((P : Int) - q * Q).toNat, by omega⟩
 have hRQ : R < Q := by omega
 obtain ⟨qn, hqn⟩ : ∃ qn : Nat, (qn : Int) = q := ⟨q.toNat, by omega⟩
 have hPQ : P = R + Q * qn := by
  have : (P : Int) = (R : Int) + (Q : Int) * (qn : Int) := by rw [hRn, hqn, Int.mul_comm]; omega
  exact_mod_cast this
 have hmod : P % Q = R := by rw [hPQ, Nat.add_mul_mod_self_left, Nat.mod_eq_of_lt hRQ]
 have hgcd : Nat.gcd Q R = Nat.gcd A B := by rw [← hG, Nat.gcd_comm P Q, Nat.gcd_rec Q P, hmod, Nat.gcd_comm]
 have hyy : y' < y := by rcases sg with ⟨s1, s2, s3, s4⟩ | ⟨s1, s2, s3, s4⟩ <;> omega
 have hy0' : 0 ≤ y' := by rcases sg with ⟨s1, s2, s3, s4⟩ | ⟨s1, s2, s3, s4⟩ <;> omega
 have hynew : y' = c' * x0 + d' * y0 := by
  rw [← hy', ← hc', ← hd', h.hx, h.hy, Int.sub_mul, Int.sub_mul, Int.mul_add, Int.mul_assoc, Int.mul_assoc]; omega
 have hdet : c * d' - d * c' = -(a * d - b * c) := by
  rw [← hc', ← hd', Int.mul_sub, Int.mul_sub, Int.mul_left_comm c q d, Int.mul_left_comm d q c, Int.mul_comm d c, Int.mul_comm c b, Int.mul_comm d a]; omega
 -- x0 and y0 out of the new numbers
 have i1 : d' * y - d * y' = -(a * d - b * c) * x0 := by
  rw [← hdet, hynew, h.hy, Int.sub_mul, Int.mul_add, Int.mul_add, ← Int.mul_assoc, ← Int.mul_assoc, ← Int.mul_assoc, ← Int.mul_assoc, Int.mul_comm d' c, Int.mul_comm d' d]; omega
 have i2 : c' * y - c * y' = (a * d - b * c) * y0 := by
  have : (a * d - b * c) = -(c * d' - d * c') := by omega
  rw [this, hynew, h.hy, Int.mul_add, Int.mul_add, ← Int.mul_assoc, ← Int.mul_assoc, ← Int.mul_assoc, ← Int.mul_assoc, Int.mul_comm c' c, Int.mul_comm c' d, Int.neg_mul, Int.sub_mul]; omega
 have bd : -2147483648 < d' ∧ d' < 2147483648 := by
  have j1 : d' * y - d * y' ≤ x0 ∧ -(x0) ≤ d' * y - d * y' := by
   rw [i1]; rcases h.det with e | e <;> rw [e] <;> simp <;> omega
  rcases sg with ⟨s1, s2, s3, s4⟩ | ⟨s1, s2, s3, s4⟩
  ·have m1 := Int.mul_nonneg s4 hy0'
   have m2 : -d' < 2147483648 := sq_bound (x := y) (z := x0) (by omega) (by omega) (by rw [Int.neg_mul]; omega) hx0.2
   omega
  ·have m1 : d * y' ≤ 0 := Int.mul_nonpos_of_nonpos_of_nonneg s4 hy0'
   have m2 : d' < 2147483648 := sq_bound (x := y) (z := x0) (by omega) (by omega) (by omega) hx0.2
   omega
 have bc : -2147483648 < c' ∧ c' < 2147483648 := by
  have j1 : c' * y - c * y' ≤ y0 ∧ -(y0) ≤ c' * y - c * y' := by
   rw [i2]; rcases h.det with e | e <;> rw [e] <;> simp <;> omega
  rcases sg with ⟨s1, s2, s3, s4⟩ | ⟨s1, s2, s3, s4⟩
  ·have m1 : c * y' ≤ 0 := Int.mul_nonpos_of_nonpos_of_nonneg s3 hy0'
   have m2 : c' < 2147483648 := sq_bound (x := y) (z := y0) (by omega) (by omega) (by omega) hy0.2
   omega
  ·have m1 := Int.mul_nonneg s3 hy0'
   have m2 : -c' < 2147483648 := sq_bound (x := y) (z := y0) (by omega) (by omega) (by rw [Int.neg_mul]; omega) hy0.2
   omega
 refine ⟨⟨h.hy, hynew, by rcases sg with ⟨s1, s2, s3, s4⟩ | ⟨s1, s2, s3, s4⟩ <;> omega, by rw [hdet]; rcases h.det with e | e <;> rw [e] <;> simp, h.y1, ⟨hy0', by have := h.y1; omega⟩, by omega, by omega, h.rc, h.rd, bc, bd, Q, R, hQ, ?_, hgcd, .inr ⟨hRQ, ?_⟩⟩, hyy⟩
 ·rw [hRn, hP, hQ, ← hc', ← hd', Int.sub_mul, Int.sub_mul, Int.mul_add, Int.mul_assoc, Int.mul_assoc]; omega
 ·rcases hF with ⟨e1, e2, e3, e4⟩ | ⟨e1, e2⟩
  ·rw [e3, e4] at hQ; omega
  ·omega
/-! ### A sum of two multiples -/
theorem set_intW {out : List Nat} (k z : Nat) (h : k < out.length) (e : valDW (out.set k z) + 4294967296 ^ k * atDW out k = valDW out + 4294967296 ^ k * z) : (valDW (out.set k z) : Int) + (4294967296 : Int) ^ k * (atDW out k : Int) = (valDW out : Int) + (4294967296 : Int) ^ k * (z : Int) := by
 have := congrArg (fun t : Nat => (t : Int)) e
 simpa using this
theorem comb_next {a b out : List Nat} {i z : Nat} {c c' p q V : Int} (hi : i < out.length) (h : (valDW out : Int) + (4294967296 : Int) ^ i * c = p * (valDW (a.take i) : Int) + (q - 1) * (valDW (b.take i) : Int) + V) (ho : atDW out i = atDW b i) (hs : (z : Int) + 4294967296 * c' = p * (atDW a i : Int) + q * (atDW b i : Int) + c) (e : valDW (out.set i z) + 4294967296 ^ i * atDW out i = valDW out + 4294967296 ^ i * z) :
  (valDW (out.set i z) : Int) + (4294967296 : Int) ^ (i + 1) * c' = p * (valDW (a.take (i + 1)) : Int) + (q - 1) * (valDW (b.take (i + 1)) : Int) + V := by
 have e0 := set_intW i z hi e
 have ea : (valDW (a.take (i + 1)) : Int) = (valDW (a.take i) : Int) + (4294967296 : Int) ^ i * (atDW a i : Int) := by rw [valD_take_atW]; simp
 have eb : (valDW (b.take (i + 1)) : Int) = (valDW (b.take i) : Int) + (4294967296 : Int) ^ i * (atDW b i : Int) := by rw [valD_take_atW]; simp
 rw [ea, eb, Int.pow_succ]
 rw [ho] at e0
 generalize (4294967296 : Int) ^ i = W at *
 generalize (valDW (a.take i) : Int) = X1 at *
 generalize (valDW (b.take i) : Int) = X2 at *
 generalize (valDW out : Int) = Y1 at *
 generalize (valDW (out.set i z) : Int) = Y2 at *
 generalize (atDW a i : Int) = x at *
 generalize (atDW b i : Int) = o at *
 grind
theorem pow_intW (n : Nat) : ((4294967296 ^ n : Nat) : Int) = (4294967296 : Int) ^ n := by simp
theorem carry_zero {v W c Z : Int} (hW : 0 < W) (h : v + W * c = Z) (h1 : 0 ≤ v) (h2 : v < W) (h3 : 0 ≤ Z) (h4 : Z < W) : v = Z := by
 have hc : c = 0 := by
  rcases Int.lt_trichotomy c 0 with h5 | h5 | h5
  ·have := Int.mul_le_mul_of_nonneg_left (show c ≤ -1 by omega) (Int.le_of_lt hW)
   rw [Int.mul_neg, Int.mul_one] at this
   omega
  ·exact h5
  ·have := Int.mul_le_mul_of_nonneg_left (show 1 ≤ c by omega) (Int.le_of_lt hW)
   rw [Int.mul_one] at this
   omega
 rw [hc, Int.mul_zero, Int.add_zero] at h
 exact h
theorem comb_end {out : List Nat} {n Z : Nat} {c : Int} (hd : ∀ k ∈ out, k < 4294967296) (hl : out.length = n) (h : (valDW out : Int) + (4294967296 : Int) ^ n * c = (Z : Int)) (hZ : Z < 4294967296 ^ n) : valDW out = Z := by
 have h1 := valD_ltW hd
 rw [hl] at h1
 have hp := pow_pos4W n
 rw [← pow_intW] at h
 have := carry_zero (W := ((4294967296 ^ n : Nat) : Int)) (by omega) h (by omega) (by omega) (by omega) (by omega)
 omega
theorem comb_bound {p q : Int} {x y : Nat} (hp : -2147483648 < p ∧ p < 2147483648) (hq : -2147483648 < q ∧ q < 2147483648) (hs : (p ≤ 0 ∧ 0 ≤ q) ∨ (0 ≤ p ∧ q ≤ 0)) (hx : x < 4294967296) (hy : y < 4294967296) :
  (-9223372030412324865 ≤ p * (x : Int) ∧ p * (x : Int) ≤ 9223372030412324865) ∧ (-9223372030412324865 ≤ q * (y : Int) ∧ q * (y : Int) ≤ 9223372030412324865) ∧ (-9223372030412324865 ≤ p * (x : Int) + q * (y : Int) ∧ p * (x : Int) + q * (y : Int) ≤ 9223372030412324865) := by
 have B : ∀ (p : Int) (x : Nat), x < 4294967296 → 0 ≤ p → p < 2147483648 → 0 ≤ p * (x : Int) ∧ p * (x : Int) ≤ 9223372030412324865 := by
  intro p x hx h0 h1
  refine ⟨Int.mul_nonneg h0 (by omega), ?_⟩
  have := Int.mul_le_mul (show p ≤ 2147483647 by omega) (show (x : Int) ≤ 4294967295 by omega) (by omega) (by decide)
  exact Int.le_trans this (by decide)
 rcases hs with ⟨s1, s2⟩ | ⟨s1, s2⟩
 ·have b1 := B (-p) x hx (by omega) (by omega)
  have b2 := B q y hy s2 hq.2
  rw [Int.neg_mul] at b1
  omega
 ·have b1 := B p x hx s1 hp.2
  have b2 := B (-q) y hy (by omega) (by omega)
  rw [Int.neg_mul] at b2
  omega
def valDT : List Nat → Nat
 | [] => 0
 | d :: l => d + 10 * valDT l
def digsT (n : Nat) : List Nat := if n = 0 then [] else (n % 10) :: digsT (n / 10)
 termination_by n
 decreasing_by omega
theorem digs_zeroT : digsT 0 = [] := by rw [digsT, if_pos rfl]
theorem digs_posT {n : Nat} (h : n ≠ 0) : digsT n = (n % 10) :: digsT (n / 10) := by rw [digsT, if_neg h]
theorem valD_digsT (n : Nat) : valDT (digsT n) = n := by
 induction n using Nat.strongRecOn with
 | _ n ih =>
  by_cases h : n = 0
  ·subst h; rw [digs_zeroT]; rfl
  ·rw [digs_posT h]
   show n % 10 + 10 * valDT (digsT (n / 10)) = n
   rw [ih (n / 10) (by omega)]
   omega
theorem digs_ltT (n : Nat) : ∀ c ∈ digsT n, c < 10 := by
 induction n using Nat.strongRecOn with
 | _ n ih =>
  intro c hc
  by_cases h : n = 0
  ·subst h; rw [digs_zeroT] at hc; simp at hc
  ·rw [digs_posT h] at hc
   rcases List.mem_cons.1 hc with h1 | h1
   ·omega
   ·exact ih _ (by omega) c h1
theorem valD_appendT (a b : List Nat) : valDT (a ++ b) = valDT a + 10 ^ a.length * valDT b := by
 induction a with
 | nil => simp [valDT]
 | cons d a ih =>
  show d + 10 * valDT (a ++ b) = d + 10 * valDT a + 10 ^ (a.length + 1) * valDT b
  rw [ih, Nat.pow_succ, Nat.mul_add, ← Nat.mul_assoc, Nat.mul_comm 10 (10 ^ a.length), Nat.add_assoc]
theorem valD_zerosT (n : Nat) : valDT (List.replicate n 0) = 0 := by
 induction n with
 | zero => rfl
 | succ n ih => rw [List.replicate_succ]; show 0 + 10 * valDT _ = 0; rw [ih]
theorem valD_snocT (a : List Nat) (c : Nat) : valDT (a ++ [c]) = valDT a + 10 ^ a.length * c := by
 rw [valD_appendT]; show _ + _ * (c + 10 * 0) = _; simp
theorem digs_ofT {d : List Nat} (h : ∀ c ∈ d, c < 10) (hl : ∀ hne : d ≠ [], d.getLast hne ≠ 0) : digsT (valDT d) = d := by
 induction d with
 | nil => exact digs_zeroT
 | cons c d ih =>
  have h1 : digsT (valDT d) = d := by
   refine ih (fun x hx => h x (by simp [hx])) (fun hne => ?_)
   have := hl (by simp)
   rwa [List.getLast_cons hne] at this
  have hc := h c (by simp)
  have hne : valDT (c :: d) ≠ 0 := by
   intro e
   have e1 : c + 10 * valDT d = 0 := e
   have hd : valDT d = 0 := by omega
   rw [hd, digs_zeroT] at h1
   subst h1
   exact hl (by simp) (show c = 0 by omega)
  rw [digs_posT hne]
  have e1 : valDT (c :: d) = c + 10 * valDT d := rfl
  rw [e1, show (c + 10 * valDT d) % 10 = c by omega, show (c + 10 * valDT d) / 10 = valDT d by omega, h1]
theorem digs_lastT {n : Nat} (hne : digsT n ≠ []) : (digsT n).getLast hne ≠ 0 := by
 induction n using Nat.strongRecOn with
 | _ n ih =>
  by_cases h : n = 0
  ·subst h; exact absurd digs_zeroT hne
  ·by_cases h2 : digsT (n / 10) = []
   ·have h3 : n / 10 = 0 := by have := valD_digsT (n / 10); rw [h2] at this; exact this.symm
    have e : digsT n = [n % 10] := by rw [digs_posT h, h2]
    simp only [e, List.getLast_singleton]
    omega
   ·have := ih (n / 10) (by omega) h2
    have e : digsT n = (n % 10) :: digsT (n / 10) := digs_posT h
    simp only [e]
    rw [List.getLast_cons h2]
    exact this
theorem digs_len_posT {n : Nat} (h : n ≠ 0) : 1 ≤ (digsT n).length := by rw [digs_posT h]; simp
theorem digs_len_geT {n : Nat} (h : n ≠ 0) : 10 ^ ((digsT n).length - 1) ≤ n := by
 induction n using Nat.strongRecOn with
 | _ n ih =>
  rw [digs_posT h, List.length_cons, Nat.add_sub_cancel]
  by_cases h2 : n / 10 = 0
  ·rw [h2, digs_zeroT]; simp; omega
  ·have h3 := ih (n / 10) (by omega) h2
   have h4 := digs_len_posT h2
   have e : (digsT (n / 10)).length = ((digsT (n / 10)).length - 1) + 1 := by omega
   rw [e, Nat.pow_succ]
   generalize 10 ^ ((digsT (n / 10)).length - 1) = q at *
   omega
theorem digs_len_leT {n k : Nat} (h : n < 10 ^ k) : (digsT n).length ≤ k := by
 by_cases h0 : n = 0
 ·subst h0; rw [digs_zeroT]; exact Nat.zero_le _
 ·have h1 := digs_len_geT h0
  rcases Nat.lt_or_ge k (digsT n).length with h2 | h2
  ·have h3 : 10 ^ k ≤ 10 ^ ((digsT n).length - 1) := Nat.pow_le_pow_right (by decide) (by omega)
   omega
  ·exact h2
/-! ### Comparing -/
/-! ### Adding -/
def atDT (d : List Nat) (i : Nat) : Nat := d[i]?.getD 0
/-! ### Subtracting -/
end Go.Proofs.YtepakogbbomaoaaGreatDoor
