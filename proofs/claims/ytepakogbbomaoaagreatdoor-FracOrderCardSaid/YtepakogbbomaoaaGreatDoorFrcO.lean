/-
 Plain facts on fractions in lowest terms. No program is named here.
 Plain facts on fractions: what stands for which number; sums, products, their order and size. No program is named here.
-/
import Derived.Below
namespace Go.Proofs.YtepakogbbomaoaaGreatDoor
set_option linter.unusedVariables false
set_option maxRecDepth 100000
structure Low (p q : Int) : Prop where
 pos : 0 < q
 cop : Int.gcd p q = 1
theorem cop_dvd {k n m : Int} (h : Int.gcd k n = 1) (hd : k ∣ n * m) : k ∣ m := by
 have := Int.dvd_gcd_mul_iff_dvd_mul.2 hd
 rw [h] at this
 simpa using this
theorem low_eq {p q r s : Int} (h : Low p q) (k : Low r s) (e : p * s = r * q) : p = r ∧ q = s := by
 have h1 : q ∣ s := cop_dvd (by rw [Int.gcd_comm]; exact h.cop) ⟨r, by rw [e, Int.mul_comm]⟩
 have h2 : s ∣ q := cop_dvd (by rw [Int.gcd_comm]; exact k.cop) ⟨p, by rw [← e, Int.mul_comm]⟩
 have h3 := Int.dvd_antisymm (Int.le_of_lt h.pos) (Int.le_of_lt k.pos) h1 h2
 subst h3
 exact ⟨Int.eq_of_mul_eq_mul_right (by have := h.pos; omega) e, rfl⟩
def cmn (p q : Int) : Int := if q < 0 then -(Int.gcd p q : Int) else (Int.gcd p q : Int)
def mkN (p q : Int) : Int := p / cmn p q
def mkD (p q : Int) : Int := q / cmn p q
theorem mk_low {p q : Int} (hq : q ≠ 0) : Low (mkN p q) (mkD p q) ∧ mkN p q * q = p * mkD p q := by
 have hg : 0 < Int.gcd p q := Int.gcd_pos_of_ne_zero_right p hq
 obtain ⟨p', hp⟩ := Int.gcd_dvd_left p q
 obtain ⟨q', hq'⟩ := Int.gcd_dvd_right p q
 have hc := Int.gcd_ediv_gcd_ediv_gcd hg
 have hne : ((Int.gcd p q : Nat) : Int) ≠ 0 := by omega
 have e1 : p / (Int.gcd p q : Int) = p' := Int.ediv_eq_of_eq_mul_right hne hp
 have e2 : q / (Int.gcd p q : Int) = q' := Int.ediv_eq_of_eq_mul_right hne hq'
 rw [e1, e2] at hc
 unfold mkN mkD cmn
 generalize hG : ((Int.gcd p q : Nat) : Int) = G at *
 have hG0 : 0 < G := by omega
 split
 ·rename_i hneg
  rw [Int.ediv_neg, Int.ediv_neg, e1, e2]
  have hq0 : q' < 0 := by
   rcases Int.lt_or_le q' 0 with h | h
   ·exact h
   ·have := Int.mul_nonneg (Int.le_of_lt hG0) h
    omega
  refine ⟨⟨by omega, by rw [Int.neg_gcd, Int.gcd_neg]; exact hc⟩, ?_⟩
  rw [hp, hq']
  grind
 ·rename_i hneg
  rw [e1, e2]
  have hq0 : 0 < q' := by
   rcases Int.lt_or_le 0 q' with h | h
   ·exact h
   ·have := Int.mul_nonpos_of_nonneg_of_nonpos (Int.le_of_lt hG0) h
    omega
  refine ⟨⟨hq0, hc⟩, ?_⟩
  rw [hp, hq']
  grind
theorem mk_of_low {a b p q : Int} (h : Low a b) (hq : q ≠ 0) (e : a * q = p * b) : mkN p q = a ∧ mkD p q = b := by
 obtain ⟨h1, h2⟩ := mk_low (p := p) hq
 refine low_eq h1 h ?_
 have : q * (mkN p q * b) = q * (a * mkD p q) := by grind
 exact Int.eq_of_mul_eq_mul_left hq this
theorem mk_self {p q : Int} (h : Low p q) : mkN p q = p ∧ mkD p q = q := mk_of_low h (by have := h.pos; omega) rfl
theorem mk_neg {p q : Int} (hq : q ≠ 0) : mkN (-p) (-q) = mkN p q ∧ mkD (-p) (-q) = mkD p q := by
 obtain ⟨h1, h2⟩ := mk_low (p := p) hq
 exact mk_of_low h1 (by omega) (by grind)
theorem mk_same {p q r s : Int} (hq : q ≠ 0) (hs : s ≠ 0) (e : p * s = r * q) : mkN p q = mkN r s ∧ mkD p q = mkD r s := by
 obtain ⟨h1, h2⟩ := mk_low (p := r) hs
 refine mk_of_low h1 hq ?_
 have : s * (mkN r s * q) = s * (p * mkD r s) := by grind
 exact Int.eq_of_mul_eq_mul_left hs this
theorem gcd_part {a b g : Int} (hg : g = Int.gcd a b) (h0 : b ≠ 0) : ∃ a' b', a = g * a' ∧ b = g * b' ∧ Int.gcd a' b' = 1 ∧ 0 < g ∧ a / g = a' ∧ b / g = b' := by
 obtain ⟨a', ha⟩ := Int.gcd_dvd_left a b
 obtain ⟨b', hb⟩ := Int.gcd_dvd_right a b
 have hp : 0 < Int.gcd a b := Int.gcd_pos_of_ne_zero_right a h0
 have hc := Int.gcd_ediv_gcd_ediv_gcd hp
 rw [← hg] at ha hb hc
 have hg0 : 0 < g := by omega
 have e1 : a / g = a' := by rw [ha]; exact Int.mul_ediv_cancel_left _ (by omega)
 have e2 : b / g = b' := by rw [hb]; exact Int.mul_ediv_cancel_left _ (by omega)
 rw [e1, e2] at hc
 exact ⟨a', b', ha, hb, hc, hg0, e1, e2⟩
theorem cop_of_dvd {a b c d : Int} (h : Int.gcd a b = 1) (h1 : c ∣ a) (h2 : d ∣ b) : Int.gcd c d = 1 := by
 have e1 := Int.gcd_dvd_gcd_of_dvd_left d h1
 have e2 := Int.gcd_dvd_gcd_of_dvd_right a h2
 rw [h] at e2
 exact Nat.dvd_one.1 (Nat.dvd_trans e1 e2)
theorem cop_mul {a b c : Int} (h1 : Int.gcd a c = 1) (h2 : Int.gcd b c = 1) : Int.gcd (a * b) c = 1 := by
 rw [Int.gcd_mul_right_left_of_gcd_eq_one h1, h2]
theorem cop_mul_right {a b c : Int} (h1 : Int.gcd c a = 1) (h2 : Int.gcd c b = 1) : Int.gcd c (a * b) = 1 := by
 rw [Int.gcd_mul_right_right_of_gcd_eq_one h1, h2]
theorem add_gcd {p q r s g : Int} (h : Low p q) (k : Low r s) (hg : g = Int.gcd q s) :
  Int.gcd (p * (s / g) + r * (q / g)) ((q / g) * s) = Int.gcd (p * (s / g) + r * (q / g)) g ∧ 0 < (q / g) * s ∧ 0 < g ∧ 0 < q / g ∧ 0 < s / g := by
 obtain ⟨q', s', hq, hs, hc, hg0, e1, e2⟩ := gcd_part hg (by have := k.pos; omega)
 rw [e1, e2]
 have hq0 : 0 < q' := by
  rcases Int.lt_or_le 0 q' with h1 | h1
  ·exact h1
  ·have := Int.mul_nonpos_of_nonneg_of_nonpos (Int.le_of_lt hg0) h1
   have := h.pos; omega
 have hs0 : 0 < s' := by
  rcases Int.lt_or_le 0 s' with h1 | h1
  ·exact h1
  ·have := Int.mul_nonpos_of_nonneg_of_nonpos (Int.le_of_lt hg0) h1
   have := k.pos; omega
 have c1 : Int.gcd p q' = 1 := cop_of_dvd h.cop (Int.dvd_refl _) ⟨g, by rw [hq, Int.mul_comm]⟩
 have c2 : Int.gcd r s' = 1 := cop_of_dvd k.cop (Int.dvd_refl _) ⟨g, by rw [hs, Int.mul_comm]⟩
 have t1 : Int.gcd (p * s' + r * q') q' = 1 := by
  rw [Int.gcd_add_mul_right_left]
  exact cop_mul c1 (by rw [Int.gcd_comm]; exact hc)
 have t2 : Int.gcd (p * s' + r * q') s' = 1 := by
  rw [Int.add_comm, Int.gcd_add_mul_right_left]
  exact cop_mul c2 hc
 refine ⟨?_, Int.mul_pos hq0 k.pos, hg0, hq0, hs0⟩
 rw [hs, show q' * (g * s') = (q' * s') * g by grind]
 exact Int.gcd_mul_right_right_of_gcd_eq_one (cop_mul_right t1 t2)
theorem add_low {p q r s g c : Int} (h : Low p q) (k : Low r s) (hg : g = Int.gcd q s) (hc : c = Int.gcd (p * (s / g) + r * (q / g)) g) :
  mkN (p * (s / g) + r * (q / g)) ((q / g) * s) = (p * (s / g) + r * (q / g)) / c ∧ mkD (p * (s / g) + r * (q / g)) ((q / g) * s) = ((q / g) * s) / c ∧
  mkN (p * (s / g) + r * (q / g)) ((q / g) * s) * (q * s) = (p * s + r * q) * mkD (p * (s / g) + r * (q / g)) ((q / g) * s) := by
 obtain ⟨h1, h2, h3, h4, h5⟩ := add_gcd h k hg
 obtain ⟨q', s', hq, hs, _, hg0, e1, e2⟩ := gcd_part hg (by have := k.pos; omega)
 obtain ⟨_, m2⟩ := mk_low (p := p * (s / g) + r * (q / g)) (q := (q / g) * s) (by omega)
 refine ⟨?_, ?_, ?_⟩
 ·unfold mkN cmn; rw [if_neg (by omega), h1, hc]
 ·unfold mkD cmn; rw [if_neg (by omega), h1, hc]
 ·rw [e1, e2] at *
  have e : mkN (p * s' + r * q') (q' * s) * (q * s) = g * (mkN (p * s' + r * q') (q' * s) * (q' * s)) := by rw [hq]; grind
  rw [e, m2, hs, hq]
  grind
theorem mul_low {p q r s f t : Int} (h : Low p q) (k : Low r s) (hf : f = Int.gcd p s) (ht : t = Int.gcd r q) :
  Low ((p / f) * (r / t)) ((q / t) * (s / f)) ∧ mkN (p * r) (q * s) = (p / f) * (r / t) ∧ mkD (p * r) (q * s) = (q / t) * (s / f) := by
 obtain ⟨p', s', hp, hs, c1, hf0, e1, e2⟩ := gcd_part hf (by have := k.pos; omega)
 obtain ⟨r', q', hr, hq, c2, ht0, e3, e4⟩ := gcd_part ht (by have := h.pos; omega)
 rw [e1, e2, e3, e4]
 have hq0 : 0 < q' := by
  rcases Int.lt_or_le 0 q' with h1 | h1
  ·exact h1
  ·have := Int.mul_nonpos_of_nonneg_of_nonpos (Int.le_of_lt ht0) h1
   have := h.pos; omega
 have hs0 : 0 < s' := by
  rcases Int.lt_or_le 0 s' with h1 | h1
  ·exact h1
  ·have := Int.mul_nonpos_of_nonneg_of_nonpos (Int.le_of_lt hf0) h1
   have := k.pos; omega
 have d1 : Int.gcd p' q' = 1 := cop_of_dvd h.cop ⟨f, by rw [hp, Int.mul_comm]⟩ ⟨t, by rw [hq, Int.mul_comm]⟩
 have d2 : Int.gcd r' s' = 1 := cop_of_dvd k.cop ⟨t, by rw [hr, Int.mul_comm]⟩ ⟨f, by rw [hs, Int.mul_comm]⟩
 have L : Low (p' * r') (q' * s') := ⟨Int.mul_pos hq0 hs0, cop_mul (cop_mul_right d1 c1) (cop_mul_right c2 d2)⟩
 refine ⟨L, mk_of_low L (by have := Int.mul_pos h.pos k.pos; omega) ?_⟩
 rw [hp, hq, hr, hs]
 grind
theorem low_neg {p q : Int} (h : Low p q) : Low (-p) q := ⟨h.pos, by rw [Int.neg_gcd]; exact h.cop⟩
theorem low_int (n : Int) : Low n 1 := ⟨by decide, by simp⟩
theorem low_inv {p q : Int} (h : Low p q) (h0 : p ≠ 0) : (0 < p → Low q p) ∧ (p < 0 → Low (-q) (-p)) := by
 have hc : Int.gcd q p = 1 := by rw [Int.gcd_comm]; exact h.cop
 exact ⟨fun h1 => ⟨h1, hc⟩, fun h1 => ⟨by omega, by rw [Int.neg_gcd, Int.gcd_neg]; exact hc⟩⟩
structure Is (n d P Q : Int) : Prop where
 low : Low n d
 ne : Q ≠ 0
 eq : n * Q = P * d
theorem is_self {n d : Int} (h : Low n d) : Is n d n d := ⟨h, by have := h.pos; omega, rfl⟩
theorem is_mk {p q : Int} (hq : q ≠ 0) : Is (mkN p q) (mkD p q) p q := ⟨(mk_low hq).1, hq, (mk_low hq).2⟩
theorem is_as {n d P Q R S : Int} (h : Is n d P Q) (hS : S ≠ 0) (he : P * S = R * Q) : Is n d R S := by
 refine ⟨h.low, hS, ?_⟩
 have h1 := h.eq
 have : Q * (n * S) = Q * (R * d) := by grind
 exact Int.eq_of_mul_eq_mul_left h.ne this
theorem is_add {n d P Q m e R S : Int} (h : Is n d P Q) (k : Is m e R S) : Is (mkN (n * e + m * d) (d * e)) (mkD (n * e + m * d) (d * e)) (P * S + R * Q) (Q * S) := by
 have hd := h.low.pos
 have he := k.low.pos
 have hde := Int.mul_pos hd he
 refine is_as (is_mk (by omega)) (Int.mul_ne_zero h.ne k.ne) ?_
 have h1 := h.eq
 have h2 := k.eq
 grind
theorem is_mul {n d P Q m e R S : Int} (h : Is n d P Q) (k : Is m e R S) : Is (mkN (n * m) (d * e)) (mkD (n * m) (d * e)) (P * R) (Q * S) := by
 have hd := h.low.pos
 have he := k.low.pos
 have hde := Int.mul_pos hd he
 refine is_as (is_mk (by omega)) (Int.mul_ne_zero h.ne k.ne) ?_
 have h1 := h.eq
 have h2 := k.eq
 grind
def cmpF (a b : Int) : Int := if a < b then -1 else if b < a then 1 else 0
theorem cmp_scale {a b t : Int} (ht : 0 < t) : cmpF (t * a) (t * b) = cmpF a b := by
 unfold cmpF
 have h1 : t * a < t * b ↔ a < b := ⟨fun h => Int.lt_of_mul_lt_mul_left h (Int.le_of_lt ht), fun h => Int.mul_lt_mul_of_pos_left h ht⟩
 have h2 : t * b < t * a ↔ b < a := ⟨fun h => Int.lt_of_mul_lt_mul_left h (Int.le_of_lt ht), fun h => Int.mul_lt_mul_of_pos_left h ht⟩
 simp only [h1, h2]
theorem is_cmp {n d P Q m e R S : Int} (h : Is n d P Q) (k : Is m e R S) (hQ : 0 < Q) (hS : 0 < S) : cmpF (n * e) (m * d) = cmpF (P * S) (R * Q) := by
 have hd := h.low.pos
 have he := k.low.pos
 have h1 := h.eq
 have h2 := k.eq
 rw [← cmp_scale (a := n * e) (Int.mul_pos hQ hS), ← cmp_scale (a := P * S) (Int.mul_pos hd he)]
 congr 1 <;> grind
theorem is_le {n d P Q : Int} (h : Is n d P Q) : n.natAbs ≤ P.natAbs ∧ d.natAbs ≤ Q.natAbs := by
 have hd := h.low.pos
 have h1 : d ∣ Q := cop_dvd (by rw [Int.gcd_comm]; exact h.low.cop) ⟨P, by rw [h.eq, Int.mul_comm]⟩
 obtain ⟨k, hk⟩ := h1
 have hP : P = n * k := by
  have := h.eq
  rw [hk] at this
  exact Int.eq_of_mul_eq_mul_right (by omega : d ≠ 0) (by grind)
 have hk0 : k ≠ 0 := by intro e; rw [e, Int.mul_zero] at hk; exact h.ne hk
 have hk1 : 1 ≤ k.natAbs := by omega
 rw [hP, hk, Int.natAbs_mul, Int.natAbs_mul]
 exact ⟨Nat.le_mul_of_pos_right _ hk1, Nat.le_mul_of_pos_right _ hk1⟩
end Go.Proofs.YtepakogbbomaoaaGreatDoor
