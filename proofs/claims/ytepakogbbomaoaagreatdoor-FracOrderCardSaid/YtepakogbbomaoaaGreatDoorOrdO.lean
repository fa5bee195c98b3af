/-
 The numbers of the law FracOrder: comparisons of fractions.
-/
import Derived.Test.YtepakogbbomaoaaGreatDoorLvaO
import Derived.Test.YtepakogbbomaoaaGreatDoorTxlO
namespace Go.Proofs.YtepakogbbomaoaaGreatDoor
open Go.RowKit Go.Shelf
set_option linter.unusedVariables false
set_option maxRecDepth 100000
theorem cmpZF (a b : Int) : cmpZ a b = cmpF a b := rfl
theorem cmp_diff {a b c d : Int} (h : a - b = c - d) : cmpF a b = cmpF c d := by
 unfold cmpF
 have h1 : (a < b) = (c < d) := propext ⟨fun _ => by omega, fun _ => by omega⟩
 have h2 : (b < a) = (d < c) := propext ⟨fun _ => by omega, fun _ => by omega⟩
 simp only [h1, h2]
theorem cmp_anti (a b : Int) : cmpF b a = -cmpF a b := by
 unfold cmpF
 rcases Int.lt_trichotomy a b with h | h | h
 ·rw [if_neg (by omega), if_pos h, if_pos h]; rfl
 ·subst h; simp
 ·rw [if_pos h, if_neg (by omega), if_pos h]
theorem cmp_range (a b : Int) : -1 ≤ cmpF a b ∧ cmpF a b ≤ 1 := by
 unfold cmpF
 split
 ·decide
 ·split <;> decide
theorem cmp_le {a b : Int} : cmpF a b ≤ 0 ↔ a ≤ b := by
 unfold cmpF
 split
 ·omega
 ·split <;> omega
theorem cmpF_nil {a b : Int} : cmpF a b = 0 ↔ a = b := by
 unfold cmpF
 split
 ·omega
 ·split <;> omega
theorem cmp_sign (t a b : Int) : cmpF (t * a) (t * b) = cmpF a b * cmpF t 0 := by
 rcases Int.lt_trichotomy t 0 with h | h | h
 ·have e : cmpF t 0 = -1 := by unfold cmpF; rw [if_pos h]
  have h1 : cmpF (t * a) (t * b) = cmpF ((-t) * b) ((-t) * a) := cmp_diff (by rw [Int.neg_mul, Int.neg_mul]; omega)
  rw [h1, cmp_scale (by omega), cmp_anti, e]
  omega
 ·subst h
  have e : cmpF 0 0 = 0 := rfl
  rw [Int.zero_mul, Int.zero_mul, e, Int.mul_zero]
 ·have e : cmpF t 0 = 1 := by unfold cmpF; rw [if_neg (by omega), if_pos h]
  rw [cmp_scale h, e, Int.mul_one]
theorem ord_trans {p1 q1 p2 q2 p3 q3 : Int} (h1 : 0 < q1) (h2 : 0 < q2) (h3 : 0 < q3) (a : cmpF (p1 * q2) (p2 * q1) ≤ 0) (b : cmpF (p2 * q3) (p3 * q2) ≤ 0) : cmpF (p1 * q3) (p3 * q1) ≤ 0 := by
 rw [cmp_le] at *
 have e1 : p1 * q2 * q3 ≤ p2 * q1 * q3 := Int.mul_le_mul_of_nonneg_right a (by omega)
 have e2 : p2 * q3 * q1 ≤ p3 * q2 * q1 := Int.mul_le_mul_of_nonneg_right b (by omega)
 have e3 : p1 * q3 * q2 ≤ p3 * q1 * q2 := by
  have h4 : p1 * q3 * q2 = p1 * q2 * q3 := by grind
  have h5 : p2 * q1 * q3 = p2 * q3 * q1 := by grind
  have h6 : p3 * q2 * q1 = p3 * q1 * q2 := by grind
  omega
 exact Int.le_of_mul_le_mul_right e3 h2
theorem ord_add {p1 q1 p2 q2 p3 q3 : Int} (h3 : 0 < q3) : cmpF ((p1 * q3 + p3 * q1) * (q2 * q3)) ((p2 * q3 + p3 * q2) * (q1 * q3)) = cmpF (p1 * q2) (p2 * q1) := by
 rw [← cmp_scale (t := q3 * q3) (a := p1 * q2) (b := p2 * q1) (Int.mul_pos h3 h3)]
 exact cmp_diff (by grind)
theorem ord_mul {p1 q1 p2 q2 p3 q3 : Int} (h3 : 0 < q3) : cmpF (p1 * p3 * (q2 * q3)) (p2 * p3 * (q1 * q3)) = cmpF (p1 * q2) (p2 * q1) * cmpF p3 0 := by
 have h1 : cmpF (p1 * p3 * (q2 * q3)) (p2 * p3 * (q1 * q3)) = cmpF (q3 * p3 * (p1 * q2)) (q3 * p3 * (p2 * q1)) := cmp_diff (by grind)
 have h2 : cmpF (q3 * p3) 0 = cmpF p3 0 := by
  have := cmp_scale (t := q3) (a := p3) (b := 0) h3
  rwa [Int.mul_zero] at this
 rw [h1, cmp_sign, h2]
theorem ord_low (p1 q1 p2 q2 : Int) : cmpF (p1 * (q1 + q2)) ((p1 + p2) * q1) = cmpF (p1 * q2) (p2 * q1) := cmp_diff (by grind)
theorem ord_high (p1 q1 p2 q2 : Int) : cmpF ((p1 + p2) * q2) (p2 * (q1 + q2)) = cmpF (p1 * q2) (p2 * q1) := cmp_diff (by grind)
theorem txt_cmp {p q r s : Int} (h : Nb p q) (k : Nb r s) : ((fTxt p q).toList == (fTxt r s).toList) = (cmpF (p * s) (r * q) == 0) := by
 rcases Classical.em (p * s = r * q) with e | e
 ·obtain ⟨rfl, rfl⟩ := low_eq h.low k.low e
  rw [str_beq, cmpF_nil.2 rfl]
  rfl
 ·have h1 : (cmpF (p * s) (r * q) == 0) = false := by simpa using fun h2 => e (cmpF_nil.1 h2)
  rw [h1]
  refine list_ne (fun he => e ?_)
  obtain ⟨rfl, rfl⟩ := ftext_uniq (ftext_of h) (he ▸ ftext_of k)
  rfl
def CmpC (n d m e c : Int) : Prop := ∀ (X : World) (u v : Value), FAt X u n d → FAt X v m e → Calls Tryz.prog 9 #[u, v] X (VEnd (KX (.int .i64 c)) X)
theorem FV.nb {K : Nat} {n d P Q : Int} (h : FV K n d P Q) (hK : K ≤ 16000) : Nb n d := nb_lo h.is.low h.n h.d hK
theorem cmp_fv {K L : Nat} {n d P Q m e R S : Int} (h : FV K n d P Q) (k : FV L m e R S) (hKL : K + L ≤ 16000) (hQ : 0 < Q) (hS : 0 < S) : CmpC n d m e (cmpF (P * S) (R * Q)) := fun X u v hu hv => by
 have := (fCompare_any u v n d m e X hu hv (h.fine (by omega)) (k.fine (by omega)) ((h.n.mul k.d).small hKL).notBig ((k.n.mul h.d).small (by omega)).notBig).mono (fun _ _ => v_c)
 rwa [cmpZF, is_cmp h.is k.is hQ hS] at this
end Go.Proofs.YtepakogbbomaoaaGreatDoor
