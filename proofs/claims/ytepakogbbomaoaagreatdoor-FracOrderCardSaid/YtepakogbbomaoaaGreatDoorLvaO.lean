/-
 Fractions by their values (FV); the law FracField. (tools/genLva.py makes this text.)
-/
import Derived.Test.YtepakogbbomaoaaGreatDoorLfbO
import Derived.Test.YtepakogbbomaoaaGreatDoorFcCO
namespace Go.Proofs.YtepakogbbomaoaaGreatDoor
open Go.RowKit Go.Shelf
set_option linter.unusedVariables false
set_option maxRecDepth 100000
structure FV (K : Nat) (n d P Q : Int) : Prop where
 is : Is n d P Q
 p : Lo K P
 q : Lo K Q
theorem FV.n {K : Nat} {n d P Q : Int} (h : FV K n d P Q) : Lo K n := Nat.le_trans (is_le h.is).1 h.p
theorem FV.d {K : Nat} {n d P Q : Int} (h : FV K n d P Q) : Lo K d := Nat.le_trans (is_le h.is).2 h.q
theorem FV.fine {K : Nat} {n d P Q : Int} (h : FV K n d P Q) (hK : K ≤ 16000) : Fine n d := ⟨h.is.low, (h.n.small hK).words, (h.d.small hK).words⟩
theorem lo_part {K : Nat} {a b g : Int} (h : Lo K (a * b)) : Lo K (a * (b / g)) := by
 unfold Lo at *
 rw [Int.natAbs_mul] at *
 exact Nat.le_trans (Nat.mul_le_mul_left _ (Int.natAbs_ediv_le_natAbs _ _)) h
theorem add_ok {K : Nat} {p q r s : Int} (h : Low p q) (k : Low r s) (h1 : Lo K p) (h2 : Lo K q) (h3 : Lo K r) (h4 : Lo K s) (hK : K + K + 1 ≤ 16000) :
  rAdd p q r s = (0, mkN (p * s + r * q) (q * s), mkD (p * s + r * q) (q * s)) := by
 have hq0 : q ≠ 0 := by have := h.pos; omega
 have hs0 : s ≠ 0 := by have := k.pos; omega
 have hg : 0 < Int.gcd q s := Int.gcd_pos_of_ne_zero_right q hs0
 obtain ⟨g, hgg⟩ : ∃ g : Int, g = ((Int.gcd q s : Nat) : Int) := ⟨_, rfl⟩
 have hg0 : 0 < g := by omega
 have d1 : g * (q / g) = q := Int.mul_ediv_cancel' (by rw [hgg]; exact Int.gcd_dvd_left ..)
 have d2 : g * (s / g) = s := Int.mul_ediv_cancel' (by rw [hgg]; exact Int.gcd_dvd_right ..)
 have L1 : Lo (K + K) (p * (s / g)) := lo_part (h1.mul h4)
 have L2 : Lo (K + K) (r * (q / g)) := lo_part (h3.mul h2)
 have L3 : Lo (K + K) (q / g * s) := by rw [Int.mul_comm]; exact lo_part (h4.mul h2)
 unfold rAdd
 rw [← hgg]
 generalize q / g = q1 at *
 generalize s / g = s1 at *
 unfold rIf
 rw [if_neg (fun hb => by
  rcases hb with hb | hb | hb | hb
  ·exact (L1.small (by omega)).notBig hb
  ·exact (L2.small (by omega)).notBig hb
  ·exact ((L1.add L2).small hK).notBig hb
  ·exact (L3.small (by omega)).notBig hb)]
 have hD : q1 * s ≠ 0 := by
  intro e
  have : q * s = g * (q1 * s) := by rw [← Int.mul_assoc, d1]
  rw [e, Int.mul_zero] at this
  exact (Int.mul_ne_zero hq0 hs0) this
 have e := mk_same hD (Int.mul_ne_zero hq0 hs0) (show (p * s1 + r * q1) * (q * s) = (p * s + r * q) * (q1 * s) by rw [← d1, ← d2]; grind)
 rw [e.1, e.2]
theorem FV.add {K L : Nat} {n d P Q m e R S : Int} (h : FV K n d P Q) (k : FV L m e R S) (hK : K ≤ 7000) (hL : L ≤ 7000) : ∃ n' d', FV (K + L + 1) n' d' (P * S + R * Q) (Q * S) ∧ rAdd n d m e = (0, n', d') := by
 refine ⟨_, _, ⟨is_add h.is k.is, (h.p.mul k.q).add (by rw [Nat.add_comm]; exact k.p.mul h.q), (h.q.mul k.q).more (by omega)⟩, ?_⟩
 exact add_ok (K := 7000) h.is.low k.is.low (h.n.more hK) (h.d.more hK) (k.n.more hL) (k.d.more hL) (by decide)
theorem mul_ok {K : Nat} {p q r s : Int} (h1 : Lo K (p * r)) (h2 : Lo K (q * s)) (hK : K ≤ 16000) : rMul p q r s = (0, mkN (p * r) (q * s), mkD (p * r) (q * s)) := by
 unfold rMul rIf
 rw [if_neg (fun hb => by
  rcases hb with hb | hb
  ·exact (Lo.small (K := K) (Nat.le_trans (Int.natAbs_ediv_le_natAbs _ _) h1) hK).notBig hb
  ·exact (Lo.small (K := K) (Nat.le_trans (Int.natAbs_ediv_le_natAbs _ _) h2) hK).notBig hb)]
theorem FV.mul {K L : Nat} {n d P Q m e R S : Int} (h : FV K n d P Q) (k : FV L m e R S) (hK : K + L ≤ 16000) : ∃ n' d', FV (K + L) n' d' (P * R) (Q * S) ∧ rMul n d m e = (0, n', d') :=
 ⟨_, _, ⟨is_mul h.is k.is, h.p.mul k.p, h.q.mul k.q⟩, mul_ok (h.n.mul k.n) (h.d.mul k.d) hK⟩
def BinC (f : FuncId) (n d m e : Int) (R : Int × Int × Int) : Prop := ∀ (X : World) (u v : Value), FAt X u n d → FAt X v m e → Calls Tryz.prog f #[u, v] X (VEnd (KTF R) X)
theorem fadd_v {K L : Nat} {n d P Q m e R S : Int} (h : FV K n d P Q) (k : FV L m e R S) (hK : K ≤ 7000) (hL : L ≤ 7000) : ∃ n' d', FV (K + L + 1) n' d' (P * S + R * Q) (Q * S) ∧ BinC 12 n d m e (0, n', d') := by
 obtain ⟨n', d', h1, h2⟩ := h.add k hK hL
 exact ⟨n', d', h1, fun X u v hu hv => h2 ▸ (fAdd_any u v n d m e X hu hv (h.fine (by omega)) (k.fine (by omega))).mono (fun _ _ => v_tf)⟩
theorem fmul_v {K L : Nat} {n d P Q m e R S : Int} (h : FV K n d P Q) (k : FV L m e R S) (hK : K ≤ 8000) (hL : L ≤ 8000) : ∃ n' d', FV (K + L) n' d' (P * R) (Q * S) ∧ BinC 13 n d m e (0, n', d') := by
 obtain ⟨n', d', h1, h2⟩ := h.mul k (by omega)
 exact ⟨n', d', h1, fun X u v hu hv => h2 ▸ (fMul_any u v n d m e X hu hv (h.fine (by omega)) (k.fine (by omega))).mono (fun _ _ => v_tf)⟩
theorem fr_v {l : List Int} (hr : ∀ n ∈ l, -9223372036854775808 ≤ n ∧ n ≤ 9223372036854775807) (i : Int) : FV 1240 (frP l i) (frQ l i) (frP l i) (frQ l i) := by
 obtain ⟨h1, h2, h3⟩ := fr_low hr i
 exact ⟨is_self h1, h2, h3⟩
end Go.Proofs.YtepakogbbomaoaaGreatDoor
