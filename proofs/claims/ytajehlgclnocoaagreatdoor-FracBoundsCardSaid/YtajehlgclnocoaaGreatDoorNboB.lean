/-
 Fractions in range (Nb), and the operations of package frac and of its reference side by side (OpC).
-/
import Derived.Test.YtajehlgclnocoaaGreatDoorRadB
import Derived.Test.YtajehlgclnocoaaGreatDoorLsmB
import Derived.Test.YtajehlgclnocoaaGreatDoorFcCB
namespace Go.Proofs.YtajehlgclnocoaaGreatDoor
open Go.RowKit Go.Shelf
set_option linter.unusedVariables false
set_option maxRecDepth 100000
structure Nb (p q : Int) : Prop where
 low : Low p q
 n : ¬ big p
 d : ¬ big q
theorem two_1240 {k m : Nat} (hk : k = 16384) (hm : m = 1240) : 2 ^ k ≤ 10000 ^ m := by subst hk; subst hm; decide +kernel
theorem nb_digs {z : Int} (h : ¬ big z) : (digs z.natAbs).length ≤ 1240 := by
 obtain ⟨k, hk⟩ : ∃ k : Nat, k = 16384 := ⟨_, rfl⟩
 obtain ⟨m, hm⟩ : ∃ m : Nat, m = 1240 := ⟨_, rfl⟩
 have h1 := two_1240 hk hm
 have h2 : z.natAbs < 2 ^ k := by
  rcases Nat.lt_or_ge z.natAbs (2 ^ k) with h3 | h3
  ·exact h3
  ·exact absurd ((big_pow (n := z) (k := k) (m := 512) rfl (by rw [hk])).2 h3) h
 have h3 := digs_len_le (Nat.lt_of_lt_of_le h2 h1)
 omega
theorem nb_words {z : Int} (h : ¬ big z) : (digsW z.natAbs).length ≤ 400000 := by unfold big at h; omega
theorem nb_both {z : Int} (h : ¬ big z) : Both z := ⟨h, nb_digs h, nb_words h⟩
theorem Nb.fine {p q : Int} (h : Nb p q) : Fine p q := ⟨h.low, nb_words h.n, nb_words h.d⟩
theorem Nb.rfine {p q : Int} (h : Nb p q) : RFine p q := ⟨h.low, by have := nb_digs h.n; omega, by have := nb_digs h.d; omega⟩
theorem big_le {a b : Int} (h : a.natAbs ≤ b.natAbs) (hb : ¬ big b) : ¬ big a := by
 unfold big at *
 have := wlen_le (k := 512) h (by omega)
 omega
theorem nb_zero : Nb 0 1 := ⟨low_zero, (small_zero rfl).notBig, (small_one rfl).notBig⟩
theorem nb_int {n : Int} (h : ¬ big n) : Nb n 1 := ⟨low_int n, h, (small_one rfl).notBig⟩
theorem nb_if {bad : Prop} {n d : Int} (h : ¬ bad → Nb n d) : Nb (rIf bad n d).2.1 (rIf bad n d).2.2 := by
 unfold rIf
 split
 ·exact nb_zero
 ·rename_i hb
  exact h hb
theorem quo_ne {q s : Int} (hq : q ≠ 0) : q / ((Int.gcd q s : Nat) : Int) ≠ 0 := by
 have h1 : ((Int.gcd q s : Nat) : Int) * (q / ((Int.gcd q s : Nat) : Int)) = q := Int.mul_ediv_cancel' (Int.gcd_dvd_left ..)
 intro h2
 rw [h2, Int.mul_zero] at h1
 exact hq h1.symm
theorem Nb.den {p q : Int} (h : Nb p q) : q ≠ 0 := by have := h.low.pos; omega
theorem radd_nb {p q r s : Int} (h : Nb p q) (k : Nb r s) : Nb (rAdd p q r s).2.1 (rAdd p q r s).2.2 := by
 unfold rAdd
 refine nb_if (fun hb => ⟨(mk_low (Int.mul_ne_zero (quo_ne h.den) k.den)).1, big_le (Int.natAbs_ediv_le_natAbs _ _) (fun h => hb (.inr (.inr (.inl h)))), big_le (Int.natAbs_ediv_le_natAbs _ _) (fun h => hb (.inr (.inr (.inr h))))⟩)
theorem rmul_nb {p q r s : Int} (hq : q ≠ 0) (hs : s ≠ 0) : Nb (rMul p q r s).2.1 (rMul p q r s).2.2 := by
 unfold rMul
 exact nb_if (fun hb => ⟨(mk_low (Int.mul_ne_zero hq hs)).1, fun h => hb (.inl h), fun h => hb (.inr h)⟩)
theorem rdiv_nb {p q r s : Int} (h : Nb p q) : Nb (rDiv p q r s).2.1 (rDiv p q r s).2.2 := by
 unfold rDiv
 split
 ·exact nb_zero
 ·rename_i h0
  exact rmul_nb h.den h0
theorem rmake_nb {p q : Int} (hp : ¬ big p) (hq : ¬ big q) : Nb (rMake p q).2.1 (rMake p q).2.2 := by
 unfold rMake
 split
 ·exact nb_zero
 ·rename_i h0
  exact ⟨(mk_low h0).1, big_le (Int.natAbs_ediv_le_natAbs _ _) hp, big_le (Int.natAbs_ediv_le_natAbs _ _) hq⟩
def OpC (f g : FuncId) (p q r s : Int) (R : Int × Int × Int) : Prop :=
 (∀ (X : World) (u v : Value), FAt X u p q → FAt X v r s → Calls Tryz.prog f #[u, v] X (VEnd (KTF R) X)) ∧ (∀ (X : World) (u v : Value), RFAt X u p q → RFAt X v r s → Calls Tryz.prog g #[u, v] X (VEnd (KTR R) X))
theorem c_add {p q r s : Int} (h : Nb p q) (k : Nb r s) : OpC 20 21 p q r s (rAdd p q r s) :=
 ⟨fun X u v hu hv => (fAdd_any u v p q r s X hu hv h.fine k.fine).mono (fun _ _ => v_tf), fun X u v hu hv => rAdd_ref u v p q r s X hu hv h.rfine k.rfine⟩
theorem c_mul {p q r s : Int} (h : Nb p q) (k : Nb r s) : OpC 24 25 p q r s (rMul p q r s) :=
 ⟨fun X u v hu hv => (fMul_any u v p q r s X hu hv h.fine k.fine).mono (fun _ _ => v_tf), fun X u v hu hv => rMul_ref u v p q r s X hu hv h.rfine k.rfine⟩
theorem c_div {p q r s : Int} (h : Nb p q) (k : Nb r s) : OpC 26 27 p q r s (rDiv p q r s) :=
 ⟨fun X u v hu hv => (fDiv_any u v p q r s X hu hv h.fine k.fine).mono (fun _ _ => v_tf), fun X u v hu hv => rDiv_ref u v p q r s X hu hv h.rfine k.rfine⟩
def SameC (p q : Int) : Prop := ∀ (X : World) (u v : Value), FAt X u p q → RFAt X v p q → Calls Tryz.prog 28 #[u, v] X (VEnd (KX (.bool true)) X)
theorem same_nb {p q : Int} (h : Nb p q) : SameC p q := fun X u v hu hv =>
 lSame_any u v p q X hu hv (by have := h.low.pos; omega) (nb_words h.n) (nb_words h.d) (by have := nb_digs h.n; omega) (by have := nb_digs h.d; omega)
theorem of_nb {p q : Int} (h : Nb p q) : ∀ (X : World) (u : Value), RFAt X u p q → Calls Tryz.prog 19 #[u] X (VEnd (KF p q) X) := fun X u hu =>
 (lOf_any u p q X hu h.low (nb_both h.n) (nb_both h.d)).mono (fun _ _ => v_f)
def Pair (f g : FuncId) (p q r s : Int) : Prop := ∃ R : Int × Int × Int, OpC f g p q r s R ∧ Nb R.2.1 R.2.2 ∧ SameC R.2.1 R.2.2
theorem p_add {p q r s : Int} (h : Nb p q) (k : Nb r s) : Pair 20 21 p q r s := ⟨_, c_add h k, radd_nb h k, same_nb (radd_nb h k)⟩
theorem p_mul {p q r s : Int} (h : Nb p q) (k : Nb r s) : Pair 24 25 p q r s := ⟨_, c_mul h k, rmul_nb h.den k.den, same_nb (rmul_nb h.den k.den)⟩
theorem p_div {p q r s : Int} (h : Nb p q) (k : Nb r s) : Pair 26 27 p q r s := ⟨_, c_div h k, rdiv_nb h, same_nb (rdiv_nb h)⟩
end Go.Proofs.YtajehlgclnocoaaGreatDoor
