/-
 Fractions in range (Nb), and the operations of package frac and of its reference side by side (OpC).
-/
import Derived.Test.YtepakogbbomaoaaGreatDoorGrwO
import Derived.Test.YtepakogbbomaoaaGreatDoorRfxO
import Derived.Test.YtepakogbbomaoaaGreatDoorLfaO
import Derived.Test.YtepakogbbomaoaaGreatDoorRgAO
import Derived.Test.YtepakogbbomaoaaGreatDoorFcCO
namespace Go.Proofs.YtepakogbbomaoaaGreatDoor
open Go.RowKit Go.Shelf
set_option linter.unusedVariables false
set_option maxRecDepth 100000
structure Nb (p q : Int) : Prop where
 low : Low p q
 n : ¬ big p
 d : ¬ big q
theorem two_1240 {k m : Nat} (hk : k = 16384) (hm : m = 1240) : 2 ^ k ≤ 10000 ^ m := by subst hk; subst hm; decide +kernel
theorem nb_digs {z : Int} (h : ¬ big z) : (digs z.natAbs).length ≤ 1240 := by
 obtain ⟨k, hk⟩ : ∃ k : Nat, k = 16384 := ⟨_, rfl⟩
 obtain ⟨m, hm⟩ : ∃ m : Nat, m = 1240 := ⟨_, rfl⟩
 have h1 := two_1240 hk hm
 have h2 : z.natAbs < 2 ^ k := by
  rcases Nat.lt_or_ge z.natAbs (2 ^ k) with h3 | h3
  ·exact h3
  ·exact absurd ((big_pow (n := z) (k := k) (m := 512) rfl (by rw [hk])).2 h3) h
 have h3 := digs_len_le (Nat.lt_of_lt_of_le h2 h1)
 omega
theorem nb_words {z : Int} (h : ¬ big z) : (digsW z.natAbs).length ≤ 400000 := by unfold big at h; omega
theorem nb_both {z : Int} (h : ¬ big z) : Both z := ⟨h, nb_digs h, nb_words h⟩
theorem Nb.rfine {p q : Int} (h : Nb p q) : RFine p q := ⟨h.low, by have := nb_digs h.n; omega, by have := nb_digs h.d; omega⟩
theorem nb_lo {p q : Int} {K : Nat} (h : Low p q) (hp : Lo K p) (hq : Lo K q) (hK : K ≤ 16000) : Nb p q := ⟨h, (hp.small hK).notBig, (hq.small hK).notBig⟩
theorem of_nb {p q : Int} (h : Nb p q) : ∀ (X : World) (u : Value), RFAt X u p q → Calls Tryz.prog 6 #[u] X (VEnd (KF p q) X) := fun X u hu =>
 (lOf_any u p q X hu h.low (nb_both h.n) (nb_both h.d)).mono (fun _ _ => v_f)
end Go.Proofs.YtepakogbbomaoaaGreatDoor
