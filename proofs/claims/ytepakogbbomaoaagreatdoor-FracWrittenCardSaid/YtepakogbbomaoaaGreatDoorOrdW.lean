/-
 The numbers of the law FracOrder: comparisons of fractions.
-/
import Derived.Test.YtepakogbbomaoaaGreatDoorLvaW
import Derived.Test.YtepakogbbomaoaaGreatDoorTxlW
namespace Go.Proofs.YtepakogbbomaoaaGreatDoor
open Go.RowKit Go.Shelf
set_option linter.unusedVariables false
set_option maxRecDepth 100000
theorem cmpZF (a b : Int) : cmpZ a b = cmpF a b := rfl
theorem cmpF_nil {a b : Int} : cmpF a b = 0 ↔ a = b := by
 unfold cmpF
 split
 ·omega
 ·split <;> omega
theorem txt_cmp {p q r s : Int} (h : Nb p q) (k : Nb r s) : ((fTxt p q).toList == (fTxt r s).toList) = (cmpF (p * s) (r * q) == 0) := by
 rcases Classical.em (p * s = r * q) with e | e
 ·obtain ⟨rfl, rfl⟩ := low_eq h.low k.low e
  rw [str_beq, cmpF_nil.2 rfl]
  rfl
 ·have h1 : (cmpF (p * s) (r * q) == 0) = false := by simpa using fun h2 => e (cmpF_nil.1 h2)
  rw [h1]
  refine list_ne (fun he => e ?_)
  obtain ⟨rfl, rfl⟩ := ftext_uniq (ftext_of h) (he ▸ ftext_of k)
  rfl
def CmpC (n d m e c : Int) : Prop := ∀ (X : World) (u v : Value), FAt X u n d → FAt X v m e → Calls Tryz.prog 9 #[u, v] X (VEnd (KX (.int .i64 c)) X)
theorem cmp_fv {K L : Nat} {n d P Q m e R S : Int} (h : FV K n d P Q) (k : FV L m e R S) (hKL : K + L ≤ 16000) (hQ : 0 < Q) (hS : 0 < S) : CmpC n d m e (cmpF (P * S) (R * Q)) := fun X u v hu hv => by
 have := (fCompare_any u v n d m e X hu hv (h.fine (by omega)) (k.fine (by omega)) ((h.n.mul k.d).small hKL).notBig ((k.n.mul h.d).small (by omega)).notBig).mono (fun _ _ => v_c)
 rwa [cmpZF, is_cmp h.is k.is hQ hS] at this
end Go.Proofs.YtepakogbbomaoaaGreatDoor
