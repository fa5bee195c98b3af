/-
 What the law FracTexts needs: bytes that a string was converted to (BA), strings in a slice (SRowT), both packages' Parse side by side.
-/
import Derived.Test.YtepakogbbomaoaaGreatDoorRpaW
import Derived.Test.YtepakogbbomaoaaGreatDoorLfbW
namespace Go.Proofs.YtepakogbbomaoaaGreatDoor
open Go.RowKit Go.Shelf
set_option linter.unusedVariables false
set_option maxRecDepth 100000
theorem ftxt_size {p q : Int} {K : Nat} (hp : Lo K p) (hq : Lo K q) (hK : K ≤ 2000) : 1 ≤ (fTxt p q).size ∧ (fTxt p q).size ≤ 2000 := by
 have h1 := lo_dg2 hp
 have h2 := lo_dg2 hq
 have h3 := txt_dg (L := 160) (n := p) (by omega) (by decide)
 have h4 := txt_dg (L := 160) (n := q) (by omega) (by decide)
 have h5 : 1 ≤ (txtS p).size := by
  rw [← strB_length, strB_txt]
  rcases txt_good p with ⟨_, h, _⟩ | ⟨_, h, _⟩
  ·rw [h]; simp
  ·rw [h]; exact List.length_pos_iff.2 (decN_ne _)
 unfold fTxt
 split
 ·omega
 ·have h6 : (txtS p ++ slashS ++ txtS q).size = (txtS p).size + 1 + (txtS q).size := by
   rw [ByteArray.size_append, ByteArray.size_append]; rfl
  omega
theorem ftext_of {p q : Int} (h : Nb p q) : FText (fTxt p q) p q := ⟨h.low, h.n, h.d, strB_fTxt p q⟩
end Go.Proofs.YtepakogbbomaoaaGreatDoor
