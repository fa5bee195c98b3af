/-
 The reference of package frac: Neg, ranged, Mul, Div, Compare, Sign, Text; same of the laws.
-/
import Derived.Test.YtajehlgclnocoaaGreatDoorLfaT
import Derived.Test.YtajehlgclnocoaaGreatDoorRgAT
import Derived.Test.YtajehlgclnocoaaGreatDoorFcCT
import Derived.Test.YtajehlgclnocoaaGreatDoorNfiT
namespace Go.Proofs.YtajehlgclnocoaaGreatDoor
open Go.RowKit Go.Shelf
set_option linter.unusedVariables false
set_option maxRecDepth 100000
set_option maxHeartbeats 8000000 in
theorem rText_ref (x : Value) (p q : Int) (w : World) (hx : RFAt w x p q) (hp : (digs p.natAbs).length ≤ 400000) (hq : (digs q.natAbs).length ≤ 400000) :
  Calls Tryz.prog 48 #[x] w (VEnd (KX (.string (fTxt p q))) w) := by
 obtain ⟨s0, t0, a0, b0, m0, i0, c0, j0, w2, rfl, hw2, z2, hb2, hl0, hn0, hd0⟩ := one_rf w hx
 obtain ⟨w3, hw3⟩ : ∃ w3, w3 = w2 := ⟨_, rfl⟩
 have k3 : Below w2.heap.size w2 w3 := by rw [hw3]; exact Below.refl _ _
 have HL0 := Lib.hid (hl0.below k3)
 have HN0 := Lib.hid (nat_keeps hn0 k3)
 have HD0 := Lib.hid (nat_keeps hd0 k3)
 have HB3 := Lib.hid (below_then hb2 k3)
 rw [hw2] at hw3
 clear hx hw2 z2 hb2 hl0 hn0 hd0 k3
 have TX : Hid (∀ X S z u, S = txtS z → (digs z.natAbs).length ≤ 400000 → NAt X u z → Calls Tryz.prog 112 #[u] X fun e w' => e = .returned (.string S) ∧ Below X.heap.size X w') := Lib.hid (fun X S z u e h1 h2 => e ▸ text_any u z X h2 (by omega))
 have HP := Lib.hid hp
 have HQ := Lib.hid hq
 have LEN : ∀ z : Int, (digs z.natAbs).length ≤ 400000 → (txtS z).size ≤ 1600001 := fun z h => by have := txt_dg h (by decide); omega
 have hs1 := LEN p hp
 have hs2 := LEN q hq
 obtain ⟨⟨e0, e1, e2, e3⟩, _⟩ := cellsF HL0.out
 have CE : Hid (∀ X, Below w3.heap.size w3 X → X.cell? ⟨w.heap.size, 0, none⟩ = some (.bool s0) ∧ X.cell? ⟨w.heap.size, 1, none⟩ = some (.slice a0 m0 c0)) := Lib.hid (fun X h => by
  obtain ⟨⟨e0, e1, e2, e3⟩, _⟩ := cellsF (HL0.out.below h)
  exact ⟨e0, e1⟩)
 unfold VEnd
 rcases Classical.em (q = 1) with hq1 | hq1
 ·have T1 := Lib.hid (TX.out w3 _ q _ (show ({ data := #[49] } : ByteArray) = txtS q by rw [hq1, txt_1]) HQ.out HD0.out)
  have T2 : Hid (∀ X, Below w3.heap.size w3 X → Calls Tryz.prog 112 #[.agg #[.bool s0, .slice a0 m0 c0]] X fun e w' => e = .returned (.string (fTxt p q)) ∧ Below X.heap.size X w') := Lib.hid (fun X h => TX.out X _ p _ (by unfold fTxt; rw [if_pos hq1]) HP.out (nat_keeps HN0.out h))
  clear TX hp hq LEN hs1 hs2 hq1
  generalize fTxt p q = S at *
  go_enter Tryz.func48, Tryz.ntmps48
  go_wp2_with fail
  rw [← hw3]
  clear hw3
  go_must (refine T1.out.mono ?_)
  rintro e w4 ⟨rfl, hb4⟩
  have B4 := Lib.hid hb4
  clear T1 hb4 e0 e1 e2 e3
  obtain ⟨e0, e1⟩ := CE.out _ B4.out
  go_wp2_with fail
  go_must (refine (T2.out _ B4.out).mono ?_)
  rintro e w5 ⟨rfl, hb5⟩
  have HE := Lib.hid (below_then (below_then HB3.out B4.out) hb5)
  clear T2 hb5 e0 e1 B4
  go_wp2_with fail
  go_ret
  exact ⟨_, rfl, rfl, HE.out⟩
 ·have hne : ((txtS q).toList == [49]) = false := by
   cases hb : ((txtS q).toList == [49]) with
   | false => rfl
   | true =>
    exfalso
    have h1 : (txtS q).toList = [49] := by simpa using hb
    have h2 : strB (txtS q) = strB (txtS 1) := by rw [ByteArray.toList_eq] at h1; rw [txt_1]; unfold strB; rw [h1]
    rw [strB_txt, strB_txt] at h2
    exact hq1 (txtN_inj h2)
  have hFT : Hid (fTxt p q = txtS p ++ slashS ++ txtS q) := Lib.hid (by unfold fTxt; rw [if_neg hq1])
  have hsl : slashS.size = 1 := rfl
  have hn1 : ¬ 9223372036854775807 < (txtS p).size + 1 := by omega
  have hn2 : ¬ 9223372036854775807 < (txtS p).size + slashS.size := by omega
  have hn3 : ¬ 9223372036854775807 < (txtS p).size + 1 + (txtS q).size := by omega
  have hn4 : ¬ 9223372036854775807 < (txtS p).size + slashS.size + (txtS q).size := by omega
  have T1 := Lib.hid (TX.out w3 _ q _ rfl HQ.out HD0.out)
  have T2 : Hid (∀ X, Below w3.heap.size w3 X → Calls Tryz.prog 112 #[.agg #[.bool s0, .slice a0 m0 c0]] X fun e w' => e = .returned (.string (txtS p)) ∧ Below X.heap.size X w') := Lib.hid (fun X h => TX.out X _ p _ rfl HP.out (nat_keeps HN0.out h))
  clear TX hp hq LEN hs1 hs2 hsl hq1
  rw [hFT.out]
  unfold slashS at *
  generalize txtS p = P at *
  generalize txtS q = S at *
  go_enter Tryz.func48, Tryz.ntmps48
  go_wp2_with fail
  rw [← hw3]
  clear hw3
  go_must (refine T1.out.mono ?_)
  rintro e w4 ⟨rfl, hb4⟩
  have B4 := Lib.hid hb4
  clear T1 hb4 e0 e1 e2 e3
  obtain ⟨e0, e1⟩ := CE.out _ B4.out
  go_wp2_with fail
  go_must (refine (T2.out _ B4.out).mono ?_)
  rintro e w5 ⟨rfl, hb5⟩
  have HE := Lib.hid (below_then (below_then HB3.out B4.out) hb5)
  clear T2 hb5 e0 e1 B4
  go_wp2_with fail
  go_ret
  exact ⟨_, rfl, rfl, HE.out⟩
end Go.Proofs.YtajehlgclnocoaaGreatDoor
