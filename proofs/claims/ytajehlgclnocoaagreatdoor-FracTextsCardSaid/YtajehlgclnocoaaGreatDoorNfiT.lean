/-
 The reference of package wide: Fits.
-/
import Derived.Test.YtajehlgclnocoaaGreatDoorCmrT
import Derived.Test.YtajehlgclnocoaaGreatDoorNraT
import Derived.Test.YtajehlgclnocoaaGreatDoorTxAT
namespace Go.Proofs.YtajehlgclnocoaaGreatDoor
open Go.RowKit Go.Shelf
set_option linter.unusedVariables false
set_option maxRecDepth 100000
theorem two_less {k m : Nat} (hk : k = 16384) (hm : m = 1229) : 10000 ^ m < 2 ^ k := by subst hk; subst hm; decide +kernel
theorem big_digs {n : Int} (h : big n) : 1230 ≤ (digs n.natAbs).length := by
 obtain ⟨k, hk⟩ : ∃ k, k = 16384 := ⟨_, rfl⟩
 obtain ⟨m, hm⟩ : ∃ m, m = 1229 := ⟨_, rfl⟩
 have h1 := (big_pow (n := n) (k := k) (m := 512) rfl (by rw [hk])).1 h
 have h2 := two_less hk hm
 have h3 := digs_len_lt n.natAbs
 rcases Nat.lt_or_ge (digs n.natAbs).length 1230 with h4 | h4
 ·have h5 : 10000 ^ (digs n.natAbs).length ≤ 10000 ^ m := Nat.pow_le_pow_right (by decide) (by omega)
  omega
 ·exact h4
set_option maxHeartbeats 4000000 in
theorem fits_bool (x : Value) (z : Int) (r : Bool) (w : World) (hx : NAt w x z) (hs : (digs z.natAbs).length ≤ 500000) (hr : (r = true ∧ ¬ big z) ∨ (r = false ∧ big z)) :
  Calls Tryz.prog 106 #[x] w fun e w' => e = .returned (.bool r) ∧ Below w.heap.size w w' := by
 obtain ⟨s, a, m, c, rfl⟩ := nat_shape hx
 obtain ⟨w2, hw2⟩ : ∃ w2, w2 = w.alloc (.cells #[.bool s, .slice a m c] 24) := ⟨_, rfl⟩
 have hb2 : Below w.heap.size w w2 := by rw [hw2]; exact below_one _ _
 have hl1 : Laid w2 w.heap.size 24 [.bool s, .slice a m c] := by rw [hw2]; exact Laid.new _ _ _
 have HM : Hid (m = (digs z.natAbs).length) := Lib.hid (row_lenN (nat_row2 hx)).symm
 have HROW : Hid (Row .i64 w2 (.slice a m c) (natI (digs z.natAbs))) := Lib.hid (row_keeps (nat_row2 hx) hb2)
 have HB2 := Lib.hid hb2
 have HL1 := Lib.hid hl1
 have hm : m ≤ 500000 := by have := HM.out; omega
 obtain ⟨c0, c1, _, _⟩ := cells2 hl1
 clear hb2 hl1 hx
 rcases Nat.lt_or_ge m 1230 with h | h
 ·obtain rfl : r = true := by
   rcases hr with ⟨h1, _⟩ | ⟨_, h1⟩
   ·exact h1
   ·have := big_digs h1; have := HM.out; omega
  have hi : (m : Int) < 1230 := by omega
  clear hr
  go_enter Tryz.func106, Tryz.ntmps106
  go_wp2_with fail
  rw [← hw2]
  go_ret
  exact ⟨rfl, HB2.out⟩
 ·obtain ⟨E, hE⟩ : ∃ E : Nat, E = 16384 := ⟨_, rfl⟩
  have hi : ¬ (m : Int) < 1230 := by omega
  have PW := power_any E w2 (by omega)
  have HPD : Hid ((digs (2 ^ E)).length ≤ 500000) := Lib.hid (by have := pow_digs2 (E := E) (by omega); rw [Int.natAbs_natCast] at this; omega)
  have HBG : Hid (big z ↔ 2 ^ E ≤ z.natAbs) := Lib.hid (big_pow (n := z) (k := E) (m := 512) rfl (by rw [hE]))
  obtain ⟨Q, hQ⟩ : ∃ Q : Int, (E : Int) = Q := ⟨_, rfl⟩
  rw [hQ] at PW
  obtain rfl : Q = 16384 := by omega
  clear hQ hE
  generalize 2 ^ E = B at *
  unfold NEnd at PW
  have HPW := Lib.hid PW
  obtain ⟨q, hq⟩ : ∃ q, q = cmpN z.natAbs B := ⟨_, rfl⟩
  have HC : Hid ((r = true ∧ q = -1) ∨ (r = false ∧ q = 0) ∨ (r = false ∧ q = 1)) := Lib.hid (by
   have h1 := HBG.out
   rw [hq]
   unfold cmpN
   rcases hr with ⟨h2, h3⟩ | ⟨h2, h3⟩
   ·refine .inl ⟨h2, ?_⟩
    rw [if_pos (by have := mt h1.2 h3; omega)]
   ·have := h1.1 h3
    rw [if_neg (by omega)]
    split
    ·exact .inr (.inr ⟨h2, rfl⟩)
    ·exact .inr (.inl ⟨h2, rfl⟩))
  have CMP : Hid (∀ w1 v, Below w2.heap.size w2 w1 → Row .i64 w1 v (natI (digs B)) → Calls Tryz.prog 152 #[.slice a m c, v] w1 (CmpEnd q w1)) := Lib.hid (fun w1 v h1 h2 => hq ▸ compared_any _ _ _ _ w1 (row_keeps HROW.out h1) h2 (by omega) (by have := HPD.out; omega))
  unfold CmpEnd at CMP
  clear PW hq hr HPD HBG
  rcases HC.out with ⟨rfl, rfl⟩ | ⟨rfl, rfl⟩ | ⟨rfl, rfl⟩
  all_goals
   clear HC
   go_enter Tryz.func106, Tryz.ntmps106
   go_wp2_with fail
   rw [← hw2]
   go_must (refine HPW.out.mono ?_)
   rintro e w4 ⟨x4, rfl, hx4, hb4⟩
   obtain ⟨b4, p4, n4, q4, rfl⟩ := nat_shape hx4
   have hal := below_one w4 (.cells #[.bool b4, .slice p4 n4 q4] 24)
   have hb5 := below_then hb4 hal
   have CC := CMP.out _ (.slice p4 n4 q4) hb5 (row_keeps (by have := nat_row2 hx4; rwa [Int.natAbs_natCast] at this) hal)
   have HCC := Lib.hid CC
   obtain ⟨d0, d1, _, _⟩ := cells2 (HL1.out.below hb5)
   obtain ⟨e0, e1, _, _⟩ := cells2 (Laid.new w4 24 [.bool b4, .slice p4 n4 q4])
   have HB5 := Lib.hid (below_then HB2.out hb5)
   clear hx4 hb4 hal hb5 CC CMP HPW c0 c1
   go_wp2_with fail
   generalize w4.alloc (.cells #[.bool b4, .slice p4 n4 q4] 24) = w5 at *
   go_must (refine HCC.out.mono ?_)
   rintro e w6 ⟨rfl, hb6⟩
   have HE := Lib.hid (below_then HB5.out hb6)
   clear hb6 HCC
   go_wp2_with fail
   go_ret
   exact ⟨rfl, HE.out⟩
end Go.Proofs.YtajehlgclnocoaaGreatDoor
