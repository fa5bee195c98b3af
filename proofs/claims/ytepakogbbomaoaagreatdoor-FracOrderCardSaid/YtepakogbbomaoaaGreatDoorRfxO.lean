/-
 The reference of package frac: Neg, ranged, Mul, Div, Compare, Sign, Text; same of the laws.
-/
import Derived.Test.YtepakogbbomaoaaGreatDoorLfaO
import Derived.Test.YtepakogbbomaoaaGreatDoorRgRO
import Derived.Test.YtepakogbbomaoaaGreatDoorFcCO
import Derived.Test.YtepakogbbomaoaaGreatDoorCmrO
import Derived.Test.YtepakogbbomaoaaGreatDoorNmQO
import Derived.Test.YtepakogbbomaoaaGreatDoorBgIO
import Derived.Test.YtepakogbbomaoaaGreatDoorTxAO
namespace Go.Proofs.YtepakogbbomaoaaGreatDoor
open Go.RowKit Go.Shelf
set_option linter.unusedVariables false
set_option maxRecDepth 100000
set_option maxHeartbeats 8000000 in
theorem rCompare_ref (x y : Value) (p q r s : Int) (w : World) (hx : RFAt w x p q) (hy : RFAt w y r s) (f1 : RFine p q) (f2 : RFine r s) :
  Calls Tryz.prog 10 #[x, y] w (CmpEnd (cmpZ (p * s) (r * q)) w) := by
 obtain ⟨s0, t0, a0, b0, m0, i0, c0, j0, s1, t1, a1, b1, m1, i1, c1, j1, w2, rfl, rfl, hw2, z2, hb2, hl0, hl1, hn0, hn1, hd0, hd1⟩ := two_rf w hx hy
 obtain ⟨w3, hw3⟩ : ∃ w3, w3 = w2 := ⟨_, rfl⟩
 have k3 : Below w2.heap.size w2 w3 := by rw [hw3]; exact Below.refl _ _
 have HL0 := Lib.hid (hl0.below k3)
 have HN0 := Lib.hid (nat_keeps hn0 k3)
 have HD0 := Lib.hid (nat_keeps hd0 k3)
 have HL1 := Lib.hid (hl1.below k3)
 have HN1 := Lib.hid (nat_keeps hn1 k3)
 have HD1 := Lib.hid (nat_keeps hd1 k3)
 have HB3 := Lib.hid (below_then hb2 k3)
 rw [hw2] at hw3
 clear hx hy hw2 z2 hb2 hl0 hn0 hd0 k3 hl1 hn1 hd1
 have CELLS : Hid (∀ X : World, Below w3.heap.size w3 X → X.cell? ⟨w.heap.size, 0, none⟩ = some (.bool s0) ∧ X.cell? ⟨w.heap.size, 1, none⟩ = some (.slice a0 m0 c0) ∧ X.cell? ⟨w.heap.size, 2, none⟩ = some (.bool t0) ∧ X.cell? ⟨w.heap.size, 3, none⟩ = some (.slice b0 i0 j0) ∧ X.cell? ⟨w.heap.size + 1, 0, none⟩ = some (.bool s1) ∧ X.cell? ⟨w.heap.size + 1, 1, none⟩ = some (.slice a1 m1 c1) ∧ X.cell? ⟨w.heap.size + 1, 2, none⟩ = some (.bool t1) ∧ X.cell? ⟨w.heap.size + 1, 3, none⟩ = some (.slice b1 i1 j1)) := Lib.hid (fun X h => by
  obtain ⟨⟨e0, e1, e2, e3⟩, _⟩ := cellsF (HL0.out.below h)
  obtain ⟨⟨e4, e5, e6, e7⟩, _⟩ := cellsF (HL1.out.below h)
  exact ⟨e0, e1, e2, e3, e4, e5, e6, e7⟩)
 have C9 : Hid (∀ X, Below w3.heap.size w3 X → Calls Tryz.prog 40 #[.agg #[.bool s0, .slice a0 m0 c0], .agg #[.bool t1, .slice b1 i1 j1]] X (VEnd (KN (p * s)) X)) := Lib.hid (fun X h => (mul_any _ _ _ _ X (nat_keeps HN0.out h) (nat_keeps HD1.out h) (by have := f1.len; omega) (by have := f2.wide; omega)).mono (fun _ _ => v_n))
 have C14 : Hid (∀ X, Below w3.heap.size w3 X → Calls Tryz.prog 40 #[.agg #[.bool s1, .slice a1 m1 c1], .agg #[.bool t0, .slice b0 i0 j0]] X (VEnd (KN (r * q)) X)) := Lib.hid (fun X h => (mul_any _ _ _ _ X (nat_keeps HN1.out h) (nat_keeps HD0.out h) (by have := f2.len; omega) (by have := f1.wide; omega)).mono (fun _ _ => v_n))
 have L9 := dg_mul f1.len f2.wide
 have L14 := dg_mul f2.len f1.wide
 obtain ⟨c, hc⟩ : ∃ c, c = cmpZ (p * s) (r * q) := ⟨_, rfl⟩
 have C15 : Hid (∀ X x9 x14, Below w3.heap.size w3 X → KN (p * s) X x9 → KN (r * q) X x14 → Calls Tryz.prog 39 #[x9, x14] X (VEnd (KX (.int .i64 c)) X)) := Lib.hid (fun X x9 x14 _ h1 h2 => by
  have := compare_any _ _ _ _ X h1 h2 (by omega) (by omega)
  rw [cmp_one, ← hc] at this
  exact this.mono (fun _ _ => v_c))
 rw [← hc]
 clear f1 f2 L9 L14 hc
 go_enter Tryz.func10, Tryz.ntmps10
 go_wp2_with fail
 rw [← hw3]
 clear hw3
 refine regRCo (fun _ _ d _ _ h => by cases d <;> exact h) CELLS C9 C14 C15 ?_
 intro X x9 x14 hB _ _
 clear CELLS C9 C14 C15
 have HE := Lib.hid (below_then HB3.out hB.out)
 go_wp2_with fail
 go_ret
 exact ⟨rfl, HE.out⟩
set_option maxHeartbeats 8000000 in
theorem rSign_ref (x : Value) (p q : Int) (w : World) (hx : RFAt w x p q) :
  Calls Tryz.prog 8 #[x] w (CmpEnd (cmpZ p 0) w) := by
 obtain ⟨s0, t0, a0, b0, m0, i0, c0, j0, w2, rfl, hw2, z2, hb2, hl0, hn0, hd0⟩ := one_rf w hx
 obtain ⟨w3, hw3⟩ : ∃ w3, w3 = w2 := ⟨_, rfl⟩
 have k3 : Below w2.heap.size w2 w3 := by rw [hw3]; exact Below.refl _ _
 have HL0 := Lib.hid (hl0.below k3)
 have HN0 := Lib.hid (nat_keeps hn0 k3)
 have HD0 := Lib.hid (nat_keeps hd0 k3)
 have HB3 := Lib.hid (below_then hb2 k3)
 rw [hw2] at hw3
 clear hx hw2 z2 hb2 hl0 hn0 hd0 k3
 have sg := nat_sign HN0.out
 have HE := Lib.hid HB3.out
 rcases Classical.em (p = 0) with h0 | h0
 ·obtain rfl : m0 = 0 := zero_len HN0.out h0
  have HC : Hid (cmpZ p 0 = 0) := Lib.hid (by rw [h0]; rfl)
  clear h0 sg
  go_enter Tryz.func8, Tryz.ntmps8
  go_wp2_with fail
  rw [← hw3]
  go_ret
  exact ⟨by rw [HC.out]; rfl, HE.out⟩
 ·have hm : ¬ m0 = 0 := len_pos HN0.out h0
  rcases (by omega : p < 0 ∨ 0 < p) with hs | hs
  ·have HC : Hid (cmpZ p 0 = -1) := Lib.hid (by unfold cmpZ; rw [if_pos hs])
   obtain rfl : s0 = true := by rw [sg]; simp; omega
   clear h0 hs sg
   go_enter Tryz.func8, Tryz.ntmps8
   go_wp2_with fail
   rw [← hw3]
   go_ret
   exact ⟨by rw [HC.out]; rfl, HE.out⟩
  ·have HC : Hid (cmpZ p 0 = 1) := Lib.hid (by unfold cmpZ; rw [if_neg (by omega), if_pos hs])
   obtain rfl : s0 = false := by rw [sg]; simp; omega
   clear h0 hs sg
   go_enter Tryz.func8, Tryz.ntmps8
   go_wp2_with fail
   rw [← hw3]
   go_ret
   exact ⟨by rw [HC.out]; rfl, HE.out⟩
end Go.Proofs.YtepakogbbomaoaaGreatDoor
