/-
 The laws of package frac: same.
-/
import Derived.Test.YtajehlgclnocoaaGreatDoorLfaT
import Derived.Test.YtajehlgclnocoaaGreatDoorRgST
namespace Go.Proofs.YtajehlgclnocoaaGreatDoor
open Go.RowKit Go.Shelf
set_option linter.unusedVariables false
set_option maxRecDepth 100000
set_option maxHeartbeats 8000000 in
theorem lSame_any (x y : Value) (p q : Int) (w : World) (hx : FAt w x p q) (hy : RFAt w y p q) (h1 : 1 ≤ q) (wp : (digsW p.natAbs).length ≤ 400000) (wq : (digsW q.natAbs).length ≤ 400000) (dp : (digs p.natAbs).length ≤ 400000) (dq : (digs q.natAbs).length ≤ 400000) :
  Calls Tryz.prog 28 #[x, y] w (VEnd (KX (.bool true)) w) := by
 obtain ⟨s0, t0, a0, b0, m0, i0, c0, j0, w1, rfl, hw1, z1, hb1, hl0, hf0⟩ := one_f w hx
 obtain ⟨s1, t1, a1, b1, m1, i1, c1, j1, w3, rfl, hw3, z3, k3, hl1, hn1, hd1⟩ := one_rf w1 (rf_keeps hy hb1)
 rw [z1] at hl1
 have HL0 := Lib.hid (hl0.below k3)
 have HL1 := Lib.hid hl1
 have HF0 := Lib.hid (fat_keeps hf0 k3)
 have HN1 := Lib.hid hn1
 have HD1 := Lib.hid hd1
 have HB3 := Lib.hid (below_then hb1 k3)
 rw [hw1] at hw3
 have CELLS : Hid (∀ X : World, Below w3.heap.size w3 X → X.cell? ⟨w.heap.size, 0, none⟩ = some (.bool s0) ∧ X.cell? ⟨w.heap.size, 1, none⟩ = some (.slice a0 m0 c0) ∧ X.cell? ⟨w.heap.size, 2, none⟩ = some (.bool t0) ∧ X.cell? ⟨w.heap.size, 3, none⟩ = some (.slice b0 i0 j0) ∧ X.cell? ⟨w.heap.size + 1, 0, none⟩ = some (.bool s1) ∧ X.cell? ⟨w.heap.size + 1, 1, none⟩ = some (.slice a1 m1 c1) ∧ X.cell? ⟨w.heap.size + 1, 2, none⟩ = some (.bool t1) ∧ X.cell? ⟨w.heap.size + 1, 3, none⟩ = some (.slice b1 i1 j1)) := Lib.hid (fun X h => by
  obtain ⟨⟨e0, e1, e2, e3⟩, _⟩ := cellsF (HL0.out.below h)
  obtain ⟨⟨e4, e5, e6, e7⟩, _⟩ := cellsF (HL1.out.below h)
  exact ⟨e0, e1, e2, e3, e4, e5, e6, e7⟩)
 have C6 : Hid (∀ X, Below w3.heap.size w3 X → Calls Tryz.prog 46 #[.agg #[.bool s0, .slice a0 m0 c0, .bool t0, .slice b0 i0 j0]] X (VEnd (KI p) X)) := Lib.hid (fun X h => (num_any _ p q X (fat_keeps HF0.out h) h1 wp wq).mono (fun _ _ => v_i))
 have C14 : Hid (∀ X, Below w3.heap.size w3 X → Calls Tryz.prog 47 #[.agg #[.bool s0, .slice a0 m0 c0, .bool t0, .slice b0 i0 j0]] X (VEnd (KI q) X)) := Lib.hid (fun X h => (den_any _ p q X (fat_keeps HF0.out h) h1 wp wq).mono (fun _ _ => v_i))
 have C7 : Hid (∀ X x6, Below w3.heap.size w3 X → KI p X x6 → Calls Tryz.prog 111 #[x6] X (VEnd (KX (.string (txtS p))) X)) := Lib.hid (fun X x6 h k => (wString_any _ p X k wp).mono (fun _ _ => v_s))
 have C15 : Hid (∀ X x14, Below w3.heap.size w3 X → KI q X x14 → Calls Tryz.prog 111 #[x14] X (VEnd (KX (.string (txtS q))) X)) := Lib.hid (fun X x14 h k => (wString_any _ q X k wq).mono (fun _ _ => v_s))
 have C10 : Hid (∀ X, Below w3.heap.size w3 X → Calls Tryz.prog 112 #[.agg #[.bool s1, .slice a1 m1 c1]] X (VEnd (KX (.string (txtS p))) X)) := Lib.hid (fun X h => (text_any _ p X (nat_keeps HN1.out h) (by omega)).mono (fun _ _ h => v_s h))
 have C18 : Hid (∀ X, Below w3.heap.size w3 X → Calls Tryz.prog 112 #[.agg #[.bool t1, .slice b1 i1 j1]] X (VEnd (KX (.string (txtS q))) X)) := Lib.hid (fun X h => (text_any _ q X (nat_keeps HD1.out h) (by omega)).mono (fun _ _ h => v_s h))
 clear hx hy h1 wp wq dp dq hw1 z1 hb1 hl0 hf0 z3 k3 hl1 hn1 hd1
 generalize txtS p = S1 at *
 generalize txtS q = S2 at *
 go_enter Tryz.func28, Tryz.ntmps28
 go_wp2_with fail
 rw [← hw3]
 clear hw3
 refine regLSa (fun _ _ d _ _ h => by cases d <;> exact h) CELLS C6 C7 C10 C14 C15 C18 ?_
 intro X x6 x14 hB _ _
 have HE := Lib.hid (below_then HB3.out hB.out)
 go_wp2_with fail
 go_ret
 exact ⟨_, rfl, rfl, HE.out⟩
end Go.Proofs.YtajehlgclnocoaaGreatDoor
