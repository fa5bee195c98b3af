/-
  Package wide: Div by 0; comparing equal integers, and the texts of integers in boxes, as the laws want them.
-/
import Derived.Test.YtjoablphojkimaaGreatDoorBgO
import Derived.Test.YtjoablphojkimaaGreatDoorLwa
namespace Go.Proofs.YtjoablphojkimaaGreatDoor
open Go.RowKit Go.Shelf
set_option linter.unusedVariables false
set_option maxRecDepth 100000

def DivZEnd (w : World) (e : Ending) (w' : World) : Prop := ∃ bq aq mq kq br ar mr kr, e = .returned (.tuple #[.agg #[.bool bq, .slice aq mq kq], .agg #[.bool br, .slice ar mr kr], .int .i64 1]) ∧ IAt w' (.agg #[.bool bq, .slice aq mq kq]) 0 ∧ IAt w' (.agg #[.bool br, .slice ar mr kr]) 0 ∧ Below w.heap.size w w'
set_option maxHeartbeats 4000000 in
theorem wDiv_zero (x y : Value) (a : Int) (w : World) (hx : IAt w x a) (hy : IAt w y 0) :
    Calls Tryz.prog 22 #[x, y] w (DivZEnd w) := by
  obtain ⟨ax, cx, rfl, hrx⟩ := iat_form hx
  obtain ⟨ay, cy, rfl, hry⟩ := iat_form hy
  rw [show (digsW (Int.natAbs 0)).length = 0 by rw [Int.natAbs_zero, digs_zeroW]; rfl, show decide ((0 : Int) < 0) = false from rfl]
  generalize decide (a < 0) = na at *
  generalize (digsW a.natAbs).length = la at *
  obtain ⟨w2, hw2⟩ : ∃ w2, w2 = (((w.alloc (.cells #[.bool na, .slice ax la cx] 29)).alloc (.cells #[.bool false, .slice ay 0 cy] 29)).alloc (.cells #[.bool false, .slice none 0 0] 29)).alloc (.cells #[.bool false, .slice none 0 0] 29) := ⟨_, rfl⟩
  have hB4 : B4 w2 w.heap.size na false ax ay la 0 cx cy := by rw [hw2]; exact b4_new _ _ _ _ _ _ _ _ _
  have hbe : Below w.heap.size w w2 := by rw [hw2]; exact ((((Below.refl _ w).alloc (Nat.le_refl _) _).alloc (by simp) _).alloc (by simp; try omega) _).alloc (by simp; try omega) _
  have HBE := Lib.hid hbe
  obtain ⟨d0, d1, _, _⟩ := cells2 hB4.y
  obtain ⟨f0, f1, f2, f3⟩ := cells2 hB4.q
  obtain ⟨g0, g1, g2, g3⟩ := cells2 hB4.r
  have HB4 := Lib.hid hB4
  have HZ : Hid (∀ W, IAt W (.agg #[.bool false, .slice none 0 0]) 0) := Lib.hid iat_zero
  clear hx hy hrx hry hbe hB4
  go_enter Tryz.func22, Tryz.ntmps22
  subst hw2
  go_wp2_with fail
  refine bodyPost_ret (v := .tuple #[.agg #[.bool false, .slice none 0 0], .agg #[.bool false, .slice none 0 0], .int .i64 1]) (by simp [results, Tryz.results22, go_sem, f0, f1, g0, g1]) rfl ?_
  exact ⟨_, _, _, _, _, _, _, _, rfl, HZ.out _, HZ.out _, HBE.out⟩
end Go.Proofs.YtjoablphojkimaaGreatDoor
