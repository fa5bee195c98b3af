/-
  Words that the laws of package wide share: slices of integers of the reference, products, regions that make two boxes.
-/
import Derived.Test.YtgcjbeagckbccaaGreatDoorCmn
import Derived.Test.YtgcjbeagckbccaaGreatDoorNmB
namespace Go.Proofs.YtgcjbeagckbccaaGreatDoor
open Go.RowKit Go.Shelf
set_option linter.unusedVariables false
set_option maxRecDepth 100000

/-- A slice of integers of the reference, in a block of its own. -/
def NRow (W : World) (b : Nat) (zs : List Int) : Prop := b < W.heap.size ∧ ∀ k z, zs[k]? = some z → ∃ (s : Bool) (a : Option Addr) (m c : Nat), (W.cell? ⟨b, k * 2, none⟩ = some (.bool s) ∧ W.cell? ⟨b, k * 2 + 1, none⟩ = some (.slice a m c)) ∧ NAt W (.agg #[.bool s, .slice a m c]) z
theorem nrow_keeps {W W2 : World} {b : Nat} {zs : List Int} (h : NRow W b zs) (hb : Below W.heap.size W W2) : NRow W2 b zs := by
  refine ⟨Nat.lt_of_lt_of_le h.1 hb.size, fun k z hz => ?_⟩
  obtain ⟨s, a, m, c, ⟨h1, h2⟩, h3⟩ := h.2 k z hz
  exact ⟨s, a, m, c, ⟨(hb.cell (p := ⟨b, k * 2, none⟩) h.1).trans h1, (hb.cell (p := ⟨b, k * 2 + 1, none⟩) h.1).trans h2⟩, nat_keeps h3 hb⟩
theorem nrow_three {W : World} {z0 z1 z2 : Int} {s0 s1 s2 : Bool} {a0 a1 a2 : Option Addr} {m0 m1 m2 c0 c1 c2 : Nat} (h0 : NAt W (.agg #[.bool s0, .slice a0 m0 c0]) z0) (h1 : NAt W (.agg #[.bool s1, .slice a1 m1 c1]) z1) (h2 : NAt W (.agg #[.bool s2, .slice a2 m2 c2]) z2) :
    NRow (W.alloc (.cells #[.bool s0, .slice a0 m0 c0, .bool s1, .slice a1 m1 c1, .bool s2, .slice a2 m2 c2] 24)) W.heap.size [z0, z1, z2] := by
  have hl := Laid.new W 24 [.bool s0, .slice a0 m0 c0, .bool s1, .slice a1 m1 c1, .bool s2, .slice a2 m2 c2]
  have hb := below_one W (.cells #[.bool s0, .slice a0 m0 c0, .bool s1, .slice a1 m1 c1, .bool s2, .slice a2 m2 c2] 24)
  refine ⟨hl.lt, fun k z hz => ?_⟩
  match k, hz with
  | 0, hz => cases hz; exact ⟨s0, a0, m0, c0, ⟨hl.cell 0, hl.cell 1⟩, nat_keeps h0 hb⟩
  | 1, hz => cases hz; exact ⟨s1, a1, m1, c1, ⟨hl.cell 2, hl.cell 3⟩, nat_keeps h1 hb⟩
  | 2, hz => cases hz; exact ⟨s2, a2, m2, c2, ⟨hl.cell 4, hl.cell 5⟩, nat_keeps h2 hb⟩
theorem list3 {z0 z1 z2 : Int} {P : Int → Prop} (h0 : P z0) (h1 : P z1) (h2 : P z2) : ∀ k, k < 3 → ∃ z, [z0, z1, z2][k]? = some z ∧ P z := by
  intro k hk
  match k, hk with
  | 0, _ => exact ⟨z0, rfl, h0⟩
  | 1, _ => exact ⟨z1, rfl, h1⟩
  | 2, _ => exact ⟨z2, rfl, h2⟩
theorem len_pos {W : World} {s : Bool} {a : Option Addr} {m c : Nat} {n : Int} (h : NAt W (.agg #[.bool s, .slice a m c]) n) (hn : ¬ n = 0) : ¬ m = 0 := by
  have h1 := row_lenN (nat_row2 h)
  have h2 := digs_len_pos (n := n.natAbs) (by omega)
  omega
theorem below_set2 {W X : World} {p : Nat} {u v : Value} (h : Below W.heap.size W X) (hp : W.heap.size ≤ p) : Below W.heap.size W ((X.setCell ⟨p, 0, none⟩ u).setCell ⟨p, 1, none⟩ v) := (h.setCell (p := ⟨p, 0, none⟩) hp _).setCell (p := ⟨p, 1, none⟩) hp _
theorem nbox_zero2 (W : World) : NBox ((W.alloc (.cells #[.bool false, .slice none 0 0] 24)).alloc (.cells #[.bool false, .slice none 0 0] 24)) W.heap.size 0 ∧ NBox ((W.alloc (.cells #[.bool false, .slice none 0 0] 24)).alloc (.cells #[.bool false, .slice none 0 0] 24)) (W.heap.size + 1) 0 := by
  refine ⟨(NBox.new (nat_zero W)).below (below_one _ _), ?_⟩
  have := NBox.new (nat_zero (W.alloc (.cells #[.bool false, .slice none 0 0] 24)))
  simpa using this
/-- Two boxes of new integers, and all else as it was. -/
def Two (W F : World) (p q : Nat) (a b : Int) : Prop := NBox F p a ∧ NBox F q b ∧ Below W.heap.size W F
theorem nbox_end {W F : World} {p q : Nat} {a b : Int} (h : Two W F p q a b) : ∃ p2 q2 : Nat, Value.pointer (some ⟨p, 0, none⟩) = .pointer (some ⟨p2, 0, none⟩) ∧ Value.pointer (some ⟨q, 0, none⟩) = .pointer (some ⟨q2, 0, none⟩) ∧ Hid (NBox F p2 a) ∧ Hid (NBox F q2 b) ∧ Hid (Below W.heap.size W F) := ⟨p, q, rfl, rfl, Lib.hid h.1, Lib.hid h.2.1, Lib.hid h.2.2⟩
theorem nbox_end2 {W F : World} {p q : Nat} {a b : Int} (h : Two W F q p b a) : ∃ p2 q2 : Nat, Value.pointer (some ⟨p, 0, none⟩) = .pointer (some ⟨p2, 0, none⟩) ∧ Value.pointer (some ⟨q, 0, none⟩) = .pointer (some ⟨q2, 0, none⟩) ∧ Hid (NBox F p2 a) ∧ Hid (NBox F q2 b) ∧ Hid (Below W.heap.size W F) := ⟨p, q, rfl, rfl, Lib.hid h.2.1, Lib.hid h.1, Lib.hid h.2.2⟩
section
variable {W w10 : World} {a b : Int} {s t : Bool} {x y : Option Addr} {i j c d : Nat}
theorem nbox_two (hx : NAt w10 (.agg #[.bool s, .slice x i c]) a) (hy : NAt w10 (.agg #[.bool t, .slice y j d]) b) (hb : Below W.heap.size W w10) :
    Two W ((w10.alloc (.cells #[.bool s, .slice x i c] 24)).alloc (.cells #[.bool t, .slice y j d] 24)) w10.heap.size (w10.heap.size + 1) a b := by
  refine ⟨(NBox.new hx).below (below_one _ _), ?_, below_then (below_then hb (below_one _ _)) (below_one _ _)⟩
  have := NBox.new (nat_keeps hy (below_one w10 (.cells #[.bool s, .slice x i c] 24)))
  simpa using this
theorem nbox_pre1 {p : Nat} (h0 : NBox w10 p 0) (hp : W.heap.size ≤ p) (hx : NAt w10 (.agg #[.bool s, .slice x i c]) a) (hy : NAt w10 (.agg #[.bool t, .slice y j d]) b) (hb : Below W.heap.size W w10) :
    Two W (((w10.setCell ⟨p, 0, none⟩ (.bool s)).setCell ⟨p, 1, none⟩ (.slice x i c)).alloc (.cells #[.bool t, .slice y j d] 24)) p w10.heap.size a b := by
  have k0 := h0.store hx
  obtain ⟨_, _, _, _, l0, _⟩ := h0
  have hy2 : NAt ((w10.setCell ⟨p, 0, none⟩ (.bool s)).setCell ⟨p, 1, none⟩ (.slice x i c)) (.agg #[.bool t, .slice y j d]) b := nat_set (nat_set hy l0 0 _) (l0.set 0 _) 1 _
  have k1 := NBox.new hy2
  simp only [World.size_setCell] at k1
  exact ⟨k0.below (below_one _ _), k1, below_then (below_set2 hb hp) (below_one _ _)⟩
theorem nbox_pre2 {p q : Nat} (h0 : NBox w10 p 0) (h1 : NBox w10 q 0) (hp : W.heap.size ≤ p) (hq : W.heap.size ≤ q) (hx : NAt w10 (.agg #[.bool s, .slice x i c]) a) (hy : NAt w10 (.agg #[.bool t, .slice y j d]) b) (hb : Below W.heap.size W w10) (hne : p ≠ q) :
    Two W ((((w10.setCell ⟨p, 0, none⟩ (.bool s)).setCell ⟨p, 1, none⟩ (.slice x i c)).setCell ⟨q, 0, none⟩ (.bool t)).setCell ⟨q, 1, none⟩ (.slice y j d)) p q a b := by
  have k0 := h0.store hx
  have k1 := h0.other h1 (Ne.symm hne) (s := s) (a := x) (m := i) (c := c)
  obtain ⟨_, _, _, _, l0, _⟩ := h0
  have hy2 : NAt ((w10.setCell ⟨p, 0, none⟩ (.bool s)).setCell ⟨p, 1, none⟩ (.slice x i c)) (.agg #[.bool t, .slice y j d]) b := nat_set (nat_set hy l0 0 _) (l0.set 0 _) 1 _
  exact ⟨k1.other k0 hne, k1.store hy2, (((hb.setCell (p := ⟨p, 0, none⟩) hp _).setCell (p := ⟨p, 1, none⟩) hp _).setCell (p := ⟨q, 0, none⟩) hq _).setCell (p := ⟨q, 1, none⟩) hq _⟩
end

theorem lo_int {n : Int} (h : -9223372036854775808 ≤ n ∧ n ≤ 9223372036854775807) : Lo 63 n := by
  unfold Lo
  rw [show (2 : Nat) ^ 63 = 9223372036854775808 by decide]
  omega
/-- Two integers of the reference and their product. -/
def Prod (W : World) (x y : Value) (z : Int) : Prop := ∃ a b, NAt W x a ∧ NAt W y b ∧ a * b = z ∧ (digs a.natAbs).length ≤ 500000 ∧ (digs b.natAbs).length ≤ 500000
theorem prod_mk {W : World} {x y : Value} {a b : Int} (h1 : NAt W x a) (h2 : NAt W y b) (h3 : Small a) (h4 : Small b) : Prod W x y (a * b) := ⟨a, b, h1, h2, rfl, digs_of_small h3, digs_of_small h4⟩
theorem prod_mul (w : World) (x y : Value) (z : Int) (h : Prod w x y z) : Calls Tryz.prog 12 #[x, y] w (NEnd z w) := by
  obtain ⟨a, b, h1, h2, rfl, h3, h4⟩ := h
  exact mul_any x y a b w h1 h2 h3 h4

theorem lo_one {d : Int} (h : -1 ≤ d ∧ d ≤ 1) : Small d := small_of (K := 1) (by show d.natAbs ≤ 2; omega) (by decide)
theorem lo_neg {K : Nat} {a : Int} (h : Lo K a) : Lo K (-a) := by unfold Lo at *; rwa [Int.natAbs_neg]
theorem cmp_one (a b : Int) : cmpI a b = cmpZ a b := by rfl
/-- Two integers of the package, and how they compare; the same for the reference. -/
def WPair (W : World) (x y : Value) (c : Int) : Prop := ∃ a b, IAt W x a ∧ IAt W y b ∧ cmpZ a b = c ∧ (digsW a.natAbs).length ≤ 400000 ∧ (digsW b.natAbs).length ≤ 400000
theorem wpair_mk {W : World} {x y : Value} {a b : Int} (h1 : IAt W x a) (h2 : IAt W y b) (h3 : Small a) (h4 : Small b) : WPair W x y (cmpZ a b) := ⟨a, b, h1, h2, rfl, h3.words, h4.words⟩
theorem wpair_cmp (w : World) (x y : Value) (c : Int) (h : WPair w x y c) : Calls Tryz.prog 77 #[x, y] w (CmpEnd c w) := by
  obtain ⟨a, b, h1, h2, rfl, h3, h4⟩ := h
  exact wCompare_any x y a b w h1 h2 h3 h4
def NPair (W : World) (x y : Value) (c : Int) : Prop := ∃ a b, NAt W x a ∧ NAt W y b ∧ cmpZ a b = c ∧ (digs a.natAbs).length ≤ 1000000 ∧ (digs b.natAbs).length ≤ 1000000
theorem npair_mk {W : World} {x y : Value} {a b : Int} (h1 : NAt W x a) (h2 : NAt W y b) (h3 : Small a) (h4 : Small b) : NPair W x y (cmpZ a b) := ⟨a, b, h1, h2, rfl, by have := h3.digs; omega, by have := h4.digs; omega⟩
theorem npair_cmp (w : World) (x y : Value) (c : Int) (h : NPair w x y c) : Calls Tryz.prog 79 #[x, y] w (CmpEnd c w) := by
  obtain ⟨a, b, h1, h2, rfl, h3, h4⟩ := h
  have := compare_any x y a b w h1 h2 h3 h4
  rwa [cmp_one] at this

end Go.Proofs.YtgcjbeagckbccaaGreatDoor
