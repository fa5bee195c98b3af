/-
 Words that the laws of package wide share: slices of integers of the reference, products, regions that make two boxes.
-/
import Derived.Test.YtajehlgclnocoaaGreatDoorCmnB
import Derived.Test.YtajehlgclnocoaaGreatDoorNmBB
namespace Go.Proofs.YtajehlgclnocoaaGreatDoor
open Go.RowKit Go.Shelf
set_option linter.unusedVariables false
set_option maxRecDepth 100000
def NRow (W : World) (b : Nat) (zs : List Int) : Prop := b < W.heap.size ∧ ∀ k z, zs[k]? = some z → ∃ (s : Bool) (a : Option Addr) (m c : Nat), (W.cell? ⟨b, k * 2, none⟩ = some (.bool s) ∧ W.cell? ⟨b, k * 2 + 1, none⟩ = some (.slice a m c)) ∧ NAt W (.agg #[.bool s, .slice a m c]) z
theorem nrow_keeps {W W2 : World} {b : Nat} {zs : List Int} (h : NRow W b zs) (hb : Below W.heap.size W W2) : NRow W2 b zs := by
 refine ⟨Nat.lt_of_lt_of_le h.1 hb.size, fun k z hz => ?_⟩
 obtain ⟨s, a, m, c, ⟨h1, h2⟩, h3⟩ := h.2 k z hz
 exact ⟨s, a, m, c, ⟨(hb.cell (p := ⟨b, k * 2, none⟩) h.1).trans h1, (hb.cell (p := ⟨b, k * 2 + 1, none⟩) h.1).trans h2⟩, nat_keeps h3 hb⟩
theorem nrow_three {W : World} {z0 z1 z2 : Int} {s0 s1 s2 : Bool} {a0 a1 a2 : Option Addr} {m0 m1 m2 c0 c1 c2 : Nat} (h0 : NAt W (.agg #[.bool s0, .slice a0 m0 c0]) z0) (h1 : NAt W (.agg #[.bool s1, .slice a1 m1 c1]) z1) (h2 : NAt W (.agg #[.bool s2, .slice a2 m2 c2]) z2) :
  NRow (W.alloc (.cells #[.bool s0, .slice a0 m0 c0, .bool s1, .slice a1 m1 c1, .bool s2, .slice a2 m2 c2] 24)) W.heap.size [z0, z1, z2] := by
 have hl := Laid.new W 24 [.bool s0, .slice a0 m0 c0, .bool s1, .slice a1 m1 c1, .bool s2, .slice a2 m2 c2]
 have hb := below_one W (.cells #[.bool s0, .slice a0 m0 c0, .bool s1, .slice a1 m1 c1, .bool s2, .slice a2 m2 c2] 24)
 refine ⟨hl.lt, fun k z hz => ?_⟩
 match k, hz with
 | 0, hz => cases hz; exact ⟨s0, a0, m0, c0, ⟨hl.cell 0, hl.cell 1⟩, nat_keeps h0 hb⟩
 | 1, hz => cases hz; exact ⟨s1, a1, m1, c1, ⟨hl.cell 2, hl.cell 3⟩, nat_keeps h1 hb⟩
 | 2, hz => cases hz; exact ⟨s2, a2, m2, c2, ⟨hl.cell 4, hl.cell 5⟩, nat_keeps h2 hb⟩
theorem len_pos {W : World} {s : Bool} {a : Option Addr} {m c : Nat} {n : Int} (h : NAt W (.agg #[.bool s, .slice a m c]) n) (hn : ¬ n = 0) : ¬ m = 0 := by
 have h1 := row_lenN (nat_row2 h)
 have h2 := digs_len_pos (n := n.natAbs) (by omega)
 omega
theorem below_set2 {W X : World} {p : Nat} {u v : Value} (h : Below W.heap.size W X) (hp : W.heap.size ≤ p) : Below W.heap.size W ((X.setCell ⟨p, 0, none⟩ u).setCell ⟨p, 1, none⟩ v) := (h.setCell (p := ⟨p, 0, none⟩) hp _).setCell (p := ⟨p, 1, none⟩) hp _
theorem lo_int {n : Int} (h : -9223372036854775808 ≤ n ∧ n ≤ 9223372036854775807) : Lo 63 n := by
 unfold Lo
 rw [show (2 : Nat) ^ 63 = 9223372036854775808 by decide]
 omega
end Go.Proofs.YtajehlgclnocoaaGreatDoor
