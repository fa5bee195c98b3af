/-
 The reference of package wide: integers in boxes; Power.
 The reference of package wide: Number.
-/
import Derived.Test.YtepakogbbomaoaaGreatDoorNmHO
import Derived.Deep.RegionHeld3
namespace Go.Proofs.YtepakogbbomaoaaGreatDoor
open Go.RowKit Go.Shelf
set_option linter.unusedVariables false
set_option maxRecDepth 100000
def NBox (W : World) (b : Nat) (n : Int) : Prop := ∃ (s : Bool) (a : Option Addr) (m c : Nat), Laid W b 24 [.bool s, .slice a m c] ∧ NAt W (.agg #[.bool s, .slice a m c]) n
theorem NBox.below {W W2 : World} {b : Nat} {n : Int} (h : NBox W b n) (hb : Below W.heap.size W W2) : NBox W2 b n := by
 obtain ⟨s, a, m, c, h1, h2⟩ := h
 exact ⟨s, a, m, c, h1.below hb, nat_keeps h2 hb⟩
theorem NBox.lt {W : World} {b : Nat} {n : Int} (h : NBox W b n) : b < W.heap.size := by obtain ⟨_, _, _, _, h, _⟩ := h; exact h.lt
theorem nat_set {W : World} {r : Nat} {b : Bool} {a : Option Addr} {m k : Nat} {x : Value} {n : Int} (h : NAt W x n) (hl : Laid W r 24 [.bool b, .slice a m k]) (j : Nat) (u : Value) : NAt (W.setCell ⟨r, j, none⟩ u) x n := by
 obtain ⟨v, rfl, h⟩ := h
 exact ⟨v, rfl, row_set hl h j u⟩
theorem NBox.store {W : World} {b : Nat} {n z : Int} {s : Bool} {a : Option Addr} {m c : Nat} (h : NBox W b n) (hx : NAt W (.agg #[.bool s, .slice a m c]) z) : NBox ((W.setCell ⟨b, 0, none⟩ (.bool s)).setCell ⟨b, 1, none⟩ (.slice a m c)) b z := by
 obtain ⟨s0, a0, m0, c0, h1, _⟩ := h
 have l1 : Laid (W.setCell ⟨b, 0, none⟩ (.bool s)) b 24 [.bool s, .slice a0 m0 c0] := h1.set 0 _
 exact ⟨s, a, m, c, l1.set 1 _, nat_set (nat_set hx h1 0 _) l1 1 _⟩
theorem NBox.other {W : World} {b b2 : Nat} {n z : Int} {s : Bool} {a : Option Addr} {m c : Nat} (h : NBox W b n) (h2 : NBox W b2 z) (hne : b2 ≠ b) : NBox ((W.setCell ⟨b, 0, none⟩ (.bool s)).setCell ⟨b, 1, none⟩ (.slice a m c)) b2 z := by
 obtain ⟨s0, a0, m0, c0, h1, _⟩ := h
 have l1 : Laid (W.setCell ⟨b, 0, none⟩ (.bool s)) b 24 [.bool s, .slice a0 m0 c0] := h1.set 0 _
 obtain ⟨s3, a3, m3, c3, h3, h4⟩ := h2
 exact ⟨s3, a3, m3, c3, h3.keeps ((keeps_set W b 0 _).trans (keeps_set _ b 1 _)) hne, nat_set (nat_set h4 h1 0 _) l1 1 _⟩
theorem NBox.new {W : World} {n : Int} {s : Bool} {a : Option Addr} {m c : Nat} (hx : NAt W (.agg #[.bool s, .slice a m c]) n) : NBox (W.alloc (.cells #[.bool s, .slice a m c] 24)) W.heap.size n :=
 ⟨s, a, m, c, Laid.new _ _ _, nat_keeps hx ((Below.refl _ _).alloc (Nat.le_refl _) _)⟩
theorem pow_digs {m K : Nat} (h : m ≤ 2 ^ K) : (digs m).length ≤ K + 1 := by
 refine digs_len_le ?_
 have h1 : (2 : Nat) ^ K ≤ 10000 ^ K := Nat.pow_le_pow_left (by decide) K
 rw [Nat.pow_succ]
 have := Nat.pow_pos (n := K) (show 0 < 10000 by decide)
 omega
theorem NBox.open {W : World} {b : Nat} {n : Int} (h : NBox W b n) : ∃ (s : Bool) (a : Option Addr) (m c : Nat), (W.cell? ⟨b, 0, none⟩ = some (.bool s) ∧ W.cell? ⟨b, 1, none⟩ = some (.slice a m c)) ∧ (W.frozen? ⟨b, 0, none⟩ = false ∧ W.frozen? ⟨b, 1, none⟩ = false) ∧ NAt W (.agg #[.bool s, .slice a m c]) n ∧ Laid W b 24 [.bool s, .slice a m c] := by
 obtain ⟨s, a, m, c, h1, h2⟩ := h
 obtain ⟨x, y, z, u⟩ := cells2 h1
 exact ⟨s, a, m, c, ⟨x, y⟩, ⟨z, u⟩, h2, h1⟩
end Go.Proofs.YtepakogbbomaoaaGreatDoor
