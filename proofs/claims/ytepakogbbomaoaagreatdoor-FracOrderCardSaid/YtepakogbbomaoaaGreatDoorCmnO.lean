/-
 Words that the laws of package wide share: sizes, and boxes.
-/
import Derived.Test.YtepakogbbomaoaaGreatDoorLwaO
import Derived.Test.YtepakogbbomaoaaGreatDoorNmHO
import Derived.Test.YtepakogbbomaoaaGreatDoorBgIO
import Derived.Test.YtepakogbbomaoaaGreatDoorBgOO
import Derived.Test.YtepakogbbomaoaaGreatDoorDvrO
namespace Go.Proofs.YtepakogbbomaoaaGreatDoor
open Go.RowKit Go.Shelf
set_option linter.unusedVariables false
set_option maxRecDepth 100000
theorem sm_add {a b : Int} {K : Nat} (ha : a.natAbs ≤ 2 ^ K) (hb : b.natAbs ≤ 2 ^ K) : (a + b).natAbs ≤ 2 ^ (K + 1) ∧ (a - b).natAbs ≤ 2 ^ (K + 1) := by
 rw [Nat.pow_succ]; omega
theorem sm_mul {a b : Int} {K L : Nat} (ha : a.natAbs ≤ 2 ^ K) (hb : b.natAbs ≤ 2 ^ L) : (a * b).natAbs ≤ 2 ^ (K + L) := by
 rw [Int.natAbs_mul, Nat.pow_add]; exact Nat.mul_le_mul ha hb
def Same (W : World) (x y : Value) : Prop := ∃ n, IAt W x n ∧ NAt W y n ∧ (digsW n.natAbs).length ≤ 400000 ∧ (digs n.natAbs).length ≤ 500000
theorem same_mk {W : World} {x y : Value} {n : Int} (hx : IAt W x n) (hy : NAt W y n) (h : Small n) : Same W x y := ⟨n, hx, hy, h.words, by have := h.digs; omega⟩
theorem digs_of_small {n : Int} (h : Small n) : (digs n.natAbs).length ≤ 500000 := by have := h.digs; omega
def Lo (K : Nat) (n : Int) : Prop := n.natAbs ≤ 2 ^ K
theorem Lo.add {K : Nat} {a b : Int} (ha : Lo K a) (hb : Lo K b) : Lo (K + 1) (a + b) := (sm_add ha hb).1
theorem Lo.mul {K L : Nat} {a b : Int} (ha : Lo K a) (hb : Lo L b) : Lo (K + L) (a * b) := sm_mul ha hb
theorem Lo.more {K L : Nat} {a : Int} (ha : Lo K a) (h : K ≤ L) : Lo L a := Nat.le_trans ha (Nat.pow_le_pow_right (by decide) h)
theorem Lo.small {K : Nat} {a : Int} (ha : Lo K a) (h : K ≤ 16000) : Small a := small_of ha h
theorem IBox.store {W : World} {b : Nat} {n z : Int} {s : Bool} {a : Option Addr} {m c : Nat} (h : IBox W b n) (hx : IAt W (.agg #[.bool s, .slice a m c]) z) : IBox ((W.setCell ⟨b, 0, none⟩ (.bool s)).setCell ⟨b, 1, none⟩ (.slice a m c)) b z := by
 obtain ⟨s0, a0, m0, c0, h1, _⟩ := h
 have l1 : Laid (W.setCell ⟨b, 0, none⟩ (.bool s)) b 32 [.bool s, .slice a0 m0 c0] := h1.set 0 _
 exact ⟨s, a, m, c, l1.set 1 _, iat_store h1 hx⟩
theorem IBox.other {W : World} {b b2 : Nat} {n z : Int} {s : Bool} {a : Option Addr} {m c : Nat} (h : IBox W b n) (h2 : IBox W b2 z) (hne : b2 ≠ b) : IBox ((W.setCell ⟨b, 0, none⟩ (.bool s)).setCell ⟨b, 1, none⟩ (.slice a m c)) b2 z := by
 obtain ⟨s0, a0, m0, c0, h1, _⟩ := h
 have l1 : Laid (W.setCell ⟨b, 0, none⟩ (.bool s)) b 32 [.bool s, .slice a0 m0 c0] := h1.set 0 _
 obtain ⟨s3, a3, m3, c3, h3, h4⟩ := h2
 exact ⟨s3, a3, m3, c3, h3.keeps ((keeps_set W b 0 _).trans (keeps_set _ b 1 _)) hne, iat_set (iat_set h4 h1 0 _) l1 1 _⟩
theorem size_alloc1 (W : World) (o : Obj) : (W.alloc o).heap.size = W.heap.size + 1 := by simp
theorem row_lenN {W : World} {a : Option Addr} {m k n : Nat} (h : Row .i64 W (.slice a m k) (natI (digs n))) : (digs n).length = m := by
 obtain ⟨_, _, e, _, _⟩ := h
 injection e with _ e _
 rw [e, natI_length]
theorem zero_len {W : World} {s : Bool} {a : Option Addr} {m c : Nat} {n : Int} (h : NAt W (.agg #[.bool s, .slice a m c]) n) (hn : n = 0) : m = 0 := by
 subst hn
 have := row_lenN (nat_row2 h)
 rw [show (0 : Int).natAbs = 0 from rfl, digs_zero] at this
 exact this.symm
theorem small_one {n : Int} (h : n = 1) : Small n := small_of (K := 1) (by subst h; decide) (by decide)
end Go.Proofs.YtepakogbbomaoaaGreatDoor
