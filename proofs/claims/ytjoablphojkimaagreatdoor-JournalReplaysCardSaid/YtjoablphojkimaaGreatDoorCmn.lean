/-
  Words that the laws of package wide share: sizes, and boxes.
-/
import Derived.Test.YtjoablphojkimaaGreatDoorDvg
import Derived.Test.YtjoablphojkimaaGreatDoorLwa
import Derived.Test.YtjoablphojkimaaGreatDoorNmH
import Derived.Test.YtjoablphojkimaaGreatDoorBgI
import Derived.Test.YtjoablphojkimaaGreatDoorBgO
import Derived.Test.YtjoablphojkimaaGreatDoorDvz
import Derived.Test.YtjoablphojkimaaGreatDoorDvr
namespace Go.Proofs.YtjoablphojkimaaGreatDoor
open Go.RowKit Go.Shelf
set_option linter.unusedVariables false
set_option maxRecDepth 100000

theorem sm_add {a b : Int} {K : Nat} (ha : a.natAbs ≤ 2 ^ K) (hb : b.natAbs ≤ 2 ^ K) : (a + b).natAbs ≤ 2 ^ (K + 1) ∧ (a - b).natAbs ≤ 2 ^ (K + 1) := by
  rw [Nat.pow_succ]; omega
theorem sm_mul {a b : Int} {K L : Nat} (ha : a.natAbs ≤ 2 ^ K) (hb : b.natAbs ≤ 2 ^ L) : (a * b).natAbs ≤ 2 ^ (K + L) := by
  rw [Int.natAbs_mul, Nat.pow_add]; exact Nat.mul_le_mul ha hb
/-- What two of a text's sides stand for. -/
def Same (W : World) (x y : Value) : Prop := ∃ n, IAt W x n ∧ NAt W y n ∧ (digsW n.natAbs).length ≤ 400000 ∧ (digs n.natAbs).length ≤ 500000
theorem same_mk {W : World} {x y : Value} {n : Int} (hx : IAt W x n) (hy : NAt W y n) (h : Small n) : Same W x y := ⟨n, hx, hy, h.words, by have := h.digs; omega⟩
theorem digs_of_small {n : Int} (h : Small n) : (digs n.natAbs).length ≤ 500000 := by have := h.digs; omega


theorem ediv_le (a b : Int) : (a / b).natAbs ≤ a.natAbs := Int.natAbs_ediv_le_natAbs a b
def Lo (K : Nat) (n : Int) : Prop := n.natAbs ≤ 2 ^ K
theorem Lo.add {K : Nat} {a b : Int} (ha : Lo K a) (hb : Lo K b) : Lo (K + 1) (a + b) := (sm_add ha hb).1
theorem Lo.sub {K : Nat} {a b : Int} (ha : Lo K a) (hb : Lo K b) : Lo (K + 1) (a - b) := (sm_add ha hb).2
theorem Lo.mul {K L : Nat} {a b : Int} (ha : Lo K a) (hb : Lo L b) : Lo (K + L) (a * b) := sm_mul ha hb
theorem Lo.more {K L : Nat} {a : Int} (ha : Lo K a) (h : K ≤ L) : Lo L a := Nat.le_trans ha (Nat.pow_le_pow_right (by decide) h)
theorem Lo.small {K : Nat} {a : Int} (ha : Lo K a) (h : K ≤ 16000) : Small a := small_of ha h
theorem ring_sizes {c y : Int} {K L : Nat} (hc : Lo K c) (hy : Lo L y) (h : L ≤ K) :
    Lo K (c / y) ∧ Lo K (c % y) ∧ Lo (K + 1) (c / y * y) ∧ c / y * y + c % y = c ∧ (y ≠ 0 → 0 ≤ c % y ∧ c % y < (y.natAbs : Int)) := by
  unfold Lo at hc hy
  have hu : c / y * y + c % y = c := by
    have := Int.emod_add_mul_ediv c y
    rw [Int.mul_comm y] at this
    omega
  have hr : (c % y).natAbs ≤ 2 ^ K := by
    rcases Classical.em (y = 0) with h1 | h1
    · rw [h1, Int.emod_zero]; exact hc
    · have h2 := Int.emod_nonneg c h1
      have h3 := Int.emod_lt c h1
      have h4 : 2 ^ L ≤ 2 ^ K := Nat.pow_le_pow_right (by decide) h
      omega
  refine ⟨Nat.le_trans (ediv_le c y) hc, hr, ?_, hu, fun h1 => ⟨Int.emod_nonneg _ h1, Int.emod_lt _ h1⟩⟩
  have h5 := (sm_add hc hr).2
  rwa [show c - c % y = c / y * y by omega] at h5
theorem emod_le {b : Int} (a : Int) (h : b ≠ 0) : (a % b).natAbs ≤ b.natAbs := by
  have h1 := Int.emod_nonneg a h
  have h2 := Int.emod_lt a h
  omega

theorem IBox.store {W : World} {b : Nat} {n z : Int} {s : Bool} {a : Option Addr} {m c : Nat} (h : IBox W b n) (hx : IAt W (.agg #[.bool s, .slice a m c]) z) : IBox ((W.setCell ⟨b, 0, none⟩ (.bool s)).setCell ⟨b, 1, none⟩ (.slice a m c)) b z := by
  obtain ⟨s0, a0, m0, c0, h1, _⟩ := h
  have l1 : Laid (W.setCell ⟨b, 0, none⟩ (.bool s)) b 29 [.bool s, .slice a0 m0 c0] := h1.set 0 _
  exact ⟨s, a, m, c, l1.set 1 _, iat_store h1 hx⟩
theorem IBox.other {W : World} {b b2 : Nat} {n z : Int} {s : Bool} {a : Option Addr} {m c : Nat} (h : IBox W b n) (h2 : IBox W b2 z) (hne : b2 ≠ b) : IBox ((W.setCell ⟨b, 0, none⟩ (.bool s)).setCell ⟨b, 1, none⟩ (.slice a m c)) b2 z := by
  obtain ⟨s0, a0, m0, c0, h1, _⟩ := h
  have l1 : Laid (W.setCell ⟨b, 0, none⟩ (.bool s)) b 29 [.bool s, .slice a0 m0 c0] := h1.set 0 _
  obtain ⟨s3, a3, m3, c3, h3, h4⟩ := h2
  exact ⟨s3, a3, m3, c3, h3.keeps ((keeps_set W b 0 _).trans (keeps_set _ b 1 _)) hne, iat_set (iat_set h4 h1 0 _) l1 1 _⟩

theorem cmp_same (a : Int) : cmpZ a a = 0 := by unfold cmpZ; rw [if_neg (by omega), if_neg (by omega)]
theorem cmp_less {a b : Int} (h : a < b) : cmpZ a b = -1 := by unfold cmpZ; rw [if_pos h]
theorem size_alloc1 (W : World) (o : Obj) : (W.alloc o).heap.size = W.heap.size + 1 := by simp
theorem cmp_zero {a : Int} (h : 0 ≤ a) : cmpZ a 0 = 0 ∨ cmpZ a 0 = 1 := by
  unfold cmpZ
  rw [if_neg (by omega)]
  rcases Classical.em (0 < a) with h2 | h2
  · rw [if_pos h2]; exact .inr rfl
  · rw [if_neg h2]; exact .inl rfl
/-- TwoW values that stand for one integer. -/
def Twin (W : World) (x y : Value) : Prop := ∃ n, IAt W x n ∧ IAt W y n ∧ (digsW n.natAbs).length ≤ 400000
theorem twin_mk {W : World} {x y : Value} {n : Int} (hx : IAt W x n) (hy : IAt W y n) (h : (digsW n.natAbs).length ≤ 400000) : Twin W x y := ⟨n, hx, hy, h⟩
theorem compare_twin (w : World) (x y : Value) (h : Twin w x y) : Calls Tryz.prog 20 #[x, y] w (CmpEnd 0 w) := by
  obtain ⟨n, hx, hy, h1⟩ := h
  have := wCompare_any x y n n w hx hy h1 h1
  unfold cmpZ at this
  rwa [if_neg (by omega), if_neg (by omega)] at this
theorem zero_len {W : World} {s : Bool} {a : Option Addr} {m c : Nat} {n : Int} (h : NAt W (.agg #[.bool s, .slice a m c]) n) (hn : n = 0) : m = 0 := by
  subst hn
  have := row_lenN (nat_row2 h)
  rw [show (0 : Int).natAbs = 0 from rfl, digs_zero] at this
  exact this.symm
theorem small_zero {n : Int} (h : n = 0) : Small n := small_of (K := 1) (by subst h; decide) (by decide)
theorem small_one {n : Int} (h : n = 1) : Small n := small_of (K := 1) (by subst h; decide) (by decide)

end Go.Proofs.YtjoablphojkimaaGreatDoor
