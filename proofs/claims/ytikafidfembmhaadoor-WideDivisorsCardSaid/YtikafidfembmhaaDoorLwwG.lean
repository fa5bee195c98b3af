/-
  The law WideRing. (tools/genLwwD.py makes this text.)
-/
import Derived.Test.YtikafidfembmhaaDoorLwwC
import Derived.Test.YtikafidfembmhaaDoorDvz
import Derived.Test.YtikafidfembmhaaDoorBgI
import Derived.Test.YtikafidfembmhaaDoorBgO
namespace Go.Proofs.YtikafidfembmhaaDoor
open Go.RowKit Go.Shelf
set_option linter.unusedVariables false
set_option maxRecDepth 100000

theorem ediv_le (a b : Int) : (a / b).natAbs ≤ a.natAbs := Int.natAbs_ediv_le_natAbs a b
def Lo (K : Nat) (n : Int) : Prop := n.natAbs ≤ 2 ^ K
theorem Lo.add {K : Nat} {a b : Int} (ha : Lo K a) (hb : Lo K b) : Lo (K + 1) (a + b) := (sm_add ha hb).1
theorem Lo.sub {K : Nat} {a b : Int} (ha : Lo K a) (hb : Lo K b) : Lo (K + 1) (a - b) := (sm_add ha hb).2
theorem Lo.mul {K L : Nat} {a b : Int} (ha : Lo K a) (hb : Lo L b) : Lo (K + L) (a * b) := sm_mul ha hb
theorem Lo.more {K L : Nat} {a : Int} (ha : Lo K a) (h : K ≤ L) : Lo L a := Nat.le_trans ha (Nat.pow_le_pow_right (by decide) h)
theorem Lo.small {K : Nat} {a : Int} (ha : Lo K a) (h : K ≤ 16000) : Small a := small_of ha h
theorem ring_sizes {c y : Int} {K L : Nat} (hc : Lo K c) (hy : Lo L y) (h : L ≤ K) :
    Lo K (c / y) ∧ Lo K (c % y) ∧ Lo (K + 1) (c / y * y) ∧ c / y * y + c % y = c ∧ (y ≠ 0 → 0 ≤ c % y ∧ c % y < (y.natAbs : Int)) := by
  unfold Lo at hc hy
  have hu : c / y * y + c % y = c := by
    have := Int.emod_add_mul_ediv c y
    rw [Int.mul_comm y] at this
    omega
  have hr : (c % y).natAbs ≤ 2 ^ K := by
    rcases Classical.em (y = 0) with h1 | h1
    · rw [h1, Int.emod_zero]; exact hc
    · have h2 := Int.emod_nonneg c h1
      have h3 := Int.emod_lt c h1
      have h4 : 2 ^ L ≤ 2 ^ K := Nat.pow_le_pow_right (by decide) h
      omega
  refine ⟨Nat.le_trans (ediv_le c y) hc, hr, ?_, hu, fun h1 => ⟨Int.emod_nonneg _ h1, Int.emod_lt _ h1⟩⟩
  have h5 := (sm_add hc hr).2
  rwa [show c - c % y = c / y * y by omega] at h5
theorem emod_le {b : Int} (a : Int) (h : b ≠ 0) : (a % b).natAbs ≤ b.natAbs := by
  have h1 := Int.emod_nonneg a h
  have h2 := Int.emod_lt a h
  omega

theorem IBox.store {W : World} {b : Nat} {n z : Int} {s : Bool} {a : Option Addr} {m c : Nat} (h : IBox W b n) (hx : IAt W (.agg #[.bool s, .slice a m c]) z) : IBox ((W.setCell ⟨b, 0, none⟩ (.bool s)).setCell ⟨b, 1, none⟩ (.slice a m c)) b z := by
  obtain ⟨s0, a0, m0, c0, h1, _⟩ := h
  have l1 : Laid (W.setCell ⟨b, 0, none⟩ (.bool s)) b 33 [.bool s, .slice a0 m0 c0] := h1.set 0 _
  exact ⟨s, a, m, c, l1.set 1 _, iat_store h1 hx⟩
theorem IBox.other {W : World} {b b2 : Nat} {n z : Int} {s : Bool} {a : Option Addr} {m c : Nat} (h : IBox W b n) (h2 : IBox W b2 z) (hne : b2 ≠ b) : IBox ((W.setCell ⟨b, 0, none⟩ (.bool s)).setCell ⟨b, 1, none⟩ (.slice a m c)) b2 z := by
  obtain ⟨s0, a0, m0, c0, h1, _⟩ := h
  have l1 : Laid (W.setCell ⟨b, 0, none⟩ (.bool s)) b 33 [.bool s, .slice a0 m0 c0] := h1.set 0 _
  obtain ⟨s3, a3, m3, c3, h3, h4⟩ := h2
  exact ⟨s3, a3, m3, c3, h3.keeps ((keeps_set W b 0 _).trans (keeps_set _ b 1 _)) hne, iat_set (iat_set h4 h1 0 _) l1 1 _⟩

theorem cmp_same (a : Int) : cmpZ a a = 0 := by unfold cmpZ; rw [if_neg (by omega), if_neg (by omega)]
theorem cmp_less {a b : Int} (h : a < b) : cmpZ a b = -1 := by unfold cmpZ; rw [if_pos h]
theorem size_alloc1 (W : World) (o : Obj) : (W.alloc o).heap.size = W.heap.size + 1 := by simp
theorem cmp_zero {a : Int} (h : 0 ≤ a) : cmpZ a 0 = 0 ∨ cmpZ a 0 = 1 := by
  unfold cmpZ
  rw [if_neg (by omega)]
  rcases Classical.em (0 < a) with h2 | h2
  · rw [if_pos h2]; exact .inr rfl
  · rw [if_neg h2]; exact .inl rfl
/-- Two values that stand for one integer. -/
def Twin (W : World) (x y : Value) : Prop := ∃ n, IAt W x n ∧ IAt W y n ∧ (digsW n.natAbs).length ≤ 400000
theorem twin_mk {W : World} {x y : Value} {n : Int} (hx : IAt W x n) (hy : IAt W y n) (h : (digsW n.natAbs).length ≤ 400000) : Twin W x y := ⟨n, hx, hy, h⟩
theorem compare_twin (w : World) (x y : Value) (h : Twin w x y) : Calls Tryd.prog 37 #[x, y] w (CmpEnd 0 w) := by
  obtain ⟨n, hx, hy, h1⟩ := h
  have := wCompare_any x y n n w hx hy h1 h1
  unfold cmpZ at this
  rwa [if_neg (by omega), if_neg (by omega)] at this

set_option maxHeartbeats 8000000 in
theorem walk_WideRing (v : Value) (l : List Int) (w : World) (hv : Row .i64 w v l) (hr : ∀ n ∈ l, -9223372036854775808 ≤ n ∧ n ≤ 9223372036854775807) :
    Calls Tryd.prog 10 #[v] w fun e w' => e = .returned (.bool true) ∧ Below w.heap.size w w' := by
  obtain ⟨pv, cv, rfl, hcv, hcvm⟩ := (show ∃ p c, v = .slice p l.length c ∧ l.length ≤ c ∧ c ≤ 9223372036854775807 by obtain ⟨p, c, e, h1, h2, _⟩ := hv; exact ⟨p, c, e, h1, h2⟩)
  have HL := Lib.hid hv
  have HR := Lib.hid hr
  have HB : Hid (Below w.heap.size w w) := Lib.hid (Below.refl _ _)
  clear hv hr
  generalize hll : l.length = ll at *
  clear hll
  go_enter Tryd.func10, Tryd.ntmps10
  go_wp2_with fail
  have C0 := number_ref _ l 0 w HL.out HR.out (by decide)
  unfold NumEnd at C0
  unfold NEnd at C0
  have HC0 := Lib.hid C0
  clear C0
  go_must (refine HC0.out.mono ?_)
  rintro e w0 ⟨zX, hzX, y0, rfl, hx0, hb0⟩
  have HZX := Lib.hid hzX
  clear hzX
  have HNX := Lib.hid hx0
  have hbb := hb0
  have U := Lib.hid (row_keeps HL.out hbb)
  clear HL
  have HL := U
  clear U
  have U := Lib.hid (below_then HB.out hbb)
  clear HB
  have HB := U
  clear U
  clear HC0 hb0 hbb hx0
  go_wp2_with fail
  have C1 := wider_any _ zX w0 HNX.out (small_of HZX.out (by decide))
  unfold WiderEnd at C1
  have HC1 := Lib.hid C1
  clear C1
  go_must (refine HC1.out.mono ?_)
  rintro e w1 ⟨b1, p1, n1, q1, rfl, hx1, hb1⟩
  have hbb := below_then hb1 (below_one w1 (.cells #[.bool b1, .slice p1 n1 q1] 33))
  have U := Lib.hid (row_keeps HL.out hbb)
  clear HL
  have HL := U
  clear U
  have U := Lib.hid (below_then HB.out hbb)
  clear HB
  have HB := U
  clear U
  have TX := Lib.hid (IBox.new hx1)
  clear HC1 hb1 hbb hx1
  go_wp2_with fail
  generalize w1.alloc (.cells #[.bool b1, .slice p1 n1 q1] 33) = W1 at *
  generalize w1.heap.size = t1 at *
  have C2 := number_ref _ l 6 W1 HL.out HR.out (by decide)
  unfold NumEnd at C2
  unfold NEnd at C2
  have HC2 := Lib.hid C2
  clear C2
  go_must (refine HC2.out.mono ?_)
  rintro e w2 ⟨zY, hzY, y2, rfl, hx2, hb2⟩
  have HZY := Lib.hid hzY
  clear hzY
  have HNY := Lib.hid hx2
  have hbb := hb2
  have U := Lib.hid (TX.out.below hbb)
  clear TX
  have TX := U
  clear U
  have U := Lib.hid (row_keeps HL.out hbb)
  clear HL
  have HL := U
  clear U
  have U := Lib.hid (below_then HB.out hbb)
  clear HB
  have HB := U
  clear U
  clear HC2 hb2 hbb hx2
  go_wp2_with fail
  have C3 := wider_any _ zY w2 HNY.out (small_of HZY.out (by decide))
  unfold WiderEnd at C3
  have HC3 := Lib.hid C3
  clear C3
  go_must (refine HC3.out.mono ?_)
  rintro e w3 ⟨b3, p3, n3, q3, rfl, hx3, hb3⟩
  have hbb := below_then hb3 (below_one w3 (.cells #[.bool b3, .slice p3 n3 q3] 33))
  have U := Lib.hid (TX.out.below hbb)
  clear TX
  have TX := U
  clear U
  have U := Lib.hid (row_keeps HL.out hbb)
  clear HL
  have HL := U
  clear U
  have U := Lib.hid (below_then HB.out hbb)
  clear HB
  have HB := U
  clear U
  have TY := Lib.hid (IBox.new hx3)
  clear HC3 hb3 hbb hx3
  go_wp2_with fail
  generalize w3.alloc (.cells #[.bool b3, .slice p3 n3 q3] 33) = W3 at *
  generalize w3.heap.size = t3 at *
  have C4 := number_ref _ l 12 W3 HL.out HR.out (by decide)
  unfold NumEnd at C4
  unfold NEnd at C4
  have HC4 := Lib.hid C4
  clear C4
  go_must (refine HC4.out.mono ?_)
  rintro e w4 ⟨zZ, hzZ, y4, rfl, hx4, hb4⟩
  have HZZ := Lib.hid hzZ
  clear hzZ
  have HNZ := Lib.hid hx4
  have hbb := hb4
  have U := Lib.hid (TX.out.below hbb)
  clear TX
  have TX := U
  clear U
  have U := Lib.hid (TY.out.below hbb)
  clear TY
  have TY := U
  clear U
  have U := Lib.hid (row_keeps HL.out hbb)
  clear HL
  have HL := U
  clear U
  have U := Lib.hid (below_then HB.out hbb)
  clear HB
  have HB := U
  clear U
  clear HC4 hb4 hbb hx4
  go_wp2_with fail
  have C5 := wider_any _ zZ w4 HNZ.out (small_of HZZ.out (by decide))
  unfold WiderEnd at C5
  have HC5 := Lib.hid C5
  clear C5
  go_must (refine HC5.out.mono ?_)
  rintro e w5 ⟨b5, p5, n5, q5, rfl, hx5, hb5⟩
  have hbb := below_then hb5 (below_one w5 (.cells #[.bool b5, .slice p5 n5 q5] 33))
  have U := Lib.hid (TX.out.below hbb)
  clear TX
  have TX := U
  clear U
  have U := Lib.hid (TY.out.below hbb)
  clear TY
  have TY := U
  clear U
  have U := Lib.hid (row_keeps HL.out hbb)
  clear HL
  have HL := U
  clear U
  have U := Lib.hid (below_then HB.out hbb)
  clear HB
  have HB := U
  clear U
  have TZ := Lib.hid (IBox.new hx5)
  clear HC5 hb5 hbb hx5
  obtain ⟨sX6, aX6, mX6, kX6, ⟨cX60, cX61⟩, hX6⟩ := TX.out.open
  obtain ⟨sY6, aY6, mY6, kY6, ⟨cY60, cY61⟩, hY6⟩ := TY.out.open
  go_wp2_with fail
  generalize w5.alloc (.cells #[.bool b5, .slice p5 n5 q5] 33) = W5 at *
  generalize w5.heap.size = t5 at *
  have BX : Hid (Lo 240 zX) := HZX
  have BY : Hid (Lo 240 zY) := HZY
  have BZ : Hid (Lo 240 zZ) := HZZ
  have BA : Hid (Lo (240 + 1) (zX + zY)) := Lib.hid (BX.out.add BY.out)
  have BB : Hid (Lo (240 + 1) (zY + zX)) := Lib.hid (BY.out.add BX.out)
  have BC : Hid (Lo (240 + 1 + 240) ((zX + zY) * zZ)) := Lib.hid (BA.out.mul BZ.out)
  have BD : Hid (Lo (240 + 240) (zX * zZ)) := Lib.hid (BX.out.mul BZ.out)
  have BI : Hid (Lo (240 + 240) (zZ * zY)) := Lib.hid (BZ.out.mul BY.out)
  have BK : Hid (Lo (240 + 240 + 1) (zX * zZ + zZ * zY)) := Lib.hid (BD.out.add BI.out)
  have BN : Hid (Lo (240 + 1 + 1) (zX + zY - zY)) := Lib.hid (BA.out.sub (BY.out.more (by decide)))
  have C6 := wAdd_any _ _ _ _ W5 hX6 hY6 (Lo.small BX.out (by decide)).words (Lo.small BY.out (by decide)).words
  have HC6 := Lib.hid C6
  clear C6
  clear cX60 cX61 hX6
  clear cY60 cY61 hY6
  go_must (refine HC6.out.mono ?_)
  rintro e w6 hw6
  obtain ⟨b6, p6, n6, q6, e6, rfl, hy6, hb6⟩ := rend_form hw6
  obtain ⟨rfl, hx6⟩ : e6 = 0 ∧ IAt w6 (.agg #[.bool b6, .slice p6 n6 q6]) (zX + zY) := by
    rcases hy6 with ⟨_, h1, h2⟩ | ⟨h, _⟩
    · exact ⟨h1, h2⟩
    · exact absurd h (Lo.small BA.out (by decide)).notBig
  have hbb := below_then hb6 (below_one w6 (.cells #[.bool b6, .slice p6 n6 q6] 33))
  clear hw6 hy6
  have U := Lib.hid (TX.out.below hbb)
  clear TX
  have TX := U
  clear U
  have U := Lib.hid (TY.out.below hbb)
  clear TY
  have TY := U
  clear U
  have U := Lib.hid (TZ.out.below hbb)
  clear TZ
  have TZ := U
  clear U
  have U := Lib.hid (row_keeps HL.out hbb)
  clear HL
  have HL := U
  clear U
  have U := Lib.hid (below_then HB.out hbb)
  clear HB
  have HB := U
  clear U
  have TA := Lib.hid (IBox.new hx6)
  clear HC6 hb6 hbb hx6
  obtain ⟨sY7, aY7, mY7, kY7, ⟨cY70, cY71⟩, hY7⟩ := TY.out.open
  obtain ⟨sX7, aX7, mX7, kX7, ⟨cX70, cX71⟩, hX7⟩ := TX.out.open
  go_wp2_with fail
  generalize w6.alloc (.cells #[.bool b6, .slice p6 n6 q6] 33) = W6 at *
  generalize w6.heap.size = t6 at *
  have C7 := wAdd_any _ _ _ _ W6 hY7 hX7 (Lo.small BY.out (by decide)).words (Lo.small BX.out (by decide)).words
  have HC7 := Lib.hid C7
  clear C7
  clear cY70 cY71 hY7
  clear cX70 cX71 hX7
  go_must (refine HC7.out.mono ?_)
  rintro e w7 hw7
  obtain ⟨b7, p7, n7, q7, e7, rfl, hy7, hb7⟩ := rend_form hw7
  obtain ⟨rfl, hx7⟩ : e7 = 0 ∧ IAt w7 (.agg #[.bool b7, .slice p7 n7 q7]) (zY + zX) := by
    rcases hy7 with ⟨_, h1, h2⟩ | ⟨h, _⟩
    · exact ⟨h1, h2⟩
    · exact absurd h (Lo.small BB.out (by decide)).notBig
  have hbb := below_then hb7 (below_one w7 (.cells #[.bool b7, .slice p7 n7 q7] 33))
  clear hw7 hy7
  have U := Lib.hid (TX.out.below hbb)
  clear TX
  have TX := U
  clear U
  have U := Lib.hid (TY.out.below hbb)
  clear TY
  have TY := U
  clear U
  have U := Lib.hid (TZ.out.below hbb)
  clear TZ
  have TZ := U
  clear U
  have U := Lib.hid (TA.out.below hbb)
  clear TA
  have TA := U
  clear U
  have U := Lib.hid (row_keeps HL.out hbb)
  clear HL
  have HL := U
  clear U
  have U := Lib.hid (below_then HB.out hbb)
  clear HB
  have HB := U
  clear U
  have TB := Lib.hid (IBox.new hx7)
  clear HC7 hb7 hbb hx7
  obtain ⟨sA8, aA8, mA8, kA8, ⟨cA80, cA81⟩, hA8⟩ := TA.out.open
  obtain ⟨sZ8, aZ8, mZ8, kZ8, ⟨cZ80, cZ81⟩, hZ8⟩ := TZ.out.open
  go_wp2_with fail
  generalize w7.alloc (.cells #[.bool b7, .slice p7 n7 q7] 33) = W7 at *
  generalize w7.heap.size = t7 at *
  have C8 := wMul_any _ _ _ _ W7 hA8 hZ8 (Lo.small BA.out (by decide)).words (Lo.small BZ.out (by decide)).words
  have HC8 := Lib.hid C8
  clear C8
  clear cA80 cA81 hA8
  clear cZ80 cZ81 hZ8
  go_must (refine HC8.out.mono ?_)
  rintro e w8 hw8
  obtain ⟨b8, p8, n8, q8, e8, rfl, hy8, hb8⟩ := rend_form hw8
  obtain ⟨rfl, hx8⟩ : e8 = 0 ∧ IAt w8 (.agg #[.bool b8, .slice p8 n8 q8]) ((zX + zY) * zZ) := by
    rcases hy8 with ⟨_, h1, h2⟩ | ⟨h, _⟩
    · exact ⟨h1, h2⟩
    · exact absurd h (Lo.small BC.out (by decide)).notBig
  have hbb := below_then hb8 (below_one w8 (.cells #[.bool b8, .slice p8 n8 q8] 33))
  clear hw8 hy8
  have U := Lib.hid (TX.out.below hbb)
  clear TX
  have TX := U
  clear U
  have U := Lib.hid (TY.out.below hbb)
  clear TY
  have TY := U
  clear U
  have U := Lib.hid (TZ.out.below hbb)
  clear TZ
  have TZ := U
  clear U
  have U := Lib.hid (TA.out.below hbb)
  clear TA
  have TA := U
  clear U
  have U := Lib.hid (TB.out.below hbb)
  clear TB
  have TB := U
  clear U
  have U := Lib.hid (row_keeps HL.out hbb)
  clear HL
  have HL := U
  clear U
  have U := Lib.hid (below_then HB.out hbb)
  clear HB
  have HB := U
  clear U
  have TC := Lib.hid (IBox.new hx8)
  clear HC8 hb8 hbb hx8
  obtain ⟨sX9, aX9, mX9, kX9, ⟨cX90, cX91⟩, hX9⟩ := TX.out.open
  obtain ⟨sZ9, aZ9, mZ9, kZ9, ⟨cZ90, cZ91⟩, hZ9⟩ := TZ.out.open
  go_wp2_with fail
  generalize w8.alloc (.cells #[.bool b8, .slice p8 n8 q8] 33) = W8 at *
  generalize w8.heap.size = t8 at *
  have C9 := wMul_any _ _ _ _ W8 hX9 hZ9 (Lo.small BX.out (by decide)).words (Lo.small BZ.out (by decide)).words
  have HC9 := Lib.hid C9
  clear C9
  clear cX90 cX91 hX9
  clear cZ90 cZ91 hZ9
  go_must (refine HC9.out.mono ?_)
  rintro e w9 hw9
  obtain ⟨b9, p9, n9, q9, e9, rfl, hy9, hb9⟩ := rend_form hw9
  obtain ⟨rfl, hx9⟩ : e9 = 0 ∧ IAt w9 (.agg #[.bool b9, .slice p9 n9 q9]) (zX * zZ) := by
    rcases hy9 with ⟨_, h1, h2⟩ | ⟨h, _⟩
    · exact ⟨h1, h2⟩
    · exact absurd h (Lo.small BD.out (by decide)).notBig
  have hbb := below_then hb9 (below_one w9 (.cells #[.bool b9, .slice p9 n9 q9] 33))
  clear hw9 hy9
  have U := Lib.hid (TX.out.below hbb)
  clear TX
  have TX := U
  clear U
  have U := Lib.hid (TY.out.below hbb)
  clear TY
  have TY := U
  clear U
  have U := Lib.hid (TZ.out.below hbb)
  clear TZ
  have TZ := U
  clear U
  have U := Lib.hid (TA.out.below hbb)
  clear TA
  have TA := U
  clear U
  have U := Lib.hid (TB.out.below hbb)
  clear TB
  have TB := U
  clear U
  have U := Lib.hid (TC.out.below hbb)
  clear TC
  have TC := U
  clear U
  have U := Lib.hid (row_keeps HL.out hbb)
  clear HL
  have HL := U
  clear U
  have U := Lib.hid (below_then HB.out hbb)
  clear HB
  have HB := U
  clear U
  have TD := Lib.hid (IBox.new hx9)
  clear HC9 hb9 hbb hx9
  obtain ⟨sZ10, aZ10, mZ10, kZ10, ⟨cZ100, cZ101⟩, hZ10⟩ := TZ.out.open
  obtain ⟨sY10, aY10, mY10, kY10, ⟨cY100, cY101⟩, hY10⟩ := TY.out.open
  go_wp2_with fail
  generalize w9.alloc (.cells #[.bool b9, .slice p9 n9 q9] 33) = W9 at *
  generalize w9.heap.size = t9 at *
  have C10 := wMul_any _ _ _ _ W9 hZ10 hY10 (Lo.small BZ.out (by decide)).words (Lo.small BY.out (by decide)).words
  have HC10 := Lib.hid C10
  clear C10
  clear cZ100 cZ101 hZ10
  clear cY100 cY101 hY10
  go_must (refine HC10.out.mono ?_)
  rintro e w10 hw10
  obtain ⟨b10, p10, n10, q10, e10, rfl, hy10, hb10⟩ := rend_form hw10
  obtain ⟨rfl, hx10⟩ : e10 = 0 ∧ IAt w10 (.agg #[.bool b10, .slice p10 n10 q10]) (zZ * zY) := by
    rcases hy10 with ⟨_, h1, h2⟩ | ⟨h, _⟩
    · exact ⟨h1, h2⟩
    · exact absurd h (Lo.small BI.out (by decide)).notBig
  have hbb := below_then hb10 (below_one w10 (.cells #[.bool b10, .slice p10 n10 q10] 33))
  clear hw10 hy10
  have U := Lib.hid (TX.out.below hbb)
  clear TX
  have TX := U
  clear U
  have U := Lib.hid (TY.out.below hbb)
  clear TY
  have TY := U
  clear U
  have U := Lib.hid (TZ.out.below hbb)
  clear TZ
  have TZ := U
  clear U
  have U := Lib.hid (TA.out.below hbb)
  clear TA
  have TA := U
  clear U
  have U := Lib.hid (TB.out.below hbb)
  clear TB
  have TB := U
  clear U
  have U := Lib.hid (TC.out.below hbb)
  clear TC
  have TC := U
  clear U
  have U := Lib.hid (TD.out.below hbb)
  clear TD
  have TD := U
  clear U
  have U := Lib.hid (row_keeps HL.out hbb)
  clear HL
  have HL := U
  clear U
  have U := Lib.hid (below_then HB.out hbb)
  clear HB
  have HB := U
  clear U
  have TI := Lib.hid (IBox.new hx10)
  clear HC10 hb10 hbb hx10
  obtain ⟨sD11, aD11, mD11, kD11, ⟨cD110, cD111⟩, hD11⟩ := TD.out.open
  obtain ⟨sI11, aI11, mI11, kI11, ⟨cI110, cI111⟩, hI11⟩ := TI.out.open
  go_wp2_with fail
  generalize w10.alloc (.cells #[.bool b10, .slice p10 n10 q10] 33) = W10 at *
  generalize w10.heap.size = t10 at *
  have C11 := wAdd_any _ _ _ _ W10 hD11 hI11 (Lo.small BD.out (by decide)).words (Lo.small BI.out (by decide)).words
  have HC11 := Lib.hid C11
  clear C11
  clear cD110 cD111 hD11
  clear cI110 cI111 hI11
  go_must (refine HC11.out.mono ?_)
  rintro e w11 hw11
  obtain ⟨b11, p11, n11, q11, e11, rfl, hy11, hb11⟩ := rend_form hw11
  obtain ⟨rfl, hx11⟩ : e11 = 0 ∧ IAt w11 (.agg #[.bool b11, .slice p11 n11 q11]) (zX * zZ + zZ * zY) := by
    rcases hy11 with ⟨_, h1, h2⟩ | ⟨h, _⟩
    · exact ⟨h1, h2⟩
    · exact absurd h (Lo.small BK.out (by decide)).notBig
  have hbb := below_then hb11 (below_one w11 (.cells #[.bool b11, .slice p11 n11 q11] 33))
  clear hw11 hy11
  have U := Lib.hid (TX.out.below hbb)
  clear TX
  have TX := U
  clear U
  have U := Lib.hid (TY.out.below hbb)
  clear TY
  have TY := U
  clear U
  have U := Lib.hid (TZ.out.below hbb)
  clear TZ
  have TZ := U
  clear U
  have U := Lib.hid (TA.out.below hbb)
  clear TA
  have TA := U
  clear U
  have U := Lib.hid (TB.out.below hbb)
  clear TB
  have TB := U
  clear U
  have U := Lib.hid (TC.out.below hbb)
  clear TC
  have TC := U
  clear U
  have U := Lib.hid (TD.out.below hbb)
  clear TD
  have TD := U
  clear U
  have U := Lib.hid (TI.out.below hbb)
  clear TI
  have TI := U
  clear U
  have U := Lib.hid (row_keeps HL.out hbb)
  clear HL
  have HL := U
  clear U
  have U := Lib.hid (below_then HB.out hbb)
  clear HB
  have HB := U
  clear U
  have TK := Lib.hid (IBox.new hx11)
  clear HC11 hb11 hbb hx11
  obtain ⟨sA12, aA12, mA12, kA12, ⟨cA120, cA121⟩, hA12⟩ := TA.out.open
  obtain ⟨sY12, aY12, mY12, kY12, ⟨cY120, cY121⟩, hY12⟩ := TY.out.open
  go_wp2_with fail
  generalize w11.alloc (.cells #[.bool b11, .slice p11 n11 q11] 33) = W11 at *
  generalize w11.heap.size = t11 at *
  have C12 := wSub_any _ _ _ _ W11 hA12 hY12 (Lo.small BA.out (by decide)).words (Lo.small BY.out (by decide)).words
  have HC12 := Lib.hid C12
  clear C12
  clear cA120 cA121 hA12
  clear cY120 cY121 hY12
  go_must (refine HC12.out.mono ?_)
  rintro e w12 hw12
  obtain ⟨b12, p12, n12, q12, e12, rfl, hy12, hb12⟩ := rend_form hw12
  obtain ⟨rfl, hx12⟩ : e12 = 0 ∧ IAt w12 (.agg #[.bool b12, .slice p12 n12 q12]) (zX + zY - zY) := by
    rcases hy12 with ⟨_, h1, h2⟩ | ⟨h, _⟩
    · exact ⟨h1, h2⟩
    · exact absurd h (Lo.small BN.out (by decide)).notBig
  have hbb := below_then hb12 (below_one w12 (.cells #[.bool b12, .slice p12 n12 q12] 33))
  clear hw12 hy12
  have U := Lib.hid (TX.out.below hbb)
  clear TX
  have TX := U
  clear U
  have U := Lib.hid (TY.out.below hbb)
  clear TY
  have TY := U
  clear U
  have U := Lib.hid (TZ.out.below hbb)
  clear TZ
  have TZ := U
  clear U
  have U := Lib.hid (TA.out.below hbb)
  clear TA
  have TA := U
  clear U
  have U := Lib.hid (TB.out.below hbb)
  clear TB
  have TB := U
  clear U
  have U := Lib.hid (TC.out.below hbb)
  clear TC
  have TC := U
  clear U
  have U := Lib.hid (TD.out.below hbb)
  clear TD
  have TD := U
  clear U
  have U := Lib.hid (TI.out.below hbb)
  clear TI
  have TI := U
  clear U
  have U := Lib.hid (TK.out.below hbb)
  clear TK
  have TK := U
  clear U
  have U := Lib.hid (row_keeps HL.out hbb)
  clear HL
  have HL := U
  clear U
  have U := Lib.hid (below_then HB.out hbb)
  clear HB
  have HB := U
  clear U
  have TN := Lib.hid (IBox.new hx12)
  clear HC12 hb12 hbb hx12
  go_wp2_with fail
  generalize w12.alloc (.cells #[.bool b12, .slice p12 n12 q12] 33) = W12 at *
  generalize w12.heap.size = t12 at *
  obtain ⟨sAE, aAE, mAE, kAE, lAE, hAE⟩ := TA.out
  have GA := Lib.hid hAE
  have LA := Lib.hid lAE
  clear hAE lAE
  obtain ⟨sBE, aBE, mBE, kBE, lBE, hBE⟩ := TB.out
  have GB := Lib.hid hBE
  have LB := Lib.hid lBE
  clear hBE lBE
  obtain ⟨sCE, aCE, mCE, kCE, lCE, hCE⟩ := TC.out
  have GC := Lib.hid hCE
  have LC := Lib.hid lCE
  clear hCE lCE
  obtain ⟨sKE, aKE, mKE, kKE, lKE, hKE⟩ := TK.out
  have GK := Lib.hid hKE
  have LK := Lib.hid lKE
  clear hKE lKE
  obtain ⟨sNE, aNE, mNE, kNE, lNE, hNE⟩ := TN.out
  have GN := Lib.hid hNE
  have LN := Lib.hid lNE
  clear hNE lNE
  obtain ⟨sXE, aXE, mXE, kXE, lXE, hXE⟩ := TX.out
  have GX := Lib.hid hXE
  have LX := Lib.hid lXE
  clear hXE lXE
  have CELLS : Hid (∀ X : World, Below W12.heap.size W12 X → X.cell? ⟨t6, 0, none⟩ = some (.bool sAE) ∧ X.cell? ⟨t6, 1, none⟩ = some (.slice aAE mAE kAE) ∧ X.cell? ⟨t7, 0, none⟩ = some (.bool sBE) ∧ X.cell? ⟨t7, 1, none⟩ = some (.slice aBE mBE kBE) ∧ X.cell? ⟨t8, 0, none⟩ = some (.bool sCE) ∧ X.cell? ⟨t8, 1, none⟩ = some (.slice aCE mCE kCE) ∧ X.cell? ⟨t11, 0, none⟩ = some (.bool sKE) ∧ X.cell? ⟨t11, 1, none⟩ = some (.slice aKE mKE kKE) ∧ X.cell? ⟨t12, 0, none⟩ = some (.bool sNE) ∧ X.cell? ⟨t12, 1, none⟩ = some (.slice aNE mNE kNE) ∧ X.cell? ⟨t1, 0, none⟩ = some (.bool sXE) ∧ X.cell? ⟨t1, 1, none⟩ = some (.slice aXE mXE kXE)) := Lib.hid (fun X h => by
    obtain ⟨eA0, eA1, _, _⟩ := cells2 (LA.out.below h)
    obtain ⟨eB0, eB1, _, _⟩ := cells2 (LB.out.below h)
    obtain ⟨eC0, eC1, _, _⟩ := cells2 (LC.out.below h)
    obtain ⟨eK0, eK1, _, _⟩ := cells2 (LK.out.below h)
    obtain ⟨eN0, eN1, _, _⟩ := cells2 (LN.out.below h)
    obtain ⟨eX0, eX1, _, _⟩ := cells2 (LX.out.below h)
    exact ⟨eA0, eA1, eB0, eB1, eC0, eC1, eK0, eK1, eN0, eN1, eX0, eX1⟩)
  have HW0 := HB
  clear HB
  have HB : Hid (Below W12.heap.size W12 W12.drew) := Lib.hid (Below.refl _ _).drew
  have CMP : Hid (∀ w' x y, Twin w' x y → Calls Tryd.prog 37 #[x, y] w' (CmpEnd 0 w')) := Lib.hid compare_twin
  unfold CmpEnd at CMP
  have STR : Hid (∀ w' x, IAt w' x (zX + zY) → Calls Tryd.prog 19 #[x] w' (TxtEnd (zX + zY) w')) := Lib.hid (fun w' x h => wString_any x _ w' h (Lo.small BA.out (by decide)).words)
  unfold TxtEnd at STR
  have T1 : Hid (∀ w', Below W12.heap.size W12 w' → Twin w' (.agg #[.bool sAE, .slice aAE mAE kAE]) (.agg #[.bool sBE, .slice aBE mBE kBE])) := Lib.hid (fun w' h => twin_mk (iat_keeps GA.out h) (by rw [Int.add_comm zX zY]; exact iat_keeps GB.out h) (Lo.small BA.out (by decide)).words)
  have T2 : Hid (∀ w', Below W12.heap.size W12 w' → Twin w' (.agg #[.bool sCE, .slice aCE mCE kCE]) (.agg #[.bool sKE, .slice aKE mKE kKE])) := Lib.hid (fun w' h => twin_mk (iat_keeps GC.out h) (by rw [Int.add_mul, Int.mul_comm zY zZ]; exact iat_keeps GK.out h) (Lo.small BC.out (by decide)).words)
  have T3 : Hid (∀ w', Below W12.heap.size W12 w' → Twin w' (.agg #[.bool sNE, .slice aNE mNE kNE]) (.agg #[.bool sXE, .slice aXE mXE kXE])) := Lib.hid (fun w' h => twin_mk (iat_keeps GN.out h) (by rw [Int.add_sub_cancel]; exact iat_keeps GX.out h) (Lo.small BN.out (by decide)).words)
  have T4 : Hid (∀ w', Below W12.heap.size W12 w' → IAt w' (.agg #[.bool sAE, .slice aAE mAE kAE]) (zX + zY)) := Lib.hid (fun w' h => iat_keeps GA.out h)
  have T5 : Hid (∀ w', Below W12.heap.size W12 w' → IAt w' (.agg #[.bool sBE, .slice aBE mBE kBE]) (zX + zY)) := Lib.hid (fun w' h => by rw [Int.add_comm zX zY]; exact iat_keeps GB.out h)
  go_wp2_with fail
  go_region_held3 (fun X : World => X.cell? ⟨t6, 0, none⟩ = some (.bool sAE) ∧ X.cell? ⟨t6, 1, none⟩ = some (.slice aAE mAE kAE) ∧ X.cell? ⟨t7, 0, none⟩ = some (.bool sBE) ∧ X.cell? ⟨t7, 1, none⟩ = some (.slice aBE mBE kBE) ∧ X.cell? ⟨t8, 0, none⟩ = some (.bool sCE) ∧ X.cell? ⟨t8, 1, none⟩ = some (.slice aCE mCE kCE) ∧ X.cell? ⟨t11, 0, none⟩ = some (.bool sKE) ∧ X.cell? ⟨t11, 1, none⟩ = some (.slice aKE mKE kKE) ∧ X.cell? ⟨t12, 0, none⟩ = some (.bool sNE) ∧ X.cell? ⟨t12, 1, none⟩ = some (.slice aNE mNE kNE) ∧ X.cell? ⟨t1, 0, none⟩ = some (.bool sXE) ∧ X.cell? ⟨t1, 1, none⟩ = some (.slice aXE mXE kXE)) (first | exact CELLS.out _ HB.out) (first
    | (go_at_call 37; refine (CMP.out _ _ _ (by first | exact T1.out _ HB.out | exact T2.out _ HB.out | exact T3.out _ HB.out)).mono ?_; rintro e w9 ⟨rfl, hb9⟩; have UB := Lib.hid (below_then HB.out hb9); clear hb9 HB; have HB := UB; clear UB)
    | (go_at_call 19; refine (STR.out _ _ (by first | exact T4.out _ HB.out | exact T5.out _ HB.out)).mono ?_; rintro e w9 ⟨rfl, hb9⟩; have UB := Lib.hid (below_then HB.out hb9); clear hb9 HB; have HB := UB; clear UB))
  clear CMP STR T1 T2 T3 T4 T5
  have GCK := Lib.hid (iat_keeps GC.out HB.out)
  have hbb := HB.out
  clear HB CELLS GA LA GB LB GC LC GK LK GN LN GX LX
  have U := Lib.hid (TX.out.below hbb)
  clear TX
  have TX := U
  clear U
  have U := Lib.hid (TY.out.below hbb)
  clear TY
  have TY := U
  clear U
  have U := Lib.hid (TZ.out.below hbb)
  clear TZ
  have TZ := U
  clear U
  have U := Lib.hid (TA.out.below hbb)
  clear TA
  have TA := U
  clear U
  have U := Lib.hid (TB.out.below hbb)
  clear TB
  have TB := U
  clear U
  have U := Lib.hid (TC.out.below hbb)
  clear TC
  have TC := U
  clear U
  have U := Lib.hid (TD.out.below hbb)
  clear TD
  have TD := U
  clear U
  have U := Lib.hid (TI.out.below hbb)
  clear TI
  have TI := U
  clear U
  have U := Lib.hid (TK.out.below hbb)
  clear TK
  have TK := U
  clear U
  have U := Lib.hid (TN.out.below hbb)
  clear TN
  have TN := U
  clear U
  have U := Lib.hid (row_keeps HL.out hbb)
  clear HL
  have HL := U
  clear U
  have HB := Lib.hid (below_then HW0.out hbb)
  clear HW0 hbb
  have RS := ring_sizes BC.out BY.out (by decide)
  have BQ := Lib.hid RS.1
  have BR := Lib.hid RS.2.1
  have BP := Lib.hid RS.2.2.1
  have HU := Lib.hid RS.2.2.2.1
  have HMOD := Lib.hid RS.2.2.2.2
  clear RS
  rcases Classical.em (zY = 0) with h0 | h0
  · have HYZ := Lib.hid h0
    clear h0
    obtain ⟨sY13, aY13, mY13, kY13, ⟨cY130, cY131⟩, hY13⟩ := TY.out.open
    go_wp2_with fail
    have C13 := wDiv_zero _ _ _ w9 GCK.out (HYZ.out ▸ hY13)
    unfold DivZEnd at C13
    have HC13 := Lib.hid C13
    clear C13
    clear cY130 cY131 hY13
    go_must (refine HC13.out.mono ?_)
    rintro e w13 ⟨b13q, p13q, n13q, q13q, b13r, p13r, n13r, q13r, rfl, hx13q, hx13r, hb13⟩
    obtain ⟨p1, p2, p3⟩ := ibox_two hx13q hx13r
    have hbb := below_then hb13 p3
    have U := Lib.hid (TX.out.below hbb)
    clear TX
    have TX := U
    clear U
    have U := Lib.hid (TY.out.below hbb)
    clear TY
    have TY := U
    clear U
    have U := Lib.hid (TZ.out.below hbb)
    clear TZ
    have TZ := U
    clear U
    have U := Lib.hid (TA.out.below hbb)
    clear TA
    have TA := U
    clear U
    have U := Lib.hid (TB.out.below hbb)
    clear TB
    have TB := U
    clear U
    have U := Lib.hid (TC.out.below hbb)
    clear TC
    have TC := U
    clear U
    have U := Lib.hid (TD.out.below hbb)
    clear TD
    have TD := U
    clear U
    have U := Lib.hid (TI.out.below hbb)
    clear TI
    have TI := U
    clear U
    have U := Lib.hid (TK.out.below hbb)
    clear TK
    have TK := U
    clear U
    have U := Lib.hid (TN.out.below hbb)
    clear TN
    have TN := U
    clear U
    have U := Lib.hid (row_keeps HL.out hbb)
    clear HL
    have HL := U
    clear U
    have U := Lib.hid (below_then HB.out hbb)
    clear HB
    have HB := U
    clear U
    have TQ := Lib.hid (p1)
    have TR := Lib.hid (p2)
    clear HC13 hb13 hbb hx13q hx13r p1 p2 p3
    obtain ⟨sYE, aYE, mYE, kYE, ⟨cYE0, cYE1⟩, hYE⟩ := TY.out.open
    go_wp2_with fail
    generalize (w13.alloc (.cells #[.bool b13q, .slice p13q n13q q13q] 33)).alloc (.cells #[.bool b13r, .slice p13r n13r q13r] 33) = W13 at *
    generalize w13.heap.size = t13 at *
    have SG := wSign_any _ zY W13 hYE (Lo.small BY.out (by decide)).words
    rw [show cmpZ zY 0 = 0 by rw [HYZ.out]; rfl] at SG
    unfold CmpEnd at SG
    have HSG := Lib.hid SG
    clear SG cYE0 cYE1 hYE
    go_must (refine HSG.out.mono ?_)
    rintro e w90 ⟨rfl, hb90⟩
    have HB90 := Lib.hid (below_then HB.out hb90)
    have LV := lives_any w90
    unfold TrueEnd at LV
    have HLV := Lib.hid LV
    clear hb90 HSG LV
    go_wp2_with fail
    go_must (refine HLV.out.mono ?_)
    rintro e w91 ⟨rfl, hb91⟩
    have HE := Lib.hid (below_then HB90.out hb91)
    clear hb91 HLV
    go_wp2_with fail
    go_ret
    exact ⟨rfl, HE.out⟩
  · have HY0 := Lib.hid h0
    clear h0
    obtain ⟨sY13, aY13, mY13, kY13, ⟨cY130, cY131⟩, hY13⟩ := TY.out.open
    go_wp2_with fail
    have C13 := wDiv_any _ _ _ _ w9 GCK.out hY13 (Lo.small BC.out (by decide)).words (Lo.small BY.out (by decide)).words HY0.out
    unfold DivEndW at C13
    have HC13 := Lib.hid C13
    clear C13
    clear cY130 cY131 hY13
    go_must (refine HC13.out.mono ?_)
    rintro e w13 ⟨b13q, p13q, n13q, q13q, b13r, p13r, n13r, q13r, rfl, hx13q, hx13r, hb13⟩
    obtain ⟨p1, p2, p3⟩ := ibox_two hx13q hx13r
    have hbb := below_then hb13 p3
    have U := Lib.hid (TX.out.below hbb)
    clear TX
    have TX := U
    clear U
    have U := Lib.hid (TY.out.below hbb)
    clear TY
    have TY := U
    clear U
    have U := Lib.hid (TZ.out.below hbb)
    clear TZ
    have TZ := U
    clear U
    have U := Lib.hid (TA.out.below hbb)
    clear TA
    have TA := U
    clear U
    have U := Lib.hid (TB.out.below hbb)
    clear TB
    have TB := U
    clear U
    have U := Lib.hid (TC.out.below hbb)
    clear TC
    have TC := U
    clear U
    have U := Lib.hid (TD.out.below hbb)
    clear TD
    have TD := U
    clear U
    have U := Lib.hid (TI.out.below hbb)
    clear TI
    have TI := U
    clear U
    have U := Lib.hid (TK.out.below hbb)
    clear TK
    have TK := U
    clear U
    have U := Lib.hid (TN.out.below hbb)
    clear TN
    have TN := U
    clear U
    have U := Lib.hid (row_keeps HL.out hbb)
    clear HL
    have HL := U
    clear U
    have U := Lib.hid (below_then HB.out hbb)
    clear HB
    have HB := U
    clear U
    have TQ := Lib.hid (p1)
    have TR := Lib.hid (p2)
    clear HC13 hb13 hbb hx13q hx13r p1 p2 p3
    obtain ⟨sQ14, aQ14, mQ14, kQ14, ⟨cQ140, cQ141⟩, hQ14⟩ := TQ.out.open
    obtain ⟨sY14, aY14, mY14, kY14, ⟨cY140, cY141⟩, hY14⟩ := TY.out.open
    go_wp2_with fail
    generalize (w13.alloc (.cells #[.bool b13q, .slice p13q n13q q13q] 33)).alloc (.cells #[.bool b13r, .slice p13r n13r q13r] 33) = W13 at *
    generalize w13.heap.size = t13 at *
    have C14 := wMul_any _ _ _ _ W13 hQ14 hY14 (Lo.small BQ.out (by decide)).words (Lo.small BY.out (by decide)).words
    have HC14 := Lib.hid C14
    clear C14
    clear cQ140 cQ141 hQ14
    clear cY140 cY141 hY14
    go_must (refine HC14.out.mono ?_)
    rintro e w14 hw14
    obtain ⟨b14, p14, n14, q14, e14, rfl, hy14, hb14⟩ := rend_form hw14
    obtain ⟨rfl, hx14⟩ : e14 = 0 ∧ IAt w14 (.agg #[.bool b14, .slice p14 n14 q14]) ((zX + zY) * zZ / zY * zY) := by
      rcases hy14 with ⟨_, h1, h2⟩ | ⟨h, _⟩
      · exact ⟨h1, h2⟩
      · exact absurd h (Lo.small BP.out (by decide)).notBig
    have hbb := below_then hb14 (below_one w14 (.cells #[.bool b14, .slice p14 n14 q14] 33))
    clear hw14 hy14
    have U := Lib.hid (TX.out.below hbb)
    clear TX
    have TX := U
    clear U
    have U := Lib.hid (TY.out.below hbb)
    clear TY
    have TY := U
    clear U
    have U := Lib.hid (TZ.out.below hbb)
    clear TZ
    have TZ := U
    clear U
    have U := Lib.hid (TA.out.below hbb)
    clear TA
    have TA := U
    clear U
    have U := Lib.hid (TB.out.below hbb)
    clear TB
    have TB := U
    clear U
    have U := Lib.hid (TC.out.below hbb)
    clear TC
    have TC := U
    clear U
    have U := Lib.hid (TD.out.below hbb)
    clear TD
    have TD := U
    clear U
    have U := Lib.hid (TI.out.below hbb)
    clear TI
    have TI := U
    clear U
    have U := Lib.hid (TK.out.below hbb)
    clear TK
    have TK := U
    clear U
    have U := Lib.hid (TN.out.below hbb)
    clear TN
    have TN := U
    clear U
    have U := Lib.hid (TQ.out.below hbb)
    clear TQ
    have TQ := U
    clear U
    have U := Lib.hid (TR.out.below hbb)
    clear TR
    have TR := U
    clear U
    have U := Lib.hid (row_keeps HL.out hbb)
    clear HL
    have HL := U
    clear U
    have U := Lib.hid (below_then HB.out hbb)
    clear HB
    have HB := U
    clear U
    have TP := Lib.hid (IBox.new hx14)
    clear HC14 hb14 hbb hx14
    obtain ⟨sPE, aPE, mPE, kPE, ⟨cPE0, cPE1⟩, hPE⟩ := TP.out.open
    obtain ⟨sRE, aRE, mRE, kRE, ⟨cRE0, cRE1⟩, hRE⟩ := TR.out.open
    go_wp2_with fail
    generalize w14.alloc (.cells #[.bool b14, .slice p14 n14 q14] 33) = W14 at *
    generalize w14.heap.size = t14 at *
    have AD := wAdd_any _ _ _ _ W14 hPE hRE (Lo.small BP.out (by decide)).words (Lo.small BR.out (by decide)).words
    rw [HU.out] at AD
    have HAD := Lib.hid AD
    clear AD cPE0 cPE1 cRE0 cRE1 hPE hRE
    go_must (refine HAD.out.mono ?_)
    rintro e w80 hw80
    obtain ⟨b80, p80, n80, q80, e80, rfl, hy80, hb80⟩ := rend_form hw80
    obtain ⟨rfl, hx80⟩ : e80 = 0 ∧ IAt w80 (.agg #[.bool b80, .slice p80 n80 q80]) ((zX + zY) * zZ) := by
      rcases hy80 with ⟨_, h1, h2⟩ | ⟨h, _⟩
      · exact ⟨h1, h2⟩
      · exact absurd h (Lo.small BC.out (by decide)).notBig
    have hbb := below_then hb80 (below_one w80 (.cells #[.bool b80, .slice p80 n80 q80] 33))
    clear hw80 hy80
    have U := Lib.hid (TC.out.below hbb)
    clear TC
    have TC := U
    clear U
    have U := Lib.hid (TR.out.below hbb)
    clear TR
    have TR := U
    clear U
    have U := Lib.hid (TY.out.below hbb)
    clear TY
    have TY := U
    clear U
    have TU := Lib.hid (IBox.new hx80)
    have HB1 := Lib.hid (below_then HB.out hbb)
    clear HB
    have HT := Lib.hid HB1.out.size
    have DC := Lib.hid (Nat.ne_of_lt TC.out.lt)
    have DR := Lib.hid (Nat.ne_of_lt TR.out.lt)
    have DU := Lib.hid (Nat.ne_of_lt TU.out.lt)
    obtain ⟨s81, a81, m81, k81, LD, hy81⟩ := TY.out
    obtain ⟨c810, c811, _, _⟩ := cells2 LD
    have hb2 := below_one (w80.alloc (.cells #[.bool b80, .slice p80 n80 q80] 33)) (.cells #[.bool s81, .slice a81 m81 k81] 33)
    obtain ⟨d810, d811, _, _⟩ := cells2 (LD.below hb2)
    have HM := HMOD.out HY0.out
    have TS := Lib.hid (IBox.new hy81)
    have HB := Lib.hid (below_then HB1.out hb2)
    clear HB1
    have U := Lib.hid (TC.out.below hb2)
    clear TC
    have TC := U
    clear U
    have U := Lib.hid (TR.out.below hb2)
    clear TR
    have TR := U
    clear U
    have U := Lib.hid (TY.out.below hb2)
    clear TY
    have TY := U
    clear U
    have U := Lib.hid (TU.out.below hb2)
    clear TU
    have TU := U
    clear U
    have hy82 := iat_keeps hy81 hb2
    have SG := wSign_any _ zY _ hy82 (Lo.small BY.out (by decide)).words
    clear hx80 hb80 hbb HAD hy81 hy82 hb2 LD
    obtain ⟨zS, hzS⟩ : ∃ s, s = (zY.natAbs : Int) := ⟨_, rfl⟩
    have HR9 : Hid (0 ≤ (zX + zY) * zZ % zY ∧ (zX + zY) * zZ % zY < zS) := Lib.hid (by rw [hzS]; exact HM)
    have BS : Hid (Lo 240 zS) := Lib.hid (by unfold Lo; have := BY.out; unfold Lo at this; rw [hzS, Int.natAbs_natCast]; exact this)
    have HS : Hid (zS = (zY.natAbs : Int)) := Lib.hid hzS
    clear HM hzS
    rcases (show zY < 0 ∨ 0 < zY by have := HY0.out; omega) with hs | hs
    · have HN := Lib.hid hs
      clear hs
      rw [show cmpZ zY 0 = -1 by have := HN.out; unfold cmpZ; rw [if_pos this]] at SG
      unfold CmpEnd at SG
      have HSG := Lib.hid SG
      clear SG
      go_wp2_with fail
      clear c810 c811 d810 d811
      go_must (refine HSG.out.mono ?_)
      rintro e w90 ⟨rfl, hb90⟩
      have U := Lib.hid (TC.out.below hb90)
      clear TC
      have TC := U
      clear U
      have U := Lib.hid (TR.out.below hb90)
      clear TR
      have TR := U
      clear U
      have U := Lib.hid (TY.out.below hb90)
      clear TY
      have TY := U
      clear U
      have U := Lib.hid (TU.out.below hb90)
      clear TU
      have TU := U
      clear U
      have U := Lib.hid (TS.out.below hb90)
      clear TS
      have TS := U
      clear U
      have U := Lib.hid (below_then HB.out hb90)
      clear HB HSG
      have HB := U
      clear U hb90
      have h8 : (w80.alloc (.cells #[.bool b80, .slice p80 n80 q80] 33)).heap.size = w80.heap.size + 1 := size_alloc1 _ _
      rw [h8] at TS HT DC DR DU
      clear h8
      generalize w80.heap.size + 1 = t81 at *
      generalize w80.heap.size = t80 at *
      obtain ⟨s91, a91, m91, k91, ⟨c910, c911⟩, hy91⟩ := TY.out.open
      go_wp2_with fail
      have NG := wNeg_any _ zY w90 hy91 (Lo.small BY.out (by decide)).words
      unfold IEnd at NG
      have HNG := Lib.hid NG
      clear NG hy91 c910 c911
      go_must (refine HNG.out.mono ?_)
      rintro e w92 ⟨b92, a92, m92, k92, rfl, hx92, hb92⟩
      have U := Lib.hid (TC.out.below hb92)
      clear TC
      have TC := U
      clear U
      have U := Lib.hid (TR.out.below hb92)
      clear TR
      have TR := U
      clear U
      have U := Lib.hid (TU.out.below hb92)
      clear TU
      have TU := U
      clear U
      have U := Lib.hid (TS.out.below hb92)
      clear TS
      have TS := U
      clear U
      have HBx := Lib.hid (below_then HB.out hb92)
      clear HB HNG hb92 TY
      obtain ⟨s0, a0, m0, c0, LS, _⟩ := TS.out
      obtain ⟨e0, e1, f0, f1⟩ := cells2 LS
      have HB := Lib.hid ((HBx.out.setCell (p := ⟨t81, 0, none⟩) HT.out (.bool b92)).setCell (p := ⟨t81, 1, none⟩) HT.out (.slice a92 m92 k92))
      have U := Lib.hid (TS.out.other TC.out DC.out (s := b92) (a := a92) (m := m92) (c := k92))
      clear TC
      have TC := U
      clear U
      have U := Lib.hid (TS.out.other TR.out DR.out (s := b92) (a := a92) (m := m92) (c := k92))
      clear TR
      have TR := U
      clear U
      have U := Lib.hid (TS.out.other TU.out DU.out (s := b92) (a := a92) (m := m92) (c := k92))
      clear TU
      have TU := U
      clear U
      have TSn : Hid (IBox ((w92.setCell ⟨t81, 0, none⟩ (.bool b92)).setCell ⟨t81, 1, none⟩ (.slice a92 m92 k92)) t81 zS) := Lib.hid (by rw [show zS = -zY by have h1 := HS.out; have h2 := HN.out; omega]; exact TS.out.store hx92)
      clear TS HBx hx92 LS
      have TS := TSn
      clear TSn
      obtain ⟨sUE, aUE, mUE, kUE, ⟨cUE0, cUE1⟩, hUE⟩ := TU.out.open
      obtain ⟨sCE, aCE, mCE, kCE, ⟨cCE0, cCE1⟩, hCE⟩ := TC.out.open
      go_wp2_with fail
      have CP := wCompare_any _ _ _ _ ((w92.setCell ⟨t81, 0, none⟩ (.bool b92)).setCell ⟨t81, 1, none⟩ (.slice a92 m92 k92)) hUE hCE (Lo.small BC.out (by decide)).words (Lo.small BC.out (by decide)).words
      rw [cmp_same] at CP
      unfold CmpEnd at CP
      have HCP := Lib.hid CP
      clear CP
      clear cUE0 cUE1 hUE
      clear cCE0 cCE1 hCE
      clear e0 e1 f0 f1
      go_must (refine HCP.out.mono ?_)
      rintro e w93 ⟨rfl, hbe⟩
      have U := Lib.hid (TR.out.below hbe)
      clear TR
      have TR := U
      clear U
      have U := Lib.hid (TS.out.below hbe)
      clear TS
      have TS := U
      clear U
      have U := Lib.hid (below_then HB.out hbe)
      clear HB HCP hbe
      have HB := U
      clear U
      obtain ⟨c1, hc1, hc2⟩ : ∃ c, cmpZ ((zX + zY) * zZ % zY) 0 = c ∧ (c = 0 ∨ c = 1) := ⟨_, rfl, cmp_zero HR9.out.1⟩
      have HC1 := Lib.hid hc1
      have HC2 := Lib.hid hc2
      clear hc1 hc2
      obtain ⟨sRF, aRF, mRF, kRF, ⟨cRF0, cRF1⟩, hRF⟩ := TR.out.open
      go_wp2_with fail
      have CP := wSign_any _ _ w93 hRF (Lo.small BR.out (by decide)).words
      rw [HC1.out] at CP
      unfold CmpEnd at CP
      have HCP := Lib.hid CP
      clear CP
      clear cRF0 cRF1 hRF
      go_must (refine HCP.out.mono ?_)
      rintro e w94 ⟨rfl, hbe⟩
      have U := Lib.hid (TR.out.below hbe)
      clear TR
      have TR := U
      clear U
      have U := Lib.hid (TS.out.below hbe)
      clear TS
      have TS := U
      clear U
      have U := Lib.hid (below_then HB.out hbe)
      clear HB HCP hbe
      have HB := U
      clear U
      clear HC1
      rcases HC2.out with rfl | rfl
      all_goals
        clear HC2
        obtain ⟨sRG, aRG, mRG, kRG, ⟨cRG0, cRG1⟩, hRG⟩ := TR.out.open
        obtain ⟨sSG, aSG, mSG, kSG, ⟨cSG0, cSG1⟩, hSG⟩ := TS.out.open
        go_wp2_with fail
        have CP := wCompare_any _ _ _ _ w94 hRG hSG (Lo.small BR.out (by decide)).words (Lo.small BS.out (by decide)).words
        rw [cmp_less HR9.out.2] at CP
        unfold CmpEnd at CP
        have HCP := Lib.hid CP
        clear CP
        clear cRG0 cRG1 hRG
        clear cSG0 cSG1 hSG
        go_must (refine HCP.out.mono ?_)
        rintro e w95 ⟨rfl, hbe⟩
        have U := Lib.hid (below_then HB.out hbe)
        clear HB HCP hbe
        have HB := U
        clear U
        go_wp2_with fail
        have LV := lives_any w95
        unfold TrueEnd at LV
        have HLV := Lib.hid LV
        clear LV
        go_must (refine HLV.out.mono ?_)
        rintro e w96 ⟨rfl, hbe⟩
        have HE := Lib.hid (below_then HB.out hbe)
        clear hbe HLV
        go_wp2_with fail
        go_ret
        exact ⟨rfl, HE.out⟩
    · have HN := Lib.hid hs
      clear hs
      rw [show cmpZ zY 0 = 1 by have := HN.out; unfold cmpZ; rw [if_neg (by omega), if_pos this]] at SG
      unfold CmpEnd at SG
      have HSG := Lib.hid SG
      clear SG
      go_wp2_with fail
      clear c810 c811 d810 d811
      go_must (refine HSG.out.mono ?_)
      rintro e w90 ⟨rfl, hb90⟩
      have U := Lib.hid (TC.out.below hb90)
      clear TC
      have TC := U
      clear U
      have U := Lib.hid (TR.out.below hb90)
      clear TR
      have TR := U
      clear U
      have U := Lib.hid (TY.out.below hb90)
      clear TY
      have TY := U
      clear U
      have U := Lib.hid (TU.out.below hb90)
      clear TU
      have TU := U
      clear U
      have U := Lib.hid (TS.out.below hb90)
      clear TS
      have TS := U
      clear U
      have U := Lib.hid (below_then HB.out hb90)
      clear HB HSG
      have HB := U
      clear U hb90
      have h8 : (w80.alloc (.cells #[.bool b80, .slice p80 n80 q80] 33)).heap.size = w80.heap.size + 1 := size_alloc1 _ _
      rw [h8] at TS HT DC DR DU
      clear h8
      generalize w80.heap.size + 1 = t81 at *
      generalize w80.heap.size = t80 at *
      have TSn : Hid (IBox w90 t81 zS) := Lib.hid (by rw [show zS = zY by have h1 := HS.out; have h2 := HN.out; omega]; exact TS.out)
      clear TS TY
      have TS := TSn
      clear TSn
      obtain ⟨sUE, aUE, mUE, kUE, ⟨cUE0, cUE1⟩, hUE⟩ := TU.out.open
      obtain ⟨sCE, aCE, mCE, kCE, ⟨cCE0, cCE1⟩, hCE⟩ := TC.out.open
      go_wp2_with fail
      have CP := wCompare_any _ _ _ _ w90 hUE hCE (Lo.small BC.out (by decide)).words (Lo.small BC.out (by decide)).words
      rw [cmp_same] at CP
      unfold CmpEnd at CP
      have HCP := Lib.hid CP
      clear CP
      clear cUE0 cUE1 hUE
      clear cCE0 cCE1 hCE
      go_must (refine HCP.out.mono ?_)
      rintro e w93 ⟨rfl, hbe⟩
      have U := Lib.hid (TR.out.below hbe)
      clear TR
      have TR := U
      clear U
      have U := Lib.hid (TS.out.below hbe)
      clear TS
      have TS := U
      clear U
      have U := Lib.hid (below_then HB.out hbe)
      clear HB HCP hbe
      have HB := U
      clear U
      obtain ⟨c1, hc1, hc2⟩ : ∃ c, cmpZ ((zX + zY) * zZ % zY) 0 = c ∧ (c = 0 ∨ c = 1) := ⟨_, rfl, cmp_zero HR9.out.1⟩
      have HC1 := Lib.hid hc1
      have HC2 := Lib.hid hc2
      clear hc1 hc2
      obtain ⟨sRF, aRF, mRF, kRF, ⟨cRF0, cRF1⟩, hRF⟩ := TR.out.open
      go_wp2_with fail
      have CP := wSign_any _ _ w93 hRF (Lo.small BR.out (by decide)).words
      rw [HC1.out] at CP
      unfold CmpEnd at CP
      have HCP := Lib.hid CP
      clear CP
      clear cRF0 cRF1 hRF
      go_must (refine HCP.out.mono ?_)
      rintro e w94 ⟨rfl, hbe⟩
      have U := Lib.hid (TR.out.below hbe)
      clear TR
      have TR := U
      clear U
      have U := Lib.hid (TS.out.below hbe)
      clear TS
      have TS := U
      clear U
      have U := Lib.hid (below_then HB.out hbe)
      clear HB HCP hbe
      have HB := U
      clear U
      clear HC1
      rcases HC2.out with rfl | rfl
      all_goals
        clear HC2
        obtain ⟨sRG, aRG, mRG, kRG, ⟨cRG0, cRG1⟩, hRG⟩ := TR.out.open
        obtain ⟨sSG, aSG, mSG, kSG, ⟨cSG0, cSG1⟩, hSG⟩ := TS.out.open
        go_wp2_with fail
        have CP := wCompare_any _ _ _ _ w94 hRG hSG (Lo.small BR.out (by decide)).words (Lo.small BS.out (by decide)).words
        rw [cmp_less HR9.out.2] at CP
        unfold CmpEnd at CP
        have HCP := Lib.hid CP
        clear CP
        clear cRG0 cRG1 hRG
        clear cSG0 cSG1 hSG
        go_must (refine HCP.out.mono ?_)
        rintro e w95 ⟨rfl, hbe⟩
        have U := Lib.hid (below_then HB.out hbe)
        clear HB HCP hbe
        have HB := U
        clear U
        go_wp2_with fail
        have LV := lives_any w95
        unfold TrueEnd at LV
        have HLV := Lib.hid LV
        clear LV
        go_must (refine HLV.out.mono ?_)
        rintro e w96 ⟨rfl, hbe⟩
        have HE := Lib.hid (below_then HB.out hbe)
        clear hbe HLV
        go_wp2_with fail
        go_ret
        exact ⟨rfl, HE.out⟩
end Go.Proofs.YtikafidfembmhaaDoor
