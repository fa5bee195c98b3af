/-
 The reference of package wide: integers in boxes; Power.
 The reference of package wide: Number.
-/
import Derived.Test.YtajehlgclnocoaaGreatDoorNmHT
import Derived.Deep.RegionHeld3
namespace Go.Proofs.YtajehlgclnocoaaGreatDoor
open Go.RowKit Go.Shelf
set_option linter.unusedVariables false
set_option maxRecDepth 100000
def NBox (W : World) (b : Nat) (n : Int) : Prop := ∃ (s : Bool) (a : Option Addr) (m c : Nat), Laid W b 24 [.bool s, .slice a m c] ∧ NAt W (.agg #[.bool s, .slice a m c]) n
theorem NBox.below {W W2 : World} {b : Nat} {n : Int} (h : NBox W b n) (hb : Below W.heap.size W W2) : NBox W2 b n := by
 obtain ⟨s, a, m, c, h1, h2⟩ := h
 exact ⟨s, a, m, c, h1.below hb, nat_keeps h2 hb⟩
theorem NBox.lt {W : World} {b : Nat} {n : Int} (h : NBox W b n) : b < W.heap.size := by obtain ⟨_, _, _, _, h, _⟩ := h; exact h.lt
theorem nat_set {W : World} {r : Nat} {b : Bool} {a : Option Addr} {m k : Nat} {x : Value} {n : Int} (h : NAt W x n) (hl : Laid W r 24 [.bool b, .slice a m k]) (j : Nat) (u : Value) : NAt (W.setCell ⟨r, j, none⟩ u) x n := by
 obtain ⟨v, rfl, h⟩ := h
 exact ⟨v, rfl, row_set hl h j u⟩
theorem NBox.store {W : World} {b : Nat} {n z : Int} {s : Bool} {a : Option Addr} {m c : Nat} (h : NBox W b n) (hx : NAt W (.agg #[.bool s, .slice a m c]) z) : NBox ((W.setCell ⟨b, 0, none⟩ (.bool s)).setCell ⟨b, 1, none⟩ (.slice a m c)) b z := by
 obtain ⟨s0, a0, m0, c0, h1, _⟩ := h
 have l1 : Laid (W.setCell ⟨b, 0, none⟩ (.bool s)) b 24 [.bool s, .slice a0 m0 c0] := h1.set 0 _
 exact ⟨s, a, m, c, l1.set 1 _, nat_set (nat_set hx h1 0 _) l1 1 _⟩
theorem NBox.other {W : World} {b b2 : Nat} {n z : Int} {s : Bool} {a : Option Addr} {m c : Nat} (h : NBox W b n) (h2 : NBox W b2 z) (hne : b2 ≠ b) : NBox ((W.setCell ⟨b, 0, none⟩ (.bool s)).setCell ⟨b, 1, none⟩ (.slice a m c)) b2 z := by
 obtain ⟨s0, a0, m0, c0, h1, _⟩ := h
 have l1 : Laid (W.setCell ⟨b, 0, none⟩ (.bool s)) b 24 [.bool s, .slice a0 m0 c0] := h1.set 0 _
 obtain ⟨s3, a3, m3, c3, h3, h4⟩ := h2
 exact ⟨s3, a3, m3, c3, h3.keeps ((keeps_set W b 0 _).trans (keeps_set _ b 1 _)) hne, nat_set (nat_set h4 h1 0 _) l1 1 _⟩
theorem NBox.new {W : World} {n : Int} {s : Bool} {a : Option Addr} {m c : Nat} (hx : NAt W (.agg #[.bool s, .slice a m c]) n) : NBox (W.alloc (.cells #[.bool s, .slice a m c] 24)) W.heap.size n :=
 ⟨s, a, m, c, Laid.new _ _ _, nat_keeps hx ((Below.refl _ _).alloc (Nat.le_refl _) _)⟩
theorem nat_zero (W : World) : NAt W (.agg #[.bool false, .slice none 0 0]) 0 := ⟨_, rfl, by rw [show (0 : Int).natAbs = 0 from rfl, digs_zero]; exact row_none _ _⟩
theorem pow_digs {m K : Nat} (h : m ≤ 2 ^ K) : (digs m).length ≤ K + 1 := by
 refine digs_len_le ?_
 have h1 : (2 : Nat) ^ K ≤ 10000 ^ K := Nat.pow_le_pow_left (by decide) K
 rw [Nat.pow_succ]
 have := Nat.pow_pos (n := K) (show 0 < 10000 by decide)
 omega
theorem tmod_two (k r : Nat) (h : k % 2 = r) : (k : Int).tmod 2 = (r : Int) := by rw [Int.tmod_eq_emod_of_nonneg (by omega)]; omega
theorem pow_odd {P T k h2 K : Nat} (hh : k / 2 = h2) (ho : k % 2 = 1) (hv : P * T ^ k = 2 ^ K) : P * T * (T * T) ^ h2 = 2 ^ K := by
 rw [← hv, show T * T = T ^ 2 by rw [Nat.pow_succ, Nat.pow_one], ← Nat.pow_mul, Nat.mul_assoc, ← Nat.pow_succ']
 congr 2
 omega
theorem pow_even {P T k h2 K : Nat} (hh : k / 2 = h2) (ho : k % 2 = 0) (hv : P * T ^ k = 2 ^ K) : P * (T * T) ^ h2 = 2 ^ K := by
 rw [← hv, show T * T = T ^ 2 by rw [Nat.pow_succ, Nat.pow_one], ← Nat.pow_mul]
 congr 2
 omega
theorem pow_bnd {A B V h2 : Nat} (hB : 1 ≤ B) (h : A * B ^ h2 = V) : A ≤ V := by
 have h3 : 1 ≤ B ^ h2 := Nat.pow_pos hB
 have h4 : A * 1 ≤ A * B ^ h2 := Nat.mul_le_mul_left _ h3
 omega
set_option maxHeartbeats 8000000 in
theorem power_any (K : Nat) (w : World) (hK : K ≤ 100000) :
  Calls Tryz.prog 31 #[.int .i64 (K : Int)] w (NEnd ((2 ^ K : Nat) : Int) w) := by
 have HO1 : Hid (∀ w1, Calls Tryz.prog 32 #[.int .i64 1] w1 (NEnd 1 w1)) := Lib.hid (fun w1 => of_any 1 w1 (by decide))
 have HO2 : Hid (∀ w1, Calls Tryz.prog 32 #[.int .i64 2] w1 (NEnd 2 w1)) := Lib.hid (fun w1 => of_any 2 w1 (by decide))
 unfold NEnd at HO1 HO2
 have HL := Lib.hid (Laid.new w 24 [.bool false, .slice none 0 0])
 have HB0 := Lib.hid ((Below.refl _ w).alloc (Nat.le_refl _) (.cells #[.bool false, .slice none 0 0] 24))
 have hR0 : NBox (w.alloc (.cells #[.bool false, .slice none 0 0] 24)) w.heap.size 0 := NBox.new (nat_zero w)
 have HR0 := Lib.hid hR0
 clear hR0 HL
 go_enter Tryz.func31, Tryz.ntmps31
 go_wp2_with fail
 generalize w.alloc (.cells #[.bool false, .slice none 0 0] 24) = w1 at *
 refine (HO1.out w1).mono ?_
 rintro e w2 ⟨x, rfl, hx, hb2⟩
 obtain ⟨b1, a1, m1, c1, rfl⟩ := nat_shape hx
 have HN1 := Lib.hid (NBox.new hx)
 have HR1 := Lib.hid ((HR0.out.below hb2).below ((Below.refl _ w2).alloc (Nat.le_refl _) (.cells #[.bool b1, .slice a1 m1 c1] 24)))
 have HB1 := Lib.hid ((below_then HB0.out hb2).alloc (by have := HB0.out.size; have := hb2.size; omega) (.cells #[.bool b1, .slice a1 m1 c1] 24))
 have hs2 : (w2.alloc (.cells #[.bool b1, .slice a1 m1 c1] 24)).heap.size = w2.heap.size + 1 := by simp
 have hlt : w.heap.size < w2.heap.size := by have := HR0.out.lt; have := hb2.size; omega
 clear hx hb2 HR0 HB0 HO1
 go_wp2_with fail
 generalize hw3 : w2.alloc (.cells #[.bool b1, .slice a1 m1 c1] 24) = w3 at *
 refine (HO2.out w3).mono ?_
 rintro e w4 ⟨x, rfl, hx, hb4⟩
 obtain ⟨b2, a2, m2, c2, rfl⟩ := nat_shape hx
 have hal := (Below.refl w4.heap.size w4).alloc (Nat.le_refl _) (.cells #[.bool b2, .slice a2 m2 c2] 24)
 have HT5 := Lib.hid (NBox.new hx)
 have HO5 := Lib.hid ((HN1.out.below hb4).below hal)
 have HR5 := Lib.hid ((HR1.out.below hb4).below hal)
 have HB5 := Lib.hid ((below_then HB1.out hb4).alloc (by have := HB1.out.size; have := hb4.size; omega) (.cells #[.bool b2, .slice a2 m2 c2] 24))
 have hlt2 : w2.heap.size < w4.heap.size := by have := hb4.size; omega
 clear hx hb4 hal HR1 HB1 HN1 HO2 hw3 hs2
 go_wp2_with fail
 generalize w4.alloc (.cells #[.bool b2, .slice a2 m2 c2] 24) = w5 at *
 generalize w2.heap.size = bo at *
 generalize w4.heap.size = bt at *
 go_loopw [0] (fun kv wr => ∃ (k P T : Nat), kv = .int .i64 (k : Int) ∧ k ≤ K ∧ Hid (P * T ^ k = 2 ^ K) ∧ Hid (1 ≤ P ∧ 1 ≤ T ∧ P ≤ 2 ^ K ∧ T ≤ 2 ^ (2 * K + 1)) ∧ Hid (NBox wr w.heap.size 0) ∧ Hid (NBox wr bo (P : Int)) ∧ Hid (NBox wr bt (T : Int)) ∧ Hid (Below w.heap.size w wr)) (fun kv _ => (intOf kv).toNat)
 case atStart => exact ⟨K, 1, 2, rfl, Nat.le_refl _, Lib.hid (by simp), Lib.hid ⟨by decide, by decide, Nat.one_le_two_pow, by rw [Nat.pow_succ]; have := Nat.one_le_two_pow (n := 2 * K); omega⟩, HR5, HO5, HT5, HB5⟩
 case round =>
  obtain ⟨k, P, T, rfl, hk, HV, HBD, HR, HO, HT, HB⟩ := hrel
  clear HR5 HO5 HT5 HB5
  rcases Nat.eq_zero_or_pos k with hk0 | hk0
  ·subst hk0
   have hPK : P = 2 ^ K := by have := HV.out; rw [Nat.pow_zero, Nat.mul_one] at this; exact this
   obtain ⟨so, ao, mo, co, hlo, hno⟩ := HO.out
   obtain ⟨q0, q1, _, _⟩ := cells2 hlo
   obtain ⟨sr, ar, mr, cr, hlr, hnr⟩ := HR.out
   obtain ⟨r0, r1, r2, r3⟩ := cells2 hlr
   rw [hPK] at hno
   have HE := Lib.hid (nend_at (w := w) HB.out (Nat.le_refl _) hlr hno)
   clear hlo hno hlr hnr hPK
   go_wp2_with fail
   refine bodyPost_ret (v := .agg #[.bool so, .slice ao mo co]) (by simp [results, Tryz.results31, go_sem, r0, r1]) rfl ?_
   exact HE.out
  ·obtain ⟨hP1, hT1, hPB, hTB⟩ := HBD.out
   have hTK : T ≤ 2 ^ K := by
    have h1 := HV.out
    have h2 : T ^ 1 ≤ T ^ k := Nat.pow_le_pow_right hT1 hk0
    have h3 : 1 * T ^ k ≤ P * T ^ k := Nat.mul_le_mul_right _ hP1
    rw [Nat.pow_one] at h2
    omega
   have hTT : T * T ≤ 2 ^ (2 * K + 1) := by
    have h1 := Nat.mul_le_mul hTK hTK
    rw [← Nat.pow_add] at h1
    exact Nat.le_trans h1 (Nat.pow_le_pow_right (by decide) (by omega))
   have hTT1 : 1 ≤ T * T := Nat.mul_pos hT1 hT1
   have hdP := pow_digs hPB
   have hdT := pow_digs hTK
   have SQ : Hid (∀ w6 x, NAt w6 x (T : Int) → Calls Tryz.prog 105 #[x, x] w6 (NEnd ((T * T : Nat) : Int) w6)) := Lib.hid (fun w6 x h => by
    have := mul_any x x T T w6 h h (by simp; omega) (by simp; omega)
    rwa [← Int.natCast_mul] at this)
   have MU : Hid (∀ w6 x y, NAt w6 x (P : Int) → NAt w6 y (T : Int) → Calls Tryz.prog 105 #[x, y] w6 (NEnd ((P * T : Nat) : Int) w6)) := Lib.hid (fun w6 x y h h' => by
    have := mul_any x y P T w6 h h' (by simp; omega) (by simp; omega)
    rwa [← Int.natCast_mul] at this)
   unfold NEnd at SQ MU
   obtain ⟨h2, hh2⟩ : ∃ q, k / 2 = q := ⟨_, rfl⟩
   have hh3 : h2 < k := hh2 ▸ Nat.div_lt_self hk0 (by decide)
   have hdi : (k : Int).tdiv 2 = (h2 : Int) := by rw [Int.tdiv_eq_ediv_of_nonneg (by omega)]; omega
   have hw : wrap64 (h2 : Int) = (h2 : Int) := by unfold wrap64; omega
   obtain ⟨st, at', mt, ct, hlt', hnt⟩ := HT.out
   obtain ⟨t0, t1, t2, t3⟩ := cells2 hlt'
   rcases (Nat.mod_two_eq_zero_or_one k).symm with ho | ho
   ·have hmi : (k : Int).tmod 2 = 1 := tmod_two k 1 ho
    obtain ⟨so, ao, mo, co, hlo, hno⟩ := HO.out
    obtain ⟨q0, q1, q2, q3⟩ := cells2 hlo
    have HMU := Lib.hid (MU.out wr _ _ hno hnt)
    have hV2 : P * T * (T * T) ^ h2 = 2 ^ K := pow_odd hh2 ho HV.out
    have HV2 := Lib.hid hV2
    have HBD2 : Hid (1 ≤ P * T ∧ 1 ≤ T * T ∧ P * T ≤ 2 ^ K ∧ T * T ≤ 2 ^ (2 * K + 1)) := Lib.hid ⟨Nat.mul_pos hP1 hT1, hTT1, pow_bnd hTT1 hV2, hTT⟩
    clear hlo hno hlt' hnt hV2 ho hh2 MU hTT hTT1 hdP hdT hTK hPB hTB
    go_wp2_with fail
    refine HMU.out.mono ?_
    rintro e w6 ⟨x, rfl, hx, hb6⟩
    obtain ⟨bp, ap, mp, cp, rfl⟩ := nat_shape hx
    have HR6 := Lib.hid (HR.out.below hb6)
    have HO6 := Lib.hid (HO.out.below hb6)
    have HT6 := Lib.hid (HT.out.below hb6)
    have HB6 := Lib.hid (below_then HB.out hb6)
    have HRs := Lib.hid (HO6.out.other HR6.out (by omega : w.heap.size ≠ bo) (s := bp) (a := ap) (m := mp) (c := cp))
    have HTs := Lib.hid (HO6.out.other HT6.out (by omega : bt ≠ bo) (s := bp) (a := ap) (m := mp) (c := cp))
    have HOs := Lib.hid (HO6.out.store hx)
    have HBs := Lib.hid ((HB6.out.setCell (p := ⟨bo, 0, none⟩) (by show _ ≤ bo; omega) (.bool bp)).setCell (p := ⟨bo, 1, none⟩) (by show _ ≤ bo; omega) (.slice ap mp cp))
    obtain ⟨s6, a6, m6, c6, hl6, _⟩ := HO6.out
    obtain ⟨p0, p1, p2, p3⟩ := cells2 hl6
    obtain ⟨st2, at2, mt2, ct2, hlt2', hnt2⟩ := HTs.out
    obtain ⟨u0, u1, u2, u3⟩ := cells2 hlt2'
    have HSQ2 := Lib.hid (SQ.out _ _ hnt2)
    clear q0 q1 q2 q3 t0 t1 t2 t3 hx hb6 hl6 hlt2' hnt2 HR6 HO6 HT6 HB6
    go_wp2_with fail
    refine HSQ2.out.mono ?_
    rintro e w7 ⟨x, rfl, hx, hb7⟩
    obtain ⟨bs, av, ms, cs, rfl⟩ := nat_shape hx
    have HR7 := Lib.hid (HRs.out.below hb7)
    have HO7 := Lib.hid (HOs.out.below hb7)
    have HT7 := Lib.hid (HTs.out.below hb7)
    have HB7 := Lib.hid (below_then HBs.out hb7)
    have HR8 := Lib.hid (HT7.out.other HR7.out (by omega : w.heap.size ≠ bt) (s := bs) (a := av) (m := ms) (c := cs))
    have HO8 := Lib.hid (HT7.out.other HO7.out (by omega : bo ≠ bt) (s := bs) (a := av) (m := ms) (c := cs))
    have HT8 := Lib.hid (HT7.out.store hx)
    have HB8 := Lib.hid ((HB7.out.setCell (p := ⟨bt, 0, none⟩) (by show _ ≤ bt; omega) (.bool bs)).setCell (p := ⟨bt, 1, none⟩) (by show _ ≤ bt; omega) (.slice av ms cs))
    obtain ⟨s7, a7, m7, c7, hl7, _⟩ := HT7.out
    obtain ⟨g0, g1, g2, g3⟩ := cells2 hl7
    clear hx hb7 hl7 HR7 HO7 HT7 HB7
    go_wp2_with fail
    go_roundw
    case rel => exact ⟨h2, P * T, T * T, by first | rfl | go_num, by omega, HV2, HBD2, HR8, HO8, HT8, HB8⟩
    case measure => simp [intOf] <;> omega
   ·have hmi : (k : Int).tmod 2 = 0 := tmod_two k 0 ho
    have HV2 : Hid (P * (T * T) ^ h2 = 2 ^ K) := Lib.hid (pow_even hh2 ho HV.out)
    have HBD2 : Hid (1 ≤ P ∧ 1 ≤ T * T ∧ P ≤ 2 ^ K ∧ T * T ≤ 2 ^ (2 * K + 1)) := Lib.hid ⟨hP1, hTT1, hPB, hTT⟩
    have HSQ2 := Lib.hid (SQ.out wr _ hnt)
    clear hlt' hnt ho hh2 MU hTT hTT1 hdP hdT hTK hPB hTB
    go_wp2_with fail
    refine HSQ2.out.mono ?_
    rintro e w7 ⟨x, rfl, hx, hb7⟩
    obtain ⟨bs, av, ms, cs, rfl⟩ := nat_shape hx
    have HR7 := Lib.hid (HR.out.below hb7)
    have HO7 := Lib.hid (HO.out.below hb7)
    have HT7 := Lib.hid (HT.out.below hb7)
    have HB7 := Lib.hid (below_then HB.out hb7)
    have HR8 := Lib.hid (HT7.out.other HR7.out (by omega : w.heap.size ≠ bt) (s := bs) (a := av) (m := ms) (c := cs))
    have HO8 := Lib.hid (HT7.out.other HO7.out (by omega : bo ≠ bt) (s := bs) (a := av) (m := ms) (c := cs))
    have HT8 := Lib.hid (HT7.out.store hx)
    have HB8 := Lib.hid ((HB7.out.setCell (p := ⟨bt, 0, none⟩) (by show _ ≤ bt; omega) (.bool bs)).setCell (p := ⟨bt, 1, none⟩) (by show _ ≤ bt; omega) (.slice av ms cs))
    obtain ⟨s7, a7, m7, c7, hl7, _⟩ := HT7.out
    obtain ⟨g0, g1, g2, g3⟩ := cells2 hl7
    clear hx hb7 hl7 HR7 HO7 HT7 HB7
    go_wp2_with fail
    go_roundw
    case rel => exact ⟨h2, P, T * T, by first | rfl | go_num, by omega, HV2, HBD2, HR8, HO8, HT8, HB8⟩
    case measure => simp [intOf] <;> omega
theorem NBox.open {W : World} {b : Nat} {n : Int} (h : NBox W b n) : ∃ (s : Bool) (a : Option Addr) (m c : Nat), (W.cell? ⟨b, 0, none⟩ = some (.bool s) ∧ W.cell? ⟨b, 1, none⟩ = some (.slice a m c)) ∧ (W.frozen? ⟨b, 0, none⟩ = false ∧ W.frozen? ⟨b, 1, none⟩ = false) ∧ NAt W (.agg #[.bool s, .slice a m c]) n ∧ Laid W b 24 [.bool s, .slice a m c] := by
 obtain ⟨s, a, m, c, h1, h2⟩ := h
 obtain ⟨x, y, z, u⟩ := cells2 h1
 exact ⟨s, a, m, c, ⟨x, y⟩, ⟨z, u⟩, h2, h1⟩
end Go.Proofs.YtajehlgclnocoaaGreatDoor
