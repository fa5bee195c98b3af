/-
 Package wide: the steps of Euclid's algorithm that leading words know (turnOf).
 Package wide: leading words, sums of multiples, divisors of short numbers.
 Package wide: a sum of two multiples of words (combined).
 Package wide: the greatest common divisor, by Lehmer's algorithm.
 Package wide: Gcd.
-/
import Derived.Test.YtepakogbbomaoaaGreatDoorBgOO
import Derived.Test.YtepakogbbomaoaaGreatDoorPlaO
import Derived.Test.YtepakogbbomaoaaGreatDoorBgAO
import Derived.Test.YtepakogbbomaoaaGreatDoorBgIO
namespace Go.Proofs.YtepakogbbomaoaaGreatDoor
open Go.RowKit Go.Shelf
set_option linter.unusedVariables false
set_option maxRecDepth 100000
theorem turn_q {s t q : Int} (h0 : 0 ≤ s) (h1 : 0 < t) (h : s.tdiv t = q) : 0 ≤ q ∧ q * t ≤ s ∧ s < (q + 1) * t ∧ q ≤ s := by
 rw [Int.tdiv_eq_ediv_of_nonneg h0] at h
 have a1 := Int.ediv_mul_le s (show t ≠ 0 by omega)
 have a2 := Int.lt_ediv_add_one_mul_self s h1
 have a3 := Int.ediv_nonneg h0 (Int.le_of_lt h1)
 have a4 := Int.ediv_le_self t h0
 rw [h] at a1 a2 a3 a4
 exact ⟨a3, a1, a2, a4⟩
def TurnEnd (A B : Nat) (x0 y0 : Int) (w : World) (e : Ending) (w' : World) : Prop :=
 ∃ a b c d x y, e = .returned (.agg #[.int .i64 a, .int .i64 b, .int .i64 c, .int .i64 d]) ∧ TurnInv A B x0 y0 a b c d x y ∧ Below w.heap.size w w'
theorem cells4 {W : World} {r : Nat} {t : TypeId} {a b c d : Value} (h : Laid W r t [a, b, c, d]) : (W.cell? ⟨r, 0, none⟩ = some a ∧ W.cell? ⟨r, 1, none⟩ = some b ∧ W.cell? ⟨r, 2, none⟩ = some c ∧ W.cell? ⟨r, 3, none⟩ = some d) ∧ (W.frozen? ⟨r, 0, none⟩ = false ∧ W.frozen? ⟨r, 1, none⟩ = false ∧ W.frozen? ⟨r, 2, none⟩ = false ∧ W.frozen? ⟨r, 3, none⟩ = false) :=
 ⟨⟨h.cell 0, h.cell 1, h.cell 2, h.cell 3⟩, h.frozen 0, h.frozen 1, h.frozen 2, h.frozen 3⟩
set_option maxHeartbeats 2000000 in
theorem turnOf_any (A B : Nat) (x0 y0 W : Int) (w : World) (hx0 : 0 ≤ x0 ∧ x0 < 4611686018427387904) (hy0 : 0 ≤ y0 ∧ y0 < 4611686018427387904) (hW : 0 < W) (hA : 0 ≤ (A : Int) - x0 * W ∧ (A : Int) - x0 * W < W) (hB : 0 ≤ (B : Int) - y0 * W ∧ (B : Int) - y0 * W < W) :
  Calls Tryz.prog 104 #[.int .i64 x0, .int .i64 y0] w (TurnEnd A B x0 y0 w) := by
 have HSTEP := Lib.hid (fun (a b c d x y q : Int) (h : TurnInv A B x0 y0 a b c d x y) => turn_step (q := q) h hx0 hy0 hW hA hB)
 have HST := Lib.hid (turn_start (A := A) (B := B) hx0 hy0)
 obtain ⟨w2, hw2⟩ : ∃ w2, w2 = (w.alloc (.cells #[.int .i64 0, .int .i64 0, .int .i64 0, .int .i64 0] 144)).alloc (.cells #[.int .i64 1, .int .i64 0, .int .i64 0, .int .i64 1] 144) := ⟨_, rfl⟩
 have hR2 : Laid w2 w.heap.size 144 [.int .i64 0, .int .i64 0, .int .i64 0, .int .i64 0] := by
  rw [hw2]
  exact (Laid.new w 144 [.int .i64 0, .int .i64 0, .int .i64 0, .int .i64 0]).below ((Below.refl _ _).alloc (Nat.le_refl _) _)
 have hT2 : Laid w2 (w.heap.size + 1) 144 [.int .i64 1, .int .i64 0, .int .i64 0, .int .i64 1] := by
  have := Laid.new (w.alloc (.cells #[.int .i64 0, .int .i64 0, .int .i64 0, .int .i64 0] 144)) 144 [.int .i64 1, .int .i64 0, .int .i64 0, .int .i64 1]
  rw [hw2]
  simpa using this
 have hB2 : Below w.heap.size w w2 := by rw [hw2]; exact ((Below.refl _ w).alloc (Nat.le_refl _) _).alloc (by simp) _
 have HR2 := Lib.hid hR2
 have HT2 := Lib.hid hT2
 have HB2 := Lib.hid hB2
 clear hR2 hT2 hB2 hA hB hW hx0 hy0
 go_enter Tryz.func104, Tryz.ntmps104
 go_wp2_with fail
 rw [← hw2]
 clear hw2
 generalize hH : w.heap.size = H at *
 go_loopw [0, 1, 6] (fun xv yv _ wr => ∃ (a b c d x y : Int), xv = .int .i64 x ∧ yv = .int .i64 y ∧ Hid (TurnInv A B x0 y0 a b c d x y) ∧ Hid (Laid wr H 144 [.int .i64 0, .int .i64 0, .int .i64 0, .int .i64 0]) ∧ Hid (Laid wr (H + 1) 144 [.int .i64 a, .int .i64 b, .int .i64 c, .int .i64 d]) ∧ Hid (Below H w wr)) (fun _ yv _ _ => (intOf yv).toNat)
 case atStart => exact ⟨1, 0, 0, 1, x0, y0, rfl, rfl, HST, HR2, HT2, HB2⟩
 case round =>
  obtain ⟨a, b, c, d, x, y, rfl, rfl, HI, HR, HT, HB⟩ := hrel
  clear HR2 HT2 HB2 HST
  have hx1 := HI.out.x1
  have hy1 := HI.out.y1
  have hra := HI.out.ra
  have hrb := HI.out.rb
  have hrc := HI.out.rc
  have hrd := HI.out.rd
  have hxa := HI.out.xa
  have hxb := HI.out.xb
  obtain ⟨⟨t0, t1, t2, t3⟩, tf0, tf1, tf2, tf3⟩ := cells4 HT.out
  obtain ⟨⟨r0, r1, r2, r3⟩, rf0, rf1, rf2, rf3⟩ := cells4 HR.out
  obtain ⟨s1, hs1⟩ : ∃ s, x + a = s := ⟨_, rfl⟩
  obtain ⟨s2, hs2⟩ : ∃ s, y + c = s := ⟨_, rfl⟩
  obtain ⟨s3, hs3⟩ : ∃ s, x + b = s := ⟨_, rfl⟩
  obtain ⟨s4, hs4⟩ : ∃ s, y + d = s := ⟨_, rfl⟩
  have END : Hid (TurnEnd A B x0 y0 w (.returned (.agg #[.int .i64 a, .int .i64 b, .int .i64 c, .int .i64 d])) ((((wr.setCell ⟨H, 0, none⟩ (.int .i64 a)).setCell ⟨H, 1, none⟩ (.int .i64 b)).setCell ⟨H, 2, none⟩ (.int .i64 c)).setCell ⟨H, 3, none⟩ (.int .i64 d))) := Lib.hid ⟨a, b, c, d, x, y, rfl, HI.out, by rw [hH]; exact (((HB.out.setCell (p := ⟨H, 0, none⟩) (Nat.le_refl _) _).setCell (p := ⟨H, 1, none⟩) (Nat.le_refl _) _).setCell (p := ⟨H, 2, none⟩) (Nat.le_refl _) _).setCell (p := ⟨H, 3, none⟩) (Nat.le_refl _) _⟩
  rcases Int.lt_or_le 0 s2 with g2 | g2
  ·rcases Int.lt_or_le 0 s4 with g4 | g4
   ·have hb1 : 0 ≤ s1 ∧ s1 ≤ 4611686020574871552 := by omega
    have hb2 : 0 < s2 ∧ s2 ≤ 4611686020574871552 := by omega
    have hb3 : 0 ≤ s3 ∧ s3 ≤ 4611686020574871552 := by omega
    have hb4 : 0 < s4 ∧ s4 ≤ 4611686020574871552 := by omega
    obtain ⟨q, hq⟩ : ∃ q, s1.tdiv s2 = q := ⟨_, rfl⟩
    obtain ⟨p, hp⟩ : ∃ p, s3.tdiv s4 = p := ⟨_, rfl⟩
    obtain ⟨k0, k1, k2, k3⟩ := turn_q hb1.1 g2 hq
    obtain ⟨j0, j1, j2, j3⟩ := turn_q hb3.1 g4 hp
    have n2 : s2 ≠ 0 := by omega
    have n4 : s4 ≠ 0 := by omega
    by_cases hpq : q = p
    ·subst hpq
     have NEW := HSTEP.out a b c d x y q HI.out (by omega) (by omega) k0 (by rw [hs1, hs2]; exact ⟨k1, k2⟩) (by rw [hs3, hs4]; exact ⟨j1, j2⟩)
     obtain ⟨pc, hpc⟩ : ∃ z, q * c = z := ⟨_, rfl⟩
     obtain ⟨pd, hpd⟩ : ∃ z, q * d = z := ⟨_, rfl⟩
     obtain ⟨py, hpy⟩ : ∃ z, q * y = z := ⟨_, rfl⟩
     rw [hpc, hpd, hpy] at NEW
     have n1 := NEW.1.rc
     have n3 := NEW.1.rd
     have n5 := NEW.1.y1
     have hpcb : -4294967296 < pc ∧ pc < 4294967296 := by omega
     have hpdb : -4294967296 < pd ∧ pd < 4294967296 := by omega
     have hpyb : -4611686018427387904 ≤ py ∧ py < 4611686018427387904 := by omega
     have HNEW := Lib.hid NEW.1
     have HLESS := Lib.hid NEW.2
     have HT6 := Lib.hid ((((HT.out.set 0 (.int .i64 c)).set 1 (.int .i64 d)).set 2 (.int .i64 (a - pc))).set 3 (.int .i64 (b - pd)))
     have HKS := Lib.hid ((((keeps_set wr (H + 1) 0 (.int .i64 c)).trans (keeps_set _ (H + 1) 1 (.int .i64 d))).trans (keeps_set _ (H + 1) 2 (.int .i64 (a - pc)))).trans (keeps_set _ (H + 1) 3 (.int .i64 (b - pd))))
     have HR6 := Lib.hid (HR.out.keeps HKS.out (by omega))
     have HB6 := Lib.hid ((((HB.out.setCell (p := ⟨H + 1, 0, none⟩) (Nat.le_succ _) (.int .i64 c)).setCell (p := ⟨H + 1, 1, none⟩) (Nat.le_succ _) (.int .i64 d)).setCell (p := ⟨H + 1, 2, none⟩) (Nat.le_succ _) (.int .i64 (a - pc))).setCell (p := ⟨H + 1, 3, none⟩) (Nat.le_succ _) (.int .i64 (b - pd)))
     clear k1 k2 j1 j2 j0 j3 NEW HSTEP END
     go_wp2_with fail
     go_roundw
     case rel => exact ⟨c, d, a - pc, b - pd, y, x - py, rfl, rfl, HNEW, HR6, HT6, HB6⟩
     case measure => have := HLESS.out; simp [intOf] <;> omega
    ·clear k1 k2 j1 j2 HSTEP
     go_wp2_with fail
     refine bodyPost_ret (v := .agg #[.int .i64 a, .int .i64 b, .int .i64 c, .int .i64 d]) (by simp [results, Tryz.results104, go_sem, r0, r1, r2, r3]) rfl ?_
     exact END.out
   ·have g4' : ¬ (0 : Int) < s4 := by omega
    have hbs1 : -9223372036854775808 ≤ s2 ∧ s2 ≤ 9223372036854775807 := by omega
    have hbs2 : -9223372036854775808 ≤ s4 ∧ s4 ≤ 9223372036854775807 := by omega
    clear HSTEP
    go_wp2_with fail
    refine bodyPost_ret (v := .agg #[.int .i64 a, .int .i64 b, .int .i64 c, .int .i64 d]) (by simp [results, Tryz.results104, go_sem, r0, r1, r2, r3]) rfl ?_
    exact END.out
  ·have g2' : ¬ (0 : Int) < s2 := by omega
   have hbs1 : -9223372036854775808 ≤ s2 ∧ s2 ≤ 9223372036854775807 := by omega
   clear HSTEP
   go_wp2_with fail
   refine bodyPost_ret (v := .agg #[.int .i64 a, .int .i64 b, .int .i64 c, .int .i64 d]) (by simp [results, Tryz.results104, go_sem, r0, r1, r2, r3]) rfl ?_
   exact END.out
theorem row_tail {k : IntKind} {W : World} {pa : Option Addr} {n cap m : Nat} {l : List Int} (h : Row k W (.slice pa n cap) l) (hm : m ≤ n) :
  (¬ cap = m → Row k W (.slice (Option.map (fun x => x.add m) pa) (n - m) (cap - m)) (l.drop m)) ∧ (cap = m → Row k W (.slice pa (n - m) 0) (l.drop m)) := by
 obtain ⟨p, c, e, hc, hcm, hcell, hnil⟩ := h
 injection e with e1 e2 e3
 subst e1 e2 e3
 have hl : (l.drop m).length = l.length - m := List.length_drop
 constructor
 ·intro hne
  refine ⟨_, _, by rw [hl], by rw [hl]; omega, by omega, fun hz => ?_, fun hp => ?_⟩
  ·have hl0 : l ≠ [] := fun e => by rw [e] at hz; simp at hz
   obtain ⟨b, off, rfl, hcs⟩ := hcell hl0
   refine ⟨b, off + m, congrArg some (add_none b off m), fun j hj => ?_⟩
   rw [hl] at hj
   rw [Nat.add_assoc, hcs (m + j) (by omega), List.getElem?_drop]
  ·cases pa with
   | none =>
    obtain ⟨h1, h2⟩ := hnil rfl
    subst h1
    exact absurd (show cap = m by simp at hm; omega) hne
   | some x => cases hp
 ·intro he
  have hlm : l.length = m := by omega
  refine ⟨_, _, by rw [hl], by rw [hl]; omega, by omega, fun hz => ?_, fun hp => ?_⟩
  ·exact absurd (List.drop_of_length_le (by omega)) hz
  ·exact ⟨List.drop_of_length_le (by omega), rfl⟩
set_option maxHeartbeats 2000000 in
theorem leading_any (v : Value) (n size : Nat) (w : World) (hv : Row .u32 w v (natI (digsW n))) (hl : (digsW n).length ≤ size) (hs : 2 ≤ size) (hsm : size ≤ 900000) :
  Calls Tryz.prog 105 #[v, .int .i64 (size : Int)] w fun e w' => e = .returned (.int .i64 ((n / (4294967296 ^ (size - 2) * 4) : Nat) : Int)) ∧ w = w' := by
 obtain ⟨pa, cap, rfl, hcap, hcm⟩ := row_formW hv
 obtain ⟨len, hlen⟩ : ∃ len, (digsW n).length = len := ⟨_, rfl⟩
 obtain ⟨m, hm⟩ : ∃ m, min (size - 2) len = m := ⟨_, rfl⟩
 have hml : m ≤ len := by omega
 have hdrop : (digsW n).drop m = (digsW n).drop (size - 2) := by
  rcases Nat.le_total (size - 2) len with h | h
  ·rw [show m = size - 2 by omega]
  ·rw [List.drop_of_length_le (by omega), List.drop_of_length_le (by omega)]
 obtain ⟨T, hT⟩ : ∃ T, n / 4294967296 ^ (size - 2) = T := ⟨_, rfl⟩
 have hTv : valDW ((digsW n).drop m) = T := by rw [hdrop, val_dropW (digs_ltW n), valD_digsW, hT]
 have hd2 : ((digsW n).drop m).length ≤ 2 := by rw [List.length_drop]; omega
 have hdd : ∀ c ∈ (digsW n).drop m, c < 4294967296 := fun c hc => digs_ltW n c (List.mem_of_mem_drop hc)
 have hTl : T < 18446744073709551616 := by
  have h1 := valD_ltW hdd
  rw [hTv] at h1
  exact Nat.lt_of_lt_of_le h1 (Nat.pow_le_pow_right (n := 4294967296) (by decide) hd2)
 have hres : n / (4294967296 ^ (size - 2) * 4) = T / 4 := by rw [← hT, Nat.div_div_eq_div_mul]
 rw [hres]
 rw [hlen] at hcap ⊢
 have hrow := row_tail (by rw [hlen] at hv; exact hv) hml
 rw [show (natI (digsW n)).drop m = natI ((digsW n).drop m) by simp [natI, List.map_drop]] at hrow
 have NUM : Hid (∀ v, Row .u32 w v (natI ((digsW n).drop m)) → Calls Tryz.prog 108 #[v] w fun e w' => e = .returned (.int .u64 (T : Int)) ∧ w = w') := Lib.hid (fun v h => by
  have := number_raw v _ w h hd2 hdd
  rwa [hTv] at this)
 have hmin : (if (len : Int) < (size : Int) - 2 then (len : Int) else (size : Int) - 2) = (m : Int) := by split <;> omega
 have hm0 : (0 : Int) ≤ (m : Int) := by omega
 have hml2 : (m : Int) ≤ (len : Int) := by omega
 have hd1 : (T : Int) / 4 = ((T / 4 : Nat) : Int) := by simp
 obtain ⟨T4, hT4⟩ : ∃ t, T / 4 = t := ⟨_, rfl⟩
 rw [hT4] at hd1 ⊢
 have hT4l : T4 < 4611686018427387904 := by omega
 have HROW := Lib.hid hrow
 clear hv hlen hm hdrop hT hTv hd2 hdd hres hrow hT4
 generalize natI ((digsW n).drop m) = l at *
 by_cases hcm2 : cap = m
 ·have N1 := Lib.hid (NUM.out (.slice pa 0 0) (by have h := HROW.out.2 hcm2; rwa [show len - m = 0 by omega] at h))
  clear NUM HROW
  subst hcm2
  go_enter Tryz.func105, Tryz.ntmps105
  go_wp2_with fail
  go_must (refine N1.out.mono ?_)
  rintro e w' ⟨rfl, rfl⟩
  go_wp2_with fail
  go_ret
  exact ⟨rfl, rfl⟩
 ·have N1 := Lib.hid (NUM.out _ (HROW.out.1 hcm2))
  clear NUM HROW
  go_enter Tryz.func105, Tryz.ntmps105
  go_wp2_with fail
  go_must (refine N1.out.mono ?_)
  rintro e w' ⟨rfl, rfl⟩
  go_wp2_with fail
  go_ret
  exact ⟨rfl, rfl⟩
set_option maxHeartbeats 2000000 in
theorem smallDivisor_any (x y : Nat) (w : World) (hx : x < 18446744073709551616) (hy : y < 18446744073709551616) :
  Calls Tryz.prog 107 #[.int .u64 (x : Int), .int .u64 (y : Int)] w fun e w' => e = .returned (.int .u64 ((Nat.gcd x y : Nat) : Int)) ∧ Below w.heap.size w w' := by
 obtain ⟨G, hG⟩ : ∃ G, Nat.gcd x y = G := ⟨_, rfl⟩
 rw [hG]
 have HG := Lib.hid hG
 clear hG
 go_enter Tryz.func107, Tryz.ntmps107
 go_wp2_with fail
 go_loopw [0, 1] (fun xv yv wr => ∃ x y : Nat, xv = .int .u64 (x : Int) ∧ yv = .int .u64 (y : Int) ∧ x < 18446744073709551616 ∧ y < 18446744073709551616 ∧ Hid (Nat.gcd x y = G) ∧ Hid (Below w.heap.size w wr)) (fun _ yv _ => (intOf yv).toNat)
 case atStart => exact ⟨x, y, rfl, rfl, hx, hy, HG, Lib.hid (Below.refl _ _)⟩
 case round =>
  clear hx hy HG
  obtain ⟨x, y, rfl, rfl, hx, hy, HG, HB⟩ := hrel
  rcases Nat.eq_zero_or_pos y with h0 | h0
  ·subst h0
   go_wp2_with fail
   go_ret
   exact ⟨by have := HG.out; rw [Nat.gcd_zero_right] at this; rw [this]; rfl, HB.out⟩
  ·have hyi : (0 : Int) < (y : Int) := by omega
   have hyn : ¬ y = 0 := by omega
   have hyz : (y : Int) ≠ 0 := by omega
   obtain ⟨r, hr⟩ : ∃ r, x % y = r := ⟨_, rfl⟩
   have hri : (x : Int) % (y : Int) = (r : Int) := by rw [← hr]; simp
   have hrl : r < y := by rw [← hr]; exact Nat.mod_lt _ h0
   have hw1 : IntKind.u64.wrap (r : Int) = (r : Int) := wrap_u64_small (by omega) (by omega)
   have HG6 : Hid (Nat.gcd y r = G) := Lib.hid (by rw [← HG.out, ← hr, Nat.gcd_comm x y, Nat.gcd_rec y x, Nat.gcd_comm])
   have HB6 := Lib.hid HB.out.drew
   clear hr
   go_wp2_with fail
   go_region
   all_goals
    go_wp2_with fail
    go_roundw
    case rel => exact ⟨y, r, rfl, by first | rfl | rw [hri], by omega, by omega, HG6, HB6⟩
    case measure => simp [intOf] <;> omega
set_option maxHeartbeats 4000000 in
theorem combined_any (u v : Value) (A B Z : Nat) (p q : Int) (w : World) (hu : Row .u32 w u (natI (digsW A))) (hv : Row .u32 w v (natI (digsW B))) (hl : (digsW A).length ≤ 900000) (hlb : (digsW B).length ≤ (digsW A).length)
  (hp : -2147483648 < p ∧ p < 2147483648) (hq : -2147483648 < q ∧ q < 2147483648) (hs : (p ≤ 0 ∧ 0 ≤ q) ∨ (0 ≤ p ∧ q ≤ 0)) (hZ : (Z : Int) = p * A + q * B) (hZA : Z ≤ A) :
  Calls Tryz.prog 106 #[u, v, .int .i64 p, .int .i64 q] w (WEnd Z w) := by
 obtain ⟨i0, hi, hz0, hz1, hz2⟩ := info_parts info_u32
 obtain ⟨pa, ca, rfl, hca, hcam⟩ := row_formW hu
 obtain ⟨pb, cb, rfl, hcb, hcbm⟩ := row_formW hv
 have HU := Lib.hid hu
 have HV := Lib.hid hv
 have HDA := Lib.hid (digs_ltW A)
 have HDB := Lib.hid (digs_ltW B)
 have HNA : Hid (valDW (digsW A) = A) := Lib.hid (valD_digsW A)
 have HNB : Hid (valDW (digsW B) = B) := Lib.hid (valD_digsW B)
 have HZ := Lib.hid hZ
 have HZL : Hid (Z < 4294967296 ^ (digsW A).length) := Lib.hid (Nat.lt_of_le_of_lt hZA (digs_len_ltW A))
 have HBND := Lib.hid (fun (x y : Nat) hx hy => comb_bound (x := x) (y := y) hp hq hs hx hy)
 clear hu hv hZ hZA hs
 generalize digsW A = da at *
 generalize digsW B = db at *
 obtain ⟨bp, hbp⟩ : ∃ bp, db ++ List.replicate (da.length - db.length) 0 = bp := ⟨_, rfl⟩
 have hbpl : bp.length = da.length := by rw [← hbp, List.length_append, List.length_replicate]; omega
 have HBPV : Hid (valDW bp = B) := Lib.hid (by rw [← hbp, valD_pad, HNB.out])
 have HBPD : Hid (∀ k ∈ bp, k < 4294967296) := Lib.hid (by
  intro k hk
  rw [← hbp] at hk
  rcases List.mem_append.1 hk with h | h
  ·exact HDB.out k h
  ·rw [(List.mem_replicate.1 h).2]; decide)
 have HBP := Lib.hid hbp
 have HBPL := Lib.hid hbpl
 clear hbp hbpl
 go_enter Tryz.func106, Tryz.ntmps106
 go_wp2_with (first
   | (at_make; go_must (refine wpList_make_fresh rfl _ _ 30 rfl w.heap.size 116 i0 .u32 4 Tryz.underlying30 hi hz0 hz1 hz2 (by decide) _ _ _ _ da.length rfl rfl (by first | rfl | omega) (by first | rfl | omega) (by omega) (Nat.le_refl _) ?_); intro w3 hfr hb3 hsz3; have HF0 : Hid (Wds w3 w.heap.size (List.replicate da.length 0)) := Lib.hid (Wds.of_fresh (B := w.heap.size) (by simpa [natI] using hfr)); have HB3 := Lib.hid hb3; have HRA := Lib.hid (row_keeps HV.out hb3); clear hfr hb3 hsz3)
   | (have HF00 := HF0; (refine wpList_copy_words (o := ⟨some 18, _, _, _, _, _⟩) rfl _ _ rfl w.heap.size da.length da.length (by rfl) (.slice pb db.length cb) (by rfl) (List.replicate da.length 0) db (by simp) HF0.out HRA.out (by simpa using hlb) ?_); intro w4 hw4 hb4))
 rw [List.drop_replicate, HBP.out] at hw4
 have hB4 : Below w.heap.size w w4 := HB3.out.trans hb4
 have hlen0 : w.heap.size < w4.heap.size := hw4.lt
 refine (carryingI_any w4).mono ?_
 rintro e w5 ⟨rfl, hw5⟩
 have HM5 : Hid (Laid w5 w4.heap.size 2 [.int .i64 0]) := Lib.hid (by rw [hw5]; exact Laid.new _ _ _)
 have HF5 : Hid (Wds w5 w.heap.size bp) := Lib.hid (by rw [hw5]; exact hw4.keeps ((Keeps.refl (fun _ => False) _).alloc _) (fun h => h))
 have HB5 : Hid (Below w.heap.size w w5) := Lib.hid (by rw [hw5]; exact hB4.alloc (by omega) _)
 clear hw5 hw4 hb4 hB4 HF0 HF00 HB3 HRA
 generalize w4.heap.size = b1 at *
 go_wp2_with fail
 go_loopw [11, 12, 22] (fun _ _ iv wr => ∃ (i : Nat) (c : Int) (out : List Nat), iv = .int .i64 (i : Int) ∧ i ≤ da.length ∧ -2147483648 ≤ c ∧ c ≤ 2147483647 ∧ Hid (out.length = da.length) ∧ Hid ((valDW out : Int) + (4294967296 : Int) ^ i * c = p * (valDW (da.take i) : Int) + (q - 1) * (valDW (bp.take i) : Int) + (B : Int)) ∧ Hid (∀ j, i ≤ j → atDW out j = atDW bp j) ∧ Hid (∀ x ∈ out, x < 4294967296) ∧ Hid (Wds wr w.heap.size out) ∧ Hid (Laid wr b1 2 [.int .i64 c]) ∧ Hid (Below w.heap.size w wr)) (fun _ _ iv _ => ((da.length : Int) - intOf iv).toNat)
 case atStart => exact ⟨0, 0, bp, rfl, Nat.zero_le _, by decide, by decide, HBPL, Lib.hid (by rw [HBPV.out]; simp [valDW]), Lib.hid (fun _ _ => rfl), HBPD, HF5, HM5, HB5⟩
 case round =>
  obtain ⟨i, c, out, rfl, hil, hc1, hc2, HOL, HVAL, HS, HDO, HF, HM, HB⟩ := hrel
  clear HF5 HM5 HB5
  rcases Nat.lt_or_ge i da.length with h | h
  ·obtain ⟨b, off, rfl, hc0⟩ := row_elemW HU.out h
   have hc := (HB.out.cell (p := ⟨b, off + i, none⟩) (World.block_lt_of_cell? _ _ hc0)).trans hc0
   have hx := atD_ltW HDA.out i
   have hy := atD_ltW HBPD.out i
   have hio : i < out.length := by rw [HOL.out]; exact h
   have g0 := HF.out.cell hio
   have hoe := HS.out i (Nat.le_refl _)
   rw [hoe] at g0
   have hi0 : (0 : Int) ≤ (i : Int) := by omega
   obtain ⟨b1', b2', b3'⟩ := HBND.out _ _ hx hy
   have HNEXT := Lib.hid (fun (z : Nat) (c' : Int) hs => comb_next (z := z) (c' := c') hio HVAL.out hoe hs (valD_setW hio z))
   obtain ⟨x, hxe⟩ : ∃ x, atDW da i = x := ⟨_, rfl⟩
   obtain ⟨o, hoe2⟩ : ∃ o, atDW bp i = o := ⟨_, rfl⟩
   rw [hxe] at hx b1' b3' HNEXT
   rw [hoe2] at hy g0 b2' b3' HNEXT
   rw [hxe] at hc
   obtain ⟨P1, hP1⟩ : ∃ P, p * (x : Int) = P := ⟨_, rfl⟩
   obtain ⟨P2, hP2⟩ : ∃ P, q * (o : Int) = P := ⟨_, rfl⟩
   rw [hP1] at b1' b3' HNEXT
   rw [hP2] at b2' b3' HNEXT
   have hsum : -9223372036854775808 ≤ P1 + P2 + c ∧ P1 + P2 + c ≤ 9223372036854775807 := by omega
   obtain ⟨z, hz⟩ : ∃ z : Nat, (P1 + P2 + c) % 4294967296 = (z : Int) := ⟨((P1 + P2 + c) % 4294967296).toNat, by omega⟩
   obtain ⟨c', hc'⟩ : ∃ c', (P1 + P2 + c) / 4294967296 = c' := ⟨_, rfl⟩
   have hzl : z < 4294967296 := by omega
   have hc1' : -2147483648 ≤ c' := by omega
   have hc2' : c' ≤ 2147483647 := by omega
   have HV6 := Lib.hid (HNEXT.out z c' (by omega))
   have HCI := Lib.hid (carryI_step (P1 + P2) c b1 wr hsum HM.out)
   unfold CarryEndI at HCI
   rw [hz, hc'] at HCI
   clear hc0 hxe hoe2 hoe hz hc' HNEXT
   go_wp2_with fail
   go_must (refine HCI.out.mono ?_)
   rintro e w6 ⟨rfl, hl6, hk6⟩
   have HF6 := Lib.hid (HF.out.keeps hk6 (by omega))
   have HM6 := Lib.hid hl6
   have HB6 : Hid (Below w.heap.size w w6) := Lib.hid (HB.out.trans (hk6.below HB.out.size (by intro k hk; omega)))
   have g3 := HF6.out.cell hio
   have g4 := HF6.out.frozen i
   have HKS := Lib.hid (keeps_set w6 w.heap.size i (.int .u32 (z : Int)))
   have HF7 := Lib.hid (HF6.out.set hio z)
   generalize atDW out i = o2 at *
   clear hl6 hk6 HCI hc g0 hio
   go_wp2_with fail
   go_roundw
   case rel => exact ⟨i + 1, c', out.set i z, by go_num, by omega, hc1', hc2', Lib.hid (by rw [List.length_set]; exact HOL.out), HV6, Lib.hid (fun j hj => by rw [atD_set_neW (by omega)]; exact HS.out j (by omega)), Lib.hid (set_ltW HDO.out hzl _), HF7, Lib.hid (HM6.out.keeps HKS.out (by omega)), Lib.hid (HB6.out.setCell (p := ⟨w.heap.size, i, none⟩) (Nat.le_refl _) _)⟩
   case measure => simp [intOf] <;> omega
  ·have e : i = da.length := by omega
   subst e
   have hval : valDW out = Z := by
    refine comb_end (n := da.length) (c := c) HDO.out HOL.out ?_ HZL.out
    rw [HVAL.out, HZ.out, List.take_length, HNA.out, List.take_of_length_le (by rw [HBPL.out]; exact Nat.le_refl _), HBPV.out, Int.sub_mul, Int.one_mul]
    omega
   have TR := trimmed_loc (some ⟨w.heap.size, 0, none⟩) da.length out wr (HF.out.row0 (by rw [HOL.out]; exact Nat.le_refl _) (by omega)) HDO.out (by rw [HOL.out]; omega)
   rw [hval, HOL.out] at TR
   unfold TrimEnd at TR
   have HTR := Lib.hid TR
   clear TR hval
   go_wp2_with fail
   go_must (refine HTR.out.mono ?_)
   rintro e w6 ⟨q2, m, k, rfl, _, hr, rfl⟩
   have HRR := Lib.hid hr
   clear hr HTR
   go_wp2_with fail
   go_ret
   exact ⟨q2, m, k, rfl, HRR.out, HB.out⟩
theorem leading_facts {A B la : Nat} (hA : A < 4294967296 ^ la) (hBA : B ≤ A) (h2 : 2 ≤ la) {U : Nat} (hU : U = 4294967296 ^ (la - 2) * 4) :
  0 < U ∧ A / U < 4611686018427387904 ∧ B / U < 4611686018427387904 ∧ (0 ≤ (A : Int) - ((A / U : Nat) : Int) * (U : Int) ∧ (A : Int) - ((A / U : Nat) : Int) * (U : Int) < (U : Int)) ∧ (0 ≤ (B : Int) - ((B / U : Nat) : Int) * (U : Int) ∧ (B : Int) - ((B / U : Nat) : Int) * (U : Int) < (U : Int)) := by
 have hp := pow_pos4W (la - 2)
 have hU0 : 0 < U := by omega
 have hx : A / U < 4611686018427387904 := by
  refine (Nat.div_lt_iff_lt_mul hU0).2 (Nat.lt_of_lt_of_le hA (Nat.le_of_eq ?_))
  obtain ⟨k, rfl⟩ : ∃ k, la = k + 2 := ⟨la - 2, by omega⟩
  rw [hU, Nat.add_sub_cancel, Nat.pow_add, Nat.mul_left_comm]
 have hy : B / U ≤ A / U := Nat.div_le_div_right hBA
 have P : ∀ n : Nat, 0 ≤ (n : Int) - ((n / U : Nat) : Int) * (U : Int) ∧ (n : Int) - ((n / U : Nat) : Int) * (U : Int) < (U : Int) := by
  intro n
  have h1 := Nat.div_add_mod n U
  have h3 := Nat.mod_lt n hU0
  have h4 : (U : Int) * ((n / U : Nat) : Int) + ((n % U : Nat) : Int) = (n : Int) := by exact_mod_cast h1
  rw [Int.mul_comm] at h4
  omega
 exact ⟨hU0, hx, by omega, P A, P B⟩
theorem row_lenW {W : World} {a : Option Addr} {m k n : Nat} (h : Row .u32 W (.slice a m k) (natI (digsW n))) : (digsW n).length = m := by
 obtain ⟨_, _, e, _, _⟩ := row_formW h
 injection e with _ e _
 exact e.symm
set_option maxHeartbeats 4000000 in
theorem commonDivisor_any (u v : Value) (A0 B0 : Nat) (w : World) (hu : Row .u32 w u (natI (digsW A0))) (hv : Row .u32 w v (natI (digsW B0))) (hal : (digsW A0).length ≤ 400000) (hbl : (digsW B0).length ≤ 400000) :
  Calls Tryz.prog 77 #[u, v] w (WEnd (Nat.gcd A0 B0) w) := by
 obtain ⟨G, hG⟩ : ∃ G, Nat.gcd A0 B0 = G := ⟨_, rfl⟩
 rw [hG]
 have CMP := compareWords_any u v A0 B0 w hu hv (by omega) (by omega)
 unfold CmpEnd at CMP
 have HCMP := Lib.hid CMP
 obtain ⟨pa, ca, rfl, _, _⟩ := row_formW hu
 obtain ⟨pb, cb, rfl, _, _⟩ := row_formW hv
 have HU := Lib.hid hu
 have HV := Lib.hid hv
 have HG := Lib.hid hG
 have HAL := Lib.hid hal
 have HBL := Lib.hid hbl
 clear CMP hu hv hG hal hbl
 obtain ⟨c, hc⟩ : ∃ c, cmpN A0 B0 = c := ⟨_, rfl⟩
 have HC := Lib.hid hc
 rw [hc] at HCMP
 have hc3 : -1 ≤ c ∧ c ≤ 1 := by rw [← hc]; unfold cmpN; (repeat' split) <;> omega
 clear hc
 generalize hla0 : (digsW A0).length = la0 at *
 generalize hlb0 : (digsW B0).length = lb0 at *
 have HLA0 := Lib.hid hla0
 have HLB0 := Lib.hid hlb0
 clear hla0 hlb0
 go_enter Tryz.func77, Tryz.ntmps77
 go_wp2_with fail
 go_must (refine HCMP.out.mono ?_)
 rintro e w1 ⟨rfl, hb1⟩
 have HB1 := Lib.hid hb1
 have HU1 := Lib.hid (row_keeps HU.out hb1)
 have HV1 := Lib.hid (row_keeps HV.out hb1)
 clear hb1 HU HV HCMP
 obtain ⟨Bn, hBn⟩ : ∃ n, n = min A0 B0 := ⟨_, rfl⟩
 have HBn := Lib.hid hBn
 clear hBn
 have HG2 : Hid (Nat.gcd (max A0 B0) Bn = G ∧ Bn ≤ max A0 B0) := Lib.hid (by
  rw [HBn.out, ← HG.out]
  rcases Nat.le_total A0 B0 with h | h
  ·rw [Nat.max_eq_right h, Nat.min_eq_left h, Nat.gcd_comm]; exact ⟨rfl, h⟩
  ·rw [Nat.max_eq_left h, Nat.min_eq_right h]; exact ⟨rfl, h⟩)
 have HLES : Hid (c < 0 ↔ A0 < B0) := Lib.hid (by rw [← HC.out]; exact cmpN_lt)
 rcases Classical.em (c < 0) with hcn | hcn
 have HR1 : Hid (∃ v, Row .u32 w1 (.slice pb lb0 cb) (natI (digsW (max A0 B0))) ∧ Row .u32 w1 (.slice pa la0 ca) (natI (digsW Bn)) ∧ (digsW (max A0 B0)).length = lb0 ∧ v = lb0) := Lib.hid (by
  have h := HLES.out.1 hcn
  rw [HBn.out, Nat.max_eq_right (by omega), Nat.min_eq_left (by omega)]
  exact ⟨_, HV1.out, HU1.out, HLB0.out, rfl⟩)
 go_wp2_with fail
 rotate_left
 have HR1 : Hid (∃ v, Row .u32 w1 (.slice pa la0 ca) (natI (digsW (max A0 B0))) ∧ Row .u32 w1 (.slice pb lb0 cb) (natI (digsW Bn)) ∧ (digsW (max A0 B0)).length = la0 ∧ v = la0) := Lib.hid (by
  have h : ¬ A0 < B0 := fun h => by have := HLES.out.2 h; omega
  rw [HBn.out, Nat.max_eq_left (by omega), Nat.min_eq_right (by omega)]
  exact ⟨_, HU1.out, HV1.out, HLA0.out, rfl⟩)
 go_wp2_with fail
 rotate_left
 all_goals
  clear HU1 HV1 HLA0 HLB0 HC HLES
  go_loopg [0, 1] Bn (fun n av bv wr => ∃ (A : Nat) (pA pB : Option Addr) (nA nB cA cB : Nat), av = .slice pA nA cA ∧ bv = .slice pB nB cB ∧ Hid ((digsW A).length = nA) ∧ Hid ((digsW n).length = nB) ∧ nA ≤ 400000 ∧ nB ≤ nA ∧ Hid (n ≤ A) ∧ Hid (Nat.gcd A n = G) ∧ Hid (Row .u32 wr (.slice pA nA cA) (natI (digsW A))) ∧ Hid (Row .u32 wr (.slice pB nB cB) (natI (digsW n))) ∧ Hid (Below w.heap.size w wr))
  case atStart =>
   obtain ⟨_, h1, h2, h3, _⟩ := HR1.out
   obtain ⟨_, _, e2, _, _⟩ := row_formW h2
   injection e2 with _ e2 _
   refine ⟨max A0 B0, _, _, _, _, _, _, rfl, rfl, Lib.hid h3, Lib.hid e2.symm, by first | exact HAL.out | exact HBL.out, ?_, Lib.hid HG2.out.2, Lib.hid HG2.out.1, Lib.hid h1, Lib.hid h2, HB1⟩
   rw [← h3, e2]
   exact digs_len_leW (Nat.lt_of_le_of_lt HG2.out.2 (digs_len_ltW _))
  case round =>
   obtain ⟨A, pA, pB, nA, nB, cA, cB, rfl, rfl, HNA, HNB, hnA, hnB, HLE, HGC, HRA, HRB, HB⟩ := hrel
   clear HR1 HB1 HG HG2 HBn
   rcases Nat.lt_or_ge 2 nB with h2 | h2
   ·have h2' : (2 : Int) < (nB : Int) := by omega
    obtain ⟨U, hU⟩ : ∃ U, U = 4294967296 ^ (nA - 2) * 4 := ⟨_, rfl⟩
    obtain ⟨f1, f2, f3, f4, f5⟩ := leading_facts (la := nA) (by rw [← HNA.out]; exact digs_len_ltW A) HLE.out (by omega) hU
    have LA := leading_any _ A nA wr HRA.out (by rw [HNA.out]; exact Nat.le_refl _) (by omega) (by omega)
    have LB := leading_any _ gk nA wr HRB.out (by rw [HNB.out]; exact hnB) (by omega) (by omega)
    rw [← hU] at LA LB
    obtain ⟨x0, hx0⟩ : ∃ x, A / U = x := ⟨_, rfl⟩
    obtain ⟨y0, hy0⟩ : ∃ x, gk / U = x := ⟨_, rfl⟩
    rw [hx0] at f2 f4 LA
    rw [hy0] at f3 f5 LB
    have TO := turnOf_any A gk (x0 : Int) (y0 : Int) (U : Int) wr (by omega) (by omega) (by omega) f4 f5
    unfold TurnEnd at TO
    clear hx0 hy0
    have HLA := Lib.hid LA
    have HLB := Lib.hid LB
    have HTO := Lib.hid TO
    clear LA LB TO hU f1 f2 f3 f4 f5
    go_wp2_with fail
    go_must (refine HLA.out.mono ?_)
    rintro e w6 ⟨rfl, rfl⟩
    go_wp2_with fail
    go_must (refine HLB.out.mono ?_)
    rintro e w6 ⟨rfl, rfl⟩
    go_wp2_with fail
    go_must (refine HTO.out.mono ?_)
    rintro e w6 ⟨a, b, c, d, x, y, rfl, hTI, hb6⟩
    have HT6 := Lib.hid (Laid.new w6 144 [.int .i64 a, .int .i64 b, .int .i64 c, .int .i64 d])
    have HB6 : Hid (Below wr.heap.size wr (w6.alloc (.cells #[.int .i64 a, .int .i64 b, .int .i64 c, .int .i64 d] 144))) := Lib.hid (hb6.alloc hb6.size _)
    have HTI := Lib.hid hTI
    obtain ⟨⟨t0, t1, t2, t3⟩, _⟩ := cells4 HT6.out
    clear hTI hb6 HLA HLB HTO
    rcases Classical.em (b = 0) with hb0 | hb0
    ·subst hb0
     have hk0 : gk ≠ 0 := fun e => by have := HNB.out; rw [e, digs_zeroW] at this; simp at this; omega
     have DV := divide_any _ _ A gk _ (row_keeps HRA.out HB6.out) (row_keeps HRB.out HB6.out) (by rw [HNA.out]; exact hnA) hk0
     unfold DivsEnd at DV
     have HDV := Lib.hid DV
     have hrl : A % gk < gk := Nat.mod_lt _ (Nat.pos_of_ne_zero hk0)
     have HGR : Hid (Nat.gcd gk (A % gk) = G) := Lib.hid (by rw [← HGC.out, Nat.gcd_comm A gk, Nat.gcd_rec gk A, Nat.gcd_comm])
     have HRL := Lib.hid hrl
     clear DV hk0 hrl
     go_wp2_with fail
     go_must (refine HDV.out.mono ?_)
     rintro e w7 ⟨pq, mq, kq, pr, mr, kr, rfl, _, hrr, hb7⟩
     have HRR := Lib.hid hrr
     have HB7 := Lib.hid (below_then HB6.out hb7)
     have hmr : (digsW (A % gk)).length = mr := by obtain ⟨_, _, e, _, _⟩ := row_formW hrr; injection e with _ e _; exact e.symm
     have HMR := Lib.hid hmr
     have hmrl : mr ≤ nB := by
      rw [← hmr]
      have h1 := digs_len_ltW gk
      rw [HNB.out] at h1
      exact digs_len_leW (Nat.lt_trans HRL.out h1)
     clear hrr hb7 HDV hmr t0 t1 t2 t3 HT6
     go_wp2_with fail
     go_roundg (A % gk)
     case measure => exact HRL.out
     case rel => exact ⟨gk, pB, pr, nB, mr, cB, kr, rfl, rfl, HNB, HMR, by omega, hmrl, Lib.hid (Nat.le_of_lt HRL.out), HGR, Lib.hid (row_keeps HRB.out HB7.out), HRR, Lib.hid (below_then HB.out HB7.out)⟩
    ·obtain ⟨P, Q, hP, hQ, hPQG, hPQ⟩ := HTI.out.nums
     have hQP : Q < P ∧ P ≤ gk := by
      rcases hPQ with h | h
      ·exact absurd h.2.1 hb0
      ·exact h
     have hPv : (a * (A : Int) + b * (gk : Int)).toNat = P := by omega
     have hQv : (c * (A : Int) + d * (gk : Int)).toNat = Q := by omega
     have HC : Hid (∀ p q w8, Below wr.heap.size wr w8 → ((p = a ∧ q = b) ∨ (p = c ∧ q = d)) → Calls Tryz.prog 106 #[.slice pA nA cA, .slice pB nB cB, .int .i64 p, .int .i64 q] w8 (WEnd (p * (A : Int) + q * (gk : Int)).toNat w8)) := Lib.hid (fun p q w8 hb h => by
      have h1 := HTI.out.ra
      have h3 := HTI.out.rb
      have h4 := HTI.out.rc
      have h5 := HTI.out.rd
      have h6 := HTI.out.sign
      have h7 := HLE.out
      rcases h with ⟨rfl, rfl⟩ | ⟨rfl, rfl⟩
      ·exact combined_any _ _ A gk _ p q w8 (row_keeps HRA.out hb) (row_keeps HRB.out hb) (by rw [HNA.out]; omega) (by rw [HNA.out, HNB.out]; exact hnB) h1 h3 (by omega) (by rw [hPv]; exact hP) (by omega)
      ·exact combined_any _ _ A gk _ p q w8 (row_keeps HRA.out hb) (row_keeps HRB.out hb) (by rw [HNA.out]; omega) (by rw [HNA.out, HNB.out]; exact hnB) h4 h5 (by omega) (by rw [hQv]; exact hQ) (by omega))
     unfold WEnd at HC
     have HPV := Lib.hid hPv
     have HQV := Lib.hid hQv
     have HQP := Lib.hid hQP
     have HPQG : Hid (Nat.gcd P Q = G) := Lib.hid (by rw [hPQG]; exact HGC.out)
     clear hP hQ hPQG hPQ hQP hPv hQv
     go_wp2_with fail
     clear t0 t1 t2 t3
     generalize w6.alloc (.cells #[.int .i64 a, .int .i64 b, .int .i64 c, .int .i64 d] 144) = w7 at *
     generalize w6.heap.size = T at *
     have CELLS : Hid (∀ w8, Below w7.heap.size w7 w8 → w8.cell? ⟨T, 0, none⟩ = some (.int .i64 a) ∧ w8.cell? ⟨T, 1, none⟩ = some (.int .i64 b) ∧ w8.cell? ⟨T, 2, none⟩ = some (.int .i64 c) ∧ w8.cell? ⟨T, 3, none⟩ = some (.int .i64 d)) := Lib.hid (fun w8 h => (cells4 (HT6.out.below h)).1)
     have S0 := Lib.hid (CELLS.out w7.drew (Below.refl _ _).drew)
     have B0 : Hid (Below wr.heap.size wr w7.drew) := Lib.hid HB6.out.drew
     go_region_held3 (fun w' : World => w'.cell? ⟨T, 0, none⟩ = some (.int .i64 a) ∧ w'.cell? ⟨T, 1, none⟩ = some (.int .i64 b) ∧ w'.cell? ⟨T, 2, none⟩ = some (.int .i64 c) ∧ w'.cell? ⟨T, 3, none⟩ = some (.int .i64 d)) (first | exact S0.out | exact S8.out | exact S9.out) (first
      | (go_at_call 106; (refine (HC.out _ _ _ B0.out (by first | exact .inl ⟨rfl, rfl⟩ | exact .inr ⟨rfl, rfl⟩)).mono ?_; rintro e w8 ⟨q8, m8, k8, rfl, hr8, hb8⟩; have K8 : Hid (Below w7.heap.size w7 w8) := Lib.hid ((Below.refl _ w7).drew.trans hb8); have S8 := Lib.hid (CELLS.out w8 K8.out); have B8 := Lib.hid (below_then HB6.out K8.out); have HR8 := Lib.hid hr8; have HC9 := HC; clear HC hr8 hb8))
      | (go_at_call 106; refine (HC9.out _ _ _ B8.out (by first | exact .inl ⟨rfl, rfl⟩ | exact .inr ⟨rfl, rfl⟩)).mono ?_; rintro e w9 ⟨q9, m9, k9, rfl, hr9, hb9⟩; have K9 := Lib.hid (below_then K8.out hb9); have S9 := Lib.hid (CELLS.out w9 K9.out); have B9 := Lib.hid (below_then B8.out hb9); have HR8' := Lib.hid (row_keeps HR8.out hb9); have HR9 := Lib.hid hr9; clear hr9 hb9))
     all_goals
      have hle9 : (digsW P).length ≤ nB ∧ (digsW Q).length ≤ (digsW P).length := by
       have h1 := digs_len_ltW gk
       have h2 := digs_len_ltW P
       rw [HNB.out] at h1
       exact ⟨digs_len_leW (Nat.lt_of_le_of_lt HQP.out.2 h1), digs_len_leW (Nat.lt_trans HQP.out.1 h2)⟩
      rw [HPV.out, HQV.out] at *
      have HL9 := Lib.hid hle9
      clear hle9 HC9
      go_wp2_with fail
      go_roundg Q
      case measure => exact Nat.lt_of_lt_of_le HQP.out.1 HQP.out.2
      case rel =>
       have e8 := row_lenW HR8'.out
       have e9 := row_lenW HR9.out
       have hl1 := HL9.out.1
       have hl2 := HL9.out.2
       first
        | exact ⟨P, q8, q9, m8, m9, k8, k9, rfl, rfl, Lib.hid e8, Lib.hid e9, by omega, by omega, Lib.hid (Nat.le_of_lt HQP.out.1), HPQG, HR8', HR9, Lib.hid (below_then HB.out B9.out)⟩
        | exact ⟨P, q9, q8, m9, m8, k9, k8, rfl, rfl, Lib.hid e9, Lib.hid e8, by omega, by omega, Lib.hid (Nat.le_of_lt HQP.out.1), HPQG, HR9, HR8', Lib.hid (below_then HB.out B9.out)⟩
   ·have h2' : ¬ (2 : Int) < (nB : Int) := by omega
    rcases Nat.eq_zero_or_pos nB with h0 | h0
    ·have hk0 : gk = 0 := digs_nilW.1 (List.eq_nil_of_length_eq_zero (by rw [HNB.out]; exact h0))
     have hAG : A = G := by have := HGC.out; rw [hk0, Nat.gcd_zero_right] at this; exact this
     have CL := cloneW_words _ A wr HRA.out (by rw [HNA.out]; omega)
     rw [hAG] at CL
     unfold WEnd at CL
     have HCL := Lib.hid CL
     clear CL hk0 hAG
     subst h0
     go_wp2_with fail
     go_must (refine HCL.out.mono ?_)
     rintro e w6 ⟨q, m, k, rfl, hr, hb⟩
     have HRR := Lib.hid hr
     have HB6 := Lib.hid (below_then HB.out hb)
     clear hr hb HCL
     go_wp2_with fail
     go_ret
     exact ⟨q, m, k, rfl, HRR.out, HB6.out⟩
    ·have hk0 : gk ≠ 0 := fun e => by have := HNB.out; rw [e, digs_zeroW] at this; simp at this; omega
     have hk64 : gk < 18446744073709551616 := by
      have h1 := digs_len_ltW gk
      rw [HNB.out] at h1
      exact Nat.lt_of_lt_of_le h1 (Nat.pow_le_pow_right (n := 4294967296) (by decide) h2)
     have DV := divide_any _ _ A gk wr HRA.out HRB.out (by rw [HNA.out]; exact hnA) hk0
     unfold DivsEnd at DV
     have HDV := Lib.hid DV
     obtain ⟨r, hr⟩ : ∃ r, A % gk = r := ⟨_, rfl⟩
     have hrl : r < 18446744073709551616 := by rw [← hr]; exact Nat.lt_trans (Nat.mod_lt _ (Nat.pos_of_ne_zero hk0)) hk64
     have HGR : Hid (Nat.gcd gk r = G) := Lib.hid (by rw [← HGC.out, ← hr, Nat.gcd_comm A gk, Nat.gcd_rec gk A, Nat.gcd_comm])
     rw [hr] at HDV
     have hnb0 : ¬ nB = 0 := by omega
     have hnb1 : ¬ (nB : Int) = 0 := by omega
     clear DV hr hk0
     go_wp2_with fail
     go_must (refine HDV.out.mono ?_)
     rintro e w6 ⟨pq, mq, kq, pr, mr, kr, rfl, _, hrr, hb⟩
     have HB6 := Lib.hid (below_then HB.out hb)
     have NB := Lib.hid (number_any _ gk w6 (row_keeps HRB.out hb) hk64)
     have NR := Lib.hid (number_any _ r w6 hrr hrl)
     have SD := smallDivisor_any gk r w6 hk64 hrl
     rw [HGR.out] at SD
     have HSD := Lib.hid SD
     have hGl : G < 18446744073709551616 := by
      rw [← HGR.out]
      rcases Nat.eq_zero_or_pos gk with h | h
      ·exfalso; rw [h, digs_zeroW] at HNB; have := HNB.out; simp at this; omega
      ·exact Nat.lt_of_le_of_lt (Nat.gcd_le_left r h) hk64
     have WO : Hid (∀ w7, Calls Tryz.prog 93 #[.int .u64 (G : Int)] w7 (WEnd G w7)) := Lib.hid (fun w7 => wordsOf_wide G w7 hGl)
     unfold WEnd at WO
     clear hrr hb HDV SD
     go_wp2_with fail
     go_must (refine NB.out.mono ?_)
     rintro e w7 ⟨rfl, rfl⟩
     go_wp2_with fail
     go_must (refine NR.out.mono ?_)
     rintro e w7 ⟨rfl, rfl⟩
     go_wp2_with fail
     go_must (refine HSD.out.mono ?_)
     rintro e w8 ⟨rfl, hb8⟩
     have HB8 := Lib.hid (below_then HB6.out hb8)
     clear hb8 NB NR HSD
     go_wp2_with fail
     go_must (refine (WO.out w8).mono ?_)
     rintro e w9 ⟨q, m, k, rfl, hr, hb⟩
     have HRR := Lib.hid hr
     have HB9 := Lib.hid (below_then HB8.out hb)
     clear hr hb WO
     go_wp2_with fail
     go_ret
     exact ⟨q, m, k, rfl, HRR.out, HB9.out⟩
set_option maxHeartbeats 4000000 in
theorem wGcd_any (x y : Value) (a b : Int) (w : World) (hx : IAt w x a) (hy : IAt w y b) (ha : (digsW a.natAbs).length ≤ 400000) (hb : (digsW b.natAbs).length ≤ 400000) :
  Calls Tryz.prog 41 #[x, y] w (IEnd ((Int.gcd a b : Nat) : Int) w) := by
 obtain ⟨ax, cx, rfl, hrx⟩ := iat_form hx
 obtain ⟨ay, cy, rfl, hry⟩ := iat_form hy
 obtain ⟨na, hna⟩ : ∃ t, decide (a < 0) = t := ⟨_, rfl⟩
 obtain ⟨nb, hnb⟩ : ∃ t, decide (b < 0) = t := ⟨_, rfl⟩
 rw [hna, hnb]
 have BX := boxes2 w na nb ax ay (digsW a.natAbs).length (digsW b.natAbs).length cx cy
 obtain ⟨G, hG⟩ : ∃ G, Int.gcd a b = G := ⟨_, rfl⟩
 rw [hG]
 obtain ⟨w2, hw2⟩ : ∃ w2, w2 = ((w.alloc (.cells #[.bool na, .slice ax (digsW a.natAbs).length cx] 32)).alloc (.cells #[.bool nb, .slice ay (digsW b.natAbs).length cy] 32)).alloc (.cells #[.bool false, .slice none 0 0] 32) := ⟨_, rfl⟩
 rw [← hw2] at BX
 have HBX := Lib.hid BX
 have CD := commonDivisor_any _ _ a.natAbs b.natAbs w2 (row_keeps hrx BX.below) (row_keeps hry BX.below) ha hb
 rw [show Nat.gcd a.natAbs b.natAbs = G from hG] at CD
 unfold WEnd at CD
 have HCD := Lib.hid CD
 have SG : Hid (∀ w3 v, Row .u32 w3 v (natI (digsW G)) → Calls Tryz.prog 46 #[.bool false, v] w3 (IEnd (G : Int) w3)) := Lib.hid (fun w3 v h => signed_any false v G w3 h)
 unfold IEnd at SG
 obtain ⟨c0, c1, _, _⟩ := cells2 BX.x
 obtain ⟨d0, d1, _, _⟩ := cells2 BX.y
 clear BX CD hrx hry hx hy hna hnb hG ha hb
 generalize (digsW a.natAbs).length = la at *
 generalize (digsW b.natAbs).length = lb at *
 go_enter Tryz.func41, Tryz.ntmps41
 go_wp2_with fail
 rw [← hw2]
 clear hw2
 go_must (refine HCD.out.mono ?_)
 rintro e w3 ⟨a3, m3, k3, rfl, hr3, hb3⟩
 have SG3 := Lib.hid (SG.out _ _ hr3)
 have HB3 := Lib.hid hb3
 clear hr3 hb3 SG HCD c0 c1 d0 d1
 go_wp2_with fail
 go_must (refine SG3.out.mono ?_)
 rintro e w4 ⟨b4, a4, m4, k4, rfl, hx4, hb4⟩
 have HB4 := Lib.hid (below_then HB3.out hb4)
 have hs := HBX.out.size
 have HB6 : Hid (Below w.heap.size w w4) := Lib.hid (HBX.out.below.trans (HB4.out.mono (by omega)))
 have HX6 := Lib.hid (iend_store HB6.out (by omega) (HBX.out.r.below HB4.out) hx4)
 obtain ⟨f0, f1, f2, f3⟩ := cells2 (HBX.out.r.below HB4.out)
 clear hx4 hb4 hs SG3
 go_wp2_with fail
 refine bodyPost_ret (v := .agg #[.bool b4, .slice a4 m4 k4]) (by simp [results, Tryz.results41, go_sem, f0, f1]) rfl ?_
 exact HX6.out
end Go.Proofs.YtepakogbbomaoaaGreatDoor
