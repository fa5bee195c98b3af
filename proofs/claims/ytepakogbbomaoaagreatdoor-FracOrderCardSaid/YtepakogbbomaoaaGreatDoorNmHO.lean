/-
 The reference of package wide: Sub.
 The reference of package wide: Mul.
 The reference of package wide: Mul, the walk.
 The reference of package wide: small, digits.
 The reference of package wide: the bounds of a quotient's digit.
 The reference of package wide: digit.
 The reference of package wide: dividing digits, the numbers.
 The reference of package wide: dividing digits, the walk.
 The reference's Pick: an element of a list, reduced; 0 where there is none.
-/
import Derived.Test.YtepakogbbomaoaaGreatDoorNumGO
namespace Go.Proofs.YtepakogbbomaoaaGreatDoor
open Go.RowKit Go.Shelf
set_option linter.unusedVariables false
set_option maxRecDepth 100000
theorem natI_setW (d : List Nat) (j z : Nat) : natI (d.set j z) = (natI d).set j (z : Int) := by simp [natI, List.map_set]
theorem valD_set {d : List Nat} {j : Nat} (h : j < d.length) (z : Nat) : valD (d.set j z) + 10000 ^ j * atD d j = valD d + 10000 ^ j * z := by
 induction d generalizing j with
 | nil => simp at h
 | cons c d ih =>
  cases j with
  | zero => simp [valD, atD]; omega
  | succ j =>
   have := ih (j := j) (by simpa using h)
   have e : atD (c :: d) (j + 1) = atD d j := by simp [atD]
   rw [e, List.set_cons_succ, Nat.pow_succ]
   simp only [valD]
   generalize hp : 10000 ^ j * atD d j = p at *
   generalize hq : 10000 ^ j * z = q at *
   have e1 : 10000 ^ j * 10000 * atD d j = 10000 * p := by rw [← hp, Nat.mul_comm (10000 ^ j) 10000, Nat.mul_assoc]
   have e2 : 10000 ^ j * 10000 * z = 10000 * q := by rw [← hq, Nat.mul_comm (10000 ^ j) 10000, Nat.mul_assoc]
   rw [e1, e2]; omega
theorem mul_step {out b : List Nat} {i k c T ai v : Nat} (hj : i + k < out.length) (h : valD out + 10000 ^ (i + k) * c = T + 10000 ^ i * (ai * valD (b.take k))) (hv : v = atD out (i + k) + ai * atD b k + c) :
  valD (out.set (i + k) (v % 10000)) + 10000 ^ (i + (k + 1)) * (v / 10000) = T + 10000 ^ i * (ai * valD (b.take (k + 1))) := by
 have h1 := valD_set hj (v % 10000)
 rw [valD_take_at, Nat.mul_add ai, Nat.mul_add (10000 ^ i)]
 have e1 : 10000 ^ (i + (k + 1)) * (v / 10000) = 10000 ^ (i + k) * (10000 * (v / 10000)) := by rw [← Nat.add_assoc, Nat.pow_succ, Nat.mul_assoc]
 have e2 : 10000 ^ i * (ai * (10000 ^ k * atD b k)) = 10000 ^ (i + k) * (ai * atD b k) := by
  rw [Nat.pow_add, Nat.mul_left_comm ai, Nat.mul_assoc]
 have e3 : 10000 ^ (i + k) * (v % 10000) + 10000 ^ (i + k) * (10000 * (v / 10000)) = 10000 ^ (i + k) * v := by rw [← Nat.mul_add, Nat.mod_add_div]
 have e4 : 10000 ^ (i + k) * v = 10000 ^ (i + k) * atD out (i + k) + 10000 ^ (i + k) * (ai * atD b k) + 10000 ^ (i + k) * c := by rw [hv, Nat.mul_add, Nat.mul_add]
 rw [e1, e2]
 generalize 10000 ^ (i + k) * (v % 10000) = p1 at *
 generalize 10000 ^ (i + k) * (10000 * (v / 10000)) = p2 at *
 generalize 10000 ^ (i + k) * v = p3 at *
 generalize 10000 ^ (i + k) * atD out (i + k) = p4 at *
 generalize 10000 ^ (i + k) * (ai * atD b k) = p5 at *
 generalize 10000 ^ (i + k) * c = p6 at *
 generalize 10000 ^ i * (ai * valD (b.take k)) = p7 at *
 omega
theorem mul_close {out a b : List Nat} {i c : Nat} (hj : i + b.length < out.length) (hz : atD out (i + b.length) = 0) (h : valD out + 10000 ^ (i + b.length) * c = valD (a.take i) * valD b + 10000 ^ i * (atD a i * valD b)) :
  valD (out.set (i + b.length) c) = valD (a.take (i + 1)) * valD b := by
 have h1 := valD_set hj c
 rw [hz, Nat.mul_zero, Nat.add_zero] at h1
 rw [h1, h, valD_take_at, Nat.add_mul, Nat.mul_assoc]
theorem atD_set_ne {d : List Nat} {j k z : Nat} (h : j ≠ k) : atD (d.set j z) k = atD d k := by unfold atD; rw [List.getElem?_set_ne h]
theorem atD_zeros (n j : Nat) : atD (List.replicate n 0) j = 0 := by
 unfold atD
 rcases Nat.lt_or_ge j n with h | h
 ·rw [List.getElem?_eq_getElem (by simpa using h)]; simp
 ·rw [List.getElem?_eq_none (by simpa using h)]; rfl
theorem set_lt {d : List Nat} (h : ∀ c ∈ d, c < 10000) {z : Nat} (hz : z < 10000) (j : Nat) : ∀ c ∈ d.set j z, c < 10000 := by
 intro c hc
 rcases List.mem_or_eq_of_mem_set hc with h1 | h1
 ·exact h c h1
 ·rw [h1]; exact hz
theorem mul_sgn (na nb : Bool) (a b : Int) (ha : decide (a < 0) = na) (hb : decide (b < 0) = nb) : sgn (na != nb) (a.natAbs * b.natAbs) = a * b := by
 have e : ((a.natAbs * b.natAbs : Nat) : Int) = ((a * b).natAbs : Int) := by rw [Int.natAbs_mul]
 subst ha; subst hb
 unfold sgn
 rw [e]
 rcases Classical.em (a < 0) with h1 | h1 <;> rcases Classical.em (b < 0) with h2 | h2
 ·have := Int.mul_pos_of_neg_of_neg h1 h2; simp [h1, h2]; omega
 ·have := Int.mul_nonpos_of_nonpos_of_nonneg (Int.le_of_lt h1) (by omega : 0 ≤ b); simp [h1, h2]; omega
 ·have := Int.mul_nonpos_of_nonneg_of_nonpos (by omega : 0 ≤ a) (Int.le_of_lt h2); simp [h1, h2]; omega
 ·have := Int.mul_nonneg (by omega : 0 ≤ a) (by omega : 0 ≤ b); simp [h1, h2]; omega
theorem row_elem {W : World} {a : Option Addr} {c : Nat} {d : List Nat} (h : Row .i64 W (.slice a d.length c) (natI d)) {i : Nat} (hi : i < d.length) : ∃ b off, a = some ⟨b, off, none⟩ ∧ W.cell? ⟨b, off + i, none⟩ = some (.int .i64 (atD d i : Int)) := by
 obtain ⟨p, cap, e, _, _, h4, _⟩ := h
 injection e with e1 _ _
 subst e1
 obtain ⟨b, off, rfl, hc⟩ := h4 (fun h2 => by have := congrArg List.length h2; rw [natI_length, List.length_nil] at this; omega)
 refine ⟨b, off, rfl, ?_⟩
 have := hc i (by rw [natI_length]; exact hi)
 rwa [natI_getD] at this
set_option maxRecDepth 100000 in
set_option maxHeartbeats 16000000 in
theorem mul_any (x y : Value) (a b : Int) (w : World) (hx : NAt w x a) (hy : NAt w y b) (ha : (digs a.natAbs).length ≤ 500000) (hb : (digs b.natAbs).length ≤ 500000) :
  Calls Tryz.prog 40 #[x, y] w (NEnd (a * b) w) := by
 obtain ⟨i0, hi, hz0, hz1, hz2⟩ := info_parts info_int
 obtain ⟨ax, cx, rfl⟩ := nat_form hx
 obtain ⟨ay, cy, rfl⟩ := nat_form hy
 have hrx := nat_row hx
 have hry := nat_row hy
 obtain ⟨na, hna⟩ : ∃ t, decide (a < 0) = t := ⟨_, rfl⟩
 obtain ⟨nb, hnb⟩ : ∃ t, decide (b < 0) = t := ⟨_, rfl⟩
 have HSG := Lib.hid (mul_sgn na nb a b hna hnb)
 rw [hna] at hx ⊢
 rw [hnb] at hy ⊢
 obtain ⟨w2, hw2⟩ : ∃ w2, w2 = ((w.alloc (.cells #[.bool na, .slice ax (digs a.natAbs).length cx] 24)).alloc (.cells #[.bool nb, .slice ay (digs b.natAbs).length cy] 24)).alloc (.cells #[.bool false, .slice none 0 0] 24) := ⟨_, rfl⟩
 have hbe : Below w.heap.size w w2 := by rw [hw2]; exact (((Below.refl _ w).alloc (Nat.le_refl _) _).alloc (by simp) _).alloc (by simp; try omega) _
 have hs2 : w2.heap.size = w.heap.size + 3 := by rw [hw2]; simp
 have hl1 : Laid w2 w.heap.size 24 [.bool na, .slice ax (digs a.natAbs).length cx] := by
  rw [hw2]; exact ((Laid.new w _ _).below ((Below.refl _ _).alloc (Nat.le_refl _) _)).below ((Below.refl _ _).alloc (Nat.le_refl _) _)
 have hl2 : Laid w2 (w.heap.size + 1) 24 [.bool nb, .slice ay (digs b.natAbs).length cy] := by
  rw [hw2]
  have := Laid.new (w.alloc (.cells #[.bool na, .slice ax (digs a.natAbs).length cx] 24)) 24 [.bool nb, .slice ay (digs b.natAbs).length cy]
  rw [World.size_alloc] at this
  exact this.below ((Below.refl _ _).alloc (Nat.le_refl _) _)
 have hl3 : Laid w2 (w.heap.size + 2) 24 [.bool false, .slice none 0 0] := by
  rw [hw2]
  have := Laid.new ((w.alloc (.cells #[.bool na, .slice ax (digs a.natAbs).length cx] 24)).alloc (.cells #[.bool nb, .slice ay (digs b.natAbs).length cy] 24)) 24 [.bool false, .slice none 0 0]
  rwa [World.size_alloc, World.size_alloc] at this
 obtain ⟨c0, c1, _, _⟩ := cells2 hl1
 obtain ⟨d0, d1, _, _⟩ := cells2 hl2
 have HX := Lib.hid (row_keeps hrx hbe)
 have HY := Lib.hid (row_keeps hry hbe)
 have HL := Lib.hid hl3
 have HB := Lib.hid hbe
 have HPV : Hid (valD (digs a.natAbs) * valD (digs b.natAbs) = a.natAbs * b.natAbs) := Lib.hid (by rw [valD_digs, valD_digs])
 have HDA := Lib.hid (digs_lt a.natAbs)
 have HDB := Lib.hid (digs_lt b.natAbs)
 clear hx hy hrx hry hbe hl1 hl2 hl3 hna hnb
 generalize digs a.natAbs = da at *
 generalize digs b.natAbs = db at *
 have KW : Hid (∀ w3, Below w2.heap.size w2 w3 → w3.cell? ⟨w.heap.size, 0, none⟩ = some (.bool na) ∧ w3.cell? ⟨w.heap.size, 1, none⟩ = some (.slice ax da.length cx) ∧ w3.cell? ⟨w.heap.size + 1, 0, none⟩ = some (.bool nb) ∧ w3.cell? ⟨w.heap.size + 1, 1, none⟩ = some (.slice ay db.length cy)) := Lib.hid (fun w3 h =>
   ⟨(h.cell (p := ⟨w.heap.size, 0, none⟩) (by show w.heap.size < w2.heap.size; omega)).trans c0, (h.cell (p := ⟨w.heap.size, 1, none⟩) (by show w.heap.size < w2.heap.size; omega)).trans c1, (h.cell (p := ⟨w.heap.size + 1, 0, none⟩) (by show w.heap.size + 1 < w2.heap.size; omega)).trans d0, (h.cell (p := ⟨w.heap.size + 1, 1, none⟩) (by show w.heap.size + 1 < w2.heap.size; omega)).trans d1⟩)
 go_enter Tryz.func40, Tryz.ntmps40
 go_wp2_with (at_make; go_must (rw [← hw2]; refine wpList_make_fresh rfl _ _ 22 rfl w2.heap.size 3 i0 .i64 8 Tryz.underlying22 hi hz0 hz1 hz2 (by decide) _ _ _ _ (da.length + db.length) rfl rfl (by first | rfl | omega) (by first | rfl | omega) (by omega) (Nat.le_refl _) ?_); intro w3 hfr hb3 hsz3)
 have HF0 : Hid (Fresh w2.heap.size 3 .i64 w3 (.slice (some ⟨w2.heap.size, 0, none⟩) (da.length + db.length) (da.length + db.length)) (natI (List.replicate (da.length + db.length) 0))) := Lib.hid (by simpa [natI] using hfr)
 have HB3 := Lib.hid hb3
 clear hfr hb3 hsz3 hw2
 have hs3 : w2.heap.size = w.heap.size + 1 + 1 + 1 := by omega
 rw [hs3] at HF0 HB3 KW
 generalize hBB : w.heap.size + 1 + 1 + 1 = BB at *
 go_loopw [6, 7, 8, 9] (fun iv cv kv xv wr => ∃ (i : Nat) (out : List Nat), iv = .int .i64 (i : Int) ∧ i ≤ da.length ∧ Hid (out.length = da.length + db.length) ∧ Hid (valD out = valD (da.take i) * valD db) ∧ Hid (∀ j, i + db.length ≤ j → atD out j = 0) ∧ Hid (∀ c ∈ out, c < 10000) ∧ Hid (Fresh BB 3 .i64 wr (.slice (some ⟨BB, 0, none⟩) (da.length + db.length) (da.length + db.length)) (natI out)) ∧ Hid (Below BB w2 wr)) (fun iv _ _ _ _ => ((da.length : Int) - intOf iv).toNat)
 case atStart => exact ⟨0, List.replicate (da.length + db.length) 0, rfl, Nat.zero_le _, Lib.hid (by simp), Lib.hid (by simp [valD_zeros, valD]), Lib.hid (fun j _ => atD_zeros _ j), Lib.hid (fun c hc => by rw [(List.mem_replicate.1 hc).2]; decide), HF0, HB3⟩
 case round =>
  obtain ⟨i, out, rfl, hil, HOL, HV, HZ, HDO, HF, HBE⟩ := hrel
  obtain ⟨e0, e1, e2, e3⟩ := KW.out _ HBE.out
  rcases Nat.lt_or_ge i da.length with h | h
  ·obtain ⟨ba, oa, rfl, hca⟩ := row_elem HX.out h
   have HCA := Lib.hid hca
   generalize hai : atD da i = x at *
   have hx : x < 10000 := by rw [← hai]; exact atD_lt HDA.out i
   obtain ⟨T, hT⟩ : ∃ T, valD (da.take i) * valD db = T := ⟨_, rfl⟩
   have HCL : Hid (∀ out' c, out'.length = da.length + db.length → atD out' (i + db.length) = 0 → valD out' + 10000 ^ (i + db.length) * c = T + 10000 ^ i * (x * valD db) → valD (out'.set (i + db.length) c) = valD (da.take (i + 1)) * valD db) := Lib.hid (fun out' c h1 h2 h3 => mul_close (a := da) (by omega) h2 (by rw [hT, hai]; exact h3))
   rw [hT] at HV
   clear hai hT hca
   go_wp2_with fail
   go_loopw [7, 8, 9] (fun cv kv xv ws => ∃ (k c : Nat) (out' : List Nat), kv = .int .i64 (k : Int) ∧ cv = .int .i64 (c : Int) ∧ k ≤ db.length ∧ c < 10000 ∧ Hid (out'.length = da.length + db.length) ∧ Hid (valD out' + 10000 ^ (i + k) * c = T + 10000 ^ i * (x * valD (db.take k))) ∧ Hid (∀ j, i + db.length ≤ j → atD out' j = 0) ∧ Hid (∀ c ∈ out', c < 10000) ∧ Hid (Fresh BB 3 .i64 ws (.slice (some ⟨BB, 0, none⟩) (da.length + db.length) (da.length + db.length)) (natI out')) ∧ Hid (Below BB w2 ws)) (fun _ kv _ _ => ((db.length : Int) - intOf kv).toNat)
   case atStart => exact ⟨0, 0, out, rfl, rfl, Nat.zero_le _, by decide, HOL, Lib.hid (by rw [HV.out]; simp [valD]), HZ, HDO, HF, HBE⟩
   case round =>
    obtain ⟨k, c, out2, rfl, rfl, hkl, hc, HOL2, HV2, HZ2, HDO2, HF2, HBE2⟩ := hrel
    clear e0 e1 e2 e3 HF HBE HV HZ HDO HOL
    obtain ⟨e0, e1, e2, e3⟩ := KW.out _ HBE2.out
    rcases Nat.lt_or_ge k db.length with hk | hk
    ·obtain ⟨bb, ob, rfl, hcb⟩ := row_elem HY.out hk
     have g1 : wr.cell? ⟨ba, oa + i, none⟩ = some (.int .i64 (x : Int)) := (HBE2.out.cell (p := ⟨ba, oa + i, none⟩) (Nat.lt_of_lt_of_eq (World.block_lt_of_cell? _ _ HCA.out) hs3)).trans HCA.out
     have g2 : wr.cell? ⟨bb, ob + k, none⟩ = some (.int .i64 ((atD db k : Nat) : Int)) := (HBE2.out.cell (p := ⟨bb, ob + k, none⟩) (Nat.lt_of_lt_of_eq (World.block_lt_of_cell? _ _ hcb) hs3)).trans hcb
     have hikl : i + k < out2.length := by rw [HOL2.out]; omega
     have g3 := fresh_cell HF2.out (j := i + k) (by rw [natI_length]; exact hikl)
     rw [natI_getD] at g3
     have g4 := fresh_frozen2 HF2.out (by rw [natI_length, HOL2.out]) (i + k)
     change wr.cell? _ = some (.int .i64 ((atD out2 (i + k) : Nat) : Int)) at g3
     have hy := atD_lt HDB.out k
     have ho := atD_lt HDO2.out (i + k)
     have HST := Lib.hid (fun v hv => mul_step (v := v) hikl HV2.out hv)
     clear hcb hikl
     generalize atD db k = y at *
     generalize atD out2 (i + k) = o at *
     obtain ⟨m, hm⟩ : ∃ m, m = x * y := ⟨_, rfl⟩
     have hmi : (x : Int) * (y : Int) = (m : Int) := by rw [hm]; simp
     have hml : m ≤ 99980001 := by rw [hm]; exact Nat.le_trans (Nat.mul_le_mul (Nat.le_of_lt_succ hx) (Nat.le_of_lt_succ hy)) (by decide)
     rw [← hm] at HST
     obtain ⟨v, hv⟩ : ∃ v, v = o + m + c := ⟨_, rfl⟩
     have HST2 := Lib.hid (HST.out v hv)
     have hvi : (o : Int) + (m : Int) + (c : Int) = (v : Int) := by omega
     obtain ⟨z, hz⟩ : ∃ z, z = v % 10000 := ⟨_, rfl⟩
     obtain ⟨q, hq⟩ : ∃ q, q = v / 10000 := ⟨_, rfl⟩
     have hzl : z < 10000 := by omega
     have hql : q < 10000 := by omega
     have hvl : v ≤ 100000000 := by omega
     have htm : ((v : Nat) : Int).tmod 10000 = (z : Int) := by rw [Int.tmod_eq_emod_of_nonneg (by omega)]; omega
     have htd : ((v : Nat) : Int).tdiv 10000 = (q : Int) := by rw [Int.tdiv_eq_ediv_of_nonneg (by omega)]; omega
     rw [← hz, ← hq] at HST2
     have HFS := Lib.hid (fresh_store2 HF2.out (by rw [natI_length, HOL2.out]) (i + k) (z : Int)).1
     rw [← natI_setW] at HFS
     have HBS := Lib.hid (HBE2.out.setCell (p := ⟨BB, i + k, none⟩) (Nat.le_refl _) (.int .i64 (z : Int)))
     have hikn : ((i : Int) + (k : Int)).toNat = i + k := by omega
     have hik0 : (0 : Int) ≤ (i : Int) + (k : Int) := by omega
     have hik1 : (i : Int) + (k : Int) < ((da.length : Int) + (db.length : Int)) := by omega
     have hi0 : (0 : Int) ≤ (i : Int) := by omega
     have hk0 : (0 : Int) ≤ (k : Int) := by omega
     clear hz hq hv hm HST
     have r0 := (show wr.drew.cell? ⟨w.heap.size, 1, none⟩ = _ from e1)
     have r1 := (show wr.drew.cell? ⟨w.heap.size + 1, 1, none⟩ = _ from e3)
     have r2 := (show wr.drew.cell? ⟨ba, oa + i, none⟩ = _ from g1)
     have r3 := (show wr.drew.cell? ⟨bb, ob + k, none⟩ = _ from g2)
     have r4 := (show wr.drew.cell? ⟨BB, i + k, none⟩ = _ from g3)
     have r5 := (show wr.drew.frozen? ⟨BB, i + k, none⟩ = _ from g4)
     go_wp2_with fail
     go_region
     all_goals
      go_wp2_with fail
      go_roundw
      case rel => exact ⟨k + 1, q, out2.set (i + k) z, by go_num, rfl, by omega, hql, Lib.hid (by rw [List.length_set]; exact HOL2.out), HST2, Lib.hid (fun j hj => by rw [atD_set_ne (by omega)]; exact HZ2.out j hj), Lib.hid (set_lt HDO2.out hzl _), Lib.hid (fresh_keeps HFS.out (Below.refl _ _).drew), Lib.hid HBS.out.drew⟩
      case measure => simp [intOf] <;> omega
    ·have e : k = db.length := by omega
     subst e
     have hikl : i + db.length < out2.length := by rw [HOL2.out]; omega
     have HCL2 := Lib.hid (HCL.out out2 c HOL2.out (HZ2.out _ (Nat.le_refl _)) (by have := HV2.out; rwa [List.take_length] at this))
     have g3 := fresh_cell HF2.out (j := i + db.length) (by rw [natI_length]; exact hikl)
     have g4 := fresh_frozen2 HF2.out (by rw [natI_length, HOL2.out]) (i + db.length)
     have HFS := Lib.hid (fresh_store2 HF2.out (by rw [natI_length, HOL2.out]) (i + db.length) (c : Int)).1
     rw [← natI_setW] at HFS
     have HBS := Lib.hid (HBE2.out.setCell (p := ⟨BB, i + db.length, none⟩) (Nat.le_refl _) (.int .i64 (c : Int)))
     have hikn : ((i : Int) + (db.length : Int)).toNat = i + db.length := by omega
     have hik0 : (0 : Int) ≤ (i : Int) + (db.length : Int) := by omega
     have hik1 : (i : Int) + (db.length : Int) < ((da.length : Int) + (db.length : Int)) := by omega
     have hi0 : (0 : Int) ≤ (i : Int) := by omega
     generalize (natI out2)[i + db.length]?.getD 0 = old at *
     clear hikl
     go_wp2_with fail
     go_roundw
     case rel => exact ⟨i + 1, out2.set (i + db.length) c, by go_num, by omega, Lib.hid (by rw [List.length_set]; exact HOL2.out), HCL2, Lib.hid (fun j hj => by rw [atD_set_ne (by omega)]; exact HZ2.out j (by omega)), Lib.hid (set_lt HDO2.out hc _), HFS, HBS⟩
     case measure => simp [intOf] <;> omega
  ·have e : i = da.length := by omega
   subst e
   have hrow := row_of_fresh HF.out
   have hv : valD out = a.natAbs * b.natAbs := by have := HV.out; rw [List.take_length] at this; rw [this]; exact HPV.out
   have NM := normal_any (na != nb) _ out wr hrow HDO.out (by rw [HOL.out]; omega)
   rw [hv, HSG.out] at NM
   unfold NEnd at NM
   have NM2 := Lib.hid NM
   have hl3 := HL.out.below (by rw [hs3]; exact HBE.out)
   have HL3 := Lib.hid hl3
   have HB4 := Lib.hid (below_then HB.out (by rw [hs3]; exact HBE.out))
   have hsz := HBE.out.size
   clear hrow hv NM hl3
   go_wp2_with fail
   refine NM2.out.mono ?_
   rintro e w4 ⟨x, rfl, hx, hb4⟩
   obtain ⟨bv, av, mv, cv, rfl⟩ := nat_shape hx
   have hl4 := HL3.out.below hb4
   obtain ⟨a0, a1, f0, f1⟩ := cells2 hl4
   have HX4 := Lib.hid (nend_at (below_then HB4.out hb4) (by omega) hl4 hx)
   clear hx hl4 hb4
   go_wp2_with fail
   refine bodyPost_ret (v := .agg #[.bool bv, .slice av mv cv]) (by simp [results, Tryz.results40, go_sem, a0, a1]) rfl ?_
   exact HX4.out
def digI (d : List Nat) (i : Int) : Nat := if 0 ≤ i then atD d i.toNat else 0
set_option maxHeartbeats 1000000 in
theorem digits_any (v : Value) (d : List Nat) (i : Int) (w : World) (hv : Row .i64 w v (natI d)) (hl : d.length ≤ 1000000) (hi : -10 ≤ i ∧ i ≤ 2000000) :
  Calls Tryz.prog 143 #[v, .int .i64 i] w fun e w' => e = .returned (.int .i64 ((digI d i : Nat) : Int)) ∧ w = w' := by
 have HR := Lib.hid hv
 obtain ⟨p, cap, rfl, _, _, _, _⟩ := hv
 simp only [natI_length] at *
 obtain ⟨hi1, hi2⟩ := hi
 rcases Classical.em (i < 0) with h | h
 ·have HA : Hid ((0 : Int) = ((digI d i : Nat) : Int)) := Lib.hid (by unfold digI; rw [if_neg (by omega)]; rfl)
  go_enter Tryz.func143, Tryz.ntmps143
  go_wp2_with fail
  go_ret
  exact ⟨ret_int HA.out, rfl⟩
 ·obtain ⟨j, rfl⟩ : ∃ j : Nat, i = (j : Int) := ⟨i.toNat, by omega⟩
  have HA : Hid (digI d (j : Int) = atD d j) := Lib.hid (by unfold digI; rw [if_pos (by omega)]; rfl)
  rcases Nat.lt_or_ge j d.length with h2 | h2
  ·obtain ⟨b, off, rfl, hc⟩ := row_elem HR.out h2
   have HB : Hid (((atD d j : Nat) : Int) = ((digI d (j : Int) : Nat) : Int)) := Lib.hid (by rw [HA.out])
   have h3 : ¬ ((d.length : Int) ≤ (j : Int)) := by omega
   generalize atD d j = x at *
   go_enter Tryz.func143, Tryz.ntmps143
   go_wp2_with fail
   go_ret
   exact ⟨ret_int HB.out, rfl⟩
  ·have HB : Hid ((0 : Int) = ((digI d (j : Int) : Nat) : Int)) := Lib.hid (by rw [HA.out]; unfold atD; rw [List.getElem?_eq_none h2]; rfl)
   have h3 : (d.length : Int) ≤ (j : Int) := by omega
   go_enter Tryz.func143, Tryz.ntmps143
   go_wp2_with fail
   go_ret
   exact ⟨ret_int HB.out, rfl⟩
def REnd (n : Nat) (w : World) (e : Ending) (w' : World) : Prop := ∃ v, e = .returned v ∧ Row .i64 w' v (natI (digs n)) ∧ Below w.heap.size w w'
set_option maxRecDepth 100000 in
set_option maxHeartbeats 4000000 in
theorem small_any (v : Value) (n k : Nat) (w : World) (hv : Row .i64 w v (natI (digs n))) (hn : (digs n).length ≤ 500000) (hk : k ≤ 9999) :
  Calls Tryz.prog 125 #[v, .int .i64 (k : Int)] w (REnd (n * k) w) := by
 have HR := Lib.hid hv
 obtain ⟨p, cap, rfl, _, _, _, _⟩ := hv
 simp only [natI_length] at *
 have OF := Lib.hid (of_any (k : Int) w ⟨by omega, by omega⟩)
 have MU : Hid (∀ w3 z, Below w.heap.size w w3 → NAt w3 z (k : Int) → Calls Tryz.prog 40 #[.agg #[.bool false, .slice p (digs n).length cap], z] w3 (NEnd ((n * k : Nat) : Int) w3)) := Lib.hid (fun w3 z h hz => by
  have hz0 : NAt w3 (.agg #[.bool false, .slice p (digs n).length cap]) ((n : Nat) : Int) := ⟨_, by rw [show decide (((n : Nat) : Int) < 0) = false by simp], by rw [Int.natAbs_natCast]; exact row_keeps HR.out h⟩
  have h1 : (digs (k : Int).natAbs).length ≤ 500000 := by
   have := digs_len_le (n := (k : Int).natAbs) (k := 1) (by omega)
   omega
  have := mul_any _ z ((n : Nat) : Int) (k : Int) w3 hz0 hz (by rw [Int.natAbs_natCast]; exact hn) h1
  rwa [show ((n : Nat) : Int) * (k : Int) = ((n * k : Nat) : Int) by simp] at this)
 unfold NEnd at OF MU
 go_enter Tryz.func125, Tryz.ntmps125
 go_wp2_with fail
 refine OF.out.mono ?_
 rintro e w3 ⟨z, rfl, hz, hb3⟩
 have MU3 := Lib.hid (MU.out _ _ hb3 hz)
 have HB3 := Lib.hid hb3
 clear hz hb3
 go_wp2_with fail
 refine MU3.out.mono ?_
 rintro e w4 ⟨x, rfl, hx, hb4⟩
 have hb5 := below_then HB3.out hb4
 obtain ⟨ax, cx, rfl⟩ := nat_form hx
 have hrow := nat_row hx
 rw [Int.natAbs_natCast] at hrow ⊢
 have HE : Hid (REnd (n * k) w (.returned (.slice ax (digs (n * k)).length cx)) ((w4.alloc (.cells #[.bool (decide (((n * k : Nat) : Int) < 0)), .slice ax (digs (n * k)).length cx] 24)))) := Lib.hid ⟨_, rfl, row_keeps hrow ((Below.refl _ _).alloc (Nat.le_refl _) _), hb5.alloc hb5.size _⟩
 generalize decide (((n * k : Nat) : Int) < 0) = bz at *
 clear hx hb4 hb5 hrow
 go_wp2_with fail
 go_ret
 exact HE.out
theorem atD_drop (d : List Nat) (n j : Nat) : atD (d.drop n) j = atD d (n + j) := by unfold atD; rw [List.getElem?_drop]
theorem val3 {l : List Nat} (h : l.length ≤ 3) : valD l = atD l 0 + 10000 * atD l 1 + 100000000 * atD l 2 := by
 match l, h with
 | [], _ => rfl
 | [a], _ => simp [valD, atD]
 | [a, b], _ => simp [valD, atD]
 | [a, b, c], _ => simp [valD, atD]; omega
 | a :: b :: c :: d :: l, h => simp at h
theorem digI_cons (d : List Nat) (j : Nat) : digI d ((j : Int) - 1) = atD (0 :: d) j := by
 unfold digI
 cases j with
 | zero => rw [if_neg (by omega)]; rfl
 | succ j => rw [if_pos (by omega), show ((j + 1 : Nat) : Int) - 1 = (j : Int) by omega]; simp [atD]
theorem digI_lt {d : List Nat} (h : ∀ c ∈ d, c < 10000) (i : Int) : digI d i < 10000 := by
 unfold digI; split
 ·exact atD_lt h _
 ·decide
theorem cut_top {d : List Nat} (hd : ∀ c ∈ d, c < 10000) {k : Nat} (hk : 0 < k) (h1 : k ≤ d.length) (h2 : d.length ≤ k + 1) :
  ∃ rl, 10000 * valD d = rl + 10000 ^ (k - 1) * (10000 * (10000 * digI d (k : Int) + digI d ((k : Int) - 1)) + digI d ((k : Int) - 2)) ∧ rl < 10000 ^ (k - 1) := by
 have e := valD_split (0 :: d) (k - 1)
 have hl : ((0 :: d).take (k - 1)).length = k - 1 := by rw [List.length_take, List.length_cons]; omega
 rw [hl] at e
 refine ⟨valD ((0 :: d).take (k - 1)), ?_, ?_⟩
 ·have h3 : ((0 :: d).drop (k - 1)).length ≤ 3 := by rw [List.length_drop, List.length_cons]; omega
  have e0 : valD (0 :: d) = 10000 * valD d := by simp [valD]
  rw [e0, val3 h3, atD_drop, atD_drop, atD_drop] at e
  have e1 : digI d (k : Int) = atD (0 :: d) (k - 1 + 2) := by rw [← digI_cons]; congr 1; omega
  have e2 : digI d ((k : Int) - 1) = atD (0 :: d) (k - 1 + 1) := by rw [← digI_cons]; congr 1; omega
  have e3 : digI d ((k : Int) - 2) = atD (0 :: d) (k - 1 + 0) := by rw [← digI_cons]; congr 1; omega
  rw [e, e1, e2, e3]
  congr 2
  omega
 ·have := valD_lt (d := (0 :: d).take (k - 1)) (fun c hc => by
   have := List.mem_of_mem_take hc
   rcases List.mem_cons.1 this with h | h
   ·omega
   ·exact hd c h)
  rwa [hl] at this
theorem atD_of_len {d : List Nat} {k : Nat} (h : d.length ≤ k) : atD d k = 0 := by unfold atD; rw [List.getElem?_eq_none h]; rfl
theorem digit_bounds {r b k : Nat} (hk : (digs b).length = k) (hk0 : 0 < k) (hr : r < 10000 * b) (hl : k ≤ (digs r).length) {U L : Nat}
  (hU : U = 10000 * (10000 * digI (digs r) (k : Int) + digI (digs r) ((k : Int) - 1)) + digI (digs r) ((k : Int) - 2))
  (hL : L = 10000 * digI (digs b) ((k : Int) - 1) + digI (digs b) ((k : Int) - 2)) : 0 < L ∧ U / (L + 1) ≤ r / b ∧ r / b ≤ U / L := by
 have hb0 : b ≠ 0 := fun e => by subst e; rw [digs_zero] at hk; simp at hk; omega
 have h1 : (digs r).length ≤ k + 1 := digs_len_le (by
  have := digs_len_lt b
  rw [hk] at this
  rw [Nat.pow_succ]; omega)
 obtain ⟨rl, er, hrl⟩ := cut_top (digs_lt r) hk0 hl h1
 obtain ⟨bl, eb, hbl⟩ := cut_top (digs_lt b) hk0 (by omega) (by omega)
 have ez : digI (digs b) (k : Int) = 0 := by
  unfold digI; rw [if_pos (by omega)]; exact atD_of_len (by rw [hk]; simp)
 rw [ez, Nat.mul_zero, Nat.zero_add, ← hL, valD_digs] at eb
 rw [← hU, valD_digs] at er
 have hP : 0 < 10000 ^ (k - 1) := pow_pos4 _
 have hL0 : 0 < L := by
  have hne : digs b ≠ [] := fun e => by rw [e] at hk; simp at hk; omega
  have h2 := digs_last hne
  have h3 : digI (digs b) ((k : Int) - 1) ≠ 0 := by
   unfold digI
   rw [if_pos (by omega), show ((k : Int) - 1).toNat = k - 1 by omega]
   unfold atD
   rw [List.getElem?_eq_getElem (by omega), Option.getD_some]
   rw [List.getLast_eq_getElem] at h2
   simp only [hk] at h2
   exact h2
  omega
 generalize 10000 ^ (k - 1) = P at *
 clear hU hL ez h1 hl hk
 refine ⟨hL0, ?_, ?_⟩
 ·rw [Nat.le_div_iff_mul_le (by omega)]
  have h4 : U / (L + 1) * (L + 1) ≤ U := Nat.div_mul_le_self _ _
  generalize U / (L + 1) = q at *
  have h5 : q * (10000 * b) ≤ q * (P * (L + 1)) := Nat.mul_le_mul_left _ (by rw [eb, Nat.mul_add]; omega)
  have h6 : P * (q * (L + 1)) ≤ P * U := Nat.mul_le_mul_left _ h4
  have e7 : q * (P * (L + 1)) = P * (q * (L + 1)) := Nat.mul_left_comm _ _ _
  have e8 : q * (10000 * b) = 10000 * (q * b) := Nat.mul_left_comm _ _ _
  omega
 ·rw [Nat.le_div_iff_mul_le hL0]
  have h4 : r / b * b ≤ r := Nat.div_mul_le_self _ _
  generalize r / b = q at *
  have h5 : q * (P * L) ≤ q * (10000 * b) := Nat.mul_le_mul_left _ (by omega)
  have e7 : q * (P * L) = P * (q * L) := Nat.mul_left_comm _ _ _
  have e8 : q * (10000 * b) = 10000 * (q * b) := Nat.mul_left_comm _ _ _
  have h6 : P * (q * L) < P * (U + 1) := by rw [Nat.mul_add]; omega
  have := Nat.lt_of_mul_lt_mul_left h6
  omega
def DigEnd (q : Nat) (w : World) (e : Ending) (w' : World) : Prop := ∃ lo hi : Nat, e = .returned (.tuple #[.int .i64 (lo : Int), .int .i64 (hi : Int)]) ∧ lo ≤ q ∧ q ≤ hi ∧ hi ≤ 9999 ∧ Below w.heap.size w w'
theorem row_len {W : World} {v : Value} {d : List Nat} (h : Row .i64 W v (natI d)) : ∃ p c, v = .slice p d.length c := by
 obtain ⟨p, c, rfl, _⟩ := h
 exact ⟨p, c, by rw [natI_length]⟩
set_option maxRecDepth 100000 in
set_option maxHeartbeats 4000000 in
theorem digit_any (u v : Value) (r b : Nat) (w : World) (hu : Row .i64 w u (natI (digs r))) (hv : Row .i64 w v (natI (digs b))) (hlr : (digs r).length ≤ 500001) (hlb : (digs b).length ≤ 500000) (hr : r < 10000 * b) :
  Calls Tryz.prog 124 #[u, v] w (DigEnd (r / b) w) := by
 obtain ⟨pu, cu, rfl⟩ := row_len hu
 obtain ⟨pv, cv, rfl⟩ := row_len hv
 have hb0 : b ≠ 0 := fun e => by subst e; omega
 have hkp := digs_len_pos hb0
 rcases Nat.lt_or_ge (digs r).length (digs b).length with h | h
 ·have HQ : Hid (r / b = 0) := Lib.hid (by
   have := cmp_len_lt h
   have : cmpN r b < 0 := by omega
   exact Nat.div_eq_of_lt (cmpN_lt.1 this))
  rw [HQ.out]
  clear hu hv hb0 hr
  go_enter Tryz.func124, Tryz.ntmps124
  go_wp2_with fail
  go_ret2
  exact ⟨0, 0, rfl, Nat.le_refl _, Nat.le_refl _, by decide, Below.refl _ _⟩
 ·have D0 := Lib.hid (digits_any _ _ ((digs b).length : Int) w hu (by omega) ⟨by omega, by omega⟩)
  have D1 := Lib.hid (digits_any _ _ (((digs b).length : Int) - 1) w hu (by omega) ⟨by omega, by omega⟩)
  have D2 := Lib.hid (digits_any _ _ (((digs b).length : Int) - 2) w hu (by omega) ⟨by omega, by omega⟩)
  have E1 := Lib.hid (digits_any _ _ (((digs b).length : Int) - 1) w hv (by omega) ⟨by omega, by omega⟩)
  have E2 := Lib.hid (digits_any _ _ (((digs b).length : Int) - 2) w hv (by omega) ⟨by omega, by omega⟩)
  have h1 := digI_lt (digs_lt r) ((digs b).length : Int)
  have h2 := digI_lt (digs_lt r) (((digs b).length : Int) - 1)
  have h3 := digI_lt (digs_lt r) (((digs b).length : Int) - 2)
  have h4 := digI_lt (digs_lt b) (((digs b).length : Int) - 1)
  have h5 := digI_lt (digs_lt b) (((digs b).length : Int) - 2)
  have DB := digit_bounds rfl hkp hr h rfl rfl
  generalize digI (digs r) ((digs b).length : Int) = r0 at *
  generalize digI (digs r) (((digs b).length : Int) - 1) = r1 at *
  generalize digI (digs r) (((digs b).length : Int) - 2) = r2 at *
  generalize digI (digs b) (((digs b).length : Int) - 1) = s1 at *
  generalize digI (digs b) (((digs b).length : Int) - 2) = s2 at *
  obtain ⟨U, hU⟩ : ∃ U, U = 10000 * (10000 * r0 + r1) + r2 := ⟨_, rfl⟩
  obtain ⟨L, hL⟩ : ∃ L, L = 10000 * s1 + s2 := ⟨_, rfl⟩
  rw [← hU, ← hL] at DB
  obtain ⟨hL0, d1, d2⟩ := DB
  have hUi : (10000 : Int) * (10000 * (r0 : Int) + (r1 : Int)) + (r2 : Int) = (U : Int) := by omega
  have hLi : (10000 : Int) * (s1 : Int) + (s2 : Int) = (L : Int) := by omega
  have hUl : U ≤ 1000000000000 := by omega
  have hLl : L ≤ 100000000 := by omega
  obtain ⟨q1, hq1⟩ : ∃ q, q = U / (L + 1) := ⟨_, rfl⟩
  obtain ⟨q2, hq2⟩ : ∃ q, q = U / L := ⟨_, rfl⟩
  have t1 : (U : Int).tdiv ((L : Int) + 1) = (q1 : Int) := by rw [Int.tdiv_eq_ediv_of_nonneg (by omega), hq1]; rfl
  have t2 : (U : Int).tdiv (L : Int) = (q2 : Int) := by rw [Int.tdiv_eq_ediv_of_nonneg (by omega), hq2]; rfl
  have hq1l : q1 ≤ U := by rw [hq1]; exact Nat.div_le_self _ _
  have hq2l : q2 ≤ U := by rw [hq2]; exact Nat.div_le_self _ _
  rw [← hq1] at d1
  rw [← hq2] at d2
  have HQ9 : Hid (r / b ≤ 9999) := Lib.hid (by have := (Nat.div_lt_iff_lt_mul (Nat.pos_of_ne_zero hb0)).2 hr; omega)
  have HD1 := Lib.hid d1
  have HD2 := Lib.hid d2
  clear hu hv hb0 hr hU hL hq1 hq2 d1 d2
  generalize r / b = q at *
  generalize (digs b).length = k at *
  generalize (digs r).length = kr at *
  have hk0 : ¬ (k : Int) = 0 := by omega
  have hkr : ¬ (kr : Int) < (k : Int) := by omega
  have hk0n : ¬ k = 0 := by omega
  go_enter Tryz.func124, Tryz.ntmps124
  go_wp2_with fail
  refine D0.out.mono ?_
  rintro e w2 ⟨rfl, rfl⟩
  go_wp2_with fail
  refine D1.out.mono ?_
  rintro e w2 ⟨rfl, rfl⟩
  go_wp2_with fail
  refine D2.out.mono ?_
  rintro e w2 ⟨rfl, rfl⟩
  go_wp2_with fail
  refine E1.out.mono ?_
  rintro e w2 ⟨rfl, rfl⟩
  go_wp2_with fail
  refine E2.out.mono ?_
  rintro e w2 ⟨rfl, rfl⟩
  go_wp2_with fail
  clear D0 D1 D2 E1 E2 h1 h2 h3 h4 h5 hlr hlb hkp hk0 hkr hk0n
  have hL1 : ¬ (L : Int) + 1 = 0 := by omega
  have hLz : ¬ (L : Int) = 0 := by omega
  rcases Classical.em ((q1 : Int) < 9999) with m1 | m1 <;> rcases Classical.em ((q2 : Int) < 9999) with m2 | m2
  ·go_region
   all_goals
    go_wp2_with fail
    go_ret2
    exact ⟨q1, q2, rfl, HD1.out, HD2.out, by omega, (Below.refl _ _).drew⟩
  ·go_region
   all_goals
    go_wp2_with fail
    go_ret2
    exact ⟨q1, 9999, rfl, HD1.out, HQ9.out, by omega, (Below.refl _ _).drew⟩
  ·exfalso
   have := HD1.out
   have := HD2.out
   omega
  ·have h9 : (9999 : Nat) ≤ q := by have := HD1.out; omega
   have HE9 := Lib.hid h9
   go_region
   all_goals
    go_wp2_with fail
    go_ret2
    exact ⟨9999, 9999, rfl, HE9.out, HQ9.out, by omega, (Below.refl _ _).drew⟩
theorem valD_drop_at {d : List Nat} {i : Nat} (h : i < d.length) : valD (d.drop i) = atD d i + 10000 * valD (d.drop (i + 1)) := by
 rw [List.drop_eq_getElem_cons h]
 unfold atD
 rw [List.getElem?_eq_getElem h]
 rfl
theorem div_first {m n : Nat} (hn : n ≠ 0) : valD ((digs m).drop ((digs m).length + 1 - (digs n).length)) < n := by
 have h1 := valD_lt (d := (digs m).drop ((digs m).length + 1 - (digs n).length)) (fun c hc => digs_lt m c (List.mem_of_mem_drop hc))
 have h2 := digs_len_ge hn
 have h3 := digs_len_pos hn
 have h4 : ((digs m).drop ((digs m).length + 1 - (digs n).length)).length ≤ (digs n).length - 1 := by rw [List.length_drop]; omega
 exact Nat.lt_of_lt_of_le h1 (Nat.le_trans (Nat.pow_le_pow_right (by decide) h4) h2)
theorem div_step {a out : List Nat} {n r i : Nat} (hi : i < a.length) (ho : out.length = a.length) (h : valD (a.drop (i + 1)) = valD (out.drop (i + 1)) * n + r) :
  valD (a.drop i) = valD ((out.set i ((atD a i + 10000 * r) / n)).drop i) * n + (atD a i + 10000 * r) % n := by
 generalize hq : (atD a i + 10000 * r) / n = q
 have e1 : valD ((out.set i q).drop i) = q + 10000 * valD (out.drop (i + 1)) := by
  rw [valD_drop_at (by rw [List.length_set]; omega), List.drop_set_of_lt (by omega)]
  congr 1
  unfold atD
  rw [List.getElem?_set_self (by omega)]
  rfl
 have e2 : n * q + (atD a i + 10000 * r) % n = atD a i + 10000 * r := by rw [← hq]; exact Nat.div_add_mod _ _
 rw [valD_drop_at hi, h, e1, Nat.add_mul, Nat.mul_add, Nat.mul_assoc]
 rw [Nat.mul_comm n q] at e2
 omega
theorem div_next {r n c : Nat} (hr : r < n) (hc : c < 10000) : c + 10000 * r < 10000 * n := by omega
theorem valD_cons_digs (c r : Nat) : valD (c :: digs r) = c + 10000 * r := by show c + 10000 * valD (digs r) = _; rw [valD_digs]
theorem div_end {a out : List Nat} {n r : Nat} (hr : r < n) (h : valD (a.drop 0) = valD (out.drop 0) * n + r) : valD out = valD a / n ∧ r = valD a % n := by
 rw [List.drop_zero, List.drop_zero] at h
 rw [h]
 refine ⟨?_, ?_⟩
 ·rw [Nat.add_comm, Nat.add_mul_div_right _ _ (by omega), Nat.div_eq_of_lt hr, Nat.zero_add]
 ·rw [Nat.add_comm, Nat.add_mul_mod_self_right, Nat.mod_eq_of_lt hr]
theorem bisect_le {n r k : Nat} (hn : n ≠ 0) : cmpN (n * k) r ≤ 0 ↔ k ≤ r / n := by
 rw [Nat.le_div_iff_mul_le (Nat.pos_of_ne_zero hn), Nat.mul_comm k n]
 unfold cmpN; split <;> (try split) <;> omega
theorem cons_lt {c r : Nat} (h : c < 10000) : ∀ x ∈ c :: digs r, x < 10000 := by
 intro x hx
 rcases List.mem_cons.1 hx with h1 | h1
 ·omega
 ·exact digs_lt r x h1
theorem row_dropW {k : IntKind} {W : World} {b off cap m : Nat} {l : List Int} (h : Row k W (.slice (some ⟨b, off, none⟩) l.length cap) l) (hm : m ≤ l.length) : Row k W (.slice (some ⟨b, off + m, none⟩) (l.length - m) (cap - m)) (l.drop m) := by
 obtain ⟨a, cap', e1, h2, h3, h4, h5⟩ := h
 injection e1 with e1 _ e3
 subst e1 e3
 have e : (l.drop m).length = l.length - m := List.length_drop
 refine ⟨_, _, by rw [e], by rw [e]; omega, by omega, fun hne => ⟨b, off + m, rfl, fun j hj => ?_⟩, fun h => by cases h⟩
 obtain ⟨b', off', e4, hc⟩ := h4 (fun h => hne (by rw [h]; simp))
 injection e4 with e4
 injection e4 with e5 e6 _
 subst e5 e6
 rw [e] at hj
 rw [Nat.add_assoc, hc (m + j) (by omega), List.getElem?_drop]
def DivEnd (m n : Nat) (w : World) (e : Ending) (w' : World) : Prop := ∃ qv rv Q, e = .returned (.tuple #[qv, rv]) ∧ Row .i64 w' qv (natI Q) ∧ valD Q = m / n ∧ Q.length ≤ (digs m).length ∧ (∀ c ∈ Q, c < 10000) ∧ Row .i64 w' rv (natI (digs (m % n))) ∧ Below w.heap.size w w'
theorem add_plain (b off n : Nat) : (⟨b, off, none⟩ : Addr).add n = ⟨b, off + n, none⟩ := by
 unfold Addr.add
 split
 ·rename_i h; rw [h]; rfl
 ·rfl
theorem nat_row2 {W : World} {b : Bool} {v : Value} {n : Int} (h : NAt W (.agg #[.bool b, v]) n) : Row .i64 W v (natI (digs n.natAbs)) := by
 obtain ⟨u, e, h⟩ := h
 injection e with e
 have e2 := congrArg (fun t => t[1]!) e
 simp at e2
 rw [e2]; exact h
theorem row_store {W : World} {v : Value} {zs : List Int} {r t : Nat} {u : Value} (h : Row .i64 W v zs) (hn : ∀ j, blockOf v j → j = r → zs = []) : Row .i64 (W.setCell ⟨r, t, none⟩ u) v zs := by
 rcases Classical.em (zs = []) with hz | hz
 ·subst hz
  obtain ⟨p, cap, rfl, h2, h3, h4, h5⟩ := h
  exact ⟨p, cap, rfl, h2, h3, fun h => (h rfl).elim, h5⟩
 ·exact row_foot h (keeps_set W r t u) (fun j hj e => hz (hn j hj e))
theorem top_row {w w3 : World} {pa : Option Addr} {ca first : Nat} {da : List Nat} (hU : Row .i64 w (.slice pa da.length ca) (natI da)) (hfl : first ≤ da.length) (hf0 : da = [] → first = 0) (hb : Below w.heap.size w w3) :
  (¬ ca = first → Row .i64 w3 (.slice (Option.map (fun x => x.add first) pa) (da.length - first) (ca - first)) (natI (da.drop first))) ∧ (ca = first → Row .i64 w3 (.slice pa (da.length - first) 0) (natI (da.drop first))) := by
 have hr := row_keeps hU hb
 have hr2 := hr
 obtain ⟨p', c', e, h2, h3, h4, h5⟩ := hr2
 injection e with e1 _ e3
 subst e1 e3
 rw [natI_length] at h2
 rcases Classical.em (da = []) with hd | hd
 ·have hf := hf0 hd
  subst hd
  subst hf
  refine ⟨fun hne => row_nil_of _ _ (fun e => ?_) (by omega), fun he => row_nil_of _ _ (fun _ => rfl) (by omega)⟩
  have : pa = none := by cases pa with | none => rfl | some a => cases e
  exact absurd (h5 this).2 hne
 ·obtain ⟨b, off, rfl, _⟩ := h4 (fun h => hd (by unfold natI at h; exact List.map_eq_nil_iff.1 h))
  have hl : da.length = (natI da).length := by rw [natI_length]
  have hdr : natI (da.drop first) = (natI da).drop first := by simp [natI, List.map_drop]
  refine ⟨fun hne => ?_, fun he => ?_⟩
  ·rw [hdr]
   have := row_dropW (m := first) (by rw [← hl]; exact hr) (by rw [← hl]; exact hfl)
   rw [← hl] at this
   rw [Option.map_some, add_plain]
   exact this
  ·have hz : da.length = first := by omega
   rw [hz, Nat.sub_self, List.drop_of_length_le (by omega)]
   exact row_nil_of _ _ (fun e => by cases e) (by omega)
theorem top_loc {w : World} {pa : Option Addr} {ca first : Nat} {da : List Nat} (hU : Row .i64 w (.slice pa da.length ca) (natI da)) (p2 : Option Addr) (hp : p2 = Option.map (fun x => x.add first) pa ∨ p2 = pa) (mm kk j : Nat) (hj : blockOf (.slice p2 mm kk) j) (hj2 : w.heap.size ≤ j) : da = [] := by
 rcases Classical.em (da = []) with hd | hd
 ·exact hd
 ·exfalso
  obtain ⟨b, off, rfl, hc⟩ := row_elem hU (List.length_pos_iff.2 hd)
  have hlt := World.block_lt_of_cell? _ _ hc
  have hjb : j = b := by
   rcases hp with rfl | rfl
   ·rw [Option.map_some, add_plain] at hj; exact hj
   ·exact hj
  have : b < w.heap.size := hlt
  omega
theorem top_normal {w3 : World} {p2 : Option Addr} {c2 first : Nat} {da : List Nat} (hd : ∀ c ∈ da, c < 10000) (hl : da.length ≤ 1000000) (h : Row .i64 w3 (.slice p2 (da.length - first) c2) (natI (da.drop first))) :
  Calls Tryz.prog 68 #[.bool false, .slice p2 (da.length - first) c2] w3 (NEndAt p2 ((valD (da.drop first) : Nat) : Int) w3) := by
 have := normal_loc false p2 c2 (da.drop first) w3 (by rw [List.length_drop]; exact h) (fun c hc => hd c (List.mem_of_mem_drop hc)) (by rw [List.length_drop]; omega)
 rw [List.length_drop] at this
 exact this
end Go.Proofs.YtepakogbbomaoaaGreatDoor
