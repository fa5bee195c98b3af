/-
 The reference of package wide: Neg, Add, Sub.
-/
import Derived.Test.YtepakogbbomaoaaGreatDoorNmBO
namespace Go.Proofs.YtepakogbbomaoaaGreatDoor
open Go.RowKit Go.Shelf
set_option linter.unusedVariables false
set_option maxRecDepth 100000
theorem nend_at {w W : World} {r : Nat} {n : Int} {b c : Bool} {a p : Option Addr} {m k m2 k2 : Nat} (hb : Below w.heap.size w W) (hr : w.heap.size ≤ r) (hl : Laid W r 24 [.bool c, .slice p m2 k2]) (hx : NAt W (.agg #[.bool b, .slice a m k]) n) :
  NEnd n w (.returned (.agg #[.bool b, .slice a m k])) ((W.setCell ⟨r, 0, none⟩ (.bool b)).setCell ⟨r, 1, none⟩ (.slice a m k)) := by
 obtain ⟨v, e, hrw⟩ := hx
 injection e with e
 have e1 : Value.bool b = .bool (decide (n < 0)) := by simpa using congrArg (fun t => t[0]!) e
 have e2 : Value.slice a m k = v := by simpa using congrArg (fun t => t[1]!) e
 subst e2
 have hl2 : Laid (W.setCell ⟨r, 0, none⟩ (.bool b)) r 24 [.bool b, .slice p m2 k2] := hl.set 0 _
 refine ⟨_, rfl, ⟨.slice a m k, by rw [e1], row_set hl2 (row_set hl hrw 0 _) 1 _⟩, ?_⟩
 exact (hb.setCell (p := ⟨r, 0, none⟩) hr _).setCell (p := ⟨r, 1, none⟩) hr _
theorem nat_shape {W : World} {x : Value} {n : Int} (h : NAt W x n) : ∃ b a m k, x = .agg #[.bool b, .slice a m k] := by
 obtain ⟨a, c, rfl⟩ := nat_form h
 exact ⟨_, _, _, _, rfl⟩
theorem sgn_not (a : Int) : sgn (!decide (a < 0)) a.natAbs = -a := by
 unfold sgn
 rcases Classical.em (a < 0) with h | h <;> simp [h] <;> omega
theorem sgn_self (a : Int) : sgn (decide (a < 0)) a.natAbs = a := by
 unfold sgn
 rcases Classical.em (a < 0) with h | h <;> simp [h] <;> omega
set_option maxRecDepth 100000 in
set_option maxHeartbeats 2000000 in
theorem neg_any (x : Value) (a : Int) (w : World) (hx : NAt w x a) (ha : (digs a.natAbs).length ≤ 1000000) :
  Calls Tryz.prog 70 #[x] w (NEnd (-a) w) := by
 obtain ⟨ax, cx, rfl⟩ := nat_form hx
 have hrx : Row .i64 w (.slice ax (digs a.natAbs).length cx) (natI (digs a.natAbs)) := by obtain ⟨v, e, h⟩ := hx; injection e with e; have e2 := congrArg (fun t => t[1]!) e; simp at e2; rw [e2]; exact h
 obtain ⟨w2, hw2⟩ : ∃ w2, w2 = (w.alloc (.cells #[.bool (decide (a < 0)), .slice ax (digs a.natAbs).length cx] 24)).alloc (.cells #[.bool false, .slice none 0 0] 24) := ⟨_, rfl⟩
 have hbe : Below w.heap.size w w2 := by rw [hw2]; exact ((Below.refl _ w).alloc (Nat.le_refl _) _).alloc (by simp) _
 have hl1 : Laid w2 (w.heap.size + 1) 24 [.bool false, .slice none 0 0] := by
  rw [hw2]
  have := Laid.new (w.alloc (.cells #[.bool (decide (a < 0)), .slice ax (digs a.natAbs).length cx] 24)) 24 [.bool false, .slice none 0 0]
  rwa [World.size_alloc] at this
 have NM := Lib.hid (normal_any (!decide (a < 0)) _ _ w2 (row_keeps hrx hbe) (digs_lt _) ha)
 rw [valD_digs, sgn_not] at NM
 have HB := Lib.hid hbe
 have HL := Lib.hid hl1
 unfold NEnd at NM
 clear hx hrx hbe hl1
 generalize decide (a < 0) = neg at *
 go_enter Tryz.func70, Tryz.ntmps70
 go_wp2_with fail
 rw [← hw2]
 refine NM.out.mono ?_
 rintro e w3 ⟨x, rfl, hx, hb2⟩
 obtain ⟨bv, av, mv, cv, rfl⟩ := nat_shape hx
 have hs2 : w2.heap.size = w.heap.size + 2 := by rw [hw2]; simp
 have hl2 := HL.out.below hb2
 obtain ⟨a0, a1, f0, f1⟩ := cells2 hl2
 have HX := Lib.hid (nend_at (below_then HB.out hb2) (Nat.le_succ _) hl2 hx)
 clear hx hl2 hb2
 go_wp2_with fail
 refine bodyPost_ret (v := .agg #[.bool bv, .slice av mv cv]) (by simp [results, Tryz.results70, go_sem, a0, a1]) rfl ?_
 exact HX.out
theorem nat_row {W : World} {a : Option Addr} {c : Nat} {n : Int} (hx : NAt W (.agg #[.bool (decide (n < 0)), .slice a (digs n.natAbs).length c]) n) : Row .i64 W (.slice a (digs n.natAbs).length c) (natI (digs n.natAbs)) := by
 obtain ⟨v, e, h⟩ := hx; injection e with e; have e2 := congrArg (fun t => t[1]!) e; simp at e2; rw [e2]; exact h
theorem add_same (na nb : Bool) (a b : Int) (ha : decide (a < 0) = na) (hb : decide (b < 0) = nb) (h : na = nb) : sgn na (a.natAbs + b.natAbs) = a + b := by
 subst ha
 have h2 : (a < 0) ↔ (b < 0) := by simpa [hb.symm] using h
 unfold sgn
 rcases Classical.em (a < 0) with h1 | h1
 ·have := h2.1 h1; simp [h1]; omega
 ·have : ¬ b < 0 := fun h => h1 (h2.2 h); simp [h1]; omega
theorem add_less (na nb : Bool) (a b : Int) (ha : decide (a < 0) = na) (hb : decide (b < 0) = nb) (h : na ≠ nb) (hl : a.natAbs < b.natAbs) : sgn nb (b.natAbs - a.natAbs) = a + b := by
 subst ha; subst hb
 unfold sgn
 rcases Classical.em (a < 0) with h1 | h1 <;> rcases Classical.em (b < 0) with h2 | h2 <;> simp [h1, h2] at h ⊢ <;> omega
theorem add_more (na nb : Bool) (a b : Int) (ha : decide (a < 0) = na) (hb : decide (b < 0) = nb) (h : na ≠ nb) (hl : ¬ a.natAbs < b.natAbs) : sgn na (a.natAbs - b.natAbs) = a + b := by
 subst ha; subst hb
 unfold sgn
 rcases Classical.em (a < 0) with h1 | h1 <;> rcases Classical.em (b < 0) with h2 | h2 <;> simp [h1, h2] at h ⊢ <;> omega
theorem cmpN_lt {a b : Nat} : cmpN a b < 0 ↔ a < b := by
 unfold cmpN; split <;> (try split) <;> omega
set_option maxRecDepth 100000 in
set_option maxHeartbeats 8000000 in
theorem add_any (x y : Value) (a b : Int) (w : World) (hx : NAt w x a) (hy : NAt w y b) (ha : (digs a.natAbs).length ≤ 500000) (hb : (digs b.natAbs).length ≤ 500000) :
  Calls Tryz.prog 67 #[x, y] w (NEnd (a + b) w) := by
 obtain ⟨ax, cx, rfl⟩ := nat_form hx
 obtain ⟨ay, cy, rfl⟩ := nat_form hy
 have hrx := nat_row hx
 have hry := nat_row hy
 obtain ⟨na, hna⟩ : ∃ t, decide (a < 0) = t := ⟨_, rfl⟩
 obtain ⟨nb, hnb⟩ : ∃ t, decide (b < 0) = t := ⟨_, rfl⟩
 obtain ⟨w2, hw2⟩ : ∃ w2, w2 = ((w.alloc (.cells #[.bool na, .slice ax (digs a.natAbs).length cx] 24)).alloc (.cells #[.bool nb, .slice ay (digs b.natAbs).length cy] 24)).alloc (.cells #[.bool false, .slice none 0 0] 24) := ⟨_, rfl⟩
 have hbe : Below w.heap.size w w2 := by rw [hw2]; exact (((Below.refl _ w).alloc (Nat.le_refl _) _).alloc (by simp) _).alloc (by simp; try omega) _
 have hs2 : w2.heap.size = w.heap.size + 3 := by rw [hw2]; simp
 have hl1 : Laid w2 w.heap.size 24 [.bool na, .slice ax (digs a.natAbs).length cx] := by
  rw [hw2]; exact ((Laid.new w _ _).below ((Below.refl _ _).alloc (Nat.le_refl _) _)).below ((Below.refl _ _).alloc (Nat.le_refl _) _)
 have hl2 : Laid w2 (w.heap.size + 1) 24 [.bool nb, .slice ay (digs b.natAbs).length cy] := by
  rw [hw2]
  have := Laid.new (w.alloc (.cells #[.bool na, .slice ax (digs a.natAbs).length cx] 24)) 24 [.bool nb, .slice ay (digs b.natAbs).length cy]
  rw [World.size_alloc] at this
  exact this.below ((Below.refl _ _).alloc (Nat.le_refl _) _)
 have hl3 : Laid w2 (w.heap.size + 2) 24 [.bool false, .slice none 0 0] := by
  rw [hw2]
  have := Laid.new ((w.alloc (.cells #[.bool na, .slice ax (digs a.natAbs).length cx] 24)).alloc (.cells #[.bool nb, .slice ay (digs b.natAbs).length cy] 24)) 24 [.bool false, .slice none 0 0]
  rwa [World.size_alloc, World.size_alloc] at this
 obtain ⟨c0, c1, _, _⟩ := cells2 hl1
 obtain ⟨d0, d1, _, _⟩ := cells2 hl2
 have hx2 := row_keeps hrx hbe
 have hy2 := row_keeps hry hbe
 have PL := Lib.hid (plus_any _ _ _ _ w2.drew (row_keeps hx2 (Below.refl _ _).drew) (row_keeps hy2 (Below.refl _ _).drew) (digs_lt a.natAbs) (digs_lt b.natAbs) (by omega) (by omega))
 have CM := Lib.hid (compared_any _ _ a.natAbs b.natAbs w2 hx2 hy2 (by omega) (by omega))
 have HX := Lib.hid hx2
 have HY := Lib.hid hy2
 have HL := Lib.hid hl3
 have HB := Lib.hid hbe
 have HS := Lib.hid (add_same na nb a b hna hnb)
 have HLE := Lib.hid (add_less na nb a b hna hnb)
 have HMO := Lib.hid (add_more na nb a b hna hnb)
 rw [hna] at hx ⊢
 rw [hnb] at hy ⊢
 unfold DEnd at PL
 unfold CmpEnd at CM
 clear hx hy hrx hry hbe hl1 hl2 hl3 hx2 hy2
 have same : na = nb → Calls Tryz.prog 67 #[.agg #[.bool na, .slice ax (digs a.natAbs).length cx], .agg #[.bool nb, .slice ay (digs b.natAbs).length cy]] w (NEnd (a + b) w) := by
  intro heq
  have HS2 := Lib.hid (HS.out heq)
  rw [← heq] at hw2 d0 ⊢
  have KC : Hid (∀ w3, Below w2.drew.heap.size w2.drew w3 → w3.cell? ⟨w.heap.size, 0, none⟩ = some (.bool na)) := Lib.hid (fun w3 h => (h.cell (p := ⟨w.heap.size, 0, none⟩) (by show w.heap.size < w2.heap.size; omega)).trans c0)
  have KD : Hid (∀ w3, Below w2.drew.heap.size w2.drew w3 → Laid w3 (w.heap.size + 2) 24 [.bool false, .slice none 0 0]) := Lib.hid (fun w3 h => (HL.out.below (Below.refl _ _).drew).below h)
  have KB : Hid (∀ w3, Below w2.drew.heap.size w2.drew w3 → Below w.heap.size w w3) := Lib.hid (fun w3 h => below_then HB.out.drew h)
  have NM : Hid (∀ w3 v out, Row .i64 w3 v (natI out) → valD out = valD (digs a.natAbs) + valD (digs b.natAbs) → out.length ≤ max (digs a.natAbs).length (digs b.natAbs).length + 1 → (∀ c ∈ out, c < 10000) → Calls Tryz.prog 68 #[.bool na, v] w3 (NEnd (a + b) w3)) := Lib.hid (fun w3 v out h1 h2 h3 h4 => by
   have := normal_any na v out w3 h1 h4 (by omega)
   rwa [h2, valD_digs, valD_digs, HS2.out] at this)
  unfold NEnd at NM
  have hd0 := (show w2.drew.cell? ⟨w.heap.size, 0, none⟩ = some (.bool na) from c0)
  clear hna hnb heq CM HLE HMO HS
  go_enter Tryz.func67, Tryz.ntmps67
  go_wp2_with fail
  rw [← hw2]
  clear hw2
  go_region_with (first
   | (go_at_call 98; refine PL.out.mono ?_; rintro e w3 ⟨v3, out, rfl, hr, ⟨ho1, ho2, ho3⟩, hb3⟩; have e0 := KC.out _ hb3; have HL3 := Lib.hid (KD.out _ hb3); have NM3 := Lib.hid (NM.out _ _ _ hr ho1 ho2 ho3); have HB3 := Lib.hid (KB.out _ hb3); clear hr ho1 ho2 ho3 hb3)
   | (go_at_call 68; refine NM3.out.mono ?_; rintro e w4 ⟨x, rfl, hx, hb4⟩; obtain ⟨bv, av, mv, cv, rfl⟩ := nat_shape hx; have hl4 := HL3.out.below hb4; obtain ⟨a0, a1, f0, f1⟩ := cells2 hl4; have HX4 := Lib.hid (nend_at (below_then HB3.out hb4) (by omega) hl4 hx); clear hx hl4 hb4))
  all_goals
   go_wp2_with fail
   refine bodyPost_ret (v := .agg #[.bool bv, .slice av mv cv]) (by simp [results, Tryz.results67, go_sem, a0, a1]) rfl ?_
   exact HX4.out
 rcases Classical.em (na = nb) with heq | hne
 ·exact same heq
 rcases Classical.em (a.natAbs < b.natAbs) with hcmp | hcmp
 ·have HS2 := Lib.hid (HLE.out hne hcmp)
  have hne2 : (na == nb) = false := by simpa using hne
  have hc : cmpN a.natAbs b.natAbs < 0 := cmpN_lt.2 hcmp
  generalize cmpN a.natAbs b.natAbs = c at *
  have MI : Hid (∀ w3, Below w2.heap.size w2 w3 → Calls Tryz.prog 99 #[.slice ay (digs b.natAbs).length cy, .slice ax (digs a.natAbs).length cx] w3.drew (DEnd (fun out => valD out = b.natAbs - a.natAbs ∧ out.length = (digs b.natAbs).length ∧ ∀ c ∈ out, c < 10000) w3.drew)) := Lib.hid (fun w3 h => by
   have := minus_any _ _ _ _ w3.drew (row_keeps HY.out h.drew) (row_keeps HX.out h.drew) (digs_lt b.natAbs) (digs_lt a.natAbs) (by omega) (by omega) (by rw [valD_digs, valD_digs]; omega)
   rwa [valD_digs, valD_digs] at this)
  have KW : Hid (∀ w3, Below w2.heap.size w2 w3 → w3.drew.cell? ⟨w.heap.size, 0, none⟩ = some (.bool na) ∧ w3.drew.cell? ⟨w.heap.size, 1, none⟩ = some (.slice ax (digs a.natAbs).length cx) ∧ w3.drew.cell? ⟨w.heap.size + 1, 0, none⟩ = some (.bool nb) ∧ w3.drew.cell? ⟨w.heap.size + 1, 1, none⟩ = some (.slice ay (digs b.natAbs).length cy)) := Lib.hid (fun w3 h =>
   ⟨(h.cell (p := ⟨w.heap.size, 0, none⟩) (by show w.heap.size < w2.heap.size; omega)).trans c0, (h.cell (p := ⟨w.heap.size, 1, none⟩) (by show w.heap.size < w2.heap.size; omega)).trans c1, (h.cell (p := ⟨w.heap.size + 1, 0, none⟩) (by show w.heap.size + 1 < w2.heap.size; omega)).trans d0, (h.cell (p := ⟨w.heap.size + 1, 1, none⟩) (by show w.heap.size + 1 < w2.heap.size; omega)).trans d1⟩)
  have KC : Hid (∀ w3 w4 : World, Below w3.drew.heap.size w3.drew w4 → Below w2.heap.size w2 w3 → w4.cell? ⟨w.heap.size + 1, 0, none⟩ = some (.bool nb)) := Lib.hid (fun w3 w4 h h3 => by
   have hz := h3.size
   exact (h.cell (p := ⟨w.heap.size + 1, 0, none⟩) (by show w.heap.size + 1 < w3.heap.size; omega)).trans ((h3.cell (p := ⟨w.heap.size + 1, 0, none⟩) (by show w.heap.size + 1 < w2.heap.size; omega)).trans d0))
  have KD : Hid (∀ w3 w4 : World, Below w3.drew.heap.size w3.drew w4 → Below w2.heap.size w2 w3 → Laid w4 (w.heap.size + 2) 24 [.bool false, .slice none 0 0]) := Lib.hid (fun w3 w4 h h3 => ((HL.out.below h3).below (Below.refl _ _).drew).below h)
  have KB : Hid (∀ w3 w4 : World, Below w3.drew.heap.size w3.drew w4 → Below w2.heap.size w2 w3 → Below w.heap.size w w4) := Lib.hid (fun w3 w4 h h3 => below_then (below_then HB.out h3).drew h)
  have NM : Hid (∀ w3 v out, Row .i64 w3 v (natI out) → valD out = b.natAbs - a.natAbs → out.length = (digs b.natAbs).length → (∀ c ∈ out, c < 10000) → Calls Tryz.prog 68 #[.bool nb, v] w3 (NEnd (a + b) w3)) := Lib.hid (fun w3 v out h1 h2 h3 h4 => by
   have := normal_any nb v out w3 h1 h4 (by omega)
   rwa [h2, HS2.out] at this)
  unfold NEnd at NM
  unfold DEnd at MI
  have hs := hs2
  clear hna hnb hne HLE HMO HS hcmp same PL
  go_enter Tryz.func67, Tryz.ntmps67
  go_wp2_with fail
  rw [← hw2]
  refine CM.out.mono ?_
  rintro e w3 ⟨rfl, hb3⟩
  have hsz3 := hb3.size
  obtain ⟨g0, g1, g2, g3⟩ := KW.out _ hb3
  have MI3 := Lib.hid (MI.out _ hb3)
  have HB3 := Lib.hid hb3
  clear hw2 c0 c1 d0 d1 hb3
  go_wp2_with fail
  go_region_with (first
   | (go_at_call 99; refine MI3.out.mono ?_; rintro e w4 ⟨v4, out, rfl, hr, ⟨ho1, ho2, ho3⟩, hb4⟩; have e0 := KC.out _ _ hb4 HB3.out; have HL4 := Lib.hid (KD.out _ _ hb4 HB3.out); have NM4 := Lib.hid (NM.out _ _ _ hr ho1 ho2 ho3); have HB4 := Lib.hid (KB.out _ _ hb4 HB3.out); clear hr ho1 ho2 ho3 hb4)
   | (go_at_call 68; refine NM4.out.mono ?_; rintro e w5 ⟨x, rfl, hx, hb5⟩; obtain ⟨bv, av, mv, cv, rfl⟩ := nat_shape hx; have hl5 := HL4.out.below hb5; obtain ⟨a0, a1, f0, f1⟩ := cells2 hl5; have HX5 := Lib.hid (nend_at (below_then HB4.out hb5) (by omega) hl5 hx); clear hx hl5 hb5))
  all_goals
   go_wp2_with fail
   refine bodyPost_ret (v := .agg #[.bool bv, .slice av mv cv]) (by simp [results, Tryz.results67, go_sem, a0, a1]) rfl ?_
   exact HX5.out
 ·have HS2 := Lib.hid (HMO.out hne hcmp)
  have hne2 : (na == nb) = false := by simpa using hne
  have hc : ¬ cmpN a.natAbs b.natAbs < 0 := fun h => hcmp (cmpN_lt.1 h)
  generalize cmpN a.natAbs b.natAbs = c at *
  have MI : Hid (∀ w3, Below w2.heap.size w2 w3 → Calls Tryz.prog 99 #[.slice ax (digs a.natAbs).length cx, .slice ay (digs b.natAbs).length cy] w3.drew (DEnd (fun out => valD out = a.natAbs - b.natAbs ∧ out.length = (digs a.natAbs).length ∧ ∀ c ∈ out, c < 10000) w3.drew)) := Lib.hid (fun w3 h => by
   have := minus_any _ _ _ _ w3.drew (row_keeps HX.out h.drew) (row_keeps HY.out h.drew) (digs_lt a.natAbs) (digs_lt b.natAbs) (by omega) (by omega) (by rw [valD_digs, valD_digs]; omega)
   rwa [valD_digs, valD_digs] at this)
  have KW : Hid (∀ w3, Below w2.heap.size w2 w3 → w3.drew.cell? ⟨w.heap.size, 0, none⟩ = some (.bool na) ∧ w3.drew.cell? ⟨w.heap.size, 1, none⟩ = some (.slice ax (digs a.natAbs).length cx) ∧ w3.drew.cell? ⟨w.heap.size + 1, 0, none⟩ = some (.bool nb) ∧ w3.drew.cell? ⟨w.heap.size + 1, 1, none⟩ = some (.slice ay (digs b.natAbs).length cy)) := Lib.hid (fun w3 h =>
   ⟨(h.cell (p := ⟨w.heap.size, 0, none⟩) (by show w.heap.size < w2.heap.size; omega)).trans c0, (h.cell (p := ⟨w.heap.size, 1, none⟩) (by show w.heap.size < w2.heap.size; omega)).trans c1, (h.cell (p := ⟨w.heap.size + 1, 0, none⟩) (by show w.heap.size + 1 < w2.heap.size; omega)).trans d0, (h.cell (p := ⟨w.heap.size + 1, 1, none⟩) (by show w.heap.size + 1 < w2.heap.size; omega)).trans d1⟩)
  have KC : Hid (∀ w3 w4 : World, Below w3.drew.heap.size w3.drew w4 → Below w2.heap.size w2 w3 → w4.cell? ⟨w.heap.size, 0, none⟩ = some (.bool na)) := Lib.hid (fun w3 w4 h h3 => by
   have hz := h3.size
   exact (h.cell (p := ⟨w.heap.size, 0, none⟩) (by show w.heap.size < w3.heap.size; omega)).trans ((h3.cell (p := ⟨w.heap.size, 0, none⟩) (by show w.heap.size < w2.heap.size; omega)).trans c0))
  have KD : Hid (∀ w3 w4 : World, Below w3.drew.heap.size w3.drew w4 → Below w2.heap.size w2 w3 → Laid w4 (w.heap.size + 2) 24 [.bool false, .slice none 0 0]) := Lib.hid (fun w3 w4 h h3 => ((HL.out.below h3).below (Below.refl _ _).drew).below h)
  have KB : Hid (∀ w3 w4 : World, Below w3.drew.heap.size w3.drew w4 → Below w2.heap.size w2 w3 → Below w.heap.size w w4) := Lib.hid (fun w3 w4 h h3 => below_then (below_then HB.out h3).drew h)
  have NM : Hid (∀ w3 v out, Row .i64 w3 v (natI out) → valD out = a.natAbs - b.natAbs → out.length = (digs a.natAbs).length → (∀ c ∈ out, c < 10000) → Calls Tryz.prog 68 #[.bool na, v] w3 (NEnd (a + b) w3)) := Lib.hid (fun w3 v out h1 h2 h3 h4 => by
   have := normal_any na v out w3 h1 h4 (by omega)
   rwa [h2, HS2.out] at this)
  unfold NEnd at NM
  unfold DEnd at MI
  have hs := hs2
  clear hna hnb hne HLE HMO HS hcmp same PL
  go_enter Tryz.func67, Tryz.ntmps67
  go_wp2_with fail
  rw [← hw2]
  refine CM.out.mono ?_
  rintro e w3 ⟨rfl, hb3⟩
  have hsz3 := hb3.size
  obtain ⟨g0, g1, g2, g3⟩ := KW.out _ hb3
  have MI3 := Lib.hid (MI.out _ hb3)
  have HB3 := Lib.hid hb3
  clear hw2 c0 c1 d0 d1 hb3
  go_wp2_with fail
  go_region_with (first
   | (go_at_call 99; refine MI3.out.mono ?_; rintro e w4 ⟨v4, out, rfl, hr, ⟨ho1, ho2, ho3⟩, hb4⟩; have e0 := KC.out _ _ hb4 HB3.out; have HL4 := Lib.hid (KD.out _ _ hb4 HB3.out); have NM4 := Lib.hid (NM.out _ _ _ hr ho1 ho2 ho3); have HB4 := Lib.hid (KB.out _ _ hb4 HB3.out); clear hr ho1 ho2 ho3 hb4)
   | (go_at_call 68; refine NM4.out.mono ?_; rintro e w5 ⟨x, rfl, hx, hb5⟩; obtain ⟨bv, av, mv, cv, rfl⟩ := nat_shape hx; have hl5 := HL4.out.below hb5; obtain ⟨a0, a1, f0, f1⟩ := cells2 hl5; have HX5 := Lib.hid (nend_at (below_then HB4.out hb5) (by omega) hl5 hx); clear hx hl5 hb5))
  all_goals
   go_wp2_with fail
   refine bodyPost_ret (v := .agg #[.bool bv, .slice av mv cv]) (by simp [results, Tryz.results67, go_sem, a0, a1]) rfl ?_
   exact HX5.out
end Go.Proofs.YtepakogbbomaoaaGreatDoor
