/-
  The law JournalFull.
-/
import Derived.Test.YtjapbopdpohebaaJde
namespace Go.Proofs.Ytjapbopdpohebaa
open Go.RowKit Go.Shelf
set_option linter.unusedVariables false
set_option maxRecDepth 100000

theorem stF_used {k : Nat} (hk : k < 64) (ys : List (List Nat)) : sumB (stF k ys).B = (framesN 0 ys).length := by
  show sumB (setB (fun _ => []) k (framesN 0 ys)) = _
  exact sum_one hk _
def FullOk (room : Nat) (ys : List (List Nat)) (x : List Nat) : Prop :=
  (pLog room (stF 63 ys) 63 ⟨ys.length, true⟩ x).1 = 0 ∧ (pLog room (stF 63 ys) 63 ⟨ys.length, true⟩ x).2.1 = stF 63 (ys ++ [x]) ∧ (pLog room (stF 63 ys) 63 ⟨ys.length, true⟩ x).2.2 = ⟨(ys ++ [x]).length, true⟩ ∧
  sumB (stF 63 (ys ++ [x])).B = (framesN 0 ys).length + (frameN (ys.length : Int) x).length
theorem full_ok {room : Nat} {ys : List (List Nat)} {x : List Nat} (hx : x.length ≤ 65536) (hfit : (framesN 0 ys).length + (frameN (ys.length : Int) x).length ≤ room) : FullOk room ys x := by
  have h := log_ok (room := room) (k := 63) (by decide) (s := stF 63 ys) (kept := ys) rfl rfl rfl (b := x) hx hfit
  have h2 : pLog room (stF 63 ys) 63 ⟨ys.length, true⟩ x = (0, stF 63 (ys ++ [x]), ⟨ys.length + 1, true⟩) := h
  unfold FullOk
  rw [h2, stF_used (by decide), framesN_snoc, Nat.zero_add, List.length_append, List.length_append]
  exact ⟨rfl, rfl, rfl, rfl⟩
def FullNo (room : Nat) (ys : List (List Nat)) (x : List Nat) : Prop :=
  (pLog room (stF 63 ys) 63 ⟨ys.length, true⟩ x).1 = 22 ∧ (pLog room (stF 63 ys) 63 ⟨ys.length, true⟩ x).2.1 = stF 63 ys ∧ (pLog room (stF 63 ys) 63 ⟨ys.length, true⟩ x).2.2 = ⟨ys.length, true⟩
theorem full_no {room : Nat} {ys : List (List Nat)} {x : List Nat} (hx : x.length ≤ 65536) (hfit : ¬ (framesN 0 ys).length + (frameN (ys.length : Int) x).length ≤ room) : FullNo room ys x := by
  have h := log_full (room := room) (k := 63) (by decide) (s := stF 63 ys) (kept := ys) rfl rfl (b := x) hx hfit
  have h2 : pLog room (stF 63 ys) 63 ⟨ys.length, true⟩ x = (22, stF 63 ys, ⟨ys.length, true⟩) := h
  unfold FullNo
  rw [h2]
  exact ⟨rfl, rfl, rfl⟩
theorem full_open {ys : List (List Nat)} (hx : ∀ x ∈ ys, x.length ≤ 1000000) (hn : ys.length ≤ 1000000) : (pOpen (stF 63 ys) 63).1 = 0 ∧ (pOpen (stF 63 ys) 63).2.2 = ys := by
  obtain ⟨h1, h2, _⟩ := open_one (k := 63) (by decide) (s := stF 63 ys) (xs := ys) (t := []) rfl rfl (by rw [List.append_nil]; rfl) hx hn
  rw [scanP_nil, List.map_nil, List.append_nil] at h2
  exact ⟨h1, h2⟩
/-- The records that were kept: a slice of one's own, whose elements are records at hand. -/
structure KpIs (lo hi : Nat) (A : Foot) (W : World) (v : Value) (ks : List Value) (ys : List (List Nat)) : Prop where
  own : LOwn hi W v ks ys
  far : ∀ k, v.ownBlock = some k → ¬ A k
  els : ∀ y ∈ ks, ∀ k, blockOf y k → lo ≤ k ∧ k < hi
  short : ys.length ≤ 6 ∧ ∀ x ∈ ys, x.length ≤ 10 ∧ ∀ c ∈ x, c < 256
theorem KpIs.keeps {lo hi : Nat} {A A2 : Foot} {W W2 : World} {v : Value} {ks : List Value} {ys : List (List Nat)} {C : Foot} (h : KpIs lo hi A W v ks ys) (hk : Keeps C W W2) (hg : ∀ k, C k → k < lo ∨ hi ≤ k) (hC : ∀ k, v.ownBlock = some k → ¬ C k) (hA : ∀ k, A2 k → A k ∨ W.heap.size ≤ k) : KpIs lo hi A2 W2 v ks ys :=
  ⟨lown_foot h.own hk hC (fun y hy k hk2 hc => by
      have h1 := h.els y hy k hk2
      rcases hg k hc with h2 | h2 <;> omega), fun k hk2 ha => (hA k ha).elim (h.far k hk2) (fun h2 => by have := (h.own.own.lt k hk2).2; omega), h.els, h.short⟩
def SumIs (s : St) (a b : Nat) : Prop := sumB s.B = a + b
theorem around_r (n : Int) (m : Nat) (hm : 0 < m) : ∃ q : Nat, aroundI n m = (q : Int) ∧ q < m := by
  have h1 := Int.emod_nonneg (if n < 0 then -(n + 1) else n) (show (m : Int) ≠ 0 by omega)
  have h2 := Int.emod_lt_of_pos (if n < 0 then -(n + 1) else n) (show (0 : Int) < (m : Int) by omega)
  unfold aroundI
  exact ⟨((if n < 0 then -(n + 1) else n) % (m : Int)).toNat, by omega, by omega⟩
theorem XsIs.cellAt {lo hi : Nat} {W : World} {b off cap : Nat} {us : List Value} {xs : List (List Nat)} (h : XsIs lo hi W (.slice (some ⟨b, off, none⟩) us.length cap) us xs) {i : Nat} (hi : i < us.length) : W.cell? ⟨b, off + i, none⟩ = some us[i] := by
  obtain ⟨a2, cap2, h1, _, _, h4⟩ := (lrow_of_own h.own).form
  injection h1 with h5 h6 h7
  subst h5
  obtain ⟨b2, off2, h8, h9⟩ := h4 (fun e => by rw [e] at hi; simp at hi)
  injection h8 with h8
  injection h8 with h81 h82
  subst h81 h82
  exact h9 i hi
theorem XsIs.row {lo hi : Nat} {W : World} {u : Value} {us : List Value} {xs : List (List Nat)} (h : XsIs lo hi W u us xs) {i : Nat} (hi : i < us.length) (hx : i < xs.length) : Row .u8 W us[i] (natI xs[i]) ∧ ∀ j, blockOf us[i] j → j < W.heap.size :=
  ⟨h.own.row i hi hx, h.own.lt _ (List.getElem_mem hi)⟩

set_option maxHeartbeats 16000000 in
theorem walk_JournalFull (room : Int) (vl : Value) (l : List Int) (w : World) (hroom : -9223372036854775808 ≤ room ∧ room ≤ 9223372036854775807) (hvl : Row .i64 w vl l) (hlr : ∀ n ∈ l, -9223372036854775808 ≤ n ∧ n ≤ 9223372036854775807) :
    Calls Try.prog 5 #[.int .i64 room, vl] w fun e w' => e = .returned (.bool true) ∧ Below w.heap.size w w' := by
  obtain ⟨i0, hi0, hz0, hz1, hz2⟩ := info_parts info_sl
  obtain ⟨j0, hj0, hy0, hy1, hy2⟩ := info_parts info_u8
  have HVL := Lib.hid hvl
  have HLR := Lib.hid hlr
  have HRM := Lib.hid hroom
  obtain ⟨q, hq, hq120⟩ := around_r room 120 (by decide)
  have HQ : Hid (aroundI room (120 : Nat) = (q : Int)) := Lib.hid hq
  obtain ⟨on1, on2, on3⟩ := open_new (k := 63) (by decide)
  have HN1 : Hid ((pOpen pNew 63).1 = 0) := Lib.hid on1
  have HN2 : Hid ((pOpen pNew 63).2.2 = []) := Lib.hid on2
  have HN3 : Hid ((pOpen pNew 63).2.1 = stF 63 []) := Lib.hid on3
  clear hvl hlr hroom hq on1 on2 on3
  go_enter Try.func5, Try.ntmps5
  go_wp2_with fail
  refine (around_any room 120 w HRM.out (by decide) (by decide)).mono ?_
  rintro e w0 ⟨rfl, rfl⟩
  rw [HQ.out]
  go_wp2_with fail
  refine (fresh06_any q w (by omega)).mono ?_
  rintro e w1 ⟨d, A1, rfl, hd, hb⟩
  have D1 := Lib.hid hd
  have B1 := Lib.hid hb
  clear hd hb
  go_wp2_with fail
  refine (open_any D1.out B1.out.size 63 (by omega)).mono ?_
  rintro e w2 ⟨A2, lv, rv, us2, rfl, ho⟩
  rw [HN1.out]
  obtain ⟨g, rfl, hj, hg1, hg2, hg3, _⟩ := ho.good HN1.out
  have D2 : Hid (Dsk w.heap.size w2 A2 d q (stF 63 [])) := Lib.hid (by rw [← HN3.out]; exact ho.dk)
  have J2 : Hid (Jl w2 g d 63 0 true) := Lib.hid (by rw [HN2.out] at hj; exact hj)
  have G2 := Lib.hid (And.intro hg3 (Nat.le_trans B1.out.size hg1))
  have B2 := Lib.hid (B1.out.trans ho.below)
  clear ho hj hg1 hg2 hg3 D1 B1 HN1 HN2 HN3
  go_wp2_with fail
  refine (records_new vl l w2 (row_keeps HVL.out B2.out) HLR.out).mono ?_
  rintro e w3 ⟨u, us, xs, rfl, hlo, hsh, hb, hlw⟩
  have D3 := Lib.hid (D2.out.below hb)
  have J3 : Hid (Jl w3 g d 63 0 true) := Lib.hid (Laid.below J2.out hb)
  obtain ⟨ua, uc, rfl⟩ : ∃ ua uc, u = .slice ua us.length uc := by
    rcases hlo.own.2 with ⟨h1, h2⟩ | ⟨g, cap, cur, h1, _⟩
    · exact ⟨none, 0, by rw [h1, h2]⟩
    · exact ⟨_, cap, h1⟩
  have X3 : Hid (XsIs w2.heap.size w3.heap.size w3 (.slice ua us.length uc) us xs) := Lib.hid ⟨hlo, fun k hk => (hlo.own.lt k hk).2, fun y hy k hk => ⟨hlw y hy k hk, hlo.lt y hy k hk⟩⟩
  have XL := Lib.hid hlo.len
  have HSH := Lib.hid hsh
  have B3 := Lib.hid (B2.out.trans (hb.mono B2.out.size))
  have G3 : Hid (Gap w2.heap.size w3.heap.size A2 ∧ ¬ A2 g ∧ w.heap.size ≤ g ∧ g < w2.heap.size) := Lib.hid ⟨fun k hk => .inl (D2.out.hi k hk), G2.out.1, G2.out.2, J2.out.lt⟩
  have S3 := Lib.hid (Nat.le_refl w3.heap.size)
  have SZ := Lib.hid hb.size
  have P3 : Hid (KpIs w2.heap.size w3.heap.size A2 w3 (.slice none 0 0) [] []) := Lib.hid ⟨lown_nil _ _, fun k h => (by cases h), fun y hy => by simp at hy, by simp, fun x hx => by simp at hx⟩
  have hn6 : us.length ≤ 6 := by rw [hlo.len]; exact hsh.1
  clear hlo hsh hb hlw D2 J2 G2 B2
  go_wp2_with fail
  go_loopw [11, 12] (fun s11 s12 wr => ∃ (i m : Nat) (A : Foot) (ka : Option Addr) (kc : Nat) (ks : List Value) (ys : List (List Nat)), s12 = .int .i64 (i : Int) ∧ s11 = .slice ka m kc ∧ i ≤ us.length ∧ m ≤ i ∧ Hid (ks.length = m) ∧ Hid (ys.length = m) ∧ Hid (Dsk w.heap.size wr A d q (stF 63 ys)) ∧ Hid (Jl wr g d 63 m true) ∧ Hid (Gap w2.heap.size w3.heap.size A ∧ ¬ A g ∧ w.heap.size ≤ g ∧ g < w2.heap.size) ∧ Hid (XsIs w2.heap.size w3.heap.size wr (.slice ua us.length uc) us xs) ∧ Hid (KpIs w2.heap.size w3.heap.size A wr (.slice ka m kc) ks ys) ∧ Hid (Below w.heap.size w wr) ∧ Hid (w3.heap.size ≤ wr.heap.size)) (fun _ s12 _ => us.length - (intOf s12).toNat)
  case atStart => exact ⟨0, 0, A2, none, 0, [], [], rfl, rfl, Nat.zero_le _, Nat.le_refl _, Lib.hid rfl, Lib.hid rfl, D3, J3, G3, X3, P3, B3, S3⟩
  case round =>
    obtain ⟨i, m, A, ka, kc, ks, ys, rfl, rfl, hi, hmi, HKL, HYL, HD, HJ, HG, HX, HP, HB, HS⟩ := hrel
    clear D3 J3 G3 X3 P3 B3 S3
    by_cases hlt : i < us.length
    · have hxi : i < xs.length := by rw [← XL.out]; exact hlt
      obtain ⟨bb, off, y0, rfl, t1, t2, t3⟩ := HX.out.get hlt
      clear t1 t2 t3 y0
      have hcy := HX.out.cellAt hlt
      obtain ⟨hry, hby⟩ := HX.out.row hlt hxi
      have hx8 := HSH.out.2 (xs[i]) (List.getElem_mem hxi)
      have hyel := HX.out.els _ (List.getElem_mem hlt)
      have HCY := Lib.hid (fun (W : World) (h : XsIs w2.heap.size w3.heap.size W (.slice (some ⟨bb, off, none⟩) us.length uc) us xs) => h.cellAt hlt)
      have HRY := Lib.hid (fun (W : World) (h : XsIs w2.heap.size w3.heap.size W (.slice (some ⟨bb, off, none⟩) us.length uc) us xs) => h.row hlt hxi)
      generalize us[i] = y at *
      generalize xs[i] = x at *
      obtain ⟨ya, yc, hye, _⟩ := hry
      rw [natI_length] at hye
      subst hye
      have HY := Lib.hid (And.intro hx8 hyel)
      clear hby hx8 hyel
      have hfy := framesN_le ys 0 (fun x hx => (HP.out.short.2 x hx).1) (by have := HYL.out; omega)
      have hfz := frameN_len (n := (m : Int)) (b := x) (by omega) (by have := HY.out.1.1; omega)
      obtain ⟨f, hf⟩ : ∃ f, (framesN 0 ys).length = f := ⟨_, rfl⟩
      obtain ⟨z, hz⟩ : ∃ z, (frameN (m : Int) x).length = z := ⟨_, rfl⟩
      have hf300 : f ≤ 300 := by have := HYL.out; omega
      have hz50 : z ≤ 50 := by have := HY.out.1.1; omega
      have HF := Lib.hid hf
      have HZ := Lib.hid hz
      have HU : Hid (sumB (stF 63 ys).B = f) := Lib.hid (by rw [stF_used (by decide), hf])
      clear hfy hfz hf hz
      go_wp2_with fail
      refine (usedS_any HD.out.dk).mono ?_
      rintro e w4 ⟨rfl, hb⟩
      rw [HU.out]
      have D4 := Lib.hid (HD.out.below hb)
      have J4 : Hid (Jl w4 g d 63 m true) := Lib.hid (Laid.below HJ.out hb)
      have X4 := Lib.hid (HX.out.below hb)
      have P4 := Lib.hid (HP.out.keeps (A2 := A) (Keeps.of_below_size hb : Keeps (fun _ => False) wr w4) (fun k h => h.elim) (fun k _ h => h) (fun k h => .inl h))
      have B4 := Lib.hid (HB.out.trans (hb.mono HB.out.size))
      have S4 := Lib.hid (Nat.le_trans HS.out hb.size)
      have hcy4 := HCY.out w4 X4.out
      clear hb HD HJ HX HP HB HS hcy
      go_wp2_with fail
      refine (devFrame_any (m : Int) (.slice ya x.length yc) x w4 (by omega) (HRY.out w4 X4.out).1 HY.out.1.2 (HRY.out w4 X4.out).2 (by have := HY.out.1.1; omega)).mono ?_
      rintro e w5 ⟨fv, rfl, hfv, hb⟩
      obtain ⟨fa, fc, rfl, _⟩ := fresh_elems hfv
      rw [natI_length, HZ.out]
      have D5 := Lib.hid (D4.out.below hb)
      have J5 : Hid (Jl w5 g d 63 m true) := Lib.hid (Laid.below J4.out hb)
      have X5 := Lib.hid (X4.out.below hb)
      have P5 := Lib.hid (P4.out.keeps (A2 := A) (Keeps.of_below_size hb : Keeps (fun _ => False) w4 w5) (fun k h => h.elim) (fun k _ h => h) (fun k h => .inl h))
      have B5 := Lib.hid (B4.out.trans (hb.mono B4.out.size))
      have S5 := Lib.hid (Nat.le_trans S4.out hb.size)
      have hcy5 := HCY.out w5 X5.out
      clear hfv hb D4 J4 X4 P4 B4 S4 hcy4
      go_wp2_with fail
      refine (logAppend_any (g := ⟨m, true⟩) D5.out B5.out.size J5.out HG.out.2.1 HG.out.2.2.1 (by show m ≤ 1000000; omega) (HRY.out w5 X5.out).1 HY.out.1.2 (HRY.out w5 X5.out).2 (by have := HY.out.1.1; omega)).mono ?_
      rintro e w6 ⟨rfl, A6, ha⟩
      have hpl : pLog q (stF 63 ys) 63 ⟨m, true⟩ x = pLog q (stF 63 ys) 63 ⟨ys.length, true⟩ x := by rw [HYL.out]
      have G6 : Hid (Gap w2.heap.size w3.heap.size A6 ∧ ¬ A6 g ∧ w.heap.size ≤ g ∧ g < w2.heap.size) := Lib.hid ⟨gap_up HG.out.1 ha.foot S5.out, ha.far, HG.out.2.2⟩
      have X6 := Lib.hid (X5.out.keeps ha.keeps (fun k hk => hk.elim (HG.out.1 k) (fun h => .inl (by rw [h]; exact HG.out.2.2.2))))
      have P6 := Lib.hid (P5.out.keeps (A2 := A6) ha.keeps (fun k hk => hk.elim (HG.out.1 k) (fun h => .inl (by rw [h]; exact HG.out.2.2.2))) (fun k h1 h2 => h2.elim (P5.out.far k h1) (fun h => by have := (P5.out.own.own.lt k h1).1; have := HG.out.2.2.2; have := SZ.out; omega)) ha.foot)
      have B6 := Lib.hid (B5.out.trans ha.below)
      have S6 := Lib.hid (Nat.le_trans S5.out ha.keeps.size)
      have hcy6 := HCY.out w6 X6.out
      by_cases hfit : f + z ≤ q
      · have HFO := Lib.hid (full_ok (room := q) (ys := ys) (x := x) (by have := HY.out.1.1; omega) (by rw [HYL.out, HF.out, HZ.out]; exact hfit))
        obtain ⟨k1, k2, k3, k4⟩ := HFO.out
        rw [← hpl] at k1 k2 k3
        rw [k1]
        have D6 : Hid (Dsk w.heap.size w6 A6 d q (stF 63 (ys ++ [x]))) := Lib.hid (by rw [← k2]; exact ha.dk)
        have J6 : Hid (Jl w6 g d 63 (m + 1) true) := Lib.hid (by have := ha.lg; rw [k3, List.length_append, HYL.out] at this; exact this)
        have hnf : ¬ q < f + z := by omega
        clear k1 k2 k3 k4 hpl ha hfit D5 J5 X5 P5 B5 S5 hcy5 HU
        go_wp2_with fail
        refine (usedS_any D6.out.dk).mono ?_
        rintro e w7 ⟨rfl, hb⟩
        have k4 := HFO.out.2.2.2
        rw [HYL.out, HF.out, HZ.out] at k4
        rw [k4]
        clear k4
        have D7 := Lib.hid (D6.out.below hb)
        have J7 : Hid (Jl w7 g d 63 (m + 1) true) := Lib.hid (Laid.below J6.out hb)
        have X7 := Lib.hid (X6.out.below hb)
        have P7 := Lib.hid (P6.out.keeps (A2 := A6) (Keeps.of_below_size hb : Keeps (fun _ => False) w6 w7) (fun k h => h.elim) (fun k _ h => h) (fun k h => .inl h))
        have B7 := Lib.hid (B6.out.trans (hb.mono B6.out.size))
        have S7 := Lib.hid (Nat.le_trans S6.out hb.size)
        have hcy7 := HCY.out w7 X7.out
        have hba : Below w7.heap.size w7 (w7.alloc (.cells #[.slice ya x.length yc] 23)) := (Below.refl _ w7).alloc (Nat.le_refl _) _
        have D8 := Lib.hid (D7.out.below hba)
        have J8 : Hid (Jl (w7.alloc (.cells #[.slice ya x.length yc] 23)) g d 63 (m + 1) true) := Lib.hid (Laid.below J7.out hba)
        have X8 := Lib.hid (X7.out.below hba)
        have P8 := Lib.hid (P7.out.keeps (A2 := A6) (Keeps.of_below_size hba : Keeps (fun _ => False) w7 _) (fun k h => h.elim) (fun k _ h => h) (fun k h => .inl h))
        have B8 := Lib.hid (B7.out.trans (hba.mono B7.out.size))
        have S8 : Hid ((w7.alloc (.cells #[.slice ya x.length yc] 23)).heap.size = w7.heap.size + 1) := Lib.hid (by simp)
        have HOW : Hid ((w7.alloc (.cells #[.slice ya x.length yc] 23)).ownsRow w3.heap.size 23 1 (.slice ka m kc) m ks) := by
          have := P8.out.own.own
          rw [HKL.out] at this
          exact Lib.hid this
        have h37 : w3.heap.size ≤ w7.heap.size := S7.out
        clear hb hba D6 J6 X6 P6 B6 S6 D7 J7 X7 P7 B7 hcy6
        go_wp2_with (at_builtin; go_must (refine wpList_append_own_at _ rfl _ _ 27 rfl w3.heap.size 23 i0 (.slice none 0 0) 1 24 Try.underlying27 hi0 hz0 hz1 hz2 rfl (by decide) (.slice ka m kc) m ks rfl HOW.out ⟨w7.heap.size, 0, none⟩ 1 1 [.slice ya x.length yc] rfl rfl (cell_one_new _ _ _) (by simp [Value.oneCell']) (by unfold maxLen; omega) (by omega) (by simp; omega) ?_); intro u9 w9 hown9 hgrow9 _ hat9; obtain ⟨g9, cap9, rfl⟩ := own_shape hown9 (by omega); have HO9 := Lib.hid (And.intro hown9 (And.intro hgrow9 hat9)); clear hown9 hgrow9 hat9)
        obtain ⟨hown9, hgrow9, hat9⟩ := HO9.out
        have hk9 : Keeps (fun k => Value.ownBlock (.slice ka m kc) = some k) (w7.alloc (.cells #[.slice ya x.length yc] 23)) w9 := Keeps.of_grown hgrow9 (fun k h => h)
        have hol : ∀ k, Value.ownBlock (.slice ka m kc) = some k → w3.heap.size ≤ k := fun k hk => (P8.out.own.own.lt k hk).1
        have D9 := Lib.hid (D8.out.other hk9 (fun k h1 h2 => P8.out.far k h2 h1))
        have J9 : Hid (Jl w9 g d 63 (m + 1) true) := Lib.hid (Laid.keeps J8.out hk9 (fun h => by have := hol g h; have := G6.out.2.2.2; have := SZ.out; omega))
        have X9 := Lib.hid (X8.out.keeps hk9 (fun k h => .inr (hol k h)))
        have B9 := Lib.hid (B8.out.trans (hk9.below (B := w.heap.size) B8.out.size (fun k h => by have := hol k h; have := SZ.out; have := G6.out.2.2.1; have := G6.out.2.2.2; omega)))
        have S9 : Hid (w3.heap.size ≤ w9.heap.size) := Lib.hid (by have := hk9.size; have := S8.out; omega)
        have hrow := HRY.out _ X8.out
        have hel := HY.out.2
        have hne : ∀ k, blockOf (.slice ya x.length yc) k → Value.ownBlock (.slice ka m kc) ≠ some k := fun k hk e => by have := hol k e; have := (hel k hk).2; omega
        rw [← HKL.out] at hown9
        have hl9 := lown_snoc P8.out.own hrow.1 (fun k hk => ⟨hrow.2 k hk, hne k hk⟩) hown9 hgrow9 hat9
        have P9 : Hid (KpIs w2.heap.size w3.heap.size A6 w9 (.slice (some ⟨g9, 0, none⟩) (m + 1) cap9) (ks ++ [.slice ya x.length yc]) (ys ++ [x])) := by
          rw [HKL.out] at hl9
          refine Lib.hid ⟨hl9, fun k hk hA => ?_, fun y hy => ?_, ?_, fun x2 hx2 => ?_⟩
          · rcases hat9 with h | h
            · exact P8.out.far k (by rw [← h]; exact hk) hA
            · have e := h.symm.trans hk
              injection e with e
              have := D8.out.hi k hA
              omega
          · rcases List.mem_append.1 hy with h | h
            · exact P8.out.els y h
            · rw [List.mem_singleton.1 h]; exact hel
          · rw [List.length_append, HYL.out, List.length_singleton]; omega
          · rcases List.mem_append.1 hx2 with h | h
            · exact P8.out.short.2 x2 h
            · rw [List.mem_singleton.1 h]; exact HY.out.1
        have K9 := Lib.hid (show (ks ++ [Value.slice ya x.length yc]).length = m + 1 by rw [List.length_append, HKL.out]; rfl)
        have Y9 := Lib.hid (show (ys ++ [x]).length = m + 1 by rw [List.length_append, HYL.out]; rfl)
        clear hown9 hgrow9 hat9 hk9 hol hrow hel hne hl9 HO9 D8 J8 X8 P8 B8 S8 HOW h37 HCY HRY hcy7
        go_wp2_with fail
        refine (len_any J9.out).mono ?_
        rintro e w10 ⟨rfl, rfl⟩
        go_wp2_with fail
        refine (up_any J9.out).mono ?_
        rintro e w11 ⟨rfl, rfl⟩
        go_wp2_with fail
        exact ⟨⟨i + 1, m + 1, A6, _, _, _, _, by rw [Int.natCast_add]; rfl, rfl, by omega, by omega, K9, Y9, D9, J9, G6, X9, P9, B9, S9⟩, by simp only [intOf]; omega⟩
      · obtain ⟨k1, k2, k3⟩ := full_no (room := q) (ys := ys) (x := x) (by have := HY.out.1.1; omega) (by rw [HYL.out, HF.out, HZ.out]; exact hfit)
        rw [← hpl] at k1 k2 k3
        rw [k1]
        have D6 : Hid (Dsk w.heap.size w6 A6 d q (stF 63 ys)) := Lib.hid (by rw [← k2]; exact ha.dk)
        have J6 : Hid (Jl w6 g d 63 m true) := Lib.hid (by have := ha.lg; rw [k3, HYL.out] at this; exact this)
        have hnf : q < f + z := by omega
        clear k1 k2 k3 hpl ha hfit D5 J5 X5 P5 B5 S5 hcy5 hcy6 HU
        go_wp2_with fail
        refine (usedS_any D6.out.dk).mono ?_
        rintro e w7 ⟨rfl, hb⟩
        rw [stF_used (by decide), HF.out]
        have D7 := Lib.hid (D6.out.below hb)
        have J7 : Hid (Jl w7 g d 63 m true) := Lib.hid (Laid.below J6.out hb)
        have X7 := Lib.hid (X6.out.below hb)
        have P7 := Lib.hid (P6.out.keeps (A2 := A6) (Keeps.of_below_size hb : Keeps (fun _ => False) w6 w7) (fun k h => h.elim) (fun k _ h => h) (fun k h => .inl h))
        have B7 := Lib.hid (B6.out.trans (hb.mono B6.out.size))
        have S7 := Lib.hid (Nat.le_trans S6.out hb.size)
        clear hb D6 J6 X6 P6 B6 S6
        go_wp2_with fail
        refine (len_any J7.out).mono ?_
        rintro e w8 ⟨rfl, rfl⟩
        go_wp2_with fail
        refine (up_any J7.out).mono ?_
        rintro e w9 ⟨rfl, rfl⟩
        go_wp2_with fail
        exact ⟨⟨i + 1, m, A6, ka, kc, ks, ys, by rw [Int.natCast_add]; rfl, rfl, by omega, by omega, HKL, HYL, D7, J7, G6, X7, P7, B7, S7⟩, by simp only [intOf]; omega⟩
    · have hie : i = us.length := by omega
      subst hie
      clear hlt hi
      obtain ⟨fo1, fo2⟩ := full_open (ys := ys) (fun x hx => by have := (HP.out.short.2 x hx).1; omega) (by have := HP.out.short.1; omega)
      have HF1 : Hid ((pOpen (stF 63 ys) 63).1 = 0) := Lib.hid fo1
      have HF2 : Hid ((pOpen (stF 63 ys) 63).2.2 = ys) := Lib.hid fo2
      clear fo1 fo2
      go_wp2_with fail
      refine (open_any HD.out HB.out.size 63 (by omega)).mono ?_
      rintro e w13 ⟨A13, lv2, rv2, us3, rfl, ho⟩
      rw [HF1.out]
      have hol := ho.own
      rw [HF2.out] at hol
      have D13 := Lib.hid ho.dk
      have J13 : Hid (Jl w13 g d 63 m true) := Lib.hid (Laid.keeps HJ.out ho.keeps HG.out.2.1)
      have P13 := Lib.hid (HP.out.keeps (A2 := A13) ho.keeps HG.out.1 HP.out.far ho.foot)
      have L13 := Lib.hid (And.intro hol (And.intro ho.far ho.els))
      have B13 := Lib.hid (HB.out.trans ho.below)
      have G13 : Hid (Gap w2.heap.size w3.heap.size A13 ∧ ¬ A13 g) := Lib.hid ⟨gap_up HG.out.1 ho.foot HS.out, fun hA => (ho.foot g hA).elim HG.out.2.1 (fun h => by have := HG.out.2.2.2; have := SZ.out; have := HS.out; omega)⟩
      generalize (pOpen (stF 63 ys) 63).2.1 = s13 at *
      clear ho hol HD HJ HX HP HB HF1 HF2
      go_wp2_with fail
      refine (openNil_any 0 w13).mono ?_
      rintro e w14 ⟨rfl, rfl⟩
      go_wp2_with fail
      have hop := open_any D13.out B13.out.size 64 (by omega)
      rw [open_bad (by decide)] at hop
      refine hop.mono ?_
      rintro e w15 ⟨A15, lv3, rv3, us4, rfl, ho⟩
      have D15 : Hid (Dsk w.heap.size w15 A15 d q s13) := Lib.hid ho.dk
      have J15 : Hid (Jl w15 g d 63 m true) := Lib.hid (Laid.keeps J13.out ho.keeps G13.out.2)
      have P15 := Lib.hid (P13.out.keeps (A2 := A15) ho.keeps G13.out.1 P13.out.far ho.foot)
      have L15 := Lib.hid (lown_foot L13.out.1 ho.keeps L13.out.2.1 (fun y hy k hk => (L13.out.2.2 y hy k hk).1))
      have B15 := Lib.hid (B13.out.trans ho.below)
      have N15 : Hid (¬ A15 g ∧ w.heap.size ≤ g) := Lib.hid ⟨fun hA => (ho.foot g hA).elim G13.out.2 (fun h => by have := J13.out.lt; omega), HG.out.2.2.1⟩
      clear hop ho D13 J13 P13 L13 B13 G13
      go_wp2_with fail
      refine (sameLists_any _ _ us3 ks ys ys w15 (lrow_of_own L15.out) (lrow_of_own P15.out.own) (fun x hx => by have := (P15.out.short.2 x hx).1; omega) (fun x hx => by have := (P15.out.short.2 x hx).1; omega) (by rw [L15.out.len, HYL.out]; omega) (by rw [HKL.out]; omega)).mono ?_
      rintro e w16 ⟨rfl, hb⟩
      rw [decide_eq_true rfl]
      have D16 := Lib.hid (D15.out.below hb)
      have J16 : Hid (Jl w16 g d 63 m true) := Lib.hid (Laid.below J15.out hb)
      have B16 := Lib.hid (B15.out.trans (hb.mono B15.out.size))
      clear hb D15 J15 P15 L15 B15
      obtain ⟨w17, hrun, hr17, hg17⟩ := run_make_full (P := Try.prog) w16 0 23 5 j0 (.int .u8 0) 1 Try.underlying23 hj0 hy0 hy1 .i64 .i64 65537 (by rw [hy2]; decide) (by unfold maxLen; decide) (Nat.zero_le _)
      have hms : (Instr.makeSlice 23 (.int .i64 65537) (.int .i64 65537)).run Try.prog w16 = .ok (.slice (some ⟨w16.heap.size, 0, none⟩) 65537 65537) w17 := hrun
      have hfz : Fresh 0 5 .u8 w17 (.slice (some ⟨w16.heap.size, 0, none⟩) 65537 65537) (natI (List.replicate 65537 0)) := by
        have e : natI (List.replicate 65537 0) = List.replicate 65537 (0 : Int) := by unfold natI; rw [List.map_replicate]; rfl
        unfold Fresh
        rw [e, List.length_replicate, ← made_zero]
        exact hr17
      have hb17 : Below w16.heap.size w16 w17 := (Below.refl _ w16).grown hg17 (Nat.le_refl _) (fun k h => by cases h)
      have D17 := Lib.hid (D16.out.below hb17)
      have J17 : Hid (Jl w17 g d 63 m true) := Lib.hid (Laid.below J16.out hb17)
      have B17 := Lib.hid (B16.out.trans (hb17.mono B16.out.size))
      have Z17 := Lib.hid (And.intro (row_of_fresh hfz) (fresh_block hfz))
      have ZL : Hid ((List.replicate 65537 (0 : Nat)).length = 65537) := Lib.hid (by rw [List.length_replicate])
      have Z8 : Hid (∀ c ∈ List.replicate 65537 (0 : Nat), c < 256) := Lib.hid (fun c hc => by rw [List.eq_of_mem_replicate hc]; decide)
      clear hrun hr17 hg17 hfz hb17 D16 J16 B16
      generalize List.replicate 65537 (0 : Nat) = zz at *
      go_wp2_with fail
      refine (logAppend_any (g := ⟨m, true⟩) (bs := zz) D17.out B17.out.size J17.out N15.out.1 N15.out.2 (by show m ≤ 1000000; omega) Z17.out.1 Z8.out Z17.out.2 (by rw [ZL.out]; decide)).mono ?_
      rw [log_long (by rw [ZL.out]; decide)]
      rintro e w18 ⟨rfl, A18, ha⟩
      have B18 := Lib.hid (B17.out.trans ha.below)
      clear ha D17 J17 B17 Z17
      go_wp2_with fail
      refine (lives6_any w18).mono ?_
      rintro e wl ⟨rfl, hb⟩
      have BL := Lib.hid (B18.out.trans (hb.mono B18.out.size))
      clear hb
      go_wp2_with fail
      go_ret
      exact ⟨rfl, BL.out⟩
end Go.Proofs.Ytjapbopdpohebaa
