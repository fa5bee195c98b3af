/-
  The law WideTexts. (tools/genLwwD.py makes this text.)
-/
import Derived.Test.YtldbhlafijjkdaaDoorCmr
import Derived.Test.YtldbhlafijjkdaaDoorNra
import Derived.Test.YtldbhlafijjkdaaDoorNfi
import Derived.Test.YtldbhlafijjkdaaDoorNps
import Derived.Deep.DeepCutAuto
import Derived.Laws.BytesString
namespace Go.Proofs.YtldbhlafijjkdaaDoor
open Go.RowKit Go.Shelf
set_option linter.unusedVariables false
set_option maxRecDepth 100000

theorem conv_one (cn : Nat) : ∃ C : ByteArray, C.size ≤ 1 ∧ ∀ W : World, (convert 29 9 (.slice (some ⟨W.heap.size, 0, none⟩) 1 1)).run Tryd.prog (W.alloc (.cells #[.int .u8 (cn : Int)] 5)).drew = .ok (.string C) (W.alloc (.cells #[.int .u8 (cn : Int)] 5)).drew := by
  refine ⟨strOfNums [(cn : Int)], by simp [strOfNums, ByteArray.size], fun W => ?_⟩
  have h := row_of_fresh (fresh_lit W W.heap.size 5 .u8 [(cn : Int)] (Nat.le_refl _) (by simp))
  exact conv_string (row_keeps h (Below.refl _ _).drew)
/-- A slice of strings. -/
def SRow (W : World) (b : Nat) (ss : List ByteArray) : Prop := b < W.heap.size ∧ ∀ k s, ss[k]? = some s → W.cell? ⟨b, k, none⟩ = some (.string s)
theorem srow_keeps {W W2 : World} {b : Nat} {ss : List ByteArray} (h : SRow W b ss) (hb : Below W.heap.size W W2) : SRow W2 b ss :=
  ⟨Nat.lt_of_lt_of_le h.1 hb.size, fun k s hs => (hb.cell (p := ⟨b, k, none⟩) h.1).trans (h.2 k s hs)⟩
theorem srow_five (W : World) (o : Obj) (s0 s1 s2 s3 s4 : ByteArray) : SRow ((W.alloc o).alloc (.cells #[.string s0, .string s1, .string s2, .string s3, .string s4] 9)).drew (W.heap.size + 1) [s0, s1, s2, s3, s4] := by
  have hl := Laid.new (W.alloc o) 9 [.string s0, .string s1, .string s2, .string s3, .string s4]
  rw [size_alloc1] at hl
  have hs : SRow ((W.alloc o).alloc (.cells #[.string s0, .string s1, .string s2, .string s3, .string s4] 9)) (W.heap.size + 1) [s0, s1, s2, s3, s4] := by
    refine ⟨hl.lt, fun k s hs => ?_⟩
    match k, hs with
    | 0, hs => cases hs; exact hl.cell 0
    | 1, hs => cases hs; exact hl.cell 1
    | 2, hs => cases hs; exact hl.cell 2
    | 3, hs => cases hs; exact hl.cell 3
    | 4, hs => cases hs; exact hl.cell 4
  exact srow_keeps hs (Below.refl _ _).drew
theorem txt_rng {S0 T P C Q : ByteArray} (h0 : S0.size ≤ 30) (h1 : T.size ≤ 100) (h2 : P.size ≤ 100) (h3 : C.size ≤ 1) (h4 : Q.size ≤ 100) : ∀ k, k < 5 → ∃ s, [S0, T, P ++ C ++ Q, P, T ++ T][k]? = some s ∧ s.size ≤ 300 := by
  intro k hk
  match k, hk with
  | 0, _ => exact ⟨_, rfl, by omega⟩
  | 1, _ => exact ⟨_, rfl, by omega⟩
  | 2, _ => exact ⟨_, rfl, by rw [ByteArray.size_append, ByteArray.size_append]; omega⟩
  | 3, _ => exact ⟨_, rfl, by omega⟩
  | 4, _ => exact ⟨_, rfl, by rw [ByteArray.size_append]; omega⟩
theorem ten_two {k m : Nat} (hk : k = 300) (hm : m = 1000) : 10 ^ k ≤ 2 ^ m := by subst hk; subst hm; decide +kernel
theorem small_txt {n : Int} (h : (txtN n).length ≤ 300) : Small n := by
  obtain ⟨k, hk⟩ : ∃ k, k = 300 := ⟨_, rfl⟩
  obtain ⟨m, hm⟩ : ∃ m, m = 1000 := ⟨_, rfl⟩
  have h1 : (decN n.natAbs).length ≤ k := by
    rcases txt_good n with ⟨_, h5, _⟩ | ⟨_, h5, _⟩
    · rw [h5, List.length_cons] at h; omega
    · rw [h5] at h; omega
  have h2 := vT_lt (decN_digit n.natAbs)
  rw [vT_decN] at h2
  have h3 : 10 ^ (decN n.natAbs).length ≤ 10 ^ k := Nat.pow_le_pow_right (by decide) h1
  exact small_of (K := m) (Nat.le_trans (Nat.le_of_lt (Nat.lt_of_lt_of_le h2 h3)) (ten_two hk hm)) (by omega)
theorem nParse_bad (s : ByteArray) (w : World) (h : ∀ n, strB s ≠ txtN n) (hs : s.size ≤ 5000) : Calls Tryd.prog 13 #[.string s] w (BadEnd w) := by
  refine (nParse_full s w hs).mono fun e w' h2 => ?_
  rcases h2 with ⟨_, h3⟩ | ⟨n, h3, _⟩
  · exact h3
  · exact absurd h3 (h n)
theorem nrend_small2 {W : World} {x : Value} {z c : Int} (h : (¬ big z ∧ c = 0 ∧ NAt W x z) ∨ (big z ∧ c = 4 ∧ x = .agg #[.bool false, .slice none 0 0])) (hb : ¬ big z) : c = 0 ∧ NAt W x z := by
  rcases h with ⟨_, h1, h2⟩ | ⟨h, _⟩
  · exact ⟨h1, h2⟩
  · exact absurd h hb
theorem text_size {z : Int} (h : z.natAbs ≤ 2 ^ 240) : 1 ≤ (txtS z).size ∧ (txtS z).size ≤ 100 := by
  have h0 : (txtS z).size = (txtN z).length := by rw [← strB_length, strB_txt]
  have h2 : z.natAbs < 10 ^ 80 := Nat.lt_of_le_of_lt h (by decide)
  have h3 := txtN_len h2 (by decide)
  have h4 : txtN z ≠ [] := fun e => by
    rcases txt_good z with ⟨_, h5, _⟩ | ⟨_, h5, _⟩
    · rw [h5] at e; cases e
    · rw [h5] at e; exact decN_ne _ e
  have h5 := List.length_pos_iff.2 h4
  omega

set_option maxHeartbeats 8000000 in
theorem walk_WideTexts (s : ByteArray) (v : Value) (l : List Int) (n : Int) (c : Int) (w : World) (hs : s.size ≤ maxLen) (hv : Row .i64 w v l) (hr : ∀ n ∈ l, -9223372036854775808 ≤ n ∧ n ≤ 9223372036854775807) (hn : -9223372036854775808 ≤ n ∧ n ≤ 9223372036854775807) (hc : 0 ≤ c ∧ c ≤ 255) :
    Calls Tryd.prog 3 #[.string s, v, .int .i64 n, .int .u8 c] w fun e w' => e = .returned (.bool true) ∧ Below w.heap.size w w' := by
  obtain ⟨pv, cv, rfl, hcv, hcvm⟩ := (show ∃ p c, v = .slice p l.length c ∧ l.length ≤ c ∧ c ≤ 9223372036854775807 by obtain ⟨p, c, e, h1, h2, _⟩ := hv; exact ⟨p, c, e, h1, h2⟩)
  have HL := Lib.hid hv
  have HR := Lib.hid hr
  have HN := Lib.hid hn
  have HSS := Lib.hid hs
  have HB : Hid (Below w.heap.size w w) := Lib.hid (Below.refl _ _)
  obtain ⟨cn, rfl⟩ : ∃ cn : Nat, c = (cn : Int) := ⟨c.toNat, by omega⟩
  have hcn : cn < 256 := by omega
  clear hv hr hs hc
  generalize hll : l.length = ll at *
  clear hll
  go_enter Tryd.func3, Tryd.ntmps3
  go_wp2_with fail
  have C0 := number_ref _ l 0 w HL.out HR.out (by decide)
  unfold NumEnd at C0
  unfold NEnd at C0
  have HC0 := Lib.hid C0
  clear C0
  go_must (refine HC0.out.mono ?_)
  rintro e w0 ⟨zA, hzA, y0, rfl, hx0, hb0⟩
  have HZA := Lib.hid hzA
  clear hzA
  have HNA := Lib.hid hx0
  have hbb := hb0
  have U := Lib.hid (row_keeps HL.out hbb)
  clear HL
  have HL := U
  clear U
  have U := Lib.hid (below_then HB.out hbb)
  clear HB
  have HB := U
  clear U
  clear HC0 hb0 hbb hx0
  go_wp2_with fail
  have C1 := text_any _ zA w0 HNA.out (by have := (small_of HZA.out (by decide)).digs; omega)
  unfold TxtEnd at C1
  have HC1 := Lib.hid C1
  clear C1
  go_must (refine HC1.out.mono ?_)
  rintro e w1 ⟨rfl, hb1⟩
  have hbb := hb1
  have U := Lib.hid (row_keeps HL.out hbb)
  clear HL
  have HL := U
  clear U
  have U := Lib.hid (below_then HB.out hbb)
  clear HB
  have HB := U
  clear U
  clear HC1 hb1 hbb 
  go_wp2_with fail
  have HTS := Lib.hid (text_size HZA.out)
  generalize txtS zA = T at *
  have hT1 : 1 ≤ T.size := HTS.out.1
  have hT2 : T.size ≤ 100 := HTS.out.2
  have HAR := Lib.hid (around_nat n T.size w1 HN.out hT1 (by omega))
  unfold AroundEnd at HAR
  go_must (refine HAR.out.mono ?_)
  rintro e wA ⟨k, hk, rfl, rfl⟩
  clear HAR HNA HZA HL HR HN
  go_wp2_with fail
  have SH : Hid (∀ w', Calls Tryd.prog 11 #[.string s, .int .i64 30] w' (CutTo 30 w')) := Lib.hid (fun w' => short_any s 30 w' HSS.out (by decide))
  unfold CutTo at SH
  have hk1 : IntKind.i64.wrap ((k : Int) + 1) = (k : Int) + 1 := by rw [wrap_i64]; unfold wrap64; omega
  have hk2 : (0 : Int) ≤ (k : Int) + 1 := by omega
  have hk3 : ((k : Int) + 1).toNat = k + 1 := by omega
  have HB1 := Lib.hid (Below.refl w1.heap.size w1).drew
  obtain ⟨C, hC, kc⟩ := conv_one cn
  obtain ⟨P, hP⟩ : ∃ P, T.extract 0 k = P := ⟨_, rfl⟩
  obtain ⟨Q, hQ⟩ : ∃ Q, T.extract (k + 1) T.size = Q := ⟨_, rfl⟩
  have hP1 : P.size ≤ 100 := by rw [← hP, ByteArray.size_extract]; omega
  have hQ1 : Q.size ≤ 100 := by rw [← hQ, ByteArray.size_extract]; omega
  have hk4 : (0 : Int) ≤ (k : Int) := by omega
  have hk5 : (k : Int) ≤ (T.size : Int) := by omega
  have hk6 : (k : Int) + 1 ≤ (T.size : Int) := by omega
  have hk7 : k + 1 ≤ T.size := by omega
  have hTT : ¬ 9223372036854775807 < T.size + T.size := by omega
  have hPC : ¬ 9223372036854775807 < P.size + C.size := by omega
  have hPCQ : ¬ 9223372036854775807 < P.size + C.size + Q.size := by omega
  have hPCQ2 : ¬ 9223372036854775807 < (P ++ C).size + Q.size := by rw [ByteArray.size_append]; omega
  have HC1 := Lib.hid hC
  have HP1 := Lib.hid hP1
  have HQ1 := Lib.hid hQ1
  go_cut [11] (fun s11 wx => ∃ (t : Nat) (S0 : ByteArray), s11 = .slice (some ⟨t, 0, none⟩) 5 5 ∧ Hid (S0.size ≤ 30) ∧ Hid (SRow wx t [S0, T, P ++ C ++ Q, P, T ++ T]) ∧ Hid (Below w1.heap.size w1 wx))
  case first =>
    go_region_with (first
      | (go_at_call 11; refine (SH.out _).mono ?_; rintro e w9 ⟨S0, rfl, hS0, rfl⟩; have HS0 := Lib.hid hS0; clear hS0))
    all_goals
      go_wp2_with fail
      go_meet
      exact ⟨_, S0, rfl, HS0, Lib.hid (srow_five _ _ _ _ _ _ _), Lib.hid (below_then (below_one _ _) (below_one _ _)).drew⟩
  obtain ⟨t7, S0, rfl, HS0, HSR, HBx⟩ := hcut
  have HRNG := Lib.hid (txt_rng HS0.out hT2 HP1.out HC1.out HQ1.out)
  have HBN := Lib.hid (below_then HB.out HBx.out)
  clear HB HBx SH kc hk1 hk2 hk3 hk4 hk5 hk6 hk7 hTT hPC hPCQ hPCQ2 hP hQ hP1 hQ1 hC HC1 HP1 HQ1 HS0 HB1
  have HB := HBN
  clear HBN
  generalize hss : [S0, T, P ++ C ++ Q, P, T ++ T] = ss at *
  clear hss
  go_wp2_with fail
  go_loopw [12, 13, 14, 15, 16] (fun iv _ _ _ _ wr => ∃ j : Nat, iv = .int .i64 (j : Int) ∧ j ≤ 5 ∧ Hid (SRow wr t7 ss) ∧ Hid (Below w.heap.size w wr)) (fun iv _ _ _ _ _ => (5 - intOf iv).toNat)
  case atStart => exact ⟨0, rfl, by decide, HSR, HB⟩
  case round =>
    clear HSR HB
    obtain ⟨j, rfl, hj5, HSR, HB⟩ := hrel
    rcases Nat.lt_or_ge j 5 with hlt | hge
    · obtain ⟨S, hz, hzl⟩ := HRNG.out j hlt
      have HZL := Lib.hid hzl
      have HZS := Lib.hid hz
      have hlti : (j : Int) < 5 := by omega
      have cS := HSR.out.2 j S hz
      clear hz hzl
      rcases Classical.em (∃ n, strB S = txtN n) with hg | hb
      · obtain ⟨nz, hnz⟩ := hg
        obtain rfl : S = txtS nz := strB_inj (by rw [hnz, strB_txt])
        have HTL : Hid ((txtN nz).length ≤ 300) := Lib.hid (by have := HZL.out; rw [← strB_length, strB_txt] at this; exact this)
        have HSM := Lib.hid (small_txt HTL.out)
        clear hnz
        go_wp2_with fail
        clear cS
        have C2 := wParse_txt nz wr (by have := HTL.out; omega)
        have HC2 := Lib.hid C2
        clear C2
        go_must (refine HC2.out.mono ?_)
        rintro e w2 hw2
        obtain ⟨b2, p2, n2, q2, e2, rfl, hy2, hb2⟩ := rend_form hw2
        obtain ⟨rfl, hx2⟩ : e2 = 0 ∧ IAt w2 (.agg #[.bool b2, .slice p2 n2 q2]) (nz) := by
          rcases hy2 with ⟨_, h1, h2⟩ | ⟨h, _⟩
          · exact ⟨h1, h2⟩
          · exact absurd h HSM.out.notBig
        have hbb := below_then hb2 (below_one w2 (.cells #[.bool b2, .slice p2 n2 q2] 33))
        clear hw2 hy2
        have U := Lib.hid (srow_keeps HSR.out hbb)
        clear HSR
        have HSR := U
        clear U
        have U := Lib.hid (below_then HB.out hbb)
        clear HB
        have HB := U
        clear U
        have TX := Lib.hid (IBox.new hx2)
        clear HC2 hb2 hbb hx2
        have cS2 := HSR.out.2 j (txtS nz) HZS.out
        go_wp2_with fail
        generalize w2.alloc (.cells #[.bool b2, .slice p2 n2 q2] 33) = W2 at *
        generalize w2.heap.size = t2 at *
        clear cS2
        have C3 := nParse_txt nz W2 (by have := HTL.out; omega)
        unfold NREnd at C3
        have HC3 := Lib.hid C3
        clear C3
        go_must (refine HC3.out.mono ?_)
        rintro e w3 ⟨x3, e3, rfl, hy3, hb3⟩
        obtain ⟨rfl, hx3⟩ := nrend_small2 hy3 HSM.out.notBig
        obtain ⟨b3, p3, n3, q3, rfl⟩ := nat_shape hx3
        have hbb := below_then hb3 (below_one w3 (.cells #[.bool b3, .slice p3 n3 q3] 25))
        clear hy3
        have U := Lib.hid (TX.out.below hbb)
        clear TX
        have TX := U
        clear U
        have U := Lib.hid (srow_keeps HSR.out hbb)
        clear HSR
        have HSR := U
        clear U
        have U := Lib.hid (below_then HB.out hbb)
        clear HB
        have HB := U
        clear U
        have TA := Lib.hid (NBox.new hx3)
        clear HC3 hb3 hbb hx3
        go_wp2_with fail
        generalize w3.alloc (.cells #[.bool b3, .slice p3 n3 q3] 25) = W3 at *
        generalize w3.heap.size = t3 at *
        obtain ⟨sXE, aXE, mXE, kXE, lXE, hXE⟩ := TX.out
        have GX := Lib.hid hXE
        have LX := Lib.hid lXE
        clear hXE lXE
        obtain ⟨sAE, aAE, mAE, kAE, lAE, hAE⟩ := TA.out
        have GA := Lib.hid hAE
        have LA := Lib.hid lAE
        clear hAE lAE
        have CELLS : Hid (∀ X : World, Below W3.heap.size W3 X → X.cell? ⟨t2, 0, none⟩ = some (.bool sXE) ∧ X.cell? ⟨t2, 1, none⟩ = some (.slice aXE mXE kXE) ∧ X.cell? ⟨t3, 0, none⟩ = some (.bool sAE) ∧ X.cell? ⟨t3, 1, none⟩ = some (.slice aAE mAE kAE)) := Lib.hid (fun X h => by
          obtain ⟨eX0, eX1, _, _⟩ := cells2 (LX.out.below h)
          obtain ⟨eA0, eA1, _, _⟩ := cells2 (LA.out.below h)
          exact ⟨eX0, eX1, eA0, eA1⟩)
        have HW0 := HB
        clear HB
        have HB : Hid (Below W3.heap.size W3 W3.drew) := Lib.hid (Below.refl _ _).drew
        have CELLS2 : Hid (∀ X : World, Below W3.heap.size W3 X → X.cell? ⟨t2, 0, none⟩ = some (.bool sXE) ∧ X.cell? ⟨t2, 1, none⟩ = some (.slice aXE mXE kXE) ∧ X.cell? ⟨t3, 0, none⟩ = some (.bool sAE) ∧ X.cell? ⟨t3, 1, none⟩ = some (.slice aAE mAE kAE) ∧ X.cell? ⟨t7, j, none⟩ = some (.string (txtS nz))) := Lib.hid (fun X h => by
          obtain ⟨e0, e1, e2, e3⟩ := CELLS.out X h
          exact ⟨e0, e1, e2, e3, (srow_keeps HSR.out h).2 j _ HZS.out⟩)
        have EQC : Hid (∀ w', Below W3.heap.size W3 w' → Same w' (.agg #[.bool sXE, .slice aXE mXE kXE]) (.agg #[.bool sAE, .slice aAE mAE kAE])) := Lib.hid (fun w' h => same_mk (iat_keeps GX.out h) (nat_keeps GA.out h) HSM.out)
        have STC : Hid (∀ w', Below W3.heap.size W3 w' → Calls Tryd.prog 15 #[(.agg #[.bool sXE, .slice aXE mXE kXE])] w' (TxtEnd nz w')) := Lib.hid (fun w' h => wString_any _ nz w' (iat_keeps GX.out h) HSM.out.words)
        unfold TxtEnd at STC
        go_region_held3 (fun X : World => X.cell? ⟨t2, 0, none⟩ = some (.bool sXE) ∧ X.cell? ⟨t2, 1, none⟩ = some (.slice aXE mXE kXE) ∧ X.cell? ⟨t3, 0, none⟩ = some (.bool sAE) ∧ X.cell? ⟨t3, 1, none⟩ = some (.slice aAE mAE kAE) ∧ X.cell? ⟨t7, j, none⟩ = some (.string (txtS nz))) (with_reducible first | exact CELLS2.out _ HB.out) (first
          | (go_at_call 14; refine (equal_any _ _ _ (EQC.out _ HB.out)).mono ?_; rintro e w9 ⟨rfl, hb9⟩; have UB := Lib.hid (below_then HB.out hb9); clear hb9 HB; have HB := UB; clear UB)
          | (go_at_call 15; ((with_reducible refine (STC.out _ HB.out).mono ?_); rintro e w9 ⟨rfl, hb9⟩); have UB := Lib.hid (below_then HB.out hb9); clear hb9 HB; have HB := UB; clear UB))
        clear EQC STC CELLS2
        have hbb := HB.out
        clear HB CELLS GX LX GA LA
        have U := Lib.hid (TX.out.below hbb)
        clear TX
        have TX := U
        clear U
        have U := Lib.hid (TA.out.below hbb)
        clear TA
        have TA := U
        clear U
        have U := Lib.hid (srow_keeps HSR.out hbb)
        clear HSR
        have HSR := U
        clear U
        have HB := Lib.hid (below_then HW0.out hbb)
        clear HW0 hbb
        go_wp2_with fail
        go_roundw
        case rel => exact ⟨j + 1, by go_num, by omega, HSR, HB⟩
        case measure => simp [intOf] <;> omega
      · have hbad : ∀ q, strB S ≠ txtN q := fun q h => hb ⟨q, h⟩
        have HBD := Lib.hid hbad
        have WB := wParse_bad S wr hbad (by have := HZL.out; omega)
        unfold BadEnd at WB
        have HWB := Lib.hid WB
        clear hb hbad WB
        go_wp2_with fail
        go_must (refine HWB.out.mono ?_)
        rintro e w20 ⟨rfl, hb20⟩
        have hbb := below_then hb20 (below_one w20 (.cells #[.bool false, .slice none 0 0] 33))
        have TX := Lib.hid (IBox.new (iat_zero w20))
        have HB2 := Lib.hid (below_then HB.out hbb)
        have HSR2 := Lib.hid (srow_keeps HSR.out hbb)
        have cS2 := HSR2.out.2 j S HZS.out
        clear hb20 hbb HB HSR HWB cS
        go_wp2_with fail
        generalize w20.alloc (.cells #[.bool false, .slice none 0 0] 33) = W3 at *
        generalize w20.heap.size = tX at *
        have NB := nParse_bad S W3 HBD.out (by have := HZL.out; omega)
        unfold BadEnd at NB
        have HNB := Lib.hid NB
        clear NB
        go_must (refine HNB.out.mono ?_)
        rintro e w21 ⟨rfl, hb21⟩
        have hbb := below_then hb21 (below_one w21 (.cells #[.bool false, .slice none 0 0] 25))
        have TA := Lib.hid (NBox.new (nat_zero w21))
        have TX2 := Lib.hid (TX.out.below hbb)
        have HB3 := Lib.hid (below_then HB2.out hbb)
        have HSR3 := Lib.hid (srow_keeps HSR2.out hbb)
        clear hb21 hbb HB2 HSR2 HNB TX cS2
        go_wp2_with fail
        generalize w21.alloc (.cells #[.bool false, .slice none 0 0] 25) = W4 at *
        generalize w21.heap.size = tA at *
        obtain ⟨sX, aX, mX, kX, ⟨x0, x1⟩, hX⟩ := TX2.out.open
        obtain ⟨sA, aA, mA, kA, ⟨y0, y1⟩, _, hA, _⟩ := TA.out.open
        have d0 : W4.drew.cell? ⟨tX, 0, none⟩ = some (.bool sX) := x0
        have d1 : W4.drew.cell? ⟨tX, 1, none⟩ = some (.slice aX mX kX) := x1
        have d2 : W4.drew.cell? ⟨tA, 0, none⟩ = some (.bool sA) := y0
        have d3 : W4.drew.cell? ⟨tA, 1, none⟩ = some (.slice aA mA kA) := y1
        have EQ := equal_any _ _ W4.drew (same_mk (iat_keeps hX (Below.refl _ _).drew) (nat_keeps hA (Below.refl _ _).drew) (small_zero rfl))
        unfold TrueEnd at EQ
        have HEQ := Lib.hid EQ
        clear EQ hX hA x0 x1 y0 y1
        have CELLF : Hid (∀ X : World, Below W4.heap.size W4 X → X.cell? ⟨tX, 0, none⟩ = some (.bool sX) ∧ X.cell? ⟨tX, 1, none⟩ = some (.slice aX mX kX) ∧ X.cell? ⟨tA, 0, none⟩ = some (.bool sA) ∧ X.cell? ⟨tA, 1, none⟩ = some (.slice aA mA kA)) := Lib.hid (fun X h => ⟨(h.cell (p := ⟨tX, 0, none⟩) TX2.out.lt).trans d0, (h.cell (p := ⟨tX, 1, none⟩) TX2.out.lt).trans d1, (h.cell (p := ⟨tA, 0, none⟩) TA.out.lt).trans d2, (h.cell (p := ⟨tA, 1, none⟩) TA.out.lt).trans d3⟩)
        refine wp_region_held_drew (S := fun X : World => X.cell? ⟨tX, 0, none⟩ = some (.bool sX) ∧ X.cell? ⟨tX, 1, none⟩ = some (.slice aX mX kX) ∧ X.cell? ⟨tA, 0, none⟩ = some (.bool sA) ∧ X.cell? ⟨tA, 1, none⟩ = some (.slice aA mA kA)) (by kernel_rfl) ?_ (fun hHeld => ?_)
        · exact ⟨d0, d1, d2, d3⟩
        clear d0 d1 d2 d3
        refine wpAnyH_take (i := 0) (oi := { dst := some 68, op := Op.move (Operand.tmp 14), type := 34, pos := "law.go:39", after := #[], guard := none }) (v := ?_) rfl (by kernel_rfl) (by kernel_rfl) (by kernel_rfl) (fun _ _ _ h => h) (Or.inl ⟨by rfl, ?_⟩) (by assumption) ?_
        rotate_left
        · (intro wq hSw; (try dsimp only at hSw); go_simp; try with_reducible rfl)
        try simp only [Act.put, List.setIfInBounds_toArray, List.set_cons_zero, List.set_cons_succ]
        refine wpAnyH_take (i := 1) (oi := { dst := some 69, op := Op.move (Operand.tmp 16), type := 34, pos := "law.go:39", after := #[], guard := none }) (v := ?_) rfl (by kernel_rfl) (by kernel_rfl) (by kernel_rfl) (fun _ _ _ h => h) (Or.inl ⟨by rfl, ?_⟩) (by assumption) ?_
        rotate_left
        · (intro wq hSw; (try dsimp only at hSw); go_simp; try with_reducible rfl)
        try simp only [Act.put, List.setIfInBounds_toArray, List.set_cons_zero, List.set_cons_succ]
        refine wpAnyH_take (i := 2) (oi := { dst := some 70, op := Op.binOp BinOp.neq 34 (Operand.tmp 68) (Operand.tmp 69) 34, type := 4, pos := "law.go:39", after := #[{ on := 0, ground := Ground.data }, { on := 1, ground := Ground.data }], guard := none }) (v := ?_) rfl (by kernel_rfl) (by kernel_rfl) (by kernel_rfl) (fun _ _ _ h => h) (Or.inl ⟨by rfl, ?_⟩) (by assumption) ?_
        rotate_left
        · (intro wq hSw; (try dsimp only at hSw); go_simp; try with_reducible rfl)
        try simp only [Act.put, List.setIfInBounds_toArray, List.set_cons_zero, List.set_cons_succ]
        refine wpAnyH_take (i := 3) (oi := { dst := some 71, op := Op.move (Operand.tmp 70), type := 4, pos := "law.go:39", after := #[{ on := 2, ground := Ground.data }], guard := none }) (v := ?_) rfl (by kernel_rfl) (by kernel_rfl) (by kernel_rfl) (fun _ _ _ h => h) (Or.inl ⟨by rfl, ?_⟩) (by assumption) ?_
        rotate_left
        · (intro wq hSw; (try dsimp only at hSw); go_simp; try with_reducible rfl)
        try simp only [Act.put, List.setIfInBounds_toArray, List.set_cons_zero, List.set_cons_succ]
        refine wpAnyH_take (i := 4) (oi := { dst := some 72, op := Op.load 33 (Operand.tmp 13), type := 33, pos := "law.go:39", after := #[{ on := 3, ground := Ground.guard }], guard := some (3, false) }) (v := ?_) rfl (by kernel_rfl) (by kernel_rfl) (by kernel_rfl) (fun _ _ _ h => h) (Or.inl ⟨by rfl, ?_⟩) (by assumption) ?_
        rotate_left
        · (intro wq hSw; (try dsimp only at hSw); go_simp; try with_reducible rfl)
        try simp only [Act.put, List.setIfInBounds_toArray, List.set_cons_zero, List.set_cons_succ]
        refine wpAnyH_take (i := 5) (oi := { dst := some 73, op := Op.load 25 (Operand.tmp 15), type := 25, pos := "law.go:39", after := #[{ on := 3, ground := Ground.guard }], guard := some (3, false) }) (v := ?_) rfl (by kernel_rfl) (by kernel_rfl) (by kernel_rfl) (fun _ _ _ h => h) (Or.inl ⟨by rfl, ?_⟩) (by assumption) ?_
        rotate_left
        · (intro wq hSw; (try dsimp only at hSw); go_simp; try with_reducible rfl)
        try simp only [Act.put, List.setIfInBounds_toArray, List.set_cons_zero, List.set_cons_succ]
        refine wpAnyH_ready (rs := [6]) (by kernel_rfl) (by simp) ?_
        refine AllReadyH.cons (o := { dst := some 74, op := Op.call { callee := Callee.value (Operand.func 14), args := #[Operand.tmp 72, Operand.tmp 73], argTypes := #[33, 25] }, type := 4, pos := "law.go:39", after := #[{ on := 4, ground := Ground.data }, { on := 5, ground := Ground.data }, { on := 3, ground := Ground.chain }, { on := 3, ground := Ground.guard }], guard := some (3, false) }) rfl (fun K hK => ?_) AllReadyH.nil
        go_simp
        go_at_call 14
        refine HEQ.out.mono ?_
        rintro e w5 ⟨rfl, hb5⟩
        have HB5 := Lib.hid ((Below.refl W4.heap.size W4).drew.trans hb5)
        clear hb5
        go_wp2_with fail
        refine hK.out _ _ ?_ (fun hHeld => ?_)
        · exact CELLF.out _ HB5.out
        clear hK K
        try simp only [Act.put, List.setIfInBounds_toArray, List.set_cons_zero, List.set_cons_succ]
        refine wpAnyH_take (i := 7) (oi := { dst := some 75, op := Op.unOp UnOp.not 4 (Operand.tmp 74), type := 4, pos := "law.go:39", after := #[{ on := 6, ground := Ground.data }, { on := 3, ground := Ground.guard }], guard := some (3, false) }) (v := ?_) rfl (by kernel_rfl) (by kernel_rfl) (by kernel_rfl) (fun _ _ _ h => h) (Or.inl ⟨by rfl, ?_⟩) (by assumption) ?_
        rotate_left
        · (intro wq hSw; (try dsimp only at hSw); go_simp; try with_reducible rfl)
        try simp only [Act.put, List.setIfInBounds_toArray, List.set_cons_zero, List.set_cons_succ]
        refine wpAnyH_take (i := 8) (oi := { dst := some 76, op := Op.pick (Operand.tmp 71) (Operand.const (Value.bool true)) (Operand.tmp 75), type := 4, pos := "law.go:39", after := #[{ on := 3, ground := Ground.data }, { on := 7, ground := Ground.data }], guard := none }) (v := ?_) rfl (by kernel_rfl) (by kernel_rfl) (by kernel_rfl) (fun _ _ _ h => h) (Or.inl ⟨by rfl, ?_⟩) (by assumption) ?_
        rotate_left
        · (intro wq hSw; (try dsimp only at hSw); go_simp; try with_reducible rfl)
        try simp only [Act.put, List.setIfInBounds_toArray, List.set_cons_zero, List.set_cons_succ]
        refine wpAnyH_take (i := 9) (oi := { dst := some 77, op := Op.move (Operand.tmp 76), type := 4, pos := "law.go:39", after := #[{ on := 8, ground := Ground.data }, { on := 6, ground := Ground.chain }], guard := none }) (v := ?_) rfl (by kernel_rfl) (by kernel_rfl) (by kernel_rfl) (fun _ _ _ h => h) (Or.inl ⟨by rfl, ?_⟩) (by assumption) ?_
        rotate_left
        · (intro wq hSw; (try dsimp only at hSw); go_simp; try with_reducible rfl)
        try simp only [Act.put, List.setIfInBounds_toArray, List.set_cons_zero, List.set_cons_succ]
        refine wpAnyH_take (i := 10) (oi := { dst := some 78, op := Op.move (Operand.tmp 14), type := 34, pos := "law.go:39", after := #[{ on := 9, ground := Ground.guard }], guard := some (9, false) }) (v := ?_) rfl (by kernel_rfl) (by kernel_rfl) (by kernel_rfl) (fun _ _ _ h => h) (Or.inl ⟨by rfl, ?_⟩) (by assumption) ?_
        rotate_left
        · (intro wq hSw; (try dsimp only at hSw); go_simp; try with_reducible rfl)
        try simp only [Act.put, List.setIfInBounds_toArray, List.set_cons_zero, List.set_cons_succ]
        refine wpAnyH_take (i := 11) (oi := { dst := some 79, op := Op.binOp BinOp.eql 34 (Operand.tmp 78) (Operand.const (Value.int IntKind.i64 0)) 34, type := 4, pos := "law.go:39", after := #[{ on := 10, ground := Ground.data }, { on := 9, ground := Ground.guard }], guard := some (9, false) }) (v := ?_) rfl (by kernel_rfl) (by kernel_rfl) (by kernel_rfl) (fun _ _ _ h => h) (Or.inl ⟨by rfl, ?_⟩) (by assumption) ?_
        rotate_left
        · (intro wq hSw; (try dsimp only at hSw); go_simp; try with_reducible rfl)
        try simp only [Act.put, List.setIfInBounds_toArray, List.set_cons_zero, List.set_cons_succ]
        refine wpAnyH_take (i := 12) (oi := { dst := some 80, op := Op.move (Operand.tmp 79), type := 4, pos := "law.go:39", after := #[{ on := 11, ground := Ground.data }, { on := 9, ground := Ground.chain }, { on := 9, ground := Ground.guard }], guard := some (9, false) }) (v := ?_) rfl (by kernel_rfl) (by kernel_rfl) (by kernel_rfl) (fun _ _ _ h => h) (Or.inl ⟨by rfl, ?_⟩) (by assumption) ?_
        rotate_left
        · (intro wq hSw; (try dsimp only at hSw); go_simp; try with_reducible rfl)
        try simp only [Act.put, List.setIfInBounds_toArray, List.set_cons_zero, List.set_cons_succ]
        refine wpAnyH_take (i := 13) (oi := { dst := some 81, op := Op.load 33 (Operand.tmp 13), type := 33, pos := "law.go:39", after := #[{ on := 12, ground := Ground.guard }], guard := some (12, true) }) (v := undef) rfl (by kernel_rfl) (by kernel_rfl) (by kernel_rfl) (fun _ _ _ h => h) (Or.inr ⟨by rfl, rfl⟩) (by assumption) ?_
        try simp only [Act.put, List.setIfInBounds_toArray, List.set_cons_zero, List.set_cons_succ]
        refine wpAnyH_take (i := 14) (oi := { dst := some 82, op := Op.call { callee := Callee.value (Operand.func 15), args := #[Operand.tmp 81], argTypes := #[33] }, type := 9, pos := "law.go:39", after := #[{ on := 13, ground := Ground.data }, { on := 12, ground := Ground.chain }, { on := 12, ground := Ground.guard }], guard := some (12, true) }) (v := undef) rfl (by kernel_rfl) (by kernel_rfl) (by kernel_rfl) (fun _ _ _ h => h) (Or.inr ⟨by rfl, rfl⟩) (by assumption) ?_
        try simp only [Act.put, List.setIfInBounds_toArray, List.set_cons_zero, List.set_cons_succ]
        refine wpAnyH_take (i := 15) (oi := { dst := some 83, op := Op.move (Operand.tmp 11), type := 30, pos := "law.go:39", after := #[{ on := 12, ground := Ground.guard }], guard := some (12, true) }) (v := undef) rfl (by kernel_rfl) (by kernel_rfl) (by kernel_rfl) (fun _ _ _ h => h) (Or.inr ⟨by rfl, rfl⟩) (by assumption) ?_
        try simp only [Act.put, List.setIfInBounds_toArray, List.set_cons_zero, List.set_cons_succ]
        refine wpAnyH_take (i := 16) (oi := { dst := some 84, op := Op.move (Operand.tmp 12), type := 3, pos := "law.go:39", after := #[{ on := 12, ground := Ground.guard }], guard := some (12, true) }) (v := undef) rfl (by kernel_rfl) (by kernel_rfl) (by kernel_rfl) (fun _ _ _ h => h) (Or.inr ⟨by rfl, rfl⟩) (by assumption) ?_
        try simp only [Act.put, List.setIfInBounds_toArray, List.set_cons_zero, List.set_cons_succ]
        refine wpAnyH_take (i := 17) (oi := { dst := some 85, op := Op.indexAddr 30 (Operand.tmp 83) (Operand.tmp 84), type := 0, pos := "law.go:39", after := #[{ on := 15, ground := Ground.data }, { on := 16, ground := Ground.data }, { on := 12, ground := Ground.guard }], guard := some (12, true) }) (v := undef) rfl (by kernel_rfl) (by kernel_rfl) (by kernel_rfl) (fun _ _ _ h => h) (Or.inr ⟨by rfl, rfl⟩) (by assumption) ?_
        try simp only [Act.put, List.setIfInBounds_toArray, List.set_cons_zero, List.set_cons_succ]
        refine wpAnyH_take (i := 18) (oi := { dst := some 86, op := Op.load 9 (Operand.tmp 85), type := 9, pos := "law.go:39", after := #[{ on := 17, ground := Ground.data }, { on := 12, ground := Ground.guard }], guard := some (12, true) }) (v := undef) rfl (by kernel_rfl) (by kernel_rfl) (by kernel_rfl) (fun _ _ _ h => h) (Or.inr ⟨by rfl, rfl⟩) (by assumption) ?_
        try simp only [Act.put, List.setIfInBounds_toArray, List.set_cons_zero, List.set_cons_succ]
        refine wpAnyH_take (i := 19) (oi := { dst := some 87, op := Op.binOp BinOp.neq 9 (Operand.tmp 82) (Operand.tmp 86) 9, type := 4, pos := "law.go:39", after := #[{ on := 14, ground := Ground.data }, { on := 18, ground := Ground.data }, { on := 12, ground := Ground.guard }], guard := some (12, true) }) (v := undef) rfl (by kernel_rfl) (by kernel_rfl) (by kernel_rfl) (fun _ _ _ h => h) (Or.inr ⟨by rfl, rfl⟩) (by assumption) ?_
        try simp only [Act.put, List.setIfInBounds_toArray, List.set_cons_zero, List.set_cons_succ]
        refine wpAnyH_take (i := 20) (oi := { dst := some 88, op := Op.pick (Operand.tmp 80) (Operand.tmp 87) (Operand.const (Value.bool false)), type := 4, pos := "law.go:39", after := #[{ on := 12, ground := Ground.data }, { on := 19, ground := Ground.data }, { on := 9, ground := Ground.guard }], guard := some (9, false) }) (v := ?_) rfl (by kernel_rfl) (by kernel_rfl) (by kernel_rfl) (fun _ _ _ h => h) (Or.inl ⟨by rfl, ?_⟩) (by assumption) ?_
        rotate_left
        · (intro wq hSw; (try dsimp only at hSw); go_simp; try with_reducible rfl)
        try simp only [Act.put, List.setIfInBounds_toArray, List.set_cons_zero, List.set_cons_succ]
        refine wpAnyH_take (i := 21) (oi := { dst := some 89, op := Op.pick (Operand.tmp 77) (Operand.const (Value.bool true)) (Operand.tmp 88), type := 4, pos := "law.go:39", after := #[{ on := 9, ground := Ground.data }, { on := 20, ground := Ground.data }], guard := none }) (v := ?_) rfl (by kernel_rfl) (by kernel_rfl) (by kernel_rfl) (fun _ _ _ h => h) (Or.inl ⟨by rfl, ?_⟩) (by assumption) ?_
        rotate_left
        · (intro wq hSw; (try dsimp only at hSw); go_simp; try with_reducible rfl)
        try simp only [Act.put, List.setIfInBounds_toArray, List.set_cons_zero, List.set_cons_succ]
        refine wpAnyH_done (by kernel_rfl) ?_ _
        have HSR5 := Lib.hid (srow_keeps HSR3.out HB5.out)
        have HB6 := Lib.hid (below_then HB3.out HB5.out)
        go_wp2_with fail
        go_roundw
        case rel => exact ⟨j + 1, by go_num, by omega, HSR5, HB6⟩
        case measure => simp [intOf] <;> omega
    · obtain rfl : j = 5 := by omega
      go_wp2_with fail
      have LV := lives_any wr
      unfold TrueEnd at LV
      have HLV := Lib.hid LV
      clear LV
      go_must (refine HLV.out.mono ?_)
      rintro e w96 ⟨rfl, hbe⟩
      have HE := Lib.hid (below_then HB.out hbe)
      clear hbe HLV
      go_wp2_with fail
      go_ret
      exact ⟨rfl, HE.out⟩
end Go.Proofs.YtldbhlafijjkdaaDoor
