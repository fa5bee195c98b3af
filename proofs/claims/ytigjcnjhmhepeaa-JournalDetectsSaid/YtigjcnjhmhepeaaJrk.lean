/-
  The walk of the law JournalFrames.
-/
import Derived.Test.YtigjcnjhmhepeaaJrD
namespace Go.Proofs.Ytigjcnjhmhepeaa
open Go.RowKit Go.Shelf
set_option linter.unusedVariables false

theorem lown_form {B : Nat} {W : World} {v : Value} {us : List Value} {xss : List (List Nat)} (h : LOwn B W v us xss) : ∃ a cap, v = .slice a xss.length cap ∧ xss.length ≤ cap ∧ cap ≤ 9223372036854775807 := by
  obtain ⟨a, cap, h1, h2, h3, _⟩ := (lrow_of_own h).form
  rw [h.len] at h1 h2
  exact ⟨a, cap, h1, h2, h3⟩
theorem framesN_len : ∀ (xs : List (List Nat)) (n : Nat), n + xs.length ≤ 1000000 → (∀ x ∈ xs, x.length ≤ 200) → (framesN n xs).length ≤ 240 * xs.length
  | [], _, _, _ => by simp [framesN]
  | x :: xs, n, hn, hx => by
    rw [List.length_cons] at hn ⊢
    have h1 := framesN_len xs (n + 1) (by omega) (fun y hy => hx y (by simp [hy]))
    have h2 := hx x (by simp)
    have h3 := frameN_len (natRange (n := n) (by omega)) (b := x) (by omega)
    rw [framesN, List.length_append]
    omega
theorem framesN_lt : ∀ (xs : List (List Nat)) (n : Nat), (∀ x ∈ xs, ∀ c ∈ x, c < 256) → ∀ c ∈ framesN n xs, c < 256
  | [], _, _, c, hc => by simp [framesN] at hc
  | x :: xs, n, hx, c, hc => by
    rw [framesN] at hc
    rcases List.mem_append.1 hc with h | h
    · exact frameN_lt (hx x (by simp)) c h
    · exact framesN_lt xs (n + 1) (fun y hy => hx y (by simp [hy])) c h
theorem framesN_take {xs : List (List Nat)} {i : Nat} (hi : i < xs.length) : framesN 0 (xs.take (i + 1)) = framesN 0 (xs.take i) ++ frameN (i : Int) xs[i] := by
  rw [List.take_succ_eq_append_getElem hi, framesN_snoc]
  have : (xs.take i).length = i := by rw [List.length_take]; omega
  rw [this, Nat.zero_add]
/-- What Scan finds in frames with bytes behind them. -/
theorem scan_frames {xs : List (List Nat)} (h : xs.length ≤ 1000000) (hx : ∀ x ∈ xs, x.length ≤ 200) (t : List Nat) :
    ((scanP 0 (framesN 0 xs ++ t)).map Prod.fst).take xs.length = xs ∧ xs.length ≤ ((scanP 0 (framesN 0 xs ++ t)).map Prod.fst).length ∧ (framesN 0 xs).length ≤ ((scanP 0 (framesN 0 xs ++ t)).map Prod.snd).sum := by
  rw [scanP_frames xs 0 t (by omega) (fun x hx' => by have := hx x hx'; omega)]
  refine ⟨?_, ?_, ?_⟩
  · rw [List.map_append, pairsN_fst, List.take_append_of_le_length (Nat.le_refl _), List.take_length]
  · rw [List.map_append, pairsN_fst, List.length_append]; omega
  · rw [List.map_append, List.sum_append, pairsN_sum]; omega
theorem scan_short {l : List Nat} (h8 : ∀ c ∈ l, c < 256) : ∀ x ∈ (scanP 0 l).map Prod.fst, x.length ≤ l.length := by
  intro x hx
  obtain ⟨p, hp, rfl⟩ := List.mem_map.1 hx
  exact (scanP_sum l.length 0 l (Nat.le_refl _)).2.2 p hp

set_option maxRecDepth 100000 in
set_option maxHeartbeats 8000000 in
theorem walk_JournalFrames (v : Value) (l : List Int) (number : Int) (vb : Value) (b : List Int) (vr : Value) (rest : List Int) (w : World) (hv : Row .i64 w v l) (hl : ∀ n ∈ l, -9223372036854775808 ≤ n ∧ n ≤ 9223372036854775807)
    (hnum : -9223372036854775808 ≤ number ∧ number ≤ 9223372036854775807) (hvb : Row .u8 w vb b) (hb : ∀ n ∈ b, 0 ≤ n ∧ n ≤ 255) (hvr : Row .u8 w vr rest) (hr : ∀ n ∈ rest, 0 ≤ n ∧ n ≤ 255) :
    Calls Try.prog 3 #[v, .int .i64 number, vb, vr] w fun e w' => e = .returned (.bool true) ∧ Below w.heap.size w w' := by
  obtain ⟨i0, hi, hz0, hz1, hz2⟩ := info_parts info_sl
  obtain ⟨j0, hj, hy0, hy1, hy2⟩ := info_parts info_u8
  have HV := Lib.hid hv
  have HL := Lib.hid hl
  have HNUM := Lib.hid hnum
  have HVR := Lib.hid hvr
  have HBR : Hid (∀ n ∈ b.take 200, 0 ≤ n ∧ n ≤ 255) := Lib.hid (fun n hn => hb n (List.mem_of_mem_take hn))
  have HRR : Hid (∀ n ∈ rest.take 30, 0 ≤ n ∧ n ≤ 255) := Lib.hid (fun n hn => hr n (List.mem_of_mem_take hn))
  have HFEW := Lib.hid (refFew_any vb b 200 w hvb (by decide))
  have HF2 := Lib.hid (fun (W : World) h => refFew_any vr rest 30 W h (by decide))
  have hb200 : (b.take 200).length ≤ 200 := by rw [List.length_take]; omega
  have hr30 : (rest.take 30).length ≤ 30 := by rw [List.length_take]; omega
  obtain ⟨O, hO⟩ : ∃ O, toNats (b.take 200) = O := ⟨_, rfl⟩
  obtain ⟨R, hR⟩ : ∃ R, toNats (rest.take 30) = R := ⟨_, rfl⟩
  have hOn : b.take 200 = natI O := by rw [← hO, natI_toNats HBR.out]
  have hRn : rest.take 30 = natI R := by rw [← hR, natI_toNats HRR.out]
  have HO8 : Hid (∀ c ∈ O, c < 256) := Lib.hid (by rw [← hO]; exact toNats_mem HBR.out)
  have HR8 : Hid (∀ c ∈ R, c < 256) := Lib.hid (by rw [← hR]; exact toNats_mem HRR.out)
  rw [hOn] at HFEW hb200
  rw [hRn] at HF2 hr30
  rw [natI_length] at hb200 hr30
  clear hv hl hnum hvb hb hvr hr HBR HRR hO hR hOn hRn
  go_enter Try.func3, Try.ntmps3
  go_wp2_with fail
  rw [show ((200 : Nat) : Int) = 200 from rfl] at HFEW
  refine HFEW.out.mono ?_
  rintro e w1 ⟨v1, rfl, hf1, hb1⟩
  have HF1 := Lib.hid hf1
  have HV1 := Lib.hid (row_keeps HV.out hb1)
  obtain ⟨a1, c1, rfl, _, _⟩ := fresh_elems hf1
  simp only [natI_length] at *
  clear hf1 HFEW HV
  go_wp2_with fail
  refine (devFrame_any number _ O w1 HNUM.out (row_of_fresh HF1.out) HO8.out (fresh_block HF1.out) (by omega)).mono ?_
  rintro e w2 ⟨v2, rfl, hf2, hb2⟩
  have hb12 := below_then hb1 hb2
  have HD2 := Lib.hid hf2
  have HF12 := Lib.hid (fresh_keeps HF1.out hb2)
  have HV2 := Lib.hid (row_keeps HV1.out hb2)
  have HFN := Lib.hid (frameN_len HNUM.out (b := O) (by omega))
  clear hf2 hb1 hb2 HF1 HV1
  go_wp2_with fail
  refine (refFrame_any number _ O w2 HNUM.out (row_of_fresh HF12.out) HO8.out (by omega)).mono ?_
  rintro e w3 ⟨v3, rfl, hf3, hb3⟩
  generalize frameN number O = F at *
  have hb13 := below_then hb12 hb3
  have HD3 := Lib.hid (fresh_keeps HD2.out hb3)
  have HR3 := Lib.hid hf3
  have HF13 := Lib.hid (fresh_keeps HF12.out hb3)
  have HV3 := Lib.hid (row_keeps HV2.out hb3)
  clear hf3 hb12 hb3 HF12 HV2 HD2
  go_wp2_with fail
  refine (sameBytes_any v2 v3 (natI F) (natI F) w3 (Elems.of_fresh HD3.out) (Elems.of_fresh HR3.out) (by have := HFN.out; rw [natI_length]; omega) (by have := HFN.out; rw [natI_length]; omega)).mono ?_
  rintro e w4 ⟨rfl, hb4⟩
  rw [decide_eq_true (rfl : natI F = natI F)]
  have hb14 := below_then hb13 hb4
  have HF14 := Lib.hid (fresh_keeps HF13.out hb4)
  have HV4 := Lib.hid (row_keeps HV3.out hb4)
  clear hb13 hb4 HF13 HV3 HD3 HR3 HFN
  have HB4 := Lib.hid hb14.size
  go_wp2_with fail
  refine (records_any v l w4 HV4.out HL.out).mono ?_
  rintro e w5 ⟨u, us, xss, rfl, ho5, hsh, hb5⟩
  have hb15 := below_then hb14 hb5
  have hf15 := fresh_keeps HF14.out hb5
  have hs5 := hb5.size
  have hblk : ∀ k, blockOf (.slice a1 O.length c1) k → k < w4.heap.size := by have := fresh_block HF14.out; exact this
  have hnew : ∀ k, blockOf (.slice a1 O.length c1) k → k < (w5.alloc (.cells #[.slice a1 O.length c1] 23)).heap.size ∧ u.ownBlock ≠ some k := fun k hk => by
    have h1 := hblk k hk
    exact ⟨by simp; omega, fun e => by have := (ho5.own.lt k e).1; omega⟩
  have hO1 := lown_below ho5 ((Below.refl _ w5).alloc (Nat.le_refl _) (.cells #[.slice a1 O.length c1] 23))
  have hO2 := own_foot ho5.own ((Keeps.refl (fun _ => False) w5).alloc (.cells #[.slice a1 O.length c1] 23)) (fun _ _ h => h)
  have HX1 := Lib.hid (row_keeps (row_of_fresh hf15) ((Below.refl _ w5).alloc (Nat.le_refl _) (.cells #[.slice a1 O.length c1] 23)))
  have HN := Lib.hid hnew
  have HO1 := Lib.hid hO1
  have HO2 := Lib.hid hO2
  have HSH := Lib.hid hsh
  have hus : us.length ≤ 6 := by rw [ho5.len]; exact hsh.1
  clear hb14 hb5 ho5 hsh hf15 hnew hO1 hO2 hblk HF14 HV4
  go_wp2_with (at_builtin; go_must (refine wpList_append_own_at _ rfl _ _ 27 rfl w4.heap.size 23 i0 (.slice none 0 0) 1 24 Try.underlying27 hi hz0 hz1 hz2 rfl (by decide) u us.length us rfl HO2.out ⟨w5.heap.size, 0, none⟩ 1 1 [.slice a1 O.length c1] rfl rfl (cell_one_new _ _ _) (by simp [Value.oneCell']) (by unfold maxLen; omega) (by omega) (by simp; omega) ?_); intro u6 w6 hown6 hgrow6 _ hat6; have HG6 := Lib.hid (And.intro hown6 (And.intro hgrow6 hat6)); clear hown6 hgrow6 hat6)
  obtain ⟨hown6, hgrow6, hat6⟩ := HG6.out
  have hx6 := lown_snoc HO1.out HX1.out HN.out hown6 hgrow6 hat6
  have hb6 : Below w4.heap.size w5 w6 := ((Below.refl w4.heap.size w5).alloc (by omega) _).grown hgrow6 (by simp; omega) (fun k e => (HO1.out.own.lt k e).1)
  have hsz6 := hb6.size
  have hb16 : Below w.heap.size w w6 := hb15.trans (Keeps.of_below hb6 |>.below hb15.size (fun k hk => by have := HB4.out; omega))
  have HXS : Hid (∀ x ∈ xss ++ [O], x.length ≤ 200 ∧ ∀ c ∈ x, c < 256) := Lib.hid (fun x hx => by
    rcases List.mem_append.1 hx with hx | hx
    · exact ⟨by have := (HSH.out.2 x hx).1; omega, (HSH.out.2 x hx).2⟩
    · have e : x = O := by simpa using hx
      rw [e]; exact ⟨by omega, HO8.out⟩)
  have hXL : (xss ++ [O]).length ≤ 7 ∧ 1 ≤ (xss ++ [O]).length := by have := HSH.out.1; rw [List.length_append]; simp; omega
  generalize xss ++ [O] = X at *
  generalize us ++ [.slice a1 O.length c1] = US at *
  obtain ⟨xa, xc, rfl, hxc, hxm⟩ := lown_form hx6
  have HX6 := Lib.hid hx6
  have HB16 := Lib.hid hb16
  clear hown6 hgrow6 hat6 hb6 hb16 hx6 HG6 HO1 HX1 HN HO2 HSH HO8 hb15 hus
  obtain ⟨hX7, hX1⟩ := hXL
  go_loopw [11, 12] (fun s11 s12 wr => ∃ i : Nat, i ≤ X.length ∧ s12 = .int .i64 (i : Int) ∧ Hid (Fresh w6.heap.size 5 .u8 wr s11 (natI (framesN 0 (X.take i)))) ∧ Hid (Below w6.heap.size w6 wr)) (fun _ s12 _ => X.length - (intOf s12).toNat)
  case atStart => exact ⟨0, Nat.zero_le _, rfl, Lib.hid (fresh_nil _ _ _ _), Lib.hid (Below.refl _ _)⟩
  case round =>
    obtain ⟨i, hi', rfl, HAL, HBE⟩ := hrel
    by_cases hlt : i < X.length
    · have hlx : i < US.length := by rw [HX6.out.len]; exact hlt
      obtain ⟨bx, ox, rfl, hcc⟩ : ∃ bx ox, xa = some ⟨bx, ox, none⟩ ∧ ∀ j (hj : j < US.length), w6.cell? ⟨bx, ox + j, none⟩ = some US[j] := by
        obtain ⟨a', cap', e, _, _, hc⟩ := (lrow_of_own HX6.out).form
        injection e with e _ _
        obtain ⟨bx, ox, e2, hcc⟩ := hc (fun h => by rw [h] at hlx; simp at hlx)
        exact ⟨bx, ox, e.trans e2, hcc⟩
      have hck := (HBE.out.cell (p := ⟨bx, ox + i, none⟩) (World.block_lt_of_cell? _ _ (hcc i hlx))).trans (hcc i hlx)
      have HRK := Lib.hid (row_keeps (HX6.out.row i hlx hlt) HBE.out)
      have HKL := Lib.hid (fun j hj => HX6.out.lt _ (List.getElem_mem hlx) j hj)
      have HXI := Lib.hid (HXS.out _ (List.getElem_mem hlt))
      have HTK := Lib.hid (framesN_take hlt)
      have HTL := Lib.hid (framesN_len (X.take i) 0 (by rw [List.length_take]; omega) (fun x hx => (HXS.out x (List.mem_of_mem_take hx)).1))
      have htl : (X.take i).length ≤ 7 := by rw [List.length_take]; omega
      have hwr := HBE.out.size
      clear hcc
      generalize X[i] = x at *
      generalize US[i] = ux at *
      go_wp2_with fail
      refine (devFrame_any (i : Int) ux x wr (by omega) HRK.out HXI.out.2 (fun j hj => by have := HKL.out j hj; omega) (by have := HXI.out.1; omega)).mono ?_
      rintro e w7 ⟨v7, rfl, hf7, hb7⟩
      have HD7 := Lib.hid hf7
      have HAL7 := Lib.hid (fresh_keeps HAL.out hb7)
      have hbe7 := below_then HBE.out hb7
      have HBND : Hid ((natI (framesN 0 (X.take i))).length + (natI (frameN (i : Int) x)).length ≤ 1000000000) := Lib.hid (by have := HTL.out; have := frameN_len (natRange (n := i) (by omega)) (b := x) (by have := HXI.out.1; omega); have := HXI.out.1; rw [natI_length, natI_length]; omega)
      have HCC : Hid (natI (framesN 0 (X.take i)) ++ natI (frameN (i : Int) x) = natI (framesN 0 (X.take (i + 1)))) := Lib.hid (by rw [HTK.out]; simp [natI])
      generalize frameN (i : Int) x = Fi at *
      obtain ⟨a7, c7, rfl, _, _⟩ := fresh_elems hf7
      clear hf7 hb7 HAL hck HRK HTK
      go_wp2_with (at_builtin; go_must (refine wpList_append_fresh rfl _ _ 23 rfl w6.heap.size 5 j0 .u8 1 Try.underlying23 hj hy0 hy1 hy2 (by decide) _ _ rfl HAL7.out _ _ rfl (row_of_fresh HD7.out) HBND.out hbe7.size ?_); intro v8 w8 hfr hgrow; have HG8 := Lib.hid (And.intro hfr hgrow); clear hfr hgrow)
      go_roundw
      case rel =>
        obtain ⟨hfr, hgrow⟩ := HG8.out
        have hb8 : Below w6.heap.size w6 w8 := below_grown hbe7 HAL7.out hgrow hbe7.size
        rw [HCC.out] at hfr
        exact ⟨i + 1, by omega, by go_num, Lib.hid hfr, Lib.hid hb8⟩
      case measure => simp [intOf]; omega
    · have htk : X.take i = X := List.take_of_length_le (by omega)
      have hal := HAL.out
      rw [htk] at hal
      have HAB := Lib.hid (framesN_len X 0 (by omega) (fun x hx => (HXS.out x hx).1))
      have HA8 := Lib.hid (framesN_lt X 0 (fun x hx => (HXS.out x hx).2))
      have HSF := Lib.hid (scan_frames (xs := X) (by omega) (fun x hx => (HXS.out x hx).1) R)
      generalize framesN 0 X = A at *
      obtain ⟨aa, ca, rfl, _, _⟩ := fresh_elems hal
      simp only [natI_length] at *
      have HAL8 := Lib.hid hal
      have hA2000 : A.length ≤ 2000 := by have := HAB.out; omega
      have hbw := HB16.out.trans (Keeps.of_below HBE.out |>.below HB16.out.size (fun k hk => by have := HB16.out.size; omega))
      have HFR := Lib.hid (HF2.out wr (row_keeps HVR.out hbw))
      rw [show ((30 : Nat) : Int) = 30 from rfl] at HFR
      clear hal HAL htk HF2
      go_wp2_with fail
      refine HFR.out.mono ?_
      rintro e w9 ⟨v9, rfl, hf9, hb9⟩
      have HD9 := Lib.hid hf9
      have HAL9 := Lib.hid (fresh_keeps HAL8.out hb9)
      have hbe9 := below_then HBE.out hb9
      have hbw9 := below_then hbw hb9
      have HBND : Hid ((natI A).length + (natI R).length ≤ 1000000000) := Lib.hid (by rw [natI_length, natI_length]; omega)
      have HCC : Hid (natI A ++ natI R = natI (A ++ R)) := Lib.hid (by simp [natI])
      clear hf9 hb9 HAL8 HFR hbw
      go_wp2_with (at_builtin; go_must (refine wpList_append_fresh rfl _ _ 23 rfl w6.heap.size 5 j0 .u8 1 Try.underlying23 hj hy0 hy1 hy2 (by decide) _ _ rfl HAL9.out _ _ rfl (row_of_fresh HD9.out) HBND.out hbe9.size ?_); intro v10 w10 hfr hgrow; have HG10 := Lib.hid (And.intro hfr hgrow); clear hfr hgrow)
      obtain ⟨hfr, hgrow⟩ := HG10.out
      have hbe10 : Below w6.heap.size w6 w10 := below_grown hbe9 HAL9.out hgrow hbe9.size
      rw [HCC.out] at hfr
      have hsz10 := hbe10.size
      have HAR8 : Hid (∀ c ∈ A ++ R, c < 256) := Lib.hid (fun c hc => by
        rcases List.mem_append.1 hc with h1 | h1
        · exact HA8.out c h1
        · exact HR8.out c h1)
      have harl : (A ++ R).length ≤ 3000 := by rw [List.length_append]; omega
      have HD10 := Lib.hid hfr
      have HX10 := Lib.hid (lown_below HX6.out hbe10)
      have hbw10 := HB16.out.trans (Keeps.of_below hbe10 |>.below HB16.out.size (fun k hk => by have := HB16.out.size; omega))
      have HSHORT := Lib.hid (scan_short HAR8.out)
      have HSUM := Lib.hid (scanP_sum (A ++ R).length 0 (A ++ R) (Nat.le_refl _))
      have HS1 := Lib.hid (devScan_any v10 (A ++ R) w10 (row_of_fresh hfr) HAR8.out (fresh_block hfr) (by omega))
      have HS2 := Lib.hid (fun (W : World) h1 h2 => refScan_any v10 (A ++ R) W h1 (fresh_plain hfr) HAR8.out h2 (by omega))
      have HROW10 := Lib.hid (row_of_fresh hfr)
      have HBLK10 := Lib.hid (fresh_block hfr)
      obtain ⟨hst, hsl, hsm⟩ := HSF.out
      have hrl : ((scanP 0 (A ++ R)).map Prod.fst).length ≤ 3000 := by rw [List.length_map]; have := HSUM.out.2.1; omega
      have hsm2 : ((scanP 0 (A ++ R)).map Prod.snd).sum ≤ 3000 := by have := HSUM.out.1; omega
      have HST := Lib.hid hst
      have HAL3 : Hid (∀ x ∈ (scanP 0 (A ++ R)).map Prod.fst, x.length ≤ 100000) := Lib.hid (fun x hx => by have := HSHORT.out x hx; omega)
      unfold ScanEnd at HS1 HS2
      clear hfr hgrow HG10 HAL9 hbe9 hbw9 hst HSF HSHORT HSUM hbe10 HAR8 HA8 HAB HR8
      generalize A ++ R = L at *
      generalize (scanP 0 L).map Prod.fst = RC at *
      generalize ((scanP 0 L).map Prod.snd).sum = SM at *
      refine HS1.out.mono ?_
      rintro e w11 ⟨g, gs, rfl, hog, hb11⟩
      obtain ⟨ga, gc, rfl, hgc, hgm⟩ := lown_form hog
      have HOG := Lib.hid hog
      have HX11 := Lib.hid (lown_below HX10.out hb11)
      have HROW11 := Lib.hid (row_keeps HROW10.out hb11)
      have hs11 := hb11.size
      have hbw11 := below_then hbw10 hb11
      clear hog hb11 HS1 HROW10 HX10 hbw10
      go_wp2_with fail
      refine (HS2.out _ HROW11.out (fun j hj => by have := HBLK10.out j hj; omega)).mono ?_
      rintro e w12 ⟨q, qs, rfl, hoq, hb12⟩
      obtain ⟨qa, qc, rfl, hqc, hqm⟩ := lown_form hoq
      have HOG12 := Lib.hid (lown_below HOG.out hb12)
      have HOQ := Lib.hid hoq
      have HX12 := Lib.hid (lown_below HX11.out hb12)
      have hbw12 := below_then hbw11 hb12
      have qe := eq_bool (rfl : SM = SM)
      clear hoq hb12 HS2 HROW11 HX11 hbw11 HOG
      go_wp2_with fail
      refine (sameLists_any _ _ gs qs RC RC w12 (lrow_of_own HOG12.out) (lrow_of_own HOQ.out) HAL3.out HAL3.out (by rw [HOG12.out.len]; omega) (by rw [HOQ.out.len]; omega)).mono ?_
      rintro e w13 ⟨rfl, hb13⟩
      rw [decide_eq_true (rfl : RC = RC)]
      have HOG13 := Lib.hid (lown_below HOG12.out hb13)
      have HX13 := Lib.hid (lown_below HX12.out hb13)
      have hbw13 := below_then hbw12 hb13
      clear hb13 hbw12 HX12 HOG12 HOQ
      go_wp2_with fail
      have hlt := lrow_take (lrow_of_own HOG13.out) (m := X.length) hsl
      rw [HST.out] at hlt
      have hul : (gs.take X.length).length ≤ 7 := by rw [List.length_take]; omega
      refine (sameLists_any _ _ _ US X X w13 hlt (lrow_of_own HX13.out) (fun x hx => by have := (HXS.out x hx).1; omega) (fun x hx => by have := (HXS.out x hx).1; omega) (by omega) (by rw [HX13.out.len]; omega)).mono ?_
      rintro e w14 ⟨rfl, hb14⟩
      rw [decide_eq_true (rfl : X = X)]
      have hbw14 := below_then hbw13 hb14
      clear hb14 hbw13 HX13 HOG13 hlt hul
      go_wp2_with fail
      refine (lives6_any w14).mono ?_
      rintro e w15 ⟨rfl, hb15⟩
      have hbw15 := below_then hbw14 hb15
      clear hb15 hbw14
      go_wp2_with fail
      go_ret
      exact ⟨rfl, hbw15⟩
end Go.Proofs.Ytigjcnjhmhepeaa
