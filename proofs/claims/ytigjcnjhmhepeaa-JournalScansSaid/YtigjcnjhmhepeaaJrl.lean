/-
  The walk of the law JournalScans.
-/
import Derived.Test.YtigjcnjhmhepeaaJrk
import Derived.Deep.DeepCutAuto
namespace Go.Proofs.Ytigjcnjhmhepeaa
open Go.RowKit Go.Shelf
set_option linter.unusedVariables false

/-- A byte slice that can be scanned. -/
structure El (W : World) (v : Value) (l : List Nat) : Prop where
  row : Row .u8 W v (natI l)
  plain : PlainS v
  b8 : ∀ c ∈ l, c < 256
  blk : ∀ j, blockOf v j → j < W.heap.size
  len : l.length ≤ 3000
theorem El.below {W W2 : World} {v : Value} {l : List Nat} (h : El W v l) (hb : Below W.heap.size W W2) : El W2 v l :=
  ⟨row_keeps h.row hb, h.plain, h.b8, fun j hj => Nat.lt_of_lt_of_le (h.blk j hj) hb.size, h.len⟩
theorem El.fresh {B : Nat} {e : TypeId} {W : World} {v : Value} {l : List Nat} (h : Fresh B e .u8 W v (natI l)) (h8 : ∀ c ∈ l, c < 256) (hl : l.length ≤ 3000) : El W v l :=
  ⟨row_of_fresh h, fresh_plain h, h8, fresh_block h, hl⟩

set_option maxRecDepth 100000 in
set_option maxHeartbeats 8000000 in
theorem walk_JournalScans (vr : Value) (raw : List Int) (v : Value) (l : List Int) (at' c : Int) (w : World) (hvr : Row .u8 w vr raw) (hr : ∀ n ∈ raw, 0 ≤ n ∧ n ≤ 255) (hv : Row .i64 w v l) (hl : ∀ n ∈ l, -9223372036854775808 ≤ n ∧ n ≤ 9223372036854775807)
    (hat : -9223372036854775808 ≤ at' ∧ at' ≤ 9223372036854775807) (hc : 0 ≤ c ∧ c ≤ 255) :
    Calls Try.prog 4 #[vr, v, .int .i64 at', .int .u8 c] w fun e w' => e = .returned (.bool true) ∧ Below w.heap.size w w' := by
  obtain ⟨j0, hj, hy0, hy1, hy2⟩ := info_parts info_u8
  have HV := Lib.hid hv
  have HL := Lib.hid hl
  have HVR := Lib.hid hvr
  have HAT := Lib.hid hat
  obtain ⟨C, hC⟩ : ∃ C : Nat, c = (C : Int) := ⟨c.toNat, by omega⟩
  subst hC
  have hC8 : C < 256 := by omega
  have H60R : Hid (∀ n ∈ raw.take 60, 0 ≤ n ∧ n ≤ 255) := Lib.hid (fun n hn => hr n (List.mem_of_mem_take hn))
  have H5R : Hid (∀ n ∈ raw.take 5, 0 ≤ n ∧ n ≤ 255) := Lib.hid (fun n hn => hr n (List.mem_of_mem_take hn))
  have HF2 := Lib.hid (fun (W : World) h => refFew_any vr raw 60 W h (by decide))
  have h60 : (raw.take 60).length ≤ 60 := by rw [List.length_take]; omega
  have h5 : (raw.take 5).length ≤ 5 := by rw [List.length_take]; omega
  obtain ⟨R, hR⟩ : ∃ R, toNats (raw.take 60) = R := ⟨_, rfl⟩
  obtain ⟨T, hT⟩ : ∃ T, toNats (raw.take 5) = T := ⟨_, rfl⟩
  have hRn : raw.take 60 = natI R := by rw [← hR, natI_toNats H60R.out]
  have hTn : raw.take 5 = natI T := by rw [← hT, natI_toNats H5R.out]
  have HR8 : Hid (∀ c ∈ R, c < 256) := Lib.hid (by rw [← hR]; exact toNats_mem H60R.out)
  have HT8 : Hid (∀ c ∈ T, c < 256) := Lib.hid (by rw [← hT]; exact toNats_mem H5R.out)
  rw [hRn] at HF2 h60
  have HTN := Lib.hid hTn
  rw [hTn] at h5
  rw [natI_length] at h60 h5
  clear hv hl hvr hr hat hc H60R H5R hR hT hRn hTn
  go_enter Try.func4, Try.ntmps4
  go_wp2_with fail
  refine (records_any v l w HV.out HL.out).mono ?_
  rintro e w6 ⟨u, US, X, rfl, hx6, hsh, hb16⟩
  have HXS : Hid (∀ x ∈ X, x.length ≤ 200 ∧ ∀ c ∈ x, c < 256) := Lib.hid (fun x hx => ⟨by have := (hsh.2 x hx).1; omega, (hsh.2 x hx).2⟩)
  have hX7 := hsh.1
  obtain ⟨xa, xc, rfl, hxc, hxm⟩ := lown_form hx6
  have HX6 := Lib.hid hx6
  have HB16 := Lib.hid hb16
  clear hx6 hb16 hsh HV HL
  go_wp2_with fail
  go_loopw [10, 11] (fun s10 s11 wr => ∃ i : Nat, i ≤ X.length ∧ s11 = .int .i64 (i : Int) ∧ Hid (Fresh w6.heap.size 5 .u8 wr s10 (natI (framesN 0 (X.take i)))) ∧ Hid (Below w6.heap.size w6 wr)) (fun _ s11 _ => X.length - (intOf s11).toNat)
  case atStart => exact ⟨0, Nat.zero_le _, rfl, Lib.hid (fresh_nil _ _ _ _), Lib.hid (Below.refl _ _)⟩
  case round =>
    obtain ⟨i, hi', rfl, HAL, HBE⟩ := hrel
    by_cases hlt : i < X.length
    · have hlx : i < US.length := by rw [HX6.out.len]; exact hlt
      obtain ⟨bx, ox, rfl, hcc⟩ : ∃ bx ox, xa = some ⟨bx, ox, none⟩ ∧ ∀ j (hj : j < US.length), w6.cell? ⟨bx, ox + j, none⟩ = some US[j] := by
        obtain ⟨a', cap', e, _, _, hc⟩ := (lrow_of_own HX6.out).form
        injection e with e _ _
        obtain ⟨bx, ox, e2, hcc⟩ := hc (fun h => by rw [h] at hlx; simp at hlx)
        exact ⟨bx, ox, e.trans e2, hcc⟩
      have hck := (HBE.out.cell (p := ⟨bx, ox + i, none⟩) (World.block_lt_of_cell? _ _ (hcc i hlx))).trans (hcc i hlx)
      have HRK := Lib.hid (row_keeps (HX6.out.row i hlx hlt) HBE.out)
      have HXI := Lib.hid (HXS.out _ (List.getElem_mem hlt))
      have HTK := Lib.hid (framesN_take hlt)
      have HTL := Lib.hid (framesN_len (X.take i) 0 (by rw [List.length_take]; omega) (fun x hx => (HXS.out x (List.mem_of_mem_take hx)).1))
      have htl : (X.take i).length ≤ 7 := by rw [List.length_take]; omega
      have hwr := HBE.out.size
      clear hcc
      generalize X[i] = x at *
      generalize US[i] = ux at *
      go_wp2_with fail
      refine (refFrame_any (i : Int) ux x wr (by omega) HRK.out HXI.out.2 (by have := HXI.out.1; omega)).mono ?_
      rintro e w7 ⟨v7, rfl, hf7, hb7⟩
      have HD7 := Lib.hid hf7
      have HAL7 := Lib.hid (fresh_keeps HAL.out hb7)
      have hbe7 := below_then HBE.out hb7
      have HBND : Hid ((natI (framesN 0 (X.take i))).length + (natI (frameN (i : Int) x)).length ≤ 1000000000) := Lib.hid (by have := HTL.out; have := frameN_len (natRange (n := i) (by omega)) (b := x) (by have := HXI.out.1; omega); have := HXI.out.1; rw [natI_length, natI_length]; omega)
      have HCC : Hid (natI (framesN 0 (X.take i)) ++ natI (frameN (i : Int) x) = natI (framesN 0 (X.take (i + 1)))) := Lib.hid (by rw [HTK.out]; simp [natI])
      generalize frameN (i : Int) x = Fi at *
      obtain ⟨a7, c7, rfl, _, _⟩ := fresh_elems hf7
      clear hf7 hb7 HAL hck HRK HTK
      go_wp2_with (at_builtin; go_must (refine wpList_append_fresh rfl _ _ 23 rfl w6.heap.size 5 j0 .u8 1 Try.underlying23 hj hy0 hy1 hy2 (by decide) _ _ rfl HAL7.out _ _ rfl (row_of_fresh HD7.out) HBND.out hbe7.size ?_); intro v8 w8 hfr hgrow; have HG8 := Lib.hid (And.intro hfr hgrow); clear hfr hgrow)
      go_roundw
      case rel =>
        obtain ⟨hfr, hgrow⟩ := HG8.out
        have hb8 : Below w6.heap.size w6 w8 := below_grown hbe7 HAL7.out hgrow hbe7.size
        rw [HCC.out] at hfr
        exact ⟨i + 1, by omega, by go_num, Lib.hid hfr, Lib.hid hb8⟩
      case measure => simp [intOf]; omega
    · have htk : X.take i = X := List.take_of_length_le (by omega)
      have hal := HAL.out
      rw [htk] at hal
      have HAB := Lib.hid (framesN_len X 0 (by omega) (fun x hx => (HXS.out x hx).1))
      have HA8 := Lib.hid (framesN_lt X 0 (fun x hx => (HXS.out x hx).2))
      generalize framesN 0 X = A at *
      obtain ⟨aa, ca, rfl, _, _⟩ := fresh_elems hal
      simp only [natI_length] at *
      have HAL8 := Lib.hid hal
      have hA2000 : A.length ≤ 2000 := by have := HAB.out; omega
      have HBW := Lib.hid (HB16.out.trans (Keeps.of_below HBE.out |>.below HB16.out.size (fun k hk => by have := HB16.out.size; omega)))
      have HSB := Lib.hid HB16.out.size
      clear hal HAL htk HX6 HXS hX7 hxc hxm HAB HB16
      go_upto_if 36 with fail
      go_cut [10] (fun s10 wx => ∃ (L : List Nat), (∃ ab cb, s10 = .slice ab L.length cb) ∧ Hid (El wx s10 L) ∧ Hid (Below w.heap.size w wx))
      case first =>
        by_cases hA0 : 0 < A.length
        · obtain ⟨gA, cA, e, hgA, hgl, _⟩ := fresh_some HAL8.out (fun h => by have h6 := congrArg List.length h; rw [natI_length, List.length_nil] at h6; omega)
          obtain ⟨rfl, rfl⟩ : aa = some ⟨gA, 0, none⟩ ∧ ca = cA := by
            rw [natI_length] at e
            injection e with e1 _ e3
            exact ⟨e1, e3⟩
          clear e
          have hJ : 0 ≤ aroundI at' (A.length : Int) ∧ aroundI at' (A.length : Int) < A.length := ⟨Int.emod_nonneg _ (by omega), Int.emod_lt_of_pos _ (by omega)⟩
          go_wp2_with fail
          refine (around_any at' A.length wr HAT.out (by omega) (by omega)).mono ?_
          rintro e w1 ⟨rfl, rfl⟩
          obtain ⟨J, hJ2⟩ : ∃ J : Nat, aroundI at' (A.length : Int) = (J : Int) := ⟨(aroundI at' (A.length : Int)).toNat, by omega⟩
          rw [hJ2] at hJ ⊢
          have hJA : J < A.length := by omega
          clear hJ2 hJ
          have hcell := fresh_cell HAL8.out (j := J) (by rw [natI_length]; exact hJA)
          have hfroz : wr.frozen? ⟨gA, J, none⟩ = false := fresh_frozen2 HAL8.out (natI_length A).symm J
          have hst := (fresh_store2 HAL8.out (natI_length A).symm J (C : Int)).1
          have hk := keeps_set wr gA J (.int .u8 (C : Int))
          rw [show (natI A).set J (C : Int) = natI (A.set J C) by simp [natI, List.map_set]] at hst
          have HST := Lib.hid hst
          have HK := Lib.hid hk
          clear hst hk
          go_wp2_with fail
          go_meet
          have hkb := HBW.out.trans (HK.out.below HBW.out.size (fun k hk => by have := HSB.out; omega))
          exact ⟨A.set J C, ⟨_, _, by rw [List.length_set]⟩, Lib.hid (El.fresh HST.out (fun x hx => by
            rcases List.mem_or_eq_of_mem_set hx with h1 | h1
            · exact HA8.out x h1
            · omega) (by rw [List.length_set]; omega)), Lib.hid hkb⟩
        · have hA00 : A.length = 0 := by omega
          go_wp2_with fail
          go_meet
          exact ⟨A, ⟨_, _, rfl⟩, Lib.hid (El.fresh HAL8.out HA8.out (by omega)), Lib.hid HBW.out⟩
      obtain ⟨L, ⟨ab, cb, rfl⟩, HE, HBC⟩ := hcut
      clear HAL8 HBW HBE HSB HA8 hA2000 HAT
      have hlL := HE.out.len
      go_upto_region 9 with fail
      go_cut [12] (fun s12 wx => ∃ (g : Nat) (v1 v2 v3 : Value) (l1 l2 l3 : List Nat), s12 = .slice (some ⟨g, 0, none⟩) 3 3 ∧ Hid (Laid wx g 23 [v1, v2, v3] ∧ El wx v1 l1 ∧ El wx v2 l2 ∧ El wx v3 l3 ∧ Below w.heap.size w wx))
      case first =>
        have HFEW := Lib.hid (fun (W : World) (hb : Below w.heap.size w W) => HF2.out W (row_keeps HVR.out hb))
        have HB := Lib.hid (HBC.out.trans (Below.refl _ wc).drew)
        have HW := Lib.hid ((Below.refl wc.heap.size wc).drew)
        rw [show ((60 : Nat) : Int) = 60 from rfl] at HFEW
        have HFL := Lib.hid (show (frameN 1 T).length ≤ 3000 by have := frameN_len (n := 1) (by decide) (b := T) (by omega); omega)
        obtain ⟨ra, rc, rfl, hrc, hrm, _, hrn⟩ := id HVR.out
        rcases ra with _ | ra
        · obtain ⟨rfl, rfl⟩ := hrn rfl
          have hT0 : T = [] := by have h := HTN.out; cases T with | nil => rfl | cons _ _ => simp [natI] at h
          have HFRM := Lib.hid (fun (W : World) (hb : Below w.heap.size w W) => refFrame_any 1 (.slice none 0 0) T W (by decide) (by rw [hT0]; exact row_none _ _) HT8.out (by omega))
          clear hT0
          go_region_held3 (fun _ : World => True) (first | trivial) (first
            | (go_at_call 6; refine (HFEW.out _ HB.out).mono ?_; rintro e w3 ⟨q1, rfl, hq1, hb3⟩; have HQ1 := Lib.hid hq1; obtain ⟨qa, qc, rfl, _, _⟩ := fresh_elems hq1; have HB3 := Lib.hid (below_then HB.out hb3); have HW3 := Lib.hid (below_then HW.out hb3); clear hq1 hb3)
            | (go_at_call 9; refine (HFRM.out _ HB3.out).mono ?_; rintro e w4 ⟨q2, rfl, hq2, hb4⟩; have HQ2 := Lib.hid hq2; obtain ⟨pa, pc, rfl, _, _⟩ := fresh_elems hq2; have HQ14 := Lib.hid (fresh_keeps HQ1.out hb4); have HB4 := Lib.hid (below_then HB3.out hb4); have HW4 := Lib.hid (below_then HW3.out hb4); clear hq2 hb4))
          all_goals
            go_wp2_with fail
            go_meet
            have hba : Below w4.heap.size w4 (w4.alloc (.cells #[.slice qa (natI R).length qc, .slice ab L.length cb, .slice pa (natI (frameN 1 T)).length pc] 23)) := (Below.refl _ w4).alloc (Nat.le_refl _) _
            exact ⟨w4.heap.size, .slice qa (natI R).length qc, .slice ab L.length cb, .slice pa (natI (frameN 1 T)).length pc, R, L, frameN 1 T, rfl, Lib.hid ⟨Laid.new w4 _ _, (El.fresh HQ14.out HR8.out (by omega)).below hba, (HE.out.below HW4.out).below hba, (El.fresh HQ2.out (frameN_lt HT8.out) HFL.out).below hba, below_then HB4.out hba⟩⟩
        · have HFRM := Lib.hid (fun (W : World) (hb : Below w.heap.size w W) => refFrame_any 1 (.slice (some ra) (min raw.length 5) rc) T W (by decide) (by rw [← HTN.out]; have h := row_cut (row_keeps HVR.out hb) (Nat.min_le_left raw.length 5); rwa [show raw.take (min raw.length 5) = raw.take 5 by (rw [Nat.min_comm, ← List.take_take, List.take_length])] at h) HT8.out (by omega))
          by_cases h55 : 5 < raw.length
          · rw [Nat.min_eq_right (by omega)] at HFRM
            have hI1 : (5 : Int) ≤ (rc : Int) := by omega
            have hI2 : (5 : Int) < (raw.length : Int) := by omega
            go_region_held3 (fun _ : World => True) (first | trivial) (first
              | (go_at_call 6; refine (HFEW.out _ HB.out).mono ?_; rintro e w3 ⟨q1, rfl, hq1, hb3⟩; have HQ1 := Lib.hid hq1; obtain ⟨qa, qc, rfl, _, _⟩ := fresh_elems hq1; have HB3 := Lib.hid (below_then HB.out hb3); have HW3 := Lib.hid (below_then HW.out hb3); clear hq1 hb3)
              | (go_at_call 9; refine (HFRM.out _ HB3.out).mono ?_; rintro e w4 ⟨q2, rfl, hq2, hb4⟩; have HQ2 := Lib.hid hq2; obtain ⟨pa, pc, rfl, _, _⟩ := fresh_elems hq2; have HQ14 := Lib.hid (fresh_keeps HQ1.out hb4); have HB4 := Lib.hid (below_then HB3.out hb4); have HW4 := Lib.hid (below_then HW3.out hb4); clear hq2 hb4))
            all_goals
              go_wp2_with fail
              go_meet
              have hba : Below w4.heap.size w4 (w4.alloc (.cells #[.slice qa (natI R).length qc, .slice ab L.length cb, .slice pa (natI (frameN 1 T)).length pc] 23)) := (Below.refl _ w4).alloc (Nat.le_refl _) _
              exact ⟨w4.heap.size, .slice qa (natI R).length qc, .slice ab L.length cb, .slice pa (natI (frameN 1 T)).length pc, R, L, frameN 1 T, rfl, Lib.hid ⟨Laid.new w4 _ _, (El.fresh HQ14.out HR8.out (by omega)).below hba, (HE.out.below HW4.out).below hba, (El.fresh HQ2.out (frameN_lt HT8.out) HFL.out).below hba, below_then HB4.out hba⟩⟩
          · rw [Nat.min_eq_left (by omega)] at HFRM
            have hI1 : (raw.length : Int) ≤ (rc : Int) := by omega
            have hI2 : ¬ (5 : Int) < (raw.length : Int) := by omega
            have hI3 : (0 : Int) ≤ (raw.length : Int) := by omega
            have hI4 : (if (5 : Int) < (raw.length : Int) then (5 : Int) else (raw.length : Int)) = (raw.length : Int) := if_neg hI2
            have hI5 : (if (raw.length : Int) < (5 : Int) then (raw.length : Int) else (5 : Int)) = (raw.length : Int) := by split <;> omega
            have hI6 : min (raw.length : Int) 5 = (raw.length : Int) := by omega
            go_region_held3 (fun _ : World => True) (first | trivial) (first
              | (go_at_call 6; refine (HFEW.out _ HB.out).mono ?_; rintro e w3 ⟨q1, rfl, hq1, hb3⟩; have HQ1 := Lib.hid hq1; obtain ⟨qa, qc, rfl, _, _⟩ := fresh_elems hq1; have HB3 := Lib.hid (below_then HB.out hb3); have HW3 := Lib.hid (below_then HW.out hb3); clear hq1 hb3)
              | (go_at_call 9; refine (HFRM.out _ HB3.out).mono ?_; rintro e w4 ⟨q2, rfl, hq2, hb4⟩; have HQ2 := Lib.hid hq2; obtain ⟨pa, pc, rfl, _, _⟩ := fresh_elems hq2; have HQ14 := Lib.hid (fresh_keeps HQ1.out hb4); have HB4 := Lib.hid (below_then HB3.out hb4); have HW4 := Lib.hid (below_then HW3.out hb4); clear hq2 hb4))
            all_goals
              go_wp2_with fail
              go_meet
              have hba : Below w4.heap.size w4 (w4.alloc (.cells #[.slice qa (natI R).length qc, .slice ab L.length cb, .slice pa (natI (frameN 1 T)).length pc] 23)) := (Below.refl _ w4).alloc (Nat.le_refl _) _
              exact ⟨w4.heap.size, .slice qa (natI R).length qc, .slice ab L.length cb, .slice pa (natI (frameN 1 T)).length pc, R, L, frameN 1 T, rfl, Lib.hid ⟨Laid.new w4 _ _, (El.fresh HQ14.out HR8.out (by omega)).below hba, (HE.out.below HW4.out).below hba, (El.fresh HQ2.out (frameN_lt HT8.out) HFL.out).below hba, below_then HB4.out hba⟩⟩
      obtain ⟨g, v1, v2, v3, l1, l2, l3, rfl, HLS⟩ := hcut
      clear HE HBC HF2 HTN HVR HR8 HT8
      rename World => w7
      go_wp2_with fail
      go_loopw [13] (fun s13 wr => ∃ k : Nat, k ≤ 3 ∧ s13 = .int .i64 (k : Int) ∧ Hid (Below w7.heap.size w7 wr)) (fun s13 _ => 3 - (intOf s13).toNat)
      case atStart => exact ⟨0, Nat.zero_le _, rfl, Lib.hid (Below.refl _ _)⟩
      case round =>
        obtain ⟨k, hk, rfl, HBE⟩ := hrel
        by_cases hk3 : k < 3
        · obtain ⟨vk, lk, hck, HEK⟩ : ∃ vk lk, wr.cell? ⟨g, k, none⟩ = some vk ∧ Hid (El wr vk lk) := by
            obtain ⟨hL, h1, h2, h3, _⟩ := HLS.out
            have hcell : ∀ (j : Nat) (u : Value), [v1, v2, v3][j]? = some u → wr.cell? ⟨g, j, none⟩ = some u := fun j u hu => by
              have h := (hL.cell j).trans hu
              exact (HBE.out.cell (p := ⟨g, j, none⟩) (World.block_lt_of_cell? _ _ h)).trans h
            rcases (show k = 0 ∨ k = 1 ∨ k = 2 by omega) with rfl | rfl | rfl
            · exact ⟨v1, l1, hcell 0 v1 rfl, Lib.hid (h1.below HBE.out)⟩
            · exact ⟨v2, l2, hcell 1 v2 rfl, Lib.hid (h2.below HBE.out)⟩
            · exact ⟨v3, l3, hcell 2 v3 rfl, Lib.hid (h3.below HBE.out)⟩
          have HS1 := Lib.hid (devScan_any vk lk wr HEK.out.row HEK.out.b8 HEK.out.blk (by have := HEK.out.len; omega))
          have HS2 := Lib.hid (fun (W : World) (h : El W vk lk) => refScan_any vk lk W h.row h.plain h.b8 h.blk (by have := h.len; omega))
          have HSHORT := Lib.hid (scan_short HEK.out.b8)
          have HSUM := Lib.hid (scanP_sum lk.length 0 lk (Nat.le_refl _))
          have hrl : ((scanP 0 lk).map Prod.fst).length ≤ 3000 := by rw [List.length_map]; have := HSUM.out.2.1; have := HEK.out.len; omega
          have HAL3 : Hid (∀ x ∈ (scanP 0 lk).map Prod.fst, x.length ≤ 100000) := Lib.hid (fun x hx => by have := HSHORT.out x hx; have := HEK.out.len; omega)
          unfold ScanEnd at HS1 HS2
          clear HSHORT HSUM
          generalize (scanP 0 lk).map Prod.fst = RC at *
          generalize ((scanP 0 lk).map Prod.snd).sum = SM at *
          go_wp2_with fail
          refine HS1.out.mono ?_
          rintro e w11 ⟨g1, gs, rfl, hog, hb11⟩
          have HOG := Lib.hid hog
          have HEK11 := Lib.hid (HEK.out.below hb11)
          have hbe11 := below_then HBE.out hb11
          have hck11 := (hb11.cell (p := ⟨g, k, none⟩) (World.block_lt_of_cell? _ _ hck)).trans hck
          clear hog hb11 HS1 HEK hck
          go_wp2_with fail
          refine (HS2.out _ HEK11.out).mono ?_
          rintro e w12 ⟨q, qs, rfl, hoq, hb12⟩
          have HOG12 := Lib.hid (lown_below HOG.out hb12)
          have HOQ := Lib.hid hoq
          have hbe12 := below_then hbe11 hb12
          have qn : ((SM : Int) != (SM : Int)) = false := by simp
          clear hoq hb12 HS2 HEK11 hck11 HOG hbe11
          go_wp2_with fail
          refine (sameLists_any _ _ gs qs RC RC w12 (lrow_of_own HOG12.out) (lrow_of_own HOQ.out) HAL3.out HAL3.out (by rw [HOG12.out.len]; omega) (by rw [HOQ.out.len]; omega)).mono ?_
          rintro e w13 ⟨rfl, hb13⟩
          rw [decide_eq_true (rfl : RC = RC)]
          have HBE13 := Lib.hid (below_then hbe12 hb13)
          clear hb13 hbe12 HOG12 HOQ qn
          go_wp2_with fail
          go_roundw
          case rel => exact ⟨k + 1, by omega, by go_num, HBE13⟩
          case measure => simp [intOf]; omega
        · go_wp2_with fail
          refine (lives6_any _).mono ?_
          rintro e w15 ⟨rfl, hb15⟩
          have hbw15 := below_then (HLS.out.2.2.2.2.trans (Keeps.of_below HBE.out |>.below HLS.out.2.2.2.2.size (fun k hk => by have := HLS.out.2.2.2.2.size; omega))) hb15
          clear hb15
          go_wp2_with fail
          go_ret
          exact ⟨rfl, hbw15⟩
end Go.Proofs.Ytigjcnjhmhepeaa
