/-
  The law DiskPlan.
-/
import Derived.Test.YtmamohnlallfeaaDmx
namespace Go.Proofs.Ytmamohnlallfeaa
open Go.RowKit Go.Shelf
set_option linter.unusedVariables false
set_option maxRecDepth 100000

def PlanI (s : St) (i q sz : Nat) : Prop := s.B = oneB 1 (List.replicate sz 5) ∧ s.on = decide (i ≤ q) ∧ (i ≤ q → s.left = (q : Int) - (i : Int))
theorem step_plan {on : Bool} {left : Int} {i q : Nat} (h1 : on = decide (i ≤ q)) (h2 : i ≤ q → left = (q : Int) - (i : Int)) : stepOn on left = decide (i < q) := by
  subst h1
  unfold stepOn
  by_cases hi : i ≤ q
  · rw [h2 hi, decide_eq_true hi]
    by_cases hq : i < q
    · rw [decide_eq_true hq, decide_eq_false (show ¬ ((q : Int) - (i : Int) = 0) by omega)]; rfl
    · rw [decide_eq_false hq, decide_eq_true (show (q : Int) - (i : Int) = 0 by omega)]; rfl
  · rw [decide_eq_false hi, decide_eq_false (show ¬ i < q by omega)]; rfl
theorem plan_pstep {s : St} {i q sz : Nat} (h : PlanI s i q sz) : (pStep s).1 = (if i < q then 0 else 23) ∧ PlanI (pStep s).2 (i + 1) q sz := by
  obtain ⟨hB, h1, h2⟩ := h
  unfold pStep
  rw [step_plan h1 h2]
  by_cases hq : i < q
  · rw [if_pos (decide_eq_true hq), if_pos hq]
    exact ⟨rfl, hB, by show s.on = _; rw [h1, decide_eq_true (by omega), decide_eq_true (by omega)], fun _ => by show max (s.left - 1) (-1) = _; rw [h2 (by omega)]; omega⟩
  · rw [if_neg (by rw [decide_eq_false hq]; decide), if_neg hq]
    exact ⟨rfl, hB, by show false = _; rw [decide_eq_false (by omega)], fun h => by omega⟩
theorem plan_used {s : St} {i q sz : Nat} (h : PlanI s i q sz) : sumB s.B = sz := by
  rw [h.1]
  show sumB (setB _ _ _) = _
  rw [sum_one (by decide), List.length_replicate]
theorem plan_app {s : St} {i q sz : Nat} (h : PlanI s i q sz) (hsz : sz ≤ 12) : (pApp 1000 s 1 [5]).1 = (if i < q then 0 else 23) ∧ PlanI (pApp 1000 s 1 [5]).2 (i + 1) q (if i ≤ q then sz + 1 else sz) := by
  have hu := plan_used h
  unfold pApp
  rw [isF_true (by decide), if_neg (fun h => by cases h)]
  by_cases hi : i ≤ q
  · rw [if_neg (by rw [h.2.1, decide_eq_true hi]; decide), if_neg (by rw [hu]; simp; omega), if_pos hi]
    refine plan_pstep (s := { s with B := setB s.B (1 : Int).toNat (s.B (1 : Int).toNat ++ [5]) }) ⟨?_, h.2.1, h.2.2⟩
    show setB s.B 1 (s.B 1 ++ [5]) = _
    rw [h.1, oneB_at, List.replicate_succ']
    funext j
    unfold oneB setB
    by_cases hj : j = 1
    · rw [if_pos hj, if_pos hj]
    · rw [if_neg hj, if_neg hj, if_neg hj]
  · rw [if_pos (by rw [h.2.1, decide_eq_false hi]), if_neg hi, if_neg (by omega)]
    exact ⟨rfl, h.1, by show s.on = _; rw [h.2.1, decide_eq_false hi, decide_eq_false (by omega)], fun h => by omega⟩
theorem plan_sync {s : St} {i q sz : Nat} (h : PlanI s i q sz) : (pSync s).1 = (if i < q then 0 else 23) ∧ PlanI (pSync s).2 (i + 1) q sz := by
  obtain ⟨hB, h1, h2⟩ := h
  unfold pSync
  rw [step_plan h1 h2]
  by_cases hq : i < q
  · rw [if_pos (decide_eq_true hq), if_pos hq]
    exact ⟨rfl, hB, by show s.on = _; rw [h1, decide_eq_true (by omega), decide_eq_true (by omega)], fun _ => by show max (s.left - 1) (-1) = _; rw [h2 (by omega)]; omega⟩
  · rw [if_neg (by rw [decide_eq_false hq]; decide), if_neg hq]
    exact ⟨rfl, hB, by show false = _; rw [decide_eq_false (by omega)], fun h => by omega⟩
theorem plan_trunc {s : St} {i q sz : Nat} (h : PlanI s i q sz) (hsz : 0 < sz) : (pTrunc s 1 ((sz : Int) - 1)).1 = (if i < q then 0 else 23) ∧ PlanI (pTrunc s 1 ((sz : Int) - 1)).2 (i + 1) q (if i < q then sz - 1 else sz) := by
  obtain ⟨hB, h1, h2⟩ := h
  have hl : (s.B (1 : Int).toNat).length = sz := by show (s.B 1).length = sz; rw [hB, oneB_at, List.length_replicate]
  unfold pTrunc
  rw [if_neg (fun hn => hn ⟨isF_true (by decide), by omega, by rw [hl]; omega⟩), step_plan h1 h2]
  by_cases hq : i < q
  · rw [if_pos (decide_eq_true hq), if_pos hq, if_pos hq]
    refine ⟨rfl, ?_, by show s.on = _; rw [h1, decide_eq_true (by omega), decide_eq_true (by omega)], fun _ => by show max (s.left - 1) (-1) = _; rw [h2 (by omega)]; omega⟩
    show setB s.B 1 ((s.B 1).take ((sz : Int) - 1).toNat) = _
    rw [hB, oneB_at, List.take_replicate, show min ((sz : Int) - 1).toNat sz = sz - 1 by omega]
    funext j
    unfold oneB setB
    by_cases hj : j = 1
    · rw [if_pos hj, if_pos hj]
    · rw [if_neg hj, if_neg hj, if_neg hj]
  · rw [if_neg (by rw [decide_eq_false hq]; decide), if_neg hq, if_neg hq]
    exact ⟨rfl, hB, by show false = _; rw [decide_eq_false (by omega)], fun h => by omega⟩
theorem plan_start (q : Nat) : PlanI (pArm pNew (q : Int)) 0 q 0 :=
  ⟨new_one 1, rfl, fun _ => by show armL true (-1) (q : Int) = _; unfold armL; rw [if_pos rfl]; omega⟩
theorem plan_end {s : St} {i q sz : Nat} (h : PlanI s i q sz) (hsz : sz ≤ 12) :
    (pRead (pCrash s [1000] (-1)) 1).1 = 0 ∧ (pRead (pCrash s [1000] (-1)) 1).2 = List.replicate sz 5 ∧ (pCrash s [1000] (-1)).on = true ∧ (pSync (pCrash s [1000] (-1))).1 = 0 := by
  obtain ⟨on, left, B, D⟩ := s
  obtain ⟨hB, _, _⟩ := h
  have hB2 : B = oneB 1 (List.replicate sz 5) := hB
  subst hB2
  have hc := crash_one (k := 1) (by decide) (List.replicate sz 5) on left D [1000] (-1)
  have hz : crashL (List.replicate sz 5) (D 1) (keepAt [1000] 0) (-1) = List.replicate sz 5 := by
    unfold crashL
    rw [if_neg (by omega)]
    refine List.take_of_length_le ?_
    rw [List.length_replicate]
    show sz ≤ D 1 + lostN 1000 (sz - D 1)
    unfold lostN
    omega
  rw [hz] at hc
  obtain ⟨h1, h2⟩ := read_one (k := 1) (by decide) (s := pCrash ⟨on, left, oneB 1 (List.replicate sz 5), D⟩ [1000] (-1)) rfl hc
  exact ⟨h1, h2, rfl, by rw [sync_one rfl rfl]⟩
theorem around_q (n : Int) (m : Nat) (hm : 0 < m) : ∃ q : Nat, aroundI n m = (q : Int) ∧ q < m := by
  have h1 := Int.emod_nonneg (if n < 0 then -(n + 1) else n) (show (m : Int) ≠ 0 by omega)
  have h2 := Int.emod_lt_of_pos (if n < 0 then -(n + 1) else n) (show (0 : Int) < (m : Int) by omega)
  unfold aroundI
  exact ⟨((if n < 0 then -(n + 1) else n) % (m : Int)).toNat, by omega, by omega⟩

set_option maxHeartbeats 16000000 in
theorem walk_DiskPlan (n : Int) (vk : Value) (kinds : List Int) (w : World) (hn : -9223372036854775808 ≤ n ∧ n ≤ 9223372036854775807) (hvk : Row .i64 w vk kinds) (hkr : ∀ x ∈ kinds, -9223372036854775808 ≤ x ∧ x ≤ 9223372036854775807) :
    Calls Try.prog 7 #[.int .i64 n, vk] w fun e w' => e = .returned (.bool true) ∧ Below w.heap.size w w' := by
  obtain ⟨ka, kcap, rfl, hk1, hk2, hkc, _⟩ := hvk
  have HKC := Lib.hid hkc
  have HKR := Lib.hid hkr
  have HN := Lib.hid hn
  obtain ⟨q, hq, hq8⟩ := around_q n 8 (by decide)
  have HQ : Hid (aroundI n (8 : Nat) = (q : Int)) := Lib.hid hq
  clear hkc hkr hn hq
  have hkl : (kinds.length : Int) ≤ 9223372036854775807 := by omega
  clear hk1 hk2
  go_enter Try.func7, Try.ntmps7
  go_wp2_with fail
  refine (newS_any 1000 w (by decide)).mono ?_
  rintro e w1 ⟨d, A0, rfl, hd, hA0, hb⟩
  have D1 : Hid (Dsk w.heap.size w1 (fun k => A0 k ∧ k < w1.heap.size) d 1000 pNew) := Lib.hid (Dsk.made (n := w.heap.size) hd hA0 (Nat.le_refl _))
  have B1 := Lib.hid hb
  clear hd hA0 hb
  generalize (fun k => A0 k ∧ k < w1.heap.size) = A1 at D1
  go_wp2_with fail
  refine (around_any n 8 w1 HN.out (by decide) (by decide)).mono ?_
  rintro e w2 ⟨rfl, rfl⟩
  rw [HQ.out]
  go_wp2_with fail
  refine (armS_any D1.out.dk (q : Int) (by omega)).mono ?_
  rintro e w2 ⟨rfl, hu⟩
  obtain ⟨A2, hd, _, _, hb⟩ := D1.out.up hu B1.out.size
  have D2 := Lib.hid hd
  have B2 := Lib.hid (B1.out.trans hb)
  clear hu hd hb D1 B1
  go_wp2_with fail
  go_loopw [8, 9] (fun s8 s9 wr => ∃ (i sz : Nat) (A : Foot) (s : St), s8 = .int .i64 (sz : Int) ∧ s9 = .int .i64 (i : Int) ∧ i ≤ 12 ∧ sz ≤ i ∧ Hid (PlanI s i q sz) ∧ Hid (Dsk w.heap.size wr A d 1000 s) ∧ Hid (Below w.heap.size w wr)) (fun _ s9 _ => 12 - (intOf s9).toNat)
  case atStart => exact ⟨0, 0, A2, _, rfl, rfl, by omega, Nat.le_refl _, Lib.hid (plan_start q), D2, B2⟩
  case round =>
    clear D2 B2
    obtain ⟨i, sz, A, s, rfl, rfl, hi, hsi, HP, HD, HB⟩ := hrel
    by_cases hlt : i < kinds.length ∧ i < 12
    · obtain ⟨hlt1, hlt2⟩ := hlt
      obtain ⟨gk, off, rfl, hcells⟩ := HKC.out (fun e => by rw [e] at hlt1; simp at hlt1)
      have hck := hcells i hlt1
      have hck2 := (HB.out.cell (World.block_lt_of_cell? _ _ hck)).trans hck
      have hzr := HKR.out (kinds[i]) (List.getElem_mem hlt1)
      have hze : (kinds[i]?).getD 0 = kinds[i] := by rw [List.getElem?_eq_getElem hlt1]; rfl
      rw [hze] at hck2
      obtain ⟨z, hz⟩ : ∃ z, kinds[i] = z := ⟨_, rfl⟩
      rw [hz] at hck2 hzr
      obtain ⟨kk, hkk, hkk3⟩ := around_q z 3 (by decide)
      have HZR := Lib.hid hzr
      have HKK : Hid (aroundI z (3 : Nat) = (kk : Int)) := Lib.hid hkk
      clear hcells hck hze hz hzr hkk
      by_cases hk0 : kk = 0
      · rcases Nat.lt_trichotomy i q with hcmp | hcmp | hcmp
        · have hc1 : ¬ q ≤ i := by omega
          have hc2 : i ≤ q := by omega
          have hc3 : i < q := by omega
          have hkv : aroundI z (3 : Nat) = 0 := by rw [HKK.out]; omega
          have HKV := Lib.hid hkv
          clear hkv
          obtain ⟨hp1, hp2⟩ := plan_app HP.out (by omega)
          rw [if_pos hc3] at hp1
          rw [if_pos hc2] at hp2
          have hon : (pApp 1000 s 1 [5]).2.on = true := by rw [hp2.2.1]; exact decide_eq_true (by omega)
          have hus : (sumB (pApp 1000 s 1 [5]).2.B : Int) = (sz : Int) + 1 := by have := plan_used hp2; omega
          have HF := Lib.hid (And.intro hp1 (And.intro hon hus))
          have HP2 := Lib.hid hp2
          clear hp1 hp2 hon hus HP hcmp
          go_wp2_with fail
          refine (around_any z 3 wr HZR.out (by decide) (by decide)).mono ?_
          rintro e w2 ⟨rfl, rfl⟩
          rw [HKV.out]
          have HD2 := Lib.hid (HD.out.below ((Below.refl _ wr).alloc (Nat.le_refl _) (.cells #[.int .u8 5] 5)))
          have HB2 := Lib.hid (HB.out.alloc HB.out.size (.cells #[.int .u8 5] 5))
          have R2 := Lib.hid (lit_u8 wr [5] (by decide))
          go_wp2_with fail
          refine (appS_any HD2.out.dk 1 _ 1 [5] R2.out (by decide) (by decide)).mono ?_
          rintro e w3 ⟨rfl, hu⟩
          obtain ⟨A3, hd, _, _, hb⟩ := HD2.out.up hu HB2.out.size
          rw [HF.out.1]
          have D3 := Lib.hid hd
          have B3 := Lib.hid (HB2.out.trans hb)
          clear hu hd hb HD HB HD2 HB2
          generalize (pApp 1000 s 1 [5]).2 = s3 at *
          go_wp2_with fail
          refine (onS_any D3.out.dk).mono ?_
          rintro e w4 ⟨rfl, rfl⟩
          rw [HF.out.2.1]
          go_wp2_with fail
          refine (usedS_any D3.out.dk).mono ?_
          rintro e w5 ⟨rfl, hb⟩
          rw [HF.out.2.2]
          have D5 := Lib.hid (D3.out.below hb)
          have B5 := Lib.hid (B3.out.trans (hb.mono B3.out.size))
          clear hb D3 B3
          go_wp2_with fail
          refine ⟨⟨i + 1, sz + 1, A3, s3, by rw [Int.natCast_add]; rfl, by rw [Int.natCast_add]; rfl, by omega, by omega, HP2, D5, B5⟩, by simp only [intOf]; omega⟩
        · have hc1 : q ≤ i := by omega
          have hc2 : i ≤ q := by omega
          have hc3 : ¬ i < q := by omega
          have hkv : aroundI z (3 : Nat) = 0 := by rw [HKK.out]; omega
          have HKV := Lib.hid hkv
          clear hkv
          obtain ⟨hp1, hp2⟩ := plan_app HP.out (by omega)
          rw [if_neg hc3] at hp1
          rw [if_pos hc2] at hp2
          have hon : (pApp 1000 s 1 [5]).2.on = false := by rw [hp2.2.1]; exact decide_eq_false (by omega)
          have hus : (sumB (pApp 1000 s 1 [5]).2.B : Int) = (sz : Int) + 1 := by have := plan_used hp2; omega
          have HF := Lib.hid (And.intro hp1 (And.intro hon hus))
          have HP2 := Lib.hid hp2
          clear hp1 hp2 hon hus HP hcmp
          go_wp2_with fail
          refine (around_any z 3 wr HZR.out (by decide) (by decide)).mono ?_
          rintro e w2 ⟨rfl, rfl⟩
          rw [HKV.out]
          have HD2 := Lib.hid (HD.out.below ((Below.refl _ wr).alloc (Nat.le_refl _) (.cells #[.int .u8 5] 5)))
          have HB2 := Lib.hid (HB.out.alloc HB.out.size (.cells #[.int .u8 5] 5))
          have R2 := Lib.hid (lit_u8 wr [5] (by decide))
          go_wp2_with fail
          refine (appS_any HD2.out.dk 1 _ 1 [5] R2.out (by decide) (by decide)).mono ?_
          rintro e w3 ⟨rfl, hu⟩
          obtain ⟨A3, hd, _, _, hb⟩ := HD2.out.up hu HB2.out.size
          rw [HF.out.1]
          have D3 := Lib.hid hd
          have B3 := Lib.hid (HB2.out.trans hb)
          clear hu hd hb HD HB HD2 HB2
          generalize (pApp 1000 s 1 [5]).2 = s3 at *
          go_wp2_with fail
          refine (onS_any D3.out.dk).mono ?_
          rintro e w4 ⟨rfl, rfl⟩
          rw [HF.out.2.1]
          go_wp2_with fail
          refine (usedS_any D3.out.dk).mono ?_
          rintro e w5 ⟨rfl, hb⟩
          rw [HF.out.2.2]
          have D5 := Lib.hid (D3.out.below hb)
          have B5 := Lib.hid (B3.out.trans (hb.mono B3.out.size))
          clear hb D3 B3
          go_wp2_with fail
          refine ⟨⟨i + 1, sz + 1, A3, s3, by rw [Int.natCast_add]; rfl, by rw [Int.natCast_add]; rfl, by omega, by omega, HP2, D5, B5⟩, by simp only [intOf]; omega⟩
        · have hc1 : q ≤ i := by omega
          have hc2 : ¬ i ≤ q := by omega
          have hc3 : ¬ i < q := by omega
          have hkv : aroundI z (3 : Nat) = 0 := by rw [HKK.out]; omega
          have HKV := Lib.hid hkv
          clear hkv
          obtain ⟨hp1, hp2⟩ := plan_app HP.out (by omega)
          rw [if_neg hc3] at hp1
          rw [if_neg hc2] at hp2
          have hon : (pApp 1000 s 1 [5]).2.on = false := by rw [hp2.2.1]; exact decide_eq_false (by omega)
          have hus : (sumB (pApp 1000 s 1 [5]).2.B : Int) = (sz : Int) := by have := plan_used hp2; omega
          have HF := Lib.hid (And.intro hp1 (And.intro hon hus))
          have HP2 := Lib.hid hp2
          clear hp1 hp2 hon hus HP hcmp
          go_wp2_with fail
          refine (around_any z 3 wr HZR.out (by decide) (by decide)).mono ?_
          rintro e w2 ⟨rfl, rfl⟩
          rw [HKV.out]
          have HD2 := Lib.hid (HD.out.below ((Below.refl _ wr).alloc (Nat.le_refl _) (.cells #[.int .u8 5] 5)))
          have HB2 := Lib.hid (HB.out.alloc HB.out.size (.cells #[.int .u8 5] 5))
          have R2 := Lib.hid (lit_u8 wr [5] (by decide))
          go_wp2_with fail
          refine (appS_any HD2.out.dk 1 _ 1 [5] R2.out (by decide) (by decide)).mono ?_
          rintro e w3 ⟨rfl, hu⟩
          obtain ⟨A3, hd, _, _, hb⟩ := HD2.out.up hu HB2.out.size
          rw [HF.out.1]
          have D3 := Lib.hid hd
          have B3 := Lib.hid (HB2.out.trans hb)
          clear hu hd hb HD HB HD2 HB2
          generalize (pApp 1000 s 1 [5]).2 = s3 at *
          go_wp2_with fail
          refine (onS_any D3.out.dk).mono ?_
          rintro e w4 ⟨rfl, rfl⟩
          rw [HF.out.2.1]
          go_wp2_with fail
          refine (usedS_any D3.out.dk).mono ?_
          rintro e w5 ⟨rfl, hb⟩
          rw [HF.out.2.2]
          have D5 := Lib.hid (D3.out.below hb)
          have B5 := Lib.hid (B3.out.trans (hb.mono B3.out.size))
          clear hb D3 B3
          go_wp2_with fail
          refine ⟨⟨i + 1, sz, A3, s3, rfl, by rw [Int.natCast_add]; rfl, by omega, by omega, HP2, D5, B5⟩, by simp only [intOf]; omega⟩
      · by_cases hk1 : kk = 1
        · rcases Nat.lt_trichotomy i q with hcmp | hcmp | hcmp
          · have hc1 : ¬ q ≤ i := by omega
            have hc2 : i ≤ q := by omega
            have hc3 : i < q := by omega
            have hkv : aroundI z (3 : Nat) = 1 := by rw [HKK.out]; omega
            have HKV := Lib.hid hkv
            clear hkv
            obtain ⟨hp1, hp2⟩ := plan_sync HP.out
            rw [if_pos hc3] at hp1
            have hon : (pSync s).2.on = true := by rw [hp2.2.1]; exact decide_eq_true (by omega)
            have hus : (sumB (pSync s).2.B : Int) = (sz : Int) := by have := plan_used hp2; omega
            have HF := Lib.hid (And.intro hp1 (And.intro hon hus))
            have HP2 := Lib.hid hp2
            clear hp1 hp2 hon hus HP hcmp
            go_wp2_with fail
            refine (around_any z 3 wr HZR.out (by decide) (by decide)).mono ?_
            rintro e w2 ⟨rfl, rfl⟩
            rw [HKV.out]
            have HD2 := HD
            have HB2 := HB
            go_wp2_with fail
            refine (syncS_any HD2.out.dk).mono ?_
            rintro e w3 ⟨rfl, hu⟩
            obtain ⟨A3, hd, _, _, hb⟩ := HD2.out.up hu HB2.out.size
            rw [HF.out.1]
            have D3 := Lib.hid hd
            have B3 := Lib.hid (HB2.out.trans hb)
            clear hu hd hb HD HB HD2 HB2
            generalize (pSync s).2 = s3 at *
            go_wp2_with fail
            refine (onS_any D3.out.dk).mono ?_
            rintro e w4 ⟨rfl, rfl⟩
            rw [HF.out.2.1]
            go_wp2_with fail
            refine (usedS_any D3.out.dk).mono ?_
            rintro e w5 ⟨rfl, hb⟩
            rw [HF.out.2.2]
            have D5 := Lib.hid (D3.out.below hb)
            have B5 := Lib.hid (B3.out.trans (hb.mono B3.out.size))
            clear hb D3 B3
            go_wp2_with fail
            refine ⟨⟨i + 1, sz, A3, s3, rfl, by rw [Int.natCast_add]; rfl, by omega, by omega, HP2, D5, B5⟩, by simp only [intOf]; omega⟩
          · have hc1 : q ≤ i := by omega
            have hc2 : i ≤ q := by omega
            have hc3 : ¬ i < q := by omega
            have hkv : aroundI z (3 : Nat) = 1 := by rw [HKK.out]; omega
            have HKV := Lib.hid hkv
            clear hkv
            obtain ⟨hp1, hp2⟩ := plan_sync HP.out
            rw [if_neg hc3] at hp1
            have hon : (pSync s).2.on = false := by rw [hp2.2.1]; exact decide_eq_false (by omega)
            have hus : (sumB (pSync s).2.B : Int) = (sz : Int) := by have := plan_used hp2; omega
            have HF := Lib.hid (And.intro hp1 (And.intro hon hus))
            have HP2 := Lib.hid hp2
            clear hp1 hp2 hon hus HP hcmp
            go_wp2_with fail
            refine (around_any z 3 wr HZR.out (by decide) (by decide)).mono ?_
            rintro e w2 ⟨rfl, rfl⟩
            rw [HKV.out]
            have HD2 := HD
            have HB2 := HB
            go_wp2_with fail
            refine (syncS_any HD2.out.dk).mono ?_
            rintro e w3 ⟨rfl, hu⟩
            obtain ⟨A3, hd, _, _, hb⟩ := HD2.out.up hu HB2.out.size
            rw [HF.out.1]
            have D3 := Lib.hid hd
            have B3 := Lib.hid (HB2.out.trans hb)
            clear hu hd hb HD HB HD2 HB2
            generalize (pSync s).2 = s3 at *
            go_wp2_with fail
            refine (onS_any D3.out.dk).mono ?_
            rintro e w4 ⟨rfl, rfl⟩
            rw [HF.out.2.1]
            go_wp2_with fail
            refine (usedS_any D3.out.dk).mono ?_
            rintro e w5 ⟨rfl, hb⟩
            rw [HF.out.2.2]
            have D5 := Lib.hid (D3.out.below hb)
            have B5 := Lib.hid (B3.out.trans (hb.mono B3.out.size))
            clear hb D3 B3
            go_wp2_with fail
            refine ⟨⟨i + 1, sz, A3, s3, rfl, by rw [Int.natCast_add]; rfl, by omega, by omega, HP2, D5, B5⟩, by simp only [intOf]; omega⟩
          · have hc1 : q ≤ i := by omega
            have hc2 : ¬ i ≤ q := by omega
            have hc3 : ¬ i < q := by omega
            have hkv : aroundI z (3 : Nat) = 1 := by rw [HKK.out]; omega
            have HKV := Lib.hid hkv
            clear hkv
            obtain ⟨hp1, hp2⟩ := plan_sync HP.out
            rw [if_neg hc3] at hp1
            have hon : (pSync s).2.on = false := by rw [hp2.2.1]; exact decide_eq_false (by omega)
            have hus : (sumB (pSync s).2.B : Int) = (sz : Int) := by have := plan_used hp2; omega
            have HF := Lib.hid (And.intro hp1 (And.intro hon hus))
            have HP2 := Lib.hid hp2
            clear hp1 hp2 hon hus HP hcmp
            go_wp2_with fail
            refine (around_any z 3 wr HZR.out (by decide) (by decide)).mono ?_
            rintro e w2 ⟨rfl, rfl⟩
            rw [HKV.out]
            have HD2 := HD
            have HB2 := HB
            go_wp2_with fail
            refine (syncS_any HD2.out.dk).mono ?_
            rintro e w3 ⟨rfl, hu⟩
            obtain ⟨A3, hd, _, _, hb⟩ := HD2.out.up hu HB2.out.size
            rw [HF.out.1]
            have D3 := Lib.hid hd
            have B3 := Lib.hid (HB2.out.trans hb)
            clear hu hd hb HD HB HD2 HB2
            generalize (pSync s).2 = s3 at *
            go_wp2_with fail
            refine (onS_any D3.out.dk).mono ?_
            rintro e w4 ⟨rfl, rfl⟩
            rw [HF.out.2.1]
            go_wp2_with fail
            refine (usedS_any D3.out.dk).mono ?_
            rintro e w5 ⟨rfl, hb⟩
            rw [HF.out.2.2]
            have D5 := Lib.hid (D3.out.below hb)
            have B5 := Lib.hid (B3.out.trans (hb.mono B3.out.size))
            clear hb D3 B3
            go_wp2_with fail
            refine ⟨⟨i + 1, sz, A3, s3, rfl, by rw [Int.natCast_add]; rfl, by omega, by omega, HP2, D5, B5⟩, by simp only [intOf]; omega⟩
        · by_cases hs0 : 0 < sz
          · rcases Nat.lt_trichotomy i q with hcmp | hcmp | hcmp
            · have hc1 : ¬ q ≤ i := by omega
              have hc2 : i ≤ q := by omega
              have hc3 : i < q := by omega
              have hkv : aroundI z (3 : Nat) = 2 := by rw [HKK.out]; omega
              have HKV := Lib.hid hkv
              clear hkv
              obtain ⟨hp1, hp2⟩ := plan_trunc HP.out hs0
              rw [if_pos hc3] at hp1
              rw [if_pos hc3] at hp2
              have hon : (pTrunc s 1 ((sz : Int) - 1)).2.on = true := by rw [hp2.2.1]; exact decide_eq_true (by omega)
              have hus : (sumB (pTrunc s 1 ((sz : Int) - 1)).2.B : Int) = (sz : Int) - 1 := by have := plan_used hp2; omega
              have HF := Lib.hid (And.intro hp1 (And.intro hon hus))
              have HP2 := Lib.hid hp2
              clear hp1 hp2 hon hus HP hcmp
              go_wp2_with fail
              refine (around_any z 3 wr HZR.out (by decide) (by decide)).mono ?_
              rintro e w2 ⟨rfl, rfl⟩
              rw [HKV.out]
              have HD2 := HD
              have HB2 := HB
              go_wp2_with fail
              refine (truncS_any HD2.out.dk 1 ((sz : Int) - 1)).mono ?_
              rintro e w3 ⟨rfl, hu⟩
              obtain ⟨A3, hd, _, _, hb⟩ := HD2.out.up hu HB2.out.size
              rw [HF.out.1]
              have D3 := Lib.hid hd
              have B3 := Lib.hid (HB2.out.trans hb)
              clear hu hd hb HD HB HD2 HB2
              generalize (pTrunc s 1 ((sz : Int) - 1)).2 = s3 at *
              go_wp2_with fail
              refine (onS_any D3.out.dk).mono ?_
              rintro e w4 ⟨rfl, rfl⟩
              rw [HF.out.2.1]
              go_wp2_with fail
              refine (usedS_any D3.out.dk).mono ?_
              rintro e w5 ⟨rfl, hb⟩
              rw [HF.out.2.2]
              have D5 := Lib.hid (D3.out.below hb)
              have B5 := Lib.hid (B3.out.trans (hb.mono B3.out.size))
              clear hb D3 B3
              go_wp2_with fail
              refine ⟨⟨i + 1, sz - 1, A3, s3, by congr 1; omega, by rw [Int.natCast_add]; rfl, by omega, by omega, HP2, D5, B5⟩, by simp only [intOf]; omega⟩
            · have hc1 : q ≤ i := by omega
              have hc2 : i ≤ q := by omega
              have hc3 : ¬ i < q := by omega
              have hkv : aroundI z (3 : Nat) = 2 := by rw [HKK.out]; omega
              have HKV := Lib.hid hkv
              clear hkv
              obtain ⟨hp1, hp2⟩ := plan_trunc HP.out hs0
              rw [if_neg hc3] at hp1
              rw [if_neg hc3] at hp2
              have hon : (pTrunc s 1 ((sz : Int) - 1)).2.on = false := by rw [hp2.2.1]; exact decide_eq_false (by omega)
              have hus : (sumB (pTrunc s 1 ((sz : Int) - 1)).2.B : Int) = (sz : Int) := by have := plan_used hp2; omega
              have HF := Lib.hid (And.intro hp1 (And.intro hon hus))
              have HP2 := Lib.hid hp2
              clear hp1 hp2 hon hus HP hcmp
              go_wp2_with fail
              refine (around_any z 3 wr HZR.out (by decide) (by decide)).mono ?_
              rintro e w2 ⟨rfl, rfl⟩
              rw [HKV.out]
              have HD2 := HD
              have HB2 := HB
              go_wp2_with fail
              refine (truncS_any HD2.out.dk 1 ((sz : Int) - 1)).mono ?_
              rintro e w3 ⟨rfl, hu⟩
              obtain ⟨A3, hd, _, _, hb⟩ := HD2.out.up hu HB2.out.size
              rw [HF.out.1]
              have D3 := Lib.hid hd
              have B3 := Lib.hid (HB2.out.trans hb)
              clear hu hd hb HD HB HD2 HB2
              generalize (pTrunc s 1 ((sz : Int) - 1)).2 = s3 at *
              go_wp2_with fail
              refine (onS_any D3.out.dk).mono ?_
              rintro e w4 ⟨rfl, rfl⟩
              rw [HF.out.2.1]
              go_wp2_with fail
              refine (usedS_any D3.out.dk).mono ?_
              rintro e w5 ⟨rfl, hb⟩
              rw [HF.out.2.2]
              have D5 := Lib.hid (D3.out.below hb)
              have B5 := Lib.hid (B3.out.trans (hb.mono B3.out.size))
              clear hb D3 B3
              go_wp2_with fail
              refine ⟨⟨i + 1, sz, A3, s3, rfl, by rw [Int.natCast_add]; rfl, by omega, by omega, HP2, D5, B5⟩, by simp only [intOf]; omega⟩
            · have hc1 : q ≤ i := by omega
              have hc2 : ¬ i ≤ q := by omega
              have hc3 : ¬ i < q := by omega
              have hkv : aroundI z (3 : Nat) = 2 := by rw [HKK.out]; omega
              have HKV := Lib.hid hkv
              clear hkv
              obtain ⟨hp1, hp2⟩ := plan_trunc HP.out hs0
              rw [if_neg hc3] at hp1
              rw [if_neg hc3] at hp2
              have hon : (pTrunc s 1 ((sz : Int) - 1)).2.on = false := by rw [hp2.2.1]; exact decide_eq_false (by omega)
              have hus : (sumB (pTrunc s 1 ((sz : Int) - 1)).2.B : Int) = (sz : Int) := by have := plan_used hp2; omega
              have HF := Lib.hid (And.intro hp1 (And.intro hon hus))
              have HP2 := Lib.hid hp2
              clear hp1 hp2 hon hus HP hcmp
              go_wp2_with fail
              refine (around_any z 3 wr HZR.out (by decide) (by decide)).mono ?_
              rintro e w2 ⟨rfl, rfl⟩
              rw [HKV.out]
              have HD2 := HD
              have HB2 := HB
              go_wp2_with fail
              refine (truncS_any HD2.out.dk 1 ((sz : Int) - 1)).mono ?_
              rintro e w3 ⟨rfl, hu⟩
              obtain ⟨A3, hd, _, _, hb⟩ := HD2.out.up hu HB2.out.size
              rw [HF.out.1]
              have D3 := Lib.hid hd
              have B3 := Lib.hid (HB2.out.trans hb)
              clear hu hd hb HD HB HD2 HB2
              generalize (pTrunc s 1 ((sz : Int) - 1)).2 = s3 at *
              go_wp2_with fail
              refine (onS_any D3.out.dk).mono ?_
              rintro e w4 ⟨rfl, rfl⟩
              rw [HF.out.2.1]
              go_wp2_with fail
              refine (usedS_any D3.out.dk).mono ?_
              rintro e w5 ⟨rfl, hb⟩
              rw [HF.out.2.2]
              have D5 := Lib.hid (D3.out.below hb)
              have B5 := Lib.hid (B3.out.trans (hb.mono B3.out.size))
              clear hb D3 B3
              go_wp2_with fail
              refine ⟨⟨i + 1, sz, A3, s3, rfl, by rw [Int.natCast_add]; rfl, by omega, by omega, HP2, D5, B5⟩, by simp only [intOf]; omega⟩
          · have hs1 : sz = 0 := by omega
            rcases Nat.lt_trichotomy i q with hcmp | hcmp | hcmp
            · have hc1 : ¬ q ≤ i := by omega
              have hc2 : i ≤ q := by omega
              have hc3 : i < q := by omega
              have hkv : aroundI z (3 : Nat) = 2 := by rw [HKK.out]; omega
              have HKV := Lib.hid hkv
              clear hkv
              obtain ⟨hp1, hp2⟩ := plan_sync HP.out
              rw [if_pos hc3] at hp1
              have hon : (pSync s).2.on = true := by rw [hp2.2.1]; exact decide_eq_true (by omega)
              have hus : (sumB (pSync s).2.B : Int) = (sz : Int) := by have := plan_used hp2; omega
              have HF := Lib.hid (And.intro hp1 (And.intro hon hus))
              have HP2 := Lib.hid hp2
              clear hp1 hp2 hon hus HP hcmp
              go_wp2_with fail
              refine (around_any z 3 wr HZR.out (by decide) (by decide)).mono ?_
              rintro e w2 ⟨rfl, rfl⟩
              rw [HKV.out]
              have HD2 := HD
              have HB2 := HB
              go_wp2_with fail
              refine (syncS_any HD2.out.dk).mono ?_
              rintro e w3 ⟨rfl, hu⟩
              obtain ⟨A3, hd, _, _, hb⟩ := HD2.out.up hu HB2.out.size
              rw [HF.out.1]
              have D3 := Lib.hid hd
              have B3 := Lib.hid (HB2.out.trans hb)
              clear hu hd hb HD HB HD2 HB2
              generalize (pSync s).2 = s3 at *
              go_wp2_with fail
              refine (onS_any D3.out.dk).mono ?_
              rintro e w4 ⟨rfl, rfl⟩
              rw [HF.out.2.1]
              go_wp2_with fail
              refine (usedS_any D3.out.dk).mono ?_
              rintro e w5 ⟨rfl, hb⟩
              rw [HF.out.2.2]
              have D5 := Lib.hid (D3.out.below hb)
              have B5 := Lib.hid (B3.out.trans (hb.mono B3.out.size))
              clear hb D3 B3
              go_wp2_with fail
              refine ⟨⟨i + 1, sz, A3, s3, by rw [hs1]; rfl, by rw [Int.natCast_add]; rfl, by omega, by omega, HP2, D5, B5⟩, by simp only [intOf]; omega⟩
            · have hc1 : q ≤ i := by omega
              have hc2 : i ≤ q := by omega
              have hc3 : ¬ i < q := by omega
              have hkv : aroundI z (3 : Nat) = 2 := by rw [HKK.out]; omega
              have HKV := Lib.hid hkv
              clear hkv
              obtain ⟨hp1, hp2⟩ := plan_sync HP.out
              rw [if_neg hc3] at hp1
              have hon : (pSync s).2.on = false := by rw [hp2.2.1]; exact decide_eq_false (by omega)
              have hus : (sumB (pSync s).2.B : Int) = (sz : Int) := by have := plan_used hp2; omega
              have HF := Lib.hid (And.intro hp1 (And.intro hon hus))
              have HP2 := Lib.hid hp2
              clear hp1 hp2 hon hus HP hcmp
              go_wp2_with fail
              refine (around_any z 3 wr HZR.out (by decide) (by decide)).mono ?_
              rintro e w2 ⟨rfl, rfl⟩
              rw [HKV.out]
              have HD2 := HD
              have HB2 := HB
              go_wp2_with fail
              refine (syncS_any HD2.out.dk).mono ?_
              rintro e w3 ⟨rfl, hu⟩
              obtain ⟨A3, hd, _, _, hb⟩ := HD2.out.up hu HB2.out.size
              rw [HF.out.1]
              have D3 := Lib.hid hd
              have B3 := Lib.hid (HB2.out.trans hb)
              clear hu hd hb HD HB HD2 HB2
              generalize (pSync s).2 = s3 at *
              go_wp2_with fail
              refine (onS_any D3.out.dk).mono ?_
              rintro e w4 ⟨rfl, rfl⟩
              rw [HF.out.2.1]
              go_wp2_with fail
              refine (usedS_any D3.out.dk).mono ?_
              rintro e w5 ⟨rfl, hb⟩
              rw [HF.out.2.2]
              have D5 := Lib.hid (D3.out.below hb)
              have B5 := Lib.hid (B3.out.trans (hb.mono B3.out.size))
              clear hb D3 B3
              go_wp2_with fail
              refine ⟨⟨i + 1, sz, A3, s3, by rw [hs1]; rfl, by rw [Int.natCast_add]; rfl, by omega, by omega, HP2, D5, B5⟩, by simp only [intOf]; omega⟩
            · have hc1 : q ≤ i := by omega
              have hc2 : ¬ i ≤ q := by omega
              have hc3 : ¬ i < q := by omega
              have hkv : aroundI z (3 : Nat) = 2 := by rw [HKK.out]; omega
              have HKV := Lib.hid hkv
              clear hkv
              obtain ⟨hp1, hp2⟩ := plan_sync HP.out
              rw [if_neg hc3] at hp1
              have hon : (pSync s).2.on = false := by rw [hp2.2.1]; exact decide_eq_false (by omega)
              have hus : (sumB (pSync s).2.B : Int) = (sz : Int) := by have := plan_used hp2; omega
              have HF := Lib.hid (And.intro hp1 (And.intro hon hus))
              have HP2 := Lib.hid hp2
              clear hp1 hp2 hon hus HP hcmp
              go_wp2_with fail
              refine (around_any z 3 wr HZR.out (by decide) (by decide)).mono ?_
              rintro e w2 ⟨rfl, rfl⟩
              rw [HKV.out]
              have HD2 := HD
              have HB2 := HB
              go_wp2_with fail
              refine (syncS_any HD2.out.dk).mono ?_
              rintro e w3 ⟨rfl, hu⟩
              obtain ⟨A3, hd, _, _, hb⟩ := HD2.out.up hu HB2.out.size
              rw [HF.out.1]
              have D3 := Lib.hid hd
              have B3 := Lib.hid (HB2.out.trans hb)
              clear hu hd hb HD HB HD2 HB2
              generalize (pSync s).2 = s3 at *
              go_wp2_with fail
              refine (onS_any D3.out.dk).mono ?_
              rintro e w4 ⟨rfl, rfl⟩
              rw [HF.out.2.1]
              go_wp2_with fail
              refine (usedS_any D3.out.dk).mono ?_
              rintro e w5 ⟨rfl, hb⟩
              rw [HF.out.2.2]
              have D5 := Lib.hid (D3.out.below hb)
              have B5 := Lib.hid (B3.out.trans (hb.mono B3.out.size))
              clear hb D3 B3
              go_wp2_with fail
              refine ⟨⟨i + 1, sz, A3, s3, by rw [hs1]; rfl, by rw [Int.natCast_add]; rfl, by omega, by omega, HP2, D5, B5⟩, by simp only [intOf]; omega⟩
    · have hend : i < kinds.length → ¬ i < 12 := fun h1 h2 => hlt ⟨h1, h2⟩
      clear hlt
      by_cases hlt1 : i < kinds.length
      · have hlt2 := hend hlt1
        clear hend
        have D3 := Lib.hid (HD.out.below ((Below.refl _ wr).alloc (Nat.le_refl _) (.cells #[.int .i64 1000] 3)))
        have N3 := Lib.hid HD.out.hi
        have B3 := Lib.hid (HB.out.alloc HB.out.size (.cells #[.int .i64 1000] 3))
        have R3 : Hid (Row .i64 (wr.alloc (.cells #[.int .i64 1000] 3)) (.slice (some ⟨wr.heap.size, 0, none⟩) 1 1) [1000]) := Lib.hid (row_of_fresh (fresh_lit wr 0 3 .i64 [1000] (Nat.zero_le _) (by decide)))
        obtain ⟨he1, he2, he3, he4⟩ := plan_end HP.out (by omega)
        have HE := Lib.hid (And.intro he1 (And.intro he2 (And.intro he3 he4)))
        clear he1 he2 he3 he4 HD HB HP
        go_wp2_with fail
        refine (crashS_any D3.out.dk _ [1000] (-1) R3.out (fun j hj hA => by have : j = wr.heap.size := hj; have := N3.out j hA; omega) (by decide) (by decide) (by decide)).mono ?_
        rintro e w4 ⟨rfl, hu⟩
        obtain ⟨A4, hd, _, _, hb⟩ := D3.out.up hu B3.out.size
        have D4 := Lib.hid hd
        have B4 := Lib.hid (B3.out.trans hb)
        clear hu hd hb D3 B3 R3 N3
        generalize pCrash s [1000] (-1) = s3 at *
        go_wp2_with fail
        refine (readS_any D4.out.dk 1).mono ?_
        rintro e w5 ⟨y, rfl, hy, hb⟩
        rw [HE.out.1]
        rw [HE.out.2.1] at hy
        obtain ⟨ya, yc, rfl, _⟩ := fresh_elems hy
        rw [natI_length, List.length_replicate]
        have D5 := Lib.hid (D4.out.below hb)
        have B5 := Lib.hid (B4.out.trans (hb.mono B4.out.size))
        clear hy hb D4 B4
        go_wp2_with fail
        refine (onS_any D5.out.dk).mono ?_
        rintro e w6 ⟨rfl, rfl⟩
        rw [HE.out.2.2.1]
        go_wp2_with fail
        refine (syncS_any D5.out.dk).mono ?_
        rintro e w7 ⟨rfl, hu⟩
        rw [HE.out.2.2.2]
        obtain ⟨A7, hd, _, _, hb⟩ := D5.out.up hu B5.out.size
        have B7 := Lib.hid (B5.out.trans hb)
        clear hu hd hb D5 B5
        go_wp2_with fail
        refine (lives5_any w7).mono ?_
        rintro e wl ⟨rfl, hb⟩
        have BL := Lib.hid (B7.out.trans (hb.mono B7.out.size))
        clear hb
        go_wp2_with fail
        go_ret
        exact ⟨rfl, BL.out⟩
      · clear hend
        have D3 := Lib.hid (HD.out.below ((Below.refl _ wr).alloc (Nat.le_refl _) (.cells #[.int .i64 1000] 3)))
        have N3 := Lib.hid HD.out.hi
        have B3 := Lib.hid (HB.out.alloc HB.out.size (.cells #[.int .i64 1000] 3))
        have R3 : Hid (Row .i64 (wr.alloc (.cells #[.int .i64 1000] 3)) (.slice (some ⟨wr.heap.size, 0, none⟩) 1 1) [1000]) := Lib.hid (row_of_fresh (fresh_lit wr 0 3 .i64 [1000] (Nat.zero_le _) (by decide)))
        obtain ⟨he1, he2, he3, he4⟩ := plan_end HP.out (by omega)
        have HE := Lib.hid (And.intro he1 (And.intro he2 (And.intro he3 he4)))
        clear he1 he2 he3 he4 HD HB HP
        go_wp2_with fail
        refine (crashS_any D3.out.dk _ [1000] (-1) R3.out (fun j hj hA => by have : j = wr.heap.size := hj; have := N3.out j hA; omega) (by decide) (by decide) (by decide)).mono ?_
        rintro e w4 ⟨rfl, hu⟩
        obtain ⟨A4, hd, _, _, hb⟩ := D3.out.up hu B3.out.size
        have D4 := Lib.hid hd
        have B4 := Lib.hid (B3.out.trans hb)
        clear hu hd hb D3 B3 R3 N3
        generalize pCrash s [1000] (-1) = s3 at *
        go_wp2_with fail
        refine (readS_any D4.out.dk 1).mono ?_
        rintro e w5 ⟨y, rfl, hy, hb⟩
        rw [HE.out.1]
        rw [HE.out.2.1] at hy
        obtain ⟨ya, yc, rfl, _⟩ := fresh_elems hy
        rw [natI_length, List.length_replicate]
        have D5 := Lib.hid (D4.out.below hb)
        have B5 := Lib.hid (B4.out.trans (hb.mono B4.out.size))
        clear hy hb D4 B4
        go_wp2_with fail
        refine (onS_any D5.out.dk).mono ?_
        rintro e w6 ⟨rfl, rfl⟩
        rw [HE.out.2.2.1]
        go_wp2_with fail
        refine (syncS_any D5.out.dk).mono ?_
        rintro e w7 ⟨rfl, hu⟩
        rw [HE.out.2.2.2]
        obtain ⟨A7, hd, _, _, hb⟩ := D5.out.up hu B5.out.size
        have B7 := Lib.hid (B5.out.trans hb)
        clear hu hd hb D5 B5
        go_wp2_with fail
        refine (lives5_any w7).mono ?_
        rintro e wl ⟨rfl, hb⟩
        have BL := Lib.hid (B7.out.trans (hb.mono B7.out.size))
        clear hb
        go_wp2_with fail
        go_ret
        exact ⟨rfl, BL.out⟩
end Go.Proofs.Ytmamohnlallfeaa
