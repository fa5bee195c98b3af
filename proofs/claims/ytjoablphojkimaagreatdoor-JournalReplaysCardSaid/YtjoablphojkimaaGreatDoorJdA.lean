/-
  Package journal over a disk: states; Len, Up. Package journal over a disk: Open.
-/
import Derived.Defers
import Derived.Test.YtjoablphojkimaaGreatDoorDkC
import Derived.Test.YtjoablphojkimaaGreatDoorJrD
namespace Go.Proofs.YtjoablphojkimaaGreatDoor
open Go.RowKit Go.Shelf
set_option linter.unusedVariables false
set_option maxRecDepth 100000

/-- A log in memory. -/
def Jl (W : World) (r d : Nat) (file : Int) (n : Nat) (up : Bool) : Prop := Laid W r 107 [.pointer (some ⟨d, 0, none⟩), .int .i64 file, .int .i64 (n : Int), .bool up]
noncomputable def scanSize (l : List Nat) : Nat := ((scanP 0 l).map Prod.snd).sum
noncomputable def scanRecs (l : List Nat) : List (List Nat) := (scanP 0 l).map Prod.fst
/-- What Open makes of a state: its error, the state behind it, the records. -/
def pCutTo (s : St) (file : Int) (len size : Nat) : Int × St := if size < len then pTrunc s file (size : Int) else (0, s)
noncomputable def pOpen (s : St) (file : Int) : Int × St × List (List Nat) :=
  if (pRead s file).1 ≠ 0 then ((pRead s file).1, s, []) else
  if (pCutTo s file (pRead s file).2.length (scanSize (pRead s file).2)).1 ≠ 0 then ((pCutTo s file (pRead s file).2.length (scanSize (pRead s file).2)).1, (pCutTo s file (pRead s file).2.length (scanSize (pRead s file).2)).2, []) else
  if (pSync (pCutTo s file (pRead s file).2.length (scanSize (pRead s file).2)).2).1 ≠ 0 then ((pSync (pCutTo s file (pRead s file).2.length (scanSize (pRead s file).2)).2).1, (pSync (pCutTo s file (pRead s file).2.length (scanSize (pRead s file).2)).2).2, []) else
  (0, (pSync (pCutTo s file (pRead s file).2.length (scanSize (pRead s file).2)).2).2, scanRecs (pRead s file).2)
/-- A log's state. -/
structure Lg where
  n : Nat
  up : Bool
noncomputable def pLog (room : Nat) (s : St) (file : Int) (g : Lg) (b : List Nat) : Int × St × Lg :=
  if 65536 < b.length then (4, s, g) else
  if g.up = false then (23, s, g) else
  if (pApp room s file (frameN (g.n : Int) b)).1 ≠ 0 then ((pApp room s file (frameN (g.n : Int) b)).1, (pApp room s file (frameN (g.n : Int) b)).2, ⟨g.n, (pApp room s file (frameN (g.n : Int) b)).1 != 23⟩) else
  if (pSync (pApp room s file (frameN (g.n : Int) b)).2).1 ≠ 0 then ((pSync (pApp room s file (frameN (g.n : Int) b)).2).1, (pSync (pApp room s file (frameN (g.n : Int) b)).2).2, ⟨g.n, (pSync (pApp room s file (frameN (g.n : Int) b)).2).1 != 23⟩) else
  (0, (pSync (pApp room s file (frameN (g.n : Int) b)).2).2, ⟨g.n + 1, true⟩)

theorem log_long {room : Nat} {s : St} {file : Int} {g : Lg} {b : List Nat} (hb : 65536 < b.length) : pLog room s file g b = (4, s, g) := by
  unfold pLog
  rw [if_pos hb]
theorem log_down {room : Nat} {s : St} {file : Int} {n : Nat} {b : List Nat} (hb : b.length ≤ 65536) : pLog room s file ⟨n, false⟩ b = (23, s, ⟨n, false⟩) := by
  unfold pLog
  rw [if_neg (by omega), if_pos rfl]

def LenEnd (n : Nat) (w : World) (e : Ending) (w' : World) : Prop := e = .returned (.int .i64 (n : Int)) ∧ w' = w
theorem dks_bytes {W : World} {A : Foot} {d room : Nat} {s : St} (h : DkS W A d room s) (k : Nat) : (s.B k).length ≤ room ∧ ∀ c ∈ s.B k, c < 256 := by
  obtain ⟨b, es, hd, hB, _⟩ := h
  obtain ⟨_, _, _, _, _, h8⟩ := file_row hd k
  have hu := used_split k es
  have hr := hd.room.1
  rw [hB] at h8 hu
  exact ⟨by omega, h8⟩
theorem read_bytes {W : World} {A : Foot} {d room : Nat} {s : St} (h : DkS W A d room s) (file : Int) : (pRead s file).2.length ≤ room ∧ ∀ c ∈ (pRead s file).2, c < 256 := by
  unfold pRead
  split
  · exact ⟨Nat.zero_le _, fun c hc => by simp at hc⟩
  · split
    · exact ⟨Nat.zero_le _, fun c hc => by simp at hc⟩
    · exact dks_bytes h _
structure OpenIs (n : Nat) (w : World) (A : Foot) (d room : Nat) (file : Int) (r : Int × St × List (List Nat)) (w' : World) (A2 : Foot) (lv rv : Value) (us : List Value) : Prop where
  dk : Dsk n w' A2 d room r.2.1
  keeps : Keeps A w w'
  foot : ∀ k, A2 k → A k ∨ w.heap.size ≤ k
  below : Below n w w'
  own : LOwn w.heap.size w' rv us r.2.2
  far : ∀ k, rv.ownBlock = some k → ¬ A2 k
  els : ∀ u ∈ us, ∀ k, blockOf u k → ¬ A2 k ∧ w.heap.size ≤ k
  bad : r.1 ≠ 0 → lv = .pointer none
  good : r.1 = 0 → ∃ g, lv = .pointer (some ⟨g, 0, none⟩) ∧ Jl w' g d file r.2.2.length true ∧ w.heap.size ≤ g ∧ g < w'.heap.size ∧ ¬ A2 g ∧ rv.ownBlock ≠ some g ∧ ∀ u ∈ us, ¬ blockOf u g
def OpenEnd (n : Nat) (w : World) (A : Foot) (d room : Nat) (file : Int) (r : Int × St × List (List Nat)) (e : Ending) (w' : World) : Prop :=
  ∃ A2 lv rv us, e = .returned (.tuple #[lv, rv, .int .i64 r.1]) ∧ OpenIs n w A d room file r w' A2 lv rv us
theorem open_nothing {n : Nat} {w w' : World} {A A2 : Foot} {d room : Nat} {file c : Int} {s : St} (hd : Dsk n w' A2 d room s) (hk : Keeps A w w') (hf : ∀ k, A2 k → A k ∨ w.heap.size ≤ k) (hb : Below n w w') (hc : c ≠ 0) :
    OpenEnd n w A d room file (c, s, []) (.returned (.tuple #[.pointer none, .slice none 0 0, .int .i64 c])) w' :=
  ⟨A2, _, _, [], rfl, ⟨hd, hk, hf, hb, lown_nil _ _, fun k h => (by cases h), fun u hu => by simp at hu, fun _ => rfl, fun h => absurd h hc⟩⟩
theorem openNil_any (file : Int) (w : World) : Calls Tryz.prog 26 #[.pointer none, .int .i64 file] w fun e w' => e = .returned (.tuple #[.pointer none, .slice none 0 0, .int .i64 1]) ∧ w' = w := by
  go_enter Tryz.func26, Tryz.ntmps26
  go_wp2_with fail
  refine bodyPost_ret (v := .tuple #[.pointer none, .slice none 0 0, .int .i64 1]) (by simp [results, Tryz.results26, go_sem]) rfl ?_
  exact ⟨rfl, rfl⟩

set_option maxHeartbeats 8000000 in
theorem open_any {n : Nat} {w : World} {A : Foot} {d room : Nat} {s : St} (h : Dsk n w A d room s) (hn : n ≤ w.heap.size) (file : Int) (hroom : room ≤ 100000) :
    Calls Tryz.prog 26 #[.pointer (some ⟨d, 0, none⟩), .int .i64 file] w (OpenEnd n w A d room file (pOpen s file)) := by
  have HD := Lib.hid h
  have HN := Lib.hid hn
  obtain ⟨hrl, hr8⟩ := read_bytes h.dk file
  have HRL := Lib.hid (show (pRead s file).2.length ≤ 100000 by omega)
  have HR8 := Lib.hid hr8
  clear h hn hrl hr8
  go_enter Tryz.func26, Tryz.ntmps26
  go_wp2_with fail
  refine (readS_any HD.out.dk file).mono ?_
  rintro e w1 ⟨v, rfl, hv, hb⟩
  have D1 := Lib.hid (HD.out.below hb)
  have B1 := Lib.hid hb
  have HV1 := Lib.hid hv
  clear hv hb
  by_cases hr : (pRead s file).1 = 0
  · have HPO : Hid (pOpen s file = if (pCutTo s file (pRead s file).2.length (scanSize (pRead s file).2)).1 ≠ 0 then ((pCutTo s file (pRead s file).2.length (scanSize (pRead s file).2)).1, (pCutTo s file (pRead s file).2.length (scanSize (pRead s file).2)).2, []) else
        if (pSync (pCutTo s file (pRead s file).2.length (scanSize (pRead s file).2)).2).1 ≠ 0 then ((pSync (pCutTo s file (pRead s file).2.length (scanSize (pRead s file).2)).2).1, (pSync (pCutTo s file (pRead s file).2.length (scanSize (pRead s file).2)).2).2, []) else
        (0, (pSync (pCutTo s file (pRead s file).2.length (scanSize (pRead s file).2)).2).2, scanRecs (pRead s file).2)) := by
      refine Lib.hid ?_
      conv => lhs; unfold pOpen
      rw [if_neg (fun h => h hr)]
    rw [hr]
    generalize (pRead s file).2 = l at *
    obtain ⟨va, vc, rfl, _⟩ := fresh_elems HV1.out
    rw [natI_length] at HV1 ⊢
    clear hr
    go_wp2_with fail
    refine (devScan_new _ l w1 (row_of_fresh HV1.out) HR8.out (fresh_block HV1.out) HRL.out).mono ?_
    rintro e w2 ⟨u, us, rfl, hl, hb, hul⟩
    obtain ⟨ua, uc, rfl⟩ : ∃ ua uc, u = .slice ua us.length uc := by
      rcases hl.own.2 with ⟨h1, h2⟩ | ⟨g, cap, cur, h1, _⟩
      · exact ⟨none, 0, by rw [h1, h2]⟩
      · exact ⟨_, cap, h1⟩
    have hsz : ((scanP 0 l).map Prod.snd).sum = scanSize l := rfl
    have hsl : scanSize l ≤ l.length := (scanP_sum l.length 0 l (Nat.le_refl _)).1
    rw [hsz]
    have HL2 : Hid (LOwn w1.heap.size w2 (.slice ua us.length uc) us (scanRecs l)) := Lib.hid hl
    have HUL := Lib.hid hul
    have D2 := Lib.hid (D1.out.below hb)
    have B2 := Lib.hid (B1.out.trans (hb.mono B1.out.size))
    have S1 := Lib.hid B1.out.size
    have N2 := Lib.hid D1.out.hi
    have S2 := Lib.hid hb.size
    have OL : Hid (∀ k, Value.ownBlock (.slice ua us.length uc) = some k → w1.heap.size ≤ k ∧ k < w2.heap.size) := Lib.hid (fun k hk => hl.own.lt k hk)
    have HRL2 := Lib.hid (show us.length = (scanRecs l).length from hl.len)
    clear hl hul hb hsz D1 B1 HV1
    generalize hss : scanSize l = sz at *
    have hl100 : l.length ≤ 100000 := HRL.out
    by_cases hc : sz < l.length
    · have hpc : pCutTo s file l.length sz = pTrunc s file (sz : Int) := by unfold pCutTo; rw [if_pos hc]
      rw [hpc] at HPO
      clear hpc hss
      have hlc : ¬ l.length ≤ sz := by omega
      go_wp2_with fail
      refine (truncS_any D2.out.dk file (sz : Int)).mono ?_
      rintro e w3 ⟨rfl, hu⟩
      obtain ⟨A3, hd, hk, hf, hb⟩ := D2.out.up hu (Nat.le_trans HN.out B2.out.size)
      have D3 := Lib.hid hd
      have K3 : Hid (Keeps A w w3) := Lib.hid ((Keeps.of_below_size B2.out).trans hk)
      have F3 : Hid (∀ k, A3 k → A k ∨ w2.heap.size ≤ k) := Lib.hid hf
      have L3 := Lib.hid (lown_foot HL2.out hk (fun k hk2 hA => by have := N2.out k hA; have := (OL.out k hk2).1; omega) (fun y hy k hk2 hA => by have := N2.out k hA; have := HUL.out y hy k hk2; omega))
      have LT3 := Lib.hid HL2.out.lt
      have S3 := Lib.hid hk.size
      clear hu hd hk hf hb D2 HL2
      generalize pTrunc s file (sz : Int) = t at *
      by_cases ht : t.1 = 0
      · have HPO2 : Hid (pOpen s file = if (pSync t.2).1 ≠ 0 then ((pSync t.2).1, (pSync t.2).2, []) else (0, (pSync t.2).2, scanRecs l)) := Lib.hid (by rw [HPO.out, if_neg (fun h => h ht)])
        rw [ht]
        clear HPO
        go_wp2_with fail
        refine (syncS_any D3.out.dk).mono ?_
        rintro e w4 ⟨rfl, hu⟩
        obtain ⟨A4, hd, hk, hf, hb⟩ := D3.out.up hu (Nat.le_trans HN.out K3.out.size)
        have D4 := Lib.hid hd
        have K4 : Hid (Keeps A w w4) := Lib.hid (keeps_cut ((K3.out.mono (fun k _ h => .inl h)).trans (hk.mono (fun k _ h => (F3.out k h).imp id (fun h2 => by have := S1.out; have := S2.out; omega)))))
        have F4 : Hid (∀ k, A4 k → A k ∨ w2.heap.size ≤ k) := Lib.hid (fun k h => (hf k h).elim (F3.out k) (fun h2 => .inr (Nat.le_trans S3.out h2)))
        have L4 := Lib.hid (lown_foot L3.out hk (fun k hk2 hA => by
          have := (OL.out k hk2).1
          have h9 := (OL.out k hk2).2
          rcases F3.out k hA with h5 | h5
          · have := HD.out.hi k h5; have := S1.out; omega
          · omega) (fun y hy k hk2 hA => by
          have h6 := HUL.out y hy k hk2
          have h7 := LT3.out y hy k hk2
          rcases F3.out k hA with h5 | h5
          · have := HD.out.hi k h5; have := S1.out; omega
          · omega))
        have S4 := Lib.hid hk.size
        clear hu hd hk hf hb D3 K3 L3
        generalize pSync t.2 = y at *
        by_cases hy : y.1 = 0
        · rw [hy]
          go_wp2_with fail
          refine bodyPost_ret (v := .tuple #[.pointer (some ⟨w4.heap.size, 0, none⟩), .slice ua us.length uc, .int .i64 0]) (by simp [results, Tryz.results26, go_sem]) rfl ?_
          have hpo := HPO2.out
          rw [if_neg (fun h => h hy)] at hpo
          rw [hpo]
          have hba : Below w4.heap.size w4 (w4.alloc (.cells #[.pointer (some ⟨d, 0, none⟩), .int .i64 file, .int .i64 (us.length : Int), .bool true] 107)) := (Below.refl _ w4).alloc (Nat.le_refl _) _
          have ka := (K4.out.trans (Keeps.of_below_size hba : Keeps A w4 _))
          refine ⟨A4, _, _, us, rfl, ⟨D4.out.below hba, ka, fun k hk => (F4.out k hk).imp id (fun h => by have := S1.out; have := S2.out; omega), ka.below HN.out HD.out.lo, ?_, ?_, ?_, fun h => absurd rfl h, fun _ => ⟨w4.heap.size, rfl, ?_, K4.out.size, by simp, fun hA => by have := D4.out.hi _ hA; omega, ?_, ?_⟩⟩⟩
          · have h1 := lown_below L4.out hba
            exact ⟨ownsRow_base_a h1.own S1.out, h1.len, h1.row, h1.lt, h1.ne⟩
          · intro k hk hA
            have h8 := (OL.out k hk).1
            have h9 := (OL.out k hk).2
            rcases F4.out k hA with h5 | h5
            · have := HD.out.hi k h5; have := S1.out; omega
            · omega
          · intro u hu k hk
            have h6 := HUL.out u hu k hk
            have h7 := LT3.out u hu k hk
            refine ⟨fun hA => ?_, by have := S1.out; omega⟩
            rcases F4.out k hA with h5 | h5
            · have := HD.out.hi k h5; have := S1.out; omega
            · omega
          · show Laid _ _ _ _
            rw [← HRL2.out]
            exact Laid.new w4 _ _
          · intro hk
            have h9 : w4.heap.size < w2.heap.size := (OL.out _ hk).2
            have := K4.out.size
            have := S3.out
            have := S4.out
            omega
          · intro u hu hk
            have h7 := LT3.out u hu _ hk
            have := S3.out
            have := S4.out
            omega
        · generalize hyc : y.1 = c at *
          go_wp2_with fail
          refine bodyPost_ret (v := .tuple #[.pointer none, .slice none 0 0, .int .i64 c]) (by simp [results, Tryz.results26, go_sem]) rfl ?_
          have hpo := HPO2.out
          rw [if_pos hy] at hpo
          rw [hpo]
          exact open_nothing D4.out K4.out (fun k hk => (F4.out k hk).imp id (fun h => by have := S1.out; have := S2.out; omega)) (K4.out.below HN.out HD.out.lo) hy
      · generalize htc : t.1 = c at *
        go_wp2_with fail
        refine bodyPost_ret (v := .tuple #[.pointer none, .slice none 0 0, .int .i64 c]) (by simp [results, Tryz.results26, go_sem]) rfl ?_
        have hpo := HPO.out
        rw [if_pos ht] at hpo
        rw [hpo]
        exact open_nothing D3.out K3.out (fun k hk => (F3.out k hk).imp id (fun h => by have := S1.out; have := S2.out; omega)) (K3.out.below HN.out HD.out.lo) ht
    · have hpc : pCutTo s file l.length sz = (0, s) := by unfold pCutTo; rw [if_neg hc]
      rw [hpc] at HPO
      have HPO2 : Hid (pOpen s file = if (pSync s).1 ≠ 0 then ((pSync s).1, (pSync s).2, []) else (0, (pSync s).2, scanRecs l)) := Lib.hid (by rw [HPO.out, if_neg (fun h => h rfl)])
      have D3 := D2
      have K3 : Hid (Keeps A w w2) := Lib.hid (Keeps.of_below_size B2.out)
      have F3 : Hid (∀ k, A k → A k ∨ w2.heap.size ≤ k) := Lib.hid (fun k hk => .inl hk)
      have L3 := HL2
      have LT3 := Lib.hid HL2.out.lt
      have S3 := Lib.hid (Nat.le_refl w2.heap.size)
      have hlc : l.length ≤ sz := by omega
      clear hpc hss HPO D2 HL2
      go_wp2_with fail
      refine (syncS_any D3.out.dk).mono ?_
      rintro e w4 ⟨rfl, hu⟩
      obtain ⟨A4, hd, hk, hf, hb⟩ := D3.out.up hu (Nat.le_trans HN.out K3.out.size)
      have D4 := Lib.hid hd
      have K4 : Hid (Keeps A w w4) := Lib.hid (keeps_cut ((K3.out.mono (fun k _ h => .inl h)).trans (hk.mono (fun k _ h => (F3.out k h).imp id (fun h2 => by have := S1.out; have := S2.out; omega)))))
      have F4 : Hid (∀ k, A4 k → A k ∨ w2.heap.size ≤ k) := Lib.hid (fun k h => (hf k h).elim (F3.out k) (fun h2 => .inr (Nat.le_trans S3.out h2)))
      have L4 := Lib.hid (lown_foot L3.out hk (fun k hk2 hA => by
        have := (OL.out k hk2).1
        have h9 := (OL.out k hk2).2
        rcases F3.out k hA with h5 | h5
        · have := HD.out.hi k h5; have := S1.out; omega
        · omega) (fun y hy k hk2 hA => by
        have h6 := HUL.out y hy k hk2
        have h7 := LT3.out y hy k hk2
        rcases F3.out k hA with h5 | h5
        · have := HD.out.hi k h5; have := S1.out; omega
        · omega))
      have S4 := Lib.hid hk.size
      clear hu hd hk hf hb D3 K3 L3
      generalize pSync s = y at *
      by_cases hy : y.1 = 0
      · rw [hy]
        go_wp2_with fail
        refine bodyPost_ret (v := .tuple #[.pointer (some ⟨w4.heap.size, 0, none⟩), .slice ua us.length uc, .int .i64 0]) (by simp [results, Tryz.results26, go_sem]) rfl ?_
        have hpo := HPO2.out
        rw [if_neg (fun h => h hy)] at hpo
        rw [hpo]
        have hba : Below w4.heap.size w4 (w4.alloc (.cells #[.pointer (some ⟨d, 0, none⟩), .int .i64 file, .int .i64 (us.length : Int), .bool true] 107)) := (Below.refl _ w4).alloc (Nat.le_refl _) _
        have ka := (K4.out.trans (Keeps.of_below_size hba : Keeps A w4 _))
        refine ⟨A4, _, _, us, rfl, ⟨D4.out.below hba, ka, fun k hk => (F4.out k hk).imp id (fun h => by have := S1.out; have := S2.out; omega), ka.below HN.out HD.out.lo, ?_, ?_, ?_, fun h => absurd rfl h, fun _ => ⟨w4.heap.size, rfl, ?_, K4.out.size, by simp, fun hA => by have := D4.out.hi _ hA; omega, ?_, ?_⟩⟩⟩
        · have h1 := lown_below L4.out hba
          exact ⟨ownsRow_base_a h1.own S1.out, h1.len, h1.row, h1.lt, h1.ne⟩
        · intro k hk hA
          have h8 := (OL.out k hk).1
          have h9 := (OL.out k hk).2
          rcases F4.out k hA with h5 | h5
          · have := HD.out.hi k h5; have := S1.out; omega
          · omega
        · intro u hu k hk
          have h6 := HUL.out u hu k hk
          have h7 := LT3.out u hu k hk
          refine ⟨fun hA => ?_, by have := S1.out; omega⟩
          rcases F4.out k hA with h5 | h5
          · have := HD.out.hi k h5; have := S1.out; omega
          · omega
        · show Laid _ _ _ _
          rw [← HRL2.out]
          exact Laid.new w4 _ _
        · intro hk
          have h9 : w4.heap.size < w2.heap.size := (OL.out _ hk).2
          have := K4.out.size
          have := S3.out
          have := S4.out
          omega
        · intro u hu hk
          have h7 := LT3.out u hu _ hk
          have := S3.out
          have := S4.out
          omega
      · generalize hyc : y.1 = c at *
        go_wp2_with fail
        refine bodyPost_ret (v := .tuple #[.pointer none, .slice none 0 0, .int .i64 c]) (by simp [results, Tryz.results26, go_sem]) rfl ?_
        have hpo := HPO2.out
        rw [if_pos hy] at hpo
        rw [hpo]
        exact open_nothing D4.out K4.out (fun k hk => (F4.out k hk).imp id (fun h => by have := S1.out; have := S2.out; omega)) (K4.out.below HN.out HD.out.lo) hy
  · have hpo : pOpen s file = ((pRead s file).1, s, []) := by unfold pOpen; rw [if_pos hr]
    have HPO := Lib.hid hpo
    clear hpo
    generalize (pRead s file).1 = c at *
    clear HRL HR8 HV1
    go_wp2_with fail
    refine bodyPost_ret (v := .tuple #[.pointer none, .slice none 0 0, .int .i64 c]) (by simp [results, Tryz.results26, go_sem]) rfl ?_
    rw [HPO.out]
    exact open_nothing D1.out (Keeps.of_below_size B1.out) (fun k hk => .inl hk) (B1.out.mono HN.out) hr
end Go.Proofs.YtjoablphojkimaaGreatDoor
