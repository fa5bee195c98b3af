/-
  The reference's disk: Rot, Copy.
-/
import Derived.Test.YtadnbakniibmfaaRde
namespace Go.Proofs.Ytadnbakniibmfaa
open Go.RowKit Go.Shelf
set_option linter.unusedVariables false
set_option maxRecDepth 100000

/-- An append, shut: the walk doesn't look into it, but goes by an equation of the context. -/
noncomputable def appG (ats : Array TypeId) (ty : TypeId) (args : Array Value) : Sem Value := Builtin.append_ ats ty args
theorem app_shutG (ats : Array TypeId) (ty : TypeId) (args : Array Value) : Builtin.append_ ats ty args = appG ats ty args := rfl

theorem keeps_three {A : Foot} {a b c e : World} {g : Nat} (h : Keeps A a b) (h2 : Keeps (fun k => k = g) b c) (hg : a.heap.size ≤ g) (h3 : Keeps A c e) : Keeps A a e :=
  ⟨h3.os.trans (h2.os.trans h.os), h3.tape.trans (h2.tape.trans h.tape), h3.output.trans (h2.output.trans h.output), Nat.le_trans h.size (Nat.le_trans h2.size h3.size), fun i hi hn =>
    (h3.same i (by have := h.size; have := h2.size; omega) hn).trans ((h2.same i (by have := h.size; omega) (fun e => by omega)).trans (h.same i hi hn))⟩
set_option maxHeartbeats 8000000 in
theorem rotR_any {w : World} {A : Foot} {m room : Nat} {s : St} (h : RfS w A m room s) (ok : StOk room s) (k : Nat) (bit : Int) (hk : k < 64) (hb : -9223372036854775808 ≤ bit ∧ bit ≤ 9223372036854775807) :
    Calls Try.prog 29 #[.pointer (some ⟨m, 0, none⟩), .int .i64 (k : Int), .int .i64 bit] w (ResR w A m room (pRot s k bit)) := by
  obtain ⟨bb, fb, ad, cp, hr, hA⟩ := h
  have HA := Lib.hid hA
  have HR := Lib.hid hr
  have HOK := Lib.hid ok
  have c1 := hr.dk.cell 1
  simp only [List.getElem?_cons_succ, List.getElem?_cons_zero] at c1
  have cb := hr.bcell hk
  have HSAME : Hid (UpR w A m room s w) := Lib.hid (upr_of hA (Keeps.refl _ _) hr (fun g hg => .inl hg))
  have hi0 : (0 : Int) ≤ (k : Int) := by omega
  have hi1 : (k : Int) < 64 := by omega
  have HKK := Lib.hid hk
  have hln : (s.B k).length ≤ 16777216 := Nat.le_trans (ok.len k) ok.room
  by_cases h0 : bit < 0
  · have HBAD : Hid (¬ (0 ≤ bit ∧ bit.toNat / 8 < (s.B k).length)) := Lib.hid (by omega)
    clear hr hA ok
    go_enter Try.func29, Try.ntmps29
    go_wp2_with fail
    go_ret
    unfold pRot
    rw [if_neg HBAD.out]
    exact ⟨rfl, HSAME.out⟩
  obtain ⟨q, rfl⟩ := Int.eq_ofNat_of_zero_le (Int.not_lt.1 h0)
  have hq : (q : Int).tdiv 8 = ((q / 8 : Nat) : Int) := rfl
  by_cases h1 : q / 8 < (s.B k).length
  · have HGO : Hid (0 ≤ (q : Int) ∧ (q : Int).toNat / 8 < (s.B k).length) := Lib.hid ⟨by omega, by rw [Int.toNat_natCast]; exact h1⟩
    have hr8 : (q : Int).tmod 8 = ((q % 8 : Nat) : Int) := rfl
    have hq8 : q % 8 < 8 := Nat.mod_lt _ (by decide)
    have hrow := hr.row k hk
    unfold slV at hrow
    have HROW := Lib.hid (row_of_fresh hrow)
    have hB8 : (s.B k)[q / 8] < 256 := ok.b8 k _ (List.getElem_mem h1)
    obtain ⟨cv, hcv⟩ : ∃ cv, (s.B k)[q / 8] = cv := ⟨_, rfl⟩
    rw [hcv] at hB8
    have HCV : Hid (((s.B k)[q / 8]?).getD 0 = cv) := Lib.hid (by rw [List.getElem?_eq_getElem h1, hcv]; rfl)
    have HFB := Lib.hid (flip_bits q hB8).1
    clear hcv
    have HLT := Lib.hid hr.lt
    obtain ⟨mm, hmm⟩ : ∃ mm, 7 - q % 8 = mm := ⟨_, rfl⟩
    have hs7 : (7 : Int) - ((q % 8 : Nat) : Int) = (mm : Int) := by omega
    have H1 := Lib.hid h1
    have HMM := Lib.hid hmm
    clear hr hA ok hrow
    have hn1 : ((q / 8 : Nat) : Int) < ((s.B k).length : Int) := by omega
    have hn2 : (q : Int) / 8 < ((s.B k).length : Int) := by omega
    generalize hn : (s.B k).length = n at *
    have HN : Hid ((s.B k).length = n) := Lib.hid hn
    have HNL : Hid (n ≤ 16777216) := Lib.hid hln
    clear hn
    go_enter Try.func29, Try.ntmps29
    go_wp2_with (at_builtin; go_must (refine wpList_append_buf rfl _ _ 33 rfl w.heap.size (.slice none 0 0) [] rfl (fresh_nil _ _ _ _) _ (natI (s.B k)) rfl (.inl ⟨rfl, HROW.out⟩) (by have := HNL.out; have := HN.out; rw [natI_length]; simp; omega) (Nat.le_refl _) ?_); intro b2 n2 c2 w2 hn2 hfr2 hgr2 hat2; rw [List.nil_append] at hn2 hfr2; rw [natI_length, HN.out] at hn2; subst hn2; have HG2 : Hid (Fresh w.heap.size 5 .u8 w2 (.slice b2 n2 c2) (natI (s.B k)) ∧ Below w.heap.size w w2) := Lib.hid (And.intro hfr2 ((Below.refl w.heap.size w).grown hgr2 (Nat.le_refl _) (fun k h => by cases h))); clear hfr2 hgr2 hat2)
    obtain ⟨g, cc, hb2, hgl, hgh⟩ : ∃ g cc, Value.slice b2 n2 c2 = .slice (some ⟨g, 0, none⟩) n2 cc ∧ w.heap.size ≤ g ∧ g < w2.heap.size := by
      rcases fresh_form HG2.out.1 with ⟨_, h0⟩ | ⟨g, cap, hv, hg1, hg2, _⟩
      · have := congrArg List.length h0
        rw [natI_length] at this
        have := HN.out
        have h2 : (s.B k).length = 0 := by assumption
        omega
      · rw [natI_length, HN.out] at hv
        exact ⟨g, cap, hv, hg1, hg2⟩
    injection hb2 with e1 _ e2
    subst e1 e2
    have hcell := fresh_cell HG2.out.1 (j := q / 8) (by rw [natI_length, HN.out]; exact H1.out)
    rw [show (natI (s.B k))[q / 8]?.getD 0 = (cv : Int) by
      unfold natI
      rw [List.getElem?_map, ← HCV.out]
      have := H1.out
      have := HN.out
      rw [List.getElem?_eq_getElem (by omega)]
      rfl] at hcell
    have hfz : w2.frozen? ⟨g, q / 8, none⟩ = false := fresh_frozen2 HG2.out.1 (by rw [natI_length, HN.out]) _
    have hst := (fresh_store2 HG2.out.1 (by rw [natI_length, HN.out]) (q / 8) (flipN cv q : Int)).1
    have hk3 := keeps_set w2 g (q / 8) (.int .u8 (flipN cv q : Int))
    have hR2 := HR.out.below HG2.out.2
    have hR3 := hR2.keeps hk3 (fun j hj e => by have := HLT.out j hj; omega)
    have hys : (natI (s.B k)).set (q / 8) (flipN cv q : Int) = natI ((s.B k).set (q / 8) (flipN cv q)) := by unfold natI; rw [List.map_set]
    have hyl : ((s.B k).set (q / 8) (flipN cv q)).length = n2 := by rw [List.length_set, HN.out]
    rw [hys] at hst
    have h4 := hR3.newRow HKK.out (a := some ⟨g, 0, none⟩) (c := c2) (ys := (s.B k).set (q / 8) (flipN cv q)) (lo := w.heap.size) (by rw [hyl]; exact hst) HLT.out
    rw [hyl] at h4
    have HR4 := Lib.hid h4
    have HK4 : Hid (Keeps (rfFoot m bb fb ad) w ((w2.setCell ⟨g, q / 8, none⟩ (.int .u8 (flipN cv q : Int))).setCell ⟨bb, k, none⟩ (.slice (some ⟨g, 0, none⟩) n2 c2))) := Lib.hid (keeps_three (Keeps.of_below_size HG2.out.2) hk3 hgl ((keeps_set _ bb k _).mono (fun j _ e => .inr (.inl e))))
    have HF4 : Hid (∀ j, rfFoot m bb fb (setA ad k (some ⟨g, 0, none⟩)) j → rfFoot m bb fb ad j ∨ w.heap.size ≤ j) := Lib.hid (fun j hj => (foot_row hj).imp id (fun h => by have h2 : some g = some j := h; injection h2 with h2; omega))
    have d1 := hR3.dk.cell 1
    have d2 := hR3.bcell HKK.out
    have d3 := hR3.bt.frozen k
    rw [HN.out] at d2
    simp only [List.getElem?_cons_succ, List.getElem?_cons_zero] at d1
    clear hst hk3 hR2 hR3 hys hyl h4 HG2
    generalize hw3 : w2.setCell ⟨g, q / 8, none⟩ (.int .u8 (flipN cv q : Int)) = w3 at *
    have HW3 := Lib.hid hw3
    clear hw3
    have HFX : Hid (w2.setCell ⟨g, q / 8, none⟩ (.int .u8 (bits BinOp.xor IntKind.u8 (cv : Int) ((2 : Int) ^ mm % 256))) = w3) := Lib.hid (by rw [← HMM.out, HFB.out]; exact HW3.out)
    have hfx := HFX.out
    clear HFB hB8
    go_wp2_with fail
    go_ret
    unfold pRot
    rw [HN.out, if_pos HGO.out]
    refine ⟨rfl, upr_of (ad2 := setA ad k (some ⟨g, 0, none⟩)) (cp2 := setA cp k c2) HA.out HK4.out ?_ HF4.out⟩
    have e : turnB s.B k (q : Int).toNat = setB s.B k ((s.B k).set (q / 8) (flipN cv q)) := by
      unfold turnB
      rw [Int.toNat_natCast, HCV.out]
    show Rf _ m bb fb room (!s.on) (planS s) (turnB s.B k (q : Int).toNat) s.D _ _
    rw [e]
    exact HR4.out
  · have HBAD : Hid (¬ (0 ≤ (q : Int) ∧ (q : Int).toNat / 8 < (s.B k).length)) := Lib.hid (by rw [Int.toNat_natCast]; exact fun h => h1 h.2)
    have hn1 : ¬ ((q / 8 : Nat) : Int) < ((s.B k).length : Int) := by omega
    have hn2 : ¬ (q : Int) / 8 < ((s.B k).length : Int) := by omega
    clear hr hA ok
    generalize (s.B k).length = n at h1 hn1 hn2 cb hln
    go_enter Try.func29, Try.ntmps29
    go_wp2_with fail
    go_ret
    unfold pRot
    rw [if_neg HBAD.out]
    exact ⟨rfl, HSAME.out⟩

attribute [local go_sem ↓] app_shutG
/-- What is copied up to file i. -/
def copB (B : Nat → List Nat) (i : Nat) : Nat → List Nat := fun j => if j < i then B j else []
def copD (D : Nat → Nat) (i : Nat) : Nat → Nat := fun j => if j < i then D j else 0
theorem copB_succ (B : Nat → List Nat) (i : Nat) : setB (copB B i) i (B i) = copB B (i + 1) := by
  funext j
  unfold setB copB
  by_cases hj : j = i
  · rw [if_pos hj, if_pos (by omega), hj]
  · rw [if_neg hj]
    by_cases h2 : j < i
    · rw [if_pos h2, if_pos (by omega)]
    · rw [if_neg h2, if_neg (by omega)]
theorem copD_succ (D : Nat → Nat) (i : Nat) : setD (copD D i) i (D i) = copD D (i + 1) := by
  funext j
  unfold setD copD
  by_cases hj : j = i
  · rw [if_pos hj, if_pos (by omega), hj]
  · rw [if_neg hj]
    by_cases h2 : j < i
    · rw [if_pos h2, if_pos (by omega)]
    · rw [if_neg h2, if_neg (by omega)]
theorem copB_at (B : Nat → List Nat) (i : Nat) : copB B i i = [] := if_neg (Nat.lt_irrefl i)

set_option maxHeartbeats 8000000 in
theorem copyR_any {w : World} {A : Foot} {m room : Nat} {s : St} (h : RfS w A m room s) (ok : StOk room s) :
    Calls Try.prog 27 #[.pointer (some ⟨m, 0, none⟩)] w (fun e w' => ∃ m2 A2, e = .returned (.pointer (some ⟨m2, 0, none⟩)) ∧ RfS w' A2 m2 room s ∧ (∀ k, A2 k → w.heap.size ≤ k) ∧ Below w.heap.size w w') := by
  obtain ⟨bb, fb, ad, cp, hr, hA⟩ := h
  have HR := Lib.hid hr
  have HOK := Lib.hid ok
  have HLT := Lib.hid hr.lt
  have c0 := hr.dk.cell 0
  simp only [List.getElem?_cons_zero] at c0
  clear hr hA ok
  go_enter Try.func27, Try.ntmps27
  go_wp2_with fail
  refine (newR_any room w).mono ?_
  rintro e w1 ⟨m2, bb2, fb2, rfl, hr2, hlo, hb⟩
  have HB1 := Lib.hid hb
  have HLO := Lib.hid hlo
  have HC0 : Hid (Rf w1 m2 bb2 fb2 room false (-1) (copB s.B 0) (copD s.D 0) (fun _ => none) (fun _ => 0)) := Lib.hid hr2
  have HLN : Hid (∀ k, (s.B k).length ≤ 16777216) := Lib.hid (fun k => Nat.le_trans (HOK.out.len k) HOK.out.room)
  clear c0 hr2 hlo hb
  go_wp2_with fail
  go_loopw [4] (fun s4 wr => ∃ (i : Nat) (ad3 : Nat → Option Addr) (cp3 : Nat → Nat), s4 = .int .i64 (i : Int) ∧ i ≤ 64 ∧ Hid (Rf wr m2 bb2 fb2 room false (-1) (copB s.B i) (copD s.D i) ad3 cp3) ∧ Hid (∀ g, rfFoot m2 bb2 fb2 ad3 g → w.heap.size ≤ g) ∧ Hid (∀ j, i ≤ j → ad3 j = none ∧ cp3 j = 0) ∧ Hid (Below w.heap.size w wr)) (fun s4 _ => 64 - (intOf s4).toNat)
  case atStart => exact ⟨0, _, _, rfl, Nat.zero_le _, HC0, HLO, Lib.hid (fun j _ => ⟨rfl, rfl⟩), HB1⟩
  case round =>
    obtain ⟨i, ad3, cp3, rfl, hi, HC, HL3, HNN, HB3⟩ := hrel
    clear HC0 HLO HB1
    by_cases hlt : i < 64
    · have HLT64 := Lib.hid hlt
      have hRs := (HR.out.below HB3.out)
      obtain ⟨c1, c2, cb, cf, zb, zf⟩ := hRs.drew.at hlt
      obtain ⟨d1, d2, db, df, y1, y2⟩ := HC.out.drew.at hlt
      rw [copB_at, (HNN.out i (Nat.le_refl _)).1, (HNN.out i (Nat.le_refl _)).2] at db
      have hrowS := hRs.row i hlt
      unfold slV at hrowS
      have hln := HLN.out i
      obtain ⟨b4, c4, w4, hr4, hf4, hg4, ha4⟩ := run_append_buf (W := wr.drew) (B := wr.heap.size) (v := .slice none 0 0) (zs := []) (fresh_nil _ _ _ _) (tx := 33) (ty := 33) (u := .slice (ad i) (s.B i).length (cp i)) (ys := natI (s.B i)) (.inl ⟨rfl, row_of_fresh (fresh_keeps hrowS (below_drew' wr))⟩) (by rw [natI_length]; simp; omega) (Nat.le_refl _)
      rw [List.nil_append, natI_length] at hr4 hf4
      rw [app_shutG] at hr4
      have hb4 : Below wr.heap.size wr w4 := (below_drew' wr).trans ((Below.refl _ _).grown hg4 (Nat.le_refl _) (fun k h => by cases h))
      obtain ⟨c1', c2', cb', cf', zb', zf'⟩ := (hRs.below hb4).at hlt
      have hC4 := HC.out.below hb4
      obtain ⟨d1', d2', db', df', y1', y2'⟩ := hC4.at hlt
      rw [copB_at, (HNN.out i (Nat.le_refl _)).1, (HNN.out i (Nat.le_refl _)).2] at db'
      have h5 := hC4.newRow hlt hf4 HC.out.lt
      rw [copB_succ] at h5
      have HR5 := Lib.hid h5
      have HF5 : Hid (∀ g, rfFoot m2 bb2 fb2 (setA ad3 i b4) g → w.heap.size ≤ g) := Lib.hid (fun g hg => (foot_row hg).elim (HL3.out g) (fun h => by have := (hf4.lt g ((ownB_any _ _ _ _ _).trans h)).1; have := HB3.out.size; omega))
      have HN5 : Hid (∀ j, i + 1 ≤ j → setA ad3 i b4 j = none ∧ setA cp3 i c4 j = 0) := Lib.hid (fun j hj => by
        unfold setA
        rw [if_neg (by omega), if_neg (by omega)]
        exact HNN.out j (by omega))
      have HB5 : Hid (Below w.heap.size w (w4.setCell ⟨bb2, i, none⟩ (.slice b4 (s.B i).length c4))) := Lib.hid ((HB3.out.trans (hb4.mono HB3.out.size)).setCell (p := ⟨bb2, i, none⟩) (HL3.out bb2 (.inr (.inl rfl))) _)
      have hi0 : (0 : Int) ≤ (i : Int) := by omega
      have hi1 : (i : Int) < 64 := by omega
      clear hRs hrowS hf4 hg4 ha4 hb4 hC4 h5 HC HL3 HNN HB3
      generalize hn : (s.B i).length = n at *
      clear hn
      go_wp2_with fail
      go_region
      all_goals
        clear c1 c2 cb cf zb zf d1 d2 db df y1 y2 c1' c2' cb' cf' zb' zf' d1' d2' db' df' y1' y2' hr4
        generalize w4.setCell ⟨bb2, i, none⟩ (.slice b4 n c4) = w5 at *
        obtain ⟨c1, c2, cb, cf, zb, zf⟩ := (HR.out.below HB5.out).drew.at HLT64.out
        obtain ⟨d1, d2, db, df, y1, y2⟩ := HR5.out.drew.at HLT64.out
        have h6 := HR5.out.drew.setFirm i (s.D i)
        rw [copD_succ] at h6
        have HR6 : Hid (Rf (w5.setCell ⟨fb2, i, none⟩ (.int .i64 (s.D i : Int))).drew m2 bb2 fb2 room false (-1) (copB s.B (i + 1)) (copD s.D (i + 1)) (setA ad3 i b4) (setA cp3 i c4)) := Lib.hid h6
        have HB6 : Hid (Below w.heap.size w (w5.setCell ⟨fb2, i, none⟩ (.int .i64 (s.D i : Int))).drew) := Lib.hid ((HB5.out.setCell (p := ⟨fb2, i, none⟩) (HF5.out fb2 (.inr (.inr (.inl rfl)))) _).drew)
        generalize s.D i = dd at *
        clear h6
        go_wp2_with fail
        go_region
        all_goals
          go_wp2_with fail
          go_roundw
          case rel => exact ⟨i + 1, _, _, by go_num, by omega, HR6, HF5, HN5, HB6⟩
          case measure => simp [intOf]; omega
    · obtain rfl : i = 64 := by omega
      have hRs := (HR.out.below HB3.out)
      have c3 := hRs.dk.cell 3
      have c4 := hRs.dk.cell 4
      have d3 := HC.out.dk.cell 3
      have f3 := HC.out.dk.frozen 3
      have hne : ¬ m2 = m := fun e => by have h1 := HL3.out m2 (.inl rfl); have h2 := HLT.out m (.inl rfl); omega
      have h1 := HC.out.setOff (!s.on)
      have d4 := h1.dk.cell 4
      have f4 := h1.dk.frozen 4
      have k4 := (hRs.keeps (keeps_set wr m2 3 (.bool (!s.on))) (fun g hg e => by have h1 := HL3.out m2 (.inl rfl); have h2 := HLT.out g hg; omega)).dk.cell 4
      simp only [List.getElem?_cons_succ, List.getElem?_cons_zero] at c3 c4 d3 d4 k4
      have h2 := h1.setPlan (planS s)
      have HZ := Lib.hid ((h2.durs (D2 := s.D) (fun k hk => by unfold copD; rw [if_pos hk])).bytes (B2 := s.B) (fun k hk => by unfold copB; rw [if_pos hk]))
      have HBZ : Hid (Below w.heap.size w ((wr.setCell ⟨m2, 3, none⟩ (.bool (!s.on))).setCell ⟨m2, 4, none⟩ (.int .i64 (planS s)))) := Lib.hid ((HB3.out.setCell (p := ⟨m2, 3, none⟩) (HL3.out m2 (.inl rfl)) _).setCell (p := ⟨m2, 4, none⟩) (HL3.out m2 (.inl rfl)) _)
      generalize hpp : planS s = pp at *
      generalize hoo : (!s.on) = oo at *
      clear hRs h1 h2
      go_wp2_with fail
      go_ret
      exact ⟨m2, rfFoot m2 bb2 fb2 ad3, rfl, ⟨bb2, fb2, ad3, cp3, by rw [hoo, hpp]; exact HZ.out, fun _ h => h⟩, HL3.out, HBZ.out⟩
end Go.Proofs.Ytadnbakniibmfaa
