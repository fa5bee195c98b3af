/-
  The reference's disk: Sync, Truncate.
-/
import Derived.Test.YtadnbakniibmfaaRdd
namespace Go.Proofs.Ytadnbakniibmfaa
open Go.RowKit Go.Shelf
set_option linter.unusedVariables false
set_option maxRecDepth 100000

section
variable {w W W2 : World} {m bb fb room : Nat} {off : Bool} {plan : Int} {B : Nat → List Nat} {D : Nat → Nat} {ad : Nat → Option Addr} {cp : Nat → Nat}
theorem Rf.durs (h : Rf W m bb fb room off plan B D ad cp) {D2 : Nat → Nat} (hd : ∀ k, k < 64 → D k = D2 k) : Rf W m bb fb room off plan B D2 ad cp :=
  ⟨h.dk, h.bt, (cells64_ext (fun k hk => by rw [hd k hk]) : (cells64 fun k => Value.int .i64 (D k : Int)) = _) ▸ h.ft, h.row, h.sep, h.own, h.ne⟩
theorem Rf.bytes (h : Rf W m bb fb room off plan B D ad cp) {B2 : Nat → List Nat} (hd : ∀ k, k < 64 → B k = B2 k) : Rf W m bb fb room off plan B2 D ad cp :=
  ⟨h.dk, (cells64_ext (fun k hk => by unfold slV; rw [hd k hk]) : cells64 (slV ad cp B) = cells64 (slV ad cp B2)) ▸ h.bt, h.ft,
    fun k hk => by have := h.row k hk; unfold slV at *; rw [hd k hk] at this; exact this,
    fun j k hj hk hjk g hg => by have := h.sep j k hj hk hjk g; unfold slV at *; rw [hd j hj, hd k hk] at this; exact this hg,
    fun k hk g hg => by have := h.own k hk g; unfold slV at *; rw [hd k hk] at this; exact this hg, h.ne⟩
end
def firmTo (B : Nat → List Nat) (D : Nat → Nat) (i : Nat) : Nat → Nat := fun j => if j < i then (B j).length else D j
theorem firmTo_succ (B : Nat → List Nat) (D : Nat → Nat) (i : Nat) : setD (firmTo B D i) i (B i).length = firmTo B D (i + 1) := by
  funext j
  unfold setD firmTo
  by_cases hj : j = i
  · rw [if_pos hj, if_pos (by omega), hj]
  · rw [if_neg hj]
    by_cases h2 : j < i
    · rw [if_pos h2, if_pos (by omega)]
    · rw [if_neg h2, if_neg (by omega)]

/-- What a loop round that stores one number sees of the disk. -/
structure AtR (W : World) (m bb fb i : Nat) (a : Option Addr) (n c d : Nat) : Prop where
  c1 : W.cell? ⟨m, 1, none⟩ = some (.slice (some ⟨bb, 0, none⟩) 64 64)
  c2 : W.cell? ⟨m, 2, none⟩ = some (.slice (some ⟨fb, 0, none⟩) 64 64)
  cb : W.cell? ⟨bb, i, none⟩ = some (.slice a n c)
  cf : W.cell? ⟨fb, i, none⟩ = some (.int .i64 (d : Int))
  zb : W.frozen? ⟨bb, i, none⟩ = false
  zf : W.frozen? ⟨fb, i, none⟩ = false
theorem Rf.at {W : World} {m bb fb room : Nat} {off : Bool} {plan : Int} {B : Nat → List Nat} {D : Nat → Nat} {ad : Nat → Option Addr} {cp : Nat → Nat} (h : Rf W m bb fb room off plan B D ad cp) {i : Nat} (hi : i < 64) : AtR W m bb fb i (ad i) (B i).length (cp i) (D i) :=
  ⟨h.dk.cell 1, h.dk.cell 2, h.bcell hi, h.fcell hi, h.bt.frozen i, h.ft.frozen i⟩

set_option maxHeartbeats 8000000 in
theorem syncR_any {w : World} {A : Foot} {m room : Nat} {s : St} (h : RfS w A m room s) (ok : StOk room s) :
    Calls Try.prog 33 #[.pointer (some ⟨m, 0, none⟩)] w (ResR w A m room (pSync s)) := by
  obtain ⟨bb, fb, ad, cp, hr, hA⟩ := h
  have HA := Lib.hid hA
  have HR := Lib.hid hr
  have HOK := Lib.hid ok
  have c3 := hr.dk.cell 3
  simp only [List.getElem?_cons_succ, List.getElem?_cons_zero] at c3
  cases hon : s.on with
  | false =>
    rw [hon] at c3
    simp only [Bool.not_false] at c3
    have HON := Lib.hid hon
    clear hr hA ok hon
    go_enter Try.func33, Try.ntmps33
    go_wp2_with fail
    go_ret
    have e : pSync s = (23, s) := by
      obtain ⟨on, left, B, D⟩ := s
      have h2 : on = false := HON.out
      subst h2
      rfl
    rw [e]
    exact ⟨rfl, upr_of HA.out (Keeps.refl _ _) HR.out (fun g hg => .inl hg)⟩
  | true =>
    rw [hon] at c3
    simp only [Bool.not_true] at c3
    have HON := Lib.hid hon
    have HR1 : Hid (Rf w m bb fb room false s.left s.B s.D ad cp) := Lib.hid (by have := hr; rw [plan_on hon, hon] at this; exact this)
    clear hr hA ok hon
    go_enter Try.func33, Try.ntmps33
    go_wp2_with fail
    refine (rStep_any HR1.out HOK.out.left.2).mono ?_
    rintro e w5 ⟨rfl, h1, h2⟩
    have HE := Lib.hid (And.intro h1 h2)
    clear h1 h2 c3
    by_cases hl0 : s.left = 0
    · rw [decide_eq_true hl0]
      have HL0 := Lib.hid hl0
      clear hl0
      go_wp2_with fail
      go_ret
      have e : pSync s = (23, { s with on := false }) := by unfold pSync stepOn; rw [HON.out, HL0.out]; rfl
      rw [e]
      refine ⟨rfl, upr_of (ad2 := ad) (cp2 := cp) HA.out (HE.out.2.mono (fun g _ hg => .inl hg)) ?_ (fun g hg => .inl hg)⟩
      have h1 := HE.out.1
      rw [decide_eq_true HL0.out, if_neg (by have := HL0.out; omega), show s.left - 1 = -1 by have := HL0.out; omega] at h1
      exact h1
    · rw [decide_eq_false hl0]
      have HL0 := Lib.hid hl0
      have HR5 : Hid (Rf w5 m bb fb room false (if s.left < 0 then s.left else s.left - 1) s.B s.D ad cp) := Lib.hid (by have h1 := HE.out.1; rw [decide_eq_false hl0] at h1; exact h1)
      clear hl0
      generalize hpl : (if s.left < 0 then s.left else s.left - 1) = pl at *
      have HPL := Lib.hid hpl
      clear hpl
      have HLN := Lib.hid HOK.out.len
      have HRM := Lib.hid HOK.out.room
      go_wp2_with fail
      go_loopw [4] (fun s4 wr => ∃ i : Nat, s4 = .int .i64 (i : Int) ∧ i ≤ 64 ∧ Hid (Rf wr m bb fb room false pl s.B (firmTo s.B s.D i) ad cp) ∧ Hid (Keeps (fun k => k = m ∨ k = fb) w wr)) (fun s4 _ => 64 - (intOf s4).toNat)
      case atStart => exact ⟨0, rfl, Nat.zero_le _, Lib.hid (HR5.out.durs (fun k _ => by unfold firmTo; rw [if_neg (Nat.not_lt_zero _)])), Lib.hid (HE.out.2.mono (fun k _ h => .inl h))⟩
      case round =>
        obtain ⟨i, rfl, hi, HB, HK⟩ := hrel
        clear HR5
        by_cases hlt : i < 64
        · obtain ⟨c1, c2, cb, cf, zb, zf⟩ := HB.out.drew.at hlt
          have HN : Hid (Rf (wr.drew.setCell ⟨fb, i, none⟩ (.int .i64 ((s.B i).length : Int))) m bb fb room false pl s.B (firmTo s.B s.D (i + 1)) ad cp) := Lib.hid (by rw [← firmTo_succ]; exact HB.out.drew.setFirm i _)
          have HKN : Hid (Keeps (fun k => k = m ∨ k = fb) w (wr.drew.setCell ⟨fb, i, none⟩ (.int .i64 ((s.B i).length : Int)))) := Lib.hid ((HK.out.drew).trans ((keeps_set _ fb i _).mono (fun k _ h => .inr h)))
          have hln : (s.B i).length ≤ 16777216 := Nat.le_trans (HLN.out i) HRM.out
          generalize (s.B i).length = n at *
          have hi0 : (0 : Int) ≤ (i : Int) := by omega
          have hi1 : (i : Int) < 64 := by omega
          go_wp2_with fail
          go_region
          all_goals
            go_wp2_with fail
            go_roundw
            case rel => exact ⟨i + 1, by go_num, by omega, HN, HKN⟩
            case measure => simp [intOf]; omega
        · obtain rfl : i = 64 := by omega
          go_wp2_with fail
          go_ret
          have e : pSync s = (0, ⟨s.on, max (s.left - 1) (-1), s.B, fun k => (s.B k).length⟩) := by unfold pSync stepOn; rw [HON.out, decide_eq_false HL0.out]; rfl
          have hmx : max (s.left - 1) (-1) = pl := by rw [← HPL.out]; have := HOK.out.left.1; have := HL0.out; split <;> omega
          rw [e, hmx]
          refine ⟨rfl, upr_of (ad2 := ad) (cp2 := cp) HA.out (HK.out.mono (fun g _ hg => hg.elim .inl (fun h => .inr (.inr (.inl h))))) ?_ (fun g hg => .inl hg)⟩
          show Rf wr m bb fb room (!s.on) (planS ⟨s.on, pl, s.B, fun k => (s.B k).length⟩) s.B (fun k => (s.B k).length) ad cp
          rw [plan_on (s := ⟨s.on, pl, s.B, fun k => (s.B k).length⟩) HON.out, HON.out]
          exact HB.out.durs (fun k hk => by unfold firmTo; rw [if_pos hk])

theorem setA_self {α : Type} (f : Nat → α) (k : Nat) : setA f k (f k) = f := by
  funext j; unfold setA; split
  · rename_i h; rw [h]
  · rfl
theorem Rf.cutRow {W : World} {m bb fb room : Nat} {off : Bool} {plan : Int} {B : Nat → List Nat} {D : Nat → Nat} {ad : Nat → Option Addr} {cp : Nat → Nat} (h : Rf W m bb fb room off plan B D ad cp) {k z : Nat} (hk : k < 64) (hz : z ≤ (B k).length) :
    Rf (W.setCell ⟨bb, k, none⟩ (.slice (ad k) z (cp k))) m bb fb room off plan (setB B k ((B k).take z)) D ad cp := by
  have hl : ((B k).take z).length = z := by rw [List.length_take]; omega
  have hrow := h.row k hk
  unfold slV at hrow
  have hf : Fresh 0 5 .u8 W (.slice (ad k) ((B k).take z).length (cp k)) (natI ((B k).take z)) := by
    rw [hl]
    rcases fresh_form hrow with ⟨hv, hz0⟩ | ⟨g, cap2, hv, _⟩
    · have hb : B k = [] := List.eq_nil_of_length_eq_zero (by have := congrArg List.length hz0; rw [natI_length] at this; exact this)
      have hz1 : z = 0 := by rw [hb] at hz; simpa using hz
      rw [hb, List.take_nil, hz1]
      rw [hb] at hrow
      exact hrow
    · have hv1 : ad k = some ⟨g, 0, none⟩ := by injection hv
      rw [hv1] at hrow ⊢
      have := fresh_first (g := g) (cap := cp k) (zs := natI (B k)) (by rw [natI_length]; exact hrow) (m := z) (by rw [natI_length]; exact hz)
      rw [natI_first]
      exact this
  have h2 := h.setRow hk hf (fun g hg => by
    have hg2 : (slV ad cp B k).ownBlock = some g := (ownB_any _ _ _ _ _).trans hg
    exact ⟨fun j hj hjk => h.sep k j hk hj (fun e => hjk e.symm) g hg2, h.own k hk g hg2⟩)
  rw [hl, setA_self, setA_self] at h2
  exact h2

set_option maxHeartbeats 8000000 in
theorem truncR_any {w : World} {A : Foot} {m room : Nat} {s : St} (h : RfS w A m room s) (ok : StOk room s) (file size : Int) :
    Calls Try.prog 34 #[.pointer (some ⟨m, 0, none⟩), .int .i64 file, .int .i64 size] w (ResR w A m room (pTrunc s file size)) := by
  obtain ⟨bb, fb, ad, cp, hr, hA⟩ := h
  have HA := Lib.hid hA
  have HR := Lib.hid hr
  have HOK := Lib.hid ok
  have c1 := hr.dk.cell 1
  have c3 := hr.dk.cell 3
  simp only [List.getElem?_cons_succ, List.getElem?_cons_zero] at c1 c3
  have HSAME : Hid (UpR w A m room s w) := Lib.hid (upr_of hA (Keeps.refl _ _) hr (fun g hg => .inl hg))
  by_cases hf0 : file < 0
  · have HF : Hid (isF file = false) := Lib.hid (isF_false (by omega))
    clear hr hA ok
    go_enter Try.func34, Try.ntmps34
    go_wp2_with fail
    go_ret
    unfold pTrunc
    rw [if_pos (fun h => by have := h.1; rw [HF.out] at this; cases this)]
    exact ⟨rfl, HSAME.out⟩
  by_cases hf1 : 63 < file
  · have HF : Hid (isF file = false) := Lib.hid (isF_false (by omega))
    clear hr hA ok
    go_enter Try.func34, Try.ntmps34
    go_wp2_with fail
    go_ret
    unfold pTrunc
    rw [if_pos (fun h => by have := h.1; rw [HF.out] at this; cases this)]
    exact ⟨rfl, HSAME.out⟩
  obtain ⟨k, rfl⟩ := Int.eq_ofNat_of_zero_le (Int.not_lt.1 hf0)
  have hk : k < 64 := by omega
  have HF : Hid (isF (k : Int) = true) := Lib.hid (isF_true (by omega))
  have hi0 : (0 : Int) ≤ (k : Int) := by omega
  have hi1 : (k : Int) < 64 := by omega
  by_cases hs0 : size < 0
  · have HS0 := Lib.hid hs0
    clear hr hA ok
    go_enter Try.func34, Try.ntmps34
    go_wp2_with fail
    go_ret
    unfold pTrunc
    rw [if_pos (fun h => by have := h.2.1; have := HS0.out; omega)]
    exact ⟨rfl, HSAME.out⟩
  obtain ⟨z, rfl⟩ := Int.eq_ofNat_of_zero_le (Int.not_lt.1 hs0)
  have cb := hr.bcell hk
  by_cases hs1 : (s.B k).length < z
  · have HS1 := Lib.hid hs1
    clear hr hA ok
    generalize (s.B k).length = n at hs1 cb
    go_enter Try.func34, Try.ntmps34
    go_wp2_with fail
    go_ret
    unfold pTrunc
    rw [if_pos (fun h => by have := h.2.2; rw [Int.toNat_natCast] at this; have := HS1.out; omega)]
    exact ⟨rfl, HSAME.out⟩
  have HS1 := Lib.hid hs1
  have HP : Hid (pTrunc s (k : Int) (z : Int) = if stepOn s.on s.left = true then (0, ⟨s.on, max (s.left - 1) (-1), setB s.B k ((s.B k).take z), setD s.D k (min (s.D k) z)⟩) else (23, { s with on := false })) := Lib.hid (by
    unfold pTrunc
    rw [if_neg (fun h => h ⟨HF.out, by omega, by rw [Int.toNat_natCast]; have := HS1.out; omega⟩)]
    simp only [Int.toNat_natCast])
  cases hon : s.on with
  | false =>
    rw [hon] at c3
    simp only [Bool.not_false] at c3
    have HON := Lib.hid hon
    clear hr hA ok hon
    generalize (s.B k).length = n at hs1 cb
    go_enter Try.func34, Try.ntmps34
    go_wp2_with fail
    go_ret
    rw [HP.out]
    have e : (if stepOn s.on s.left = true then ((0 : Int), (⟨s.on, max (s.left - 1) (-1), setB s.B k ((s.B k).take z), setD s.D k (min (s.D k) z)⟩ : St)) else (23, { s with on := false })) = (23, s) := by
      obtain ⟨on, left, B, D⟩ := s
      have h2 : on = false := HON.out
      subst h2
      rfl
    rw [e]
    exact ⟨rfl, HSAME.out⟩
  | true =>
    rw [hon] at c3
    simp only [Bool.not_true] at c3
    have HON := Lib.hid hon
    have HR1 : Hid (Rf w m bb fb room false s.left s.B s.D ad cp) := Lib.hid (by have := hr; rw [plan_on hon, hon] at this; exact this)
    have HLN : Hid ((s.B k).length ≤ 16777216 ∧ s.D k ≤ 16777216) := Lib.hid ⟨Nat.le_trans (ok.len k) ok.room, Nat.le_trans (ok.dur k) (Nat.le_trans (ok.len k) ok.room)⟩
    clear hr hA ok hon
    generalize hn : (s.B k).length = n at hs1 cb HLN
    have HN : Hid (n = (s.B k).length) := Lib.hid hn.symm
    clear hn
    go_enter Try.func34, Try.ntmps34
    go_wp2_with fail
    refine (rStep_any HR1.out HOK.out.left.2).mono ?_
    rintro e w5 ⟨rfl, h1, h2⟩
    have HE := Lib.hid (And.intro h1 h2)
    clear h1 h2 c3 c1 cb
    by_cases hl0 : s.left = 0
    · rw [decide_eq_true hl0]
      have HL0 := Lib.hid hl0
      clear hl0
      go_wp2_with fail
      go_ret
      rw [HP.out, if_neg (by rw [HON.out, HL0.out]; decide)]
      refine ⟨rfl, upr_of (ad2 := ad) (cp2 := cp) HA.out (HE.out.2.mono (fun g _ hg => .inl hg)) ?_ (fun g hg => .inl hg)⟩
      have h1 := HE.out.1
      rw [decide_eq_true HL0.out, if_neg (by have := HL0.out; omega), show s.left - 1 = -1 by have := HL0.out; omega] at h1
      exact h1
    · rw [decide_eq_false hl0]
      have HL0 := Lib.hid hl0
      have HR5 : Hid (Rf w5 m bb fb room false (if s.left < 0 then s.left else s.left - 1) s.B s.D ad cp) := Lib.hid (by have h1 := HE.out.1; rw [decide_eq_false hl0] at h1; exact h1)
      clear hl0
      generalize hpl : (if s.left < 0 then s.left else s.left - 1) = pl at *
      have HPL := Lib.hid hpl
      clear hpl
      obtain ⟨c1, c2, cb, cf, zb, zf⟩ := HR5.out.drew.at hk
      rw [← HN.out] at cb
      have HC : Hid (Rf (w5.setCell ⟨bb, k, none⟩ (.slice (ad k) z (cp k))).drew m bb fb room false pl (setB s.B k ((s.B k).take z)) s.D ad cp) := Lib.hid (HR5.out.drew.cutRow hk (by have := HS1.out; omega))
      have HKC : Hid (Keeps (fun g => g = m ∨ g = bb ∨ g = fb) w (w5.setCell ⟨bb, k, none⟩ (.slice (ad k) z (cp k))).drew) := Lib.hid (((HE.out.2.mono (fun g _ hg => .inl hg)).trans ((keeps_set _ bb k _).mono (fun g _ hg => .inr (.inl hg)))).drew)
      have hcase : (ad k = none ∧ z = 0 ∧ n = 0 ∧ cp k = 0) ∨ ∃ g, ad k = some ⟨g, 0, none⟩ ∧ n ≤ cp k := by
        have hrow := HR5.out.row k hk
        unfold slV at hrow
        rcases fresh_form hrow with ⟨hv, hz0⟩ | ⟨g, cap2, hv, _, _, hc, _⟩
        · have hl := congrArg List.length hz0
          rw [natI_length, ← HN.out] at hl
          have hl2 : n = 0 := hl
          injection hv with h1 h2 h3
          exact .inl ⟨h1, by omega, hl2, h3⟩
        · injection hv with h1 h2 h3
          rw [natI_length] at hc
          exact .inr ⟨g, h1, by rw [HN.out]; omega⟩
      have hzn : z ≤ n := by omega
      have hfin : ∀ (wz : World) (md : Nat), md = min (s.D k) z → Rf wz m bb fb room false pl (setB s.B k ((s.B k).take z)) (setD s.D k md) ad cp → Keeps (fun g => g = m ∨ g = bb ∨ g = fb) w wz → ResR w A m room (pTrunc s (k : Int) (z : Int)) (.returned (.int .i64 0)) wz := by
        intro wz md hmd hz hkz
        have hmx : max (s.left - 1) (-1) = pl := by rw [← HPL.out]; have := HOK.out.left.1; have := HL0.out; split <;> omega
        rw [HP.out, if_pos (by unfold stepOn; rw [HON.out, decide_eq_false HL0.out]; rfl), hmx, ← hmd]
        refine ⟨rfl, upr_of (ad2 := ad) (cp2 := cp) HA.out (hkz.mono (fun g _ hg => hg.elim .inl (fun h => h.elim (fun h => .inr (.inl h)) (fun h => .inr (.inr (.inl h)))))) ?_ (fun g hg => .inl hg)⟩
        show Rf wz m bb fb room (!s.on) (planS ⟨s.on, pl, setB s.B k ((s.B k).take z), setD s.D k md⟩) (setB s.B k ((s.B k).take z)) (setD s.D k md) ad cp
        rw [plan_on (s := ⟨s.on, pl, _, _⟩) HON.out, HON.out]
        exact hz
      have HFIN := Lib.hid hfin
      have hz1 : (0 : Int) ≤ (z : Int) := by omega
      clear hfin HE HSAME HR HP
      have hgo : ∀ (q : Prop), True := fun _ => trivial
      rcases hcase with ⟨ha, hz0, hn0, hc0⟩ | ⟨g, ha, hnc⟩
      · rw [ha, hc0, hn0] at cb
        rw [ha, hc0] at HC HKC
        clear hs1 hzn hgo ha hn0 hc0
        subst hz0
        go_wp2_with fail
        go_region
        all_goals
          generalize (w5.setCell ⟨bb, k, none⟩ (.slice none 0 0)).drew = w6 at *
          clear c1 c2 cb cf zb zf
          obtain ⟨c1, c2, cb, cf, zb, zf⟩ := HC.out.drew.at hk
          have HF6 := Lib.hid (HC.out.setFirm k (min (s.D k) 0))
          have HK6 := Lib.hid (HKC.out.trans ((keeps_set w6 fb k (.int .i64 ((min (s.D k) 0 : Nat) : Int))).mono (fun g _ hg => .inr (.inr hg))))
          generalize s.D k = d at *
          have HMD : Hid (min (d : Int) 0 = ((min d 0 : Nat) : Int)) := Lib.hid (by omega)
          go_wp2_with fail
          go_region
          all_goals
            go_wp2_with fail
            go_ret
            rw [HMD.out]
            exact HFIN.out _ _ rfl (HF6.out.drew) (HK6.out.drew)
      · rw [ha] at cb
        rw [ha] at HC HKC
        have hz2 : (z : Int) ≤ (cp k : Int) := by omega
        have hz3 : z ≤ cp k := by omega
        clear hs1 hzn hgo ha hnc
        generalize cp k = cc at *
        go_wp2_with fail
        go_region
        all_goals
          generalize (w5.setCell ⟨bb, k, none⟩ (.slice (some ⟨g, 0, none⟩) z cc)).drew = w6 at *
          clear c1 c2 cb cf zb zf
          obtain ⟨c1, c2, cb, cf, zb, zf⟩ := HC.out.drew.at hk
          have HF6 := Lib.hid (HC.out.setFirm k (min (s.D k) z))
          have HK6 := Lib.hid (HKC.out.trans ((keeps_set w6 fb k (.int .i64 ((min (s.D k) z : Nat) : Int))).mono (fun g _ hg => .inr (.inr hg))))
          generalize s.D k = d at *
          have HMD : Hid (min (d : Int) (z : Int) = ((min d z : Nat) : Int)) := Lib.hid (by omega)
          go_wp2_with fail
          go_region
          all_goals
            go_wp2_with fail
            go_ret
            rw [HMD.out]
            exact HFIN.out _ _ rfl (HF6.out.drew) (HK6.out.drew)
end Go.Proofs.Ytadnbakniibmfaa
