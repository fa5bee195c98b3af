/-
  The reference's disk: Append, Sync, Truncate. The reference's disk: Sync, Truncate.
-/
import Derived.Test.YtlljcnhcknmoaaaGreatRdA
import Derived.BigRegion
namespace Go.Proofs.YtlljcnhcknmoaaaGreat
open Go.RowKit Go.Shelf
set_option linter.unusedVariables false
set_option maxRecDepth 100000

section
variable {w W W2 : World} {m bb fb room : Nat} {off : Bool} {plan : Int} {B : Nat → List Nat} {D : Nat → Nat} {ad : Nat → Option Addr} {cp : Nat → Nat}
theorem Rf.drew (h : Rf W m bb fb room off plan B D ad cp) : Rf W.drew m bb fb room off plan B D ad cp := h.below (below_drew' W)
theorem foot_row {k : Nat} {a : Option Addr} {g : Nat} (h : rfFoot m bb fb (setA ad k a) g) : rfFoot m bb fb ad g ∨ (Value.slice a 0 0).ownBlock = some g := by
  rcases h with h | h | h | ⟨j, hj, h⟩
  · exact .inl (.inl h)
  · exact .inl (.inr (.inl h))
  · exact .inl (.inr (.inr (.inl h)))
  · unfold setA at h
    by_cases hjk : j = k
    · rw [if_pos hjk] at h; exact .inr h
    · rw [if_neg hjk] at h; exact .inl (.inr (.inr (.inr ⟨j, hj, h⟩)))
/-- A slice of new bytes. -/
theorem Rf.newRow (h : Rf W m bb fb room off plan B D ad cp) {k lo : Nat} (hk : k < 64) {a : Option Addr} {c : Nat} {ys : List Nat} (hf : Fresh lo 5 .u8 W (.slice a ys.length c) (natI ys)) (hlo : ∀ g, rfFoot m bb fb ad g → g < lo) :
    Rf (W.setCell ⟨bb, k, none⟩ (.slice a ys.length c)) m bb fb room off plan (setB B k ys) D (setA ad k a) (setA cp k c) :=
  h.setRow hk (fresh_mono hf (Nat.zero_le _)) (fun g hg => by
    have h1 := (hf.lt g hg).1
    refine ⟨fun j hj _ e => ?_, fun e => ?_, fun e => ?_, fun e => ?_⟩
    · have := hlo g (.inr (.inr (.inr ⟨j, hj, (ownB_any _ _ _ _ _).trans e⟩))); omega
    · have := hlo g (.inl e); omega
    · have := hlo g (.inr (.inl e)); omega
    · have := hlo g (.inr (.inr (.inl e))); omega)
end

theorem plan_on {s : St} (h : s.on = true) : planS s = s.left := by unfold planS; rw [h]; rfl
theorem step_off {s : St} (hon : s.on = true) (hl : s.left = 0) : pStep s = (23, { s with on := false }) := by
  unfold pStep stepOn
  rw [hon, hl]; rfl
theorem step_on {s : St} (hon : s.on = true) (hl : ¬ s.left = 0) (h1 : -1 ≤ s.left) : pStep s = (0, { s with left := if s.left < 0 then s.left else s.left - 1 }) := by
  unfold pStep stepOn
  rw [hon, decide_eq_false hl]
  show (_, _) = _
  have : max (s.left - 1) (-1) = if s.left < 0 then s.left else s.left - 1 := by split <;> omega
  rw [this]
theorem app_ok {room k : Nat} {s : St} {zs : List Nat} (hf : isF (k : Int) = true) (hon : s.on = true) (hfit : sumB s.B + zs.length ≤ room) : pApp room s (k : Int) zs = pStep { s with B := setB s.B k (s.B k ++ zs) } := by
  unfold pApp
  rw [hf, if_neg (by decide), if_neg (by rw [hon]; decide), if_neg (fun h => h hfit), Int.toNat_natCast]
/-- A sum that the walk does not see. -/
structure UsedIs (s : St) (n : Nat) : Prop where
  eq : sumB s.B = n
set_option maxHeartbeats 8000000 in
theorem appR_any {w : World} {A : Foot} {m room : Nat} {s : St} (h : RfS w A m room s) (ok : StOk room s) (file : Int) (a : Option Addr) (cap : Nat) (zs : List Nat) (hz : Row .u8 w (.slice a zs.length cap) (natI zs)) (hlz : zs.length ≤ 16777216) :
    Calls Tryz.prog 38 #[.pointer (some ⟨m, 0, none⟩), .int .i64 file, .slice a zs.length cap] w (ResR w A m room (pApp room s file zs)) := by
  obtain ⟨bb, fb, ad, cp, hr, hA⟩ := h
  have HA := Lib.hid hA
  have HR := Lib.hid hr
  have HOK := Lib.hid ok
  have c0 := hr.dk.cell 0
  have c1 := hr.dk.cell 1
  have c3 := hr.dk.cell 3
  simp only [List.getElem?_cons_succ, List.getElem?_cons_zero] at c0 c1 c3
  have HZ := Lib.hid hz
  have HSAME : Hid (UpR w A m room s w) := Lib.hid (upr_of hA (Keeps.refl _ _) hr (fun g hg => .inl hg))
  by_cases hf0 : file < 0
  · have HF : Hid (isF file = false) := Lib.hid (isF_false (by omega))
    clear hr hA ok hz
    go_enter Tryz.func38, Tryz.ntmps38
    go_wp2_with fail
    go_ret
    unfold pApp
    rw [if_pos HF.out]
    exact ⟨rfl, HSAME.out⟩
  by_cases hf1 : 63 < file
  · have HF : Hid (isF file = false) := Lib.hid (isF_false (by omega))
    clear hr hA ok hz
    go_enter Tryz.func38, Tryz.ntmps38
    go_wp2_with fail
    go_ret
    unfold pApp
    rw [if_pos HF.out]
    exact ⟨rfl, HSAME.out⟩
  obtain ⟨k, rfl⟩ := Int.eq_ofNat_of_zero_le (Int.not_lt.1 hf0)
  have hk : k < 64 := by omega
  have HF : Hid (isF (k : Int) = true) := Lib.hid (isF_true (by omega))
  cases hon : s.on with
  | false =>
    rw [hon] at c3
    simp only [Bool.not_false] at c3
    have HON := Lib.hid hon
    clear hr hA ok hz hon
    go_enter Tryz.func38, Tryz.ntmps38
    go_wp2_with fail
    go_ret
    unfold pApp
    rw [HF.out, if_neg (by decide), if_pos HON.out]
    exact ⟨rfl, HSAME.out⟩
  | true =>
    rw [hon] at c3
    simp only [Bool.not_true] at c3
    have HON := Lib.hid hon
    have hsu : sumB s.B ≤ 16777216 := Nat.le_trans ok.sum ok.room
    have HSU := Lib.hid hsu
    have hrm := ok.room
    have HRM := Lib.hid ok.room
    have U := Lib.hid (rUsed_any hr.drew hsu)
    have HX : Hid (w.drew.cell? ⟨m, 0, none⟩ = some (.int .i64 (room : Int))) := Lib.hid c0
    have HR1 := Lib.hid hr.drew
    have HZ1 : Hid (Row .u8 w.drew (.slice a zs.length cap) (natI zs)) := Lib.hid (row_keeps hz (below_drew' w))
    have HB1 : Hid (Below w.heap.size w w.drew) := Lib.hid (below_drew' w)
    have HL := Lib.hid (ok.len k)
    have HLT := Lib.hid hr.lt
    generalize hsb : sumB s.B = sb at *
    have HSB : Hid (UsedIs s sb) := Lib.hid ⟨hsb⟩
    have hU : Calls Tryz.prog 56 #[.pointer (some ⟨m, 0, none⟩)] w.drew (fun e w' => e = .returned (.int .i64 (sb : Int)) ∧ w' = w.drew) := U.out.mono (by rintro e w' ⟨h1, h2⟩; exact ⟨by rw [h1, HSB.out.eq], h2⟩)
    have HU := Lib.hid hU
    clear hsb U hU hr hA ok hz hon hf0 hf1
    have hwr : IntKind.i64.wrap ((sb : Int) + (zs.length : Int)) = (sb : Int) + (zs.length : Int) := by rw [wrap_i64]; unfold wrap64; omega
    by_cases hfit : sb + zs.length ≤ room
    · have HFIT := Lib.hid hfit
      have hi0 : (0 : Int) ≤ (k : Int) := by omega
      have hi1 : (k : Int) < 64 := by omega
      go_enter Tryz.func38, Tryz.ntmps38
      go_wp2_with fail
      go_region_held3 (fun w' : World => w'.cell? ⟨m, 0, none⟩ = some (.int .i64 (room : Int))) (exact HX.out) (first
        | (go_at_call 56; go_must (refine HU.out.mono ?_); rintro e w3 ⟨rfl, rfl⟩))
      clear HX HU c0 c1 c3
      generalize w.drew = w1 at *
      have c1 := HR1.out.dk.cell 1
      have hck := HR1.out.bcell hk
      simp only [List.getElem?_cons_succ, List.getElem?_cons_zero] at c1
      have HRK : Hid (Row .u8 w1 (.slice (ad k) (s.B k).length (cp k)) (natI (s.B k))) := Lib.hid (row_of_fresh (HR1.out.row k hk))
      go_wp2_with (at_builtin; go_must (refine wpList_append_buf rfl _ _ 39 rfl w1.heap.size (.slice none 0 0) [] rfl (fresh_nil _ _ _ _) _ (natI (s.B k)) rfl (.inl ⟨rfl, HRK.out⟩) (by have := HL.out; rw [natI_length]; simp; omega) (Nat.le_refl _) ?_); intro b2 n2 c2 w2 hn2 hfr2 hgr2 hat2; rw [List.nil_append] at hn2 hfr2; rw [natI_length] at hn2; subst hn2; have HG2 := Lib.hid (And.intro hfr2 ((Below.refl w1.heap.size w1).grown hgr2 (Nat.le_refl _) (fun k h => by cases h))); clear hfr2 hgr2 hat2)
      have hr2 := HR1.out.below HG2.out.2
      have HR2D := Lib.hid hr2.drew
      have HF2D : Hid (Fresh w1.heap.size 5 .u8 w2.drew (.slice b2 (s.B k).length c2) (natI (s.B k))) := Lib.hid (fresh_keeps HG2.out.1 (below_drew' w2))
      have HZ2D : Hid (Row .u8 w2.drew (.slice a zs.length cap) (natI zs)) := Lib.hid (row_keeps (row_keeps HZ1.out HG2.out.2) (below_drew' w2))
      have HB2D : Hid (Below w1.heap.size w1 w2.drew) := Lib.hid (HG2.out.2.drew)
      have HX2 : Hid (w2.drew.cell? ⟨m, 1, none⟩ = some (.slice (some ⟨bb, 0, none⟩) 64 64)) := Lib.hid (HR2D.out.dk.cell 1)
      clear hr2 c1 hck HRK hwr hfit hsu hrm
      go_wp2_with fail
      go_region_held3 (fun w' : World => w'.cell? ⟨m, 1, none⟩ = some (.slice (some ⟨bb, 0, none⟩) 64 64)) (first | exact HX4.out _ | exact HX3.out | exact HX2.out) (first
        | (refine step_append_buf (by rfl) _ _ 39 (by rfl) w1.heap.size (.slice b2 (s.B k).length c2) (natI (s.B k)) (by rfl) HF2D.out _ (natI zs) (by rfl) (.inl ⟨rfl, HZ2D.out⟩) (by have := HL.out; have := HRM.out; rw [natI_length, natI_length]; omega) HB2D.out.size ?_; intro b3 n3 c3 w3 hn3 hfr3 hgr3 hat3; rw [List.length_append, natI_length, natI_length, ← List.length_append] at hn3; subst hn3; have HG3 : Hid (Fresh w1.heap.size 5 .u8 w3 (.slice b3 (s.B k ++ zs).length c3) (natI (s.B k ++ zs)) ∧ Below w1.heap.size w1 w3) := Lib.hid ⟨by rw [natI_append]; exact hfr3, HB2D.out.grown hgr3 HB2D.out.size (fun j hj => (HF2D.out.lt j hj).1)⟩; have HR3 := Lib.hid (HR1.out.below HG3.out.2); have HX3 : Hid (w3.cell? ⟨m, 1, none⟩ = some (.slice (some ⟨bb, 0, none⟩) 64 64)) := Lib.hid (HR3.out.dk.cell 1); have HX4 : Hid (∀ v, (w3.setCell ⟨bb, k, none⟩ v).cell? ⟨m, 1, none⟩ = some (.slice (some ⟨bb, 0, none⟩) 64 64)) := Lib.hid (fun v => (HR3.out.dk.keeps (keeps_set w3 bb k v) HR3.out.ne.1).cell 1); have q3 := HR3.out.bcell hk; have z3 := HR3.out.bt.frozen k; clear hfr3 hgr3 hat3))
      obtain ⟨w4, hw4⟩ : ∃ w4, w3.setCell ⟨bb, k, none⟩ (.slice b3 ((s.B k).length + zs.length) c3) = w4 := ⟨_, rfl⟩
      rw [hw4]
      have HR4 : Hid (Rf w4 m bb fb room false s.left (setB s.B k (s.B k ++ zs)) s.D (setA ad k b3) (setA cp k c3)) := Lib.hid (by
        have h1 := HR3.out.newRow hk HG3.out.1 HR1.out.lt
        rw [List.length_append, hw4, HON.out, show planS s = s.left by unfold planS; rw [HON.out]; rfl] at h1
        exact h1)
      have HK4 : Hid (Keeps (rfFoot m bb fb ad) w w4) := Lib.hid (by
        rw [← hw4]
        exact (Keeps.of_below_size (HB1.out.trans (HG3.out.2.mono HB1.out.size))).trans ((keeps_set w3 bb k _).mono (fun g _ hg => .inr (.inl hg))))
      have HF4 : Hid (∀ g, rfFoot m bb fb (setA ad k b3) g → rfFoot m bb fb ad g ∨ w.heap.size ≤ g) := Lib.hid (fun g hg => (foot_row hg).imp id (fun h => by have := (HG3.out.1.lt g ((ownB_any _ _ _ _ _).trans h)).1; have := HB1.out.size; omega))
      clear hw4 q3 z3 HX2 HX3 HX4 HR3 HG3 HR2D HF2D HZ2D HB2D HG2 HR1 HZ1
      go_wp2_with fail
      refine (rStep_any HR4.out HOK.out.left.2).mono ?_
      rintro e w5 ⟨rfl, h1, h2⟩
      have HE := Lib.hid (And.intro h1 h2)
      clear h1 h2
      have hp := app_ok (room := room) (k := k) (zs := zs) HF.out HON.out (by rw [HSB.out.eq]; exact HFIT.out)
      have HP := Lib.hid hp
      clear hp
      by_cases hl0 : s.left = 0
      · rw [decide_eq_true hl0]
        have HL0 := Lib.hid hl0
        clear hl0
        go_wp2_with fail
        go_ret
        rw [HP.out, step_off (s := { s with B := setB s.B k (s.B k ++ zs) }) HON.out HL0.out]
        refine ⟨rfl, upr_of (ad2 := setA ad k b3) (cp2 := setA cp k c3) HA.out (HK4.out.trans (HE.out.2.mono (fun g _ hg => .inl hg))) ?_ HF4.out⟩
        have h1 := HE.out.1
        rw [decide_eq_true HL0.out, if_neg (by have := HL0.out; omega), show s.left - 1 = -1 by have := HL0.out; omega] at h1
        exact h1
      · rw [decide_eq_false hl0]
        have HL0 := Lib.hid hl0
        clear hl0
        go_wp2_with fail
        go_ret
        rw [HP.out, step_on (s := { s with B := setB s.B k (s.B k ++ zs) }) HON.out HL0.out HOK.out.left.1]
        refine ⟨rfl, upr_of (ad2 := setA ad k b3) (cp2 := setA cp k c3) HA.out (HK4.out.trans (HE.out.2.mono (fun g _ hg => .inl hg))) ?_ HF4.out⟩
        have h1 := HE.out.1
        rw [decide_eq_false HL0.out] at h1
        rw [plan_on (s := { s with left := _, B := setB s.B k (s.B k ++ zs) }) HON.out]
        show Rf w5 m bb fb room (!s.on) _ _ _ _ _
        rw [HON.out]
        exact h1
    · have HFIT := Lib.hid hfit
      go_enter Tryz.func38, Tryz.ntmps38
      go_wp2_with fail
      go_region_held3 (fun w' : World => w'.cell? ⟨m, 0, none⟩ = some (.int .i64 (room : Int))) (exact HX.out) (first
        | (go_at_call 56; go_must (refine HU.out.mono ?_); rintro e w3 ⟨rfl, rfl⟩))
      clear HX HU c0 c1 c3
      generalize w.drew = w1 at *
      go_wp2_with fail
      go_ret
      unfold pApp
      rw [HF.out, if_neg (by decide), if_neg (by rw [HON.out]; decide), if_pos (by rw [HSB.out.eq]; exact HFIT.out)]
      exact ⟨rfl, upr_of HA.out (Keeps.of_below_size HB1.out) HR1.out (fun g hg => .inl hg)⟩

section
variable {w W W2 : World} {m bb fb room : Nat} {off : Bool} {plan : Int} {B : Nat → List Nat} {D : Nat → Nat} {ad : Nat → Option Addr} {cp : Nat → Nat}
theorem Rf.durs (h : Rf W m bb fb room off plan B D ad cp) {D2 : Nat → Nat} (hd : ∀ k, k < 64 → D k = D2 k) : Rf W m bb fb room off plan B D2 ad cp :=
  ⟨h.dk, h.bt, (cells64_ext (fun k hk => by rw [hd k hk]) : (cells64 fun k => Value.int .i64 (D k : Int)) = _) ▸ h.ft, h.row, h.sep, h.own, h.ne⟩
theorem Rf.bytes (h : Rf W m bb fb room off plan B D ad cp) {B2 : Nat → List Nat} (hd : ∀ k, k < 64 → B k = B2 k) : Rf W m bb fb room off plan B2 D ad cp :=
  ⟨h.dk, (cells64_ext (fun k hk => by unfold slV; rw [hd k hk]) : cells64 (slV ad cp B) = cells64 (slV ad cp B2)) ▸ h.bt, h.ft,
    fun k hk => by have := h.row k hk; unfold slV at *; rw [hd k hk] at this; exact this,
    fun j k hj hk hjk g hg => by have := h.sep j k hj hk hjk g; unfold slV at *; rw [hd j hj, hd k hk] at this; exact this hg,
    fun k hk g hg => by have := h.own k hk g; unfold slV at *; rw [hd k hk] at this; exact this hg, h.ne⟩
end
def firmTo (B : Nat → List Nat) (D : Nat → Nat) (i : Nat) : Nat → Nat := fun j => if j < i then (B j).length else D j
theorem firmTo_succ (B : Nat → List Nat) (D : Nat → Nat) (i : Nat) : setD (firmTo B D i) i (B i).length = firmTo B D (i + 1) := by
  funext j
  unfold setD firmTo
  by_cases hj : j = i
  · rw [if_pos hj, if_pos (by omega), hj]
  · rw [if_neg hj]
    by_cases h2 : j < i
    · rw [if_pos h2, if_pos (by omega)]
    · rw [if_neg h2, if_neg (by omega)]

/-- What a loop round that stores one number sees of the disk. -/
structure AtR (W : World) (m bb fb i : Nat) (a : Option Addr) (n c d : Nat) : Prop where
  c1 : W.cell? ⟨m, 1, none⟩ = some (.slice (some ⟨bb, 0, none⟩) 64 64)
  c2 : W.cell? ⟨m, 2, none⟩ = some (.slice (some ⟨fb, 0, none⟩) 64 64)
  cb : W.cell? ⟨bb, i, none⟩ = some (.slice a n c)
  cf : W.cell? ⟨fb, i, none⟩ = some (.int .i64 (d : Int))
  zb : W.frozen? ⟨bb, i, none⟩ = false
  zf : W.frozen? ⟨fb, i, none⟩ = false
theorem Rf.at {W : World} {m bb fb room : Nat} {off : Bool} {plan : Int} {B : Nat → List Nat} {D : Nat → Nat} {ad : Nat → Option Addr} {cp : Nat → Nat} (h : Rf W m bb fb room off plan B D ad cp) {i : Nat} (hi : i < 64) : AtR W m bb fb i (ad i) (B i).length (cp i) (D i) :=
  ⟨h.dk.cell 1, h.dk.cell 2, h.bcell hi, h.fcell hi, h.bt.frozen i, h.ft.frozen i⟩

/-- A step of the reference's disk that writes no file's bytes. -/
def ResK (m bb fb room : Nat) (ad : Nat → Option Addr) (cp : Nat → Nat) (w : World) (r : Int × St) (e : Ending) (w' : World) : Prop :=
  e = .returned (.int .i64 r.1) ∧ Rf w' m bb fb room (!r.2.on) (planS r.2) r.2.B r.2.D ad cp ∧ Keeps (fun g => g = m ∨ g = bb ∨ g = fb) w w'
theorem resk_up {w w' : World} {A : Foot} {m bb fb room : Nat} {ad : Nat → Option Addr} {cp : Nat → Nat} {r : Int × St} {e : Ending} (hA : ∀ g, rfFoot m bb fb ad g → A g) (h : ResK m bb fb room ad cp w r e w') : ResR w A m room r e w' :=
  ⟨h.1, upr_of (ad2 := ad) (cp2 := cp) hA (h.2.2.mono (fun g _ hg => hg.elim .inl (fun h => h.elim (fun h => .inr (.inl h)) (fun h => .inr (.inr (.inl h)))))) h.2.1 (fun g hg => .inl hg)⟩

set_option maxHeartbeats 8000000 in
theorem syncK_any {w : World} {m bb fb room : Nat} {s : St} {ad : Nat → Option Addr} {cp : Nat → Nat} (hr : Rf w m bb fb room (!s.on) (planS s) s.B s.D ad cp) (ok : StOk room s) :
    Calls Tryz.prog 28 #[.pointer (some ⟨m, 0, none⟩)] w (ResK m bb fb room ad cp w (pSync s)) := by
  have HR := Lib.hid hr
  have HOK := Lib.hid ok
  have c3 := hr.dk.cell 3
  simp only [List.getElem?_cons_succ, List.getElem?_cons_zero] at c3
  cases hon : s.on with
  | false =>
    rw [hon] at c3
    simp only [Bool.not_false] at c3
    have HON := Lib.hid hon
    clear hr ok hon
    go_enter Tryz.func28, Tryz.ntmps28
    go_wp2_with fail
    go_ret
    have e : pSync s = (23, s) := by
      obtain ⟨on, left, B, D⟩ := s
      have h2 : on = false := HON.out
      subst h2
      rfl
    rw [e]
    exact ⟨rfl, HR.out, Keeps.refl _ _⟩
  | true =>
    rw [hon] at c3
    simp only [Bool.not_true] at c3
    have HON := Lib.hid hon
    have HR1 : Hid (Rf w m bb fb room false s.left s.B s.D ad cp) := Lib.hid (by have := hr; rw [plan_on hon, hon] at this; exact this)
    clear hr ok hon
    go_enter Tryz.func28, Tryz.ntmps28
    go_wp2_with fail
    refine (rStep_any HR1.out HOK.out.left.2).mono ?_
    rintro e w5 ⟨rfl, h1, h2⟩
    have HE := Lib.hid (And.intro h1 h2)
    clear h1 h2 c3
    by_cases hl0 : s.left = 0
    · rw [decide_eq_true hl0]
      have HL0 := Lib.hid hl0
      clear hl0
      go_wp2_with fail
      go_ret
      have e : pSync s = (23, { s with on := false }) := by unfold pSync stepOn; rw [HON.out, HL0.out]; rfl
      rw [e]
      refine ⟨rfl, ?_, HE.out.2.mono (fun g _ hg => .inl hg)⟩
      have h1 := HE.out.1
      rw [decide_eq_true HL0.out, if_neg (by have := HL0.out; omega), show s.left - 1 = -1 by have := HL0.out; omega] at h1
      exact h1
    · rw [decide_eq_false hl0]
      have HL0 := Lib.hid hl0
      have HR5 : Hid (Rf w5 m bb fb room false (if s.left < 0 then s.left else s.left - 1) s.B s.D ad cp) := Lib.hid (by have h1 := HE.out.1; rw [decide_eq_false hl0] at h1; exact h1)
      clear hl0
      generalize hpl : (if s.left < 0 then s.left else s.left - 1) = pl at *
      have HPL := Lib.hid hpl
      clear hpl
      have HLN := Lib.hid HOK.out.len
      have HRM := Lib.hid HOK.out.room
      go_wp2_with fail
      go_loopw [4] (fun s4 wr => ∃ i : Nat, s4 = .int .i64 (i : Int) ∧ i ≤ 64 ∧ Hid (Rf wr m bb fb room false pl s.B (firmTo s.B s.D i) ad cp) ∧ Hid (Keeps (fun k => k = m ∨ k = fb) w wr)) (fun s4 _ => 64 - (intOf s4).toNat)
      case atStart => exact ⟨0, rfl, Nat.zero_le _, Lib.hid (HR5.out.durs (fun k _ => by unfold firmTo; rw [if_neg (Nat.not_lt_zero _)])), Lib.hid (HE.out.2.mono (fun k _ h => .inl h))⟩
      case round =>
        obtain ⟨i, rfl, hi, HB, HK⟩ := hrel
        clear HR5
        by_cases hlt : i < 64
        · obtain ⟨c1, c2, cb, cf, zb, zf⟩ := HB.out.drew.at hlt
          have HN : Hid (Rf (wr.drew.setCell ⟨fb, i, none⟩ (.int .i64 ((s.B i).length : Int))) m bb fb room false pl s.B (firmTo s.B s.D (i + 1)) ad cp) := Lib.hid (by rw [← firmTo_succ]; exact HB.out.drew.setFirm i _)
          have HKN : Hid (Keeps (fun k => k = m ∨ k = fb) w (wr.drew.setCell ⟨fb, i, none⟩ (.int .i64 ((s.B i).length : Int)))) := Lib.hid ((HK.out.drew).trans ((keeps_set _ fb i _).mono (fun k _ h => .inr h)))
          have hln : (s.B i).length ≤ 16777216 := Nat.le_trans (HLN.out i) HRM.out
          generalize (s.B i).length = n at *
          have hi0 : (0 : Int) ≤ (i : Int) := by omega
          have hi1 : (i : Int) < 64 := by omega
          go_wp2_with fail
          go_region
          all_goals
            go_wp2_with fail
            go_roundw
            case rel => exact ⟨i + 1, by go_num, by omega, HN, HKN⟩
            case measure => simp [intOf]; omega
        · obtain rfl : i = 64 := by omega
          go_wp2_with fail
          go_ret
          have e : pSync s = (0, ⟨s.on, max (s.left - 1) (-1), s.B, fun k => (s.B k).length⟩) := by unfold pSync stepOn; rw [HON.out, decide_eq_false HL0.out]; rfl
          have hmx : max (s.left - 1) (-1) = pl := by rw [← HPL.out]; have := HOK.out.left.1; have := HL0.out; split <;> omega
          rw [e, hmx]
          refine ⟨rfl, ?_, HK.out.mono (fun g _ hg => hg.elim .inl (fun h => .inr (.inr h)))⟩
          show Rf wr m bb fb room (!s.on) (planS ⟨s.on, pl, s.B, fun k => (s.B k).length⟩) s.B (fun k => (s.B k).length) ad cp
          rw [plan_on (s := ⟨s.on, pl, s.B, fun k => (s.B k).length⟩) HON.out, HON.out]
          exact HB.out.durs (fun k hk => by unfold firmTo; rw [if_pos hk])

theorem syncR_any {w : World} {A : Foot} {m room : Nat} {s : St} (h : RfS w A m room s) (ok : StOk room s) :
    Calls Tryz.prog 28 #[.pointer (some ⟨m, 0, none⟩)] w (ResR w A m room (pSync s)) := by
  obtain ⟨bb, fb, ad, cp, hr, hA⟩ := h
  exact (syncK_any hr ok).mono fun e w' h => resk_up hA h

theorem setA_self {α : Type} (f : Nat → α) (k : Nat) : setA f k (f k) = f := by
  funext j; unfold setA; split
  · rename_i h; rw [h]
  · rfl
theorem Rf.cutRow {W : World} {m bb fb room : Nat} {off : Bool} {plan : Int} {B : Nat → List Nat} {D : Nat → Nat} {ad : Nat → Option Addr} {cp : Nat → Nat} (h : Rf W m bb fb room off plan B D ad cp) {k z : Nat} (hk : k < 64) (hz : z ≤ (B k).length) :
    Rf (W.setCell ⟨bb, k, none⟩ (.slice (ad k) z (cp k))) m bb fb room off plan (setB B k ((B k).take z)) D ad cp := by
  have hl : ((B k).take z).length = z := by rw [List.length_take]; omega
  have hrow := h.row k hk
  unfold slV at hrow
  have hf : Fresh 0 5 .u8 W (.slice (ad k) ((B k).take z).length (cp k)) (natI ((B k).take z)) := by
    rw [hl]
    rcases fresh_form hrow with ⟨hv, hz0⟩ | ⟨g, cap2, hv, _⟩
    · have hb : B k = [] := List.eq_nil_of_length_eq_zero (by have := congrArg List.length hz0; rw [natI_length] at this; exact this)
      have hz1 : z = 0 := by rw [hb] at hz; simpa using hz
      rw [hb, List.take_nil, hz1]
      rw [hb] at hrow
      exact hrow
    · have hv1 : ad k = some ⟨g, 0, none⟩ := by injection hv
      rw [hv1] at hrow ⊢
      have := fresh_first (g := g) (cap := cp k) (zs := natI (B k)) (by rw [natI_length]; exact hrow) (m := z) (by rw [natI_length]; exact hz)
      rw [natI_first]
      exact this
  have h2 := h.setRow hk hf (fun g hg => by
    have hg2 : (slV ad cp B k).ownBlock = some g := (ownB_any _ _ _ _ _).trans hg
    exact ⟨fun j hj hjk => h.sep k j hk hj (fun e => hjk e.symm) g hg2, h.own k hk g hg2⟩)
  rw [hl, setA_self, setA_self] at h2
  exact h2

set_option maxHeartbeats 8000000 in
theorem truncK_any {w : World} {m bb fb room : Nat} {s : St} {ad : Nat → Option Addr} {cp : Nat → Nat} (hr : Rf w m bb fb room (!s.on) (planS s) s.B s.D ad cp) (ok : StOk room s) (file size : Int) :
    Calls Tryz.prog 27 #[.pointer (some ⟨m, 0, none⟩), .int .i64 file, .int .i64 size] w (ResK m bb fb room ad cp w (pTrunc s file size)) := by
  have HR := Lib.hid hr
  have HOK := Lib.hid ok
  have c1 := hr.dk.cell 1
  have c3 := hr.dk.cell 3
  simp only [List.getElem?_cons_succ, List.getElem?_cons_zero] at c1 c3
  have HSAME : Hid (Rf w m bb fb room (!s.on) (planS s) s.B s.D ad cp ∧ Keeps (fun g => g = m ∨ g = bb ∨ g = fb) w w) := Lib.hid ⟨hr, Keeps.refl _ _⟩
  by_cases hf0 : file < 0
  · have HF : Hid (isF file = false) := Lib.hid (isF_false (by omega))
    clear hr ok
    go_enter Tryz.func27, Tryz.ntmps27
    go_wp2_with fail
    go_ret
    unfold pTrunc
    rw [if_pos (fun h => by have := h.1; rw [HF.out] at this; cases this)]
    exact ⟨rfl, HSAME.out⟩
  by_cases hf1 : 63 < file
  · have HF : Hid (isF file = false) := Lib.hid (isF_false (by omega))
    clear hr ok
    go_enter Tryz.func27, Tryz.ntmps27
    go_wp2_with fail
    go_ret
    unfold pTrunc
    rw [if_pos (fun h => by have := h.1; rw [HF.out] at this; cases this)]
    exact ⟨rfl, HSAME.out⟩
  obtain ⟨k, rfl⟩ := Int.eq_ofNat_of_zero_le (Int.not_lt.1 hf0)
  have hk : k < 64 := by omega
  have HF : Hid (isF (k : Int) = true) := Lib.hid (isF_true (by omega))
  have hi0 : (0 : Int) ≤ (k : Int) := by omega
  have hi1 : (k : Int) < 64 := by omega
  by_cases hs0 : size < 0
  · have HS0 := Lib.hid hs0
    clear hr ok
    go_enter Tryz.func27, Tryz.ntmps27
    go_wp2_with fail
    go_ret
    unfold pTrunc
    rw [if_pos (fun h => by have := h.2.1; have := HS0.out; omega)]
    exact ⟨rfl, HSAME.out⟩
  obtain ⟨z, rfl⟩ := Int.eq_ofNat_of_zero_le (Int.not_lt.1 hs0)
  have cb := hr.bcell hk
  by_cases hs1 : (s.B k).length < z
  · have HS1 := Lib.hid hs1
    clear hr ok
    generalize (s.B k).length = n at hs1 cb
    go_enter Tryz.func27, Tryz.ntmps27
    go_wp2_with fail
    go_ret
    unfold pTrunc
    rw [if_pos (fun h => by have := h.2.2; rw [Int.toNat_natCast] at this; have := HS1.out; omega)]
    exact ⟨rfl, HSAME.out⟩
  have HS1 := Lib.hid hs1
  have HP : Hid (pTrunc s (k : Int) (z : Int) = if stepOn s.on s.left = true then (0, ⟨s.on, max (s.left - 1) (-1), setB s.B k ((s.B k).take z), setD s.D k (min (s.D k) z)⟩) else (23, { s with on := false })) := Lib.hid (by
    unfold pTrunc
    rw [if_neg (fun h => h ⟨HF.out, by omega, by rw [Int.toNat_natCast]; have := HS1.out; omega⟩)]
    simp only [Int.toNat_natCast])
  cases hon : s.on with
  | false =>
    rw [hon] at c3
    simp only [Bool.not_false] at c3
    have HON := Lib.hid hon
    clear hr ok hon
    generalize (s.B k).length = n at hs1 cb
    go_enter Tryz.func27, Tryz.ntmps27
    go_wp2_with fail
    go_ret
    rw [HP.out]
    have e : (if stepOn s.on s.left = true then ((0 : Int), (⟨s.on, max (s.left - 1) (-1), setB s.B k ((s.B k).take z), setD s.D k (min (s.D k) z)⟩ : St)) else (23, { s with on := false })) = (23, s) := by
      obtain ⟨on, left, B, D⟩ := s
      have h2 : on = false := HON.out
      subst h2
      rfl
    rw [e]
    exact ⟨rfl, HSAME.out⟩
  | true =>
    rw [hon] at c3
    simp only [Bool.not_true] at c3
    have HON := Lib.hid hon
    have HR1 : Hid (Rf w m bb fb room false s.left s.B s.D ad cp) := Lib.hid (by have := hr; rw [plan_on hon, hon] at this; exact this)
    have HLN : Hid ((s.B k).length ≤ 16777216 ∧ s.D k ≤ 16777216) := Lib.hid ⟨Nat.le_trans (ok.len k) ok.room, Nat.le_trans (ok.dur k) (Nat.le_trans (ok.len k) ok.room)⟩
    clear hr ok hon
    generalize hn : (s.B k).length = n at hs1 cb HLN
    have HN : Hid (n = (s.B k).length) := Lib.hid hn.symm
    clear hn
    go_enter Tryz.func27, Tryz.ntmps27
    go_wp2_with fail
    refine (rStep_any HR1.out HOK.out.left.2).mono ?_
    rintro e w5 ⟨rfl, h1, h2⟩
    have HE := Lib.hid (And.intro h1 h2)
    clear h1 h2 c3 c1 cb
    by_cases hl0 : s.left = 0
    · rw [decide_eq_true hl0]
      have HL0 := Lib.hid hl0
      clear hl0
      go_wp2_with fail
      go_ret
      rw [HP.out, if_neg (by rw [HON.out, HL0.out]; decide)]
      refine ⟨rfl, ?_, HE.out.2.mono (fun g _ hg => .inl hg)⟩
      have h1 := HE.out.1
      rw [decide_eq_true HL0.out, if_neg (by have := HL0.out; omega), show s.left - 1 = -1 by have := HL0.out; omega] at h1
      exact h1
    · rw [decide_eq_false hl0]
      have HL0 := Lib.hid hl0
      have HR5 : Hid (Rf w5 m bb fb room false (if s.left < 0 then s.left else s.left - 1) s.B s.D ad cp) := Lib.hid (by have h1 := HE.out.1; rw [decide_eq_false hl0] at h1; exact h1)
      clear hl0
      generalize hpl : (if s.left < 0 then s.left else s.left - 1) = pl at *
      have HPL := Lib.hid hpl
      clear hpl
      obtain ⟨c1, c2, cb, cf, zb, zf⟩ := HR5.out.drew.at hk
      rw [← HN.out] at cb
      have HC : Hid (Rf (w5.setCell ⟨bb, k, none⟩ (.slice (ad k) z (cp k))).drew m bb fb room false pl (setB s.B k ((s.B k).take z)) s.D ad cp) := Lib.hid (HR5.out.drew.cutRow hk (by have := HS1.out; omega))
      have HKC : Hid (Keeps (fun g => g = m ∨ g = bb ∨ g = fb) w (w5.setCell ⟨bb, k, none⟩ (.slice (ad k) z (cp k))).drew) := Lib.hid (((HE.out.2.mono (fun g _ hg => .inl hg)).trans ((keeps_set _ bb k _).mono (fun g _ hg => .inr (.inl hg)))).drew)
      have hcase : (ad k = none ∧ z = 0 ∧ n = 0 ∧ cp k = 0) ∨ ∃ g, ad k = some ⟨g, 0, none⟩ ∧ n ≤ cp k := by
        have hrow := HR5.out.row k hk
        unfold slV at hrow
        rcases fresh_form hrow with ⟨hv, hz0⟩ | ⟨g, cap2, hv, _, _, hc, _⟩
        · have hl := congrArg List.length hz0
          rw [natI_length, ← HN.out] at hl
          have hl2 : n = 0 := hl
          injection hv with h1 h2 h3
          exact .inl ⟨h1, by omega, hl2, h3⟩
        · injection hv with h1 h2 h3
          rw [natI_length] at hc
          exact .inr ⟨g, h1, by rw [HN.out]; omega⟩
      have hzn : z ≤ n := by omega
      have hfin : ∀ (wz : World) (md : Nat), md = min (s.D k) z → Rf wz m bb fb room false pl (setB s.B k ((s.B k).take z)) (setD s.D k md) ad cp → Keeps (fun g => g = m ∨ g = bb ∨ g = fb) w wz → ResK m bb fb room ad cp w (pTrunc s (k : Int) (z : Int)) (.returned (.int .i64 0)) wz := by
        intro wz md hmd hz hkz
        have hmx : max (s.left - 1) (-1) = pl := by rw [← HPL.out]; have := HOK.out.left.1; have := HL0.out; split <;> omega
        rw [HP.out, if_pos (by unfold stepOn; rw [HON.out, decide_eq_false HL0.out]; rfl), hmx, ← hmd]
        refine ⟨rfl, ?_, hkz⟩
        show Rf wz m bb fb room (!s.on) (planS ⟨s.on, pl, setB s.B k ((s.B k).take z), setD s.D k md⟩) (setB s.B k ((s.B k).take z)) (setD s.D k md) ad cp
        rw [plan_on (s := ⟨s.on, pl, _, _⟩) HON.out, HON.out]
        exact hz
      have HFIN := Lib.hid hfin
      have hz1 : (0 : Int) ≤ (z : Int) := by omega
      clear hfin HE HSAME HR HP
      have hgo : ∀ (q : Prop), True := fun _ => trivial
      rcases hcase with ⟨ha, hz0, hn0, hc0⟩ | ⟨g, ha, hnc⟩
      · rw [ha, hc0, hn0] at cb
        rw [ha, hc0] at HC HKC
        clear hs1 hzn hgo ha hn0 hc0
        subst hz0
        go_wp2_with fail
        go_region
        all_goals
          generalize (w5.setCell ⟨bb, k, none⟩ (.slice none 0 0)).drew = w6 at *
          clear c1 c2 cb cf zb zf
          obtain ⟨c1, c2, cb, cf, zb, zf⟩ := HC.out.drew.at hk
          have HF6 := Lib.hid (HC.out.setFirm k (min (s.D k) 0))
          have HK6 := Lib.hid (HKC.out.trans ((keeps_set w6 fb k (.int .i64 ((min (s.D k) 0 : Nat) : Int))).mono (fun g _ hg => .inr (.inr hg))))
          generalize s.D k = d at *
          have HMD : Hid (min (d : Int) 0 = ((min d 0 : Nat) : Int)) := Lib.hid (by omega)
          go_wp2_with fail
          go_region
          all_goals
            go_wp2_with fail
            go_ret
            rw [HMD.out]
            exact HFIN.out _ _ rfl (HF6.out.drew) (HK6.out.drew)
      · rw [ha] at cb
        rw [ha] at HC HKC
        have hz2 : (z : Int) ≤ (cp k : Int) := by omega
        have hz3 : z ≤ cp k := by omega
        clear hs1 hzn hgo ha hnc
        generalize cp k = cc at *
        go_wp2_with fail
        go_region
        all_goals
          generalize (w5.setCell ⟨bb, k, none⟩ (.slice (some ⟨g, 0, none⟩) z cc)).drew = w6 at *
          clear c1 c2 cb cf zb zf
          obtain ⟨c1, c2, cb, cf, zb, zf⟩ := HC.out.drew.at hk
          have HF6 := Lib.hid (HC.out.setFirm k (min (s.D k) z))
          have HK6 := Lib.hid (HKC.out.trans ((keeps_set w6 fb k (.int .i64 ((min (s.D k) z : Nat) : Int))).mono (fun g _ hg => .inr (.inr hg))))
          generalize s.D k = d at *
          have HMD : Hid (min (d : Int) (z : Int) = ((min d z : Nat) : Int)) := Lib.hid (by omega)
          go_wp2_with fail
          go_region
          all_goals
            go_wp2_with fail
            go_ret
            rw [HMD.out]
            exact HFIN.out _ _ rfl (HF6.out.drew) (HK6.out.drew)

theorem truncR_any {w : World} {A : Foot} {m room : Nat} {s : St} (h : RfS w A m room s) (ok : StOk room s) (file size : Int) :
    Calls Tryz.prog 27 #[.pointer (some ⟨m, 0, none⟩), .int .i64 file, .int .i64 size] w (ResR w A m room (pTrunc s file size)) := by
  obtain ⟨bb, fb, ad, cp, hr, hA⟩ := h
  exact (truncK_any hr ok file size).mono fun e w' h => resk_up hA h
end Go.Proofs.YtlljcnhcknmoaaaGreat
