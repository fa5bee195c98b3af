/-
  The reference's disk: Append, Sync, Truncate.
-/
import Derived.Test.YtadnbakniibmfaaRdc
import Derived.BigRegion
namespace Go.Proofs.Ytadnbakniibmfaa
open Go.RowKit Go.Shelf
set_option linter.unusedVariables false
set_option maxRecDepth 100000

section
variable {w W W2 : World} {m bb fb room : Nat} {off : Bool} {plan : Int} {B : Nat → List Nat} {D : Nat → Nat} {ad : Nat → Option Addr} {cp : Nat → Nat}
theorem Rf.drew (h : Rf W m bb fb room off plan B D ad cp) : Rf W.drew m bb fb room off plan B D ad cp := h.below (below_drew' W)
theorem foot_row {k : Nat} {a : Option Addr} {g : Nat} (h : rfFoot m bb fb (setA ad k a) g) : rfFoot m bb fb ad g ∨ (Value.slice a 0 0).ownBlock = some g := by
  rcases h with h | h | h | ⟨j, hj, h⟩
  · exact .inl (.inl h)
  · exact .inl (.inr (.inl h))
  · exact .inl (.inr (.inr (.inl h)))
  · unfold setA at h
    by_cases hjk : j = k
    · rw [if_pos hjk] at h; exact .inr h
    · rw [if_neg hjk] at h; exact .inl (.inr (.inr (.inr ⟨j, hj, h⟩)))
/-- A slice of new bytes. -/
theorem Rf.newRow (h : Rf W m bb fb room off plan B D ad cp) {k lo : Nat} (hk : k < 64) {a : Option Addr} {c : Nat} {ys : List Nat} (hf : Fresh lo 5 .u8 W (.slice a ys.length c) (natI ys)) (hlo : ∀ g, rfFoot m bb fb ad g → g < lo) :
    Rf (W.setCell ⟨bb, k, none⟩ (.slice a ys.length c)) m bb fb room off plan (setB B k ys) D (setA ad k a) (setA cp k c) :=
  h.setRow hk (fresh_mono hf (Nat.zero_le _)) (fun g hg => by
    have h1 := (hf.lt g hg).1
    refine ⟨fun j hj _ e => ?_, fun e => ?_, fun e => ?_, fun e => ?_⟩
    · have := hlo g (.inr (.inr (.inr ⟨j, hj, (ownB_any _ _ _ _ _).trans e⟩))); omega
    · have := hlo g (.inl e); omega
    · have := hlo g (.inr (.inl e)); omega
    · have := hlo g (.inr (.inr (.inl e))); omega)
end

theorem plan_on {s : St} (h : s.on = true) : planS s = s.left := by unfold planS; rw [h]; rfl
theorem step_off {s : St} (hon : s.on = true) (hl : s.left = 0) : pStep s = (23, { s with on := false }) := by
  unfold pStep stepOn
  rw [hon, hl]; rfl
theorem step_on {s : St} (hon : s.on = true) (hl : ¬ s.left = 0) (h1 : -1 ≤ s.left) : pStep s = (0, { s with left := if s.left < 0 then s.left else s.left - 1 }) := by
  unfold pStep stepOn
  rw [hon, decide_eq_false hl]
  show (_, _) = _
  have : max (s.left - 1) (-1) = if s.left < 0 then s.left else s.left - 1 := by split <;> omega
  rw [this]
theorem app_ok {room k : Nat} {s : St} {zs : List Nat} (hf : isF (k : Int) = true) (hon : s.on = true) (hfit : sumB s.B + zs.length ≤ room) : pApp room s (k : Int) zs = pStep { s with B := setB s.B k (s.B k ++ zs) } := by
  unfold pApp
  rw [hf, if_neg (by decide), if_neg (by rw [hon]; decide), if_neg (fun h => h hfit), Int.toNat_natCast]
/-- A sum that the walk does not see. -/
structure UsedIs (s : St) (n : Nat) : Prop where
  eq : sumB s.B = n
set_option maxHeartbeats 8000000 in
theorem appR_any {w : World} {A : Foot} {m room : Nat} {s : St} (h : RfS w A m room s) (ok : StOk room s) (file : Int) (a : Option Addr) (cap : Nat) (zs : List Nat) (hz : Row .u8 w (.slice a zs.length cap) (natI zs)) (hlz : zs.length ≤ 16777216) :
    Calls Try.prog 32 #[.pointer (some ⟨m, 0, none⟩), .int .i64 file, .slice a zs.length cap] w (ResR w A m room (pApp room s file zs)) := by
  obtain ⟨bb, fb, ad, cp, hr, hA⟩ := h
  have HA := Lib.hid hA
  have HR := Lib.hid hr
  have HOK := Lib.hid ok
  have c0 := hr.dk.cell 0
  have c1 := hr.dk.cell 1
  have c3 := hr.dk.cell 3
  simp only [List.getElem?_cons_succ, List.getElem?_cons_zero] at c0 c1 c3
  have HZ := Lib.hid hz
  have HSAME : Hid (UpR w A m room s w) := Lib.hid (upr_of hA (Keeps.refl _ _) hr (fun g hg => .inl hg))
  by_cases hf0 : file < 0
  · have HF : Hid (isF file = false) := Lib.hid (isF_false (by omega))
    clear hr hA ok hz
    go_enter Try.func32, Try.ntmps32
    go_wp2_with fail
    go_ret
    unfold pApp
    rw [if_pos HF.out]
    exact ⟨rfl, HSAME.out⟩
  by_cases hf1 : 63 < file
  · have HF : Hid (isF file = false) := Lib.hid (isF_false (by omega))
    clear hr hA ok hz
    go_enter Try.func32, Try.ntmps32
    go_wp2_with fail
    go_ret
    unfold pApp
    rw [if_pos HF.out]
    exact ⟨rfl, HSAME.out⟩
  obtain ⟨k, rfl⟩ := Int.eq_ofNat_of_zero_le (Int.not_lt.1 hf0)
  have hk : k < 64 := by omega
  have HF : Hid (isF (k : Int) = true) := Lib.hid (isF_true (by omega))
  cases hon : s.on with
  | false =>
    rw [hon] at c3
    simp only [Bool.not_false] at c3
    have HON := Lib.hid hon
    clear hr hA ok hz hon
    go_enter Try.func32, Try.ntmps32
    go_wp2_with fail
    go_ret
    unfold pApp
    rw [HF.out, if_neg (by decide), if_pos HON.out]
    exact ⟨rfl, HSAME.out⟩
  | true =>
    rw [hon] at c3
    simp only [Bool.not_true] at c3
    have HON := Lib.hid hon
    have hsu : sumB s.B ≤ 16777216 := Nat.le_trans ok.sum ok.room
    have HSU := Lib.hid hsu
    have hrm := ok.room
    have HRM := Lib.hid ok.room
    have U := Lib.hid (rUsed_any hr.drew hsu)
    have HX : Hid (w.drew.cell? ⟨m, 0, none⟩ = some (.int .i64 (room : Int))) := Lib.hid c0
    have HR1 := Lib.hid hr.drew
    have HZ1 : Hid (Row .u8 w.drew (.slice a zs.length cap) (natI zs)) := Lib.hid (row_keeps hz (below_drew' w))
    have HB1 : Hid (Below w.heap.size w w.drew) := Lib.hid (below_drew' w)
    have HL := Lib.hid (ok.len k)
    have HLT := Lib.hid hr.lt
    generalize hsb : sumB s.B = sb at *
    have HSB : Hid (UsedIs s sb) := Lib.hid ⟨hsb⟩
    have hU : Calls Try.prog 38 #[.pointer (some ⟨m, 0, none⟩)] w.drew (fun e w' => e = .returned (.int .i64 (sb : Int)) ∧ w' = w.drew) := U.out.mono (by rintro e w' ⟨h1, h2⟩; exact ⟨by rw [h1, HSB.out.eq], h2⟩)
    have HU := Lib.hid hU
    clear hsb U hU hr hA ok hz hon hf0 hf1
    have hwr : IntKind.i64.wrap ((sb : Int) + (zs.length : Int)) = (sb : Int) + (zs.length : Int) := by rw [wrap_i64]; unfold wrap64; omega
    by_cases hfit : sb + zs.length ≤ room
    · have HFIT := Lib.hid hfit
      have hi0 : (0 : Int) ≤ (k : Int) := by omega
      have hi1 : (k : Int) < 64 := by omega
      go_enter Try.func32, Try.ntmps32
      go_wp2_with fail
      go_region_held3 (fun w' : World => w'.cell? ⟨m, 0, none⟩ = some (.int .i64 (room : Int))) (exact HX.out) (first
        | (go_at_call 38; go_must (refine HU.out.mono ?_); rintro e w3 ⟨rfl, rfl⟩))
      clear HX HU c0 c1 c3
      generalize w.drew = w1 at *
      have c1 := HR1.out.dk.cell 1
      have hck := HR1.out.bcell hk
      simp only [List.getElem?_cons_succ, List.getElem?_cons_zero] at c1
      have HRK : Hid (Row .u8 w1 (.slice (ad k) (s.B k).length (cp k)) (natI (s.B k))) := Lib.hid (row_of_fresh (HR1.out.row k hk))
      go_wp2_with (at_builtin; go_must (refine wpList_append_buf rfl _ _ 33 rfl w1.heap.size (.slice none 0 0) [] rfl (fresh_nil _ _ _ _) _ (natI (s.B k)) rfl (.inl ⟨rfl, HRK.out⟩) (by have := HL.out; rw [natI_length]; simp; omega) (Nat.le_refl _) ?_); intro b2 n2 c2 w2 hn2 hfr2 hgr2 hat2; rw [List.nil_append] at hn2 hfr2; rw [natI_length] at hn2; subst hn2; have HG2 := Lib.hid (And.intro hfr2 ((Below.refl w1.heap.size w1).grown hgr2 (Nat.le_refl _) (fun k h => by cases h))); clear hfr2 hgr2 hat2)
      have hr2 := HR1.out.below HG2.out.2
      have HR2D := Lib.hid hr2.drew
      have HF2D : Hid (Fresh w1.heap.size 5 .u8 w2.drew (.slice b2 (s.B k).length c2) (natI (s.B k))) := Lib.hid (fresh_keeps HG2.out.1 (below_drew' w2))
      have HZ2D : Hid (Row .u8 w2.drew (.slice a zs.length cap) (natI zs)) := Lib.hid (row_keeps (row_keeps HZ1.out HG2.out.2) (below_drew' w2))
      have HB2D : Hid (Below w1.heap.size w1 w2.drew) := Lib.hid (HG2.out.2.drew)
      have HX2 : Hid (w2.drew.cell? ⟨m, 1, none⟩ = some (.slice (some ⟨bb, 0, none⟩) 64 64)) := Lib.hid (HR2D.out.dk.cell 1)
      clear hr2 c1 hck HRK hwr hfit hsu hrm
      go_wp2_with fail
      go_region_held3 (fun w' : World => w'.cell? ⟨m, 1, none⟩ = some (.slice (some ⟨bb, 0, none⟩) 64 64)) (first | exact HX4.out _ | exact HX3.out | exact HX2.out) (first
        | (refine step_append_buf (by rfl) _ _ 33 (by rfl) w1.heap.size (.slice b2 (s.B k).length c2) (natI (s.B k)) (by rfl) HF2D.out _ (natI zs) (by rfl) (.inl ⟨rfl, HZ2D.out⟩) (by have := HL.out; have := HRM.out; rw [natI_length, natI_length]; omega) HB2D.out.size ?_; intro b3 n3 c3 w3 hn3 hfr3 hgr3 hat3; rw [List.length_append, natI_length, natI_length, ← List.length_append] at hn3; subst hn3; have HG3 : Hid (Fresh w1.heap.size 5 .u8 w3 (.slice b3 (s.B k ++ zs).length c3) (natI (s.B k ++ zs)) ∧ Below w1.heap.size w1 w3) := Lib.hid ⟨by rw [natI_append]; exact hfr3, HB2D.out.grown hgr3 HB2D.out.size (fun j hj => (HF2D.out.lt j hj).1)⟩; have HR3 := Lib.hid (HR1.out.below HG3.out.2); have HX3 : Hid (w3.cell? ⟨m, 1, none⟩ = some (.slice (some ⟨bb, 0, none⟩) 64 64)) := Lib.hid (HR3.out.dk.cell 1); have HX4 : Hid (∀ v, (w3.setCell ⟨bb, k, none⟩ v).cell? ⟨m, 1, none⟩ = some (.slice (some ⟨bb, 0, none⟩) 64 64)) := Lib.hid (fun v => (HR3.out.dk.keeps (keeps_set w3 bb k v) HR3.out.ne.1).cell 1); have q3 := HR3.out.bcell hk; have z3 := HR3.out.bt.frozen k; clear hfr3 hgr3 hat3))
      obtain ⟨w4, hw4⟩ : ∃ w4, w3.setCell ⟨bb, k, none⟩ (.slice b3 ((s.B k).length + zs.length) c3) = w4 := ⟨_, rfl⟩
      rw [hw4]
      have HR4 : Hid (Rf w4 m bb fb room false s.left (setB s.B k (s.B k ++ zs)) s.D (setA ad k b3) (setA cp k c3)) := Lib.hid (by
        have h1 := HR3.out.newRow hk HG3.out.1 HR1.out.lt
        rw [List.length_append, hw4, HON.out, show planS s = s.left by unfold planS; rw [HON.out]; rfl] at h1
        exact h1)
      have HK4 : Hid (Keeps (rfFoot m bb fb ad) w w4) := Lib.hid (by
        rw [← hw4]
        exact (Keeps.of_below_size (HB1.out.trans (HG3.out.2.mono HB1.out.size))).trans ((keeps_set w3 bb k _).mono (fun g _ hg => .inr (.inl hg))))
      have HF4 : Hid (∀ g, rfFoot m bb fb (setA ad k b3) g → rfFoot m bb fb ad g ∨ w.heap.size ≤ g) := Lib.hid (fun g hg => (foot_row hg).imp id (fun h => by have := (HG3.out.1.lt g ((ownB_any _ _ _ _ _).trans h)).1; have := HB1.out.size; omega))
      clear hw4 q3 z3 HX2 HX3 HX4 HR3 HG3 HR2D HF2D HZ2D HB2D HG2 HR1 HZ1
      go_wp2_with fail
      refine (rStep_any HR4.out HOK.out.left.2).mono ?_
      rintro e w5 ⟨rfl, h1, h2⟩
      have HE := Lib.hid (And.intro h1 h2)
      clear h1 h2
      have hp := app_ok (room := room) (k := k) (zs := zs) HF.out HON.out (by rw [HSB.out.eq]; exact HFIT.out)
      have HP := Lib.hid hp
      clear hp
      by_cases hl0 : s.left = 0
      · rw [decide_eq_true hl0]
        have HL0 := Lib.hid hl0
        clear hl0
        go_wp2_with fail
        go_ret
        rw [HP.out, step_off (s := { s with B := setB s.B k (s.B k ++ zs) }) HON.out HL0.out]
        refine ⟨rfl, upr_of (ad2 := setA ad k b3) (cp2 := setA cp k c3) HA.out (HK4.out.trans (HE.out.2.mono (fun g _ hg => .inl hg))) ?_ HF4.out⟩
        have h1 := HE.out.1
        rw [decide_eq_true HL0.out, if_neg (by have := HL0.out; omega), show s.left - 1 = -1 by have := HL0.out; omega] at h1
        exact h1
      · rw [decide_eq_false hl0]
        have HL0 := Lib.hid hl0
        clear hl0
        go_wp2_with fail
        go_ret
        rw [HP.out, step_on (s := { s with B := setB s.B k (s.B k ++ zs) }) HON.out HL0.out HOK.out.left.1]
        refine ⟨rfl, upr_of (ad2 := setA ad k b3) (cp2 := setA cp k c3) HA.out (HK4.out.trans (HE.out.2.mono (fun g _ hg => .inl hg))) ?_ HF4.out⟩
        have h1 := HE.out.1
        rw [decide_eq_false HL0.out] at h1
        rw [plan_on (s := { s with left := _, B := setB s.B k (s.B k ++ zs) }) HON.out]
        show Rf w5 m bb fb room (!s.on) _ _ _ _ _
        rw [HON.out]
        exact h1
    · have HFIT := Lib.hid hfit
      go_enter Try.func32, Try.ntmps32
      go_wp2_with fail
      go_region_held3 (fun w' : World => w'.cell? ⟨m, 0, none⟩ = some (.int .i64 (room : Int))) (exact HX.out) (first
        | (go_at_call 38; go_must (refine HU.out.mono ?_); rintro e w3 ⟨rfl, rfl⟩))
      clear HX HU c0 c1 c3
      generalize w.drew = w1 at *
      go_wp2_with fail
      go_ret
      unfold pApp
      rw [HF.out, if_neg (by decide), if_neg (by rw [HON.out]; decide), if_pos (by rw [HSB.out.eq]; exact HFIT.out)]
      exact ⟨rfl, upr_of HA.out (Keeps.of_below_size HB1.out) HR1.out (fun g hg => .inl hg)⟩
end Go.Proofs.Ytadnbakniibmfaa
