/-
  The reference's disk: New, Used, Files, the steps, Arm.
-/
import Derived.Test.YtadnbakniibmfaaRda
import Derived.Deep.OwnRows
namespace Go.Proofs.Ytadnbakniibmfaa
open Go.RowKit Go.Shelf
set_option linter.unusedVariables false
set_option maxRecDepth 100000

def sumTo (B : Nat → List Nat) (k : Nat) : Nat := ((List.range k).map fun k => (B k).length).sum
theorem sumTo_succ (B : Nat → List Nat) (k : Nat) : sumTo B (k + 1) = sumTo B k + (B k).length := by
  unfold sumTo
  rw [List.range_succ, List.map_append, List.sum_append, List.map_singleton, List.sum_singleton]
theorem sumTo_le (B : Nat → List Nat) {j k : Nat} (h : j ≤ k) : sumTo B j ≤ sumTo B k := by
  induction k with
  | zero => rw [Nat.le_zero.1 h]; exact Nat.le_refl _
  | succ k ih =>
    by_cases hj : j ≤ k
    · rw [sumTo_succ]; have := ih hj; omega
    · rw [show j = k + 1 by omega]; exact Nat.le_refl _
def filesTo (B : Nat → List Nat) (k : Nat) : List Nat := (List.range k).filter fun k => !(B k).isEmpty
theorem filesTo_some {B : Nat → List Nat} {k : Nat} (h : 0 < (B k).length) : filesTo B (k + 1) = filesTo B k ++ [k] := by
  unfold filesTo
  rw [List.range_succ, List.filter_append]
  congr 1
  rw [List.filter_cons_of_pos (by cases hb : B k with | nil => rw [hb] at h; simp at h | cons a t => rfl)]
  rfl
theorem filesTo_none {B : Nat → List Nat} {k : Nat} (h : (B k).length = 0) : filesTo B (k + 1) = filesTo B k := by
  unfold filesTo
  rw [List.range_succ, List.filter_append, List.filter_cons_of_neg (by rw [List.eq_nil_of_length_eq_zero h]; decide), List.filter_nil, List.append_nil]
theorem filesTo_len (B : Nat → List Nat) (k : Nat) : (filesTo B k).length ≤ k := by
  unfold filesTo
  exact Nat.le_trans (List.length_filter_le _ _) (by simp)

section
variable {w : World} {m bb fb room : Nat} {off : Bool} {plan : Int} {B : Nat → List Nat} {D : Nat → Nat} {ad : Nat → Option Addr} {cp : Nat → Nat}

def UsedR (B : Nat → List Nat) (w : World) (e : Ending) (w' : World) : Prop := e = .returned (.int .i64 (sumB B : Int)) ∧ w' = w
set_option maxHeartbeats 2000000 in
theorem rUsed_any (h : Rf w m bb fb room off plan B D ad cp) (hs : sumB B ≤ 16777216) : Calls Try.prog 38 #[.pointer (some ⟨m, 0, none⟩)] w (UsedR B w) := by
  have HR := Lib.hid h
  have HS := Lib.hid hs
  have c1 := h.dk.cell 1
  simp only [List.getElem?_cons_succ, List.getElem?_cons_zero] at c1
  clear h hs
  go_enter Try.func38, Try.ntmps38
  go_wp2_with fail
  go_loopw [3, 4] (fun s3 s4 wr => ∃ k n : Nat, k ≤ 64 ∧ s4 = .int .i64 (k : Int) ∧ s3 = .int .i64 (n : Int) ∧ Hid (sumTo B k = n) ∧ w = wr) (fun _ s4 _ => 64 - (intOf s4).toNat)
  case atStart => exact ⟨0, 0, by omega, rfl, rfl, Lib.hid rfl, rfl⟩
  case round =>
    obtain ⟨k, n, hk, rfl, rfl, HN, rfl⟩ := hrel
    by_cases hlt : k < 64
    · have hc := HR.out.bcell hlt
      have hn1 : n + (B k).length ≤ 16777216 := by
        have h1 := sumTo_succ B k
        have h2 := sumTo_le B (show k + 1 ≤ 64 by omega)
        have h3 : sumTo B 64 ≤ 16777216 := HS.out
        have h4 := HN.out
        omega
      have HN2 : Hid (sumTo B (k + 1) = n + (B k).length) := Lib.hid (by rw [sumTo_succ, HN.out])
      generalize (B k).length = x at *
      have hi0 : (0 : Int) ≤ (k : Int) := by omega
      have hi1 : (k : Int) < 64 := by omega
      go_wp2_with fail
      go_roundw
      case rel => exact ⟨k + 1, n + x, by omega, by go_num, by go_num, HN2, trivial⟩
      case measure => simp [intOf]; omega
    · obtain rfl : k = 64 := by omega
      go_wp2_with fail
      go_ret
      exact ⟨by rw [← HN.out]; rfl, rfl⟩

def FilesR (B : Nat → List Nat) (w : World) (e : Ending) (w' : World) : Prop := ∃ v : Value, e = .returned v ∧ Fresh w.heap.size 3 .i64 w' v (natI (filesB B)) ∧ Below w.heap.size w w'
set_option maxHeartbeats 2000000 in
theorem rFiles_any (h : Rf w m bb fb room off plan B D ad cp) : Calls Try.prog 41 #[.pointer (some ⟨m, 0, none⟩)] w (FilesR B w) := by
  obtain ⟨i0, hi, hz0, hz1, hz2⟩ := info_parts info_int
  have HR := Lib.hid h
  clear h
  have c1 := HR.out.dk.cell 1
  simp only [List.getElem?_cons_succ, List.getElem?_cons_zero] at c1
  go_enter Try.func41, Try.ntmps41
  go_wp2_with fail
  clear c1
  go_loopw [3, 4] (fun s3 s4 wr => ∃ k n : Nat, ∃ ua uc, k ≤ 64 ∧ n ≤ k ∧ s4 = .int .i64 (k : Int) ∧ s3 = .slice ua n uc ∧ Hid ((filesTo B k).length = n) ∧ Hid (wr.ownsRow w.heap.size 3 1 (.slice ua n uc) n ((natI (filesTo B k)).map (Value.int .i64))) ∧ Hid (Below w.heap.size w wr)) (fun _ s4 _ => 64 - (intOf s4).toNat)
  case atStart => exact ⟨0, 0, none, 0, by omega, Nat.le_refl _, rfl, rfl, Lib.hid rfl, Lib.hid (World.ownsRow_nil _ _ _ _), Lib.hid (Below.refl _ _)⟩
  case round =>
    obtain ⟨k, n, ua, uc, hk, hn, rfl, rfl, HN, HO, HB⟩ := hrel
    by_cases hlt : k < 64
    · have hR := HR.out.below HB.out
      have hc := hR.bcell hlt
      have c1 := hR.dk.cell 1
      simp only [List.getElem?_cons_succ, List.getElem?_cons_zero] at c1
      clear hR
      have hi0 : (0 : Int) ≤ (k : Int) := by omega
      have hi1 : (k : Int) < 64 := by omega
      by_cases hz : (B k).length = 0
      · have HF := Lib.hid (filesTo_none hz)
        rw [hz] at hc
        clear hz
        go_wp2_with fail
        go_roundw
        case rel => exact ⟨k + 1, n, ua, uc, by omega, by omega, by go_num, rfl, Lib.hid (by rw [HF.out]; exact HN.out), Lib.hid (by rw [HF.out]; exact HO.out), HB⟩
        case measure => simp [intOf]; omega
      · have hz9 : 0 < (B k).length := by omega
        have HF := Lib.hid (filesTo_some hz9)
        generalize (B k).length = x at *
        clear hz
        go_wp2_with (at_builtin; go_must (refine wpList_append_own_at _ rfl _ _ 22 rfl w.heap.size 3 i0 (.int .i64 0) 1 8 Try.underlying22 hi hz0 hz1 hz2 rfl (by decide) (.slice ua n uc) n _ rfl (HO.out.alloc _) ⟨wr.heap.size, 0, none⟩ 1 1 [.int .i64 (k : Int)] rfl rfl (cell_one_new _ _ _) (by simp [Value.oneCell']) (by unfold maxLen; omega) (by omega) (by have := HB.out.size; simp; omega) ?_); intro v' w4 hown hgrow _ _; have HG := Lib.hid (And.intro hown hgrow); clear hown hgrow)
        obtain ⟨va, vc, rfl⟩ : ∃ va vc, v' = .slice va (n + 1) vc := by
          rcases HG.out.1.2 with ⟨_, h0⟩ | ⟨g, cap, cur, h1, _⟩
          · omega
          · exact ⟨_, cap, h1⟩
        go_roundw
        case rel => exact ⟨k + 1, n + 1, va, vc, by omega, by omega, by go_num, rfl, Lib.hid (by rw [HF.out, List.length_append, HN.out]; rfl), Lib.hid (by rw [HF.out]; unfold natI; rw [List.map_append, List.map_append]; exact HG.out.1), Lib.hid ((HB.out.alloc HB.out.size _).grown HG.out.2 (by have := HB.out.size; simp; omega) (fun k hk => (HO.out.lt k hk).1))⟩
        case measure => simp [intOf]; omega
    · obtain rfl : k = 64 := by omega
      go_wp2_with fail
      go_ret
      refine ⟨_, rfl, ?_, HB.out⟩
      unfold Fresh
      rw [natI_length]
      show World.ownsRow _ _ _ _ _ (filesTo B 64).length _
      rw [HN.out]
      exact HO.out

/-- A step, and the plain count within it. -/
def StepR (m bb fb room : Nat) (plan : Int) (B : Nat → List Nat) (D : Nat → Nat) (ad : Nat → Option Addr) (cp : Nat → Nat) (w : World) (e : Ending) (w' : World) : Prop :=
  e = .returned (.bool (decide (plan = 0))) ∧ Rf w' m bb fb room (decide (plan = 0)) (if plan < 0 then plan else plan - 1) B D ad cp ∧ Keeps (fun k => k = m) w w'
set_option maxHeartbeats 2000000 in
theorem rFails_any (h : Rf w m bb fb room false plan B D ad cp) (hp : 0 ≤ plan ∧ plan ≤ 9223372036854775807) : Calls Try.prog 60 #[.pointer (some ⟨m, 0, none⟩)] w (StepR m bb fb room plan B D ad cp w) := by
  have HR := Lib.hid h
  have c3 := h.dk.cell 3
  have c4 := h.dk.cell 4
  have f3 := h.dk.frozen 3
  have f4 := h.dk.frozen 4
  have hh := h.setPlan (plan - 1)
  have d3 := hh.dk.cell 3
  have d4 := hh.dk.cell 4
  have g3 := hh.dk.frozen 3
  simp only [List.getElem?_cons_succ, List.getElem?_cons_zero] at c3 c4 d3 d4
  have hmx : max (plan - 1) (-2) = plan - 1 := by omega
  by_cases h0 : plan = 0
  · subst h0
    have HK : Hid (Keeps (fun k => k = m) w ((w.setCell ⟨m, 4, none⟩ (.int .i64 (0 - 1))).setCell ⟨m, 3, none⟩ (.bool true))) := Lib.hid ((keeps_set w m 4 _).trans (keeps_set _ m 3 _))
    have HH := Lib.hid (hh.setOff true)
    have e3 := HH.out.dk.cell 3
    simp only [List.getElem?_cons_succ, List.getElem?_cons_zero] at e3
    clear h hh hp
    simp only [Int.zero_sub] at *
    go_enter Try.func60, Try.ntmps60
    go_wp2_with fail
    go_ret
    exact ⟨rfl, HH.out, HK.out⟩
  · have HK : Hid (Keeps (fun k => k = m) w (w.setCell ⟨m, 4, none⟩ (.int .i64 (plan - 1)))) := Lib.hid (keeps_set w m 4 _)
    have HH := Lib.hid hh
    have HP := Lib.hid hp
    have H0 := Lib.hid h0
    have hne : ¬ plan - 1 = -1 := by omega
    clear h hh
    go_enter Try.func60, Try.ntmps60
    go_wp2_with fail
    go_ret
    refine ⟨by rw [decide_eq_false H0.out]; rfl, ?_, HK.out⟩
    rw [decide_eq_false H0.out, if_neg (by have := HP.out; omega)]
    exact HH.out
set_option maxHeartbeats 2000000 in
theorem rStep_any (h : Rf w m bb fb room false plan B D ad cp) (hp : plan ≤ 9223372036854775807) : Calls Try.prog 53 #[.pointer (some ⟨m, 0, none⟩)] w (StepR m bb fb room plan B D ad cp w) := by
  have HR := Lib.hid h
  have c4 := h.dk.cell 4
  simp only [List.getElem?_cons_succ, List.getElem?_cons_zero] at c4
  clear h
  by_cases h0 : plan < 0
  · have H0 := Lib.hid h0
    go_enter Try.func53, Try.ntmps53
    go_wp2_with fail
    go_ret
    have hne : ¬ plan = 0 := fun e => by have := H0.out; omega
    refine ⟨by rw [decide_eq_false hne]; rfl, ?_, Keeps.refl _ _⟩
    rw [decide_eq_false hne, if_pos H0.out]
    exact HR.out
  · have H0 := Lib.hid h0
    go_enter Try.func53, Try.ntmps53
    go_wp2_with fail
    refine (rFails_any HR.out ⟨by have := H0.out; omega, hp⟩).mono ?_
    rintro e w' ⟨rfl, h1, h2⟩
    have H1 := Lib.hid (And.intro h1 h2)
    clear h1 h2 c4
    by_cases h00 : plan = 0
    · rw [decide_eq_true h00]
      have H00 := Lib.hid h00
      clear h00
      go_wp2_with fail
      go_ret
      exact ⟨by rw [decide_eq_true H00.out]; rfl, H1.out.1, H1.out.2⟩
    · rw [decide_eq_false h00]
      have H00 := Lib.hid h00
      clear h00
      go_wp2_with fail
      go_ret
      exact ⟨by rw [decide_eq_false H00.out]; rfl, H1.out.1, H1.out.2⟩
end

theorem armR_any {w : World} {A : Foot} {m room : Nat} {s : St} (h : RfS w A m room s) (n : Int) (hn : -9223372036854775808 ≤ n ∧ n ≤ 9223372036854775807) :
    Calls Try.prog 35 #[.pointer (some ⟨m, 0, none⟩), .int .i64 n] w (TupR w A m room (pArm s n)) := by
  obtain ⟨bb, fb, ad, cp, hr, hA⟩ := h
  have c3 := hr.dk.cell 3
  have c4 := hr.dk.cell 4
  have f4 := hr.dk.frozen 4
  simp only [List.getElem?_cons_succ, List.getElem?_cons_zero] at c3 c4
  have HA := Lib.hid hA
  have HR := Lib.hid hr
  cases hon : s.on with
  | false =>
    rw [hon] at c3
    have HON := Lib.hid hon
    clear hr hA hon
    go_enter Try.func35, Try.ntmps35
    go_wp2_with fail
    go_end0
    have e : pArm s n = s := by
      obtain ⟨on, left, B, D⟩ := s
      have h2 : on = false := HON.out
      subst h2
      rfl
    rw [e]
    exact ⟨rfl, upr_of HA.out (Keeps.refl _ _) HR.out (fun g hg => .inl hg)⟩
  | true =>
    rw [hon] at c3
    have HON := Lib.hid hon
    clear hr hA hon
    by_cases hlt : n < -1
    · have HLT := Lib.hid hlt
      have hmx : max n (-1) = -1 := by omega
      go_enter Try.func35, Try.ntmps35
      go_wp2_with fail
      go_end0
      refine ⟨rfl, upr_of HA.out ((keeps_set w m 4 _).mono (fun g _ hg => .inl hg)) (ad2 := ad) (cp2 := cp) ?_ (fun g hg => .inl hg)⟩
      have := HR.out.setPlan (-1)
      have e : planS (pArm s n) = -1 := by
        show (if s.on = true then armL s.on s.left n else -1) = -1
        rw [HON.out]
        show max n (-1) = -1
        have := HLT.out
        omega
      rw [e]
      exact this
    · have HLT := Lib.hid hlt
      have hmx : max n (-1) = n := by omega
      go_enter Try.func35, Try.ntmps35
      go_wp2_with fail
      go_end0
      refine ⟨rfl, upr_of HA.out ((keeps_set w m 4 _).mono (fun g _ hg => .inl hg)) (ad2 := ad) (cp2 := cp) ?_ (fun g hg => .inl hg)⟩
      have := HR.out.setPlan n
      have e : planS (pArm s n) = n := by
        show (if s.on = true then armL s.on s.left n else -1) = n
        rw [HON.out]
        show max n (-1) = n
        have := HLT.out
        omega
      rw [e]
      exact this

theorem below_drew' {B : Nat} (w : World) : Below B w w.drew := ⟨rfl, rfl, rfl, Nat.le_refl _, fun _ _ => rfl⟩
theorem made64 (z : Value) : madeCells #[z] 64 = (cells64 fun _ => z).toArray := by
  apply Array.toList_inj.1
  simp [madeCells, cells64]
  intro a h
  simp [Nat.mod_one]
theorem info_sl : (Try.prog.info? 33).map (fun i => (i.zero, i.size, i.bytes)) = some (some (.slice none 0 0), 1, 24) := by kernel_rfl
theorem rf_new {W : World} {m bb fb room : Nat} (h1 : Laid W m 53 [.int .i64 (room : Int), .slice (some ⟨bb, 0, none⟩) 64 64, .slice (some ⟨fb, 0, none⟩) 64 64, .bool false, .int .i64 (-1)])
    (h2 : Laid W bb 33 (cells64 fun _ => .slice none 0 0)) (h3 : Laid W fb 3 (cells64 fun _ => .int .i64 0)) (hne : m ≠ bb ∧ m ≠ fb ∧ bb ≠ fb) :
    Rf W m bb fb room (!pNew.on) (planS pNew) pNew.B pNew.D (fun _ => none) (fun _ => 0) :=
  ⟨h1, h2, h3, fun k _ => fresh_nil _ _ _ _, fun j k _ _ _ g hg => (by cases hg), fun k _ g hg => (by cases hg), hne⟩
def NewR (room : Nat) (w : World) (e : Ending) (w' : World) : Prop := ∃ m bb fb, e = .returned (.pointer (some ⟨m, 0, none⟩)) ∧ Rf w' m bb fb room (!pNew.on) (planS pNew) pNew.B pNew.D (fun _ => none) (fun _ => 0) ∧ (∀ k, rfFoot m bb fb (fun _ => none) k → w.heap.size ≤ k) ∧ Below w.heap.size w w'
theorem new_end {w W : World} {m bb fb room : Nat} (h : Rf W m bb fb room (!pNew.on) (planS pNew) pNew.B pNew.D (fun _ => none) (fun _ => 0)) (h1 : w.heap.size ≤ m) (h2 : w.heap.size ≤ bb) (h3 : w.heap.size ≤ fb) (hb : Below w.heap.size w W.drew) :
    NewR room w (.returned (.pointer (some ⟨m, 0, none⟩))) W.drew := by
  refine ⟨m, bb, fb, rfl, h.below (below_drew' W), fun k hk => ?_, hb⟩
  rcases hk with rfl | rfl | rfl | ⟨k, _, hk⟩
  · exact h1
  · exact h2
  · exact h3
  · cases hk
set_option maxHeartbeats 4000000 in
theorem newR_any (room : Nat) (w : World) : Calls Try.prog 10 #[.int .i64 (room : Int)] w (NewR room w) := by
  have k1 : ∀ W : World, (Instr.makeSlice 51 (.int .i64 64) (.int .i64 64)).run Try.prog W = .ok (.slice (some ⟨W.heap.size, 0, none⟩) 64 64) (W.alloc (.cells (cells64 fun _ => .slice none 0 0).toArray 33)) := fun W => by
    rw [← made64]; exact run_make_row' (P := Try.prog) 51 33 (.slice none 0 0) 24 Try.underlying51 info_sl rfl .i64 .i64 64 (by decide) (by decide) W
  have k2 : ∀ W : World, (Instr.makeSlice 22 (.int .i64 64) (.int .i64 64)).run Try.prog W = .ok (.slice (some ⟨W.heap.size, 0, none⟩) 64 64) (W.alloc (.cells (cells64 fun _ => .int .i64 0).toArray 3)) := fun W => by
    rw [← made64]; exact run_make_row' (P := Try.prog) 22 3 (.int .i64 0) 8 Try.underlying22 info_int rfl .i64 .i64 64 (by decide) (by decide) W
  generalize hC1 : (cells64 fun _ => (Value.slice none 0 0)) = C1 at k1
  generalize hC2 : (cells64 fun _ => (Value.int .i64 0)) = C2 at k2
  have HC := Lib.hid (And.intro hC1 hC2)
  clear hC1 hC2
  go_enter Try.func10, Try.ntmps10
  go_wp2_with fail
  go_region
  all_goals
    go_wp2_with fail
    go_ret
    obtain ⟨hC1, hC2⟩ := HC.out
    subst hC1 hC2
  · have h1 : Laid ((w.alloc (.cells (cells64 fun _ => .slice none 0 0).toArray 33)).alloc (.cells (cells64 fun _ => .int .i64 0).toArray 3)) w.heap.size 33 (cells64 fun _ => .slice none 0 0) := (Laid.new w _ _).below ((Below.refl _ _).alloc (Nat.le_refl _) _)
    have h2 := Laid.new (w.alloc (.cells (cells64 fun _ => .slice none 0 0).toArray 33)) 3 (cells64 fun _ => .int .i64 0)
    rw [World.size_alloc] at h2
    have h3 := Laid.new ((w.alloc (.cells (cells64 fun _ => .slice none 0 0).toArray 33)).alloc (.cells (cells64 fun _ => .int .i64 0).toArray 3)) 53 [.int .i64 (room : Int), .slice (some ⟨w.heap.size, 0, none⟩) 64 64, .slice (some ⟨w.heap.size + 1, 0, none⟩) 64 64, .bool false, .int .i64 (-1)]
    rw [World.size_alloc, World.size_alloc] at h3
    exact new_end (rf_new h3 (h1.below ((Below.refl _ _).alloc (Nat.le_refl _) _)) (h2.below ((Below.refl _ _).alloc (Nat.le_refl _) _)) ⟨by omega, by omega, by omega⟩) (by omega) (by omega) (by omega) ((((Below.refl _ w).alloc (Nat.le_refl _) _).alloc (by simp) _).alloc (by simp; omega) _).drew
  · have h1 : Laid ((w.alloc (.cells (cells64 fun _ => .int .i64 0).toArray 3)).alloc (.cells (cells64 fun _ => .slice none 0 0).toArray 33)) w.heap.size 3 (cells64 fun _ => .int .i64 0) := (Laid.new w _ _).below ((Below.refl _ _).alloc (Nat.le_refl _) _)
    have h2 := Laid.new (w.alloc (.cells (cells64 fun _ => .int .i64 0).toArray 3)) 33 (cells64 fun _ => .slice none 0 0)
    rw [World.size_alloc] at h2
    have h3 := Laid.new ((w.alloc (.cells (cells64 fun _ => .int .i64 0).toArray 3)).alloc (.cells (cells64 fun _ => .slice none 0 0).toArray 33)) 53 [.int .i64 (room : Int), .slice (some ⟨w.heap.size + 1, 0, none⟩) 64 64, .slice (some ⟨w.heap.size, 0, none⟩) 64 64, .bool false, .int .i64 (-1)]
    rw [World.size_alloc, World.size_alloc] at h3
    exact new_end (rf_new h3 (h2.below ((Below.refl _ _).alloc (Nat.le_refl _) _)) (h1.below ((Below.refl _ _).alloc (Nat.le_refl _) _)) ⟨by omega, by omega, by omega⟩) (by omega) (by omega) (by omega) ((((Below.refl _ w).alloc (Nat.le_refl _) _).alloc (by simp) _).alloc (by simp; omega) _).drew
theorem newRS_any (room : Nat) (w : World) : Calls Try.prog 10 #[.int .i64 (room : Int)] w (fun e w' => ∃ m A, e = .returned (.pointer (some ⟨m, 0, none⟩)) ∧ RfS w' A m room pNew ∧ (∀ k, A k → w.heap.size ≤ k) ∧ Below w.heap.size w w') := by
  refine (newR_any room w).mono ?_
  rintro e w' ⟨m, bb, fb, he, hr, hl, hb⟩
  exact ⟨m, rfFoot m bb fb (fun _ => none), he, ⟨bb, fb, _, _, hr, fun _ h => h⟩, hl, hb⟩
end Go.Proofs.Ytadnbakniibmfaa
