/-
  A disk and the reference's disk side by side: same, made.
-/
import Derived.Test.YtadnbakniibmfaaRdi
import Derived.Deep.RegionHeld3
namespace Go.Proofs.Ytadnbakniibmfaa
open Go.RowKit Go.Shelf
set_option linter.unusedVariables false
set_option maxRecDepth 100000

theorem OpsIs.pt {lo top : Nat} {W : World} {v : Value} {ps : List (Value × Value)} {xs : List OpV} (h : OpsIs lo top W v ps xs) {i : Nat} {p : Value × Value} {x : OpV} (hp : ps[i]? = some p) (hx : xs[i]? = some x) : PartO lo top W p x ∧ x.ok := by
  obtain ⟨h1, rfl⟩ := List.getElem?_eq_some_iff.1 hp
  obtain ⟨h2, rfl⟩ := List.getElem?_eq_some_iff.1 hx
  exact ⟨h.part i h1 h2, h.ok _ (List.getElem_mem h2)⟩
/-- The cells of an operation. -/
structure OpAt (W : World) (g i : Nat) (p : Value × Value) (x : OpV) : Prop where
  c0 : W.cell? ⟨g, i * 5, none⟩ = some (.int .i64 (x.kind : Int))
  c1 : W.cell? ⟨g, i * 5 + 1, none⟩ = some (.int .i64 x.file)
  c2 : W.cell? ⟨g, i * 5 + 2, none⟩ = some (.int .i64 x.n)
  c3 : W.cell? ⟨g, i * 5 + 3, none⟩ = some p.1
  c4 : W.cell? ⟨g, i * 5 + 4, none⟩ = some p.2
theorem OpsIs.cells {lo top : Nat} {W : World} {g c n : Nat} {ps : List (Value × Value)} {xs : List OpV} (h : OpsIs lo top W (.slice (some ⟨g, 0, none⟩) n c) ps xs) {i : Nat} {p : Value × Value} {x : OpV} (hp : ps[i]? = some p) (hx : xs[i]? = some x) : OpAt W g i p x := by
  obtain ⟨h1, rfl⟩ := List.getElem?_eq_some_iff.1 hp
  obtain ⟨h2, rfl⟩ := List.getElem?_eq_some_iff.1 hx
  have hc : ∀ f, f < 5 → ∀ u, (cellsO ps[i] xs[i])[f]? = some u → W.cell? ⟨g, i * 5 + f, none⟩ = some u := fun f hf u hu => by
    have := World.ownsRow.cells h.own (g := g) rfl (i * 5 + f) u (by rw [flatO_get ps xs i f h.len hf h1 h2]; exact hu)
    rw [add_none, Nat.zero_add] at this
    exact this
  exact ⟨hc 0 (by omega) _ rfl, hc 1 (by omega) _ rfl, hc 2 (by omega) _ rfl, hc 3 (by omega) _ rfl, hc 4 (by omega) _ rfl⟩
theorem OpsIs.addr {lo top : Nat} {W : World} {a : Option Addr} {c : Nat} {ps : List (Value × Value)} {xs : List OpV} (h : OpsIs lo top W (.slice a xs.length c) ps xs) {i : Nat} (hi : i < xs.length) : ∃ g p x, a = some ⟨g, 0, none⟩ ∧ ps[i]? = some p ∧ xs[i]? = some x := by
  rcases h.own.2 with ⟨_, h0⟩ | ⟨g, cap, cur, hv, _⟩
  · omega
  · injection hv with h1 _ _
    exact ⟨g, ps[i]'(by rw [h.len]; exact hi), xs[i], h1, List.getElem?_eq_getElem _, List.getElem?_eq_getElem _⟩
/-- A disk in a state, the reference's disk in a state, operations in blocks from lo to hi. -/
structure PairD (n lo hi : Nat) (W : World) (A R : Foot) (d m room : Nat) (s t : St) (v : Value) (ps : List (Value × Value)) (xs : List OpV) : Prop where
  dk : Dsk n W A d room s
  rf : Rsk n W R m room t
  sep : ∀ k, A k → ¬ R k
  ga : ∀ k, A k → k < lo ∨ hi ≤ k
  gr : ∀ k, R k → k < lo ∨ hi ≤ k
  ops : OpsIs lo hi W v ps xs
  top : hi ≤ W.heap.size
section
variable {n lo hi : Nat} {W W2 : World} {A R : Foot} {d m room : Nat} {s t s2 : St} {v : Value} {ps : List (Value × Value)} {xs : List OpV}
theorem PairD.below (h : PairD n lo hi W A R d m room s t v ps xs) (hb : Below W.heap.size W W2) : PairD n lo hi W2 A R d m room s t v ps xs :=
  ⟨h.dk.below hb, h.rf.below hb, h.sep, h.ga, h.gr, h.ops.below hb h.top, Nat.le_trans h.top hb.size⟩
theorem PairD.stepD (h : PairD n lo hi W A R d m room s t v ps xs) (hu : UpS W A d room s2 W2) (hn : n ≤ W.heap.size) : ∃ A2, PairD n lo hi W2 A2 R d m room s2 t v ps xs ∧ Below n W W2 ∧ (∀ k, A2 k → A k ∨ W.heap.size ≤ k) ∧ Keeps A W W2 := by
  obtain ⟨A2, hd, hk, hf, hb⟩ := h.dk.up hu hn
  refine ⟨A2, ⟨hd, h.rf.other hk (fun k h1 h2 => h.sep k h2 h1), fun k h1 h2 => ?_, fun k h1 => ?_, h.gr, h.ops.keeps hk h.ga, Nat.le_trans h.top hk.size⟩, hb, hf, hk⟩
  · rcases hf k h1 with h3 | h3
    · exact h.sep k h3 h2
    · have := h.rf.hi k h2; omega
  · rcases hf k h1 with h3 | h3
    · exact h.ga k h3
    · have := h.top; omega
theorem PairD.stepR (h : PairD n lo hi W A R d m room s t v ps xs) (hu : UpR W R m room s2 W2) (hn : n ≤ W.heap.size) : ∃ R2, PairD n lo hi W2 A R2 d m room s s2 v ps xs ∧ Below n W W2 ∧ (∀ k, R2 k → R k ∨ W.heap.size ≤ k) ∧ Keeps R W W2 := by
  obtain ⟨R2, hd, hk, hf, hb⟩ := h.rf.up hu hn
  refine ⟨R2, ⟨h.dk.other hk (fun k h1 h2 => h.sep k h1 h2), hd, fun k h1 h2 => ?_, h.ga, fun k h1 => ?_, h.ops.keeps hk h.gr, Nat.le_trans h.top hk.size⟩, hb, hf, hk⟩
  · rcases hf k h2 with h3 | h3
    · exact h.sep k h1 h3
    · have := h.dk.hi k h1; omega
  · rcases hf k h1 with h3 | h3
    · exact h.gr k h3
    · have := h.top; omega
theorem PairD.ok (h : PairD n lo hi W A R d m room s t v ps xs) : StOk room s := dks_ok h.dk.dk
/-- The i-th operation, done to the disk. -/
theorem PairD.doD (h : PairD n lo hi W A R d m room s t v ps xs) {i : Nat} {p : Value × Value} {x : OpV} (hp' : ps[i]? = some p) (hx' : xs[i]? = some x) :
    Calls Try.prog 12 #[.pointer (some ⟨d, 0, none⟩), .agg #[.int .i64 (x.kind : Int), .int .i64 x.file, .int .i64 x.n, p.1, p.2]] W (ResS W A d room (pDo room s x)) :=
  have ⟨hp, hx⟩ := h.ops.pt hp' hx'
  doS_any h.dk.dk hp hx (fun j hj hA => by
    have h1 := h.ga j hA
    rcases hj with h2 | h2
    · have := hp.bb j h2; omega
    · have := hp.kb j h2; omega)
theorem PairD.doR (h : PairD n lo hi W A R d m room s t v ps xs) (ok : StOk room t) {i : Nat} {p : Value × Value} {x : OpV} (hp' : ps[i]? = some p) (hx' : xs[i]? = some x) :
    Calls Try.prog 13 #[.pointer (some ⟨m, 0, none⟩), .agg #[.int .i64 (x.kind : Int), .int .i64 x.file, .int .i64 x.n, p.1, p.2]] W (ResR W R m room (pDo room t x)) :=
  have ⟨hp, hx⟩ := h.ops.pt hp' hx'
  doR_any h.rf.dk ok hp hx (fun j hj hA => by
    have h1 := h.gr j hA
    rcases hj with h2 | h2
    · have := hp.bb j h2; omega
    · have := hp.kb j h2; omega)
end
/-- All of a list of operations, or the first of them. -/
def pAll (room : Nat) (xs : List OpV) (i : Nat) (s : St) : St := (xs.take i).foldl (fun s x => (pDo room s x).2) s
theorem pAll_succ {room : Nat} {xs : List OpV} {i : Nat} (hi : i < xs.length) (s : St) : pAll room xs (i + 1) s = (pDo room (pAll room xs i s) xs[i]).2 := by
  unfold pAll
  rw [List.take_succ_eq_append_getElem hi, List.foldl_append]
  rfl
theorem pAll_zero (room : Nat) (xs : List OpV) (s : St) : pAll room xs 0 s = s := rfl

structure FilesIs (s : St) (fs : List Nat) : Prop where
  eq : filesB s.B = fs
theorem read_on {s : St} (h : s.on = true) {i : Nat} (hi : i < 4) : pRead s (i : Int) = (0, s.B i) := by
  unfold pRead
  rw [isF_true (by omega), if_neg (by decide), h, if_neg (by decide), Int.toNat_natCast]
theorem read_off {s : St} (h : s.on = false) {i : Nat} (hi : i < 4) : pRead s (i : Int) = (23, []) := by
  unfold pRead
  rw [isF_true (by omega), if_neg (by decide), if_pos h]
theorem refl_i (l : List Int) : decide (l = l) = true := decide_eq_true rfl
set_option maxHeartbeats 8000000 in
theorem same_any {w : World} {A R : Foot} {d m room : Nat} {s : St} (h : DkS w A d room s) (hr : RfS w R m room s) (hroom : room ≤ 1000000) :
    Calls Try.prog 14 #[.pointer (some ⟨d, 0, none⟩), .pointer (some ⟨m, 0, none⟩)] w (fun e w' => e = .returned (.bool true) ∧ Below w.heap.size w w') := by
  have ok := dks_ok h
  have HROOM := Lib.hid hroom
  clear hroom
  obtain ⟨bb, fb, ad, cp, hrf, hR⟩ := hr
  have hsu : sumB s.B ≤ 16777216 := Nat.le_trans ok.sum ok.room
  obtain ⟨sb, hsb⟩ : ∃ sb, UsedIs s sb := ⟨_, ⟨rfl⟩⟩
  obtain ⟨fs, hfs⟩ : ∃ fs, FilesIs s fs := ⟨_, ⟨rfl⟩⟩
  have HD := Lib.hid h
  have HRF := Lib.hid hrf
  have HOK := Lib.hid ok
  have UD : Hid (∀ W, Below w.heap.size w W → Calls Try.prog 37 #[.pointer (some ⟨d, 0, none⟩)] W (fun e w' => e = .returned (.int .i64 (sb : Int)) ∧ Below W.heap.size W w')) := Lib.hid (fun W hb => (usedS_any (dkm_below h hb)).mono (by rintro e w' ⟨h1, h2⟩; exact ⟨by rw [h1, hsb.eq], h2⟩))
  have UR : Hid (∀ W, Below w.heap.size w W → Calls Try.prog 38 #[.pointer (some ⟨m, 0, none⟩)] W (fun e w' => e = .returned (.int .i64 (sb : Int)) ∧ w' = W)) := Lib.hid (fun W hb => (rUsed_any (hrf.below hb) hsu).mono (by rintro e w' ⟨h1, h2⟩; exact ⟨by rw [h1, hsb.eq], h2⟩))
  have FD : Hid (∀ W, Below w.heap.size w W → Calls Try.prog 40 #[.pointer (some ⟨d, 0, none⟩)] W (fun e w' => ∃ a c, e = .returned (.slice a fs.length c) ∧ Fresh W.heap.size 3 .i64 w' (.slice a fs.length c) (natI fs) ∧ Below W.heap.size W w')) := Lib.hid (fun W hb => (filesS_any (dkm_below h hb)).mono (by
    rintro e w' ⟨v, h1, h2, h3⟩
    rw [hfs.eq] at h2
    obtain ⟨a, c, hv, _⟩ := fresh_elems h2
    rw [natI_length] at hv
    exact ⟨a, c, by rw [h1, hv], by rw [← hv]; exact h2, h3⟩))
  have FR : Hid (∀ W, Below w.heap.size w W → Calls Try.prog 41 #[.pointer (some ⟨m, 0, none⟩)] W (fun e w' => ∃ a c, e = .returned (.slice a fs.length c) ∧ Fresh W.heap.size 3 .i64 w' (.slice a fs.length c) (natI fs) ∧ Below W.heap.size W w')) := Lib.hid (fun W hb => (rFiles_any (hrf.below hb)).mono (by
    rintro e w' ⟨v, h1, h2, h3⟩
    rw [hfs.eq] at h2
    obtain ⟨a, c, hv, _⟩ := fresh_elems h2
    rw [natI_length] at hv
    exact ⟨a, c, by rw [h1, hv], by rw [← hv]; exact h2, h3⟩))
  have HFL : Hid (fs.length ≤ 64) := Lib.hid (by rw [← hfs.eq]; exact files_len _)
  -- SAME
  have HB0 : Hid (Below w.heap.size w w.drew) := Lib.hid (below_drew' w)
  clear hsb hfs hsu ok h hrf hR
  cases hon : s.on
  · have HON := Lib.hid hon
    have HC3 : Hid (∀ W, Below w.heap.size w W → W.cell? ⟨m, 3, none⟩ = some (.bool true)) := Lib.hid (fun W hb => by
      have := (HRF.out.below hb).dk.cell 3
      rw [HON.out] at this
      exact this)
    have OD : Hid (∀ W, Below w.heap.size w W → Calls Try.prog 18 #[.pointer (some ⟨d, 0, none⟩)] W (fun e w' => e = .returned (.bool false) ∧ w' = W)) := Lib.hid (fun W hb => (onS_any (dkm_below HD.out hb)).mono (by rintro e w' ⟨h1, h2⟩; exact ⟨by rw [h1, HON.out], h2⟩))
    clear hon
    go_enter Try.func14, Try.ntmps14
    go_wp2_with fail
    go_region_held3 (fun w' : World => w'.cell? ⟨m, 3, none⟩ = some (.bool true)) (exact HC3.out _ (by first | exact HBe.out | exact HBd.out | exact HBc.out | exact HBa.out | exact HB0.out)) (first
      | (go_at_call 37; refine (UD.out _ (by first | exact HBe.out | exact HBd.out | exact HBc.out | exact HBa.out | exact HB0.out)).mono ?_; rintro e wa ⟨rfl, ha⟩; have HBa : Hid (Below w.heap.size w wa) := Lib.hid (by first | exact below_then HBe.out ha | exact below_then HBd.out ha | exact below_then HBc.out ha | exact below_then HB0.out ha); clear ha)
      | (go_at_call 38; refine (UR.out _ (by first | exact HBe.out | exact HBd.out | exact HBc.out | exact HBa.out | exact HB0.out)).mono ?_; rintro e wz ⟨rfl, rfl⟩)
      | (go_at_call 18; refine (OD.out _ (by first | exact HBe.out | exact HBd.out | exact HBc.out | exact HBa.out | exact HB0.out)).mono ?_; rintro e wz ⟨rfl, rfl⟩)
      | (go_at_call 40; refine (FD.out _ (by first | exact HBe.out | exact HBd.out | exact HBc.out | exact HBa.out | exact HB0.out)).mono ?_; rintro e wc ⟨va, vc, rfl, hv, hc⟩; have HBc : Hid (Below w.heap.size w wc) := Lib.hid (by first | exact below_then HBe.out hc | exact below_then HBd.out hc | exact below_then HBa.out hc | exact below_then HB0.out hc); have HVD := Lib.hid hv; (try have HVR2 := Lib.hid (fresh_keeps HVR.out hc)); clear hc hv)
      | (go_at_call 41; refine (FR.out _ (by first | exact HBe.out | exact HBd.out | exact HBc.out | exact HBa.out | exact HB0.out)).mono ?_; rintro e wd ⟨ua, uc, rfl, hu, hd⟩; have HBd : Hid (Below w.heap.size w wd) := Lib.hid (by first | exact below_then HBe.out hd | exact below_then HBc.out hd | exact below_then HBa.out hd | exact below_then HB0.out hd); have HVR := Lib.hid hu; (try have HVD2 := Lib.hid (fresh_keeps HVD.out hd)); clear hd hu)
      | (go_at_call 39; refine (sameInts_any _ _ (natI fs) (natI fs) _ (by first | exact Elems.of_fresh HVD2.out | exact Elems.of_fresh HVD.out) (by first | exact Elems.of_fresh HVR2.out | exact Elems.of_fresh HVR.out) (by have := HFL.out; rw [natI_length]; omega) (by have := HFL.out; rw [natI_length]; omega)).mono ?_; rintro e we ⟨rfl, he⟩; rw [refl_i]; have HBe : Hid (Below w.heap.size w we) := Lib.hid (by first | exact below_then HBd.out he | exact below_then HBc.out he | exact below_then HBa.out he | exact below_then HB0.out he); clear he))
    all_goals
      (try clear HBa); (try clear HBc); (try clear HBd); (try clear HB0); (try clear HVD); (try clear HVR); (try clear HVD2); (try clear HVR2)
      clear UD UR FD FR OD
      go_wp2_with fail
      go_loopw [5] (fun s5 wr => ∃ i : Nat, s5 = .int .i64 (i : Int) ∧ i ≤ 4 ∧ Hid (Below w.heap.size w wr)) (fun s5 _ => 4 - (intOf s5).toNat)
      case atStart => exact ⟨0, rfl, by omega, HBe⟩
      case round =>
        obtain ⟨i, rfl, hi, HB⟩ := hrel
        clear HBe
        by_cases hlt : i < 4
        · have HI := Lib.hid hlt
          have hrd := readS_any (dkm_below HD.out HB.out) (i : Int)
          rw [read_off HON.out HI.out] at hrd
          go_wp2_with fail
          refine hrd.mono ?_
          rintro e w2 ⟨x, rfl, hx, hb2⟩
          clear hrd
          obtain ⟨xa, xc, hxv, _⟩ := fresh_elems hx
          rw [natI_length] at hxv
          subst hxv
          have HX2 := Lib.hid hx
          have HB2 := Lib.hid (below_then HB.out hb2)
          have c3 := HC3.out _ HB2.out
          clear hx hb2
          go_wp2_with fail
          go_roundw
          case rel => exact ⟨i + 1, by go_num, by omega, HB2⟩
          case measure => simp [intOf]; omega
        · obtain rfl : i = 4 := by omega
          go_wp2_with fail
          go_ret
          exact ⟨rfl, HB.out⟩
  · have HON := Lib.hid hon
    have HC3 : Hid (∀ W, Below w.heap.size w W → W.cell? ⟨m, 3, none⟩ = some (.bool false)) := Lib.hid (fun W hb => by
      have := (HRF.out.below hb).dk.cell 3
      rw [HON.out] at this
      exact this)
    have OD : Hid (∀ W, Below w.heap.size w W → Calls Try.prog 18 #[.pointer (some ⟨d, 0, none⟩)] W (fun e w' => e = .returned (.bool true) ∧ w' = W)) := Lib.hid (fun W hb => (onS_any (dkm_below HD.out hb)).mono (by rintro e w' ⟨h1, h2⟩; exact ⟨by rw [h1, HON.out], h2⟩))
    clear hon
    go_enter Try.func14, Try.ntmps14
    go_wp2_with fail
    go_region_held3 (fun w' : World => w'.cell? ⟨m, 3, none⟩ = some (.bool false)) (exact HC3.out _ (by first | exact HBe.out | exact HBd.out | exact HBc.out | exact HBa.out | exact HB0.out)) (first
      | (go_at_call 37; refine (UD.out _ (by first | exact HBe.out | exact HBd.out | exact HBc.out | exact HBa.out | exact HB0.out)).mono ?_; rintro e wa ⟨rfl, ha⟩; have HBa : Hid (Below w.heap.size w wa) := Lib.hid (by first | exact below_then HBe.out ha | exact below_then HBd.out ha | exact below_then HBc.out ha | exact below_then HB0.out ha); clear ha)
      | (go_at_call 38; refine (UR.out _ (by first | exact HBe.out | exact HBd.out | exact HBc.out | exact HBa.out | exact HB0.out)).mono ?_; rintro e wz ⟨rfl, rfl⟩)
      | (go_at_call 18; refine (OD.out _ (by first | exact HBe.out | exact HBd.out | exact HBc.out | exact HBa.out | exact HB0.out)).mono ?_; rintro e wz ⟨rfl, rfl⟩)
      | (go_at_call 40; refine (FD.out _ (by first | exact HBe.out | exact HBd.out | exact HBc.out | exact HBa.out | exact HB0.out)).mono ?_; rintro e wc ⟨va, vc, rfl, hv, hc⟩; have HBc : Hid (Below w.heap.size w wc) := Lib.hid (by first | exact below_then HBe.out hc | exact below_then HBd.out hc | exact below_then HBa.out hc | exact below_then HB0.out hc); have HVD := Lib.hid hv; (try have HVR2 := Lib.hid (fresh_keeps HVR.out hc)); clear hc hv)
      | (go_at_call 41; refine (FR.out _ (by first | exact HBe.out | exact HBd.out | exact HBc.out | exact HBa.out | exact HB0.out)).mono ?_; rintro e wd ⟨ua, uc, rfl, hu, hd⟩; have HBd : Hid (Below w.heap.size w wd) := Lib.hid (by first | exact below_then HBe.out hd | exact below_then HBc.out hd | exact below_then HBa.out hd | exact below_then HB0.out hd); have HVR := Lib.hid hu; (try have HVD2 := Lib.hid (fresh_keeps HVD.out hd)); clear hd hu)
      | (go_at_call 39; refine (sameInts_any _ _ (natI fs) (natI fs) _ (by first | exact Elems.of_fresh HVD2.out | exact Elems.of_fresh HVD.out) (by first | exact Elems.of_fresh HVR2.out | exact Elems.of_fresh HVR.out) (by have := HFL.out; rw [natI_length]; omega) (by have := HFL.out; rw [natI_length]; omega)).mono ?_; rintro e we ⟨rfl, he⟩; rw [refl_i]; have HBe : Hid (Below w.heap.size w we) := Lib.hid (by first | exact below_then HBd.out he | exact below_then HBc.out he | exact below_then HBa.out he | exact below_then HB0.out he); clear he))
    all_goals
      (try clear HBa); (try clear HBc); (try clear HBd); (try clear HB0); (try clear HVD); (try clear HVR); (try clear HVD2); (try clear HVR2)
      clear UD UR FD FR OD
      go_wp2_with fail
      go_loopw [5] (fun s5 wr => ∃ i : Nat, s5 = .int .i64 (i : Int) ∧ i ≤ 4 ∧ Hid (Below w.heap.size w wr)) (fun s5 _ => 4 - (intOf s5).toNat)
      case atStart => exact ⟨0, rfl, by omega, HBe⟩
      case round =>
        obtain ⟨i, rfl, hi, HB⟩ := hrel
        clear HBe
        by_cases hlt : i < 4
        · have HI := Lib.hid hlt
          have hrd := readS_any (dkm_below HD.out HB.out) (i : Int)
          rw [read_on HON.out HI.out] at hrd
          go_wp2_with fail
          refine hrd.mono ?_
          rintro e w2 ⟨x, rfl, hx, hb2⟩
          clear hrd
          obtain ⟨xa, xc, hxv, _⟩ := fresh_elems hx
          rw [natI_length] at hxv
          subst hxv
          have HX2 := Lib.hid hx
          have HB2 := Lib.hid (below_then HB.out hb2)
          have c3 := HC3.out _ HB2.out
          clear hx hb2
          have hln : (s.B i).length ≤ 16777216 := Nat.le_trans (HOK.out.len i) HOK.out.room
          have hR2 := HRF.out.below HB2.out
          have c1 := hR2.dk.cell 1
          have cb := hR2.bcell (show i < 64 by omega)
          have hrw := hR2.row i (by omega)
          unfold slV at hrw
          simp only [List.getElem?_cons_succ, List.getElem?_cons_zero] at c1
          have HRW := Lib.hid hrw
          have HLN := Lib.hid hln
          have hi0 : (0 : Int) ≤ (i : Int) := by omega
          have hi1 : (i : Int) < 64 := by omega
          clear hR2 hrw hln
          go_wp2_with fail
          refine (sameBytes_any _ _ (natI (s.B i)) (natI (s.B i)) w2 (Elems.of_fresh HX2.out) (Elems.of_fresh HRW.out) (by rw [natI_length]; exact Nat.le_trans (HOK.out.len i) HROOM.out) (by rw [natI_length]; exact Nat.le_trans (HOK.out.len i) HROOM.out)).mono ?_
          rintro e w3 ⟨rfl, hb3⟩
          rw [refl_i]
          have HB3 := Lib.hid (below_then HB2.out hb3)
          clear hb3 c1 cb c3
          go_wp2_with fail
          go_roundw
          case rel => exact ⟨i + 1, by go_num, by omega, HB3⟩
          case measure => simp [intOf]; omega
        · obtain rfl : i = 4 := by omega
          go_wp2_with fail
          go_ret
          exact ⟨rfl, HB.out⟩
end Go.Proofs.Ytadnbakniibmfaa
