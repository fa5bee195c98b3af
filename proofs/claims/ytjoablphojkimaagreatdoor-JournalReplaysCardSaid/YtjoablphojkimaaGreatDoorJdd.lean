/-
  Package journal over a disk: Append.
-/
import Derived.Test.YtjoablphojkimaaGreatDoorJdA
namespace Go.Proofs.YtjoablphojkimaaGreatDoor
open Go.RowKit Go.Shelf
set_option linter.unusedVariables false
set_option maxRecDepth 100000

set_option maxHeartbeats 1000000 in
theorem logDefer_any (eb lb r : Nat) (c : Int) (x : Value) (u : FrameMode) (w : World) (h1 : w.cell? ⟨lb, 0, none⟩ = some (.pointer (some ⟨r, 0, none⟩))) (h2 : w.cell? ⟨eb, 0, none⟩ = some (.int .i64 c)) (h3 : w.cell? ⟨r, 3, none⟩ = some x) (h4 : w.frozen? ⟨r, 3, none⟩ = false) :
    CallsD Tryz.prog 64 #[.pointer (some ⟨eb, 0, none⟩), .pointer (some ⟨lb, 0, none⟩)] u w fun e u' w' => u' = u ∧ (e = .returned (.tuple #[]) ∧ w' = w.setCell ⟨r, 3, none⟩ (.bool (c != 23))) := by
  go_enter_d Tryz.func64, Tryz.ntmps64
  go_wp2_with fail
  go_end0
  exact ⟨rfl, rfl⟩

structure AppIs (n : Nat) (w : World) (A : Foot) (d room : Nat) (file : Int) (r : Nat) (q : Int × St × Lg) (w' : World) (A2 : Foot) : Prop where
  dk : Dsk n w' A2 d room q.2.1
  lg : Jl w' r d file q.2.2.n q.2.2.up
  keeps : Keeps (fun k => A k ∨ k = r) w w'
  foot : ∀ k, A2 k → A k ∨ w.heap.size ≤ k
  far : ¬ A2 r
  below : Below n w w'
def LogEnd (n : Nat) (w : World) (A : Foot) (d room : Nat) (file : Int) (r : Nat) (q : Int × St × Lg) (e : Ending) (w' : World) : Prop :=
  e = .returned (.int .i64 q.1) ∧ ∃ A2, AppIs n w A d room file r q w' A2

theorem log_quiet {n : Nat} {w W : World} {A : Foot} {d room : Nat} {s : St} (h : Dsk n w A d room s) (hn : n ≤ w.heap.size) {r : Nat} {file c : Int} {g : Lg} (hl : Jl w r d file g.n g.up) (hr : ¬ A r) (hb : Below w.heap.size w W) :
    LogEnd n w A d room file r (c, s, g) (.returned (.int .i64 c)) W :=
  ⟨rfl, A, h.below hb, Laid.below hl hb, Keeps.of_below_size hb, fun k hk => .inl hk, hr, hb.mono hn⟩

/-- A log, the variable that holds it, and the variable of the result. -/
structure Bx (W : World) (lb eb r d : Nat) (file : Int) (n : Nat) (up : Bool) (c : Int) : Prop where
  lbx : Laid W lb 56 [.pointer (some ⟨r, 0, none⟩)]
  ebx : Laid W eb 24 [.int .i64 c]
  lg : Jl W r d file n up
  n1 : lb ≠ eb
  n2 : lb ≠ r
  n3 : eb ≠ r
theorem Bx.keeps {W W2 : World} {A : Foot} {lb eb r d : Nat} {file : Int} {n : Nat} {up : Bool} {c : Int} (h : Bx W lb eb r d file n up c) (hk : Keeps A W W2) (h1 : ¬ A lb) (h2 : ¬ A eb) (h3 : ¬ A r) : Bx W2 lb eb r d file n up c :=
  ⟨h.lbx.keeps hk h1, h.ebx.keeps hk h2, Laid.keeps h.lg hk h3, h.n1, h.n2, h.n3⟩
theorem Bx.setE {W : World} {lb eb r d : Nat} {file : Int} {n : Nat} {up : Bool} {c : Int} (h : Bx W lb eb r d file n up c) (c2 : Int) : Bx (W.setCell ⟨eb, 0, none⟩ (.int .i64 c2)) lb eb r d file n up c2 :=
  ⟨h.lbx.keeps (keeps_set W eb 0 _) h.n1, h.ebx.set 0 _, Laid.keeps h.lg (keeps_set W eb 0 _) (fun e => h.n3 e.symm), h.n1, h.n2, h.n3⟩
theorem Bx.setN {W : World} {lb eb r d : Nat} {file : Int} {n : Nat} {up : Bool} {c : Int} (h : Bx W lb eb r d file n up c) : Bx (W.setCell ⟨r, 2, none⟩ (.int .i64 ((n + 1 : Nat) : Int))) lb eb r d file (n + 1) up c :=
  ⟨h.lbx.keeps (keeps_set W r 2 _) h.n2, h.ebx.keeps (keeps_set W r 2 _) h.n3, Laid.set h.lg 2 _, h.n1, h.n2, h.n3⟩
theorem Bx.setU {W : World} {lb eb r d : Nat} {file : Int} {n : Nat} {up : Bool} {c : Int} (h : Bx W lb eb r d file n up c) (b : Bool) : Bx (W.setCell ⟨r, 3, none⟩ (.bool b)) lb eb r d file n b c :=
  ⟨h.lbx.keeps (keeps_set W r 3 _) h.n2, h.ebx.keeps (keeps_set W r 3 _) h.n3, Laid.set h.lg 3 _, h.n1, h.n2, h.n3⟩
theorem Bx.below {W W2 : World} {lb eb r d : Nat} {file : Int} {n : Nat} {up : Bool} {c : Int} (h : Bx W lb eb r d file n up c) (hb : Below W.heap.size W W2) : Bx W2 lb eb r d file n up c :=
  ⟨h.lbx.below hb, h.ebx.below hb, Laid.below h.lg hb, h.n1, h.n2, h.n3⟩
theorem bx_reg {W : World} {lb eb r d : Nat} {file : Int} {n : Nat} {up : Bool} {c : Int} (h : Bx W lb eb r d file n up c) :
    W.cell? ⟨lb, 0, none⟩ = some (.pointer (some ⟨r, 0, none⟩)) ∧ W.cell? ⟨r, 0, none⟩ = some (.pointer (some ⟨d, 0, none⟩)) ∧ W.cell? ⟨r, 1, none⟩ = some (.int .i64 file) ∧ W.cell? ⟨r, 2, none⟩ = some (.int .i64 (n : Int)) :=
  ⟨h.lbx.cell 0, Laid.cell h.lg 0, Laid.cell h.lg 1, Laid.cell h.lg 2⟩
theorem bx_e {W : World} {lb eb r d : Nat} {file : Int} {n : Nat} {up : Bool} {c : Int} (h : Bx W lb eb r d file n up c) : W.cell? ⟨eb, 0, none⟩ = some (.int .i64 c) := h.ebx.cell 0
theorem log_door {W : World} {lb eb r d : Nat} {file : Int} {n : Nat} {up : Bool} {c : Int} (h : Bx W lb eb r d file n up c) {R : Ending → World → Prop} {tmps : Array Value} (ht : tmps[4]? = some (.pointer (some ⟨eb, 0, none⟩)))
    (hR : R (.returned (.int .i64 c)) (W.setCell ⟨r, 3, none⟩ (.bool (c != 23)))) :
    Leaves Tryz.prog Tryz.f28 tmps R [{ target := .fn (.func 64) #[.pointer (some ⟨eb, 0, none⟩), .pointer (some ⟨lb, 0, none⟩)], args := #[] }] .returning W := by
  have h1 := h.lbx.cell 0
  have h2 := h.ebx.cell 0
  have h3 := Laid.cell h.lg 3
  have h4 := Laid.frozen h.lg 3
  have h5 := (h.setU (c != 23)).ebx.cell 0
  simp only [List.getElem?_cons_succ, List.getElem?_cons_zero] at h1 h2 h3 h5
  refine leaves_cons (f := 64) (args := #[.pointer (some ⟨eb, 0, none⟩), .pointer (some ⟨lb, 0, none⟩)]) (by simp) (by simp [go_sem]) ?_
  refine (logDefer_any eb lb r c _ .returning W h1 h2 h3 h4).mono ?_
  rintro e u' w'' ⟨rfl, rfl, rfl⟩
  exact ⟨.int .i64 c, by simp [results, Tryz.results28, go_sem, ht, h5], hR⟩

set_option maxHeartbeats 8000000 in
theorem logAppend_any {n : Nat} {w : World} {A : Foot} {d room : Nat} {s : St} (h : Dsk n w A d room s) (hn : n ≤ w.heap.size) {r : Nat} {file : Int} {g : Lg} (hl : Jl w r d file g.n g.up) (hr : ¬ A r) (hnr : n ≤ r) (hg : g.n ≤ 1000000)
    {v : Value} {bs : List Nat} (hv : Row .u8 w v (natI bs)) (h8 : ∀ c ∈ bs, c < 256) (hvb : ∀ j, blockOf v j → j < w.heap.size) (hlen : bs.length ≤ 200000) :
    Calls Tryz.prog 28 #[.pointer (some ⟨r, 0, none⟩), v] w (LogEnd n w A d room file r (pLog room s file g bs)) := by
  have HD := Lib.hid h
  have HN := Lib.hid hn
  have HL := Lib.hid hl
  have HV := Lib.hid hv
  have H8 := Lib.hid h8
  have HVB := Lib.hid hvb
  have HR := Lib.hid (And.intro hr hnr)
  have HG := Lib.hid hg
  obtain ⟨va, vc, rfl, _⟩ := hv
  rw [natI_length] at HV HVB ⊢
  have hb1 : Below w.heap.size w ((w.alloc (.cells #[.pointer (some ⟨r, 0, none⟩)] 56)).alloc (.cells #[.int .i64 0] 24)) := ((Below.refl _ w).alloc (Nat.le_refl _) _).alloc (by simp) _
  have hrl : r < w.heap.size := hl.lt
  have hmf : ∀ (fn : Fn) (first cap : Array Value) (w : World), (Instr.makeFunc fn first cap).run Tryz.prog w = .ok (.func fn first cap) w := fun _ _ _ _ => rfl
  have c1 : ((w.alloc (.cells #[.pointer (some ⟨r, 0, none⟩)] 56)).alloc (.cells #[.int .i64 0] 24)).cell? ⟨w.heap.size, 0, none⟩ = some (.pointer (some ⟨r, 0, none⟩)) := by
    have := (Laid.below (Laid.new w 56 [.pointer (some ⟨r, 0, none⟩)]) ((Below.refl _ _).alloc (Nat.le_refl _) (.cells #[.int .i64 0] 24))).cell 0
    simpa only [List.getElem?_cons_zero] using this
  have hle : Laid ((w.alloc (.cells #[.pointer (some ⟨r, 0, none⟩)] 56)).alloc (.cells #[.int .i64 0] 24)) (w.heap.size + 1) 24 [.int .i64 0] := by
    have := Laid.new (w.alloc (.cells #[.pointer (some ⟨r, 0, none⟩)] 56)) 24 [.int .i64 0]
    rw [World.size_alloc] at this
    exact this
  have c2 := hle.cell 0
  have f2 := hle.frozen 0
  have hlb := Laid.below hl hb1
  have c3 := hlb.cell 3
  have c4 := hlb.cell 0
  have c5 := hlb.cell 1
  have c6 := hlb.cell 2
  simp only [List.getElem?_cons_succ, List.getElem?_cons_zero] at c2 c3 c4 c5 c6
  have HB1 := Lib.hid hb1
  have HS1 : Hid (((w.alloc (.cells #[.pointer (some ⟨r, 0, none⟩)] 56)).alloc (.cells #[.int .i64 0] 24)).heap.size = w.heap.size + 2) := Lib.hid (by simp)
  clear h hn hl h8 hvb hr hg hb1 hle hlb
  by_cases hlong : 65536 < bs.length
  · have hq : pLog room s file g bs = (4, s, g) := log_long hlong
    rw [hq]
    clear hq
    go_enter_defers Tryz.func28, Tryz.ntmps28
    go_wp2_with fail
    have z0 : ((w.alloc (.cells #[.pointer (some ⟨r, 0, none⟩)] 56)).alloc (.cells #[.int .i64 4] 24)).cell? ⟨w.heap.size + 1, 0, none⟩ = some (.int .i64 4) := by
      have := (Laid.new (w.alloc (.cells #[.pointer (some ⟨r, 0, none⟩)] 56)) 24 [.int .i64 4]).cell 0
      rw [World.size_alloc] at this
      simpa only [List.getElem?_cons_zero] using this
    refine ⟨.int .i64 4, by simp [results, Tryz.results28, go_sem, z0], ?_⟩
    exact log_quiet HD.out HN.out HL.out HR.out.1 (((Below.refl _ w).alloc (Nat.le_refl _) _).alloc (by simp) _)
  · by_cases hup : g.up = false
    · have hq : pLog room s file g bs = (23, s, g) := by unfold pLog; rw [if_neg hlong, if_pos hup]
      rw [hq]
      rw [hup] at c3
      clear hq
      go_enter_defers Tryz.func28, Tryz.ntmps28
      go_wp2_with fail
      have z0 : ((w.alloc (.cells #[.pointer (some ⟨r, 0, none⟩)] 56)).alloc (.cells #[.int .i64 23] 24)).cell? ⟨w.heap.size + 1, 0, none⟩ = some (.int .i64 23) := by
        have := (Laid.new (w.alloc (.cells #[.pointer (some ⟨r, 0, none⟩)] 56)) 24 [.int .i64 23]).cell 0
        rw [World.size_alloc] at this
        simpa only [List.getElem?_cons_zero] using this
      refine ⟨.int .i64 23, by simp [results, Tryz.results28, go_sem, z0], ?_⟩
      exact log_quiet HD.out HN.out HL.out HR.out.1 (((Below.refl _ w).alloc (Nat.le_refl _) _).alloc (by simp) _)
    · have hup2 : g.up = true := by cases hq : g.up; exact absurd hq hup; rfl
      rw [hup2] at c3 HL
      have hx1 : Bx ((w.alloc (.cells #[.pointer (some ⟨r, 0, none⟩)] 56)).alloc (.cells #[.int .i64 0] 24)).drew w.heap.size (w.heap.size + 1) r d file g.n true 0 := by
        refine Bx.keeps ⟨Laid.below (Laid.new w 56 [.pointer (some ⟨r, 0, none⟩)]) ((Below.refl _ _).alloc (Nat.le_refl _) _), ?_, Laid.below HL.out HB1.out, by omega, by omega, by omega⟩ (Keeps.refl (fun _ => False) _).drew (fun h => h) (fun h => h) (fun h => h)
        have := Laid.new (w.alloc (.cells #[.pointer (some ⟨r, 0, none⟩)] 56)) 24 [.int .i64 0]
        rw [World.size_alloc] at this
        exact this
      have HX1 := Lib.hid hx1
      have HBD : Hid (Below w.heap.size w ((w.alloc (.cells #[.pointer (some ⟨r, 0, none⟩)] 56)).alloc (.cells #[.int .i64 0] 24)).drew) := Lib.hid HB1.out.drew
      have HVD := Lib.hid (row_keeps HV.out HBD.out)
      have HVB1 : Hid (∀ j, blockOf (.slice va bs.length vc) j → j < ((w.alloc (.cells #[.pointer (some ⟨r, 0, none⟩)] 56)).alloc (.cells #[.int .i64 0] 24)).drew.heap.size) := Lib.hid (fun j hj => Nat.lt_of_lt_of_le (HVB.out j hj) HBD.out.size)
      have HS1 : Hid (((w.alloc (.cells #[.pointer (some ⟨r, 0, none⟩)] 56)).alloc (.cells #[.int .i64 0] 24)).drew.heap.size = w.heap.size + 2) := Lib.hid HS1.out
      have HD1 := Lib.hid (HD.out.below HBD.out)
      have HFL : Hid ((frameN (g.n : Int) bs).length ≤ 16777216) := Lib.hid (by have := frameN_len (n := (g.n : Int)) (b := bs) (by have := HG.out; omega) (by omega); omega)
      have HNW : Hid (n ≤ w.heap.size) := HN
      have HNA : Hid ((¬ A w.heap.size) ∧ (¬ A (w.heap.size + 1)) ∧ ¬ A r) := Lib.hid ⟨fun hA => by have := HD.out.hi _ hA; omega, fun hA => by have := HD.out.hi _ hA; omega, HR.out.1⟩
      clear hx1
      go_enter_defers Tryz.func28, Tryz.ntmps28
      go_wp2_with fail
      go_region_held3 (fun w' : World => w'.cell? ⟨w.heap.size, 0, none⟩ = some (.pointer (some ⟨r, 0, none⟩)) ∧ w'.cell? ⟨r, 0, none⟩ = some (.pointer (some ⟨d, 0, none⟩)) ∧ w'.cell? ⟨r, 1, none⟩ = some (.int .i64 file) ∧ w'.cell? ⟨r, 2, none⟩ = some (.int .i64 (g.n : Int))) (first | exact HS5.out | exact HS4.out | exact HS3.out | exact bx_reg HX1.out) (first
        | (go_at_call 65; go_must (refine (devFrame_any (g.n : Int) (.slice va bs.length vc) bs _ (by have := HG.out; omega) HVD.out H8.out HVB1.out (by omega)).mono ?_); rintro e w3 ⟨f, rfl, hf3, hb3⟩
           obtain ⟨fa, fc, rfl, _⟩ := fresh_elems hf3
           rw [natI_length] at hf3 ⊢
           have HF3 := Lib.hid hf3
           have HX3 := Lib.hid (HX1.out.below hb3)
           have HS3 := Lib.hid (bx_reg HX3.out)
           have HD3 := Lib.hid (HD1.out.below hb3)
           have HB3 := Lib.hid hb3
           clear hf3 hb3)
        | (go_at_call 12; go_must (refine (appS_any HD3.out.dk file fa fc (frameN (g.n : Int) bs) (row_of_fresh HF3.out) (frameN_lt H8.out) HFL.out).mono ?_); rintro e w4 ⟨rfl, hu⟩
           obtain ⟨A4, hd4, hk4, hf4, hb4⟩ := HD3.out.up hu (Nat.le_trans HNW.out (Nat.le_trans HBD.out.size HB3.out.size))
           have HX4 := Lib.hid (HX3.out.keeps hk4 HNA.out.1 HNA.out.2.1 HNA.out.2.2)
           have HS4 := Lib.hid (bx_reg HX4.out)
           have HX5 := Lib.hid (HX4.out.setE (pApp room s file (frameN (g.n : Int) bs)).1)
           have HS5 := Lib.hid (bx_reg HX5.out)
           have he4 := bx_e HX4.out
           have hz4 := HX4.out.ebx.frozen 0
           have HD4 := Lib.hid (And.intro hd4 (And.intro hk4 (And.intro hf4 hb4)))
           clear hu hd4 hk4 hf4 hb4))
      obtain ⟨hd4, hk4, hf4, hb4⟩ := HD4.out
      have hs3 : w.heap.size + 2 ≤ w3.heap.size := by have := HB3.out.size; have := HS1.out; omega
      have F4 : Hid (∀ k, A4 k → A k ∨ w.heap.size + 2 ≤ k) := Lib.hid (fun k hk => (hf4 k hk).imp id (fun h => by omega))
      have N4 : Hid ((¬ A4 w.heap.size) ∧ (¬ A4 (w.heap.size + 1)) ∧ ¬ A4 r) := Lib.hid ⟨fun hA => (F4.out _ hA).elim HNA.out.1 (fun h => by omega), fun hA => (F4.out _ hA).elim HNA.out.2.1 (fun h => by omega), fun hA => (F4.out _ hA).elim HNA.out.2.2 (fun h => by omega)⟩
      have D5 := Lib.hid (hd4.other (keeps_set w4 (w.heap.size + 1) 0 (.int .i64 (pApp room s file (frameN (g.n : Int) bs)).1)) (fun k hk e => N4.out.2.1 (e ▸ hk)))
      have K5 : Hid (Keeps (fun k => A k ∨ k = r) w (w4.setCell ⟨w.heap.size + 1, 0, none⟩ (.int .i64 (pApp room s file (frameN (g.n : Int) bs)).1))) := Lib.hid (keeps_cut (((Keeps.of_below_size HBD.out).trans (Keeps.of_below_size HB3.out : Keeps (fun k => (A k ∨ k = r) ∨ w.heap.size ≤ k) _ _)).trans ((hk4.mono (fun k _ h => .inl (.inl h))).trans ((keeps_set w4 (w.heap.size + 1) 0 _).mono (fun k _ h => .inr (by omega))))))
      have hq : pLog room s file g bs = if (pApp room s file (frameN (g.n : Int) bs)).1 ≠ 0 then ((pApp room s file (frameN (g.n : Int) bs)).1, (pApp room s file (frameN (g.n : Int) bs)).2, ⟨g.n, (pApp room s file (frameN (g.n : Int) bs)).1 != 23⟩) else
          if (pSync (pApp room s file (frameN (g.n : Int) bs)).2).1 ≠ 0 then ((pSync (pApp room s file (frameN (g.n : Int) bs)).2).1, (pSync (pApp room s file (frameN (g.n : Int) bs)).2).2, ⟨g.n, (pSync (pApp room s file (frameN (g.n : Int) bs)).2).1 != 23⟩) else
          (0, (pSync (pApp room s file (frameN (g.n : Int) bs)).2).2, ⟨g.n + 1, true⟩) := by
        conv => lhs; unfold pLog
        rw [if_neg hlong, if_neg hup]
      have HQ := Lib.hid hq
      clear hq hd4 hk4 hf4 hb4 HD4 HX4 HS4 HS5 he4 hz4 HX1 HBD HVD HVB1 HS1 HD1 HX3 HS3 HD3 HB3 HF3 hs3 c1 c2 c3 c4 c5 c6 f2
      generalize pApp room s file (frameN (g.n : Int) bs) = q at *
      generalize w4.setCell ⟨w.heap.size + 1, 0, none⟩ (.int .i64 q.1) = w5 at *
      have he5 := bx_e HX5.out
      have hr5 := bx_reg HX5.out
      obtain ⟨y1, y2, y3, y4⟩ := hr5
      by_cases hc : q.1 = 0
      · rw [hc] at he5 ⊢
        rw [hc] at HX5
        go_wp2_with fail
        refine (syncS_any D5.out.dk).mono ?_
        rintro e w6 ⟨rfl, hu⟩
        obtain ⟨A6, hd6, hk6, hf6, _⟩ := D5.out.up hu (Nat.le_trans HN.out K5.out.size)
        have hx6 := HX5.out.keeps hk6 N4.out.1 N4.out.2.1 N4.out.2.2
        have HX6 := Lib.hid hx6
        have hs5 : w.heap.size + 2 ≤ w5.heap.size := by have := HX5.out.ebx.lt; omega
        have F6 : Hid (∀ k, A6 k → A k ∨ w.heap.size + 2 ≤ k) := Lib.hid (fun k hk => (hf6 k hk).elim (F4.out k) (fun h => .inr (by omega)))
        have N6 : Hid ((¬ A6 w.heap.size) ∧ (¬ A6 (w.heap.size + 1)) ∧ ¬ A6 r) := Lib.hid ⟨fun hA => (F6.out _ hA).elim HNA.out.1 (fun h => by omega), fun hA => (F6.out _ hA).elim HNA.out.2.1 (fun h => by omega), fun hA => (F6.out _ hA).elim HNA.out.2.2 (fun h => by omega)⟩
        have D6 := Lib.hid hd6
        have K6 : Hid (Keeps (fun k => A k ∨ k = r) w w6) := Lib.hid (keeps_cut ((K5.out.mono (fun k _ h => .inl h)).trans (hk6.mono (fun k _ h => (F4.out k h).elim (fun h2 => .inl (.inl h2)) (fun h2 => .inr (by omega))))))
        have HQ2 : Hid (pLog room s file g bs = if (pSync q.2).1 ≠ 0 then ((pSync q.2).1, (pSync q.2).2, ⟨g.n, (pSync q.2).1 != 23⟩) else (0, (pSync q.2).2, ⟨g.n + 1, true⟩)) := Lib.hid (by rw [HQ.out, if_neg (fun h => h hc)])
        generalize pSync q.2 = y at *
        have he6 := bx_e hx6
        have hz6 := hx6.ebx.frozen 0
        have hx7 := hx6.setE y.1
        have HX7 := Lib.hid hx7
        have he7 := bx_e hx7
        obtain ⟨v1, v2, v3, v4⟩ := bx_reg hx7
        have hz7 := Laid.frozen hx7.lg 2
        clear hu hd6 hk6 hf6 hx6 hx7 y1 y2 y3 y4 he5 hs5 HQ
        by_cases hy : y.1 = 0
        · rw [hy] at he7 v1 v2 v3 v4 hz7 HX7 ⊢
          have hwn : IntKind.i64.wrap ((g.n : Int) + 1) = ((g.n + 1 : Nat) : Int) := by rw [wrap_i64]; unfold wrap64; have := HG.out; omega
          have HX8 := Lib.hid HX7.out.setN
          have he8 := bx_e HX8.out
          have hz8 := HX8.out.ebx.frozen 0
          have HX9 := Lib.hid (HX8.out.setE 0)
          go_wp2_with fail
          rw [show (g.n : Int) + 1 = ((g.n + 1 : Nat) : Int) from (Int.natCast_succ g.n).symm]
          refine log_door HX9.out rfl ?_
          rw [HQ2.out, if_neg (fun h => h hy)]
          have hx10 := HX9.out.setU ((0 : Int) != 23)
          have KF := (((K6.out.mono (fun k _ h => Or.inl h)).trans ((keeps_set w6 (w.heap.size + 1) 0 (.int .i64 0)).mono (fun k _ h => Or.inr (show w.heap.size ≤ k by omega)))).trans ((keeps_set _ r 2 (.int .i64 ((g.n + 1 : Nat) : Int))).mono (fun k _ h => Or.inl (Or.inr h)))).trans ((((keeps_set _ (w.heap.size + 1) 0 (.int .i64 0)).mono (fun k _ h => Or.inr (show w.heap.size ≤ k by omega)))).trans ((keeps_set _ r 3 (.bool ((0 : Int) != 23))).mono (fun k _ h => Or.inl (Or.inr h))))
          exact ⟨rfl, A6, ⟨(((D6.out.other (keeps_set w6 (w.heap.size + 1) 0 (.int .i64 0)) (fun k hk e => N6.out.2.1 (e ▸ hk))).other (keeps_set _ r 2 _) (fun k hk e => N6.out.2.2 (e ▸ hk))).other (keeps_set _ (w.heap.size + 1) 0 (.int .i64 0)) (fun k hk e => N6.out.2.1 (e ▸ hk))).other (keeps_set _ r 3 _) (fun k hk e => N6.out.2.2 (e ▸ hk)), hx10.lg, keeps_cut KF, fun k hk => (F6.out k hk).imp id (fun h => by omega), N6.out.2.2, (keeps_cut KF).below HN.out (fun k hk => hk.elim (HD.out.lo k) (fun h => by rw [h]; exact HR.out.2))⟩⟩
        · have HX8 := Lib.hid (HX7.out.setE y.1)
          have hz9 := HX7.out.ebx.frozen 0
          generalize hyc : y.1 = c at *
          go_wp2_with fail
          refine log_door HX8.out rfl ?_
          rw [HQ2.out, if_pos hy]
          have hx9 := HX8.out.setU (c != 23)
          have KF := (((K6.out.mono (fun k _ h => Or.inl h)).trans (((keeps_set w6 (w.heap.size + 1) 0 (.int .i64 c)).trans (keeps_set _ (w.heap.size + 1) 0 (.int .i64 c))).mono (fun k _ h => Or.inr (show w.heap.size ≤ k by omega)))).trans ((keeps_set _ r 3 (.bool (c != 23))).mono (fun k _ h => Or.inl (Or.inr h))))
          exact ⟨rfl, A6, ⟨((D6.out.other (keeps_set w6 (w.heap.size + 1) 0 (.int .i64 c)) (fun k hk e => N6.out.2.1 (e ▸ hk))).other (keeps_set _ (w.heap.size + 1) 0 (.int .i64 c)) (fun k hk e => N6.out.2.1 (e ▸ hk))).other (keeps_set _ r 3 _) (fun k hk e => N6.out.2.2 (e ▸ hk)), hx9.lg, keeps_cut KF, fun k hk => (F6.out k hk).imp id (fun h => by omega), N6.out.2.2, (keeps_cut KF).below HN.out (fun k hk => hk.elim (HD.out.lo k) (fun h => by rw [h]; exact HR.out.2))⟩⟩
      · have hz5 := HX5.out.ebx.frozen 0
        have HX6 := Lib.hid (HX5.out.setE q.1)
        have D6 := Lib.hid (D5.out.other (keeps_set w5 (w.heap.size + 1) 0 (.int .i64 q.1)) (fun k hk e => N4.out.2.1 (e ▸ hk)))
        have K6 := Lib.hid (keeps_cut ((K5.out.mono (fun k _ h => .inl h)).trans ((keeps_set w5 (w.heap.size + 1) 0 (.int .i64 q.1)).mono (fun k _ h => .inr (by omega)))))
        generalize hqc : q.1 = c at *
        go_wp2_with fail
        refine log_door HX6.out rfl ?_
        rw [HQ.out, if_pos hc]
        have hx7 := HX6.out.setU (c != 23)
        refine ⟨rfl, A4, ⟨D6.out.other (keeps_set _ r 3 _) (fun k hk e => N4.out.2.2 (e ▸ hk)), ?_, K6.out.trans ((keeps_set _ r 3 _).mono (fun k _ h => .inr h)), fun k hk => (F4.out k hk).imp id (fun h => by omega), N4.out.2.2, ?_⟩⟩
        · exact hx7.lg
        · exact (K6.out.trans ((keeps_set _ r 3 _).mono (fun k _ h => .inr h))).below HN.out (fun k hk => hk.elim (HD.out.lo k) (fun h => by rw [h]; exact HR.out.2))

def FreshEnd (room : Nat) (w : World) (e : Ending) (w' : World) : Prop := ∃ d A, e = .returned (.pointer (some ⟨d, 0, none⟩)) ∧ Dsk w.heap.size w' A d room pNew ∧ Below w.heap.size w w'
theorem fresh06_any (room : Nat) (w : World) (h : room ≤ 16777216) : Calls Tryz.prog 25 #[.int .i64 (room : Int)] w (FreshEnd room w) := by
  have H := Lib.hid h
  go_enter Tryz.func25, Tryz.ntmps25
  go_wp2_with fail
  refine (newS_any room w (by omega)).mono ?_
  rintro e w1 ⟨d, A0, rfl, hd, hA0, hb⟩
  have D1 : Hid (Dsk w.heap.size w1 (fun k => A0 k ∧ k < w1.heap.size) d room pNew) := Lib.hid (by rw [Int.toNat_natCast] at hd; exact Dsk.made (n := w.heap.size) hd hA0 (Nat.le_refl _))
  have B1 := Lib.hid hb
  clear hd hA0 hb
  go_wp2_with fail
  go_ret
  exact ⟨d, _, rfl, D1.out, B1.out⟩
end Go.Proofs.YtjoablphojkimaaGreatDoor
