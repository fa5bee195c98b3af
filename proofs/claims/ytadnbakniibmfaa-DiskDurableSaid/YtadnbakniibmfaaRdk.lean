/-
  DiskRuns: every result and the state after every operation are those of the reference.
-/
import Derived.Test.YtadnbakniibmfaaRdj
namespace Go.Proofs.Ytadnbakniibmfaa
open Go.RowKit Go.Shelf
set_option linter.unusedVariables false
set_option maxRecDepth 100000

theorem around_40 (n : Int) : ∃ q : Nat, aroundI n (40 : Nat) = (q : Int) ∧ q < 40 := by
  have h1 := Int.emod_nonneg (if n < 0 then -(n + 1) else n) (show ((40 : Nat) : Int) ≠ 0 by omega)
  have h2 := Int.emod_lt_of_pos (if n < 0 then -(n + 1) else n) (show (0 : Int) < ((40 : Nat) : Int) by omega)
  unfold aroundI
  exact ⟨((if n < 0 then -(n + 1) else n) % ((40 : Nat) : Int)).toNat, by omega, by omega⟩
theorem below_cut {n : Nat} {a b c : World} (h : Below n a b) (hn : n ≤ b.heap.size) (k : Below b.heap.size b c) : Below n a c := h.trans (k.mono hn)
theorem pair_start {n : Nat} {W W2 W3 : World} {A R : Foot} {d m room : Nat} {s t : St} {v : Value} {ps : List (Value × Value)} {xs : List OpV} (hd : Dsk n W A d room s) (hr : Rsk W.heap.size W2 R m room t) (hb2 : Below W.heap.size W W2) (ho : OpsIs W2.heap.size W3.heap.size W3 v ps xs) (hb3 : Below W2.heap.size W2 W3) (hn : n ≤ W.heap.size) :
    PairD n W2.heap.size W3.heap.size W3 A R d m room s t v ps xs :=
  have h1 := hd.below hb2
  have h2 := h1.below hb3
  have h3 := hr.below hb3
  ⟨h2, ⟨h3.dk, fun k hk => Nat.le_trans hn (h3.lo k hk), h3.hi⟩, fun k hA hR => by have a1 := hd.hi k hA; have a2 := hr.lo k hR; omega, fun k hA => .inl (h1.hi k hA), fun k hR => .inl (hr.hi k hR), ho, Nat.le_refl _⟩
theorem int_ne (n : Int) : (n != n) = false := by simp

structure DoIs (room : Nat) (s : St) (x : OpV) (r : Int × St) : Prop where
  eq : pDo room s x = r
set_option maxHeartbeats 16000000 in
theorem walk_DiskRuns (room : Int) (v : Value) (l : List Int) (w : World) (hroom : -9223372036854775808 ≤ room ∧ room ≤ 9223372036854775807) (hv : Row .i64 w v l) (hl : ∀ z ∈ l, -9223372036854775808 ≤ z ∧ z ≤ 9223372036854775807) :
    Calls Try.prog 3 #[.int .i64 room, v] w fun e w' => e = .returned (.bool true) ∧ Below w.heap.size w w' := by
  have HRM := Lib.hid hroom
  have HV := Lib.hid hv
  have HL := Lib.hid hl
  obtain ⟨q, hq, hq40⟩ := around_40 room
  have HQ := Lib.hid hq
  clear hroom hv hl hq
  go_enter Try.func3, Try.ntmps3
  go_wp2_with fail
  refine (around_any room 40 w HRM.out (by decide) (by decide)).mono ?_
  rintro e w0 ⟨rfl, rfl⟩
  rw [HQ.out]
  clear HQ HRM
  obtain ⟨K, hK⟩ : ∃ K : Nat, 12 + q = K := ⟨_, rfl⟩
  have hKi : (12 : Int) + (q : Int) = (K : Int) := by omega
  have hK51 : K ≤ 51 := by omega
  clear hK
  go_wp2_with fail
  refine (newS_any (K : Int) w (by omega)).mono ?_
  rintro e w1 ⟨d, A0, rfl, hd, hA0, hb⟩
  rw [Int.toNat_natCast] at hd
  have D1 := Lib.hid (Dsk.made (n := w.heap.size) hd hA0 (Nat.le_refl _))
  have B1 := Lib.hid hb
  clear hd hA0 hb
  generalize (fun k => A0 k ∧ k < w1.heap.size) = A1 at D1
  go_wp2_with fail
  refine (newRS_any K w1).mono ?_
  rintro e w2 ⟨m, R0, rfl, hr, hR0, hb⟩
  have R2 := Lib.hid (Rsk.made (n := w1.heap.size) hr hR0 (Nat.le_refl _))
  have BB2 := Lib.hid hb
  have B2 := Lib.hid (below_cut B1.out B1.out.size hb)
  clear hr hR0 hb
  generalize (fun k => R0 k ∧ k < w2.heap.size) = R1 at R2
  go_wp2_with fail
  refine (ops_any v l w2 (row_keeps HV.out B2.out) HL.out).mono ?_
  rintro e w3 ⟨v3, ps, xs, rfl, ⟨va, vc, rfl⟩, ho, hx16, hb⟩
  have P3 := Lib.hid (pair_start D1.out R2.out BB2.out ho hb B1.out.size)
  have B3 := Lib.hid (below_cut B2.out B2.out.size hb)
  clear ho hb D1 R2 BB2 B1 B2 HV HL
  generalize w2.heap.size = lo at *
  generalize w3.heap.size = hi at P3
  go_wp2_with fail
  go_loopw [10] (fun s10 wr => ∃ (i : Nat) (s : St) (A R : Foot), s10 = .int .i64 (i : Int) ∧ i ≤ xs.length ∧ Hid (PairD w.heap.size lo hi wr A R d m K s s (.slice va xs.length vc) ps xs) ∧ Hid (Below w.heap.size w wr)) (fun s10 _ => xs.length - (intOf s10).toNat)
  case atStart => exact ⟨0, pNew, A1, R1, rfl, Nat.zero_le _, P3, B3⟩
  case round =>
    obtain ⟨i, s, A, R, rfl, hi2, P, B⟩ := hrel
    clear P3 B3
    by_cases hlt : i < xs.length
    · obtain ⟨g, p, x, rfl, hp, hx⟩ := P.out.ops.addr hlt
      have HP := Lib.hid (And.intro hp hx)
      have P0 := Lib.hid (P.out.below (below_drew' wr))
      have BD0 := Lib.hid (below_cut B.out B.out.size (below_drew' wr))
      have HOK := Lib.hid P.out.ok
      have C0 := Lib.hid (P0.out.ops.cells hp hx)
      clear hp hx P B
      obtain ⟨r, hr⟩ : ∃ r, DoIs K s x r := ⟨_, ⟨rfl⟩⟩
      have HR := Lib.hid hr
      obtain ⟨rc, s2⟩ := r
      clear hr
      have hir := int_ne rc
      have hi0 : (0 : Int) ≤ (i : Int) := by omega
      have hi1 : (i : Int) < (xs.length : Int) := by omega
      go_wp2_with fail
      go_region_held3 (fun w' : World => w'.cell? ⟨g, i * 5, none⟩ = some (.int .i64 (x.kind : Int)) ∧ w'.cell? ⟨g, i * 5 + 1, none⟩ = some (.int .i64 x.file) ∧ w'.cell? ⟨g, i * 5 + 2, none⟩ = some (.int .i64 x.n) ∧ w'.cell? ⟨g, i * 5 + 3, none⟩ = some p.1 ∧ w'.cell? ⟨g, i * 5 + 4, none⟩ = some p.2) (first | exact ⟨C4.out.c0, C4.out.c1, C4.out.c2, C4.out.c3, C4.out.c4⟩ | exact ⟨C3.out.c0, C3.out.c1, C3.out.c2, C3.out.c3, C3.out.c4⟩ | exact ⟨C2.out.c0, C2.out.c1, C2.out.c2, C2.out.c3, C2.out.c4⟩ | exact ⟨C1.out.c0, C1.out.c1, C1.out.c2, C1.out.c3, C1.out.c4⟩ | exact ⟨C0.out.c0, C0.out.c1, C0.out.c2, C0.out.c3, C0.out.c4⟩) (first
        | (go_at_call 12; refine (P0.out.doD HP.out.1 HP.out.2).mono ?_; rw [HR.out.eq]; rintro e wa ⟨rfl, hu⟩; obtain ⟨A2, hq, hb, _, _⟩ := P0.out.stepD hu BD0.out.size; have P1 := Lib.hid hq; have BD1 := Lib.hid (BD0.out.trans hb); have C1 := Lib.hid (P1.out.ops.cells HP.out.1 HP.out.2); clear hu hq hb P0 BD0 C0)
        | (go_at_call 13; refine (P1.out.doR HOK.out HP.out.1 HP.out.2).mono ?_; rw [HR.out.eq]; rintro e wb ⟨rfl, hu⟩; obtain ⟨R2, hq, hb, _, _⟩ := P1.out.stepR hu BD1.out.size; have P3 := Lib.hid hq; have BD3 := Lib.hid (BD1.out.trans hb); have C3 := Lib.hid (P3.out.ops.cells HP.out.1 HP.out.2); clear hu hq hb P1 BD1 C1)
        | (go_at_call 13; refine (P0.out.doR HOK.out HP.out.1 HP.out.2).mono ?_; rw [HR.out.eq]; rintro e wa ⟨rfl, hu⟩; obtain ⟨R2, hq, hb, _, _⟩ := P0.out.stepR hu BD0.out.size; have P2 := Lib.hid hq; have BD2 := Lib.hid (BD0.out.trans hb); have C2 := Lib.hid (P2.out.ops.cells HP.out.1 HP.out.2); clear hu hq hb P0 BD0 C0)
        | (go_at_call 12; refine (P2.out.doD HP.out.1 HP.out.2).mono ?_; rw [HR.out.eq]; rintro e wb ⟨rfl, hu⟩; obtain ⟨A2, hq, hb, _, _⟩ := P2.out.stepD hu BD2.out.size; have P3 := Lib.hid hq; have BD3 := Lib.hid (BD2.out.trans hb); have C3 := Lib.hid (P3.out.ops.cells HP.out.1 HP.out.2); clear hu hq hb P2 BD2 C2)
        | (go_at_call 14; refine (same_any P3.out.dk.dk P3.out.rf.dk (by omega)).mono ?_; rintro e wc ⟨rfl, hb⟩; have P4 := Lib.hid (P3.out.below hb); have BD4 := Lib.hid (below_cut BD3.out BD3.out.size hb); have C4 := Lib.hid (P4.out.ops.cells HP.out.1 HP.out.2); clear hb P3 BD3 C3))
      all_goals
        clear hir
        go_wp2_with fail
        go_roundw
        case rel => exact ⟨i + 1, s2, A2, R2, by go_num, by omega, P4, BD4⟩
        case measure => simp [intOf]; omega
    · obtain rfl : i = xs.length := by omega
      go_wp2_with fail
      refine (lives5_any wr).mono ?_
      rintro e w9 ⟨rfl, hb⟩
      have B9 := Lib.hid (below_cut B.out B.out.size hb)
      clear hb
      go_wp2_with fail
      go_ret
      exact ⟨rfl, B9.out⟩
end Go.Proofs.Ytadnbakniibmfaa
