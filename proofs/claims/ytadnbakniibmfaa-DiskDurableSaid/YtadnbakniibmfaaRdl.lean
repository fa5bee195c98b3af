/-
  made: a disk and its model after some operations; a third disk beside them.
-/
import Derived.Test.YtadnbakniibmfaaRdk
namespace Go.Proofs.Ytadnbakniibmfaa
open Go.RowKit Go.Shelf
set_option linter.unusedVariables false
set_option maxRecDepth 100000

structure MadeIs (n : Nat) (w' : World) (A R : Foot) (d m K : Nat) (s : St) : Prop where
  dk : Dsk n w' A d K s
  rf : Rsk n w' R m K s
  sep : ∀ k, A k → ¬ R k
  room : 12 ≤ K ∧ K ≤ 51
def MadeEnd (w : World) (e : Ending) (w' : World) : Prop := ∃ d m A R K s, e = .returned (.tuple #[.pointer (some ⟨d, 0, none⟩), .pointer (some ⟨m, 0, none⟩)]) ∧ MadeIs w.heap.size w' A R d m K s ∧ Below w.heap.size w w'
set_option maxHeartbeats 16000000 in
theorem made_any (room : Int) (v : Value) (l : List Int) (w : World) (hroom : -9223372036854775808 ≤ room ∧ room ≤ 9223372036854775807) (hv : Row .i64 w v l) (hl : ∀ z ∈ l, -9223372036854775808 ≤ z ∧ z ≤ 9223372036854775807) :
    Calls Try.prog 16 #[.int .i64 room, v] w (MadeEnd w) := by
  have HRM := Lib.hid hroom
  have HV := Lib.hid hv
  have HL := Lib.hid hl
  obtain ⟨q, hq, hq40⟩ := around_40 room
  have HQ := Lib.hid hq
  clear hroom hv hl hq
  go_enter Try.func16, Try.ntmps16
  go_wp2_with fail
  refine (around_any room 40 w HRM.out (by decide) (by decide)).mono ?_
  rintro e w0 ⟨rfl, rfl⟩
  rw [HQ.out]
  clear HQ HRM
  obtain ⟨K, hK⟩ : ∃ K : Nat, 12 + q = K := ⟨_, rfl⟩
  have hKi : (12 : Int) + (q : Int) = (K : Int) := by omega
  have hK51 : K ≤ 51 := by omega
  have HK12 : Hid (12 ≤ K) := Lib.hid (by omega)
  clear hK
  go_wp2_with fail
  refine (newS_any (K : Int) w (by omega)).mono ?_
  rintro e w1 ⟨d, A0, rfl, hd, hA0, hb⟩
  rw [Int.toNat_natCast] at hd
  have D1 := Lib.hid (Dsk.made (n := w.heap.size) hd hA0 (Nat.le_refl _))
  have B1 := Lib.hid hb
  clear hd hA0 hb
  generalize (fun k => A0 k ∧ k < w1.heap.size) = A1 at D1
  go_wp2_with fail
  refine (newRS_any K w1).mono ?_
  rintro e w2 ⟨m, R0, rfl, hr, hR0, hb⟩
  have R2 := Lib.hid (Rsk.made (n := w1.heap.size) hr hR0 (Nat.le_refl _))
  have BB2 := Lib.hid hb
  have B2 := Lib.hid (below_cut B1.out B1.out.size hb)
  clear hr hR0 hb
  generalize (fun k => R0 k ∧ k < w2.heap.size) = R1 at R2
  go_wp2_with fail
  refine (ops_any v l w2 (row_keeps HV.out B2.out) HL.out).mono ?_
  rintro e w3 ⟨v3, ps, xs, rfl, ⟨va, vc, rfl⟩, ho, hx16, hb⟩
  have P3 := Lib.hid (pair_start D1.out R2.out BB2.out ho hb B1.out.size)
  have B3 := Lib.hid (below_cut B2.out B2.out.size hb)
  clear ho hb D1 R2 BB2 B1 B2 HV HL
  generalize w2.heap.size = lo at *
  generalize w3.heap.size = hi at P3
  go_wp2_with fail
  go_loopw [11] (fun s11 wr => ∃ (i : Nat) (s : St) (A R : Foot), s11 = .int .i64 (i : Int) ∧ i ≤ xs.length ∧ Hid (PairD w.heap.size lo hi wr A R d m K s s (.slice va xs.length vc) ps xs) ∧ Hid (Below w.heap.size w wr)) (fun s11 _ => xs.length - (intOf s11).toNat)
  case atStart => exact ⟨0, pNew, A1, R1, rfl, Nat.zero_le _, P3, B3⟩
  case round =>
    obtain ⟨i, s, A, R, rfl, hi2, P, B⟩ := hrel
    clear P3 B3
    by_cases hlt : i < xs.length
    · obtain ⟨g, p, x, rfl, hp, hx⟩ := P.out.ops.addr hlt
      have HP := Lib.hid (And.intro hp hx)
      have HOK := Lib.hid P.out.ok
      obtain ⟨r, hr⟩ : ∃ r, DoIs K s x r := ⟨_, ⟨rfl⟩⟩
      have HR := Lib.hid hr
      obtain ⟨rc, s2⟩ := r
      have hi0 : (0 : Int) ≤ (i : Int) := by omega
      have hi1 : (i : Int) < (xs.length : Int) := by omega
      obtain ⟨c0, c1, c2, c3, c4⟩ := P.out.ops.cells hp hx
      clear hp hx hr
      go_wp2_with fail
      refine (P.out.doD HP.out.1 HP.out.2).mono ?_
      rw [HR.out.eq]
      rintro e wa ⟨rfl, hu⟩
      obtain ⟨A2, hq, hb, _, _⟩ := P.out.stepD hu B.out.size
      have P1 := Lib.hid hq
      have B1 := Lib.hid (B.out.trans hb)
      clear hu hq hb c0 c1 c2 c3 c4 P B
      obtain ⟨c0, c1, c2, c3, c4⟩ := P1.out.ops.cells HP.out.1 HP.out.2
      go_wp2_with fail
      refine (P1.out.doR HOK.out HP.out.1 HP.out.2).mono ?_
      rw [HR.out.eq]
      rintro e wb ⟨rfl, hu⟩
      obtain ⟨R2, hq, hb, _, _⟩ := P1.out.stepR hu B1.out.size
      have P2 := Lib.hid hq
      have B2 := Lib.hid (B1.out.trans hb)
      clear hu hq hb c0 c1 c2 c3 c4 P1 B1
      go_wp2_with fail
      go_roundw
      case rel => exact ⟨i + 1, s2, A2, R2, by go_num, by omega, P2, B2⟩
      case measure => simp [intOf]; omega
    · obtain rfl : i = xs.length := by omega
      go_wp2_with fail
      refine bodyPost_ret (results_tmp2 rfl _ _ _) rfl ?_
      exact ⟨d, m, A, R, K, s, rfl, ⟨P.out.dk, P.out.rf, P.out.sep, HK12.out, hK51⟩, B.out⟩

/-- A third disk, apart from the two. -/
structure Side (n : Nat) (W : World) (A R C : Foot) (c K : Nat) (s : St) : Prop where
  dk : Dsk n W C c K s
  na : ∀ k, C k → ¬ A k
  nr : ∀ k, C k → ¬ R k
theorem Side.below {n : Nat} {W W2 : World} {A R C : Foot} {c K : Nat} {s : St} (h : Side n W A R C c K s) (hb : Below W.heap.size W W2) : Side n W2 A R C c K s := ⟨h.dk.below hb, h.na, h.nr⟩
theorem Side.stepA {n : Nat} {W W2 : World} {A A2 R C : Foot} {c K : Nat} {s : St} (h : Side n W A R C c K s) (hk : Keeps A W W2) (hf : ∀ k, A2 k → A k ∨ W.heap.size ≤ k) : Side n W2 A2 R C c K s :=
  ⟨h.dk.other hk h.na, fun k hC hA => (hf k hA).elim (h.na k hC) (fun h2 => by have := h.dk.hi k hC; omega), h.nr⟩
theorem Side.stepR {n : Nat} {W W2 : World} {A R R2 C : Foot} {c K : Nat} {s : St} (h : Side n W A R C c K s) (hk : Keeps R W W2) (hf : ∀ k, R2 k → R k ∨ W.heap.size ≤ k) : Side n W2 A R2 C c K s :=
  ⟨h.dk.other hk h.nr, h.na, fun k hC hA => (hf k hA).elim (h.nr k hC) (fun h2 => by have := h.dk.hi k hC; omega)⟩
end Go.Proofs.Ytadnbakniibmfaa
