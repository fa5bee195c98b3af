/-
  DiskCopies: a copy behaves as the disk does; operations on one of them do not affect the other.
-/
import Derived.Test.YtadnbakniibmfaaRdl
namespace Go.Proofs.Ytadnbakniibmfaa
open Go.RowKit Go.Shelf
set_option linter.unusedVariables false
set_option maxRecDepth 100000

structure PAllIs (K : Nat) (xs : List OpV) (i : Nat) (s t : St) : Prop where
  eq : pAll K xs i s = t
theorem PAllIs.next {K : Nat} {xs : List OpV} {i : Nat} {s t : St} {x : OpV} {r : Int × St} (h : PAllIs K xs i s t) (hx : xs[i]? = some x) (hr : DoIs K t x r) : PAllIs K xs (i + 1) s r.2 := by
  obtain ⟨hi, rfl⟩ := List.getElem?_eq_some_iff.1 hx
  exact ⟨by rw [pAll_succ hi, h.eq, hr.eq]⟩
theorem copy_pair {n : Nat} {W W2 W3 : World} {A R C0 : Foot} {d m c K : Nat} {s : St} {v : Value} {ps : List (Value × Value)} {xs : List OpV} (h : MadeIs n W A R d m K s) (hc : DkS W2 C0 c K s) (hC : ∀ k, C0 k → W.heap.size ≤ k) (hb2 : Below W.heap.size W W2) (ho : OpsIs W2.heap.size W3.heap.size W3 v ps xs) (hb3 : Below W2.heap.size W2 W3) (hn : n ≤ W.heap.size) :
    ∃ C : Foot, PairD n W2.heap.size W3.heap.size W3 C R c m K s s v ps xs ∧ Side n W3 C R A d K s := by
  have h1 := Dsk.made (n := n) hc hC hn
  refine ⟨fun k => C0 k ∧ k < W2.heap.size, ⟨h1.below hb3, (h.rf.below hb2).below hb3, fun k hc hr => ?_, fun k hc => .inl hc.2, fun k hr => .inl ((h.rf.below hb2).hi k hr), ho, Nat.le_refl _⟩, ⟨(h.dk.below hb2).below hb3, fun k ha hc => ?_, h.sep⟩⟩
  · have a1 := hC k hc.1
    have a2 := h.rf.hi k hr
    omega
  · have a1 := hC k hc.1
    have a2 := h.dk.hi k ha
    omega
theorem again_pair {n lo hi : Nat} {W W2 : World} {C R A E0 : Foot} {c m d e K : Nat} {s t : St} {v : Value} {ps : List (Value × Value)} {xs : List OpV} (h : PairD n lo hi W C R c m K t s v ps xs) (he : DkS W2 E0 e K s) (hE : ∀ k, E0 k → W.heap.size ≤ k) (hb : Below W.heap.size W W2) (hn : n ≤ W.heap.size) :
    ∃ E : Foot, PairD n lo hi W2 E R e m K s s v ps xs ∧ Side n W2 E R C c K t := by
  have h1 := Dsk.made (n := n) he hE hn
  refine ⟨fun k => E0 k ∧ k < W2.heap.size, ⟨h1, h.rf.below hb, fun k hc hr => ?_, fun k hc => .inr (Nat.le_trans h.top (hE k hc.1)), h.gr, h.ops.below hb h.top, Nat.le_trans h.top hb.size⟩, ⟨h.dk.below hb, fun k ha hc => ?_, h.sep⟩⟩
  · have a1 := hE k hc.1
    have a2 := h.rf.hi k hr
    omega
  · have a1 := hE k hc.1
    have a2 := h.dk.hi k ha
    omega

set_option maxHeartbeats 16000000 in
theorem walk_DiskCopies (room : Int) (v : Value) (l : List Int) (v2 : Value) (l2 : List Int) (w : World) (hroom : -9223372036854775808 ≤ room ∧ room ≤ 9223372036854775807) (hv : Row .i64 w v l) (hl : ∀ z ∈ l, -9223372036854775808 ≤ z ∧ z ≤ 9223372036854775807) (hv2 : Row .i64 w v2 l2) (hl2 : ∀ z ∈ l2, -9223372036854775808 ≤ z ∧ z ≤ 9223372036854775807) :
    Calls Try.prog 6 #[.int .i64 room, v, v2] w fun e w' => e = .returned (.bool true) ∧ Below w.heap.size w w' := by
  have HRM := Lib.hid hroom
  have HV := Lib.hid hv
  have HL := Lib.hid hl
  have HV2 := Lib.hid hv2
  have HL2 := Lib.hid hl2
  clear hroom hv hl hv2 hl2
  go_enter Try.func6, Try.ntmps6
  go_wp2_with fail
  refine (made_any room v l w HRM.out HV.out HL.out).mono ?_
  rintro e w1 ⟨d, m, A, R, K, s, rfl, hm, hb⟩
  have M1 := Lib.hid hm
  have B1 := Lib.hid hb
  have hK51 : K ≤ 1000000 := by have := hm.room; omega
  have HK := Lib.hid hK51
  clear hm hb HRM HV HL hK51
  go_wp2_with fail
  refine (copyS_any M1.out.dk.dk).mono ?_
  rintro e w2 ⟨c, C0, rfl, hc, hC0, hb⟩
  have C2 := Lib.hid (And.intro hc (And.intro hC0 hb))
  have RS2 := Lib.hid (rfs_below M1.out.rf.dk hb)
  have B2 := Lib.hid (below_cut B1.out B1.out.size hb)
  clear hc hC0 hb
  go_wp2_with fail
  refine (same_any C2.out.1 RS2.out HK.out).mono ?_
  rintro e w3 ⟨rfl, hb⟩
  have C3 : Hid (DkS w3 C0 c K s ∧ (∀ k, C0 k → w1.heap.size ≤ k) ∧ Below w1.heap.size w1 w3) := Lib.hid ⟨dkm_below C2.out.1 hb, C2.out.2.1, below_then C2.out.2.2 hb⟩
  have B3 := Lib.hid (below_cut B2.out B2.out.size hb)
  clear hb C2 RS2 B2
  go_wp2_with fail
  refine (ops_any v2 l2 w3 (row_keeps HV2.out B3.out) HL2.out).mono ?_
  rintro e w4 ⟨v4, ps, xs, rfl, ⟨va, vc, rfl⟩, ho, hx16, hb⟩
  obtain ⟨C, hp, hs⟩ := copy_pair M1.out C3.out.1 C3.out.2.1 C3.out.2.2 ho hb B1.out.size
  have P4 := Lib.hid hp
  have S4 := Lib.hid hs
  have B4 := Lib.hid (below_cut B3.out B3.out.size hb)
  clear ho hb hp hs C3 M1 B1 B3 HV2 HL2
  generalize w3.heap.size = lo at *
  generalize w4.heap.size = hi at P4
  have Q0 : Hid (PAllIs K xs 0 s s) := Lib.hid ⟨pAll_zero _ _ _⟩
  go_wp2_with fail
  go_loopw [11] (fun s11 wr => ∃ (i : Nat) (t : St) (C : Foot), s11 = .int .i64 (i : Int) ∧ i ≤ xs.length ∧ Hid (PAllIs K xs i s t) ∧ Hid (PairD w.heap.size lo hi wr C R c m K t s (.slice va xs.length vc) ps xs) ∧ Hid (Side w.heap.size wr C R A d K s) ∧ Hid (Below w.heap.size w wr)) (fun s11 _ => xs.length - (intOf s11).toNat)
  case atStart => exact ⟨0, s, C, rfl, Nat.zero_le _, Q0, P4, S4, B4⟩
  case round =>
    obtain ⟨i, t, C2, rfl, hi2, Q, P, S, B⟩ := hrel
    clear P4 S4 B4
    by_cases hlt : i < xs.length
    · clear Q0
      obtain ⟨g, p, x, rfl, hp, hx⟩ := P.out.ops.addr hlt
      have HP := Lib.hid (And.intro hp hx)
      obtain ⟨r, hr⟩ : ∃ r, DoIs K t x r := ⟨_, ⟨rfl⟩⟩
      have HR := Lib.hid hr
      have Q2 := Lib.hid (Q.out.next hx hr)
      obtain ⟨rc, s2⟩ := r
      have hi0 : (0 : Int) ≤ (i : Int) := by omega
      have hi1 : (i : Int) < (xs.length : Int) := by omega
      obtain ⟨c0, c1, c2, c3, c4⟩ := P.out.ops.cells hp hx
      clear hp hx hr Q
      go_wp2_with fail
      refine (P.out.doD HP.out.1 HP.out.2).mono ?_
      rw [HR.out.eq]
      rintro e wa ⟨rfl, hu⟩
      obtain ⟨A2, hq, hb, hf, hk⟩ := P.out.stepD hu B.out.size
      have P1 := Lib.hid hq
      have S1 := Lib.hid (S.out.stepA hk hf)
      have B1 := Lib.hid (B.out.trans hb)
      clear hu hq hb hf hk c0 c1 c2 c3 c4 P B S
      go_wp2_with fail
      go_roundw
      case rel => exact ⟨i + 1, s2, A2, by go_num, by omega, Q2, P1, S1, B1⟩
      case measure => simp [intOf]; omega
    · obtain rfl : i = xs.length := by omega
      have RS := Lib.hid P.out.rf.dk
      go_wp2_with fail
      refine (same_any S.out.dk.dk RS.out HK.out).mono ?_
      rintro e w5 ⟨rfl, hb⟩
      have P5 := Lib.hid (P.out.below hb)
      have S5 := Lib.hid (S.out.below hb)
      have B5 := Lib.hid (below_cut B.out B.out.size hb)
      clear hb P S B RS
      go_wp2_with fail
      refine (copyS_any S5.out.dk.dk).mono ?_
      rintro e w6 ⟨e6, E0, rfl, hc, hE0, hb⟩
      obtain ⟨E, hp, hs⟩ := again_pair (A := A) (d := d) P5.out hc hE0 hb B5.out.size
      have P6 := Lib.hid hp
      have S6 := Lib.hid hs
      have B6 := Lib.hid (below_cut B5.out B5.out.size hb)
      clear hc hE0 hb hp hs P5 S5 B5
      go_wp2_with fail
      go_loopw [13] (fun s13 wr => ∃ (i : Nat) (u : St) (E R : Foot), s13 = .int .i64 (i : Int) ∧ i ≤ xs.length ∧ Hid (PAllIs K xs i s u) ∧ Hid (PairD w.heap.size lo hi wr E R e6 m K u u (.slice va xs.length vc) ps xs) ∧ Hid (Side w.heap.size wr E R C2 c K t) ∧ Hid (Below w.heap.size w wr)) (fun s13 _ => xs.length - (intOf s13).toNat)
      case atStart => exact ⟨0, s, E, R, rfl, Nat.zero_le _, Q0, P6, S6, B6⟩
      case round =>
        obtain ⟨i, u, E2, R2, rfl, hi2, Q7, P, S, B⟩ := hrel
        clear P6 S6 B6 Q0
        by_cases hlt : i < xs.length
        · obtain ⟨g, p, x, rfl, hp, hx⟩ := P.out.ops.addr hlt
          have HP := Lib.hid (And.intro hp hx)
          have P0 := Lib.hid (P.out.below (below_drew' wr))
          have S0 := Lib.hid (S.out.below (below_drew' wr))
          have BD0 := Lib.hid (below_cut B.out B.out.size (below_drew' wr))
          have HOK := Lib.hid P.out.ok
          have C0 := Lib.hid (P0.out.ops.cells hp hx)
          obtain ⟨r, hr⟩ : ∃ r, DoIs K u x r := ⟨_, ⟨rfl⟩⟩
          have HR := Lib.hid hr
          have Q8 := Lib.hid (Q7.out.next hx hr)
          obtain ⟨rc, s2⟩ := r
          clear hp hx P B S hr Q7
          have hir := int_ne rc
          have hi0 : (0 : Int) ≤ (i : Int) := by omega
          have hi1 : (i : Int) < (xs.length : Int) := by omega
          go_wp2_with fail
          go_region_held3 (fun w' : World => w'.cell? ⟨g, i * 5, none⟩ = some (.int .i64 (x.kind : Int)) ∧ w'.cell? ⟨g, i * 5 + 1, none⟩ = some (.int .i64 x.file) ∧ w'.cell? ⟨g, i * 5 + 2, none⟩ = some (.int .i64 x.n) ∧ w'.cell? ⟨g, i * 5 + 3, none⟩ = some p.1 ∧ w'.cell? ⟨g, i * 5 + 4, none⟩ = some p.2) (first | exact ⟨C3.out.c0, C3.out.c1, C3.out.c2, C3.out.c3, C3.out.c4⟩ | exact ⟨C2.out.c0, C2.out.c1, C2.out.c2, C2.out.c3, C2.out.c4⟩ | exact ⟨C1.out.c0, C1.out.c1, C1.out.c2, C1.out.c3, C1.out.c4⟩ | exact ⟨C0.out.c0, C0.out.c1, C0.out.c2, C0.out.c3, C0.out.c4⟩) (first
            | (go_at_call 12; refine (P0.out.doD HP.out.1 HP.out.2).mono ?_; rw [HR.out.eq]; rintro e wa ⟨rfl, hu⟩; obtain ⟨A2, hq, hb, hf, hk⟩ := P0.out.stepD hu BD0.out.size; have P1 := Lib.hid hq; have S1 := Lib.hid (S0.out.stepA hk hf); have BD1 := Lib.hid (BD0.out.trans hb); have C1 := Lib.hid (P1.out.ops.cells HP.out.1 HP.out.2); clear hu hq hb hf hk P0 BD0 C0 S0)
            | (go_at_call 13; refine (P1.out.doR HOK.out HP.out.1 HP.out.2).mono ?_; rw [HR.out.eq]; rintro e wb ⟨rfl, hu⟩; obtain ⟨R3, hq, hb, hf, hk⟩ := P1.out.stepR hu BD1.out.size; have P3 := Lib.hid hq; have S3 := Lib.hid (S1.out.stepR hk hf); have BD3 := Lib.hid (BD1.out.trans hb); have C3 := Lib.hid (P3.out.ops.cells HP.out.1 HP.out.2); clear hu hq hb hf hk P1 BD1 C1 S1)
            | (go_at_call 13; refine (P0.out.doR HOK.out HP.out.1 HP.out.2).mono ?_; rw [HR.out.eq]; rintro e wa ⟨rfl, hu⟩; obtain ⟨R3, hq, hb, hf, hk⟩ := P0.out.stepR hu BD0.out.size; have P2 := Lib.hid hq; have S2 := Lib.hid (S0.out.stepR hk hf); have BD2 := Lib.hid (BD0.out.trans hb); have C2 := Lib.hid (P2.out.ops.cells HP.out.1 HP.out.2); clear hu hq hb hf hk P0 BD0 C0 S0)
            | (go_at_call 12; refine (P2.out.doD HP.out.1 HP.out.2).mono ?_; rw [HR.out.eq]; rintro e wb ⟨rfl, hu⟩; obtain ⟨A2, hq, hb, hf, hk⟩ := P2.out.stepD hu BD2.out.size; have P3 := Lib.hid hq; have S3 := Lib.hid (S2.out.stepA hk hf); have BD3 := Lib.hid (BD2.out.trans hb); have C3 := Lib.hid (P3.out.ops.cells HP.out.1 HP.out.2); clear hu hq hb hf hk P2 BD2 C2 S2))
          all_goals
            clear hir C3
            go_wp2_with fail
            go_roundw
            case rel => exact ⟨i + 1, s2, A2, R3, by go_num, by omega, Q8, P3, S3, BD3⟩
            case measure => simp [intOf]; omega
        · obtain rfl : i = xs.length := by omega
          have hut : u = t := by rw [← Q7.out.eq, Q.out.eq]
          subst hut
          have U1 : Hid (∀ W, Below wr.heap.size wr W → Calls Try.prog 14 #[.pointer (some ⟨e6, 0, none⟩), .pointer (some ⟨m, 0, none⟩)] W (fun e w' => e = .returned (.bool true) ∧ Below W.heap.size W w')) := Lib.hid (fun W hb => same_any (P.out.below hb).dk.dk (P.out.below hb).rf.dk HK.out)
          have U2 : Hid (∀ W, Below wr.heap.size wr W → Calls Try.prog 14 #[.pointer (some ⟨c, 0, none⟩), .pointer (some ⟨m, 0, none⟩)] W (fun e w' => e = .returned (.bool true) ∧ Below W.heap.size W w')) := Lib.hid (fun W hb => same_any (S.out.below hb).dk.dk (P.out.below hb).rf.dk HK.out)
          clear P S Q Q7
          go_wp2_with fail
          refine (U1.out wr (Below.refl _ _)).mono ?_
          rintro e w7 ⟨rfl, hb⟩
          have H7 := Lib.hid hb
          clear hb
          go_wp2_with fail
          refine (U2.out w7 H7.out).mono ?_
          rintro e w8 ⟨rfl, hb⟩
          have H8 := Lib.hid (below_then H7.out hb)
          clear hb H7
          go_wp2_with fail
          refine (lives5_any w8).mono ?_
          rintro e w9 ⟨rfl, hb⟩
          have B9 := Lib.hid (below_cut B.out B.out.size (below_then H8.out hb))
          clear hb H8
          go_wp2_with fail
          go_ret
          exact ⟨rfl, B9.out⟩
end Go.Proofs.Ytadnbakniibmfaa
