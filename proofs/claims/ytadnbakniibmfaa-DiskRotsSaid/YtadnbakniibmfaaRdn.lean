/-
  DiskRots: Rot inverts one bit, and a second Rot restores it.
-/
import Derived.Test.YtadnbakniibmfaaRdl
namespace Go.Proofs.Ytadnbakniibmfaa
open Go.RowKit Go.Shelf
set_option linter.unusedVariables false
set_option maxRecDepth 100000

def rotS : ByteArray := ⟨#[114, 111, 116]⟩
/-- A stretch of bytes. -/
def subL (l : List Nat) (a n : Nat) : List Nat := (l.drop a).take n
structure HashNe (x y : List Nat) : Prop where
  ne : bytesN (strN rotS) x ≠ bytesN (strN rotS) y
/-- What a Rot does. -/
structure RotF (s : St) (f : Nat) (z : Int) (rc : Int) (s2 : St) : Prop where
  eq : pRot s f z = (rc, s2)
  back : pRot s2 f z = (rc, s)
  len : (s2.B f).length = (s.B f).length
  two : rc = 1 ∨ rc = 0
  good : rc = 0 → ∃ q : Nat, z = (q : Int) ∧ q / 8 < (s.B f).length ∧ (∀ c ∈ s2.B f, c < 256) ∧ s2.on = s.on ∧ HashNe (subL (s2.B f) (q / 8) (min (s.B f).length (q / 8 + 8) - q / 8)) (subL (s.B f) (q / 8) (min (s.B f).length (q / 8 + 8) - q / 8))
theorem flip_two (c p : Nat) : flipN (flipN c p) p = c := by unfold flipN; rw [Nat.xor_assoc, Nat.xor_self, Nat.xor_zero]
theorem rotF {room : Nat} {s : St} (ok : StOk room s) (f : Nat) (z : Int) : ∃ rc s2, RotF s f z rc s2 := by
  by_cases h : 0 ≤ z ∧ z.toNat / 8 < (s.B f).length
  · obtain ⟨q, rfl⟩ := Int.eq_ofNat_of_zero_le h.1
    rw [Int.toNat_natCast] at h
    have hlt := h.2
    have e1 : pRot s f (q : Int) = (0, { s with B := turnB s.B f q }) := by
      unfold pRot
      rw [Int.toNat_natCast, if_pos h]
    have hB : turnB s.B f q f = (s.B f).set (q / 8) (flipN (((s.B f)[q / 8]?).getD 0) q) := if_pos rfl
    have hl : (turnB s.B f q f).length = (s.B f).length := by rw [hB, List.length_set]
    have hc : ((s.B f)[q / 8]?).getD 0 = (s.B f)[q / 8] := by rw [List.getElem?_eq_getElem hlt]; rfl
    have h8 : (s.B f)[q / 8] < 256 := ok.b8 f _ (List.getElem_mem hlt)
    have hb8 : ∀ c ∈ turnB s.B f q f, c < 256 := by
      intro c hc2
      rw [hB, hc] at hc2
      rcases List.mem_or_eq_of_mem_set hc2 with h1 | h1
      · exact ok.b8 f c h1
      · rw [h1]; exact (flip_bits q h8).2.1
    refine ⟨0, { s with B := turnB s.B f q }, e1, ?_, hl, .inr rfl, fun _ => ⟨q, rfl, hlt, hb8, rfl, ?_⟩⟩
    · unfold pRot
      show (if 0 ≤ (q : Int) ∧ (q : Int).toNat / 8 < (turnB s.B f q f).length then ((0 : Int), ({ s with B := turnB (turnB s.B f q) f (q : Int).toNat } : St)) else (1, { s with B := turnB s.B f q })) = (0, s)
      rw [Int.toNat_natCast, if_pos ⟨h.1, by rw [hl]; exact hlt⟩]
      have e2 : turnB (turnB s.B f q) f q = s.B := by
        funext j
        show setB (turnB s.B f q) f _ j = _
        unfold setB
        by_cases hj : j = f
        · rw [if_pos hj, hB, List.getElem?_set_self hlt, Option.getD_some, flip_two, List.set_set, hc, hj]
          exact List.set_getElem_self hlt
        · rw [if_neg hj]
          unfold turnB setB
          rw [if_neg hj]
      rw [e2]
    · show HashNe (subL (turnB s.B f q f) _ _) _
      constructor
      intro he
      have hn1 : 0 < min (s.B f).length (q / 8 + 8) - q / 8 := by omega
      have hn8 : min (s.B f).length (q / 8 + 8) - q / 8 ≤ 8 := by omega
      have hnl : q / 8 + (min (s.B f).length (q / 8 + 8) - q / 8) ≤ (s.B f).length := by omega
      generalize min (s.B f).length (q / 8 + 8) - q / 8 = n at *
      have l1 : (subL (turnB s.B f q f) (q / 8) n).length = n := by unfold subL; rw [List.length_take, List.length_drop, hl]; omega
      have l2 : (subL (s.B f) (q / 8) n).length = n := by unfold subL; rw [List.length_take, List.length_drop]; omega
      have h1 := group_inj (q := 0) (strN rotS) (l1.trans l2.symm) (fun c hc2 => hb8 c (List.mem_of_mem_drop (List.mem_of_mem_take hc2))) (fun c hc2 => ok.b8 f c (List.mem_of_mem_drop (List.mem_of_mem_take hc2))) (fun i hi => by
        rw [List.getElem?_eq_none (by omega), List.getElem?_eq_none (by omega)]) he
      have h2 := congrArg (fun l : List Nat => l[0]?) h1
      unfold subL at h2
      simp only [List.getElem?_take_of_lt hn1, List.getElem?_drop, Nat.add_zero] at h2
      rw [hB, hc, List.getElem?_set_self hlt, List.getElem?_eq_getElem hlt] at h2
      injection h2 with h2
      exact (flip_bits q h8).2.2 h2
  · have e1 : pRot s f z = (1, s) := by unfold pRot; rw [if_neg h]
    exact ⟨1, s, e1, e1, rfl, .inl rfl, fun h => by omega⟩
/-- A stretch of a row of bytes. -/
theorem bytes_sub {lo : Nat} {W : World} {g n c a m : Nat} {xs : List Nat} (h : Fresh lo 5 .u8 W (.slice (some ⟨g, 0, none⟩) n c) (natI xs)) (h8 : ∀ x ∈ xs, x < 256) (hn : n = xs.length) (hm : a + m ≤ n) (hx : xs.length ≤ 16777216) : Bytes W (.slice (some ⟨g, a, none⟩) m (c - a)) (subL xs a m) := by
  have hl : (subL xs a m).length = m := by unfold subL; rw [List.length_take, List.length_drop]; omega
  have hcap : n ≤ c ∧ c ≤ maxLen := by
    rcases fresh_form h with ⟨h0, _⟩ | ⟨g2, cap, hv, _, _, h3, h4⟩
    · cases h0
    · injection hv with _ h5 h6
      rw [h5, h6]; exact ⟨h3, h4⟩
  unfold maxLen at hcap
  refine ⟨fun x hx => h8 x (List.mem_of_mem_drop (List.mem_of_mem_take hx)), some ⟨g, a, none⟩, c - a, by rw [hl], by rw [hl]; omega, by rw [hl]; omega, fun _ => ⟨g, a, rfl, fun j hj => ?_⟩⟩
  rw [hl] at hj
  have hc := fresh_cell h (j := a + j) (by rw [natI_length]; omega)
  rw [hc]
  congr 2
  unfold natI subL
  rw [List.getElem?_map, List.getElem?_take_of_lt hj, List.getElem?_drop, List.getElem?_eq_getElem (show a + j < xs.length by omega)]
  rfl

structure Trio (n0 : Nat) (W : World) (A R N : Foot) (d m n K : Nat) (s t u : St) : Prop where
  dk : Dsk n0 W A d K s
  rf : Rsk n0 W R m K t
  nf : Rsk n0 W N n K u
  ar : ∀ k, A k → ¬ R k
  an : ∀ k, A k → ¬ N k
  rn : ∀ k, R k → ¬ N k
section
variable {n0 : Nat} {W W2 : World} {A R N : Foot} {d m n K : Nat} {s t u s2 : St}
theorem Trio.below (h : Trio n0 W A R N d m n K s t u) (hb : Below W.heap.size W W2) : Trio n0 W2 A R N d m n K s t u := ⟨h.dk.below hb, h.rf.below hb, h.nf.below hb, h.ar, h.an, h.rn⟩
theorem Trio.stepD (h : Trio n0 W A R N d m n K s t u) (hu : UpS W A d K s2 W2) (hn : n0 ≤ W.heap.size) : ∃ A2, Trio n0 W2 A2 R N d m n K s2 t u ∧ Below n0 W W2 ∧ (∀ k, A2 k → A k ∨ W.heap.size ≤ k) ∧ Keeps A W W2 := by
  obtain ⟨A2, hd, hk, hf, hb⟩ := h.dk.up hu hn
  exact ⟨A2, ⟨hd, h.rf.other hk (fun k h1 h2 => h.ar k h2 h1), h.nf.other hk (fun k h1 h2 => h.an k h2 h1), fun k h1 h2 => (hf k h1).elim (fun h3 => h.ar k h3 h2) (fun h3 => by have := h.rf.hi k h2; omega), fun k h1 h2 => (hf k h1).elim (fun h3 => h.an k h3 h2) (fun h3 => by have := h.nf.hi k h2; omega), h.rn⟩, hb, hf, hk⟩
theorem Trio.stepN (h : Trio n0 W A R N d m n K s t u) (hu : UpR W N n K s2 W2) (hn : n0 ≤ W.heap.size) : ∃ N2, Trio n0 W2 A R N2 d m n K s t s2 ∧ Below n0 W W2 ∧ (∀ k, N2 k → N k ∨ W.heap.size ≤ k) ∧ Keeps N W W2 := by
  obtain ⟨N2, hd, hk, hf, hb⟩ := h.nf.up hu hn
  exact ⟨N2, ⟨h.dk.other hk (fun k h1 h2 => h.an k h1 h2), h.rf.other hk (fun k h1 h2 => h.rn k h1 h2), hd, h.ar, fun k h1 h2 => (hf k h2).elim (fun h3 => h.an k h1 h3) (fun h3 => by have := h.dk.hi k h1; omega), fun k h1 h2 => (hf k h2).elim (fun h3 => h.rn k h1 h3) (fun h3 => by have := h.rf.hi k h1; omega)⟩, hb, hf, hk⟩
end
theorem trio_start {n0 : Nat} {W W2 : World} {A R N0 : Foot} {d m n K : Nat} {s : St} (h : MadeIs n0 W A R d m K s) (hc : RfS W2 N0 n K s) (hC : ∀ k, N0 k → W.heap.size ≤ k) (hb : Below W.heap.size W W2) (hn : n0 ≤ W.heap.size) : ∃ N, Trio n0 W2 A R N d m n K s s s ∧ ∀ k, N k → W.heap.size ≤ k := by
  refine ⟨fun k => N0 k ∧ k < W2.heap.size, ⟨h.dk.below hb, h.rf.below hb, Rsk.made hc hC hn, h.sep, fun k h1 h2 => ?_, fun k h1 h2 => ?_⟩, fun k hk => hC k hk.1⟩
  · have := h.dk.hi k h1; have := hC k h2.1; omega
  · have := h.rf.hi k h1; have := hC k h2.1; omega

structure LenIs (s : St) (f n : Nat) : Prop where
  eq : (s.B f).length = n
structure AroundIs (n : Int) (m q : Nat) : Prop where
  eq : aroundI n (m : Int) = (q : Int)
  lt : q < m
theorem around_n (n : Int) (m : Nat) (hm : 0 < m) : ∃ q, AroundIs n m q := by
  have h1 := Int.emod_nonneg (if n < 0 then -(n + 1) else n) (show ((m : Nat) : Int) ≠ 0 by omega)
  have h2 := Int.emod_lt_of_pos (if n < 0 then -(n + 1) else n) (show (0 : Int) < ((m : Nat) : Int) by omega)
  refine ⟨((if n < 0 then -(n + 1) else n) % ((m : Nat) : Int)).toNat, ?_, ?_⟩
  · unfold aroundI; omega
  · omega
/-- What a round of DiskRots begins with. -/
structure RotI (n0 gn : Nat) (W : World) (A R : Foot) (d m K : Nat) (s : St) (z0 z1 : Int) : Prop where
  made : MadeIs n0 W A R d m K s
  row : Laid W gn 3 [.int .i64 z0, .int .i64 z1]
  na : ∀ k, A k → k ≠ gn
  nr : ∀ k, R k → k ≠ gn

set_option maxHeartbeats 16000000 in
theorem walk_DiskRots (room : Int) (v : Value) (l : List Int) (file bit : Int) (w : World) (hroom : -9223372036854775808 ≤ room ∧ room ≤ 9223372036854775807) (hv : Row .i64 w v l) (hl : ∀ z ∈ l, -9223372036854775808 ≤ z ∧ z ≤ 9223372036854775807) (hfile : -9223372036854775808 ≤ file ∧ file ≤ 9223372036854775807) (hbit : -9223372036854775808 ≤ bit ∧ bit ≤ 9223372036854775807) :
    Calls Try.prog 7 #[.int .i64 room, v, .int .i64 file, .int .i64 bit] w fun e w' => e = .returned (.bool true) ∧ Below w.heap.size w w' := by
  have HRM := Lib.hid hroom
  have HV := Lib.hid hv
  have HL := Lib.hid hl
  have HFI := Lib.hid hfile
  have HBI := Lib.hid hbit
  obtain ⟨f, hf⟩ := around_n file 4 (by decide)
  have HF := Lib.hid hf
  have hf4 := hf.lt
  clear hroom hv hl hfile hf
  go_enter Try.func7, Try.ntmps7
  go_wp2_with fail
  refine (made_any room v l w HRM.out HV.out HL.out).mono ?_
  rintro e w1 ⟨d, m, A, R, K, s, rfl, hm, hb⟩
  have M1 := Lib.hid hm
  have B1 := Lib.hid hb
  have OK := Lib.hid (dks_ok hm.dk.dk)
  have RMK := Lib.hid hm.room
  have hK51 : K ≤ 1000000 := by have := hm.room; omega
  have HK := Lib.hid hK51
  have HL51 : Hid (∀ k, (s.B k).length ≤ 51) := Lib.hid (fun k => Nat.le_trans ((dks_ok hm.dk.dk).len k) hm.room.2)
  clear hm hb HRM HV HL hK51
  go_wp2_with fail
  refine (around_any file 4 w1 HFI.out (by decide) (by decide)).mono ?_
  rintro e w0 ⟨rfl, rfl⟩
  rw [HF.out.eq]
  clear HF HFI
  obtain ⟨bb, fb, ad, cp, hr, hA⟩ := M1.out.rf.dk
  have c1 := hr.dk.cell 1
  have cb := hr.bcell (show f < 64 by omega)
  simp only [List.getElem?_cons_succ, List.getElem?_cons_zero] at c1
  have hln := HL51.out f
  have hi0 : (0 : Int) ≤ (f : Int) := by omega
  have hi1 : (f : Int) < 64 := by omega
  clear hr hA
  generalize hn : (s.B f).length = n at *
  have HN : Hid (LenIs s f n) := Lib.hid ⟨hn⟩
  clear hn
  obtain ⟨M, hM, hM2, hM3⟩ : ∃ M : Nat, 8 * (n : Int) + 2 = (M : Int) ∧ 1 ≤ M ∧ M ≤ 500 := ⟨8 * n + 2, by omega, by omega, by omega⟩
  obtain ⟨q2, hq2⟩ := around_n bit M (by omega)
  have HQ2 := Lib.hid hq2
  clear hq2
  go_wp2_with fail
  refine (around_any bit M w1 HBI.out (by omega) (by omega)).mono ?_
  rintro e w0 ⟨rfl, rfl⟩
  rw [HQ2.out.eq]
  have hq2r : -9223372036854775808 ≤ (q2 : Int) ∧ (q2 : Int) ≤ 9223372036854775807 := by have := HQ2.out.lt; omega
  have HQR := Lib.hid hq2r
  have hbx := (Below.refl w1.heap.size w1).alloc (Nat.le_refl _) (.cells #[.int .i64 bit, .int .i64 (q2 : Int)] 3)
  have I2 : Hid (RotI w.heap.size w1.heap.size (w1.alloc (.cells #[.int .i64 bit, .int .i64 (q2 : Int)] 3)) A R d m K s bit (q2 : Int)) := Lib.hid ⟨⟨M1.out.dk.below hbx, M1.out.rf.below hbx, M1.out.sep, M1.out.room⟩, Laid.new w1 _ [.int .i64 bit, .int .i64 (q2 : Int)], fun k hk e => by have := M1.out.dk.hi k hk; omega, fun k hk e => by have := M1.out.rf.hi k hk; omega⟩
  have B2 := Lib.hid (below_cut B1.out B1.out.size hbx)
  clear hbx c1 cb M1 B1 HQ2 hM hM2 hM3 hq2r
  go_wp2_with fail
  generalize w1.heap.size = gn at *
  go_loopw [13] (fun s13 wr => ∃ (i : Nat) (A : Foot), s13 = .int .i64 (i : Int) ∧ i ≤ 2 ∧ Hid (RotI w.heap.size gn wr A R d m K s bit (q2 : Int)) ∧ Hid (Below w.heap.size w wr)) (fun s13 _ => 2 - (intOf s13).toNat)
  case atStart => exact ⟨0, A, rfl, by omega, I2, B2⟩
  case round =>
    obtain ⟨i, A, rfl, hi, I, B⟩ := hrel
    clear I2 B2
    by_cases hlt : i < 2
    · obtain ⟨z, hz, hzr⟩ : ∃ z : Int, (∀ W, Laid W gn 3 [.int .i64 bit, .int .i64 (q2 : Int)] → W.cell? ⟨gn, i, none⟩ = some (.int .i64 z)) ∧ -9223372036854775808 ≤ z ∧ z ≤ 9223372036854775807 := by
        have h2 : i = 0 ∨ i = 1 := by omega
        rcases h2 with rfl | rfl
        · exact ⟨bit, fun W h => h.cell 0, HBI.out⟩
        · exact ⟨q2, fun W h => h.cell 1, HQR.out⟩
      have HZ := Lib.hid hz
      obtain ⟨rc, s2, hrot⟩ := rotF OK.out f z
      have ROT := Lib.hid hrot
      have htwo := hrot.two
      clear hz hrot
      have hii0 : (0 : Int) ≤ (i : Int) := by omega
      have hii1 : (i : Int) < 2 := by omega
      go_wp2_with fail
      refine (copyR_any I.out.made.rf.dk OK.out).mono ?_
      rintro e w3 ⟨nn, N0, rfl, hc, hN0, hb⟩
      obtain ⟨N, ht, hN⟩ := trio_start I.out.made hc hN0 hb B.out.size
      have T3 := Lib.hid ht
      have G3 : Hid (Laid w3 gn 3 [.int .i64 bit, .int .i64 (q2 : Int)] ∧ (∀ k, A k → k ≠ gn) ∧ (∀ k, R k → k ≠ gn) ∧ (∀ k, N k → k ≠ gn)) := Lib.hid ⟨I.out.row.below hb, I.out.na, I.out.nr, fun k hk e => by have h1 := hN k hk; have h2 := I.out.row.lt; omega⟩
      have B3 := Lib.hid (below_cut B.out B.out.size hb)
      clear hc hN0 hb ht hN I B
      have cz := HZ.out _ G3.out.1
      go_wp2_with fail
      refine (rotS_any T3.out.dk.dk f z (by omega) hzr).mono ?_
      rw [ROT.out.eq]
      rintro e w4 ⟨rfl, hu⟩
      obtain ⟨A4, ht, hb, hf2, hk⟩ := T3.out.stepD hu B3.out.size
      have T4 := Lib.hid ht
      have G4 : Hid (Laid w4 gn 3 [.int .i64 bit, .int .i64 (q2 : Int)] ∧ (∀ k, A4 k → k ≠ gn) ∧ (∀ k, R k → k ≠ gn) ∧ (∀ k, N k → k ≠ gn)) := Lib.hid ⟨G3.out.1.keeps hk (fun h => G3.out.2.1 gn h rfl), fun k hk2 e => (hf2 k hk2).elim (fun h => G3.out.2.1 k h e) (fun h => by have := G3.out.1.lt; omega), G3.out.2.2.1, G3.out.2.2.2⟩
      have B4 := Lib.hid (B3.out.trans hb)
      clear hu hb hf2 hk ht T3 G3 B3 cz
      have cz := HZ.out _ G4.out.1
      have hir := int_ne rc
      go_wp2_with fail
      refine (rotR_any T4.out.nf.dk OK.out f z (by omega) hzr).mono ?_
      rw [ROT.out.eq]
      rintro e w5 ⟨rfl, hu⟩
      obtain ⟨N5, ht, hb, hf2, hk⟩ := T4.out.stepN hu B4.out.size
      have T5 := Lib.hid ht
      have G5 : Hid (Laid w5 gn 3 [.int .i64 bit, .int .i64 (q2 : Int)] ∧ (∀ k, A4 k → k ≠ gn) ∧ (∀ k, R k → k ≠ gn)) := Lib.hid ⟨G4.out.1.keeps hk (fun h => G4.out.2.2.2 gn h rfl), G4.out.2.1, G4.out.2.2.1⟩
      have B5 := Lib.hid (B4.out.trans hb)
      clear hu hb hf2 hk ht T4 G4 B4 cz
      go_wp2_with fail
      refine (same_any T5.out.dk.dk T5.out.nf.dk HK.out).mono ?_
      rintro e w6 ⟨rfl, hb⟩
      have T6 : Hid (Dsk w.heap.size w6 A4 d K s2 ∧ Rsk w.heap.size w6 R m K s ∧ ∀ k, A4 k → ¬ R k) := Lib.hid ⟨T5.out.dk.below hb, T5.out.rf.below hb, T5.out.ar⟩
      have G6 : Hid (Laid w6 gn 3 [.int .i64 bit, .int .i64 (q2 : Int)] ∧ (∀ k, A4 k → k ≠ gn) ∧ (∀ k, R k → k ≠ gn)) := Lib.hid ⟨G5.out.1.below hb, G5.out.2⟩
      have B6 := Lib.hid (below_cut B5.out B5.out.size hb)
      clear hb T5 G5 B5
      have REND : Hid (∀ (w9 : World) (A9 : Foot), RotI w.heap.size gn w9 A9 R d m K s bit (q2 : Int) → Below w.heap.size w w9 → True) := Lib.hid (fun _ _ _ _ => trivial)
      clear REND
      rcases htwo with rfl | rfl
      · have cz := HZ.out _ G6.out.1
        go_wp2_with fail
        refine (rotS_any T6.out.1.dk f z (by omega) hzr).mono ?_
        rw [ROT.out.back]
        rintro e w7 ⟨rfl, hu⟩
        obtain ⟨A7, hd, hk, hf2, hb⟩ := T6.out.1.up hu B6.out.size
        have M7 : Hid (MadeIs w.heap.size w7 A7 R d m K s) := Lib.hid ⟨hd, T6.out.2.1.other hk (fun k h1 h2 => T6.out.2.2 k h2 h1), fun k h1 h2 => (hf2 k h1).elim (fun h3 => T6.out.2.2 k h3 h2) (fun h3 => by have := T6.out.2.1.hi k h2; omega), RMK.out⟩
        have I7 : Hid (RotI w.heap.size gn w7 A7 R d m K s bit (q2 : Int)) := Lib.hid ⟨M7.out, G6.out.1.keeps hk (fun h => G6.out.2.1 gn h rfl), fun k hk2 e => (hf2 k hk2).elim (fun h => G6.out.2.1 k h e) (fun h => by have := G6.out.1.lt; omega), G6.out.2.2⟩
        have B7 := Lib.hid (B6.out.trans hb)
        clear hu hd hk hf2 hb T6 G6 B6 cz
        go_wp2_with fail
        refine (same_any I7.out.made.dk.dk I7.out.made.rf.dk HK.out).mono ?_
        rintro e w8 ⟨rfl, hb⟩
        have I8 : Hid (RotI w.heap.size gn w8 A7 R d m K s bit (q2 : Int)) := Lib.hid ⟨⟨M7.out.dk.below hb, M7.out.rf.below hb, M7.out.sep, RMK.out⟩, I7.out.row.below hb, I7.out.na, I7.out.nr⟩
        have B8 := Lib.hid (below_cut B7.out B7.out.size hb)
        clear hb M7 I7 B7 hir
        go_wp2_with fail
        go_roundw
        case rel => exact ⟨i + 1, A7, by go_num, by omega, I8, B8⟩
        case measure => simp [intOf]; omega
      · obtain ⟨q, hzq, hqn, hx8, hson, hhash⟩ := ROT.out.good rfl
        rw [HN.out.eq] at hqn hhash
        have hxl : (s2.B f).length = n := by rw [ROT.out.len, HN.out.eq]
        have HX8 := Lib.hid hx8
        have HM8 := Lib.hid (OK.out.b8 f)
        have HXL := Lib.hid hxl
        have HSON := Lib.hid hson
        have HHS := Lib.hid hhash
        clear hx8 hxl hson hhash
        cases hon : s.on
        · obtain ⟨bb2, fb2, ad2, cp2, hr2, hA2⟩ := T6.out.2.1.dk
          have c3 := hr2.dk.cell 3
          rw [hon] at c3
          simp only [List.getElem?_cons_succ, List.getElem?_cons_zero, Bool.not_false] at c3
          clear hr2 hA2 hon hqn HHS hzq HX8 HM8 HXL HSON
          have cz := HZ.out _ G6.out.1
          go_wp2_with fail
          refine (rotS_any T6.out.1.dk f z (by omega) hzr).mono ?_
          rw [ROT.out.back]
          rintro e w7 ⟨rfl, hu⟩
          obtain ⟨A7, hd, hk, hf2, hb⟩ := T6.out.1.up hu B6.out.size
          have M7 : Hid (MadeIs w.heap.size w7 A7 R d m K s) := Lib.hid ⟨hd, T6.out.2.1.other hk (fun k h1 h2 => T6.out.2.2 k h2 h1), fun k h1 h2 => (hf2 k h1).elim (fun h3 => T6.out.2.2 k h3 h2) (fun h3 => by have := T6.out.2.1.hi k h2; omega), RMK.out⟩
          have I7 : Hid (RotI w.heap.size gn w7 A7 R d m K s bit (q2 : Int)) := Lib.hid ⟨M7.out, G6.out.1.keeps hk (fun h => G6.out.2.1 gn h rfl), fun k hk2 e => (hf2 k hk2).elim (fun h => G6.out.2.1 k h e) (fun h => by have := G6.out.1.lt; omega), G6.out.2.2⟩
          have B7 := Lib.hid (B6.out.trans hb)
          clear hu hd hk hf2 hb T6 G6 B6 cz
          go_wp2_with fail
          refine (same_any I7.out.made.dk.dk I7.out.made.rf.dk HK.out).mono ?_
          rintro e w8 ⟨rfl, hb⟩
          have I8 : Hid (RotI w.heap.size gn w8 A7 R d m K s bit (q2 : Int)) := Lib.hid ⟨⟨M7.out.dk.below hb, M7.out.rf.below hb, M7.out.sep, RMK.out⟩, I7.out.row.below hb, I7.out.na, I7.out.nr⟩
          have B8 := Lib.hid (below_cut B7.out B7.out.size hb)
          clear hb M7 I7 B7 hir
          go_wp2_with fail
          go_roundw
          case rel => exact ⟨i + 1, A7, by go_num, by omega, I8, B8⟩
          case measure => simp [intOf]; omega
        · obtain ⟨bb2, fb2, ad2, cp2, hr2, hA2⟩ := T6.out.2.1.dk
          have c3 := hr2.dk.cell 3
          rw [hon] at c3
          simp only [List.getElem?_cons_succ, List.getElem?_cons_zero, Bool.not_true] at c3
          have hrd := readS_any T6.out.1.dk (f : Int)
          rw [read_on (HSON.out.trans hon) hf4] at hrd
          have HRD := Lib.hid hrd
          have HRM2 := Lib.hid hr2
          have cz := HZ.out _ G6.out.1
          subst hzq
          obtain ⟨at_, hat, hat2⟩ : ∃ at_ : Nat, (q : Int).tdiv 8 = (at_ : Int) ∧ q / 8 = at_ := ⟨q / 8, rfl, rfl⟩
          rw [hat2] at hqn HHS
          clear hrd hr2 hA2 hon hat2
          go_wp2_with fail
          refine HRD.out.mono ?_
          rintro e w7 ⟨x, rfl, hx, hb⟩
          have T7 : Hid (Dsk w.heap.size w7 A4 d K s2 ∧ Rsk w.heap.size w7 R m K s ∧ ∀ k, A4 k → ¬ R k) := Lib.hid ⟨T6.out.1.below hb, T6.out.2.1.below hb, T6.out.2.2⟩
          have G7 : Hid (Laid w7 gn 3 [.int .i64 bit, .int .i64 (q2 : Int)] ∧ (∀ k, A4 k → k ≠ gn) ∧ (∀ k, R k → k ≠ gn)) := Lib.hid ⟨G6.out.1.below hb, G6.out.2⟩
          have B7 := Lib.hid (below_cut B6.out B6.out.size hb)
          have hr7 := HRM2.out.below hb
          have d1 := hr7.dk.cell 1
          have d2 := hr7.bcell (show f < 64 by omega)
          rw [HN.out.eq] at d2
          simp only [List.getElem?_cons_succ, List.getElem?_cons_zero] at d1
          obtain ⟨gx, xc, hxv⟩ : ∃ gx xc, x = .slice (some ⟨gx, 0, none⟩) n xc := by
            rcases fresh_form hx with ⟨_, h0⟩ | ⟨g, cap, hv, _⟩
            · have := congrArg List.length h0
              rw [natI_length, HXL.out] at this
              have h2 : n = 0 := this
              omega
            · rw [natI_length, HXL.out] at hv
              exact ⟨g, cap, hv⟩
          subst hxv
          have hrow := hr7.row f (by omega)
          unfold slV at hrow
          rw [HN.out.eq] at hrow
          obtain ⟨gm, hgm⟩ : ∃ gm, ad2 f = some ⟨gm, 0, none⟩ := by
            rcases fresh_form hrow with ⟨_, h0⟩ | ⟨g, cap, hv, _⟩
            · have := congrArg List.length h0
              rw [natI_length, HN.out.eq] at this
              have h2 : n = 0 := this
              omega
            · injection hv with h1 _ _
              exact ⟨g, h1⟩
          rw [hgm] at d2 hrow
          have hcx : n ≤ xc := by
            rcases fresh_form hx with ⟨h0, _⟩ | ⟨g, cap, hv, _, _, h3, _⟩
            · cases h0
            · injection hv with _ h5 h6
              rw [natI_length, HXL.out] at h3
              omega
          obtain ⟨mc, hmc⟩ : ∃ mc, cp2 f = mc := ⟨_, rfl⟩
          rw [hmc] at d2 hrow
          have hcm : n ≤ mc := by
            rcases fresh_form hrow with ⟨h0, _⟩ | ⟨g, cap, hv, _, _, h3, _⟩
            · cases h0
            · injection hv with _ h5 h6
              rw [natI_length, HN.out.eq] at h3
              omega
          obtain ⟨to_, hto, hto2⟩ : ∃ to_ : Nat, min (n : Int) ((at_ : Int) + 8) = (to_ : Int) ∧ min n (at_ + 8) = to_ := ⟨min n (at_ + 8), by omega, rfl⟩
          have hto3 : at_ ≤ to_ ∧ to_ ≤ n ∧ to_ ≤ at_ + 8 ∧ at_ < to_ := by omega
          rw [hto2] at HHS
          have HX7 := Lib.hid hx
          have HM7 := Lib.hid hrow
          have HRM7 := Lib.hid hr7
          obtain ⟨X, hX⟩ : ∃ X, bytesN (strN rotS) (subL (s2.B f) at_ (to_ - at_)) = X := ⟨_, rfl⟩
          obtain ⟨Y, hY⟩ : ∃ Y, bytesN (strN rotS) (subL (s.B f) at_ (to_ - at_)) = Y := ⟨_, rfl⟩
          have hXY := HHS.out.ne
          rw [hX, hY] at hXY
          have CX : Hid (∀ W, Below w7.heap.size w7 W → Calls Try.prog 30 #[.string ⟨#[114, 111, 116]⟩, .slice (some ⟨gx, at_, none⟩) (to_ - at_) (xc - at_)] W fun e w' => e = .returned (.int .u64 (X : Int)) ∧ Below W.heap.size W w') := Lib.hid (fun W hbw => by
            have h := bytes_any rotS (.slice (some ⟨gx, at_, none⟩) (to_ - at_) (xc - at_)) (subL (s2.B f) at_ (to_ - at_)) W (by decide) (bytes_sub (fresh_keeps HX7.out hbw) HX8.out HXL.out.symm (by omega) (by rw [HXL.out]; omega)) (fun k hk => Nat.lt_of_lt_of_le (fresh_block HX7.out k hk) hbw.size) (by unfold subL; rw [List.length_take, List.length_drop]; omega)
            rw [hX] at h
            exact h)
          have CY : Hid (∀ W, Below w7.heap.size w7 W → Calls Try.prog 30 #[.string ⟨#[114, 111, 116]⟩, .slice (some ⟨gm, at_, none⟩) (to_ - at_) (mc - at_)] W fun e w' => e = .returned (.int .u64 (Y : Int)) ∧ Below W.heap.size W w') := Lib.hid (fun W hbw => by
            have h := bytes_any rotS (.slice (some ⟨gm, at_, none⟩) (to_ - at_) (mc - at_)) (subL (s.B f) at_ (to_ - at_)) W (by decide) (bytes_sub (fresh_keeps HM7.out hbw) HM8.out HN.out.eq.symm (by omega) (by rw [HN.out.eq]; omega)) (fun k hk => Nat.lt_of_lt_of_le (fresh_block HM7.out k hk) hbw.size) (by unfold subL; rw [List.length_take, List.length_drop]; omega)
            rw [hY] at h
            exact h)
          have D7 : Hid (∀ W, Below w7.heap.size w7 W → W.cell? ⟨m, 1, none⟩ = some (.slice (some ⟨bb2, 0, none⟩) 64 64) ∧ W.cell? ⟨bb2, f, none⟩ = some (.slice (some ⟨gm, 0, none⟩) n mc)) := Lib.hid (fun W hbw => by
            have h := HRM7.out.below hbw
            have h1 := h.dk.cell 1
            have h2 := h.bcell (show f < 64 by omega)
            unfold slV at h2
            rw [HN.out.eq, hgm, hmc] at h2
            exact ⟨h1, h2⟩)
          have hne := eq_false hXY
          clear hto2 hx hb hr7 hrow T6 G6 B6 HRD HRM2 cz c3 hX hY HHS HX7 HM7 HX8 HM8 HXL HSON HRM7 hXY hgm hmc
          go_wp2_with fail
          have b0 : (0 : Int) ≤ (at_ : Int) := by omega
          have b1 : (at_ : Int) ≤ (to_ : Int) := by omega
          have b2 : (to_ : Int) ≤ (xc : Int) := by omega
          have b3 : (to_ : Int) ≤ (mc : Int) := by omega
          have b4 : (0 : Int) ≤ (to_ : Int) := by omega
          have b5 : ¬ (xc = at_) := by omega
          have b6 : ¬ (mc = at_) := by omega
          clear d1 d2
          go_region_held3 (fun w' : World => w'.cell? ⟨m, 1, none⟩ = some (.slice (some ⟨bb2, 0, none⟩) 64 64) ∧ w'.cell? ⟨bb2, f, none⟩ = some (.slice (some ⟨gm, 0, none⟩) n mc)) (first | exact D7.out _ (Below.refl _ w7).drew | exact D7.out _ K8.out | exact D7.out _ K9.out) (first
            | (go_at_call 30; with_reducible refine (CX.out _ (Below.refl _ w7).drew).mono ?_; rintro e w8 ⟨rfl, hb8⟩; have K8 : Hid (Below w7.heap.size w7 w8) := Lib.hid (below_then (Below.refl _ w7).drew hb8); clear hb8)
            | (go_at_call 30; with_reducible refine (CY.out _ K8.out).mono ?_; rintro e w9 ⟨rfl, hb9⟩; have K9 : Hid (Below w7.heap.size w7 w9) := Lib.hid (below_then K8.out hb9); clear hb9))
          all_goals
            have T9 : Hid (Dsk w.heap.size w9 A4 d K s2 ∧ Rsk w.heap.size w9 R m K s ∧ ∀ k, A4 k → ¬ R k) := Lib.hid ⟨T7.out.1.below K9.out, T7.out.2.1.below K9.out, T7.out.2.2⟩
            have G9 : Hid (Laid w9 gn 3 [.int .i64 bit, .int .i64 (q2 : Int)] ∧ (∀ k, A4 k → k ≠ gn) ∧ (∀ k, R k → k ≠ gn)) := Lib.hid ⟨G7.out.1.below K9.out, G7.out.2⟩
            have B9 := Lib.hid (below_cut B7.out B7.out.size K9.out)
            clear T7 G7 B7 CX CY D7 K8 K9 b0 b1 b2 b3 b4 b5 b6 hne
            have cz := HZ.out _ G9.out.1
            go_wp2_with fail
            refine (rotS_any T9.out.1.dk f (q : Int) (by omega) hzr).mono ?_
            rw [ROT.out.back]
            rintro e w10 ⟨rfl, hu⟩
            obtain ⟨A7, hd, hk, hf2, hb⟩ := T9.out.1.up hu B9.out.size
            have M7 : Hid (MadeIs w.heap.size w10 A7 R d m K s) := Lib.hid ⟨hd, T9.out.2.1.other hk (fun k h1 h2 => T9.out.2.2 k h2 h1), fun k h1 h2 => (hf2 k h1).elim (fun h3 => T9.out.2.2 k h3 h2) (fun h3 => by have := T9.out.2.1.hi k h2; omega), RMK.out⟩
            have I7 : Hid (RotI w.heap.size gn w10 A7 R d m K s bit (q2 : Int)) := Lib.hid ⟨M7.out, G9.out.1.keeps hk (fun h => G9.out.2.1 gn h rfl), fun k hk2 e => (hf2 k hk2).elim (fun h => G9.out.2.1 k h e) (fun h => by have := G9.out.1.lt; omega), G9.out.2.2⟩
            have B7 := Lib.hid (B9.out.trans hb)
            clear hu hd hk hf2 hb T9 G9 B9 cz
            go_wp2_with fail
            refine (same_any I7.out.made.dk.dk I7.out.made.rf.dk HK.out).mono ?_
            rintro e w11 ⟨rfl, hb⟩
            have I8 : Hid (RotI w.heap.size gn w11 A7 R d m K s bit (q2 : Int)) := Lib.hid ⟨⟨M7.out.dk.below hb, M7.out.rf.below hb, M7.out.sep, RMK.out⟩, I7.out.row.below hb, I7.out.na, I7.out.nr⟩
            have B8 := Lib.hid (below_cut B7.out B7.out.size hb)
            clear hb M7 I7 B7 hir
            go_wp2_with fail
            go_roundw
            case rel => exact ⟨i + 1, A7, by go_num, by omega, I8, B8⟩
            case measure => simp [intOf]; omega
    · obtain rfl : i = 2 := by omega
      have hff : pRot s 64 0 = (1, s) := by
        unfold pRot
        rw [OK.out.far 64 (Nat.le_refl _), if_neg (by simp)]
      have HFF := Lib.hid hff
      clear hff
      go_wp2_with fail
      refine (rotS_any I.out.made.dk.dk 64 0 (by decide) (by decide)).mono ?_
      rw [HFF.out]
      rintro e w3 ⟨rfl, hu⟩
      obtain ⟨A7, hd, hk, hf2, hb⟩ := I.out.made.dk.up hu B.out.size
      have B3 := Lib.hid (B.out.trans hb)
      clear hu hd hk hf2 hb
      go_wp2_with fail
      refine (lives5_any w3).mono ?_
      rintro e w9 ⟨rfl, hb⟩
      have B9 := Lib.hid (below_cut B3.out B3.out.size hb)
      clear hb
      go_wp2_with fail
      go_ret
      exact ⟨rfl, B9.out⟩
end Go.Proofs.Ytadnbakniibmfaa
