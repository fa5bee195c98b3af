/-
  The walk of the law WireReads.
-/
import Derived.Test.YtghilgkkpbhoiaaDevQ
namespace Go.Proofs.Ytghilgkkpbhoiaa
open Go.RowKit Go.Shelf
set_option linter.unusedVariables false

theorem rMany_length (n : Nat) : ∀ s : RS, (rMany n s).1.length = n := by
  induction n with
  | zero => intro s; rfl
  | succ n ih => intro s; show ((rInt s).1 :: (rMany n (rInt s).2).1).length = n + 1; rw [List.length_cons, ih]
theorem rLen_small2 (s : RS) : (rLen s).1 ≤ s.1.length := by
  by_cases he : (rLen s).2.2 = 0
  · exact Nat.le_trans (rLen_le s he) (rLen_suf s).length_le
  · unfold rLen at he ⊢
    split
    · exact Nat.zero_le _
    · rename_i h1
      split
      · exact Nat.zero_le _
      · rename_i h2
        rw [if_neg h1, if_neg h2] at he
        exact absurd (Decidable.not_not.1 h1) he
theorem rInts_len (s : RS) : (rInts s).1.length ≤ s.1.length := by
  unfold rInts
  split
  · exact Nat.zero_le _
  · rw [rMany_length]; exact rLen_small2 s
theorem rRead_lens (k : Int) (s : RS) : (rRead k s).1.b.length ≤ s.1.length ∧ (rRead k s).1.l.length ≤ s.1.length := by
  unfold rRead
  split
  · exact ⟨Nat.zero_le _, Nat.zero_le _⟩
  · split
    · exact ⟨Nat.zero_le _, Nat.zero_le _⟩
    · split
      · exact ⟨Nat.zero_le _, Nat.zero_le _⟩
      · split
        · exact ⟨rRaw_len s, Nat.zero_le _⟩
        · exact ⟨Nat.zero_le _, rInts_len s⟩

theorem rd_lt {W : World} {r b : Nat} {s : RS} (h : Rd W r b s) : r < W.heap.size := by
  obtain ⟨v, h1, _⟩ := h; exact h1.lt
/-- A reader of the reference, laid over a row of bytes. -/
theorem rd_new {w : World} {a : Option Addr} {cap : Nat} {l : List Nat} (h : Row .u8 w (.slice a l.length cap) (natI l)) (hp : PlainS (.slice a l.length cap)) (h8 : ∀ c ∈ l, c < 256) (hl : l.length ≤ 1000000) {b : Nat} (hb : b < w.heap.size) (hbl : ∀ j, blockOf (.slice a l.length cap) j → j = b) :
    Rd (w.alloc (.cells #[.slice a l.length cap, .int .i64 0] 47)) w.heap.size b (l, 0) := by
  refine ⟨_, Laid.new w _ _, row_keeps h ((Below.refl _ w).alloc (Nat.le_refl _) _), ⟨by omega, hbl⟩, h8, hl, hp⟩
theorem fresh_plain {B : Nat} {e : TypeId} {k : IntKind} {w : World} {v : Value} {zs : List Int} (h : Fresh B e k w v zs) : PlainS v := by
  rcases h.2 with ⟨rfl, _⟩ | ⟨g, cap, cur, rfl, _⟩
  · exact .inl rfl
  · exact .inr ⟨g, 0, _, _, rfl⟩

/-- A byte slice that is read only: plain, below a bound. -/
def Src8 (W : World) (B : Nat) (v : Value) (l : List Nat) : Prop := Row .u8 W v (natI l) ∧ PlainS v ∧ (∀ c ∈ l, c < 256) ∧ l.length ≤ 1000000 ∧ ∀ j, blockOf v j → j < B
theorem src8_of {B : Nat} {e : TypeId} {w : World} {v : Value} {zs : List Int} (h : Fresh B e .u8 w v zs) (hr : ∀ n ∈ zs, 0 ≤ n ∧ n ≤ 255) (hl : zs.length ≤ 1000000) : Src8 w w.heap.size v (toNats zs) :=
  ⟨by rw [natI_toNats hr]; exact row_of_fresh h, fresh_plain h, toNats_mem hr, by rw [toNats_length]; exact hl, fun j hj => (fresh_span h j hj).2⟩
theorem src8_below {W W2 : World} {B : Nat} {v : Value} {l : List Nat} (h : Src8 W B v l) (hb : Below W.heap.size W W2) : Src8 W2 B v l := ⟨row_keeps h.1 hb, h.2⟩
theorem src8_more {W : World} {B : Nat} {v : Value} {l : List Nat} (h : Src8 W B v l) : Src8 W (B + 1) v l := ⟨h.1, h.2.1, h.2.2.1, h.2.2.2.1, fun j hj => by have := h.2.2.2.2 j hj; omega⟩
theorem src8_block {W : World} {B : Nat} {v : Value} {l : List Nat} (h : Src8 W B v l) (hB : 0 < B) : ∃ b, b < B ∧ ∀ j, blockOf v j → j = b := by
  obtain ⟨_, hp, _, _, hb⟩ := h
  rcases hp with rfl | ⟨b, off, len, cap, rfl⟩
  · exact ⟨0, hB, fun j hj => hj.elim⟩
  · exact ⟨b, hb b rfl, fun j hj => hj⟩

set_option maxRecDepth 100000 in
set_option maxHeartbeats 8000000 in
theorem walk_WireReads (vr : Value) (raw : List Int) (v : Value) (l : List Int) (at' c : Int) (vk : Value) (kinds : List Int) (w : World) (hvr : Row .u8 w vr raw) (hr : ∀ n ∈ raw, 0 ≤ n ∧ n ≤ 255) (hv : Row .i64 w v l) (hl : ∀ n ∈ l, -9223372036854775808 ≤ n ∧ n ≤ 9223372036854775807)
    (hat : -9223372036854775808 ≤ at' ∧ at' ≤ 9223372036854775807) (hc : 0 ≤ c ∧ c ≤ 255) (hvk : Row .i64 w vk kinds) (hk : ∀ n ∈ kinds, -9223372036854775808 ≤ n ∧ n ≤ 9223372036854775807) :
    Calls Try.prog 4 #[vr, v, .int .i64 at', .int .u8 c, vk] w fun e w' => e = .returned (.bool true) ∧ Below w.heap.size w w' := by
  have HV := Lib.hid (refVals_any v l w hv hl (row_short hv))
  have HVR := Lib.hid hvr
  have HAT := Lib.hid hat
  have HC := Lib.hid hc
  have HKR := Lib.hid hk
  have HRR : Hid (∀ n ∈ raw.take 60, 0 ≤ n ∧ n ≤ 255) := Lib.hid (fun n hn => hr n (List.mem_of_mem_take hn))
  have hrl : (raw.take 60).length ≤ 60 := by simp; omega
  obtain ⟨pk, ck, rfl, hkcap, hkcm, hkne, _⟩ := hvk
  have HKN := Lib.hid hkne
  clear hv hl hvr hat hc hk hr hkne
  generalize hrs : raw.take 60 = rs at *
  have HRS := Lib.hid hrs
  clear hrs
  go_enter Try.func4, Try.ntmps4
  go_wp2_with fail
  refine HV.out.mono ?_
  rintro e w1 ⟨v1, xs, rfl, hfv, hb1, hxl, hok⟩
  have hs1 := hb1.size
  have HX8 := Lib.hid (encAll_lt (fun x hx => (hok x hx).1))
  have HXL := Lib.hid (encAll_len (fun x hx => (hok x hx).1))
  have EN := Lib.hid (refEncode_any v1 xs w1 (valRow_of_freshV hfv) (fun x hx => (hok x hx).1) (by omega))
  unfold Copies at EN
  clear hfv HV hok
  go_wp2_with fail
  refine EN.out.mono ?_
  rintro e w2 ⟨v2, rfl, hf2, hbw⟩
  have hb2 := below_foot hb1 (Keeps.of_below hbw) (by omega) (fun k hk => by omega)
  have hs2 := hbw.size
  have HZR := Lib.hid (natI_range HX8.out)
  have hzl : (natI (encAll xs)).length ≤ 160000 := by rw [natI_length]; have := HXL.out; omega
  clear hbw hb1 EN HX8 HXL
  generalize natI (encAll xs) = zs at *
  obtain ⟨a2, c2, rfl, hc2, _⟩ := fresh_elems hf2
  have HF2 := Lib.hid hf2
  clear hf2
  have L := Lib.hid (fun W => lives_any2 W)
  rcases Classical.em (0 < zs.length) with hz | hz
  obtain ⟨g2, c2', e1, hg2, hg2l, _⟩ := fresh_some HF2.out (fun h => by rw [h] at hz; simp at hz)
  obtain ⟨a2', ha2⟩ : ∃ x, x = a2 := ⟨_, rfl⟩
  obtain rfl : a2 = some ⟨g2, 0, none⟩ := by injection e1
  go_wp2_with fail
  refine (around_nat at' zs.length w2 HAT.out hz (by omega)).mono ?_
  rintro e w2b ⟨k, hk, rfl, rfl⟩
  have hcell := fresh_cell HF2.out hk
  have hfz := fresh_frozen2 HF2.out rfl k
  have HF3' := fresh_store2 HF2.out rfl k c
  have hzr := bytes_range_set HZR.out k HC.out
  generalize zs[k]?.getD 0 = old at *
  go_wp2_with fail
  obtain ⟨zt, hzt⟩ : ∃ x, x = zs.set k c := ⟨_, rfl⟩
  obtain ⟨w3, hw3⟩ : ∃ x, x = w2.setCell ⟨g2, k, none⟩ (.int .u8 c) := ⟨_, rfl⟩
  have HZT : Hid (zt.length = zs.length ∧ ∀ n ∈ zt, 0 ≤ n ∧ n ≤ 255) := Lib.hid (by rw [hzt, List.length_set]; exact ⟨rfl, hzr⟩)
  have HF3 : Hid (Fresh w1.heap.size 5 .u8 w3 (.slice a2' zs.length c2) zt) := Lib.hid (by rw [hzt, hw3, ha2]; exact HF3'.1)
  have hb3 : Below w.heap.size w w3 := by rw [hw3]; exact hb2.setCell (p := ⟨g2, k, none⟩) (by show w.heap.size ≤ g2; omega) _
  have hs3 : w2.heap.size ≤ w3.heap.size := by rw [hw3]; simp [World.setCell]
  rw [← hw3, ← ha2]
  clear hzt hw3 HF2 hb2 HZR HF3' hzr hcell hfz hg2 hg2l ha2
  rotate_left
  go_wp2_with fail
  obtain ⟨a2', ha2⟩ : ∃ x, x = a2 := ⟨_, rfl⟩
  obtain ⟨zt, hzt⟩ : ∃ x, x = zs := ⟨_, rfl⟩
  obtain ⟨w3, hw3⟩ : ∃ x, x = w2 := ⟨_, rfl⟩
  have HZT : Hid (zt.length = zs.length ∧ ∀ n ∈ zt, 0 ≤ n ∧ n ≤ 255) := Lib.hid (by rw [hzt]; exact ⟨rfl, HZR.out⟩)
  have HF3 : Hid (Fresh w1.heap.size 5 .u8 w3 (.slice a2' zs.length c2) zt) := Lib.hid (by rw [hzt, hw3, ha2]; exact HF2.out)
  have hb3 : Below w.heap.size w w3 := by rw [hw3]; exact hb2
  have hs3 : w2.heap.size ≤ w3.heap.size := by rw [hw3]; exact Nat.le_refl _
  rw [← hw3, ← ha2]
  clear hzt hw3 HF2 hb2 HZR ha2
  all_goals
    refine (refFew_any vr raw 60 w3 (row_keeps HVR.out hb3) (by decide)).mono ?_
    rintro e w4 ⟨v4, rfl, hf4, hbw⟩
    rw [HRS.out] at hf4
    have hb4 := below_foot hb3 (Keeps.of_below hbw) (by omega) (fun k hk => by omega)
    have hs4 := hbw.size
    obtain ⟨a4, c4, rfl, _, _⟩ := fresh_elems hf4
    have hF5 := fresh_keeps HF3.out hbw
    have hS1 := src8_of hf4 HRR.out (by omega)
    have hS2 := src8_of hF5 HZT.out.2 (by have := HZT.out.1; omega)
    have hbA : Below w4.heap.size w4 (w4.alloc (.cells #[.slice a4 rs.length c4, .slice a2' zs.length c2] 24)) := (Below.refl _ w4).alloc (Nat.le_refl _) _
    have hGA := Laid.new w4 24 [.slice a4 rs.length c4, .slice a2' zs.length c2]
    have hbW := below_foot hb4 (Keeps.of_below hbA) (by omega) (fun k hk => by omega)
    have hsA : (w4.alloc (.cells #[.slice a4 rs.length c4, .slice a2' zs.length c2] 24)).heap.size = w4.heap.size + 1 := by simp
    have HPICK : Hid (∀ i : Nat, i < 2 → ∃ ai ci li, (w4.alloc (.cells #[.slice a4 rs.length c4, .slice a2' zs.length c2] 24)).cell? ⟨w4.heap.size, i, none⟩ = some (.slice ai (List.length li) ci) ∧ Src8 (w4.alloc (.cells #[.slice a4 rs.length c4, .slice a2' zs.length c2] 24)) (w4.heap.size + 1) (.slice ai (List.length li) ci) li) := by
      refine Lib.hid fun i hi => ?_
      rcases (by omega : i = 0 ∨ i = 1) with rfl | rfl
      · refine ⟨a4, c4, toNats rs, ?_, ?_⟩
        · rw [toNats_length]; exact hGA.cell 0
        · rw [toNats_length]; exact src8_more (src8_below hS1 hbA)
      · refine ⟨a2', c2, toNats zt, ?_, ?_⟩
        · rw [toNats_length, HZT.out.1]; exact hGA.cell 1
        · rw [toNats_length, HZT.out.1]; exact src8_more (src8_below hS2 hbA)
    clear hbw hf4 hF5 hS1 hS2 hbA hGA HF3 HZT hb4 hb3
    go_wp2_with fail
    generalize w4.alloc (.cells #[.slice a4 rs.length c4, .slice a2' zs.length c2] 24) = wA at *
    go_loopw [13] (fun iv wo => ∃ i : Nat, i ≤ 2 ∧ iv = .int .i64 (i : Int) ∧ Below wA.heap.size wA wo) (fun iv _ => 2 - (intOf iv).toNat)
    case atStart => exact ⟨0, by decide, rfl, Below.refl _ _⟩
    case round =>
      obtain ⟨i, hi, rfl, hbo⟩ := hrel
      obtain ⟨wo, rfl⟩ : ∃ x, x = wr := ⟨_, rfl⟩
      by_cases hi2 : i < 2
      · obtain ⟨ai, ci, li, hci, hsrc⟩ := HPICK.out i hi2
        have hci2 := (hbo.cell (p := ⟨w4.heap.size, i, none⟩) (by show w4.heap.size < wA.heap.size; omega)).trans hci
        have HSRC := Lib.hid (src8_below hsrc hbo)
        have hso := hbo.size
        clear hci hsrc
        go_wp2_with fail
        refine (devRead_any (.slice ai li.length ci) li wo HSRC.out.1 HSRC.out.2.2.1 HSRC.out.2.2.2.1).mono ?_
        rintro e w5 ⟨r, b, rfl, hr5, hrB, hbB, hbl, hbw⟩
        have hb5 : Below wA.heap.size wA w5 := below_then hbo hbw
        have hci5 := (hbw.cell (p := ⟨w4.heap.size, i, none⟩) (by show w4.heap.size < wo.heap.size; omega)).trans hci2
        have hS5 := src8_below HSRC.out hbw
        have hs5 := hbw.size
        obtain ⟨bb, hbb, hbbl⟩ := src8_block hS5 (by omega)
        have HRD := Lib.hid (rd_new hS5.1 hS5.2.1 hS5.2.2.1 hS5.2.2.2.1 (b := bb) (by omega) hbbl)
        have hbR : Below w5.heap.size w5 (w5.alloc (.cells #[.slice ai li.length ci, .int .i64 0] 47)) := (Below.refl _ w5).alloc (Nat.le_refl _) _
        have HRX := Lib.hid (rx_below (rx_of hr5) hbl hbR)
        have hb6 := below_then hb5 hbR
        have hs6 : (w5.alloc (.cells #[.slice ai li.length ci, .int .i64 0] 47)).heap.size = w5.heap.size + 1 := by simp
        have hrl5 := hr5.lts
        clear hr5 hbw hb5 hS5 hbbl hbR HSRC hci2 hbo
        go_wp2_with fail
        generalize w5.alloc (.cells #[.slice ai li.length ci, .int .i64 0] 47) = w6 at *
        go_loopw [16] (fun jv wi => ∃ (k : Nat) (s : RS), k ≤ 10 ∧ k ≤ kinds.length ∧ jv = .int .i64 (k : Int) ∧ Hid (Rx wi r b s) ∧ Hid (Rd wi w5.heap.size bb s) ∧ Hid (Keeps (fun j => j = r ∨ j = w5.heap.size) w6 wi)) (fun jv _ => 10 - (intOf jv).toNat)
        case atStart => exact ⟨0, (li, 0), by decide, Nat.zero_le _, rfl, HRX, HRD, Lib.hid (Keeps.refl _ _)⟩
        case round =>
          obtain ⟨k, s, hk10, hkl, rfl, HRx, HRd, HKi⟩ := hrel
          clear HRX HRD
          have hsi := HKi.out.size
          have hbi : Below wA.heap.size wA wr := below_foot hb6 HKi.out (by omega) (fun j hj => by omega)
          by_cases hk1 : k < kinds.length
          · by_cases hk2 : k < 10
            · obtain ⟨bk, off, rfl, hck⟩ := HKN.out (fun h => by rw [h] at hk1; simp at hk1)
              have hck := hck k hk1
              have hgk : kinds[k]?.getD 0 = kinds[k] := by simp [hk1]
              rw [hgk] at hck
              have hbi2 : Below w.heap.size w wr := below_foot hbW (Keeps.of_below hbi) (by omega) (fun j hj => by omega)
              have hck := (hbi2.cell (p := ⟨bk, off + k, none⟩) (World.block_lt_of_cell? _ _ hck)).trans hck
              have HKK := Lib.hid (HKR.out kinds[k] (List.getElem_mem hk1))
              clear hgk hbi2
              generalize kinds[k] = kk at *
              go_wp2_with fail
              refine (around_any kk 6 wr HKK.out (by decide) (by decide)).mono ?_
              rintro e wr' ⟨rfl, rfl⟩
              rw [show ((6 : Nat) : Int) = 6 from rfl]
              have HLN := Lib.hid (rRead_lens (aroundI kk 6) s)
              have RD := Lib.hid (read_any r b (aroundI kk 6) s wr HRx.out HRd.out.bytes HRd.out.short (by omega))
              have RF : Hid (∀ W, Rd W w5.heap.size bb s → bb < W.heap.size → Calls Try.prog 23 #[.pointer (some ⟨w5.heap.size, 0, none⟩), .int .i64 (aroundI kk 6)] W (ReadEnd w5.heap.size bb (rRead (aroundI kk 6) s).1 (rRead (aroundI kk 6) s).2 W)) := Lib.hid (fun W h hb => refRead_any _ _ _ _ W h hb)
              unfold GotEnd at RD
              unfold ReadEnd at RF
              have hshort := HRd.out.short
              generalize (rRead (aroundI kk 6) s).1 = vv at *
              generalize (rRead (aroundI kk 6) s).2 = s2 at *
              generalize aroundI kk 6 = kd at *
              go_wp2_with fail
              refine RD.out.mono ?_
              rintro e w7 ⟨vb7, vl7, rfl, q1, q2, q3, q4, q5⟩
              have hRd7 := rd_keeps HRd.out q4 (by omega) (by omega)
              have hs7 := q4.size
              have Q1 := Lib.hid q1
              have Q2 := Lib.hid q2
              have Q3 := Lib.hid q3
              have Q4 := Lib.hid q4
              have Q5 := Lib.hid q5
              have HRd7 := Lib.hid hRd7
              clear q1 q2 q3 q4 q5 hRd7 HRd HRx RD
              go_wp2_with fail
              refine (RF.out w7 HRd7.out (by omega)).mono ?_
              rintro e w8 ⟨x8, rfl, ⟨vb8, vl8, rfl, p1, p2⟩, p3, p4⟩
              have hs8 := p4.size
              have P1 := Lib.hid p1
              have P2 := Lib.hid p2
              have P3 := Lib.hid p3
              have Q1b := Lib.hid (row_foot Q1.out p4 (fun j hj e => by have := Q5.out j (.inl hj); omega))
              have Q2b := Lib.hid (row_foot Q2.out p4 (fun j hj e => by have := Q5.out j (.inr hj); omega))
              have Q3b := Lib.hid (rx_keeps Q3.out p4 (by omega) (by omega))
              have HK8 : Hid (Keeps (fun j => j = r ∨ j = w5.heap.size) w6 w8) := Lib.hid ((HKi.out.trans (Q4.out.mono fun j _ h => .inl h)).trans (p4.mono fun j _ h => .inr h))
              clear p1 p2 p3 p4 Q1 Q2 Q3 Q4 Q5 HRd7 RF HKi
              go_wp2_with fail
              refine (refSame_any _ _ vv vv w8 ⟨vb7, vl7, rfl, Q1b.out, Q2b.out⟩ ⟨vb8, vl8, rfl, P1.out, P2.out⟩ (by have := HLN.out.1; omega) (by have := HLN.out.2; omega) (by have := HLN.out.1; omega) (by have := HLN.out.2; omega)).mono ?_
              rintro e w9 ⟨rfl, hb9⟩
              rw [decide_eq_true (rfl : vv = vv)]
              have HRx9 := Lib.hid (rx_below Q3b.out (by omega) hb9)
              have HRd9 := Lib.hid (rd_below P3.out (by omega) hb9)
              have HK9 := Lib.hid (HK8.out.trans (Keeps.of_below_size hb9))
              clear hb9 HK8 Q1b Q2b Q3b P1 P2 P3
              go_wp2_with fail
              refine (devRdEnd_any r b s2 w9 HRx9.out).mono ?_
              rintro e w9' ⟨rfl, rfl⟩
              go_wp2_with fail
              refine (refRdEnd_any w5.heap.size bb s2 w9 HRd9.out).mono ?_
              rintro e w9' ⟨rfl, rfl⟩
              have hE : (((rEnd s2 : Nat) : Int) != ((rEnd s2 : Nat) : Int)) = false := by simp
              generalize rEnd s2 = E at *
              go_wp2_with fail
              go_roundw
              case rel => exact ⟨k + 1, s2, by omega, by omega, by go_num, HRx9, HRd9, HK9⟩
              case measure => simp [intOf]; omega
            · obtain rfl : k = 10 := by omega
              go_wp2_with fail
              go_roundw
              case rel => exact ⟨i + 1, by omega, by go_num, hbi⟩
              case measure => simp [intOf]; omega
          · obtain rfl : k = kinds.length := by omega
            go_wp2_with fail
            go_roundw
            case rel => exact ⟨i + 1, by omega, by go_num, hbi⟩
            case measure => simp [intOf]; omega
      · obtain rfl : i = 2 := by omega
        have hbF := below_foot hbW (Keeps.of_below hbo) (by omega) (fun j hj => by omega)
        go_wp2_with fail
        refine (L.out wo).mono ?_
        rintro e w8 ⟨rfl, hb⟩
        have hbG := below_then hbF hb
        go_wp2_with fail
        go_ret
        exact ⟨rfl, hbG⟩
end Go.Proofs.Ytghilgkkpbhoiaa
