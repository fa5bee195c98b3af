/-
 Package wide: takeFrom, the walk.
-/
import Derived.Test.YtepakogbbomaoaaGreatDoorBgAO
namespace Go.Proofs.YtepakogbbomaoaaGreatDoor
open Go.RowKit Go.Shelf
set_option linter.unusedVariables false
set_option maxRecDepth 100000
set_option maxHeartbeats 16000000 in
theorem takeFrom_any (g off cap f : Nat) (pre x post bs : List Nat) (vb : Value) (w : World) (hw : Wds w g (pre ++ x ++ post)) (hp : pre.length = off) (hx : ∀ k ∈ x, k < 4294967296) (hb : Row .u32 w vb (natI bs)) (hbd : ∀ k ∈ bs, k < 4294967296) (hbg : bs ≠ [] → ∀ j, blockOf vb j → j ≠ g) (hl : bs.length ≤ x.length) (hxl : x.length ≤ 1000000) (hc : x.length ≤ cap) (hcm : cap ≤ 9223372036854775807) (hf : f < 4294967296) :
  Calls Tryz.prog 83 #[.slice (some ⟨g, off, none⟩) x.length cap, vb, .int .u32 (f : Int)] w (TakeEnd g pre x post (f * valDW bs) w) := by
 obtain ⟨ab, cb, rfl, hcb, hcbm⟩ := row_formW hb
 have HB := Lib.hid hb
 have HBD := Lib.hid hbd
 have HBG := Lib.hid hbg
 have HX := Lib.hid hx
 have HP := Lib.hid hp
 have HW := Lib.hid hw
 have hgs := hw.lt
 clear hb hbd hbg hx hw hp
 go_enter Tryz.func83, Tryz.ntmps83
 go_wp2_with fail
 refine (carrying_any w).mono ?_
 rintro e w3 ⟨rfl, hw3⟩
 have hs3 : w3.heap.size = w.heap.size + 1 := by rw [hw3]; simp
 have HL3 : Hid (Laid w3 w.heap.size 60 [.int .u64 ((0 : Nat) : Int)]) := Lib.hid (by rw [hw3]; exact Laid.new _ _ _)
 have HK3 : Hid (Keeps (fun k => k = g) w w3) := Lib.hid (by rw [hw3]; exact (Keeps.refl _ _).alloc _)
 have HW3 : Hid (Wds w3 g (pre ++ x ++ post)) := Lib.hid (by rw [hw3]; exact HW.out.keeps ((Keeps.refl (fun _ => False) _).alloc _) (fun h => h))
 clear hw3 HW
 go_wp2_with fail
 refine (carryingI_any w3).mono ?_
 rintro e w4 ⟨rfl, hw4⟩
 have HL4 : Hid (Laid w4 w.heap.size 60 [.int .u64 ((0 : Nat) : Int)]) := Lib.hid (by rw [hw4]; exact HL3.out.below ((Below.refl _ _).alloc (Nat.le_refl _) _))
 have HM4 : Hid (Laid w4 (w.heap.size + 1) 2 [.int .i64 0]) := Lib.hid (by rw [hw4, ← hs3]; exact Laid.new _ _ _)
 have HK4 : Hid (Keeps (fun k => k = g) w w4) := Lib.hid (by rw [hw4]; exact HK3.out.alloc _)
 have HW4 : Hid (Wds w4 g (pre ++ x ++ post)) := Lib.hid (by rw [hw4]; exact HW3.out.keeps ((Keeps.refl (fun _ => False) _).alloc _) (fun h => h))
 try rw [hs3]
 clear hw4 hs3 HL3 HK3 HW3
 generalize hb2 : w.heap.size + 1 = b2 at *
 generalize hb1 : w.heap.size = b1 at *
 go_wp2_with fail
 go_loopw [9, 10, 16] (fun _ _ iv wr => ∃ (i m : Nat) (br : Int) (out : List Nat), iv = .int .i64 (i : Int) ∧ i ≤ bs.length ∧ m < 4294967296 ∧ -1 ≤ br ∧ br ≤ 0 ∧ Hid (out.length = x.length) ∧ Hid ((valDW out : Int) + (4294967296 : Int) ^ i * (br - (m : Int)) = (valDW x : Int) - (f : Int) * (valDW (bs.take i) : Int)) ∧ Hid (∀ k ∈ out, k < 4294967296) ∧ Hid (Wds wr g (pre ++ out ++ post)) ∧ Hid (Laid wr b1 60 [.int .u64 (m : Int)]) ∧ Hid (Laid wr b2 2 [.int .i64 br]) ∧ Hid (Keeps (fun k => k = g) w wr)) (fun _ _ iv _ => ((bs.length : Int) - intOf iv).toNat)
 case atStart => exact ⟨0, 0, 0, x, rfl, Nat.zero_le _, by decide, by decide, by decide, Lib.hid rfl, Lib.hid (by simp [valDW]), HX, HW4, HL4, HM4, HK4⟩
 case round =>
  obtain ⟨i, m, br, out, rfl, hil, hm, hbr1, hbr2, HOL, HVAL, HDO, HF, HL, HM, HK⟩ := hrel
  clear HW4 HL4 HM4 HK4
  rcases Nat.lt_or_ge i bs.length with h | h
  ·obtain ⟨b, ob, rfl, hc0⟩ := row_elemW HB.out h
   have hc1 := HK.out.cell hc0 (HBG.out (fun e => by rw [e] at h; simp at h) b rfl)
   have hy := atD_ltW HBD.out i
   have hio : i < out.length := by rw [HOL.out]; omega
   have hco := HF.out.mid HP.out hio
   have ho := atD_ltW HDO.out i
   have HT := Lib.hid (valD_take_atW bs i)
   have HSTEP := Lib.hid (fun (z : Nat) (lo m' br' P : Int) => take_step (z := z) (lo := lo) (m' := m') (br' := br') (P := P) hio HVAL.out)
   have hi0 : (0 : Int) ≤ (i : Int) := by omega
   have hix : (i : Int) < (x.length : Int) := by omega
   have g4 := HF.out.frozen (off + i)
   generalize atDW bs i = y at *
   generalize hoo : atDW out i = o at *
   obtain ⟨P, hP⟩ : ∃ P, P = f * y := ⟨_, rfl⟩
   have hPi : (f : Int) * (y : Int) = (P : Int) := by rw [hP]; simp
   have hPl : P ≤ 18446744065119617025 := by rw [hP]; exact mul_ltW hf hy
   have hsc : P + m < 18446744073709551616 := by omega
   obtain ⟨lo, hlo⟩ : ∃ lo, (P + m) % 4294967296 = lo := ⟨_, rfl⟩
   obtain ⟨m2, hm2⟩ : ∃ m2, (P + m) / 4294967296 = m2 := ⟨_, rfl⟩
   have hlol : lo < 4294967296 := by omega
   have hm2l : m2 < 4294967296 := by omega
   have HLM : Hid (lo + 4294967296 * m2 = P + m) := Lib.hid (by omega)
   have HP2 := Lib.hid hP
   have HOO := Lib.hid hoo
   have HL1 : Hid (Laid wr.drew b1 60 [.int .u64 (m : Int)]) := Lib.hid HL.out
   have HCS := Lib.hid (carry_step P m b1 wr.drew hsc HL1.out)
   unfold CarryEnd at HCS
   rw [hlo, hm2] at HCS
   have hsi : -9223372036854775808 ≤ (o : Int) - (lo : Int) + br ∧ (o : Int) - (lo : Int) + br ≤ 9223372036854775807 := by omega
   obtain ⟨z, hz⟩ : ∃ z : Nat, ((o : Int) - (lo : Int) + br) % 4294967296 = (z : Int) := ⟨(((o : Int) - (lo : Int) + br) % 4294967296).toNat, by omega⟩
   obtain ⟨br2, hbr⟩ : ∃ br2, ((o : Int) - (lo : Int) + br) / 4294967296 = br2 := ⟨_, rfl⟩
   have HBR : Hid ((z : Int) + 4294967296 * br2 = (o : Int) - (lo : Int) + br) := Lib.hid (by omega)
   have hbr3 : -1 ≤ br2 := by omega
   have hbr4 : br2 ≤ 0 := by omega
   have hzl : z < 4294967296 := by omega
   have HCI : Hid (∀ w5, Laid w5 b2 2 [.int .i64 br] → Calls Tryz.prog 131 #[.int .i64 ((o : Int) - (lo : Int)), .pointer (some ⟨b2, 0, none⟩)] w5 (fun e w' => e = .returned (.int .u32 (z : Int)) ∧ Laid w' b2 2 [.int .i64 br2] ∧ Keeps (fun k => k = b2) w5 w')) := Lib.hid (fun w5 h5 => by
    have := carryI_step ((o : Int) - (lo : Int)) br b2 w5 hsi h5
    unfold CarryEndI at this
    rw [hz, hbr] at this
    exact this)
   have hco1 : wr.drew.cell? ⟨g, off + i, none⟩ = some (.int .u32 (o : Int)) := hco
   have KEEP1 : Hid (∀ w5, Keeps (fun k => k = b1) wr.drew w5 → w5.cell? ⟨g, off + i, none⟩ = some (.int .u32 (o : Int)) ∧ Laid w5 b2 2 [.int .i64 br] ∧ Wds w5 g (pre ++ out ++ post) ∧ Keeps (fun k => k = g) w w5) := Lib.hid (fun w5 h5 =>
    ⟨h5.cell hco1 (by show ¬ g = b1; omega), (show Laid wr.drew b2 _ _ from HM.out).keeps h5 (by omega), (show Wds wr.drew g _ from HF.out).keeps h5 (by omega), HK.out.drew.also h5 (by intro k h1 h2; omega)⟩)
   have KEEP2 : Hid (∀ w5 w6, Laid w5 b1 60 [.int .u64 (m2 : Int)] → Wds w5 g (pre ++ out ++ post) → Keeps (fun k => k = g) w w5 → Keeps (fun k => k = b2) w5 w6 → w6.frozen? ⟨g, off + i, none⟩ = false ∧ w6.cell? ⟨g, off + i, none⟩ = some (.int .u32 (o : Int)) ∧ Laid w6 b1 60 [.int .u64 (m2 : Int)] ∧ Wds w6 g (pre ++ out ++ post) ∧ Keeps (fun k => k = g) w w6) := Lib.hid (fun w5 w6 h1 h2 h3 h4 => by
    have h5 := h2.keeps h4 (by omega)
    exact ⟨h5.frozen _, by rw [h5.mid HP.out hio, HOO.out], h1.keeps h4 (by omega), h5, h3.also h4 (by intro k h6 h7; omega)⟩)
   have HIO := Lib.hid hio
   have HV2 : Hid ((valDW (out.set i z) : Int) + (4294967296 : Int) ^ (i + 1) * (br2 - (m2 : Int)) = (valDW x : Int) - (f : Int) * (valDW (bs.take (i + 1)) : Int)) := Lib.hid (by
    have h1 := HSTEP.out z lo m2 br2 P HBR.out (by have := HLM.out; omega)
    have h2 : ((valDW (bs.take (i + 1)) : Nat) : Int) = (valDW (bs.take i) : Int) + (4294967296 : Int) ^ i * (y : Int) := by rw [HT.out]; simp
    rw [h1, h2, Int.mul_add, ← hPi, Int.mul_left_comm (f : Int)]
    generalize (f : Int) * (valDW (bs.take i) : Int) = a1
    generalize (4294967296 : Int) ^ i * ((f : Int) * (y : Int)) = a2
    omega)
   have HIL := Lib.hid h
   have q1 : IntKind.u64.wrap (f : Int) = (f : Int) := by rw [IntKind.wrap_u64]; omega
   have q2 : IntKind.u64.wrap (y : Int) = (y : Int) := by rw [IntKind.wrap_u64]; omega
   have q3 : IntKind.u64.wrap (P : Int) = (P : Int) := by rw [IntKind.wrap_u64]; omega
   have q4 : IntKind.i64.wrap (o : Int) = (o : Int) := by rw [wrap_i64]; unfold wrap64; omega
   have q5 : IntKind.i64.wrap (lo : Int) = (lo : Int) := by rw [wrap_i64]; unfold wrap64; omega
   have q6 : IntKind.i64.wrap ((o : Int) - (lo : Int)) = (o : Int) - (lo : Int) := by rw [wrap_i64]; unfold wrap64; omega
   clear hc0 hP hoo hsi hz hbr hPl hsc hlo hm2 hio
   go_wp2_with fail
   go_region_with (first
    | (go_at_call 130; refine HCS.out.mono ?_; rintro e w5 ⟨rfl, hl5, hk5⟩; obtain ⟨k1, k2, k3, k4⟩ := KEEP1.out w5 hk5; have HL5 := Lib.hid hl5; have HM5 := Lib.hid k2; have HF5 := Lib.hid k3; have HK5 := Lib.hid k4; clear k2 k3 k4 hl5 hk5)
    | (go_at_call 131; refine (HCI.out _ HM5.out).mono ?_; rintro e w6 ⟨rfl, hl6, hk6⟩; obtain ⟨j1, j2, j3, j4, j5⟩ := KEEP2.out _ w6 HL5.out HF5.out HK5.out hk6; have HM6 := Lib.hid hl6; have HL6 := Lib.hid j3; have HF6 := Lib.hid j4; have HK6 := Lib.hid j5; clear j3 j4 j5 hl6 hk6))
   all_goals
    have HS6 := Lib.hid (keeps_set w6 g (off + i) (.int .u32 (z : Int)))
    have HF7 := Lib.hid (HF6.out.midSet HP.out HIO.out z)
    clear KEEP1 KEEP2 HCI HCS HSTEP
    go_wp2_with fail
    go_roundw
    case rel => exact ⟨i + 1, m2, br2, out.set i z, by go_num, by have := HIL.out; omega, hm2l, hbr3, hbr4, Lib.hid (by rw [List.length_set]; exact HOL.out), HV2, Lib.hid (set_ltW HDO.out hzl _), HF7, Lib.hid (HL6.out.keeps HS6.out (by omega)), Lib.hid (HM6.out.keeps HS6.out (by omega)), Lib.hid (HK6.out.also HS6.out (by intro k h1 h2; exact h2))⟩
    case measure => have := HIL.out; simp [intOf] <;> omega
  ·have e : i = bs.length := by omega
   subst e
   rw [List.take_length] at HVAL
   have HLB := Lib.hid (Nat.le_trans hl (Nat.le_refl _))
   clear HB HBG
   go_wp2_with fail
   go_loopw [11] (fun iv wr => ∃ (i m : Nat) (br : Int) (out : List Nat), iv = .int .i64 (i : Int) ∧ i ≤ x.length ∧ m < 4294967296 ∧ -1 ≤ br ∧ br ≤ 0 ∧ Hid (out.length = x.length) ∧ Hid ((valDW out : Int) + (4294967296 : Int) ^ i * (br - (m : Int)) = (valDW x : Int) - (f : Int) * (valDW bs : Int)) ∧ Hid (∀ k ∈ out, k < 4294967296) ∧ Hid (Wds wr g (pre ++ out ++ post)) ∧ Hid (Laid wr b1 60 [.int .u64 (m : Int)]) ∧ Hid (Laid wr b2 2 [.int .i64 br]) ∧ Hid (Keeps (fun k => k = g) w wr)) (fun iv _ => ((x.length : Int) - intOf iv).toNat)
   case atStart => exact ⟨bs.length, m, br, out, rfl, hl, hm, hbr1, hbr2, HOL, HVAL, HDO, HF, HL, HM, HK⟩
   case round =>
    clear HOL HVAL HDO HF HL HM HK hm hbr1 hbr2
    obtain ⟨i, m, br, out, rfl, hil, hm, hbr1, hbr2, HOL, HVAL, HDO, HF, HL, HM, HK⟩ := hrel
    rcases Nat.lt_or_ge i x.length with h2 | h2
    ·have hio : i < out.length := by rw [HOL.out]; omega
     have hco := HF.out.mid HP.out hio
     have ho := atD_ltW HDO.out i
     have HSTEP := Lib.hid (fun (z : Nat) (lo m' br' P : Int) => take_step (z := z) (lo := lo) (m' := m') (br' := br') (P := P) hio HVAL.out)
     have hi0 : (0 : Int) ≤ (i : Int) := by omega
     have hix : (i : Int) < (x.length : Int) := by omega
     have g4 := HF.out.frozen (off + i)
     generalize hoo : atDW out i = o at *
     have HOO := Lib.hid hoo
     have HL1 : Hid (Laid wr.drew b1 60 [.int .u64 (m : Int)]) := Lib.hid HL.out
     have HCS := Lib.hid (carry_step 0 m b1 wr.drew (by omega) HL1.out)
     unfold CarryEnd at HCS
     rw [Nat.zero_add, show m % 4294967296 = m by omega, show m / 4294967296 = 0 by omega, show ((0 : Nat) : Int) = 0 from rfl] at HCS
     have hsi : -9223372036854775808 ≤ (o : Int) - (m : Int) + br ∧ (o : Int) - (m : Int) + br ≤ 9223372036854775807 := by omega
     obtain ⟨z, hz⟩ : ∃ z : Nat, ((o : Int) - (m : Int) + br) % 4294967296 = (z : Int) := ⟨(((o : Int) - (m : Int) + br) % 4294967296).toNat, by omega⟩
     obtain ⟨br2, hbr⟩ : ∃ br2, ((o : Int) - (m : Int) + br) / 4294967296 = br2 := ⟨_, rfl⟩
     have HBR : Hid ((z : Int) + 4294967296 * br2 = (o : Int) - (m : Int) + br) := Lib.hid (by omega)
     have hbr3 : -1 ≤ br2 := by omega
     have hbr4 : br2 ≤ 0 := by omega
     have hzl : z < 4294967296 := by omega
     have HCI : Hid (∀ w5, Laid w5 b2 2 [.int .i64 br] → Calls Tryz.prog 131 #[.int .i64 ((o : Int) - (m : Int)), .pointer (some ⟨b2, 0, none⟩)] w5 (fun e w' => e = .returned (.int .u32 (z : Int)) ∧ Laid w' b2 2 [.int .i64 br2] ∧ Keeps (fun k => k = b2) w5 w')) := Lib.hid (fun w5 h5 => by
      have := carryI_step ((o : Int) - (m : Int)) br b2 w5 hsi h5
      unfold CarryEndI at this
      rw [hz, hbr] at this
      exact this)
     have hco1 : wr.drew.cell? ⟨g, off + i, none⟩ = some (.int .u32 (o : Int)) := hco
     have KEEP1 : Hid (∀ w5, Keeps (fun k => k = b1) wr.drew w5 → w5.cell? ⟨g, off + i, none⟩ = some (.int .u32 (o : Int)) ∧ Laid w5 b2 2 [.int .i64 br] ∧ Wds w5 g (pre ++ out ++ post) ∧ Keeps (fun k => k = g) w w5) := Lib.hid (fun w5 h5 =>
      ⟨h5.cell hco1 (by show ¬ g = b1; omega), (show Laid wr.drew b2 _ _ from HM.out).keeps h5 (by omega), (show Wds wr.drew g _ from HF.out).keeps h5 (by omega), HK.out.drew.also h5 (by intro k h1 h2; omega)⟩)
     have KEEP2 : Hid (∀ w5 w6, Laid w5 b1 60 [.int .u64 0] → Wds w5 g (pre ++ out ++ post) → Keeps (fun k => k = g) w w5 → Keeps (fun k => k = b2) w5 w6 → w6.frozen? ⟨g, off + i, none⟩ = false ∧ w6.cell? ⟨g, off + i, none⟩ = some (.int .u32 (o : Int)) ∧ Laid w6 b1 60 [.int .u64 0] ∧ Wds w6 g (pre ++ out ++ post) ∧ Keeps (fun k => k = g) w w6) := Lib.hid (fun w5 w6 h1 h2 h3 h4 => by
      have h5 := h2.keeps h4 (by omega)
      exact ⟨h5.frozen _, by rw [h5.mid HP.out hio, HOO.out], h1.keeps h4 (by omega), h5, h3.also h4 (by intro k h6 h7; omega)⟩)
     have HIO := Lib.hid hio
     have HV2 : Hid ((valDW (out.set i z) : Int) + (4294967296 : Int) ^ (i + 1) * (br2 - ((0 : Nat) : Int)) = (valDW x : Int) - (f : Int) * (valDW bs : Int)) := Lib.hid (by
      have h1 := HSTEP.out z m 0 br2 0 HBR.out (by omega)
      simpa using h1)
     have q4 : IntKind.i64.wrap (o : Int) = (o : Int) := by rw [wrap_i64]; unfold wrap64; omega
     have q5 : IntKind.i64.wrap (m : Int) = (m : Int) := by rw [wrap_i64]; unfold wrap64; omega
     have q6 : IntKind.i64.wrap ((o : Int) - (m : Int)) = (o : Int) - (m : Int) := by rw [wrap_i64]; unfold wrap64; omega
     have HIL := Lib.hid h2
     clear hoo hsi hz hbr hio
     go_wp2_with fail
     go_region_with (first
      | (go_at_call 130; refine HCS.out.mono ?_; rintro e w5 ⟨rfl, hl5, hk5⟩; obtain ⟨k1, k2, k3, k4⟩ := KEEP1.out w5 hk5; have HL5 := Lib.hid hl5; have HM5 := Lib.hid k2; have HF5 := Lib.hid k3; have HK5 := Lib.hid k4; clear k2 k3 k4 hl5 hk5)
      | (go_at_call 131; refine (HCI.out _ HM5.out).mono ?_; rintro e w6 ⟨rfl, hl6, hk6⟩; obtain ⟨j1, j2, j3, j4, j5⟩ := KEEP2.out _ w6 HL5.out HF5.out HK5.out hk6; have HM6 := Lib.hid hl6; have HL6 := Lib.hid j3; have HF6 := Lib.hid j4; have HK6 := Lib.hid j5; clear j3 j4 j5 hl6 hk6))
     all_goals
      have HS6 := Lib.hid (keeps_set w6 g (off + i) (.int .u32 (z : Int)))
      have HF7 := Lib.hid (HF6.out.midSet HP.out HIO.out z)
      clear KEEP1 KEEP2 HCI HCS HSTEP
      go_wp2_with fail
      go_roundw
      case rel => exact ⟨i + 1, 0, br2, out.set i z, by go_num, by have := HIL.out; omega, by decide, hbr3, hbr4, Lib.hid (by rw [List.length_set]; exact HOL.out), HV2, Lib.hid (set_ltW HDO.out hzl _), HF7, Lib.hid (HL6.out.keeps HS6.out (by omega)), Lib.hid (HM6.out.keeps HS6.out (by omega)), Lib.hid (HK6.out.also HS6.out (by intro k h1 h2; exact h2))⟩
      case measure => have := HIL.out; simp [intOf] <;> omega
    ·have e : i = x.length := by omega
     subst e
     have HTL := Lib.hid (take_less rfl HOL.out HDO.out HBD.out hl hf ⟨by omega, by omega⟩ ⟨hbr1, hbr2⟩ HVAL.out)
     have HCS := Lib.hid (carry_step 0 m b1 wr (by omega) HL.out)
     unfold CarryEnd at HCS
     rw [Nat.zero_add, show m % 4294967296 = m by omega, show ((0 : Nat) : Int) = 0 from rfl] at HCS
     have HCI : Hid (∀ w5, Laid w5 b2 2 [.int .i64 br] → Calls Tryz.prog 131 #[.int .i64 (-(m : Int)), .pointer (some ⟨b2, 0, none⟩)] w5 (CarryEndI b2 (-(m : Int) + br) w5)) := Lib.hid (fun w5 h5 => carryI_step (-(m : Int)) br b2 w5 (by omega) h5)
     unfold CarryEndI at HCI
     go_wp2_with fail
     refine HCS.out.mono ?_
     rintro e w5 ⟨rfl, hl5, hk5⟩
     have hM5 := HM.out.keeps hk5 (by omega)
     have HF5 := Lib.hid (HF.out.keeps hk5 (by omega))
     have HK5 : Hid (Keeps (fun k => k = g) w w5) := Lib.hid (HK.out.also hk5 (by intro k h1 h2; omega))
     have HCI5 := Lib.hid (HCI.out w5 hM5)
     clear hM5 hl5 hk5 HCI HCS
     go_wp2_with fail
     refine HCI5.out.mono ?_
     rintro e w6 ⟨rfl, hl6, hk6⟩
     have HF6 := Lib.hid (HF5.out.keeps hk6 (by omega))
     have HK6 : Hid (Keeps (fun k => k = g) w w6) := Lib.hid (HK5.out.also hk6 (by intro k h1 h2; omega))
     have HDEC : Hid (decide (0 < (-(m : Int) + br) % 4294967296) = decide (0 < (m - br).toNat)) := Lib.hid (by
      have := HTL.out.1
      apply decide_eq_decide.2
      omega)
     clear hl6 hk6
     go_wp2_with fail
     go_ret
     exact ⟨(m - br).toNat, out, by rw [← HDEC.out]; rfl, HTL.out.1, HOL.out, HDO.out, HTL.out.2, HF6.out, HK6.out⟩
end Go.Proofs.YtepakogbbomaoaaGreatDoor
