/-
 Package wide: numbers of two words that may have zeros ahead; shifting words to the left.
 Package wide: the long division of words.
 Package wide: divide on numbers of two words, Div.
 Package wide: divide, at all numbers: the shifts around the long division.
 Package wide: Div, by what divide does.
 Package wide: divide at all numbers, and Div.
-/
import Derived.Test.YtepakogbbomaoaaGreatDoorBgIO
import Derived.Test.YtepakogbbomaoaaGreatDoorPlaO
import Derived.Test.YtepakogbbomaoaaGreatDoorBigHO
import Derived.Deep.LoopGhost
import Derived.Deep.RegionHeld3
namespace Go.Proofs.YtepakogbbomaoaaGreatDoor
open Go.RowKit Go.Shelf
set_option linter.unusedVariables false
set_option maxRecDepth 100000
set_option maxHeartbeats 2000000 in
theorem number_raw (v : Value) (d : List Nat) (w : World) (hv : Row .u32 w v (natI d)) (hl : d.length ≤ 2) (hd : ∀ c ∈ d, c < 4294967296) :
  Calls Tryz.prog 108 #[v] w fun e w' => e = .returned (.int .u64 ((valDW d : Nat) : Int)) ∧ w = w' := by
 obtain ⟨a, cap, rfl, hcap, hcm⟩ := row_formW hv
 have HV := Lib.hid hv
 have HL := Lib.hid hd
 obtain ⟨n, hn⟩ : ∃ n, valDW d = n := ⟨_, rfl⟩
 have HN := Lib.hid hn
 clear hv hd hn
 rw [HN.out]
 go_enter Tryz.func108, Tryz.ntmps108
 go_wp2_with fail
 go_loopw [3, 4, 5, 8] (fun nv _ _ iv wr => ∃ i : Nat, iv = .int .i64 (i : Int) ∧ i ≤ d.length ∧ nv = .int .u64 ((valDW (d.take i) : Nat) : Int) ∧ w = wr) (fun _ _ _ iv _ => ((d.length : Int) - intOf iv).toNat)
 case atStart => exact ⟨0, rfl, Nat.zero_le _, by simp [valDW], rfl⟩
 case round =>
  obtain ⟨i, rfl, hi, rfl, rfl⟩ := hrel
  rcases Nat.lt_or_ge i d.length with h | h
  ·obtain ⟨b, off, rfl, hc⟩ := row_elemW HV.out h
   have hx := atD_ltW HL.out i
   have hT := valD_take_atW d i
   have hi0 : (0 : Int) ≤ (i : Int) := by omega
   generalize atDW d i = x at *
   rcases (by omega : i = 0 ∨ i = 1) with hi1 | hi1
   ·subst hi1
    have h1 : bits .or .u64 0 (x : Int) = (x : Int) := by rw [show (0 : Int) = ((0 : Nat) : Int) from rfl, bits_or_u64_nat _ _ (by decide) (by omega), Nat.zero_or]
    rw [Nat.add_zero] at hc
    rw [List.take_zero, show ((valDW [] : Nat) : Int) = 0 from rfl]
    rw [List.take_zero, Nat.pow_zero, Nat.one_mul, show valDW [] = 0 from rfl, Nat.zero_add] at hT
    go_wp2_with fail
    go_roundw
    case rel => exact ⟨1, rfl, by omega, by simp [hT], trivial⟩
    case measure => simp [intOf] <;> omega
   ·subst hi1
    have hT0 : valDW (d.take 1) < 4294967296 := by
     have := valD_ltW (d := d.take 1) (fun c hc => HL.out c (List.mem_of_mem_take hc))
     rw [List.length_take, Nat.min_eq_left (by omega)] at this
     simpa using this
    generalize valDW (d.take 1) = y at *
    have h1 : bits .or .u64 (y : Int) ((x : Int) * 4294967296) = ((y + 4294967296 ^ 1 * x : Nat) : Int) := by
     rw [show (x : Int) * 4294967296 = ((2 ^ 32 * x : Nat) : Int) by omega, bits_or_u64_nat _ _ (by omega) (by omega), Nat.or_comm, ← Nat.two_pow_add_eq_or_of_lt (by simpa using hT0)]
     omega
    go_wp2_with fail
    go_roundw
    case rel => exact ⟨2, rfl, by omega, by simp [hT], trivial⟩
    case measure => simp [intOf] <;> omega
  ·have e : i = d.length := by omega
   subst e
   go_wp2_with fail
   go_ret
   exact ⟨by rw [List.take_length, HN.out]; rfl, rfl⟩
def ShlEnd (n L s : Nat) (w : World) (e : Ending) (w' : World) : Prop := ∃ out, e = .returned (.slice (some ⟨w.heap.size, 0, none⟩) (L + 1) (L + 1)) ∧ out.length = L + 1 ∧ (∀ c ∈ out, c < 4294967296) ∧ valDW out = n * 2 ^ s ∧ Wds w' w.heap.size out ∧ Below w.heap.size w w'
set_option maxHeartbeats 8000000 in
theorem shiftedLeft_any (v : Value) (n s : Nat) (w : World) (hv : Row .u32 w v (natI (digsW n))) (hs : s ≤ 31) (hl : (digsW n).length ≤ 900000) :
  Calls Tryz.prog 127 #[v, .int .i64 (s : Int)] w (ShlEnd n (digsW n).length s w) := by
 obtain ⟨i0, hi, hz0, hz1, hz2⟩ := info_parts info_u32
 obtain ⟨a, cap, rfl, hcap, hcm⟩ := row_formW hv
 have HV := Lib.hid hv
 have HD := Lib.hid (digs_ltW n)
 have HN : Hid (valDW (digsW n) = n) := Lib.hid (valD_digsW n)
 have hf : 2 ^ s ≤ 2147483648 := Nat.pow_le_pow_right (n := 2) (by decide) hs
 have hfp : 1 ≤ 2 ^ s := Nat.one_le_two_pow
 clear hv
 generalize digsW n = d at *
 obtain ⟨f, hff⟩ : ∃ f, f = 2 ^ s := ⟨_, rfl⟩
 have HFF := Lib.hid hff
 have HFI : Hid ((2 : Int) ^ s = (f : Int)) := Lib.hid (by rw [hff]; simp)
 rw [← hff] at hf hfp
 clear hff
 go_enter Tryz.func127, Tryz.ntmps127
 go_wp2_with (at_make; go_must (refine wpList_make_fresh rfl _ _ 30 rfl w.heap.size 116 i0 .u32 4 Tryz.underlying30 hi hz0 hz1 hz2 (by decide) _ _ _ _ (d.length + 1) rfl rfl (by first | rfl | omega) (by first | rfl | omega) (by omega) (Nat.le_refl _) ?_); intro w3 hfr hb3 hsz3)
 have HF0 : Hid (Wds w3 w.heap.size (List.replicate (d.length + 1) 0)) := Lib.hid (Wds.of_fresh (B := w.heap.size) (by simpa [natI] using hfr))
 have HB3 := Lib.hid hb3
 have hg3 := HF0.out.lt
 clear hfr hb3 hsz3
 refine (carrying_any w3).mono ?_
 rintro e w4 ⟨rfl, hw4⟩
 have HL4 : Hid (Laid w4 w3.heap.size 60 [.int .u64 ((0 : Nat) : Int)]) := Lib.hid (by rw [hw4]; exact Laid.new _ _ _)
 have HF4 : Hid (Wds w4 w.heap.size (List.replicate (d.length + 1) 0)) := Lib.hid (by rw [hw4]; exact HF0.out.keeps ((Keeps.refl (fun _ => False) _).alloc _) (fun h => h))
 have HB4 : Hid (Below w.heap.size w w4) := Lib.hid (by rw [hw4]; exact HB3.out.alloc (by omega) _)
 clear hw4 HF0 HB3
 generalize w3.heap.size = b1 at *
 go_wp2_with fail
 go_loopw [7, 8, 16] (fun _ _ iv wr => ∃ (i c : Nat) (out : List Nat), iv = .int .i64 (i : Int) ∧ i ≤ d.length ∧ c < 4294967296 ∧ Hid (out.length = d.length + 1) ∧ Hid (valDW out + 4294967296 ^ i * c = valDW (d.take i) * f) ∧ Hid (∀ j, i ≤ j → atDW out j = 0) ∧ Hid (∀ x ∈ out, x < 4294967296) ∧ Hid (Wds wr w.heap.size out) ∧ Hid (Laid wr b1 60 [.int .u64 (c : Int)]) ∧ Hid (Below w.heap.size w wr)) (fun _ _ iv _ => ((d.length : Int) - intOf iv).toNat)
 case atStart => exact ⟨0, 0, List.replicate (d.length + 1) 0, rfl, Nat.zero_le _, by omega, Lib.hid (by simp), Lib.hid (by rw [valD_zerosW, List.take_zero]; show 0 + 4294967296 ^ 0 * 0 = 0 * f; omega), Lib.hid (fun j _ => atD_zerosW _ j), Lib.hid (fun c hc => by rw [(List.mem_replicate.1 hc).2]; decide), HF4, HL4, HB4⟩
 case round =>
  obtain ⟨i, c, out, rfl, hil, hcm2, HOL, HVAL, HZ, HDO, HF, HL, HB⟩ := hrel
  clear HF4 HL4 HB4
  rcases Nat.lt_or_ge i d.length with h | h
  ·obtain ⟨b, off, rfl, hc0⟩ := row_elemW HV.out h
   have hc := (HB.out.cell (p := ⟨b, off + i, none⟩) (World.block_lt_of_cell? _ _ hc0)).trans hc0
   have hx := atD_ltW HD.out i
   have HT := Lib.hid (valD_take_atW d i)
   have hi0 : (0 : Int) ≤ (i : Int) := by omega
   generalize atDW d i = x at *
   obtain ⟨p, hp⟩ : ∃ p, p = f * x := ⟨_, rfl⟩
   have hpl : p ≤ 9223372036854775808 := by rw [hp]; exact Nat.le_trans (Nat.mul_le_mul hf (Nat.le_of_lt hx)) (by decide)
   have hpi : IntKind.u64.wrap ((x : Int) * 2 ^ s) = (p : Int) := by
    rw [HFI.out, show (x : Int) * (f : Int) = (p : Int) by rw [hp, Int.mul_comm]; simp]
    exact wrap_u64_small (by omega) (by omega)
   have HP := Lib.hid hp
   have hsc : p + c < 18446744073709551616 := by omega
   have hq : (p + c) / 4294967296 < 4294967296 := by omega
   have HCS := Lib.hid (carry_step p c b1 _ hsc HL.out)
   clear hc0 hp
   go_wp2_with fail
   go_must (refine HCS.out.mono ?_)
   rintro e w5 ⟨rfl, hl5, hk5⟩
   have hio : i < out.length := by rw [HOL.out]; omega
   have HF5 := Lib.hid (HF.out.keeps hk5 (by omega))
   have HL5 := Lib.hid hl5
   have HB5 : Hid (Below w.heap.size w w5) := Lib.hid (HB.out.trans (hk5.below HB.out.size (by intro k hk; omega)))
   have g3 := HF5.out.cell hio
   have g4 := HF5.out.frozen i
   have HST := Lib.hid (word_step (t := p) (c := c) (s := p + c) hio HVAL.out (by rw [HZ.out i (Nat.le_refl _)]; omega))
   have hil2 : (i : Int) < (d.length : Int) + 1 := by omega
   have hzl : (p + c) % 4294967296 < 4294967296 := Nat.mod_lt _ (by decide)
   generalize (p + c) % 4294967296 = z at *
   generalize (p + c) / 4294967296 = q at *
   generalize atDW out i = o at *
   clear hl5 hk5 hio HCS hcm2 hpl hpi hsc
   have HKS := Lib.hid (keeps_set w5 w.heap.size i (.int .u32 (z : Int)))
   go_wp2_with fail
   go_roundw
   case rel => exact ⟨i + 1, q, out.set i z, by go_num, by omega, by omega, Lib.hid (by rw [List.length_set]; exact HOL.out), Lib.hid (by have := HST.out; rw [HT.out, Nat.add_mul, Nat.mul_assoc, Nat.mul_comm x f, ← HP.out]; omega), Lib.hid (fun j hj => by rw [atD_set_neW (by omega)]; exact HZ.out j (by omega)), Lib.hid (set_ltW HDO.out hzl _), Lib.hid (HF5.out.set (by rw [HOL.out]; omega) z), Lib.hid (HL5.out.keeps HKS.out (by omega)), Lib.hid (HB5.out.setCell (p := ⟨w.heap.size, i, none⟩) (Nat.le_refl _) _)⟩
   case measure => simp [intOf] <;> omega
  ·have e : i = d.length := by omega
   subst e
   have HCS := Lib.hid (carry_step 0 c b1 _ (by omega) HL.out)
   rw [Nat.zero_add, show ((0 : Nat) : Int) = 0 from rfl] at HCS
   go_wp2_with fail
   go_must (refine HCS.out.mono ?_)
   rintro e w5 ⟨rfl, hl5, hk5⟩
   have hio : d.length < out.length := by rw [HOL.out]; omega
   have HF5 := Lib.hid (HF.out.keeps hk5 (by omega))
   have HB5 : Hid (Below w.heap.size w w5) := Lib.hid (HB.out.trans (hk5.below HB.out.size (by intro k hk; omega)))
   have g3 := HF5.out.cell hio
   have g4 := HF5.out.frozen d.length
   have hz : c % 4294967296 = c := Nat.mod_eq_of_lt hcm2
   have HST : Hid (valDW (out.set d.length c) = n * f) := Lib.hid (by
    have h1 := valD_setW hio c
    rw [HZ.out _ (Nat.le_refl _)] at h1
    have h2 := HVAL.out
    rw [List.take_length, HN.out] at h2
    omega)
   rw [hz] at *
   have hil2 : (d.length : Int) < (d.length : Int) + 1 := by omega
   generalize atDW out d.length = o at *
   have HF6 := Lib.hid (HF5.out.set hio c)
   have HB6 := Lib.hid (HB5.out.setCell (p := ⟨w.heap.size, d.length, none⟩) (Nat.le_refl _) (.int .u32 (c : Int)))
   have HZL := Lib.hid (set_ltW HDO.out hcm2 d.length)
   clear hl5 hk5 hio HCS hcm2 hz
   go_wp2_with fail
   go_ret
   exact ⟨out.set d.length c, rfl, by rw [List.length_set]; exact HOL.out, HZL.out, by rw [HST.out, HFF.out], HF6.out, HB6.out⟩
theorem cut3 {R : List Nat} {i k L : Nat} (hL : R.length = L) (h : i + k ≤ L) : ∃ pre part post, R = pre ++ part ++ post ∧ pre.length = i ∧ part.length = k ∧ post.length = L - (i + k) := by
 refine ⟨R.take i, (R.drop i).take k, R.drop (i + k), ?_, ?_, ?_, ?_⟩
 ·rw [List.append_assoc, show R.drop (i + k) = (R.drop i).drop k by rw [List.drop_drop], List.take_append_drop, List.take_append_drop]
 ·rw [List.length_take]; omega
 ·rw [List.length_take, List.length_drop]; omega
 ·rw [List.length_drop]; omega
def LongEnd (g m L A D : Nat) (w : World) (e : Ending) (w' : World) : Prop :=
 ∃ Q R, e = .returned (.slice (some ⟨w.heap.size, 0, none⟩) m m) ∧ Q.length = m ∧ (∀ c ∈ Q, c < 4294967296) ∧ valDW Q = A / D ∧ R.length = L ∧ (∀ c ∈ R, c < 4294967296) ∧ valDW R = A % D ∧ Wds w' w.heap.size Q ∧ Wds w' g R ∧ Keeps (fun k => k = g) w w'
set_option maxHeartbeats 4000000 in
theorem longDivision_any (g L m cap D A : Nat) (R0 : List Nat) (vb : Value) (w : World) (hw : Wds w g R0) (hRl : R0.length = L) (hR : ∀ c ∈ R0, c < 4294967296) (hA : valDW R0 = A) (hb : Row .u32 w vb (natI (digsW D))) (hbg : ∀ j, blockOf vb j → j ≠ g) (hD : D ≠ 0) (hm : m + (digsW D).length = L) (hm1 : 1 ≤ m) (hlt : A < D * 4294967296 ^ m) (hLl : L ≤ 900000) (hc : L ≤ cap) (hcm : cap ≤ 1000000000) :
  Calls Tryz.prog 128 #[.slice (some ⟨g, 0, none⟩) L cap, vb] w (LongEnd g m L A D w) := by
 obtain ⟨i0, hi, hz0, hz1, hz2⟩ := info_parts info_u32
 obtain ⟨pd, cd, rfl, hcd, hcdm⟩ := row_formW hb
 obtain ⟨size, hsz⟩ : ∃ size, (digsW D).length = size := ⟨_, rfl⟩
 have hs1 : 1 ≤ size := by rw [← hsz]; exact digs_len_posW hD
 have hDp : 0 < D := by omega
 have HDS : Hid (D < 4294967296 ^ size) := Lib.hid (by rw [← hsz]; exact digs_len_ltW D)
 have HB := Lib.hid hb
 have HBG := Lib.hid hbg
 have hgs := hw.lt
 -- the divisor's last word
 obtain ⟨t, ht⟩ : ∃ t, atDW (digsW D) (size - 1) = t := ⟨_, rfl⟩
 have htv : t = D / 4294967296 ^ (size - 1) := by
  rw [← ht, last_div (n := size - 1) (digs_ltW D) (by omega), valD_digsW]
 have ht0 : 0 < t := by
  rw [htv]
  have := digs_len_geW hD
  rw [hsz] at this
  exact Nat.div_pos this (pow_pos4W _)
 have htl : t < 4294967296 := by rw [← ht]; exact atD_ltW (digs_ltW D) _
 have HTV := Lib.hid htv
 obtain ⟨bd, od, hpd, hcd0⟩ := row_elemW hb (show size - 1 < (digsW D).length by omega)
 rw [ht] at hcd0
 subst hpd
 have hbdg : bd ≠ g := hbg bd rfl
 have HC := Lib.hid hcd0
 have HW := Lib.hid hw
 have HR0 := Lib.hid hR
 have HA := Lib.hid hA
 have HRL := Lib.hid hRl
 have HLT := Lib.hid hlt
 rw [hsz] at hm hcd HB
 rw [show (.slice (some ⟨bd, od, none⟩) (digsW D).length cd : Value) = .slice (some ⟨bd, od, none⟩) size cd by rw [hsz]]
 clear hb hbg hw hR hA hRl hlt ht htv hcd0
 have HSZ := Lib.hid hsz
 clear hsz
 go_enter Tryz.func128, Tryz.ntmps128
 have hmi : (L : Int) - (size : Int) = (m : Int) := by omega
 go_wp2_with fail
 go_step3
 go_wp2_with (at_make; go_must (refine wpList_make_fresh rfl _ _ 30 rfl w.heap.size 116 i0 .u32 4 Tryz.underlying30 hi hz0 hz1 hz2 (by decide) _ _ _ _ m rfl rfl (by first | rfl | omega) (by first | rfl | omega) (by omega) (Nat.le_refl _) ?_); intro w3 hfr hb3 hsz3)
 have HF0 : Hid (Wds w3 w.heap.size (List.replicate m 0)) := Lib.hid (Wds.of_fresh (B := w.heap.size) (by simpa [natI] using hfr))
 have HK3 : Hid (Keeps (fun k => k = g) w w3) := Lib.hid (Keeps.of_below_size hb3)
 have HW3 : Hid (Wds w3 g R0) := Lib.hid (by obtain ⟨rest, hh⟩ := HW.out; exact ⟨rest, hh.below hb3⟩)
 clear hfr hb3 hsz3 HW
 have hgq : g < w.heap.size := hgs
 generalize hq0 : w.heap.size = gq at *
 go_wp2_with fail
 go_step3
 go_wp2_with fail
 go_loopg [7] m (fun j iv wr => ∃ (R Q : List Nat), iv = .int .i64 ((j : Int) - 1) ∧ j ≤ m ∧ Hid (R.length = L) ∧ Hid (Q.length = m) ∧ Hid (valDW R + D * (4294967296 ^ j * valDW (Q.drop j)) = A) ∧ Hid (valDW R < D * 4294967296 ^ j) ∧ Hid (∀ c ∈ R, c < 4294967296) ∧ Hid (∀ c ∈ Q, c < 4294967296) ∧ Hid (Wds wr g R) ∧ Hid (Wds wr gq Q) ∧ Hid (Keeps (fun k => k = g) w wr))
 case atStart => exact ⟨R0, List.replicate m 0, rfl, Nat.le_refl _, HRL, Lib.hid (by simp), Lib.hid (by rw [HA.out, List.drop_of_length_le (by simp)]; show A + D * (4294967296 ^ m * 0) = A; simp), Lib.hid (by rw [HA.out]; exact HLT.out), HR0, Lib.hid (fun c hc => by rw [(List.mem_replicate.1 hc).2]; decide), HW3, HF0, HK3⟩
 case round =>
  obtain ⟨R, Q, rfl, hj, HRl, HQl, HVAL, HLESS, HRd, HQd, HF, HQ, HK⟩ := hrel
  clear HW3 HF0 HK3 HR0 HA HRL HLT
  cases gk with
  | zero =>
   rw [show ((0 : Nat) : Int) - 1 = -1 from rfl]
   go_wp2_with fail
   rw [Exit.noGoto_ret]
   go_ret
   have hend := long_end (Q := valDW Q) (R := valDW R) (D := D) (A := A) (by have := HVAL.out; rwa [List.drop_zero, Nat.pow_zero, Nat.one_mul] at this) (by have := HLESS.out; rwa [Nat.pow_zero, Nat.mul_one] at this)
   exact ⟨Q, R, by rw [hq0]; rfl, HQl.out, HQd.out, hend.1, HRl.out, HRd.out, hend.2, by rw [hq0]; exact HQ.out, HF.out, HK.out⟩
  | succ i =>
   rw [show ((i + 1 : Nat) : Int) - 1 = (i : Int) by omega]
   have hi0 : (0 : Int) ≤ (i : Int) := by omega
   obtain ⟨pre, part, post, hcut, hpre, hpart, hpost⟩ := cut3 (i := i) (k := size + 1) HRl.out (by omega)
   subst hcut
   have hpred : ∀ c ∈ pre, c < 4294967296 := fun c hc => HRd.out c (by simp [hc])
   have hpartd : ∀ c ∈ part, c < 4294967296 := fun c hc => HRd.out c (by simp [hc])
   have hST := long_step hpre hpart hpred hpartd HDS.out HVAL.out HLESS.out
   obtain ⟨P, hP⟩ : ∃ P, valDW part = P := ⟨_, rfl⟩
   rw [hP] at hST
   obtain ⟨T, hT⟩ : ∃ T, valDW (part.drop (size - 1)) = T := ⟨_, rfl⟩
   have hTv : T = P / 4294967296 ^ (size - 1) := by rw [← hT, val_dropW hpartd, hP]
   have hdl : (part.drop (size - 1)).length = 2 := by rw [List.length_drop]; omega
   have hTl : T < 18446744073709551616 := by
    have := valD_ltW (d := part.drop (size - 1)) (fun c hc => hpartd c (List.mem_of_mem_drop hc))
    rw [hdl, hT] at this
    simpa using this
   obtain ⟨tq, htq⟩ : ∃ tq, T / t = tq := ⟨_, rfl⟩
   have htql : tq < 18446744073709551616 := by rw [← htq]; exact Nat.lt_of_le_of_lt (Nat.div_le_self _ _) hTl
   obtain ⟨dg, hdg⟩ : ∃ dg, min tq 4294967295 = dg := ⟨_, rfl⟩
   have hdgl : dg < 4294967296 := by omega
   have hPD : P / D < 4294967296 := (Nat.div_lt_iff_lt_mul hDp).2 (by rw [Nat.mul_comm]; exact hST.1)
   have HGE : Hid (P / D ≤ dg) := Lib.hid (by
    have h1 := est_ge (P := P) (D := D) (pow_pos4W (size - 1)) HTV.out ht0 hTv
    rw [htq] at h1
    omega)
   have HLT2 : Hid (dg * D < P + 4294967296 ^ (size + 1)) := Lib.hid (est_lt2 (s := size - 1) (by omega) HTV.out ht0 hTv htq (by omega) hdgl)
   have HST := Lib.hid hST.2
   obtain ⟨pc, hpc⟩ : ∃ pc, cap - i = pc := ⟨_, rfl⟩
   obtain ⟨s1, hs1e⟩ : ∃ s1, size = s1 + 1 := ⟨size - 1, by omega⟩
   have hpcl : size + 1 ≤ pc := by omega
   have hpcm : pc ≤ 1000000000 := by omega
   have NUM : Hid (Calls Tryz.prog 108 #[.slice (some ⟨g, i + s1, none⟩) (size + 1 - s1) (pc - s1)] wr.drew fun e w' => e = .returned (.int .u64 (T : Int)) ∧ wr.drew = w') := Lib.hid (by
    have e1 : size - 1 = s1 := by omega
    rw [e1] at hdl hT
    have hrow : Row .u32 wr.drew (.slice (some ⟨g, i + s1, none⟩) 2 (pc - s1)) (natI (part.drop s1)) := by
     have h1 : Wds wr.drew g ((pre ++ part.take s1) ++ part.drop s1 ++ post) := by
      rw [List.append_assoc pre, List.take_append_drop]
      exact HF.out
     have := h1.row (off := i + s1) (cap := pc - s1) (by rw [List.length_append, List.length_take]; omega) (by omega) (by omega)
     rwa [hdl] at this
    have := number_raw _ _ _ hrow (by omega) (fun c hc => hpartd c (List.mem_of_mem_drop hc))
    rwa [hT, show 2 = size + 1 - s1 by omega] at this)
   have hd1 : (T : Int) / (t : Int) = (tq : Int) := by rw [← htq]; simp
   have hd3 : (t : Int) ≠ 0 := by omega
   have hd4 : ¬ t = 0 := by omega
   have hmin : (if 4294967295 < (tq : Int) then 4294967295 else (tq : Int)) = (dg : Int) := by split <;> omega
   have q15 : IntKind.u64.wrap (tq : Int) = (tq : Int) := by rw [IntKind.wrap_u64]; omega
   have q14 : IntKind.u32.wrap (dg : Int) = (dg : Int) := by rw [IntKind.wrap_u32]; omega
   have q1 : IntKind.i64.wrap ((size : Int) - 1) = (s1 : Int) := by rw [wrap_i64]; unfold wrap64; omega
   have q11 : (size : Int) - 1 = (s1 : Int) := by omega
   have q12 : IntKind.i64.wrap (s1 : Int) = (s1 : Int) := by rw [wrap_i64]; unfold wrap64; omega
   have q13 : (size : Int) + 1 ≤ (pc : Int) := by omega
   have q2 : (0 : Int) ≤ (s1 : Int) := by omega
   have q3 : (s1 : Int) ≤ (size : Int) + 1 := by omega
   have q4 : (s1 : Int) < (size : Int) := by omega
   have q5 : IntKind.u64.wrap (t : Int) = (t : Int) := by rw [IntKind.wrap_u64]; omega
   have q6 : ¬ pc = s1 := by omega
   have hS0 : wr.drew.cell? ⟨bd, od + s1, none⟩ = some (.int .u32 (t : Int)) := HK.out.cell (by rw [show s1 = size - 1 by omega]; exact HC.out) hbdg
   have HS0 := Lib.hid hS0
   have HHP := Lib.hid hP
   have HPD := Lib.hid hpartd
   have hsl : i + size + 1 - i = size + 1 := by omega
   have HPC := Lib.hid hpc
   have HS1 := Lib.hid hs1e
   clear hST hP hT hTv hdl htq hpred hpartd hS0 hs1e
   go_wp2_with fail
   rw [hsl]
   clear hsl hpc
   go_region_held3 (fun w' : World => w'.cell? ⟨bd, od + s1, none⟩ = some (.int .u32 (t : Int))) (first | exact HS0.out) (first
    | (go_at_call 108; go_must (refine NUM.out.mono ?_; rintro e w5 ⟨rfl, rfl⟩)))
   try rw [q15]
   try rw [hmin]
   try rw [q14]
   clear q15
   clear q1 q11 q12 q13 q2 q3 q4 q5 q6 q14 hmin hd1 hd3 hd4
   have hpcl2 : (part.length : Nat) ≤ pc := by omega
   have TK := takeFrom_any g i pc dg pre part post (digsW D) (.slice (some ⟨bd, od, none⟩) size cd) wr.drew HF.out hpre HPD.out (row_foot HB.out HK.out.drew (fun j hj h => HBG.out j hj h)) (digs_ltW D) (fun _ j hj => HBG.out j hj) (by have := HSZ.out; omega) (by omega) hpcl2 (by omega) hdgl
   rw [valD_digsW, hpart] at TK
   unfold TakeEnd at TK
   have HTK := Lib.hid TK
   clear TK
   go_wp2_with fail
   refine HTK.out.mono ?_
   rintro e w5 ⟨d, x, rfl, hd, hxl, hxd, hxv, hx5, hk5⟩
   rw [hpart] at hxl
   rw [HHP.out, hpart] at hxv
   have HI5 := Lib.hid (neg_first hxv hxl hxd HLT2.out)
   have HF5 := Lib.hid hx5
   have HK5 : Hid (Keeps (fun k => k = g) w w5) := Lib.hid (HK.out.drew.also hk5 (by intro k h1 h2; exact h2))
   have HQ5 : Hid (Wds w5 gq Q) := Lib.hid ((show Wds wr.drew gq Q from HQ.out).keeps hk5 (by omega))
   have HX5 := Lib.hid hxd
   have HXL := Lib.hid hxl
   clear hxv hx5 hk5 hxd hxl hd HTK HF HK HQ HLT2
   go_wp2_with fail
   go_loopg [9, 10] dg (fun δ dv nv wr' => ∃ (x : List Nat) (neg : Bool), dv = .int .u32 (δ : Int) ∧ nv = .bool neg ∧ δ < 4294967296 ∧ Hid (P / D ≤ δ) ∧ Hid (x.length = size + 1) ∧ Hid (∀ k ∈ x, k < 4294967296) ∧ Hid (NegAt P D size x δ neg) ∧ Hid (Wds wr' g (pre ++ x ++ post)) ∧ Hid (Wds wr' gq Q) ∧ Hid (Keeps (fun k => k = g) w wr'))
   case atStart => exact ⟨x, decide (0 < d), rfl, rfl, hdgl, HGE, HXL, HX5, HI5, HF5, HQ5, HK5⟩
   case round =>
    clear HGE HXL HX5 HI5 HF5 HQ5 HK5 hdg hdgl
    obtain ⟨x, neg, rfl, rfl, hδ, HGE, HXL, HXD, HI, HF, HQ, HK⟩ := hrel
    cases neg with
    | false =>
     have hfin := neg_false HI.out hDp HGE.out
     have hiQ : i < Q.length := by rw [HQl.out]; omega
     have HFIN := Lib.hid (HST.out x HXL.out hfin.2)
     have HDE := Lib.hid hfin.1
     have c1 := HQ.out.cell hiQ
     have c2 := HQ.out.frozen i
     have him : (i : Int) < (m : Int) := by omega
     have HK6 : Hid (Keeps (fun k => k = g) w (wr.setCell ⟨gq, i, none⟩ (.int .u32 (gk : Int)))) := Lib.hid (by rw [← hq0]; exact keeps_own HK.out (p := ⟨w.heap.size, i, none⟩) (Nat.le_refl _) _)
     have HQ6 := Lib.hid (HQ.out.set hiQ gk)
     have HF6 := Lib.hid (HF.out.keeps (keeps_set wr gq i (.int .u32 (gk : Int))) (by show ¬ g = gq; omega))
     have HRD6 : Hid (∀ c ∈ pre ++ x ++ post, c < 4294967296) := Lib.hid (by
      intro c hc
      rcases List.mem_append.1 hc with h1 | h1
      ·rcases List.mem_append.1 h1 with h2 | h2
       ·exact HRd.out c (by simp [h2])
       ·exact HXD.out c h2
      ·exact HRd.out c (by simp [h1]))
     have HLEN6 : Hid ((pre ++ x ++ post).length = L) := Lib.hid (by
      have h1 := HRl.out
      have h2 := HXL.out
      simp only [List.length_append] at h1 ⊢
      omega)
     have HV6 : Hid (valDW (pre ++ x ++ post) + D * (4294967296 ^ i * valDW ((Q.set i gk).drop i)) = A) := Lib.hid (by
      rw [drop_setW hiQ, HDE.out]
      exact HFIN.out.1)
     have HQD6 := Lib.hid (set_ltW HQd.out hδ i)
     have HQL6 : Hid ((Q.set i gk).length = m) := Lib.hid (by rw [List.length_set]; exact HQl.out)
     clear hfin HI HGE hiQ HVAL HLESS HRl HRd
     go_wp2_with fail
     go_roundg i
     case measure => omega
     case rel => exact ⟨pre ++ x ++ post, Q.set i gk, rfl, by omega, HLEN6, HQL6, HV6, Lib.hid HFIN.out.2, HRD6, HQD6, HF6, HQ6, HK6⟩
    | true =>
     obtain ⟨p, hp, hpge⟩ := neg_true HI.out HXL.out HXD.out hDp
     subst hp
     have HPGE := Lib.hid hpge
     have AD := addTo_any g i pc pre x post (digsW D) (.slice (some ⟨bd, od, none⟩) size cd) wr HF.out hpre HXD.out (row_foot HB.out HK.out (fun j hj h => HBG.out j hj h)) (digs_ltW D) (fun _ j hj => HBG.out j hj) (by rw [HSZ.out, HXL.out]; omega) (by rw [HXL.out]; omega) (by rw [HXL.out]; omega) (by omega)
     rw [valD_digsW, HXL.out] at AD
     unfold AddEnd at AD
     have HAD := Lib.hid AD
     have hpp : ((p + 1 : Nat) : Int) - 1 = (p : Int) := by omega
     have hppl : p < 4294967296 := by omega
     have hw1 : IntKind.u32.wrap (p : Int) = (p : Int) := by rw [IntKind.wrap_u32]; omega
     clear AD hpge
     go_wp2_with fail
     go_must (refine HAD.out.mono ?_)
     rintro e w5 ⟨c, out, rfl, hc1, hol, hod, hov, hx5, hk5⟩
     have HX5 := Lib.hid hx5
     have HK5 : Hid (Keeps (fun k => k = g) w w5) := Lib.hid (HK.out.also hk5 (by intro k h1 h2; exact h2))
     have HQ5 : Hid (Wds w5 gq Q) := Lib.hid (HQ.out.keeps hk5 (by omega))
     rw [HXL.out] at hol hov
     have HI5 := Lib.hid (neg_next HI.out hov hc1)
     have HOD := Lib.hid hod
     have HOL := Lib.hid hol
     clear hx5 hk5 hov hod hol HI HAD HF HQ HK
     go_wp2_with fail
     go_roundg p
     case measure => omega
     case rel => exact ⟨out, !decide (0 < c), rfl, by simp, hppl, HPGE, HOL, HOD, HI5, HX5, HQ5, HK5⟩
def DivsEnd (a b : Nat) (w : World) (e : Ending) (w' : World) : Prop := ∃ pq mq kq pr mr kr, e = .returned (.tuple #[.slice pq mq kq, .slice pr mr kr]) ∧ Row .u32 w' (.slice pq mq kq) (natI (digsW (a / b))) ∧ Row .u32 w' (.slice pr mr kr) (natI (digsW (a % b))) ∧ Below w.heap.size w w'
set_option maxHeartbeats 4000000 in
theorem divide_less (u v : Value) (a b : Nat) (w : World) (hu : Row .u32 w u (natI (digsW a))) (hv : Row .u32 w v (natI (digsW b))) (ha : (digsW a).length ≤ 400000) (hl : (digsW a).length < (digsW b).length) :
  Calls Tryz.prog 103 #[u, v] w (DivsEnd a b w) := by
 have hlt : a < b := by
  have h1 := digs_len_ltW a
  have h2 := words_len.2 hl
  omega
 have CL := cloneW_words u a w hu (by omega)
 unfold WEnd at CL
 have HCL := Lib.hid CL
 have HQ : Hid (a / b = 0) := Lib.hid (Nat.div_eq_of_lt hlt)
 have HR : Hid (a % b = a) := Lib.hid (Nat.mod_eq_of_lt hlt)
 obtain ⟨pa, ca, rfl, _, _⟩ := row_formW hu
 obtain ⟨pb, cb, rfl, _, _⟩ := row_formW hv
 clear hu hv CL hlt
 generalize (digsW a).length = la at *
 generalize (digsW b).length = lb at *
 go_enter Tryz.func103, Tryz.ntmps103
 go_wp2_with fail
 refine HCL.out.mono ?_
 rintro e w3 ⟨a3, m3, k3, rfl, hr3, hb3⟩
 have HR3 := Lib.hid hr3
 have HB3 := Lib.hid hb3
 clear hr3 hb3
 go_wp2_with fail
 refine bodyPost_ret (v := .tuple #[.slice none 0 0, .slice a3 m3 k3]) (by simp [results, Tryz.results103, go_sem]) rfl ?_
 exact ⟨_, _, _, _, _, _, rfl, by rw [HQ.out, digs_zeroW]; exact row_none _ _, by rw [HR.out]; exact HR3.out, HB3.out⟩
set_option maxHeartbeats 4000000 in
theorem divide_short (u v : Value) (a b : Nat) (w : World) (hu : Row .u32 w u (natI (digsW a))) (hv : Row .u32 w v (natI (digsW b))) (ha : (digsW a).length ≤ 2) (hl : ¬ (digsW a).length < (digsW b).length) (hb : b ≠ 0) :
  Calls Tryz.prog 103 #[u, v] w (DivsEnd a b w) := by
 have la : a < 18446744073709551616 := by
  rcases Nat.lt_or_ge a 18446744073709551616 with h | h
  ·exact h
  ·have := words_len.1 (show 4294967296 ^ 2 ≤ a by simpa using h); omega
 have lb : b < 18446744073709551616 := by
  rcases Nat.lt_or_ge b 18446744073709551616 with h | h
  ·exact h
  ·have := words_len.1 (show 4294967296 ^ 2 ≤ b by simpa using h); omega
 have NA : Hid (∀ w3, Below w.heap.size w w3 → Calls Tryz.prog 108 #[u] w3 fun e w' => e = .returned (.int .u64 (a : Int)) ∧ w3 = w') := Lib.hid (fun w3 h => number_any u a w3 (row_keeps hu h) la)
 have NB : Hid (∀ w3, Below w.heap.size w w3 → Calls Tryz.prog 108 #[v] w3 fun e w' => e = .returned (.int .u64 (b : Int)) ∧ w3 = w') := Lib.hid (fun w3 h => number_any v b w3 (row_keeps hv h) lb)
 obtain ⟨q, hq⟩ : ∃ q, a / b = q := ⟨_, rfl⟩
 obtain ⟨r, hr⟩ : ∃ r, a % b = r := ⟨_, rfl⟩
 have hqi : (a : Int) / (b : Int) = (q : Int) := by rw [← hq]; simp
 have hri : (a : Int) % (b : Int) = (r : Int) := by rw [← hr]; simp
 have hql : q < 18446744073709551616 := by rw [← hq]; exact Nat.lt_of_le_of_lt (Nat.div_le_self _ _) la
 have hrl : r < 18446744073709551616 := by rw [← hr]; exact Nat.lt_of_le_of_lt (Nat.mod_le _ _) la
 have HQ := Lib.hid hq
 have HR := Lib.hid hr
 have hbi : (b : Int) ≠ 0 := by omega
 obtain ⟨pa, ca, rfl, _, _⟩ := row_formW hu
 obtain ⟨pb, cb, rfl, _, _⟩ := row_formW hv
 have WO : Hid (∀ w1, Calls Tryz.prog 93 #[.int .u64 (q : Int)] w1 (WEnd q w1)) := Lib.hid (fun w1 => wordsOf_wide q w1 hql)
 have WR : Hid (∀ w1, Calls Tryz.prog 93 #[.int .u64 (r : Int)] w1 (WEnd r w1)) := Lib.hid (fun w1 => wordsOf_wide r w1 hrl)
 unfold WEnd at WO WR
 clear hu hv hq hr
 generalize (digsW a).length = na at *
 generalize (digsW b).length = nb at *
 go_enter Tryz.func103, Tryz.ntmps103
 go_wp2_with fail
 refine (NA.out w (Below.refl _ _)).mono ?_
 rintro e w3 ⟨rfl, rfl⟩
 go_wp2_with fail
 refine (NB.out w (Below.refl _ _)).mono ?_
 rintro e w3 ⟨rfl, rfl⟩
 go_wp2_with fail
 refine (WO.out w).mono ?_
 rintro e w3 ⟨a3, m3, k3, rfl, hr3, hb3⟩
 have NA3 := Lib.hid (NA.out w3 hb3)
 have NB3 := Lib.hid (NB.out w3 hb3)
 have HB3 := Lib.hid hb3
 have HR3 := Lib.hid hr3
 clear hb3 hr3
 go_wp2_with fail
 refine NA3.out.mono ?_
 rintro e w4 ⟨rfl, rfl⟩
 go_wp2_with fail
 refine NB3.out.mono ?_
 rintro e w4 ⟨rfl, rfl⟩
 go_wp2_with fail
 refine (WR.out w3).mono ?_
 rintro e w4 ⟨a4, m4, k4, rfl, hr4, hb4⟩
 have HR3' := Lib.hid (row_keeps HR3.out hb4)
 have HB4 := Lib.hid (below_then HB3.out hb4)
 have HR4 := Lib.hid hr4
 clear hb4 hr4
 go_wp2_with fail
 refine bodyPost_ret (v := .tuple #[.slice a3 m3 k3, .slice a4 m4 k4]) (by simp [results, Tryz.results103, go_sem]) rfl ?_
 exact ⟨_, _, _, _, _, _, rfl, by rw [HQ.out]; exact HR3'.out, by rw [HR.out]; exact HR4.out, HB4.out⟩
theorem ediv_of {a b q r : Int} (hb : b ≠ 0) (h : a = b * q + r) (h0 : 0 ≤ r) (h1 : r < b.natAbs) : a / b = q ∧ a % b = r := by
 rcases Int.lt_or_gt_of_ne hb with hn | hp
 ·obtain ⟨c, rfl⟩ : ∃ c, b = -c := ⟨-b, by omega⟩
  have hc : 0 < c := by omega
  have := (Int.ediv_emod_unique (a := a) (b := c) (r := r) (q := -q) hc).2 ⟨by rw [Int.mul_neg, ← Int.neg_mul]; omega, h0, by omega⟩
  exact ⟨by rw [Int.ediv_neg, this.1, Int.neg_neg], by rw [Int.emod_neg, this.2]⟩
 ·exact (Int.ediv_emod_unique (a := a) (b := b) (r := r) (q := q) hp).2 ⟨by omega, h0, by omega⟩
theorem div_num (na nb : Bool) (a b : Int) (ha : decide (a < 0) = na) (hb : decide (b < 0) = nb) (h0 : b ≠ 0) (q r : Nat) (h : a.natAbs = b.natAbs * q + r) (hr : r < b.natAbs) :
  ((na = false ∨ r = 0) → a / b = sgn (na != nb) q ∧ a % b = (r : Int)) ∧ ((na = true ∧ 0 < r) → a / b = sgn (na != nb) (q + 1) ∧ a % b = ((b.natAbs - r : Nat) : Int)) := by
 have hi := congrArg (fun t : Nat => (t : Int)) h
 simp only [Int.natCast_add, Int.natCast_mul] at hi
 subst ha; subst hb
 constructor
 ·intro hc
  refine ediv_of h0 ?_ (by omega) (by omega)
  unfold sgn
  rcases Classical.em (a < 0) with h1 | h1 <;> rcases Classical.em (b < 0) with h2 | h2 <;> simp [h1, h2] at hc ⊢
  ·subst hc
   have e1 : (b.natAbs : Int) = -b := by omega
   rw [e1, Int.neg_mul] at hi
   omega
  ·subst hc
   have e1 : (b.natAbs : Int) = b := by omega
   rw [e1] at hi
   rw [Int.mul_neg]; omega
  ·have e1 : (b.natAbs : Int) = -b := by omega
   rw [e1, Int.neg_mul] at hi
   rw [Int.mul_neg]; omega
  ·have e1 : (b.natAbs : Int) = b := by omega
   rw [e1] at hi
   omega
 ·rintro ⟨hc, hr0⟩
  have h1 : a < 0 := by simpa using hc
  refine ediv_of h0 ?_ (by omega) (by omega)
  unfold sgn
  rcases Classical.em (b < 0) with h2 | h2 <;> simp [h1, h2]
  ·have e1 : (b.natAbs : Int) = -b := by omega
   rw [e1, Int.neg_mul] at hi
   rw [Int.mul_add]; omega
  ·have e1 : (b.natAbs : Int) = b := by omega
   rw [e1] at hi
   rw [Int.mul_neg, Int.mul_add]; omega
def tabL : List UInt8 := (List.range 256).map fun i => UInt8.ofNat (if i = 0 then 0 else Nat.log2 i + 1)
theorem tab_all : ∀ i : Fin 256, 1 ≤ i.val → 1 ≤ (tabL[i.val]?.getD 0).toNat ∧ (tabL[i.val]?.getD 0).toNat ≤ 8 ∧ i.val < 2 ^ (tabL[i.val]?.getD 0).toNat := by decide +kernel
theorem tab_fact {D : ByteArray} {x : Nat} {h : x < D.size} (hD : D.data.toList = tabL) (h1 : 1 ≤ x) (h2 : x < 256) : 1 ≤ D[x].toNat ∧ D[x].toNat ≤ 8 ∧ x < 2 ^ D[x].toNat := by
 have e : D[x] = tabL[x]?.getD 0 := by
  rw [← hD]
  have : D[x] = D.data[x]'h := rfl
  rw [this, Array.getElem?_toList, Array.getElem?_eq_getElem h]
  rfl
 rw [e]
 exact tab_all ⟨x, h2⟩ h1
theorem len_fin {D : ByteArray} {x y b : Nat} {h : y < D.size} {w : World} (hD : D.data.toList = tabL) (h1 : 1 ≤ y) (h2 : y < 256) (hb : b ≤ 24) (hx : x < 2 ^ b * (y + 1)) {c : Int} (hc : c = (b : Int)) :
  ∃ n : Nat, Ending.returned (.int .i64 (wrap64 (c + wrap64 (((D[y]'h).toNat : Nat) : Int)))) = .returned (.int .i64 (n : Int)) ∧ 1 ≤ n ∧ n ≤ 32 ∧ x < 2 ^ n ∧ w = w := by
 obtain ⟨t1, t2, t3⟩ := tab_fact (h := h) hD h1 h2
 refine ⟨b + (D[y]'h).toNat, by subst hc; congr 2; unfold wrap64; omega, by omega, by omega, ?_, rfl⟩
 rw [Nat.pow_add]
 exact Nat.lt_of_lt_of_le hx (Nat.mul_le_mul_left _ t3)
theorem len_fin0 {D : ByteArray} {x : Nat} {h : x < D.size} {w : World} (hD : D.data.toList = tabL) (h1 : 1 ≤ x) (h2 : x < 256) :
  ∃ n : Nat, Ending.returned (.int .i64 (wrap64 (wrap64 (((D[x]'h).toNat : Nat) : Int)))) = .returned (.int .i64 (n : Int)) ∧ 1 ≤ n ∧ n ≤ 32 ∧ x < 2 ^ n ∧ w = w := by
 obtain ⟨t1, t2, t3⟩ := tab_fact (h := h) hD h1 h2
 exact ⟨(D[x]'h).toNat, by congr 2; unfold wrap64; omega, t1, by omega, t3, rfl⟩
set_option maxHeartbeats 400000 in
theorem len32_any (x : Nat) (w : World) (h1 : 1 ≤ x) (h2 : x < 4294967296) :
  Calls Tryz.prog 132 #[.int .u32 (x : Int)] w fun e w' => ∃ n : Nat, e = .returned (.int .i64 (n : Int)) ∧ 1 ≤ n ∧ n ≤ 32 ∧ x < 2 ^ n ∧ w = w' := by
 rcases Nat.lt_or_ge x 65536 with ha | ha
 ·have q1 : ¬ (65536 : Int) ≤ (x : Int) := by omega
  rcases Nat.lt_or_ge x 256 with hb | hb
  ·have q2 : ¬ (256 : Int) ≤ (x : Int) := by omega
   have q3 : (0 : Int) ≤ (x : Int) := by omega
   have q4 : (x : Int) < 256 := by omega
   go_enter Tryz.func132, Tryz.ntmps132
   go_wp2_with fail
   go_ret
   exact len_fin0 (x := x) (by kernel_rfl) h1 hb
  ·have q2 : (256 : Int) ≤ (x : Int) := by omega
   obtain ⟨y, hy⟩ : ∃ y, x / 256 = y := ⟨_, rfl⟩
   have hyi : (x : Int) / 256 = (y : Int) := by omega
   have q3 : (0 : Int) ≤ (y : Int) := by omega
   have q4 : (y : Int) < 256 := by omega
   go_enter Tryz.func132, Tryz.ntmps132
   go_wp2_with fail
   go_ret
   exact len_fin (b := 8) (y := y) (by kernel_rfl) (by omega) (by omega) (by decide) (by omega) rfl
 ·have q1 : (65536 : Int) ≤ (x : Int) := by omega
  obtain ⟨u, hu⟩ : ∃ u, x / 65536 = u := ⟨_, rfl⟩
  have hui : (x : Int) / 65536 = (u : Int) := by omega
  rcases Nat.lt_or_ge u 256 with hb | hb
  ·have q2 : ¬ (256 : Int) ≤ (u : Int) := by omega
   have q3 : (0 : Int) ≤ (u : Int) := by omega
   have q4 : (u : Int) < 256 := by omega
   go_enter Tryz.func132, Tryz.ntmps132
   go_wp2_with fail
   go_ret
   exact len_fin (b := 16) (y := u) (by kernel_rfl) (by omega) hb (by decide) (by omega) rfl
  ·have q2 : (256 : Int) ≤ (u : Int) := by omega
   obtain ⟨y, hy⟩ : ∃ y, u / 256 = y := ⟨_, rfl⟩
   have hyi : (u : Int) / 256 = (y : Int) := by omega
   have q3 : (0 : Int) ≤ (y : Int) := by omega
   have q4 : (y : Int) < 256 := by omega
   go_enter Tryz.func132, Tryz.ntmps132
   go_wp2_with fail
   go_ret
   exact len_fin (b := 24) (y := y) (by kernel_rfl) (by omega) (by omega) (by decide) (by omega) rfl
def LzEnd (x : Nat) (w : World) (e : Ending) (w' : World) : Prop := ∃ s : Nat, e = .returned (.int .i64 (s : Int)) ∧ s ≤ 31 ∧ x * 2 ^ s < 4294967296 ∧ w = w'
theorem leadingZeros_any (x : Nat) (w : World) (h1 : 1 ≤ x) (h2 : x < 4294967296) :
  Calls Tryz.prog 126 #[.int .u32 (x : Int)] w (LzEnd x w) := by
 have L := len32_any x w h1 h2
 go_enter Tryz.func126, Tryz.ntmps126
 go_wp2_with fail
 refine L.mono ?_
 rintro e w' ⟨n, rfl, hn1, hn2, hx, rfl⟩
 clear L
 go_wp2_with fail
 go_ret
 refine ⟨32 - n, ?_, by omega, ?_, rfl⟩
 ·show Ending.returned (.int .i64 (32 - (n : Int))) = _
  congr 2; omega
 ·have h3 := (Nat.mul_lt_mul_right (Nat.two_pow_pos (32 - n))).2 hx
  rw [← Nat.pow_add, show n + (32 - n) = 32 by omega] at h3
  exact h3
def ShrEnd (g L n v : Nat) (w : World) (e : Ending) (w' : World) : Prop := ∃ R, (∃ v, e = .returned v) ∧ R.length = L ∧ (∀ c ∈ R, c < 4294967296) ∧ valDW R = v / 2 ^ n ∧ Wds w' g R ∧ Keeps (fun k => k = g) w w'
set_option maxHeartbeats 4000000 in
theorem shiftRight_any (g L cap n : Nat) (R0 : List Nat) (w : World) (hw : Wds w g R0) (hl : R0.length = L) (hd : ∀ c ∈ R0, c < 4294967296) (hn : n ≤ 31) (hL : L ≤ 1000000) (hc : L ≤ cap) :
  Calls Tryz.prog 129 #[.slice (some ⟨g, 0, none⟩) L cap, .int .i64 (n : Int)] w (ShrEnd g L n (valDW R0) w) := by
 obtain ⟨N, hN⟩ : ∃ N, N = 2 ^ n := ⟨_, rfl⟩
 have hN0 : 0 < N := by rw [hN]; exact Nat.two_pow_pos n
 have HNI : Hid ((2 : Int) ^ n = (N : Int)) := Lib.hid (by rw [hN]; simp)
 have HM : Hid (4294967296 = N * 2 ^ (32 - n)) := Lib.hid (by rw [hN]; exact pow32_split0 (by omega))
 have HNN := Lib.hid hN
 have HD := Lib.hid hd
 have HW := Lib.hid hw
 have HL := Lib.hid hl
 clear hw hd hl hN
 go_enter Tryz.func129, Tryz.ntmps129
 go_wp2_with fail
 go_loopw [4, 5, 6] (fun hv iv _ wr => ∃ (j h : Nat) (R : List Nat), iv = .int .i64 ((j : Int) - 1) ∧ hv = .int .u32 (h : Int) ∧ j ≤ L ∧ Hid (h = atDW R0 j) ∧ Hid (R.length = L) ∧ Hid (∀ c ∈ R, c < 4294967296) ∧ Hid (valDW (R.drop j) = valDW (R0.drop j) / N) ∧ Hid (∀ k, k < j → atDW R k = atDW R0 k) ∧ Hid (Wds wr g R) ∧ Hid (Keeps (fun k => k = g) w wr)) (fun _ iv _ _ => (intOf iv + 1).toNat)
 case atStart => exact ⟨L, 0, R0, rfl, rfl, Nat.le_refl _, Lib.hid (by unfold atDW; rw [List.getElem?_eq_none (by rw [HL.out]; exact Nat.le_refl _)]; rfl), HL, HD, Lib.hid (by rw [List.drop_of_length_le (by rw [HL.out]; exact Nat.le_refl _)]; simp [valDW]), Lib.hid (fun _ _ => rfl), HW, Lib.hid (Keeps.refl _ _)⟩
 case round =>
  obtain ⟨j, h, R, rfl, rfl, hj, HH, HRL, HRD, HV, HS, HF, HK⟩ := hrel
  clear HW
  rcases Nat.eq_zero_or_pos j with hj0 | hj0
  ·subst hj0
   rw [show ((0 : Nat) : Int) - 1 = -1 from rfl]
   go_wp2_with fail
   go_end0
   exact ⟨R, ⟨_, rfl⟩, HRL.out, HRD.out, by have := HV.out; rwa [List.drop_zero, List.drop_zero, HNN.out] at this, HF.out, HK.out⟩
  ·obtain ⟨i, rfl⟩ : ∃ i, j = i + 1 := ⟨j - 1, by omega⟩
   rw [show ((i + 1 : Nat) : Int) - 1 = (i : Int) by omega]
   have hi0 : (0 : Int) ≤ (i : Int) := by omega
   have hiL : (i : Int) < (L : Int) := by omega
   have hiR : i < R.length := by rw [HRL.out]; omega
   have hiR0 : i < R0.length := by rw [HL.out]; omega
   have c0 := HF.out.cell hiR
   rw [HS.out i (Nat.lt_succ_self _)] at c0
   have c1 := HF.out.frozen i
   have hx := atD_ltW HD.out i
   have hh : h < 4294967296 := by rw [HH.out]; exact atD_ltW HD.out _
   have HST := Lib.hid (shr_word (n := n) (h := h) (V := valDW (R0.drop (i + 1))) HM.out hN0 (by rw [HH.out]; exact drop_modW HD.out _) hx)
   have HDA := Lib.hid (drop_atW hiR0)
   have HHX : Hid (atDW R0 i = atDW R0 i) := Lib.hid rfl
   obtain ⟨x, hxe⟩ : ∃ x, atDW R0 i = x := ⟨_, rfl⟩
   have HXE := Lib.hid hxe
   rw [hxe] at hx c0 HST HDA
   clear hxe HHX
   have hor := part_or hh hx
   obtain ⟨p, hp⟩ : ∃ p, p = h * 4294967296 + x := ⟨_, rfl⟩
   rw [← hp] at hor HST
   have hpl : p < 18446744073709551616 := by omega
   obtain ⟨q, hq⟩ : ∃ q, p / N = q := ⟨_, rfl⟩
   have hqi : (p : Int) / 2 ^ n = (q : Int) := by rw [HNI.out, ← hq]; simp
   have hql : q < 18446744073709551616 := by rw [← hq]; exact Nat.lt_of_le_of_lt (Nat.div_le_self _ _) hpl
   rw [hq] at HST
   obtain ⟨z, hz⟩ : ∃ z, q % 4294967296 = z := ⟨_, rfl⟩
   rw [hz] at HST
   have hzl : z < 4294967296 := by omega
   have hzi : (q : Int) % 4294967296 = (z : Int) := by omega
   have HF6 := Lib.hid (HF.out.set hiR z)
   have HK6 := Lib.hid (HK.out.also (keeps_set wr g i (.int .u32 (z : Int))) (by intro k h1 h2; exact h2))
   have HV6 : Hid (valDW ((R.set i z).drop i) = valDW (R0.drop i) / N) := Lib.hid (by rw [drop_setW hiR, HV.out, HDA.out]; exact HST.out.1)
   clear hp hq hz HDA HST
   go_wp2_with fail
   go_roundw
   case rel => exact ⟨i, x, R.set i z, rfl, rfl, by omega, Lib.hid HXE.out.symm, Lib.hid (by rw [List.length_set]; exact HRL.out), Lib.hid (set_ltW HRD.out hzl i), HV6, Lib.hid (fun k hk => by rw [atD_set_neW (by omega)]; exact HS.out k (by omega)), HF6, HK6⟩
   case measure => simp [intOf] <;> omega
theorem iat_set {W : World} {r : Nat} {b : Bool} {a : Option Addr} {m k : Nat} {x : Value} {n : Int} (h : IAt W x n) (hl : Laid W r 32 [.bool b, .slice a m k]) (j : Nat) (u : Value) : IAt (W.setCell ⟨r, j, none⟩ u) x n := by
 obtain ⟨v, rfl, h⟩ := h
 exact ⟨v, rfl, row_setK hl h j u⟩
def DivEndW (a b : Int) (w : World) (e : Ending) (w' : World) : Prop :=
 ∃ bq aq mq kq br ar mr kr, e = .returned (.tuple #[.agg #[.bool bq, .slice aq mq kq], .agg #[.bool br, .slice ar mr kr], .int .i64 0]) ∧ IAt w' (.agg #[.bool bq, .slice aq mq kq]) (a / b) ∧ IAt w' (.agg #[.bool br, .slice ar mr kr]) (a % b) ∧ Below w.heap.size w w'
structure B4 (W : World) (s : Nat) (na nb : Bool) (ax ay : Option Addr) (la lb cx cy : Nat) : Prop where
 x : Laid W s 32 [.bool na, .slice ax la cx]
 y : Laid W (s + 1) 32 [.bool nb, .slice ay lb cy]
 q : Laid W (s + 2) 32 [.bool false, .slice none 0 0]
 r : Laid W (s + 3) 32 [.bool false, .slice none 0 0]
theorem B4.below {W W2 : World} {s : Nat} {na nb : Bool} {ax ay : Option Addr} {la lb cx cy : Nat} (h : B4 W s na nb ax ay la lb cx cy) (hb : Below W.heap.size W W2) : B4 W2 s na nb ax ay la lb cx cy := ⟨h.x.below hb, h.y.below hb, h.q.below hb, h.r.below hb⟩
theorem b4_new (w : World) (na nb : Bool) (ax ay : Option Addr) (la lb cx cy : Nat) :
  B4 ((((w.alloc (.cells #[.bool na, .slice ax la cx] 32)).alloc (.cells #[.bool nb, .slice ay lb cy] 32)).alloc (.cells #[.bool false, .slice none 0 0] 32)).alloc (.cells #[.bool false, .slice none 0 0] 32)) w.heap.size na nb ax ay la lb cx cy := by
 have h := (boxes2 w na nb ax ay la lb cx cy)
 have hb : ∀ W : World, Below W.heap.size W (W.alloc (.cells #[.bool false, .slice none 0 0] 32)) := fun W => (Below.refl _ _).alloc (Nat.le_refl _) _
 refine ⟨h.x.below (hb _), h.y.below (hb _), h.r.below (hb _), ?_⟩
 have := Laid.new (((w.alloc (.cells #[.bool na, .slice ax la cx] 32)).alloc (.cells #[.bool nb, .slice ay lb cy] 32)).alloc (.cells #[.bool false, .slice none 0 0] 32)) 32 [.bool false, .slice none 0 0]
 rwa [h.size] at this
theorem divend_store {w W : World} {s : Nat} {a b : Int} {na nb : Bool} {ax ay : Option Addr} {la lb cx cy : Nat} (hl : B4 W s na nb ax ay la lb cx cy) (hs : w.heap.size ≤ s) (hb : Below w.heap.size w W) {bq br : Bool} {aq ar : Option Addr} {mq kq mr kr : Nat}
  (hq : IAt W (.agg #[.bool bq, .slice aq mq kq]) (a / b)) (hr : IAt W (.agg #[.bool br, .slice ar mr kr]) (a % b)) :
  DivEndW a b w (.returned (.tuple #[.agg #[.bool bq, .slice aq mq kq], .agg #[.bool br, .slice ar mr kr], .int .i64 0])) ((((W.setCell ⟨s + 2, 0, none⟩ (.bool bq)).setCell ⟨s + 2, 1, none⟩ (.slice aq mq kq)).setCell ⟨s + 3, 0, none⟩ (.bool br)).setCell ⟨s + 3, 1, none⟩ (.slice ar mr kr)) := by
 have hq2 := iat_store hl.q hq
 have l1 : Laid (W.setCell ⟨s + 2, 0, none⟩ (.bool bq)) (s + 2) 32 [.bool bq, .slice none 0 0] := hl.q.set 0 _
 have hr2 := iat_set (iat_set hr hl.q 0 (.bool bq)) l1 1 (.slice aq mq kq)
 have l3 := hl.r.keeps ((keeps_set W (s + 2) 0 (.bool bq)).trans (keeps_set _ (s + 2) 1 (.slice aq mq kq))) (by omega)
 have l4 : Laid (((W.setCell ⟨s + 2, 0, none⟩ (.bool bq)).setCell ⟨s + 2, 1, none⟩ (.slice aq mq kq)).setCell ⟨s + 3, 0, none⟩ (.bool br)) (s + 3) 32 [.bool br, .slice none 0 0] := l3.set 0 _
 exact ⟨_, _, _, _, _, _, _, _, rfl, iat_set (iat_set hq2 l3 0 (.bool br)) l4 1 (.slice ar mr kr), iat_store l3 hr2,
  (((hb.setCell (p := ⟨s + 2, 0, none⟩) (by show _ ≤ s + 2; omega) _).setCell (p := ⟨s + 2, 1, none⟩) (by show _ ≤ s + 2; omega) _).setCell (p := ⟨s + 3, 0, none⟩) (by show _ ≤ s + 3; omega) _).setCell (p := ⟨s + 3, 1, none⟩) (by show _ ≤ s + 3; omega) _⟩
set_option maxHeartbeats 8000000 in
theorem wDiv_of (x y : Value) (a b : Int) (w : World) (hx : IAt w x a) (hy : IAt w y b) (ha : (digsW a.natAbs).length ≤ 400000) (hb : (digsW b.natAbs).length ≤ 400000) (h0 : b ≠ 0)
  (HD : ∀ W u v, Row .u32 W u (natI (digsW a.natAbs)) → Row .u32 W v (natI (digsW b.natAbs)) → Calls Tryz.prog 103 #[u, v] W (DivsEnd a.natAbs b.natAbs W)) :
  Calls Tryz.prog 75 #[x, y] w (DivEndW a b w) := by
 obtain ⟨ax, cx, rfl, hrx⟩ := iat_form hx
 obtain ⟨ay, cy, rfl, hry⟩ := iat_form hy
 obtain ⟨na, hna⟩ : ∃ t, decide (a < 0) = t := ⟨_, rfl⟩
 obtain ⟨nb, hnb⟩ : ∃ t, decide (b < 0) = t := ⟨_, rfl⟩
 have hb0 : 0 < b.natAbs := by omega
 have hdm : a.natAbs = b.natAbs * (a.natAbs / b.natAbs) + a.natAbs % b.natAbs := (Nat.div_add_mod _ _).symm
 have HNUM := Lib.hid (div_num na nb a b hna hnb h0 (a.natAbs / b.natAbs) (a.natAbs % b.natAbs) hdm (Nat.mod_lt _ hb0))
 have hrb : (a.natAbs % b.natAbs) ≤ b.natAbs := Nat.le_of_lt (Nat.mod_lt _ hb0)
 have hqa : (digsW (a.natAbs / b.natAbs)).length ≤ 400000 := by
  have h1 := digs_len_ltW a.natAbs
  have h2 : a.natAbs / b.natAbs ≤ a.natAbs := Nat.div_le_self _ _
  have := digs_len_leW (k := (digsW a.natAbs).length) (show a.natAbs / b.natAbs < _ by omega)
  omega
 rw [hna, hnb]
 have hbl := digs_len_posW (show b.natAbs ≠ 0 by omega)
 obtain ⟨w2, hw2⟩ : ∃ w2, w2 = (((w.alloc (.cells #[.bool na, .slice ax (digsW a.natAbs).length cx] 32)).alloc (.cells #[.bool nb, .slice ay (digsW b.natAbs).length cy] 32)).alloc (.cells #[.bool false, .slice none 0 0] 32)).alloc (.cells #[.bool false, .slice none 0 0] 32) := ⟨_, rfl⟩
 have hB4 : B4 w2 w.heap.size na nb ax ay (digsW a.natAbs).length (digsW b.natAbs).length cx cy := by rw [hw2]; exact b4_new _ _ _ _ _ _ _ _ _
 have hbe : Below w.heap.size w w2 := by rw [hw2]; exact ((((Below.refl _ w).alloc (Nat.le_refl _) _).alloc (by simp) _).alloc (by simp; try omega) _).alloc (by simp; try omega) _
 have hs2 : w2.heap.size = w.heap.size + 4 := by rw [hw2]; simp
 have HB4 := Lib.hid hB4
 have HBE := Lib.hid hbe
 have DV := HD w2 _ _ (row_keeps hrx hbe) (row_keeps hry hbe)
 unfold DivsEnd at DV
 have HDV := Lib.hid DV
 have HRY := Lib.hid (row_keeps hry hbe)
 have HLB := Lib.hid hb
 clear hx hy hrx hry hna hnb hB4 hbe DV HD hdm hb0
 generalize a.natAbs / b.natAbs = Q at *
 generalize a.natAbs % b.natAbs = R at *
 have HBN : Hid (b.natAbs ≠ 0) := Lib.hid (by omega)
 generalize b.natAbs = B at *
 have SGN : Hid (∀ (s : Bool) (n : Nat) (z : Int), z = sgn s n → ∀ w3 v, Row .u32 w3 v (natI (digsW n)) → Calls Tryz.prog 46 #[.bool s, v] w3 (IEnd z w3)) := Lib.hid (fun s n z hz w3 v h => by
  have := signed_any s v n w3 h
  rwa [← hz] at this)
 unfold IEnd at SGN
 have DIF : Hid (∀ w3 v, Below w2.heap.size w2 w3 → Row .u32 w3 v (natI (digsW R)) → Calls Tryz.prog 49 #[.slice ay (digsW B).length cy, v] w3 (WEnd (B - R) w3)) := Lib.hid (fun w3 v h1 h2 => difference_any _ _ B R w3 (row_keeps HRY.out h1) h2 (by have := HLB.out; omega) hrb HBN.out)
 unfold WEnd at DIF
 have SUM : Hid (∀ w3 v, Row .u32 w3 v (natI (digsW Q)) → Calls Tryz.prog 47 #[v, .slice (some ⟨w3.heap.size, 0, none⟩) 1 1] (w3.alloc (.cells #[.int .u32 1] 116)) (WEnd (Q + 1) (w3.alloc (.cells #[.int .u32 1] 116)))) := Lib.hid (fun w3 v h => by
  have hr := row_of_fresh (fresh_lit w3 w3.heap.size 116 .u32 [1] (Nat.le_refl _) (by simp))
  have e1 : digsW 1 = [1] := by rw [digs_posW (by decide)]; simp [digs_zeroW]
  exact sum_wide v _ Q 1 _ (row_keeps h ((Below.refl _ _).alloc (Nat.le_refl _) _)) (by rw [e1]; simpa [natI] using hr) (by omega) (by rw [e1]; simp))
 unfold WEnd at SUM
 generalize hla : (digsW a.natAbs).length = la at *
 generalize hlbb : (digsW B).length = lb at *
 have hlb0 : ((lb : Int) == 0) = false := by rw [beq_eq_false_iff_ne]; omega
 clear hrb hqa hbl hla hlbb HRY ha hb h0
 cases na
 ·have hn := HNUM.out.1 (.inl rfl)
  have HZQ : Hid (a / b = sgn nb Q) := Lib.hid (by simpa using hn.1)
  have HZR : Hid (a % b = sgn false R) := Lib.hid (by rw [hn.2]; rfl)
  clear hn HNUM SUM DIF
  go_enter Tryz.func75, Tryz.ntmps75
  go_wp2_with fail
  rw [← hw2]
  refine HDV.out.mono ?_
  rintro e wc ⟨aq, mq, kq, ar, mr, kr, rfl, hrq, hrr, hbc⟩
  have hmr : mr = (digsW R).length := by obtain ⟨p, c, e, _, _⟩ := row_formW hrr; injection e
  have HQ := Lib.hid hrq
  have HR := Lib.hid hrr
  have HBC := Lib.hid hbc
  clear hw2 hrq hrr hbc
  clear hmr
  obtain ⟨c0, c1, _, _⟩ := cells2 (HB4.out.below HBC.out).x
  obtain ⟨d0, d1, _, _⟩ := cells2 (HB4.out.below HBC.out).y
  have SG1 := Lib.hid (SGN.out _ _ _ HZQ.out _ _ HQ.out)
  go_wp2_with fail
  refine SG1.out.mono ?_
  rintro e w6 ⟨bq, aq2, mq2, kq2, rfl, hxq, hb6⟩
  have HR6 := Lib.hid (row_keeps HR.out hb6)
  have HXQ := Lib.hid hxq
  have HB6 := Lib.hid (below_then HBC.out hb6)
  have SG2 := Lib.hid (SGN.out false _ _ HZR.out _ _ HR6.out)
  clear c0 c1 d0 d1 hxq hb6
  go_wp2_with fail
  refine SG2.out.mono ?_
  rintro e w7 ⟨br, ar2, mr2, kr2, rfl, hxr, hb7⟩
  have HB7 := Lib.hid (below_then HB6.out hb7)
  have HXQ7 := Lib.hid (iat_keeps HXQ.out hb7)
  obtain ⟨f0, f1, f2, f3⟩ := cells2 (HB4.out.below HB7.out).q
  obtain ⟨g0, g1, g2, g3⟩ := cells2 (HB4.out.below HB7.out).r
  have HEND := Lib.hid (divend_store (w := w) (HB4.out.below HB7.out) (Nat.le_refl _) (HBE.out.trans (HB7.out.mono (by omega))) HXQ7.out hxr)
  clear hxr hb7
  go_wp2_with fail
  refine bodyPost_ret (v := .tuple #[.agg #[.bool bq, .slice aq2 mq2 kq2], .agg #[.bool br, .slice ar2 mr2 kr2], .int .i64 0]) (by simp [results, Tryz.results75, go_sem, f0, f1, g0, g1]) rfl ?_
  exact HEND.out
 ·rcases Nat.eq_zero_or_pos R with hR0 | hR0
  ·have hn := HNUM.out.1 (.inr hR0)
   have HZQ : Hid (a / b = sgn (!nb) Q) := Lib.hid (by simpa using hn.1)
   have HZR : Hid (a % b = sgn false R) := Lib.hid (by rw [hn.2]; rfl)
   have hmz : (digsW R).length = 0 := by rw [hR0, digs_zeroW]; rfl
   clear hn HNUM SUM DIF hR0
   go_enter Tryz.func75, Tryz.ntmps75
   go_wp2_with fail
   rw [← hw2]
   refine HDV.out.mono ?_
   rintro e wc ⟨aq, mq, kq, ar, mr, kr, rfl, hrq, hrr, hbc⟩
   have hmr : mr = (digsW R).length := by obtain ⟨p, c, e, _, _⟩ := row_formW hrr; injection e
   have HQ := Lib.hid hrq
   have HR := Lib.hid hrr
   have HBC := Lib.hid hbc
   clear hw2 hrq hrr hbc
   rw [hmz] at hmr
   subst hmr
   clear hmz
   obtain ⟨c0, c1, _, _⟩ := cells2 (HB4.out.below HBC.out).x
   obtain ⟨d0, d1, _, _⟩ := cells2 (HB4.out.below HBC.out).y
   have SG1 := Lib.hid (SGN.out _ _ _ HZQ.out _ _ HQ.out)
   go_wp2_with fail
   refine SG1.out.mono ?_
   rintro e w6 ⟨bq, aq2, mq2, kq2, rfl, hxq, hb6⟩
   have HR6 := Lib.hid (row_keeps HR.out hb6)
   have HXQ := Lib.hid hxq
   have HB6 := Lib.hid (below_then HBC.out hb6)
   have SG2 := Lib.hid (SGN.out false _ _ HZR.out _ _ HR6.out)
   clear c0 c1 d0 d1 hxq hb6
   go_wp2_with fail
   refine SG2.out.mono ?_
   rintro e w7 ⟨br, ar2, mr2, kr2, rfl, hxr, hb7⟩
   have HB7 := Lib.hid (below_then HB6.out hb7)
   have HXQ7 := Lib.hid (iat_keeps HXQ.out hb7)
   obtain ⟨f0, f1, f2, f3⟩ := cells2 (HB4.out.below HB7.out).q
   obtain ⟨g0, g1, g2, g3⟩ := cells2 (HB4.out.below HB7.out).r
   have HEND := Lib.hid (divend_store (w := w) (HB4.out.below HB7.out) (Nat.le_refl _) (HBE.out.trans (HB7.out.mono (by omega))) HXQ7.out hxr)
   clear hxr hb7
   go_wp2_with fail
   refine bodyPost_ret (v := .tuple #[.agg #[.bool bq, .slice aq2 mq2 kq2], .agg #[.bool br, .slice ar2 mr2 kr2], .int .i64 0]) (by simp [results, Tryz.results75, go_sem, f0, f1, g0, g1]) rfl ?_
   exact HEND.out
  ·have hn := HNUM.out.2 ⟨rfl, hR0⟩
   have HZQ : Hid (a / b = sgn (!nb) (Q + 1)) := Lib.hid (by simpa using hn.1)
   have HZR : Hid (a % b = sgn false (B - R)) := Lib.hid (by rw [hn.2]; rfl)
   have hmp := digs_len_posW (show R ≠ 0 by omega)
   clear hn HNUM hR0
   go_enter Tryz.func75, Tryz.ntmps75
   go_wp2_with fail
   rw [← hw2]
   refine HDV.out.mono ?_
   rintro e wc ⟨aq, mq, kq, ar, mr, kr, rfl, hrq, hrr, hbc⟩
   have hmr : mr = (digsW R).length := by obtain ⟨p, c, e, _, _⟩ := row_formW hrr; injection e
   have HQ := Lib.hid hrq
   have HR := Lib.hid hrr
   have HBC := Lib.hid hbc
   clear hw2 hrq hrr hbc
   have hmr0 : (0 : Int) < (mr : Int) := by omega
   clear hmp hmr
   obtain ⟨c0, c1, _, _⟩ := cells2 (HB4.out.below HBC.out).x
   go_wp2_with fail
   refine (SUM.out wc _ HQ.out).mono ?_
   rintro e wd ⟨aq, mq, kq, rfl, hrq, hbd⟩
   have HBD : Hid (Below w2.heap.size w2 wd) := Lib.hid ((HBC.out.alloc HBC.out.size _).trans (hbd.mono (by have := HBC.out.size; simp; omega)))
   have HBCD : Hid (Below wc.heap.size wc wd) := Lib.hid (((Below.refl _ _).alloc (Nat.le_refl _) _).trans (hbd.mono (by simp)))
   have HR1 := Lib.hid (row_keeps HR.out HBCD.out)
   have HQ1 := Lib.hid hrq
   have DIF1 := Lib.hid (DIF.out wd _ HBD.out HR1.out)
   obtain ⟨d0, d1, _, _⟩ := cells2 (HB4.out.below HBD.out).y
   clear c0 c1 hrq hbd HQ HR HBC
   go_wp2_with fail
   refine DIF1.out.mono ?_
   rintro e we ⟨ar, mr, kr, rfl, hrr, hbe⟩
   have HBC := Lib.hid (below_then HBD.out hbe)
   have HQ := Lib.hid (row_keeps HQ1.out hbe)
   have HR := Lib.hid hrr
   clear d0 d1 hrr hbe
   obtain ⟨c0, c1, _, _⟩ := cells2 (HB4.out.below HBC.out).x
   obtain ⟨d0, d1, _, _⟩ := cells2 (HB4.out.below HBC.out).y
   have SG1 := Lib.hid (SGN.out _ _ _ HZQ.out _ _ HQ.out)
   go_wp2_with fail
   refine SG1.out.mono ?_
   rintro e w6 ⟨bq, aq2, mq2, kq2, rfl, hxq, hb6⟩
   have HR6 := Lib.hid (row_keeps HR.out hb6)
   have HXQ := Lib.hid hxq
   have HB6 := Lib.hid (below_then HBC.out hb6)
   have SG2 := Lib.hid (SGN.out false _ _ HZR.out _ _ HR6.out)
   clear c0 c1 d0 d1 hxq hb6
   go_wp2_with fail
   refine SG2.out.mono ?_
   rintro e w7 ⟨br, ar2, mr2, kr2, rfl, hxr, hb7⟩
   have HB7 := Lib.hid (below_then HB6.out hb7)
   have HXQ7 := Lib.hid (iat_keeps HXQ.out hb7)
   obtain ⟨f0, f1, f2, f3⟩ := cells2 (HB4.out.below HB7.out).q
   obtain ⟨g0, g1, g2, g3⟩ := cells2 (HB4.out.below HB7.out).r
   have HEND := Lib.hid (divend_store (w := w) (HB4.out.below HB7.out) (Nat.le_refl _) (HBE.out.trans (HB7.out.mono (by omega))) HXQ7.out hxr)
   clear hxr hb7
   go_wp2_with fail
   refine bodyPost_ret (v := .tuple #[.agg #[.bool bq, .slice aq2 mq2 kq2], .agg #[.bool br, .slice ar2 mr2 kr2], .int .i64 0]) (by simp [results, Tryz.results75, go_sem, f0, f1, g0, g1]) rfl ?_
   exact HEND.out
set_option maxHeartbeats 4000000 in
theorem divide_long (u v : Value) (a b : Nat) (w : World) (hu : Row .u32 w u (natI (digsW a))) (hv : Row .u32 w v (natI (digsW b))) (ha : 2 < (digsW a).length) (hal : (digsW a).length ≤ 800000) (hl : ¬ (digsW a).length < (digsW b).length) (hb : b ≠ 0) :
  Calls Tryz.prog 103 #[u, v] w (DivsEnd a b w) := by
 obtain ⟨la, hla⟩ : ∃ la, (digsW a).length = la := ⟨_, rfl⟩
 obtain ⟨lb, hlb⟩ : ∃ lb, (digsW b).length = lb := ⟨_, rfl⟩
 have hlb1 : 1 ≤ lb := by rw [← hlb]; exact digs_len_posW hb
 obtain ⟨k, hk⟩ : ∃ k, lb = k + 1 := ⟨lb - 1, by omega⟩
 obtain ⟨pa, ca, rfl, hca, hcam⟩ := row_formW hu
 obtain ⟨pb, cb, rfl, hcb, hcbm⟩ := row_formW hv
 obtain ⟨t, ht⟩ : ∃ t, atDW (digsW b) (lb - 1) = t := ⟨_, rfl⟩
 obtain ⟨bd, od, hpd, hcd0⟩ := row_elemW hv (show lb - 1 < (digsW b).length by omega)
 rw [ht, show lb - 1 = k by omega] at hcd0
 subst hpd
 have htl : t < 4294967296 := by rw [← ht]; exact atD_ltW (digs_ltW b) _
 have ht1 : 1 ≤ t := by
  rw [← ht, last_div (n := lb - 1) (digs_ltW b) (by omega), valD_digsW]
  have := digs_len_geW hb
  rw [hlb] at this
  exact Nat.div_pos this (pow_pos4W _)
 have LZ := leadingZeros_any t w ht1 htl
 unfold LzEnd at LZ
 have HLZ := Lib.hid LZ
 have SHA := fun s hs => shiftedLeft_any _ a s w hu hs (by omega)
 have SHB := fun s w1 hs (hb1 : Below w.heap.size w w1) => shiftedLeft_any _ b s w1 (row_keeps hv hb1) hs (by omega)
 rw [hla] at SHA
 rw [hlb] at SHB
 unfold ShlEnd at SHA SHB
 have HSHA := Lib.hid SHA
 have HSHB := Lib.hid SHB
 have HT := Lib.hid ht
 have HLA := Lib.hid hla
 have HLB := Lib.hid hlb
 rw [hla] at ha hal hl
 rw [hlb] at hl
 rw [hla, hlb]
 have q1 : (lb : Int) - 1 = (k : Int) := by omega
 have q2 : (0 : Int) ≤ (k : Int) := by omega
 have q3 : (k : Int) < (lb : Int) := by omega
 have q4 : ¬ (la : Int) < (lb : Int) := by omega
 have q5 : ¬ (la : Int) ≤ 2 := by omega
 clear LZ SHA SHB ht hla hlb hu hv hca hcb hk
 go_enter Tryz.func103, Tryz.ntmps103
 go_wp2_with fail
 go_must (refine HLZ.out.mono ?_)
 rintro e w0 ⟨s, rfl, hs31, hst, rfl⟩
 have SA := Lib.hid (HSHA.out s hs31)
 have HSB := Lib.hid (fun w1 => HSHB.out s w1 hs31)
 clear HLZ HSHA HSHB hcd0
 go_wp2_with fail
 go_must (refine SA.out.mono ?_)
 rintro e w1 ⟨RA, rfl, hRAl, hRAd, hRAv, hWA, hb1⟩
 have HRAL := Lib.hid hRAl
 have HRAD := Lib.hid hRAd
 have HRAV := Lib.hid hRAv
 have HWA := Lib.hid hWA
 have HB1 := Lib.hid hb1
 have SB := Lib.hid (HSB.out w1 hb1)
 have hg1 := hWA.lt
 clear SA HSB hRAl hRAd hRAv hWA hb1
 go_wp2_with fail
 go_must (refine SB.out.mono ?_)
 rintro e w2 ⟨RB, rfl, hRBl, hRBd, hRBv, hWB, hb2⟩
 obtain ⟨D, hD⟩ : ∃ D, b * 2 ^ s = D := ⟨_, rfl⟩
 have hD0 : D ≠ 0 := by
  rw [← hD]
  have := Nat.mul_pos (Nat.pos_of_ne_zero hb) (Nat.two_pow_pos s)
  omega
 have TR := trimmed_loc (some ⟨w1.heap.size, 0, none⟩) (lb + 1) RB w2 (hWB.row0 (by omega) (by omega)) hRBd (by omega)
 rw [hRBl, hRBv, hD] at TR
 unfold TrimEnd at TR
 have HTR := Lib.hid TR
 have HWA2 : Hid (Wds w2 w.heap.size RA) := Lib.hid (by obtain ⟨rest, hh⟩ := HWA.out; exact ⟨rest, hh.below hb2⟩)
 have hg2 : w1.heap.size < w2.heap.size := hWB.lt
 have HB2 := Lib.hid (below_then HB1.out hb2)
 have HDL : Hid ((digsW D).length = lb) := Lib.hid (by
  rw [← hD]
  exact shl_len HLB.out hb (by omega) (by rw [HT.out]; exact hst))
 have HALT : Hid (a * 2 ^ s < D * 4294967296 ^ (la + 1 - lb)) := Lib.hid (by
  rw [← hD]
  have h1 := digs_len_ltW a
  have h2 := digs_len_geW hb
  rw [HLA.out] at h1
  rw [HLB.out] at h2
  exact long_start h1 h2 hlb1 (by omega))
 have HDD := Lib.hid hD
 clear TR hRBl hRBd hRBv hWB hb2 SB hD HWA
 go_wp2_with fail
 go_must (refine HTR.out.mono ?_)
 rintro e w2' ⟨q, m2, k2, rfl, hqp, hrow, rfl⟩
 have hqs : q = some ⟨w1.heap.size, 0, none⟩ := by
  rcases hqp with h | h
  ·exact h
  ·exfalso
   obtain ⟨_, _, e, _, _, _, h5⟩ := hrow
   injection e with e1 _ _
   have := (h5 (e1.symm.trans h)).1
   have h6 := digs_len_posW hD0
   have h7 := congrArg List.length this
   rw [natI_length] at h7
   simp at h7
   rw [h7] at h6
   simp at h6
 subst hqs
 have LD := longDivision_any w.heap.size (la + 1) (la + 1 - lb) (la + 1) D (a * 2 ^ s) RA _ w2 HWA2.out HRAL.out HRAD.out HRAV.out hrow (fun j hj => by have : j = w1.heap.size := hj; omega) hD0 (by rw [HDL.out]; omega) (by omega) HALT.out (by omega) (Nat.le_refl _) (by omega)
 unfold LongEnd at LD
 have HLD := Lib.hid LD
 clear LD HTR hqp hrow
 go_wp2_with fail
 go_must (refine HLD.out.mono ?_)
 rintro e w3 ⟨Q, R, rfl, hQl, hQd, hQv, hRl, hRd, hRv, hWQ, hWR, hk3⟩
 have hg3 : w2.heap.size < w3.heap.size := hWQ.lt
 have SR := shiftRight_any w.heap.size (la + 1) (la + 1) s R w3 hWR hRl hRd hs31 (by omega) (Nat.le_refl _)
 have hRv2 : valDW R / 2 ^ s = a % b := by
  rw [hRv, ← HDD.out, Nat.mul_mod_mul_right, Nat.mul_div_cancel _ (Nat.two_pow_pos s)]
 have hQv2 : valDW Q = a / b := by
  rw [hQv, ← HDD.out, Nat.mul_div_mul_right _ _ (Nat.two_pow_pos s)]
 unfold ShrEnd at SR
 rw [hRv2] at SR
 have HSR := Lib.hid SR
 have HQL := Lib.hid hQl
 have HQD := Lib.hid hQd
 have HQV := Lib.hid hQv2
 have HWQ := Lib.hid hWQ
 have HB3 : Hid (Below w.heap.size w w3) := Lib.hid (HB2.out.trans (hk3.below HB2.out.size (by intro k hk; omega)))
 clear SR hQl hQd hQv hRl hRd hRv hWQ hWR hk3 HLD hRv2 hQv2
 go_wp2_with fail
 go_must (refine HSR.out.mono ?_)
 rintro e w4 ⟨R4, ⟨v4, rfl⟩, hR4l, hR4d, hR4v, hW4, hk4⟩
 have hWQ4 := HWQ.out.keeps hk4 (by omega)
 have TQ := trimmed_loc (some ⟨w2.heap.size, 0, none⟩) (la + 1 - lb) Q w4 (hWQ4.row0 (by rw [HQL.out]; omega) (by omega)) HQD.out (by rw [HQL.out]; omega)
 rw [HQL.out, HQV.out] at TQ
 have T4 := trimmed_loc (some ⟨w.heap.size, 0, none⟩) (la + 1) R4 w4 (hW4.row0 (by omega) (by omega)) hR4d (by omega)
 rw [hR4l, hR4v] at T4
 unfold TrimEnd at TQ T4
 have HTQ := Lib.hid TQ
 have HT4 := Lib.hid T4
 have HB4 : Hid (Below w.heap.size w w4) := Lib.hid (HB3.out.trans (hk4.below HB3.out.size (by intro k hk; omega)))
 clear hWQ4 TQ T4 hR4l hR4d hR4v hW4 hk4 HSR
 go_wp2_with fail
 go_must (refine HTQ.out.mono ?_)
 rintro e w5 ⟨qq, mq, kq, rfl, _, hrq, rfl⟩
 have HRQ := Lib.hid hrq
 clear hrq HTQ
 go_wp2_with fail
 go_must (refine HT4.out.mono ?_)
 rintro e w5 ⟨qr, mr, kr, rfl, _, hrr, rfl⟩
 have HRR := Lib.hid hrr
 clear hrr HT4
 go_wp2_with fail
 refine bodyPost_ret (v := .tuple #[.slice qq mq kq, .slice qr mr kr]) (by simp [results, Tryz.results103, go_sem]) rfl ?_
 exact ⟨_, _, _, _, _, _, rfl, HRQ.out, HRR.out, HB4.out⟩
theorem divide_any (u v : Value) (a b : Nat) (w : World) (hu : Row .u32 w u (natI (digsW a))) (hv : Row .u32 w v (natI (digsW b))) (hal : (digsW a).length ≤ 400000) (hb : b ≠ 0) :
  Calls Tryz.prog 103 #[u, v] w (DivsEnd a b w) := by
 rcases Nat.lt_or_ge (digsW a).length (digsW b).length with h | h
 ·exact divide_less u v a b w hu hv hal h
 ·rcases Nat.lt_or_ge 2 (digsW a).length with h2 | h2
  ·exact divide_long u v a b w hu hv h2 (by omega) (by omega) hb
  ·exact divide_short u v a b w hu hv h2 (by omega) hb
theorem wDiv_any (x y : Value) (a b : Int) (w : World) (hx : IAt w x a) (hy : IAt w y b) (ha : (digsW a.natAbs).length ≤ 400000) (hb : (digsW b.natAbs).length ≤ 400000) (h0 : b ≠ 0) :
  Calls Tryz.prog 75 #[x, y] w (DivEndW a b w) :=
 wDiv_of x y a b w hx hy ha hb h0 fun W u v hu hv => divide_any u v a.natAbs b.natAbs W hu hv ha (by omega)
end Go.Proofs.YtepakogbbomaoaaGreatDoor
