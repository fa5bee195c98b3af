/-
 The program's reader: Uint, Int, Bool, End, Read. The program's reader: Int, Bool, End, Read. The program's reader: lists, Text, Raw, Ints. The program's reader: Text; the laws' examples. The laws' examples.
-/
import Derived.Test.YtepakogbbomaoaaGreatDoorDvAW
import Derived.Laws.Bits64b
import Derived.Laws.BytesArg
namespace Go.Proofs.YtepakogbbomaoaaGreatDoor
open Go.RowKit Go.Shelf
set_option linter.unusedVariables false
set_option maxRecDepth 100000
def Rx (W : World) (r b : Nat) (s : RS) : Prop := ∃ l', Rw W r b (l', s.2) ∧ (s.2 = 0 → l' = s.1)
def RxEnd (r b : Nat) (x : Value) (s : RS) (w : World) (e : Ending) (w' : World) : Prop := e = .returned x ∧ Rx w' r b s ∧ Keeps (fun k => k = r) w w'
theorem rx_of {W : World} {r b : Nat} {s : RS} (h : Rw W r b s) : Rx W r b s := ⟨s.1, h, fun _ => rfl⟩
theorem rx_bad {W : World} {r b : Nat} {s t : RS} (h : Rw W r b s) (he : s.2 = t.2) (h0 : s.2 ≠ 0) : Rx W r b t := ⟨s.1, by rw [← he]; exact h, fun h => absurd (he.trans h) h0⟩
theorem Rx.ok {W : World} {r b : Nat} {l : List Nat} (h : Rx W r b (l, 0)) : Rw W r b (l, 0) := by
 obtain ⟨l', h1, h2⟩ := h
 obtain rfl : l' = l := h2 rfl
 exact h1
theorem rx_keeps {A : Foot} {W W2 : World} {r b : Nat} {s : RS} (h : Rx W r b s) (hk : Keeps A W W2) (hr : ¬ A r) (hb : ¬ A b) : Rx W2 r b s := by
 obtain ⟨l', h1, h2⟩ := h
 exact ⟨l', rw_keeps h1 hk hr hb, h2⟩
theorem Rx.lts {W : World} {r b : Nat} {s : RS} (h : Rx W r b s) : r < W.heap.size := by
 obtain ⟨v, h1, _⟩ := h; exact h1.lts
theorem pow128 (i : Nat) : 128 ^ i = 2 ^ (7 * i) := by
 rw [show (128 : Nat) = 2 ^ 7 by decide, ← Nat.pow_mul]
theorem or_add {acc U d i : Nat} (hU : 128 ^ i = U) (ha : acc < U) : acc ||| (U * d) = acc + U * d := by
 rw [pow128] at hU
 subst hU
 rw [Nat.or_comm, ← Nat.two_pow_add_eq_or_of_lt ha, Nat.add_comm]
set_option maxRecDepth 100000 in
theorem low_fin : ∀ x : Fin 256, bits BinOp.andNot IntKind.u8 (x.val : Int) 128 = ((x.val % 128 : Nat) : Int) := by decide
theorem low_bits {c : Nat} (h : c < 256) : bits BinOp.andNot IntKind.u8 (c : Int) 128 = ((c % 128 : Nat) : Int) := low_fin ⟨c, h⟩
theorem acc_or {acc U d i : Nat} (hU : 128 ^ i = U) (ha : acc < U) (hb : U * d < 18446744073709551616) (h2 : U < 18446744073709551616) {X : Int} (hX : X = ((U * d : Nat) : Int)) :
  bits BinOp.or IntKind.u64 (acc : Int) X = ((acc + U * d : Nat) : Int) := by
 rw [hX, bits_or_u64_nat _ _ (by omega) hb, or_add hU ha]
theorem shl_form {U i d : Nat} (hU : 128 ^ i = U) (hb : U * d < 18446744073709551616) (hd : d < 256) {X : Int} (hX : X = (d : Int)) : IntKind.u64.wrap (IntKind.u64.wrap X * 2 ^ (7 * i)) = ((U * d : Nat) : Int) := by
 subst hX
 have e1 : IntKind.u64.wrap (d : Int) = (d : Int) := by rw [IntKind.wrap_u64]; omega
 have e2 : (2 : Int) ^ (7 * i) = (U : Int) := by rw [← hU, pow128, Int.natCast_pow]; rfl
 rw [e1, e2, IntKind.wrap_u64, ← Int.natCast_mul, Nat.mul_comm]
 omega
theorem mul_lt {U d i : Nat} (hU : 128 ^ i = U) (hi : i ≤ 8) (hd : d < 128) : U * d < 18446744073709551616 ∧ U < 18446744073709551616 := by
 have h := pow8_le hU hi
 have h1 : U * d ≤ U * 127 := Nat.mul_le_mul_left _ (by omega)
 omega
theorem got_mid {acc U c i : Nat} (hU : 128 ^ i = U) (ha : acc < U) (hi : i ≤ 8) (hc : c < 256) :
  bits BinOp.or IntKind.u64 (acc : Int) (IntKind.u64.wrap (IntKind.u64.wrap (bits BinOp.andNot IntKind.u8 (c : Int) 128) * 2 ^ (7 * i))) = ((acc + U * (c % 128) : Nat) : Int) := by
 obtain ⟨h1, h2⟩ := mul_lt (d := c % 128) hU hi (Nat.mod_lt _ (by decide))
 exact acc_or hU ha h1 h2 (shl_form hU h1 (by omega) (low_bits hc))
theorem got_zero {acc U c : Nat} (hU : 128 ^ 0 = U) (ha : acc < U) (hc : c < 256) :
  bits BinOp.or IntKind.u64 (acc : Int) (IntKind.u64.wrap (IntKind.u64.wrap (bits BinOp.andNot IntKind.u8 (c : Int) 128))) = ((acc + U * (c % 128) : Nat) : Int) := by
 obtain ⟨h1, h2⟩ := mul_lt (d := c % 128) hU (by decide) (Nat.mod_lt _ (by decide))
 refine acc_or hU ha h1 h2 ?_
 rw [low_bits hc, IntKind.wrap_u64, IntKind.wrap_u64, ← hU]
 omega
theorem got_last {acc U : Nat} (hU : 128 ^ 9 = U) (ha : acc < U) :
  bits BinOp.or IntKind.u64 (acc : Int) (IntKind.u64.wrap (IntKind.u64.wrap (bits BinOp.andNot IntKind.u8 1 128) * 9223372036854775808)) = ((acc + U * 1 : Nat) : Int) := by
 have e : U = 9223372036854775808 := by rw [← hU]
 refine acc_or hU ha (by rw [e]; decide) (by rw [e]; decide) ?_
 rw [show bits BinOp.andNot IntKind.u8 1 128 = 1 from low_fin ⟨1, by decide⟩, IntKind.wrap_u64, IntKind.wrap_u64, e]
 decide
theorem drd_val {r b : Nat} {l : List Nat} {w w1 : World} {acc U c i : Nat} (HR : Rw w1 r b (l.drop (i + 1), 0)) (hk : Keeps (fun k => k = r) w w1) (HD : l.drop i = c :: l.drop (i + 1)) (HS : shiftGot acc U (readVar i (l.drop i)) = readVar 0 l) (hb : ¬ badByte i c) (hc : c < 128)
  {X : Int} (hX : X = ((acc + U * c : Nat) : Int)) : RxEnd r b (.int .u64 ((rUint (l, 0)).1 : Nat)) (rUint (l, 0)).2 w (.returned (.int .u64 X)) w1 := by
 have e : rUint (l, 0) = (acc + U * c, (l.drop (i + 1), 0)) := by
  unfold rUint
  rw [if_pos rfl, ← HS, HD]
  show gotUint _ (shiftGot acc U (readVar i (c :: l.drop (i + 1)))) = _
  rw [readVar_stop acc U i c _ hb hc]; rfl
 rw [e, hX]
 exact ⟨rfl, rx_of HR, hk⟩
theorem drd_bad {r b : Nat} {l m : List Nat} {w w1 : World} {acc U c i : Nat} (HR : Rw w1 r b (m, 0)) (hk : Keeps (fun k => k = r) w w1) (HD : l.drop i = c :: l.drop (i + 1)) (HS : shiftGot acc U (readVar i (l.drop i)) = readVar 0 l) (hb : badByte i c) :
  RxEnd r b (.int .u64 ((rUint (l, 0)).1 : Nat)) (rUint (l, 0)).2 w (.returned (.int .u64 0)) (w1.setCell ⟨r, 1, none⟩ (.int .i64 2)) := by
 have e : rUint (l, 0) = (0, (l, 2)) := by
  unfold rUint
  rw [if_pos rfl, ← HS, HD]
  show gotUint _ (shiftGot acc U (readVar i (c :: l.drop (i + 1)))) = _
  rw [readVar_fault acc U i c _ hb]; rfl
 rw [e]
 exact ⟨rfl, rx_bad (s := (m, 2)) (rw_err HR 2) rfl (fun h => by cases h), hk.trans (keeps_set w1 r 1 _)⟩
set_option maxRecDepth 100000 in
set_option maxHeartbeats 8000000 in
theorem devRdUint_any (r b : Nat) (s : RS) (w : World) (h : Rx w r b s) :
  Calls Tryz.prog 94 #[.pointer (some ⟨r, 0, none⟩)] w (RxEnd r b (.int .u64 ((rUint s).1 : Nat)) (rUint s).2 w) := by
 obtain ⟨l, e⟩ := s
 by_cases he : e = 0
 ·subst he
  have HR0 := Lib.hid h.ok
  have h8 := h.ok.bytes
  have H8 := Lib.hid h8
  clear h h8
  go_enter Tryz.func94, Tryz.ntmps94
  go_wp2_with fail
  go_loopw [3, 4, 5] (fun nv iv bv wr => ∃ i acc : Nat, i ≤ 9 ∧ i ≤ l.length ∧ iv = .int .i64 (i : Int) ∧ nv = .int .u64 (acc : Int) ∧ Hid (acc < 128 ^ i) ∧ Hid (shiftGot acc (128 ^ i) (readVar i (l.drop i)) = readVar 0 l) ∧ Hid (Rw wr r b (l.drop i, 0)) ∧ Hid (Keeps (fun k => k = r) w wr)) (fun _ iv _ _ => l.length + 1 - (intOf iv).toNat)
  case atStart => exact ⟨0, 0, by decide, Nat.zero_le _, rfl, rfl, Lib.hid (by decide), Lib.hid (shiftGot_start _), HR0, Lib.hid (Keeps.refl _ _)⟩
  case round =>
   obtain ⟨i, acc, hi9, hil, rfl, rfl, HA, HS, HR, HK⟩ := hrel
   clear HR0
   go_wp2_with fail
   refine (devNext_any r b (l.drop i, 0) wr HR.out).mono ?_
   rintro e w1 ⟨rfl, hrd, hk1⟩
   by_cases hend : l.length ≤ i
   ·have hnil : l.drop i = [] := List.drop_of_length_le hend
    rw [hnil] at hrd
    rw [hnil] at HS
    have hrd' : Rw w1 r b ([], 3) := hrd
    have HRD := Lib.hid hrd'
    obtain ⟨a, cap, hc0, hc1, hf0, hf1, _⟩ := hrd'.cells
    have HE : Hid (rUint (l, 0) = (0, (l, 3))) := Lib.hid (by unfold rUint; rw [if_pos rfl, ← HS.out]; rfl)
    have HK1 := Lib.hid (HK.out.trans hk1)
    have hv : (rNext (l.drop i, 0)).1 = 0 := by rw [hnil]; rfl
    rw [hv]
    simp only at hc1
    clear hrd hrd' HR HK hk1 HS HA hv hnil
    go_wp2_with fail
    go_ret
    rw [HE.out]
    exact ⟨rfl, rx_bad (s := ([], 3)) HRD.out rfl (by decide), HK1.out⟩
   ·have hlt : i < l.length := by omega
    have HD := Lib.hid (List.drop_eq_getElem_cons hlt)
    have hc256 : l[i] < 256 := H8.out _ (List.getElem_mem hlt)
    have hv : rNext (l.drop i, 0) = (l[i], (l.drop (i + 1), 0)) := by rw [HD.out]; rfl
    rw [hv] at hrd ⊢
    have HRD := Lib.hid hrd
    obtain ⟨a, cap, hc0, hc1, hf0, hf1, _⟩ := hrd.cells
    have HK1 := Lib.hid (HK.out.trans hk1)
    simp only at hc1
    clear hrd HR HK hk1 hv hend
    generalize hcv : l[i] = c at *
    generalize hU : 128 ^ i = U at *
    have HU := Lib.hid hU
    clear hcv hU
    have hcases : (i = 9 ∧ 1 < c) ∨ (i = 9 ∧ c = 0) ∨ (i = 9 ∧ c = 1) ∨ (0 < i ∧ i < 9 ∧ c = 0) ∨ (0 < i ∧ i < 9 ∧ 0 < c ∧ c < 128) ∨ (0 < i ∧ i < 9 ∧ 128 ≤ c) ∨ (i = 0 ∧ c < 128) ∨ (i = 0 ∧ 128 ≤ c) := by omega
    rcases hcases with ⟨h1, h2⟩ | ⟨h1, h2⟩ | ⟨h1, h2⟩ | ⟨h1, h2, h3⟩ | ⟨h1, h2, h3, h4⟩ | ⟨h1, h2, h3⟩ | ⟨h1, h2⟩ | ⟨h1, h2⟩
    ·subst h1
     go_wp2_with fail
     go_ret
     exact drd_bad HRD.out HK1.out HD.out HS.out (.inl ⟨rfl, h2⟩)
    ·subst h1 h2
     go_wp2_with fail
     go_ret
     exact drd_bad HRD.out HK1.out HD.out HS.out (.inr ⟨by decide, rfl⟩)
    ·subst h1 h2
     have HX := Lib.hid (got_last HU.out HA.out)
     go_wp2_with fail
     go_ret
     exact drd_val HRD.out HK1.out HD.out HS.out (by rintro (⟨_, h⟩ | ⟨_, h⟩) <;> omega) (by decide) HX.out
    ·subst h3
     have b1 : ((i : Int) == 9) = false := by simp; omega
     go_wp2_with fail
     go_ret
     exact drd_bad HRD.out HK1.out HD.out HS.out (.inr ⟨h1, rfl⟩)
    ·have b1 : ((i : Int) == 9) = false := by simp; omega
     have b2 : ((c : Int) == 0) = false := by simp; omega
     have HX := Lib.hid (got_mid HU.out HA.out (by omega) hc256)
     rw [Nat.mod_eq_of_lt h4] at HX
     go_wp2_with fail
     go_ret
     exact drd_val HRD.out HK1.out HD.out HS.out (by rintro (⟨h, _⟩ | ⟨_, h⟩) <;> omega) h4 HX.out
    ·have b1 : ((i : Int) == 9) = false := by simp; omega
     have b2 : ((c : Int) == 0) = false := by simp; omega
     have HX := Lib.hid (got_mid HU.out HA.out (by omega) hc256)
     rw [show c % 128 = c - 128 by omega] at HX
     go_wp2_with fail
     go_roundw
     case rel =>
      refine ⟨i + 1, acc + U * (c - 128), by omega, by omega, by go_num, by rw [HX.out], Lib.hid (acc_lt HU.out HA.out hc256), Lib.hid ?_, HRD, HK1⟩
      rw [← HS.out, HD.out, readVar_step acc U i c _ (by rintro (⟨h, _⟩ | ⟨_, h⟩) <;> omega) (by omega), Nat.pow_succ, HU.out]
     case measure => simp [intOf]; omega
    ·subst h1
     have HX := Lib.hid (got_zero HU.out HA.out hc256)
     rw [Nat.mod_eq_of_lt h2] at HX
     go_wp2_with fail
     go_ret
     exact drd_val HRD.out HK1.out HD.out HS.out (by rintro (⟨h, _⟩ | ⟨h, _⟩) <;> omega) h2 HX.out
    ·subst h1
     have HX := Lib.hid (got_zero HU.out HA.out hc256)
     rw [show c % 128 = c - 128 by omega] at HX
     go_wp2_with fail
     go_roundw
     case rel =>
      refine ⟨0 + 1, acc + U * (c - 128), by omega, by omega, by go_num, by rw [HX.out], Lib.hid (acc_lt HU.out HA.out hc256), Lib.hid ?_, HRD, HK1⟩
      rw [← HS.out, HD.out, readVar_step acc U 0 c _ (by rintro (⟨h, _⟩ | ⟨h, _⟩) <;> omega) (by omega), Nat.pow_succ, HU.out]
     case measure => simp [intOf] <;> omega
 ·have HR := Lib.hid h
  have HE : Hid (rUint (l, e) = (0, (l, e))) := Lib.hid (rUint_err he)
  have b1 : ((e : Int) != 0) = true := by simp; omega
  go_enter Tryz.func94, Tryz.ntmps94
  go_wp2_with fail
  go_loopw [3, 4, 5] (fun nv iv bv wr => iv = .int .i64 0 ∧ nv = .int .u64 0 ∧ w = wr) (fun _ iv _ _ => 0)
  case atStart => exact ⟨rfl, rfl, rfl⟩
  case round =>
   obtain ⟨rfl, rfl, rfl⟩ := hrel
   obtain ⟨l', hw, _⟩ := HR.out
   go_wp2_with fail
   refine (devNext_any r b (l', e) w hw).mono ?_
   rintro e1 w1 ⟨rfl, hrd, hk1⟩
   have hv : rNext (l', e) = (0, (l', e)) := by unfold rNext; rw [if_pos he]
   rw [hv] at hrd ⊢
   have HRD := Lib.hid hrd
   obtain ⟨a, cap, hc0, hc1, hf0, hf1, _⟩ := hrd.cells
   simp only at hc1
   clear hrd hw hv
   go_wp2_with fail
   go_ret
   rw [HE.out]
   exact ⟨rfl, rx_bad (s := (l', e)) HRD.out rfl he, hk1⟩
theorem wrap_i64 (n : Int) : IntKind.i64.wrap n = wrap64 n := by
 unfold wrap64
 simp only [IntKind.wrap, IntKind.bits, IntKind.signed]
 simp
 try omega
set_option maxHeartbeats 1000000 in
theorem devRdEnd_any (r b : Nat) (s : RS) (w : World) (h : Rx w r b s) :
  Calls Tryz.prog 25 #[.pointer (some ⟨r, 0, none⟩)] w fun e w' => e = .returned (.int .i64 ((rEnd s : Nat) : Int)) ∧ w = w' := by
 obtain ⟨l', h1, h2⟩ := h
 obtain ⟨a, cap, hc0, hc1, _, _, _, _, _, _, _, _, _⟩ := h1.cells
 clear h1
 obtain ⟨l, e⟩ := s
 simp only at hc0 hc1 h2
 by_cases he : e = 0
 ·subst he
  obtain rfl : l' = l := h2 rfl
  clear h2
  by_cases hl : l' = []
  ·have hl0 : ¬ 0 < l'.length := by rw [hl]; simp
   have HE : Hid (rEnd (l', 0) = 0) := Lib.hid (by unfold rEnd; rw [if_neg (fun h => h.2 hl)])
   clear hl
   go_enter Tryz.func25, Tryz.ntmps25
   go_wp2_with fail
   go_ret
   exact ⟨by rw [HE.out]; rfl, rfl⟩
  ·have hl0 : 0 < l'.length := List.length_pos_iff.2 hl
   have HE : Hid (rEnd (l', 0) = 2) := Lib.hid (by unfold rEnd; rw [if_pos ⟨rfl, hl⟩])
   clear hl
   go_enter Tryz.func25, Tryz.ntmps25
   go_wp2_with fail
   go_ret
   exact ⟨by rw [HE.out]; rfl, rfl⟩
 ·have b1 : ((e : Int) == 0) = false := by simp; omega
  have HE : Hid (rEnd (l, e) = e) := Lib.hid (by unfold rEnd; rw [if_neg (fun h => he h.1)])
  clear he h2
  go_enter Tryz.func25, Tryz.ntmps25
  go_wp2_with fail
  go_ret
  exact ⟨by rw [HE.out]; rfl, rfl⟩
def ReadNew (l : List Nat) (w : World) (e : Ending) (w' : World) : Prop :=
 ∃ r b, e = .returned (.pointer (some ⟨r, 0, none⟩)) ∧ Rw w' r b (l, 0) ∧ w.heap.size ≤ r ∧ w.heap.size ≤ b ∧ b < w'.heap.size ∧ Below w.heap.size w w'
set_option maxHeartbeats 2000000 in
theorem devRead_any (v : Value) (l : List Nat) (w : World) (hv : Row .u8 w v (natI l)) (h8 : ∀ c ∈ l, c < 256) (hlen : l.length ≤ 1000000) :
  Calls Tryz.prog 21 #[v] w (ReadNew l w) := by
 have HV := Lib.hid hv
 have H8 := Lib.hid h8
 clear h8
 obtain ⟨p, vc, rfl, hcap, hcm, hne, hnil⟩ := hv
 rw [natI_length] at *
 clear hne hnil
 go_enter Tryz.func21, Tryz.ntmps21
 go_wp2_with fail
 refine (clone_any _ (natI l) w HV.out (by rw [natI_length]; omega)).mono ?_
 rintro e w1 ⟨v1, rfl, h1, hb1⟩
 have H1 := Lib.hid h1
 obtain ⟨a, cap, rfl, _, _⟩ := fresh_elems h1
 rw [natI_length] at *
 clear h1
 go_wp2_with fail
 go_ret
 have hL := Laid.new w1 91 [.slice a l.length cap, .int .i64 0]
 have hbe : Below w1.heap.size w1 (w1.alloc (.cells #[.slice a l.length cap, .int .i64 0] 91)) := (Below.refl _ w1).alloc (Nat.le_refl _) _
 have hrow := row_keeps (row_of_fresh H1.out) hbe
 have hsz : (w1.alloc (.cells #[.slice a l.length cap, .int .i64 0] 91)).heap.size = w1.heap.size + 1 := by simp
 have hbel := below_then hb1 hbe
 rcases fresh_form H1.out with ⟨e1, e2⟩ | ⟨g, c2, e1, hg1, hg2, _, _⟩
 ·injection e1 with e1 _ e3
  subst e1 e3
  refine ⟨w1.heap.size, w1.heap.size, rfl, ⟨_, hL, hrow, fun j h => h.elim, H8.out, hlen, ?_⟩, hb1.size, hb1.size, by omega, hbel⟩
  have : l = [] := by cases l with | nil => rfl | cons _ _ => simp [natI] at e2
  subst this
  exact .inl rfl
 ·injection e1 with e1 _ e3
  subst e1 e3
  exact ⟨w1.heap.size, g, rfl, ⟨_, hL, hrow, fun j hj => ⟨hj, by omega⟩, H8.out, hlen, .inr ⟨_, _, _, _, rfl⟩⟩, hb1.size, hg1, by omega, hbel⟩
theorem made_zero (k : IntKind) (n : Nat) : (madeCells (Value.int k 0).cells (n * 1)).toList = (List.replicate n (0 : Int)).map (Value.int k) := by
 refine List.ext_getElem (by simp [madeCells]) fun j h1 h2 => ?_
 simp [madeCells, Value.cells, Nat.mod_one]
theorem wpList_make_fresh {W : World} {ops : Array Oper} {rest : List Oper} {o : Oper} {a : Act} {Q : Exit → Act → World → Prop} (hg : o.guard = none) (l c : Operand) (t : TypeId) (hop : o.op = Op.makeSlice t l c)
  (B : Nat) (e : TypeId) (i : TypeInfo) (k : IntKind) (bytes : Nat) (ht : Tryz.prog.underlying t = some (.slice e)) (hi : Tryz.prog.info? e = some i) (hz : i.zero = some (.int k 0)) (hsize : i.size = 1) (hby : i.bytes = bytes) (hb8 : bytes ≤ 8)
  (kl kc : IntKind) (L C : Int) (n : Nat) (hl : a.eval l = .int kl L) (hc : a.eval c = .int kc C) (hL : L = (n : Int)) (hC : C = (n : Int)) (hn : n ≤ 1000000000) (hB : B ≤ W.heap.size)
  (hK : ∀ w', Fresh B e k w' (.slice (some ⟨W.heap.size, 0, none⟩) n n) (List.replicate n 0) → Below W.heap.size W w' → w'.heap.size ≥ W.heap.size → wpList Tryz.prog ops Q rest (a.put o.dst (.slice (some ⟨W.heap.size, 0, none⟩) n n)) w') :
  wpList Tryz.prog ops Q (o :: rest) a W := by
 have h2 : i.bytes * n ≤ 281474976710656 := by
  rw [hby]
  have : bytes * n ≤ 8 * n := Nat.mul_le_mul_right _ hb8
  omega
 refine wpList_make_full W hg l c t hop B e i (.int k 0) 1 ht hi hz hsize kl kc L C n hl hc hL hC h2 (by unfold maxLen; omega) hB (fun w' h1 h2 => ?_)
 refine hK w' ?_ ((Below.refl _ W).grown h2 (Nat.le_refl _) (fun k h => by cases h)) h2.size
 unfold Fresh
 rw [List.length_replicate, ← made_zero]
 exact h1
theorem set_fill {pre : List Int} {k m : Nat} (hk : pre.length = k) (x : Int) : (pre ++ List.replicate (m + 1) 0).set k x = (pre ++ [x]) ++ List.replicate m 0 := by
 subst hk
 rw [List.set_append_right _ _ (Nat.le_refl _), Nat.sub_self, List.replicate_succ, List.set_cons_zero, List.append_assoc]
 rfl
theorem rUint_zero {s : RS} (h : (rUint s).2.2 ≠ 0) : (rUint s).1 = 0 := by
 unfold rUint at *
 by_cases h0 : s.2 = 0
 ·rw [if_pos h0] at *
  cases hr : readVar 0 s.1 with
  | err k => rfl
  | val n r => rw [hr] at h; exact absurd rfl h
 ·rw [if_neg h0]
theorem fresh_frozen2 {H : Nat} {e : TypeId} {k : IntKind} {w : World} {g cap n : Nat} {zs : List Int} (h : Fresh H e k w (.slice (some ⟨g, 0, none⟩) n cap) zs) (hn : n = zs.length) (j : Nat) : w.frozen? ⟨g, j, none⟩ = false := by
 subst hn; exact fresh_frozen h j
theorem fill_store {t : TypeId} {k : IntKind} {W : World} {B r b n cap : Nat} {zs : List Int} {s : RS} {H : Nat} (hf : Fresh H t k W (.slice (some ⟨B, 0, none⟩) n cap) zs) (hn : n = zs.length) (hr : Rx W r b s) (hB : B ≠ r) (hb : b ≠ B) (j : Nat) (c : Int) :
  Fresh H t k (W.setCell ⟨B, j, none⟩ (.int k c)) (.slice (some ⟨B, 0, none⟩) n cap) (zs.set j c) ∧ Rx (W.setCell ⟨B, j, none⟩ (.int k c)) r b s ∧ Keeps (fun i => i = B) W (W.setCell ⟨B, j, none⟩ (.int k c)) :=
 ⟨(fresh_store2 hf hn j c).1, rx_keeps hr (keeps_set W B j _) (fun h => hB h.symm) hb, keeps_set W B j _⟩
def ListEnd (t : TypeId) (k : IntKind) (r b : Nat) (zs : List Int) (s : RS) (w : World) (e : Ending) (w' : World) : Prop :=
 ∃ v, e = .returned v ∧ Fresh w.heap.size t k w' v zs ∧ Rx w' r b s ∧ Keeps (fun k => k = r) w w'
set_option maxRecDepth 100000 in
set_option maxHeartbeats 4000000 in
theorem devBytes_any (r b : Nat) (s : RS) (w : World) (h : Rx w r b s) (hs : ∀ c ∈ s.1, c < 256) (hb : b < w.heap.size) :
  Calls Tryz.prog 63 #[.pointer (some ⟨r, 0, none⟩), .func (.func 64) #[.pointer (some ⟨r, 0, none⟩)] #[]] w (ListEnd 5 .u8 r b (natI (rRaw s).1) (rRaw s).2 w) := by
 obtain ⟨i0, hi, hz0, hz1, hz2⟩ := info_parts info_u8
 have HRD := Lib.hid h
 have HLT := Lib.hid (rUint_lt hs)
 have HZ := Lib.hid (rUint_zero (s := s))
 have hr0 := h.lts
 have hdef : rRaw s = if (rLen s).2.2 ≠ 0 then ([], (rLen s).2) else ((rLen s).2.1.take (rLen s).1, ((rLen s).2.1.drop (rLen s).1, 0)) := rfl
 have HDF : Hid (rLen s = if (rUint s).2.2 ≠ 0 then (0, (rUint s).2) else if (rUint s).2.1.length < (rUint s).1 then (0, ((rUint s).2.1, 3)) else rUint s) := Lib.hid rfl
 have HDR := Lib.hid hdef
 clear h hdef
 go_enter Tryz.func63, Tryz.ntmps63
 go_wp2_with fail
 refine (devRdUint_any r b s w HRD.out).mono ?_
 rintro e w1 ⟨rfl, hrd, hk⟩
 have HR1 := Lib.hid hrd
 have HK1 := Lib.hid hk
 clear hk HRD
 generalize rRaw s = out at *
 generalize rLen s = len at *
 generalize rUint s = q at *
 obtain ⟨n, l1, e1⟩ := q
 obtain ⟨l', h1, h2⟩ := hrd
 simp only at *
 have hsh := h1.short
 simp only at hsh
 obtain ⟨a, cap, hc0, hc1, hf0, hf1, hcap, hcm, _, _, _, _, _⟩ := h1.cells
 simp only at *
 by_cases he : e1 = 0
 ·subst he
  obtain rfl : l' = l1 := h2 rfl
  by_cases hlt : l'.length < n
  ·have HO : Hid (out = ([], (l', 3))) := Lib.hid (by rw [HDR.out, HDF.out]; simp [hlt])
   have HRX := Lib.hid (rw_err h1 3)
   clear h1 h2 hcap hcm
   have hn64 := HLT.out
   go_wp2_with fail
   go_ret
   rw [HO.out]
   exact ⟨_, rfl, fresh_nil _ _ _ _, rx_of HRX.out, HK1.out.trans (keeps_set w1 r 1 _)⟩
  ·have HO : Hid (out = (l'.take n, (l'.drop n, 0))) := Lib.hid (by rw [HDR.out, HDF.out]; simp [hlt])
   have hn : n ≤ l'.length := by omega
   clear h1 h2 hcap hcm
   have hn64 := HLT.out
   go_wp2_with (at_make; go_must (refine wpList_make_fresh rfl _ _ 50 rfl w.heap.size 5 i0 .u8 1 under_bytes hi hz0 hz1 hz2 (by decide) _ _ _ _ n rfl rfl rfl rfl (by omega) HK1.out.size ?_); intro w2 hfr hbe hsz)
   have hBw : w.heap.size ≤ w1.heap.size := HK1.out.size
   have hw2 := (hfr.lt _ rfl).2
   have HF0 := Lib.hid hfr
   have HR0 : Hid (Rw w2 r b (l', 0)) := Lib.hid (rw_keeps HR1.out.ok (Keeps.of_below hbe) (by omega) (by omega))
   have HK0 : Hid (Keeps (fun k => k = r) w w2) := Lib.hid (HK1.out.trans (Keeps.of_below_size hbe))
   generalize w1.heap.size = B at *
   clear hfr hbe hsz HR1 HK1 hc0 hc1 hf0 hf1
   go_loopw [25] (fun iv wr => ∃ k : Nat, k ≤ n ∧ iv = .int .i64 (k : Int) ∧ Hid (Fresh w.heap.size 5 .u8 wr (.slice (some ⟨B, 0, none⟩) n n) (natI (l'.take k) ++ List.replicate (n - k) 0)) ∧ Hid (Rw wr r b (l'.drop k, 0)) ∧ Hid (Keeps (fun k => k = r) w wr)) (fun iv _ => n - (intOf iv).toNat)
   case atStart => exact ⟨0, Nat.zero_le _, rfl, HF0, HR0, HK0⟩
   case round =>
    obtain ⟨k, hk, rfl, HF, HR, HK⟩ := hrel
    clear HF0 HR0 HK0
    by_cases hlt2 : k < n
    ·go_wp2_with fail
     refine (devNext_any r b (l'.drop k, 0) wr HR.out).mono ?_
     rintro e2 w3 ⟨rfl, hrd3, hk3⟩
     have hlk : k < l'.length := by omega
     have hv : rNext (l'.drop k, 0) = (l'[k], (l'.drop (k + 1), 0)) := by rw [List.drop_eq_getElem_cons hlk]; rfl
     rw [hv] at hrd3 ⊢
     have hln : (natI (l'.take k)).length = k := by rw [natI_length, List.length_take]; omega
     have HF3 : Fresh w.heap.size 5 .u8 w3 (.slice (some ⟨B, 0, none⟩) n n) (natI (l'.take k) ++ List.replicate (n - k) 0) := fresh_foot HF.out hk3 (fun j hj e => by omega)
     have hzl : n = (natI (l'.take k) ++ List.replicate (n - k) 0).length := by rw [List.length_append, hln, List.length_replicate]; omega
     have hcB := fresh_cell HF3 (j := k) (by omega)
     have hfB := fresh_frozen2 HF3 hzl k
     obtain ⟨hs1, hs2, hs3⟩ := fill_store HF3 hzl (rx_of hrd3) (by omega) (by omega) k (l'[k] : Int)
     have HS1 : Hid (Fresh w.heap.size 5 .u8 (w3.setCell ⟨B, k, none⟩ (.int .u8 (l'[k] : Int))) (.slice (some ⟨B, 0, none⟩) n n) (natI (l'.take (k + 1)) ++ List.replicate (n - (k + 1)) 0)) := by
      rw [show n - k = (n - (k + 1)) + 1 by omega, set_fill hln] at hs1
      rw [List.take_succ_eq_append_getElem hlk, natI_append]
      exact Lib.hid hs1
     have hs2' := hs2.ok
     obtain ⟨a2, cap2, hd0, hd1, hg0, hg1, _⟩ := hs2'.cells
     simp only at hd1
     have HS2 := Lib.hid hs2'
     have HK3 : Hid (Keeps (fun k => k = r) w (w3.setCell ⟨B, k, none⟩ (.int .u8 (l'[k] : Int)))) := Lib.hid (keeps_own (HK.out.trans hk3) hBw _)
     generalize l'[k] = c at *
     generalize (natI (l'.take k) ++ List.replicate (n - k) 0)[k]?.getD 0 = old at *
     clear hs1 hs2 hs2' hs3 HF3 hrd3 HF HR HK hk3 hln hzl
     go_wp2_with fail
     go_roundw
     case rel => exact ⟨k + 1, by omega, by go_num, HS1, HS2, HK3⟩
     case measure => simp [intOf]; omega
    ·obtain rfl : k = n := by omega
     go_wp2_with fail
     go_ret
     rw [HO.out]
     refine ⟨_, rfl, ?_, rx_of HR.out, HK.out⟩
     have := HF.out
     rw [Nat.sub_self, List.replicate_zero, List.append_nil] at this
     exact this
 ·have hn0 : n = 0 := HZ.out he
  subst hn0
  have HO : Hid (out = ([], (l1, e1))) := Lib.hid (by rw [HDR.out, HDF.out]; simp [he])
  have hn64 := HLT.out
  go_wp2_with (at_make; go_must (refine wpList_make_fresh rfl _ _ 50 rfl w.heap.size 5 i0 .u8 1 under_bytes hi hz0 hz1 hz2 (by decide) _ _ _ _ 0 rfl rfl rfl rfl (by omega) HK1.out.size ?_); intro w2 hfr hbe hsz)
  have hBw : w.heap.size ≤ w1.heap.size := HK1.out.size
  have HF0 := Lib.hid hfr
  have HR0 : Hid (Rx w2 r b (l1, e1)) := Lib.hid (rx_keeps HR1.out (Keeps.of_below hbe) (by omega) (by omega))
  have HK0 : Hid (Keeps (fun k => k = r) w w2) := Lib.hid (HK1.out.trans (Keeps.of_below_size hbe))
  clear hfr hbe hsz HR1 HK1 hc0 hc1 hf0 hf1
  go_loopw [25] (fun iv wr => iv = .int .i64 0 ∧ w2 = wr) (fun iv _ => 0)
  case atStart => exact ⟨rfl, rfl⟩
  case round =>
   obtain ⟨rfl, rfl⟩ := hrel
   go_wp2_with fail
   go_ret
   rw [HO.out]
   exact ⟨_, rfl, HF0.out, HR0.out, HK0.out⟩
theorem strB_nums {l : List Nat} (h : ∀ c ∈ l, c < 256) : strB (strOfNums (natI l)) = l := by
 unfold strB
 rw [strOfNums_data, List.map_map]
 unfold natI
 rw [List.map_map]
 conv => rhs; rw [← List.map_id l]
 refine List.map_congr_left fun c hc => ?_
 have := h c hc
 simp only [Function.comp, id, Int.toNat_natCast]
 exact UInt8.toNat_ofNat_of_lt' this
theorem conv_string {W : World} {v : Value} {xs : List Int} (h : Row .u8 W v xs) : (convert 50 9 v).run Tryz.prog W = .ok (.string (strOfNums xs)) W := by
 obtain ⟨a, c, rfl, h2, h3, h4, h5⟩ := h
 cases a with
 | none =>
  obtain ⟨rfl, rfl⟩ := h5 rfl
  exact run_convert_bytes_nil (P := Tryz.prog) W _ _ under_bytes Tryz.underlying5 _ _ _ under_str
 | some a =>
  by_cases hx : xs = []
  ·subst hx
   obtain ⟨b, off, s⟩ := a
   rw [run_convert_bytes_string (P := Tryz.prog) W _ _ _ _ _ _ under_bytes Tryz.underlying5 under_str]
   simp [Conv.bytesToString, loadCells, loadCellsFrom]
   rfl
  ·obtain ⟨b, off, e, hc⟩ := h4 hx
   injection e with e
   subst e
   refine run_convert_bytes_arg (P := Tryz.prog) W 50 5 under_bytes Tryz.underlying5 b off xs.length c xs rfl (fun i hi => ?_) _ under_str
   rw [hc i hi, List.getD_eq_getElem?_getD]
def TextEnd (r b : Nat) (l : List Nat) (s : RS) (w : World) (e : Ending) (w' : World) : Prop := e = .returned (.string (strOfNums (natI l))) ∧ Rx w' r b s ∧ Keeps (fun k => k = r) w w'
set_option maxHeartbeats 1000000 in
theorem devRdText_any (r b : Nat) (s : RS) (w : World) (h : Rx w r b s) (hs : ∀ c ∈ s.1, c < 256) (hb : b < w.heap.size) :
  Calls Tryz.prog 24 #[.pointer (some ⟨r, 0, none⟩)] w (TextEnd r b (rRaw s).1 (rRaw s).2 w) := by
 have HC := Lib.hid (devBytes_any r b s w h hs hb)
 clear h
 unfold ListEnd at HC
 go_enter Tryz.func24, Tryz.ntmps24
 go_wp2_with fail
 refine HC.out.mono ?_
 rintro e w1 ⟨v, rfl, h1, h2, h3⟩
 have H1 := Lib.hid (And.intro h2 h3)
 have hq := conv_string (row_of_fresh h1)
 clear h1 h2 h3
 go_wp2_with fail
 go_ret
 exact ⟨rfl, H1.out.1, H1.out.2⟩
theorem rx_below {W W2 : World} {r b : Nat} {s : RS} (h : Rx W r b s) (hb : b < W.heap.size) (hk : Below W.heap.size W W2) : Rx W2 r b s :=
 rx_keeps h (Keeps.of_below hk) (by have := h.lts; omega) (by omega)
end Go.Proofs.YtepakogbbomaoaaGreatDoor
