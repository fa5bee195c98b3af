/-
  The program's reader: Uint, Int, Bool, End, Read.
-/
import Derived.Test.YtigjcnjhmhepeaaDevD
import Derived.Laws.Bits64b
namespace Go.Proofs.Ytigjcnjhmhepeaa
open Go.RowKit Go.Shelf
set_option linter.unusedVariables false

/-- The program's reader is in the state s, as far as there is no error: with an error, what is left plays no part. -/
def Rx (W : World) (r b : Nat) (s : RS) : Prop := ∃ l', Rw W r b (l', s.2) ∧ (s.2 = 0 → l' = s.1)
def RxEnd (r b : Nat) (x : Value) (s : RS) (w : World) (e : Ending) (w' : World) : Prop := e = .returned x ∧ Rx w' r b s ∧ Keeps (fun k => k = r) w w'

theorem rx_of {W : World} {r b : Nat} {s : RS} (h : Rw W r b s) : Rx W r b s := ⟨s.1, h, fun _ => rfl⟩
theorem rx_bad {W : World} {r b : Nat} {s t : RS} (h : Rw W r b s) (he : s.2 = t.2) (h0 : s.2 ≠ 0) : Rx W r b t := ⟨s.1, by rw [← he]; exact h, fun h => absurd (he.trans h) h0⟩
theorem Rx.ok {W : World} {r b : Nat} {l : List Nat} (h : Rx W r b (l, 0)) : Rw W r b (l, 0) := by
  obtain ⟨l', h1, h2⟩ := h
  obtain rfl : l' = l := h2 rfl
  exact h1
theorem rx_keeps {A : Foot} {W W2 : World} {r b : Nat} {s : RS} (h : Rx W r b s) (hk : Keeps A W W2) (hr : ¬ A r) (hb : ¬ A b) : Rx W2 r b s := by
  obtain ⟨l', h1, h2⟩ := h
  exact ⟨l', rw_keeps h1 hk hr hb, h2⟩
theorem Rx.lts {W : World} {r b : Nat} {s : RS} (h : Rx W r b s) : r < W.heap.size := by
  obtain ⟨v, h1, _⟩ := h; exact h1.lts

theorem pow128 (i : Nat) : 128 ^ i = 2 ^ (7 * i) := by
  rw [show (128 : Nat) = 2 ^ 7 by decide, ← Nat.pow_mul]
theorem or_add {acc U d i : Nat} (hU : 128 ^ i = U) (ha : acc < U) : acc ||| (U * d) = acc + U * d := by
  rw [pow128] at hU
  subst hU
  rw [Nat.or_comm, ← Nat.two_pow_add_eq_or_of_lt ha, Nat.add_comm]

set_option maxRecDepth 100000 in
theorem low_fin : ∀ x : Fin 256, bits BinOp.andNot IntKind.u8 (x.val : Int) 128 = ((x.val % 128 : Nat) : Int) := by decide
theorem low_bits {c : Nat} (h : c < 256) : bits BinOp.andNot IntKind.u8 (c : Int) 128 = ((c % 128 : Nat) : Int) := low_fin ⟨c, h⟩
theorem acc_or {acc U d i : Nat} (hU : 128 ^ i = U) (ha : acc < U) (hb : U * d < 18446744073709551616) (h2 : U < 18446744073709551616) {X : Int} (hX : X = ((U * d : Nat) : Int)) :
    bits BinOp.or IntKind.u64 (acc : Int) X = ((acc + U * d : Nat) : Int) := by
  rw [hX, bits_or_u64_nat _ _ (by omega) hb, or_add hU ha]
theorem shl_form {U i d : Nat} (hU : 128 ^ i = U) (hb : U * d < 18446744073709551616) (hd : d < 256) {X : Int} (hX : X = (d : Int)) : IntKind.u64.wrap (IntKind.u64.wrap X * 2 ^ (7 * i)) = ((U * d : Nat) : Int) := by
  subst hX
  have e1 : IntKind.u64.wrap (d : Int) = (d : Int) := by rw [IntKind.wrap_u64]; omega
  have e2 : (2 : Int) ^ (7 * i) = (U : Int) := by rw [← hU, pow128, Int.natCast_pow]; rfl
  rw [e1, e2, IntKind.wrap_u64, ← Int.natCast_mul, Nat.mul_comm]
  omega
theorem mul_lt {U d i : Nat} (hU : 128 ^ i = U) (hi : i ≤ 8) (hd : d < 128) : U * d < 18446744073709551616 ∧ U < 18446744073709551616 := by
  have h := pow8_le hU hi
  have h1 : U * d ≤ U * 127 := Nat.mul_le_mul_left _ (by omega)
  omega
theorem got_mid {acc U c i : Nat} (hU : 128 ^ i = U) (ha : acc < U) (hi : i ≤ 8) (hc : c < 256) :
    bits BinOp.or IntKind.u64 (acc : Int) (IntKind.u64.wrap (IntKind.u64.wrap (bits BinOp.andNot IntKind.u8 (c : Int) 128) * 2 ^ (7 * i))) = ((acc + U * (c % 128) : Nat) : Int) := by
  obtain ⟨h1, h2⟩ := mul_lt (d := c % 128) hU hi (Nat.mod_lt _ (by decide))
  exact acc_or hU ha h1 h2 (shl_form hU h1 (by omega) (low_bits hc))
theorem got_zero {acc U c : Nat} (hU : 128 ^ 0 = U) (ha : acc < U) (hc : c < 256) :
    bits BinOp.or IntKind.u64 (acc : Int) (IntKind.u64.wrap (IntKind.u64.wrap (bits BinOp.andNot IntKind.u8 (c : Int) 128))) = ((acc + U * (c % 128) : Nat) : Int) := by
  obtain ⟨h1, h2⟩ := mul_lt (d := c % 128) hU (by decide) (Nat.mod_lt _ (by decide))
  refine acc_or hU ha h1 h2 ?_
  rw [low_bits hc, IntKind.wrap_u64, IntKind.wrap_u64, ← hU]
  omega
theorem got_last {acc U : Nat} (hU : 128 ^ 9 = U) (ha : acc < U) :
    bits BinOp.or IntKind.u64 (acc : Int) (IntKind.u64.wrap (IntKind.u64.wrap (bits BinOp.andNot IntKind.u8 1 128) * 9223372036854775808)) = ((acc + U * 1 : Nat) : Int) := by
  have e : U = 9223372036854775808 := by rw [← hU]
  refine acc_or hU ha (by rw [e]; decide) (by rw [e]; decide) ?_
  rw [show bits BinOp.andNot IntKind.u8 1 128 = 1 from low_fin ⟨1, by decide⟩, IntKind.wrap_u64, IntKind.wrap_u64, e]
  decide

theorem drd_val {r b : Nat} {l : List Nat} {w w1 : World} {acc U c i : Nat} (HR : Rw w1 r b (l.drop (i + 1), 0)) (hk : Keeps (fun k => k = r) w w1) (HD : l.drop i = c :: l.drop (i + 1)) (HS : shiftGot acc U (readVar i (l.drop i)) = readVar 0 l) (hb : ¬ badByte i c) (hc : c < 128)
    {X : Int} (hX : X = ((acc + U * c : Nat) : Int)) : RxEnd r b (.int .u64 ((rUint (l, 0)).1 : Nat)) (rUint (l, 0)).2 w (.returned (.int .u64 X)) w1 := by
  have e : rUint (l, 0) = (acc + U * c, (l.drop (i + 1), 0)) := by
    unfold rUint
    rw [if_pos rfl, ← HS, HD]
    show gotUint _ (shiftGot acc U (readVar i (c :: l.drop (i + 1)))) = _
    rw [readVar_stop acc U i c _ hb hc]; rfl
  rw [e, hX]
  exact ⟨rfl, rx_of HR, hk⟩

theorem drd_bad {r b : Nat} {l m : List Nat} {w w1 : World} {acc U c i : Nat} (HR : Rw w1 r b (m, 0)) (hk : Keeps (fun k => k = r) w w1) (HD : l.drop i = c :: l.drop (i + 1)) (HS : shiftGot acc U (readVar i (l.drop i)) = readVar 0 l) (hb : badByte i c) :
    RxEnd r b (.int .u64 ((rUint (l, 0)).1 : Nat)) (rUint (l, 0)).2 w (.returned (.int .u64 0)) (w1.setCell ⟨r, 1, none⟩ (.int .i64 2)) := by
  have e : rUint (l, 0) = (0, (l, 2)) := by
    unfold rUint
    rw [if_pos rfl, ← HS, HD]
    show gotUint _ (shiftGot acc U (readVar i (c :: l.drop (i + 1)))) = _
    rw [readVar_fault acc U i c _ hb]; rfl
  rw [e]
  exact ⟨rfl, rx_bad (s := (m, 2)) (rw_err HR 2) rfl (fun h => by cases h), hk.trans (keeps_set w1 r 1 _)⟩

set_option maxRecDepth 100000 in
set_option maxHeartbeats 8000000 in
theorem devRdUint_any (r b : Nat) (s : RS) (w : World) (h : Rx w r b s) :
    Calls Try.prog 22 #[.pointer (some ⟨r, 0, none⟩)] w (RxEnd r b (.int .u64 ((rUint s).1 : Nat)) (rUint s).2 w) := by
  obtain ⟨l, e⟩ := s
  by_cases he : e = 0
  · subst he
    have HR0 := Lib.hid h.ok
    have h8 := h.ok.bytes
    have H8 := Lib.hid h8
    clear h h8
    go_enter Try.func22, Try.ntmps22
    go_wp2_with fail
    go_loopw [3, 4, 5] (fun nv iv bv wr => ∃ i acc : Nat, i ≤ 9 ∧ i ≤ l.length ∧ iv = .int .i64 (i : Int) ∧ nv = .int .u64 (acc : Int) ∧ Hid (acc < 128 ^ i) ∧ Hid (shiftGot acc (128 ^ i) (readVar i (l.drop i)) = readVar 0 l) ∧ Hid (Rw wr r b (l.drop i, 0)) ∧ Hid (Keeps (fun k => k = r) w wr)) (fun _ iv _ _ => l.length + 1 - (intOf iv).toNat)
    case atStart => exact ⟨0, 0, by decide, Nat.zero_le _, rfl, rfl, Lib.hid (by decide), Lib.hid (shiftGot_start _), HR0, Lib.hid (Keeps.refl _ _)⟩
    case round =>
      obtain ⟨i, acc, hi9, hil, rfl, rfl, HA, HS, HR, HK⟩ := hrel
      clear HR0
      go_wp2_with fail
      refine (devNext_any r b (l.drop i, 0) wr HR.out).mono ?_
      rintro e w1 ⟨rfl, hrd, hk1⟩
      by_cases hend : l.length ≤ i
      · have hnil : l.drop i = [] := List.drop_of_length_le hend
        rw [hnil] at hrd
        rw [hnil] at HS
        have hrd' : Rw w1 r b ([], 3) := hrd
        have HRD := Lib.hid hrd'
        obtain ⟨a, cap, hc0, hc1, hf0, hf1, _⟩ := hrd'.cells
        have HE : Hid (rUint (l, 0) = (0, (l, 3))) := Lib.hid (by unfold rUint; rw [if_pos rfl, ← HS.out]; rfl)
        have HK1 := Lib.hid (HK.out.trans hk1)
        have hv : (rNext (l.drop i, 0)).1 = 0 := by rw [hnil]; rfl
        rw [hv]
        simp only at hc1
        clear hrd hrd' HR HK hk1 HS HA hv hnil
        go_wp2_with fail
        go_ret
        rw [HE.out]
        exact ⟨rfl, rx_bad (s := ([], 3)) HRD.out rfl (by decide), HK1.out⟩
      · have hlt : i < l.length := by omega
        have HD := Lib.hid (List.drop_eq_getElem_cons hlt)
        have hc256 : l[i] < 256 := H8.out _ (List.getElem_mem hlt)
        have hv : rNext (l.drop i, 0) = (l[i], (l.drop (i + 1), 0)) := by rw [HD.out]; rfl
        rw [hv] at hrd ⊢
        have HRD := Lib.hid hrd
        obtain ⟨a, cap, hc0, hc1, hf0, hf1, _⟩ := hrd.cells
        have HK1 := Lib.hid (HK.out.trans hk1)
        simp only at hc1
        clear hrd HR HK hk1 hv hend
        generalize hcv : l[i] = c at *
        generalize hU : 128 ^ i = U at *
        have HU := Lib.hid hU
        clear hcv hU
        have hcases : (i = 9 ∧ 1 < c) ∨ (i = 9 ∧ c = 0) ∨ (i = 9 ∧ c = 1) ∨ (0 < i ∧ i < 9 ∧ c = 0) ∨ (0 < i ∧ i < 9 ∧ 0 < c ∧ c < 128) ∨ (0 < i ∧ i < 9 ∧ 128 ≤ c) ∨ (i = 0 ∧ c < 128) ∨ (i = 0 ∧ 128 ≤ c) := by omega
        rcases hcases with ⟨h1, h2⟩ | ⟨h1, h2⟩ | ⟨h1, h2⟩ | ⟨h1, h2, h3⟩ | ⟨h1, h2, h3, h4⟩ | ⟨h1, h2, h3⟩ | ⟨h1, h2⟩ | ⟨h1, h2⟩
        · subst h1
          go_wp2_with fail
          go_ret
          exact drd_bad HRD.out HK1.out HD.out HS.out (.inl ⟨rfl, h2⟩)
        · subst h1 h2
          go_wp2_with fail
          go_ret
          exact drd_bad HRD.out HK1.out HD.out HS.out (.inr ⟨by decide, rfl⟩)
        · subst h1 h2
          have HX := Lib.hid (got_last HU.out HA.out)
          go_wp2_with fail
          go_ret
          exact drd_val HRD.out HK1.out HD.out HS.out (by rintro (⟨_, h⟩ | ⟨_, h⟩) <;> omega) (by decide) HX.out
        · subst h3
          have b1 : ((i : Int) == 9) = false := by simp; omega
          go_wp2_with fail
          go_ret
          exact drd_bad HRD.out HK1.out HD.out HS.out (.inr ⟨h1, rfl⟩)
        · have b1 : ((i : Int) == 9) = false := by simp; omega
          have b2 : ((c : Int) == 0) = false := by simp; omega
          have HX := Lib.hid (got_mid HU.out HA.out (by omega) hc256)
          rw [Nat.mod_eq_of_lt h4] at HX
          go_wp2_with fail
          go_ret
          exact drd_val HRD.out HK1.out HD.out HS.out (by rintro (⟨h, _⟩ | ⟨_, h⟩) <;> omega) h4 HX.out
        · have b1 : ((i : Int) == 9) = false := by simp; omega
          have b2 : ((c : Int) == 0) = false := by simp; omega
          have HX := Lib.hid (got_mid HU.out HA.out (by omega) hc256)
          rw [show c % 128 = c - 128 by omega] at HX
          go_wp2_with fail
          go_roundw
          case rel =>
            refine ⟨i + 1, acc + U * (c - 128), by omega, by omega, by go_num, by rw [HX.out], Lib.hid (acc_lt HU.out HA.out hc256), Lib.hid ?_, HRD, HK1⟩
            rw [← HS.out, HD.out, readVar_step acc U i c _ (by rintro (⟨h, _⟩ | ⟨_, h⟩) <;> omega) (by omega), Nat.pow_succ, HU.out]
          case measure => simp [intOf]; omega
        · subst h1
          have HX := Lib.hid (got_zero HU.out HA.out hc256)
          rw [Nat.mod_eq_of_lt h2] at HX
          go_wp2_with fail
          go_ret
          exact drd_val HRD.out HK1.out HD.out HS.out (by rintro (⟨h, _⟩ | ⟨h, _⟩) <;> omega) h2 HX.out
        · subst h1
          have HX := Lib.hid (got_zero HU.out HA.out hc256)
          rw [show c % 128 = c - 128 by omega] at HX
          go_wp2_with fail
          go_roundw
          case rel =>
            refine ⟨0 + 1, acc + U * (c - 128), by omega, by omega, by go_num, by rw [HX.out], Lib.hid (acc_lt HU.out HA.out hc256), Lib.hid ?_, HRD, HK1⟩
            rw [← HS.out, HD.out, readVar_step acc U 0 c _ (by rintro (⟨h, _⟩ | ⟨h, _⟩) <;> omega) (by omega), Nat.pow_succ, HU.out]
          case measure => simp [intOf] <;> omega
  · have HR := Lib.hid h
    have HE : Hid (rUint (l, e) = (0, (l, e))) := Lib.hid (rUint_err he)
    have b1 : ((e : Int) != 0) = true := by simp; omega
    go_enter Try.func22, Try.ntmps22
    go_wp2_with fail
    go_loopw [3, 4, 5] (fun nv iv bv wr => iv = .int .i64 0 ∧ nv = .int .u64 0 ∧ w = wr) (fun _ iv _ _ => 0)
    case atStart => exact ⟨rfl, rfl, rfl⟩
    case round =>
      obtain ⟨rfl, rfl, rfl⟩ := hrel
      obtain ⟨l', hw, _⟩ := HR.out
      go_wp2_with fail
      refine (devNext_any r b (l', e) w hw).mono ?_
      rintro e1 w1 ⟨rfl, hrd, hk1⟩
      have hv : rNext (l', e) = (0, (l', e)) := by unfold rNext; rw [if_pos he]
      rw [hv] at hrd ⊢
      have HRD := Lib.hid hrd
      obtain ⟨a, cap, hc0, hc1, hf0, hf1, _⟩ := hrd.cells
      simp only at hc1
      clear hrd hw hv
      go_wp2_with fail
      go_ret
      rw [HE.out]
      exact ⟨rfl, rx_bad (s := (l', e)) HRD.out rfl he, hk1⟩
end Go.Proofs.Ytigjcnjhmhepeaa
