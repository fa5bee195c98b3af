/-
 Package wide: words in memory; trimmed, wordsOf, number, signed, inRange, the carrying function.
 Package wide: wordsOf, number, signed, inRange, the carrying function.
 Package wide: comparing words.
 Package wide: words in a row of the call's own that are written; the carrying function's box; scaled.
 Package wide: addTo, on a part of a row of words.
 Package wide: copy onto a row of words; sum.
 Package wide: takeFrom, on a part of a row of words.
-/
import Derived.Test.YtepakogbbomaoaaGreatDoorNmBO
import Derived.Test.YtepakogbbomaoaaGreatDoorPlaO
import Derived.Test.YtepakogbbomaoaaGreatDoorNmHO
import Derived.Laws.CopyOwn
namespace Go.Proofs.YtepakogbbomaoaaGreatDoor
open Go.RowKit Go.Shelf
set_option linter.unusedVariables false
set_option maxRecDepth 100000
def TrimEnd (p : Option Addr) (n : Nat) (w : World) (e : Ending) (w' : World) : Prop :=
 ∃ q m k, e = .returned (.slice q m k) ∧ (q = p ∨ q = none) ∧ Row .u32 w' (.slice q m k) (natI (digsW n)) ∧ w = w'
set_option maxHeartbeats 2000000 in
theorem trimmed_loc (p : Option Addr) (cap : Nat) (d : List Nat) (w : World) (hv : Row .u32 w (.slice p d.length cap) (natI d)) (h : ∀ c ∈ d, c < 4294967296) (hl : d.length ≤ 1000000) :
  Calls Tryz.prog 79 #[.slice p d.length cap] w (TrimEnd p (valDW d) w) := by
 have HV := Lib.hid hv
 have HD := Lib.hid h
 obtain ⟨p', cap', e, hcap, hcm, hne, hnil⟩ := hv
 injection e with e1 _ e3
 subst e1 e3
 rw [natI_length] at *
 have HNE := Lib.hid hne
 clear hne hnil h
 go_enter Tryz.func79, Tryz.ntmps79
 go_wp2_with fail
 go_loopw [3] (fun sv wr => ∃ m : Nat, m ≤ d.length ∧ sv = .int .i64 (m : Int) ∧ Hid (valDW (d.take m) = valDW d) ∧ w = wr) (fun sv _ => (intOf sv).toNat)
 case atStart => exact ⟨d.length, Nat.le_refl _, rfl, Lib.hid (by rw [List.take_length]), rfl⟩
 case round =>
  obtain ⟨m, hm, rfl, HM, rfl⟩ := hrel
  have fin : ∀ (hne : d.take m ≠ [] → (d.take m).getLast? ≠ some 0), digsW (valDW d) = d.take m := by
   intro hlast
   rw [← HM.out]
   refine digs_ofW (fun c hc => HD.out c (List.mem_of_mem_take hc)) (fun hne => ?_)
   intro e
   exact hlast hne (by rw [List.getLast?_eq_some_getLast hne, e])
  have FIN := Lib.hid fin
  clear fin
  rcases Nat.eq_zero_or_pos m with hm0 | hm0
  ·subst hm0
   go_wp2_with fail
   go_ret
   refine ⟨none, 0, 0, rfl, .inr rfl, ?_, rfl⟩
   rw [FIN.out (fun hne => absurd (List.take_zero) hne), List.take_zero]
   exact row_none _ _
  ·obtain ⟨k, rfl⟩ : ∃ k, m = k + 1 := ⟨m - 1, by omega⟩
   obtain ⟨b, off, rfl, hc⟩ := HNE.out (fun h => by have := congrArg List.length h; rw [natI_length, List.length_nil] at this; omega)
   have hck := hc k (by omega)
   have hgk : (natI d)[k]?.getD 0 = ((d[k] : Nat) : Int) := by rw [natI_getD, List.getElem?_eq_getElem (by omega)]; rfl
   rw [hgk] at hck
   have HLAST : Hid ((d.take (k + 1)).getLast? = some d[k]) := Lib.hid (by rw [List.take_succ_eq_append_getElem (by omega), List.getLast?_append]; simp)
   have HVT := Lib.hid (valD_takeW (d := d) (k := k) (by omega))
   clear hc hgk
   have hk0 : (0 : Int) ≤ (k : Int) := by omega
   have hkc : (k : Int) ≤ (cap : Int) := by omega
   have hc0 : ¬ cap = 0 := by omega
   by_cases hz : d[k] = 0
   ·rw [hz] at hck
    have HM2 : Hid (valDW (d.take k) = valDW d) := by
     have h1 := HVT.out
     rw [hz, Nat.mul_zero, Nat.add_zero] at h1
     have h2 := HM.out
     exact Lib.hid (by omega)
    go_wp2_with fail
    go_roundw
    case rel => exact ⟨k, by omega, by go_num, HM2, trivial⟩
    case measure => simp [intOf] <;> omega
   ·have b1 : (((d[k] : Nat) : Int) == 0) = false := by rw [beq_eq_false_iff_ne]; omega
    have b2 : (((k + 1 : Nat) : Int) == 0) = false := by rw [beq_eq_false_iff_ne]; omega
    have HNZ := Lib.hid hz
    generalize d[k] = x at *
    clear hz
    go_wp2_with fail
    go_ret
    refine ⟨some ⟨b, off, none⟩, k + 1, cap, rfl, .inl rfl, ?_, rfl⟩
    rw [FIN.out (fun _ e => HNZ.out (by rw [HLAST.out] at e; injection e)), natI_take]
    exact row_cutW (by rw [natI_length]; exact HV.out) (by rw [natI_length]; exact hm)
def WEnd (n : Nat) (w : World) (e : Ending) (w' : World) : Prop := ∃ a m k, e = .returned (.slice a m k) ∧ Row .u32 w' (.slice a m k) (natI (digsW n)) ∧ Below w.heap.size w w'
set_option maxHeartbeats 2000000 in
theorem wordsOf_wide (n : Nat) (w : World) (hn : n < 18446744073709551616) :
  Calls Tryz.prog 93 #[.int .u64 (n : Int)] w (WEnd n w) := by
 have hr := row_of_fresh (fresh_lit w w.heap.size 116 .u32 [(n : Int) % 4294967296, (n : Int) / 4294967296] (Nat.le_refl _) (by simp))
 have T := trimmed_loc (some ⟨w.heap.size, 0, none⟩) 2 [n % 4294967296, n / 4294967296] (w.alloc (.cells #[.int .u32 ((n : Int) % 4294967296), .int .u32 ((n : Int) / 4294967296)] 116)) (by simpa [natI] using hr) (by intro c hc; simp at hc; omega) (by simp)
 rw [show valDW [n % 4294967296, n / 4294967296] = n by simp [valDW]; omega] at T
 unfold TrimEnd at T
 have HT := Lib.hid T
 clear T hr
 go_enter Tryz.func93, Tryz.ntmps93
 go_wp2_with fail
 refine HT.out.mono ?_
 rintro e w' ⟨q, m, k, rfl, _, hr, rfl⟩
 go_wp2_with fail
 go_ret
 exact ⟨q, m, k, rfl, hr, (Below.refl _ w).alloc (Nat.le_refl _) _⟩
set_option maxHeartbeats 2000000 in
theorem carry_any (s c b : Nat) (w : World) (hs : s + c < 18446744073709551616) (hc : w.cell? ⟨b, 0, none⟩ = some (.int .u64 (c : Int))) (hf : w.frozen? ⟨b, 0, none⟩ = false) :
  Calls Tryz.prog 130 #[.int .u64 (s : Int), .pointer (some ⟨b, 0, none⟩)] w fun e w' => e = .returned (.int .u32 (((s + c) % 4294967296 : Nat) : Int)) ∧ w' = w.setCell ⟨b, 0, none⟩ (.int .u64 (((s + c) / 4294967296 : Nat) : Int)) := by
 go_enter Tryz.func130, Tryz.ntmps130
 go_wp2_with fail
 go_ret
 exact ⟨by simp, by simp⟩
theorem carrying_any (w : World) :
  Calls Tryz.prog 109 #[] w fun e w' => e = .returned (.func (.func 130) #[] #[.pointer (some ⟨w.heap.size, 0, none⟩)]) ∧ w' = w.alloc (.cells #[.int .u64 0] 60) := by
 go_enter Tryz.func109, Tryz.ntmps109
 go_wp2_with fail
 go_ret
 exact ⟨rfl, rfl⟩
theorem digsW_short {n : Nat} (h : n < 18446744073709551616) : (digsW n).length ≤ 2 := digs_len_leW (k := 2) (by simpa using h)
theorem row_elemW {W : World} {a : Option Addr} {c : Nat} {d : List Nat} (h : Row .u32 W (.slice a d.length c) (natI d)) {i : Nat} (hi : i < d.length) : ∃ b off, a = some ⟨b, off, none⟩ ∧ W.cell? ⟨b, off + i, none⟩ = some (.int .u32 (atDW d i : Int)) := by
 obtain ⟨p, cap, e, _, _, h4, _⟩ := h
 injection e with e1 _ _
 subst e1
 obtain ⟨b, off, rfl, hc⟩ := h4 (fun h2 => by have := congrArg List.length h2; rw [natI_length, List.length_nil] at this; omega)
 refine ⟨b, off, rfl, ?_⟩
 have := hc i (by rw [natI_length]; exact hi)
 rwa [natI_getD] at this
theorem row_formW {k : IntKind} {W : World} {v : Value} {d : List Nat} (h : Row k W v (natI d)) : ∃ a c, v = .slice a d.length c ∧ d.length ≤ c ∧ c ≤ 9223372036854775807 := by
 obtain ⟨a, c, rfl, h1, h2, _⟩ := h
 exact ⟨a, c, by rw [natI_length], by rw [natI_length] at h1; exact h1, h2⟩
set_option maxHeartbeats 2000000 in
theorem number_any (v : Value) (n : Nat) (w : World) (hv : Row .u32 w v (natI (digsW n))) (hn : n < 18446744073709551616) :
  Calls Tryz.prog 108 #[v] w fun e w' => e = .returned (.int .u64 (n : Int)) ∧ w = w' := by
 obtain ⟨a, cap, rfl, hcap, hcm⟩ := row_formW hv
 have HV := Lib.hid hv
 have hl := digsW_short hn
 have HL := Lib.hid (digs_ltW n)
 have HN : Hid (valDW (digsW n) = n) := Lib.hid (valD_digsW n)
 clear hv
 generalize digsW n = d at *
 go_enter Tryz.func108, Tryz.ntmps108
 go_wp2_with fail
 go_loopw [3, 4, 5, 8] (fun nv _ _ iv wr => ∃ i : Nat, iv = .int .i64 (i : Int) ∧ i ≤ d.length ∧ nv = .int .u64 ((valDW (d.take i) : Nat) : Int) ∧ w = wr) (fun _ _ _ iv _ => ((d.length : Int) - intOf iv).toNat)
 case atStart => exact ⟨0, rfl, Nat.zero_le _, by simp [valDW], rfl⟩
 case round =>
  obtain ⟨i, rfl, hi, rfl, rfl⟩ := hrel
  rcases Nat.lt_or_ge i d.length with h | h
  ·obtain ⟨b, off, rfl, hc⟩ := row_elemW HV.out h
   have hx := atD_ltW HL.out i
   have hT := valD_take_atW d i
   have hi0 : (0 : Int) ≤ (i : Int) := by omega
   generalize atDW d i = x at *
   rcases (by omega : i = 0 ∨ i = 1) with hi1 | hi1
   ·subst hi1
    have h1 : bits .or .u64 0 (x : Int) = (x : Int) := by rw [show (0 : Int) = ((0 : Nat) : Int) from rfl, bits_or_u64_nat _ _ (by decide) (by omega), Nat.zero_or]
    rw [Nat.add_zero] at hc
    rw [List.take_zero, show ((valDW [] : Nat) : Int) = 0 from rfl]
    rw [List.take_zero, Nat.pow_zero, Nat.one_mul, show valDW [] = 0 from rfl, Nat.zero_add] at hT
    go_wp2_with fail
    go_roundw
    case rel => exact ⟨1, rfl, by omega, by simp [hT], trivial⟩
    case measure => simp [intOf] <;> omega
   ·subst hi1
    have hT0 : valDW (d.take 1) < 4294967296 := by
     have := valD_ltW (d := d.take 1) (fun c hc => HL.out c (List.mem_of_mem_take hc))
     rw [List.length_take, Nat.min_eq_left (by omega)] at this
     simpa using this
    generalize valDW (d.take 1) = y at *
    have h1 : bits .or .u64 (y : Int) ((x : Int) * 4294967296) = ((y + 4294967296 ^ 1 * x : Nat) : Int) := by
     rw [show (x : Int) * 4294967296 = ((2 ^ 32 * x : Nat) : Int) by omega, bits_or_u64_nat _ _ (by omega) (by omega), Nat.or_comm, ← Nat.two_pow_add_eq_or_of_lt (by simpa using hT0)]
     omega
    go_wp2_with fail
    go_roundw
    case rel => exact ⟨2, rfl, by omega, by simp [hT], trivial⟩
    case measure => simp [intOf] <;> omega
  ·have e : i = d.length := by omega
   subst e
   go_wp2_with fail
   go_ret
   exact ⟨by rw [List.take_length, HN.out]; rfl, rfl⟩
def IAt (W : World) (x : Value) (n : Int) : Prop := ∃ v, x = .agg #[.bool (decide (n < 0)), v] ∧ Row .u32 W v (natI (digsW n.natAbs))
theorem iat_keeps {W W2 : World} {x : Value} {n : Int} (h : IAt W x n) (hb : Below W.heap.size W W2) : IAt W2 x n := by
 obtain ⟨v, h1, h2⟩ := h
 exact ⟨v, h1, row_keeps h2 hb⟩
def IEnd (n : Int) (w : World) (e : Ending) (w' : World) : Prop := ∃ b a m k, e = .returned (.agg #[.bool b, .slice a m k]) ∧ IAt w' (.agg #[.bool b, .slice a m k]) n ∧ Below w.heap.size w w'
theorem iat_form {W : World} {x : Value} {n : Int} (h : IAt W x n) : ∃ a cap, x = .agg #[.bool (decide (n < 0)), .slice a (digsW n.natAbs).length cap] ∧ Row .u32 W (.slice a (digsW n.natAbs).length cap) (natI (digsW n.natAbs)) := by
 obtain ⟨v, rfl, h⟩ := h
 obtain ⟨a, cap, rfl, _, _⟩ := row_formW h
 exact ⟨a, cap, rfl, h⟩
theorem iat_mk {W : World} {b c : Bool} {v : Value} {n : Nat} {z : Int} (h : Row .u32 W v (natI (digsW n))) (hz : z = sgn b n) (hb : (b && decide (0 < (digsW n).length)) = c) : IAt W (.agg #[.bool c, v]) z := by
 subst hz hb
 refine ⟨v, ?_, by rw [sgn_abs]; exact h⟩
 rw [sgn_neg]
 have : decide (0 < (digsW n).length) = decide (0 < n) := by
  apply decide_eq_decide.2
  constructor
  ·intro h0
   rcases Nat.eq_zero_or_pos n with h1 | h1
   ·subst h1; rw [digs_zeroW] at h0; simp at h0
   ·exact h1
  ·intro h0; exact digs_len_posW (by omega)
 rw [this]
set_option maxHeartbeats 2000000 in
theorem signed_any (b : Bool) (v : Value) (n : Nat) (w : World) (hv : Row .u32 w v (natI (digsW n))) :
  Calls Tryz.prog 46 #[.bool b, v] w (IEnd (sgn b n) w) := by
 obtain ⟨a, cap, rfl, hcap, hcm⟩ := row_formW hv
 have HV := Lib.hid hv
 clear hv
 cases b
 ·go_enter Tryz.func46, Tryz.ntmps46
  go_wp2_with fail
  refine bodyPost_ret (v := .agg #[.bool false, .slice a (digsW n).length cap]) (by simp [results, Tryz.results46, go_sem]) rfl ?_
  have hb : Below w.heap.size w (w.alloc (.cells #[.bool false, .slice a (digsW n).length cap] 32)) := (Below.refl _ w).alloc (Nat.le_refl _) _
  exact ⟨_, _, _, _, rfl, iat_mk (row_keeps HV.out hb) rfl rfl, hb⟩
 ·go_enter Tryz.func46, Tryz.ntmps46
  go_wp2_with fail
  refine bodyPost_ret (v := .agg #[.bool (decide (0 < (digsW n).length)), .slice a (digsW n).length cap]) (by simp [results, Tryz.results46, go_sem]) rfl ?_
  have hb : Below w.heap.size w (w.alloc (.cells #[.bool (decide (0 < (digsW n).length)), .slice a (digsW n).length cap] 32)) := (Below.refl _ w).alloc (Nat.le_refl _) _
  exact ⟨_, _, _, _, rfl, iat_mk (row_keeps HV.out hb) rfl (by rw [Bool.true_and]), hb⟩
def big (n : Int) : Prop := 512 < (digsW n.natAbs).length
def REndW (n : Int) (w : World) (e : Ending) (w' : World) : Prop :=
 ∃ x c, e = .returned (.tuple #[x, .int .i64 c]) ∧ ((¬ big n ∧ c = 0 ∧ IAt w' x n) ∨ (big n ∧ c = 4 ∧ x = .agg #[.bool false, .slice none 0 0])) ∧ Below w.heap.size w w'
theorem words_len {n k : Nat} : 4294967296 ^ k ≤ n ↔ k < (digsW n).length := by
 constructor
 ·intro h
  rcases Nat.lt_or_ge k (digsW n).length with h1 | h1
  ·exact h1
  ·have h2 := digs_len_ltW n
   have h3 : 4294967296 ^ (digsW n).length ≤ 4294967296 ^ k := Nat.pow_le_pow_right (by decide) h1
   omega
 ·intro h
  have h0 : n ≠ 0 := fun e => by rw [e, digs_zeroW] at h; simp at h
  have h2 := digs_len_geW h0
  have h3 : 4294967296 ^ k ≤ 4294967296 ^ ((digsW n).length - 1) := Nat.pow_le_pow_right (by decide) (by omega)
  omega
theorem two_words (k : Nat) : (2 : Nat) ^ (32 * k) = 4294967296 ^ k := by rw [Nat.pow_mul]
theorem big_pow {n : Int} {k m : Nat} (hm : m = 512) (hk : k = 32 * m) : big n ↔ 2 ^ k ≤ n.natAbs := by
 rw [hk, two_words, words_len, hm]
 exact Iff.rfl
theorem big_len {n : Int} : big n ↔ 512 < (digsW n.natAbs).length := Iff.rfl
set_option maxHeartbeats 2000000 in
theorem inRange_any (x : Value) (n : Int) (w : World) (hx : IAt w x n) :
  Calls Tryz.prog 45 #[x] w (REndW n w) := by
 obtain ⟨a, cap, rfl, hr⟩ := iat_form hx
 have HX := Lib.hid hx
 obtain ⟨nb, hnb⟩ : ∃ t, decide (n < 0) = t := ⟨_, rfl⟩
 rw [hnb] at HX ⊢
 clear hx hr
 by_cases h : 512 < (digsW n.natAbs).length
 ·have hb := Lib.hid (big_len.2 h)
  go_enter Tryz.func45, Tryz.ntmps45
  go_wp2_with fail
  refine bodyPost_ret (v := .tuple #[.agg #[.bool false, .slice none 0 0], .int .i64 4]) (by simp [results, Tryz.results45, go_sem]) rfl ?_
  exact ⟨_, _, rfl, .inr ⟨hb.out, rfl, rfl⟩, ((Below.refl _ w).alloc (Nat.le_refl _) _).alloc (by simp) _⟩
 ·have hb := Lib.hid (fun h2 => h (big_len.1 h2))
  go_enter Tryz.func45, Tryz.ntmps45
  go_wp2_with fail
  refine bodyPost_ret (v := .tuple #[.agg #[.bool nb, .slice a (digsW n.natAbs).length cap], .int .i64 0]) (by simp [results, Tryz.results45, go_sem]) rfl ?_
  have hbe : Below w.heap.size w ((w.alloc (Obj.cells #[Value.bool nb, Value.slice a (digsW n.natAbs).length cap] 32)).alloc (Obj.cells #[Value.bool nb, Value.slice a (digsW n.natAbs).length cap] 32)) := ((Below.refl _ w).alloc (Nat.le_refl _) _).alloc (by simp) _
  exact ⟨_, _, rfl, .inl ⟨hb.out, rfl, iat_keeps HX.out hbe⟩, hbe⟩
def cmpZ (a b : Int) : Int := if a < b then -1 else if b < a then 1 else 0
set_option maxHeartbeats 1000000 in
theorem cmpInt_any (a b : Int) (w : World) :
  Calls Tryz.prog 80 #[.int .i64 a, .int .i64 b] w fun e w' => e = .returned (.int .i64 (cmpZ a b)) ∧ w = w' := by
 rcases Int.lt_trichotomy a b with h | h | h
 ·go_enter Tryz.func80, Tryz.ntmps80
  go_wp2
  go_ret
  exact ⟨ret_int (by unfold cmpZ; rw [if_pos h]), rfl⟩
 ·subst h
  go_enter Tryz.func80, Tryz.ntmps80
  go_wp2
  go_ret
  exact ⟨ret_int (by unfold cmpZ; rw [if_neg (by omega), if_neg (by omega)]), rfl⟩
 ·have h2 : ¬ a < b := by omega
  go_enter Tryz.func80, Tryz.ntmps80
  go_wp2
  go_ret
  exact ⟨ret_int (by unfold cmpZ; rw [if_neg (by omega), if_pos h]), rfl⟩
set_option maxHeartbeats 1000000 in
theorem cmpU32_any (a b : Int) (w : World) :
  Calls Tryz.prog 81 #[.int .u32 a, .int .u32 b] w fun e w' => e = .returned (.int .i64 (cmpZ a b)) ∧ w = w' := by
 rcases Int.lt_trichotomy a b with h | h | h
 ·go_enter Tryz.func81, Tryz.ntmps81
  go_wp2
  go_ret
  exact ⟨ret_int (by unfold cmpZ; rw [if_pos h]), rfl⟩
 ·subst h
  go_enter Tryz.func81, Tryz.ntmps81
  go_wp2
  go_ret
  exact ⟨ret_int (by unfold cmpZ; rw [if_neg (by omega), if_neg (by omega)]), rfl⟩
 ·have h2 : ¬ a < b := by omega
  go_enter Tryz.func81, Tryz.ntmps81
  go_wp2
  go_ret
  exact ⟨ret_int (by unfold cmpZ; rw [if_neg (by omega), if_pos h]), rfl⟩
set_option maxRecDepth 100000 in
set_option maxHeartbeats 4000000 in
theorem compareWords_any (u v : Value) (a b : Nat) (w : World) (hu : Row .u32 w u (natI (digsW a))) (hv : Row .u32 w v (natI (digsW b))) (ha : (digsW a).length ≤ 1000000) (hb : (digsW b).length ≤ 1000000) :
  Calls Tryz.prog 48 #[u, v] w (CmpEnd (cmpN a b) w) := by
 obtain ⟨pu, cu, rfl, hcu, hcmu, hneu, _⟩ := hu
 obtain ⟨pv, cv, rfl, hcv, hcmv, hnev, _⟩ := hv
 simp only [natI_length] at *
 have HU := Lib.hid hneu
 have HV := Lib.hid hnev
 clear hneu hnev
 rcases Nat.lt_trichotomy (digsW a).length (digsW b).length with hl | hl | hl
 ·have HC := Lib.hid (cmp_len_ltW hl)
  go_enter Tryz.func48, Tryz.ntmps48
  have HI : Hid (cmpZ ((digsW a).length : Int) ((digsW b).length : Int) = -1) := Lib.hid (by unfold cmpZ; rw [if_pos (by omega)])
  go_wp2_with fail
  refine (cmpInt_any _ _ _).mono ?_
  rintro e w' ⟨rfl, rfl⟩
  go_wp2_with fail
  go_ret
  exact ⟨(by rw [HC.out, ← HI.out]; try rfl), Below.refl _ _⟩
 ·have HL := Lib.hid hl
  have h1 : ¬ (digsW a).length < (digsW b).length := by omega
  have h2 : ¬ (digsW b).length < (digsW a).length := by omega
  have hb0 : (((digsW a).length : Int) != ((digsW b).length : Int)) = false := by rw [hl]; simp
  clear hl
  go_enter Tryz.func48, Tryz.ntmps48
  go_wp2_with fail
  go_loopw [5] (fun iv wr => ∃ j : Nat, j ≤ (digsW a).length ∧ iv = .int .i64 ((j : Int) - 1) ∧ Hid ((digsW a).drop j = (digsW b).drop j) ∧ Below w.heap.size w wr) (fun iv _ => (intOf iv + 1).toNat)
  case atStart => exact ⟨(digsW a).length, Nat.le_refl _, rfl, Lib.hid (by rw [List.drop_length, HL.out, List.drop_length]), Below.refl _ _⟩
  case round =>
   obtain ⟨j, hj, rfl, HD, hbel⟩ := hrel
   rcases Nat.eq_zero_or_pos j with hj0 | hj0
   ·subst hj0
    have HC : Hid (cmpN a b = 0) := by
     have h := HD.out
     rw [List.drop_zero, List.drop_zero] at h
     have e : a = b := by rw [← valD_digsW a, ← valD_digsW b, h]
     subst e
     exact Lib.hid (by unfold cmpN; rw [if_neg (by omega), if_neg (by omega)])
    rw [show ((0 : Nat) : Int) - 1 = -1 from rfl]
    go_wp2_with fail
    go_ret
    exact ⟨(by rw [HC.out]; try rfl), hbel⟩
   ·obtain ⟨i, rfl⟩ : ∃ i, j = i + 1 := ⟨j - 1, by omega⟩
    have hia : i < (digsW a).length := by omega
    have hib : i < (digsW b).length := by have := HL.out; omega
    obtain ⟨bu, ou, rfl, hc1⟩ := HU.out (fun h => by have := congrArg List.length h; rw [natI_length, List.length_nil] at this; omega)
    obtain ⟨bv, ov, rfl, hc2⟩ := HV.out (fun h => by have := congrArg List.length h; rw [natI_length, List.length_nil] at this; omega)
    have hx0 := hc1 i hia
    have hy0 := hc2 i hib
    rw [natI_getD, List.getElem?_eq_getElem hia] at hx0
    rw [natI_getD, List.getElem?_eq_getElem hib] at hy0
    have hx := (hbel.cell (p := ⟨bu, ou + i, none⟩) (World.block_lt_of_cell? _ _ hx0)).trans hx0
    have hy := (hbel.cell (p := ⟨bv, ov + i, none⟩) (World.block_lt_of_cell? _ _ hy0)).trans hy0
    simp only [Option.getD_some] at hx hy
    have HLT : Hid ((digsW a)[i] < (digsW b)[i] → cmpN a b = -1) := Lib.hid (fun h => by
     have := val_lt_atW (digs_ltW a) HL.out hia HD.out h
     rw [valD_digsW, valD_digsW] at this
     unfold cmpN; rw [if_pos this])
    have HGT : Hid ((digsW b)[i] < (digsW a)[i] → cmpN a b = 1) := Lib.hid (fun h => by
     have := val_lt_atW (digs_ltW b) HL.out.symm hib HD.out.symm h
     rw [valD_digsW, valD_digsW] at this
     unfold cmpN; rw [if_neg (by omega), if_pos this])
    have HEQ : Hid ((digsW a)[i] = (digsW b)[i] → (digsW a).drop i = (digsW b).drop i) := Lib.hid (fun h => by
     rw [List.drop_eq_getElem_cons hia, List.drop_eq_getElem_cons hib, h, HD.out])
    rw [show ((i + 1 : Nat) : Int) - 1 = (i : Int) by omega]
    clear hc1 hc2 hx0 hy0
    generalize (digsW a)[i] = x at *
    generalize (digsW b)[i] = y at *
    have hx1 : wr.drew.cell? ⟨bu, ou + i, none⟩ = some (.int .u32 (x : Int)) := hx
    have hy1 : wr.drew.cell? ⟨bv, ov + i, none⟩ = some (.int .u32 (y : Int)) := hy
    have hx2 : wr.drew.drew.cell? ⟨bu, ou + i, none⟩ = some (.int .u32 (x : Int)) := hx
    have hy2 : wr.drew.drew.cell? ⟨bv, ov + i, none⟩ = some (.int .u32 (y : Int)) := hy
    have hi0 : (0 : Int) ≤ (i : Int) := by omega
    rcases Classical.em (x = y) with hxy | hxy
    ·subst hxy
     go_wp2_with fail
     go_region
     all_goals
      go_wp2_with fail
      go_roundw
      case rel => exact ⟨i, by omega, by go_num, Lib.hid (HEQ.out (by trivial)), hbel.drew⟩
      case measure => simp [intOf] <;> omega
    ·have HCC : Hid (cmpZ (x : Int) (y : Int) = cmpN a b) := by
      rcases (by omega : x < y ∨ y < x) with h | h
      ·exact Lib.hid (by rw [HLT.out h]; unfold cmpZ; rw [if_pos (by omega)])
      ·exact Lib.hid (by rw [HGT.out h]; unfold cmpZ; rw [if_neg (by omega), if_pos (by omega)])
     have hn : ((x : Int) != (y : Int)) = true := by rw [bne_iff_ne]; omega
     clear hxy HLT HGT HEQ
     go_wp2_with fail
     go_region
     all_goals
      go_wp2_with fail
      go_region_with (go_at_call 81; refine (cmpU32_any _ _ _).mono ?_; rintro e w' ⟨rfl, rfl⟩)
     all_goals
      go_wp2_with fail
      go_ret
      exact ⟨(by rw [← HCC.out]; try rfl), hbel.drew.drew⟩
 ·have HC := Lib.hid (cmp_len_gtW hl)
  have h1 : ¬ (digsW a).length < (digsW b).length := by omega
  go_enter Tryz.func48, Tryz.ntmps48
  have HI : Hid (cmpZ ((digsW a).length : Int) ((digsW b).length : Int) = 1) := Lib.hid (by unfold cmpZ; rw [if_neg (by omega), if_pos (by omega)])
  go_wp2_with fail
  refine (cmpInt_any _ _ _).mono ?_
  rintro e w' ⟨rfl, rfl⟩
  go_wp2_with fail
  go_ret
  exact ⟨(by rw [HC.out, ← HI.out]; try rfl), Below.refl _ _⟩
def Wds (W : World) (g : Nat) (l : List Nat) : Prop := ∃ rest, Laid W g 116 ((natI l).map (Value.int .u32) ++ rest)
theorem Wds.lt {W : World} {g : Nat} {l : List Nat} (h : Wds W g l) : g < W.heap.size := by obtain ⟨_, h⟩ := h; exact h.lt
theorem Wds.cell {W : World} {g : Nat} {l : List Nat} (h : Wds W g l) {i : Nat} (hi : i < l.length) : W.cell? ⟨g, i, none⟩ = some (.int .u32 (atDW l i : Int)) := by
 obtain ⟨rest, h⟩ := h
 rw [h.cell i, List.getElem?_append_left (by simp [natI]; exact hi)]
 simp [natI, atDW, hi]
theorem Wds.frozen {W : World} {g : Nat} {l : List Nat} (h : Wds W g l) (i : Nat) : W.frozen? ⟨g, i, none⟩ = false := by
 obtain ⟨rest, h⟩ := h; exact h.frozen i
theorem Wds.set {W : World} {g : Nat} {l : List Nat} (h : Wds W g l) {i : Nat} (hi : i < l.length) (z : Nat) : Wds (W.setCell ⟨g, i, none⟩ (.int .u32 (z : Int))) g (l.set i z) := by
 obtain ⟨rest, h⟩ := h
 refine ⟨rest, ?_⟩
 have := h.set i (.int .u32 (z : Int))
 rw [List.set_append_left _ _ (by simp [natI]; exact hi)] at this
 rw [natI_setW, List.map_set]
 exact this
theorem Wds.keeps {W W2 : World} {g : Nat} {l : List Nat} {A : Foot} (h : Wds W g l) (hk : Keeps A W W2) (hn : ¬ A g) : Wds W2 g l := by
 obtain ⟨rest, h⟩ := h; exact ⟨rest, h.keeps hk hn⟩
theorem Wds.of_fresh {B : Nat} {W : World} {g n cap : Nat} {l : List Nat} (h : Fresh B 116 .u32 W (.slice (some ⟨g, 0, none⟩) n cap) (natI l)) : Wds W g l := by
 rcases h.2 with ⟨h0, _⟩ | ⟨g', cap', cur, e, hb, hg, hn, hm, hs, ht⟩
 ·injection h0 with h0; cases h0
 ·injection e with e _ _
  injection e with e
  obtain rfl : g = g' := by injection e
  refine ⟨cur.toList.drop (natI l).length, ?_⟩
  show W.heap[g]? = _
  rw [hg]
  have : (cur.toList.take (natI l).length) = (natI l).map (Value.int .u32) := by simpa using ht
  rw [← this, List.take_append_drop]
theorem Wds.row {W : World} {g off cap : Nat} {pre x post : List Nat} (h : Wds W g (pre ++ x ++ post)) (hp : pre.length = off) (hc : x.length ≤ cap) (hm : cap ≤ 9223372036854775807) : Row .u32 W (.slice (some ⟨g, off, none⟩) x.length cap) (natI x) := by
 refine ⟨_, _, by rw [natI_length], by rw [natI_length]; exact hc, hm, fun _ => ⟨g, off, rfl, fun j hj => ?_⟩, fun h => by cases h⟩
 rw [natI_length] at hj
 rw [h.cell (i := off + j) (by simp; omega), natI_getD]
 congr 2
 have : (pre ++ x ++ post)[off + j]? = x[j]? := by
  rw [List.append_assoc, List.getElem?_append_right (by omega), hp, Nat.add_sub_cancel_left, List.getElem?_append_left hj]
 unfold atDW; rw [this]
theorem Wds.row0 {W : World} {g cap : Nat} {x : List Nat} (h : Wds W g x) (hc : x.length ≤ cap) (hm : cap ≤ 9223372036854775807) : Row .u32 W (.slice (some ⟨g, 0, none⟩) x.length cap) (natI x) :=
 Wds.row (pre := []) (post := []) (by simpa using h) rfl hc hm
def CarryEnd (b s : Nat) (w : World) (e : Ending) (w' : World) : Prop := e = .returned (.int .u32 ((s % 4294967296 : Nat) : Int)) ∧ Laid w' b 60 [.int .u64 ((s / 4294967296 : Nat) : Int)] ∧ Keeps (fun k => k = b) w w'
theorem carry_step (s c b : Nat) (w : World) (hs : s + c < 18446744073709551616) (hb : Laid w b 60 [.int .u64 (c : Int)]) :
  Calls Tryz.prog 130 #[.int .u64 (s : Int), .pointer (some ⟨b, 0, none⟩)] w (CarryEnd b (s + c) w) := by
 refine (carry_any s c b w hs (hb.cell 0) (hb.frozen 0)).mono ?_
 rintro e w' ⟨rfl, rfl⟩
 exact ⟨rfl, hb.set 0 _, keeps_set _ _ _ _⟩
theorem valD_setW {d : List Nat} {j : Nat} (h : j < d.length) (z : Nat) : valDW (d.set j z) + 4294967296 ^ j * atDW d j = valDW d + 4294967296 ^ j * z := by
 induction d generalizing j with
 | nil => simp at h
 | cons c d ih =>
  cases j with
  | zero => simp [valDW, atDW]; omega
  | succ j =>
   have := ih (j := j) (by simpa using h)
   have e : atDW (c :: d) (j + 1) = atDW d j := by simp [atDW]
   rw [e, List.set_cons_succ, Nat.pow_succ]
   simp only [valDW]
   generalize hp : 4294967296 ^ j * atDW d j = p at *
   generalize hq : 4294967296 ^ j * z = q at *
   have e1 : 4294967296 ^ j * 4294967296 * atDW d j = 4294967296 * p := by rw [← hp, Nat.mul_comm (4294967296 ^ j) 4294967296, Nat.mul_assoc]
   have e2 : 4294967296 ^ j * 4294967296 * z = 4294967296 * q := by rw [← hq, Nat.mul_comm (4294967296 ^ j) 4294967296, Nat.mul_assoc]
   rw [e1, e2]; omega
theorem atD_set_neW {d : List Nat} {j k z : Nat} (h : j ≠ k) : atDW (d.set j z) k = atDW d k := by unfold atDW; rw [List.getElem?_set_ne h]
theorem atD_zerosW (n j : Nat) : atDW (List.replicate n 0) j = 0 := by
 unfold atDW
 rcases Nat.lt_or_ge j n with h | h
 ·rw [List.getElem?_eq_getElem (by simpa using h)]; simp
 ·rw [List.getElem?_eq_none (by simpa using h)]; rfl
theorem set_ltW {d : List Nat} (h : ∀ c ∈ d, c < 4294967296) {z : Nat} (hz : z < 4294967296) (j : Nat) : ∀ c ∈ d.set j z, c < 4294967296 := by
 intro c hc
 rcases List.mem_or_eq_of_mem_set hc with h1 | h1
 ·exact h c h1
 ·rw [h1]; exact hz
theorem word_step {out : List Nat} {i t c T s : Nat} (hi : i < out.length) (h : valDW out + 4294967296 ^ i * c = T) (hs : s = atDW out i + t + c) :
  valDW (out.set i (s % 4294967296)) + 4294967296 ^ (i + 1) * (s / 4294967296) = T + 4294967296 ^ i * t := by
 have h1 := valD_setW hi (s % 4294967296)
 rw [Nat.pow_succ, Nat.mul_assoc]
 have e3 : 4294967296 ^ i * (s % 4294967296) + 4294967296 ^ i * (4294967296 * (s / 4294967296)) = 4294967296 ^ i * s := by rw [← Nat.mul_add, Nat.mod_add_div]
 have e4 : 4294967296 ^ i * s = 4294967296 ^ i * atDW out i + 4294967296 ^ i * t + 4294967296 ^ i * c := by rw [hs, Nat.mul_add, Nat.mul_add]
 generalize 4294967296 ^ i * (s % 4294967296) = p1 at *
 generalize 4294967296 ^ i * (4294967296 * (s / 4294967296)) = p2 at *
 generalize 4294967296 ^ i * s = p3 at *
 generalize 4294967296 ^ i * atDW out i = p4 at *
 generalize 4294967296 ^ i * t = p5 at *
 generalize 4294967296 ^ i * c = p6 at *
 omega
theorem info_u32 : (Tryz.prog.info? 116).map (fun i => (i.zero, i.size, i.bytes)) = some (some (.int .u32 0), 1, 4) := by kernel_rfl
theorem mul_ltW {f x : Nat} (hf : f < 4294967296) (hx : x < 4294967296) : f * x ≤ 18446744065119617025 := Nat.le_trans (Nat.mul_le_mul (Nat.le_of_lt_succ hf) (Nat.le_of_lt_succ hx)) (by decide)
def WEndAt (n : Nat) (w : World) (e : Ending) (w' : World) : Prop := ∃ a m k, e = .returned (.slice a m k) ∧ Row .u32 w' (.slice a m k) (natI (digsW n)) ∧ Below w.heap.size w w' ∧ ∀ j, blockOf (.slice a m k) j → w.heap.size ≤ j
set_option maxHeartbeats 8000000 in
theorem scaled_at (v : Value) (n f m0 : Nat) (w : World) (hv : Row .u32 w v (natI (digsW n))) (hf : f < 4294967296) (hm : m0 < 4294967296) (hl : (digsW n).length ≤ 900000) :
  Calls Tryz.prog 92 #[v, .int .u32 (f : Int), .int .u32 (m0 : Int)] w (WEndAt (n * f + m0) w) := by
 obtain ⟨i0, hi, hz0, hz1, hz2⟩ := info_parts info_u32
 obtain ⟨a, cap, rfl, hcap, hcm⟩ := row_formW hv
 have HV := Lib.hid hv
 have HD := Lib.hid (digs_ltW n)
 have HN : Hid (valDW (digsW n) = n) := Lib.hid (valD_digsW n)
 clear hv
 generalize digsW n = d at *
 go_enter Tryz.func92, Tryz.ntmps92
 go_wp2_with (at_make; go_must (refine wpList_make_fresh rfl _ _ 30 rfl w.heap.size 116 i0 .u32 4 Tryz.underlying30 hi hz0 hz1 hz2 (by decide) _ _ _ _ (d.length + 1) rfl rfl (by first | rfl | omega) (by first | rfl | omega) (by omega) (Nat.le_refl _) ?_); intro w3 hfr hb3 hsz3)
 have HF0 : Hid (Wds w3 w.heap.size (List.replicate (d.length + 1) 0)) := Lib.hid (Wds.of_fresh (B := w.heap.size) (by simpa [natI] using hfr))
 have HB3 := Lib.hid hb3
 have hg3 := HF0.out.lt
 clear hfr hb3 hsz3
 refine (carrying_any w3).mono ?_
 rintro e w4 ⟨rfl, hw4⟩
 have HL4 : Hid (Laid w4 w3.heap.size 60 [.int .u64 ((0 : Nat) : Int)]) := Lib.hid (by rw [hw4]; exact Laid.new _ _ _)
 have HF4 : Hid (Wds w4 w.heap.size (List.replicate (d.length + 1) 0)) := Lib.hid (by rw [hw4]; exact HF0.out.keeps ((Keeps.refl (fun _ => False) _).alloc _) (fun h => h))
 have HB4 : Hid (Below w.heap.size w w4) := Lib.hid (by rw [hw4]; exact HB3.out.alloc (by omega) _)
 clear hw4 HF0 HB3
 generalize w3.heap.size = b1 at *
 go_wp2_with fail
 go_loopw [2, 9, 10, 18] (fun mv _ _ iv wr => ∃ (i c m : Nat) (out : List Nat), iv = .int .i64 (i : Int) ∧ mv = .int .u32 (m : Int) ∧ i ≤ d.length ∧ c + m < 4294967296 ∧ Hid (out.length = d.length + 1) ∧ Hid (valDW out + 4294967296 ^ i * (c + m) = valDW (d.take i) * f + m0) ∧ Hid (∀ j, i ≤ j → atDW out j = 0) ∧ Hid (∀ x ∈ out, x < 4294967296) ∧ Hid (Wds wr w.heap.size out) ∧ Hid (Laid wr b1 60 [.int .u64 (c : Int)]) ∧ Hid (Below w.heap.size w wr)) (fun _ _ _ iv _ => ((d.length : Int) - intOf iv).toNat)
 case atStart => exact ⟨0, 0, m0, List.replicate (d.length + 1) 0, rfl, rfl, Nat.zero_le _, by omega, Lib.hid (by simp), Lib.hid (by rw [valD_zerosW, List.take_zero, Nat.pow_zero]; show 0 + 1 * (0 + m0) = 0 * f + m0; omega), Lib.hid (fun j _ => atD_zerosW _ j), Lib.hid (fun c hc => by rw [(List.mem_replicate.1 hc).2]; decide), HF4, HL4, HB4⟩
 case round =>
  obtain ⟨i, c, m, out, rfl, rfl, hil, hcm2, HOL, HVAL, HZ, HDO, HF, HL, HB⟩ := hrel
  clear HF4 HL4 HB4
  rcases Nat.lt_or_ge i d.length with h | h
  ·obtain ⟨b, off, rfl, hc0⟩ := row_elemW HV.out h
   have hc := (HB.out.cell (p := ⟨b, off + i, none⟩) (World.block_lt_of_cell? _ _ hc0)).trans hc0
   have hx := atD_ltW HD.out i
   have HT := Lib.hid (valD_take_atW d i)
   have hi0 : (0 : Int) ≤ (i : Int) := by omega
   generalize atDW d i = x at *
   obtain ⟨p, hp⟩ : ∃ p, p = f * x := ⟨_, rfl⟩
   have hpi : (f : Int) * (x : Int) = (p : Int) := by rw [hp]; simp
   have hpl : p ≤ 18446744065119617025 := by rw [hp]; exact mul_ltW hf hx
   obtain ⟨s0, hs0⟩ : ∃ s0, s0 = p + m := ⟨_, rfl⟩
   have hsi : (p : Int) + (m : Int) = (s0 : Int) := by omega
   have hsl : s0 < 18446744073709551616 := by omega
   have HP := Lib.hid hp
   have HS0 := Lib.hid hs0
   have hsc : s0 + c < 18446744073709551616 := by omega
   have hq : (s0 + c) / 4294967296 + 0 < 4294967296 := by omega
   have HCS := Lib.hid (carry_step s0 c b1 _ hsc HL.out)
   clear hc0 hp hs0
   go_wp2_with fail
   refine HCS.out.mono ?_
   rintro e w5 ⟨rfl, hl5, hk5⟩
   have hio : i < out.length := by rw [HOL.out]; omega
   have HF5 := Lib.hid (HF.out.keeps hk5 (by omega))
   have HL5 := Lib.hid hl5
   have HB5 : Hid (Below w.heap.size w w5) := Lib.hid (HB.out.trans (hk5.below HB.out.size (by intro k hk; omega)))
   have g3 := HF5.out.cell hio
   have g4 := HF5.out.frozen i
   have HST := Lib.hid (word_step (t := p) (c := c + m) (s := s0 + c) hio HVAL.out (by rw [HZ.out i (Nat.le_refl _), HS0.out]; omega))
   have hil2 : (i : Int) < (d.length : Int) + 1 := by omega
   have hzl : (s0 + c) % 4294967296 < 4294967296 := Nat.mod_lt _ (by decide)
   generalize (s0 + c) % 4294967296 = z at *
   generalize (s0 + c) / 4294967296 = q at *
   generalize atDW out i = o at *
   clear hl5 hk5 hio HCS hcm2 hpl hpi hsi hsl hsc
   have HKS := Lib.hid (keeps_set w5 w.heap.size i (.int .u32 (z : Int)))
   go_wp2_with fail
   go_roundw
   case rel => exact ⟨i + 1, q, 0, out.set i z, by go_num, rfl, by omega, by omega, Lib.hid (by rw [List.length_set]; exact HOL.out), Lib.hid (by have := HST.out; rw [HT.out, Nat.add_mul, Nat.mul_assoc, Nat.mul_comm x f, ← HP.out, show q + 0 = q from rfl]; omega), Lib.hid (fun j hj => by rw [atD_set_neW (by omega)]; exact HZ.out j (by omega)), Lib.hid (set_ltW HDO.out hzl _), Lib.hid (HF5.out.set (by rw [HOL.out]; omega) z), Lib.hid (HL5.out.keeps HKS.out (by omega)), Lib.hid (HB5.out.setCell (p := ⟨w.heap.size, i, none⟩) (Nat.le_refl _) _)⟩
   case measure => simp [intOf] <;> omega
  ·have e : i = d.length := by omega
   subst e
   have hcm3 : m + c < 18446744073709551616 := by omega
   have HCS := Lib.hid (carry_step m c b1 _ hcm3 HL.out)
   have hml : m < 4294967296 := by omega
   go_wp2_with fail
   refine HCS.out.mono ?_
   rintro e w5 ⟨rfl, hl5, hk5⟩
   have hio : d.length < out.length := by rw [HOL.out]; omega
   have HF5 := Lib.hid (HF.out.keeps hk5 (by omega))
   have HB5 : Hid (Below w.heap.size w w5) := Lib.hid (HB.out.trans (hk5.below HB.out.size (by intro k hk; omega)))
   have g3 := HF5.out.cell hio
   have g4 := HF5.out.frozen d.length
   have hz : (m + c) % 4294967296 = c + m := by rw [Nat.mod_eq_of_lt (by omega)]; omega
   have HST : Hid (valDW (out.set d.length (c + m)) = n * f + m0) := Lib.hid (by
    have h1 := valD_setW hio (c + m)
    rw [HZ.out _ (Nat.le_refl _)] at h1
    have h2 := HVAL.out
    rw [List.take_length, HN.out] at h2
    omega)
   have HTR : Hid (∀ w6, Wds w6 w.heap.size (out.set d.length (c + m)) → Calls Tryz.prog 79 #[.slice (some ⟨w.heap.size, 0, none⟩) (d.length + 1) (d.length + 1)] w6 (TrimEnd (some ⟨w.heap.size, 0, none⟩) (n * f + m0) w6)) := Lib.hid (fun w6 h6 => by
    have hlen : (out.set d.length (c + m)).length = d.length + 1 := by rw [List.length_set]; exact HOL.out
    have := trimmed_loc (some ⟨w.heap.size, 0, none⟩) (d.length + 1) _ w6 (h6.row0 (by omega) (by omega)) (set_ltW HDO.out (by omega) _) (by omega)
    rw [HST.out, hlen] at this
    exact this)
   unfold TrimEnd at HTR
   rw [hz] at *
   have hil2 : (d.length : Int) < (d.length : Int) + 1 := by omega
   generalize atDW out d.length = o at *
   generalize c + m = z at *
   have HF6 := Lib.hid (HF5.out.set hio z)
   have HB6 := Lib.hid (HB5.out.setCell (p := ⟨w.heap.size, d.length, none⟩) (Nat.le_refl _) (.int .u32 (z : Int)))
   clear hl5 hk5 hio HCS hcm2 hcm3 hz
   go_wp2_with fail
   refine (HTR.out _ HF6.out).mono ?_
   rintro e w7 ⟨q, m2, k2, rfl, hqp, hr, rfl⟩
   have HQP := Lib.hid hqp
   clear hqp
   go_wp2_with fail
   go_ret
   exact ⟨q, m2, k2, rfl, hr, HB6.out, by
    intro j hj
    rcases HQP.out with h | h
    ·rw [h] at hj; have : j = w.heap.size := hj; omega
    ·rw [h] at hj; exact hj.elim⟩
theorem Keeps.also {A A2 : Foot} {a b c : World} (h : Keeps A a b) (k : Keeps A2 b c) (hA : ∀ i, i < a.heap.size → A2 i → A i) : Keeps A a c :=
 ⟨k.os.trans h.os, k.tape.trans h.tape, k.output.trans h.output, Nat.le_trans h.size k.size, fun i hi hn => (k.same i (Nat.lt_of_lt_of_le hi h.size) (fun h2 => hn (hA i hi h2))).trans (h.same i hi hn)⟩
theorem mid_at {pre out post : List Nat} {i : Nat} (h : i < out.length) : atDW (pre ++ out ++ post) (pre.length + i) = atDW out i := by
 unfold atDW
 rw [List.append_assoc, List.getElem?_append_right (by omega), Nat.add_sub_cancel_left, List.getElem?_append_left h]
theorem mid_set {pre out post : List Nat} {i z : Nat} (h : i < out.length) : (pre ++ out ++ post).set (pre.length + i) z = pre ++ out.set i z ++ post := by
 rw [List.append_assoc, List.set_append_right _ _ (by omega), Nat.add_sub_cancel_left, List.set_append_left _ _ h, List.append_assoc]
theorem Wds.mid {W : World} {g off : Nat} {pre out post : List Nat} (h : Wds W g (pre ++ out ++ post)) (ho : pre.length = off) {i : Nat} (hi : i < out.length) : W.cell? ⟨g, off + i, none⟩ = some (.int .u32 (atDW out i : Int)) := by
 subst ho
 rw [h.cell (i := pre.length + i) (by simp; omega), mid_at hi]
theorem Wds.midSet {W : World} {g off : Nat} {pre out post : List Nat} (h : Wds W g (pre ++ out ++ post)) (ho : pre.length = off) {i : Nat} (hi : i < out.length) (z : Nat) : Wds (W.setCell ⟨g, off + i, none⟩ (.int .u32 (z : Int))) g (pre ++ out.set i z ++ post) := by
 subst ho
 rw [← mid_set hi]
 exact h.set (by simp; omega) z
theorem row_block {k : IntKind} {w : World} {v : Value} {zs : List Int} (h : Row k w v zs) (hz : zs ≠ []) : ∀ j, blockOf v j → j < w.heap.size := by
 obtain ⟨p, c, rfl, _, _, h4, _⟩ := h
 obtain ⟨b, off, rfl, hc⟩ := h4 hz
 intro j hj
 have h6 : j = b := hj
 rw [h6]
 exact World.block_lt_of_cell? _ _ (hc 0 (List.length_pos_iff.2 hz))
theorem natI_ne {l : List Nat} (h : l ≠ []) : natI l ≠ [] := fun e => h (by cases l with | nil => rfl | cons x l => simp [natI] at e)
def AddEnd (g : Nat) (pre x post : List Nat) (n : Nat) (w : World) (e : Ending) (w' : World) : Prop :=
 ∃ (c : Nat) (out : List Nat), e = .returned (.bool (decide (0 < c))) ∧ c ≤ 1 ∧ out.length = x.length ∧ (∀ k ∈ out, k < 4294967296) ∧ valDW out + 4294967296 ^ x.length * c = valDW x + n ∧ Wds w' g (pre ++ out ++ post) ∧ Keeps (fun k => k = g) w w'
set_option maxHeartbeats 8000000 in
theorem addTo_any (g off cap : Nat) (pre x post bs : List Nat) (vb : Value) (w : World) (hw : Wds w g (pre ++ x ++ post)) (hp : pre.length = off) (hx : ∀ k ∈ x, k < 4294967296) (hb : Row .u32 w vb (natI bs)) (hbd : ∀ k ∈ bs, k < 4294967296) (hbg : bs ≠ [] → ∀ j, blockOf vb j → j ≠ g) (hl : bs.length ≤ x.length) (hxl : x.length ≤ 1000000) (hc : x.length ≤ cap) (hcm : cap ≤ 1000000000) :
  Calls Tryz.prog 78 #[.slice (some ⟨g, off, none⟩) x.length cap, vb] w (AddEnd g pre x post (valDW bs) w) := by
 obtain ⟨ab, cb, rfl, hcb, hcbm⟩ := row_formW hb
 have HB := Lib.hid hb
 have HBD := Lib.hid hbd
 have HBG := Lib.hid hbg
 have HX := Lib.hid hx
 have HP := Lib.hid hp
 have HW := Lib.hid hw
 have hgs := hw.lt
 clear hb hbd hbg hx hw hp
 go_enter Tryz.func78, Tryz.ntmps78
 go_wp2_with fail
 refine (carrying_any w).mono ?_
 rintro e w4 ⟨rfl, hw4⟩
 have HL4 : Hid (Laid w4 w.heap.size 60 [.int .u64 ((0 : Nat) : Int)]) := Lib.hid (by rw [hw4]; exact Laid.new _ _ _)
 have HK4 : Hid (Keeps (fun k => k = g) w w4) := Lib.hid (by rw [hw4]; exact (Keeps.refl _ _).alloc _)
 have HW4 : Hid (Wds w4 g (pre ++ x ++ post)) := Lib.hid (by rw [hw4]; exact HW.out.keeps ((Keeps.refl (fun _ => False) _).alloc _) (fun h => h))
 clear hw4 HW
 generalize hb1 : w.heap.size = b1 at *
 go_wp2_with fail
 go_loopw [6, 7, 12] (fun _ _ iv wr => ∃ (i c : Nat) (out : List Nat), iv = .int .i64 (i : Int) ∧ i ≤ bs.length ∧ c ≤ 1 ∧ Hid (out.length = x.length) ∧ Hid (valDW out + 4294967296 ^ i * c = valDW x + valDW (bs.take i)) ∧ Hid (∀ k ∈ out, k < 4294967296) ∧ Hid (Wds wr g (pre ++ out ++ post)) ∧ Hid (Laid wr b1 60 [.int .u64 (c : Int)]) ∧ Hid (Keeps (fun k => k = g) w wr)) (fun _ _ iv _ => ((bs.length : Int) - intOf iv).toNat)
 case atStart => exact ⟨0, 0, x, rfl, Nat.zero_le _, by decide, Lib.hid rfl, Lib.hid (by simp [valDW]), HX, HW4, HL4, HK4⟩
 case round =>
  obtain ⟨i, c, out, rfl, hil, hc1, HOL, HVAL, HDO, HF, HL, HK⟩ := hrel
  clear HW4 HL4 HK4
  rcases Nat.lt_or_ge i bs.length with h | h
  ·obtain ⟨b, ob, rfl, hc0⟩ := row_elemW HB.out h
   have hc := HK.out.cell hc0 (HBG.out (fun e => by rw [e] at h; simp at h) b rfl)
   have hy := atD_ltW HBD.out i
   have hio : i < out.length := by rw [HOL.out]; omega
   have hco := HF.out.mid HP.out hio
   have ho := atD_ltW HDO.out i
   have HT := Lib.hid (valD_take_atW bs i)
   have HST := Lib.hid (word_step (t := atDW bs i) (c := c) hio HVAL.out rfl)
   have hi0 : (0 : Int) ≤ (i : Int) := by omega
   have hix : (i : Int) < (x.length : Int) := by omega
   generalize atDW bs i = y at *
   generalize atDW out i = o at *
   obtain ⟨s0, hs0⟩ : ∃ s0, s0 = o + y := ⟨_, rfl⟩
   have hsi : (o : Int) + (y : Int) = (s0 : Int) := by omega
   have hsc : s0 + c < 18446744073709551616 := by omega
   have hq : (s0 + c) / 4294967296 ≤ 1 := by omega
   have hzl : (s0 + c) % 4294967296 < 4294967296 := Nat.mod_lt _ (by decide)
   have HCS := Lib.hid (carry_step s0 c b1 _ hsc HL.out)
   rw [← hs0] at HST
   clear hc0 hs0
   go_wp2_with fail
   refine HCS.out.mono ?_
   rintro e w5 ⟨rfl, hl5, hk5⟩
   have HF5 := Lib.hid (HF.out.keeps hk5 (by omega))
   have HL5 := Lib.hid hl5
   have HK5 : Hid (Keeps (fun k => k = g) w w5) := Lib.hid (HK.out.also hk5 (by intro k h1 h2; omega))
   have g3 := HF5.out.mid HP.out hio
   have g4 := HF5.out.frozen (off + i)
   generalize (s0 + c) % 4294967296 = z at *
   generalize (s0 + c) / 4294967296 = q at *
   generalize atDW out i = o2 at *
   clear hl5 hk5 HCS hsi hsc hc hco
   have HKS := Lib.hid (keeps_set w5 g (off + i) (.int .u32 (z : Int)))
   have HF6 := Lib.hid (HF5.out.midSet HP.out hio z)
   clear hio
   go_wp2_with fail
   go_roundw
   case rel => exact ⟨i + 1, q, out.set i z, by go_num, by omega, hq, Lib.hid (by rw [List.length_set]; exact HOL.out), Lib.hid (by have := HST.out; rw [HT.out]; omega), Lib.hid (set_ltW HDO.out hzl _), HF6, Lib.hid (HL5.out.keeps HKS.out (by omega)), Lib.hid (HK5.out.also HKS.out (by intro k h1 h2; exact h2))⟩
   case measure => simp [intOf] <;> omega
  ·have e : i = bs.length := by omega
   subst e
   rw [List.take_length] at HVAL
   have HX2 : Hid (valDW x + valDW bs = valDW x + valDW bs) := Lib.hid rfl
   clear HB HBG
   go_wp2_with fail
   go_loopw [8] (fun iv wr => ∃ (i c : Nat) (out : List Nat), iv = .int .i64 (i : Int) ∧ i ≤ x.length ∧ c ≤ 1 ∧ Hid (out.length = x.length) ∧ Hid (valDW out + 4294967296 ^ i * c = valDW x + valDW bs) ∧ Hid (∀ k ∈ out, k < 4294967296) ∧ Hid (Wds wr g (pre ++ out ++ post)) ∧ Hid (Laid wr b1 60 [.int .u64 (c : Int)]) ∧ Hid (Keeps (fun k => k = g) w wr)) (fun iv _ => ((x.length : Int) - intOf iv).toNat)
   case atStart => exact ⟨bs.length, c, out, rfl, hl, hc1, HOL, HVAL, HDO, HF, HL, HK⟩
   case round =>
    clear HOL HVAL HDO HF HL HK hc1
    obtain ⟨i, c, out, rfl, hil, hc1, HOL, HVAL, HDO, HF, HL, HK⟩ := hrel
    rcases Nat.lt_or_ge i x.length with h2 | h2
    ·have hio : i < out.length := by rw [HOL.out]; omega
     have hco := HF.out.mid HP.out hio
     have ho := atD_ltW HDO.out i
     have HST := Lib.hid (word_step (t := 0) (c := c) hio HVAL.out rfl)
     have hi0 : (0 : Int) ≤ (i : Int) := by omega
     generalize atDW out i = o at *
     have hsc : o + c < 18446744073709551616 := by omega
     have hq : (o + c) / 4294967296 ≤ 1 := by omega
     have hzl : (o + c) % 4294967296 < 4294967296 := Nat.mod_lt _ (by decide)
     have HCS := Lib.hid (carry_step o c b1 _ hsc HL.out)
     rw [Nat.add_zero] at HST
     go_wp2_with fail
     refine HCS.out.mono ?_
     rintro e w5 ⟨rfl, hl5, hk5⟩
     have HF5 := Lib.hid (HF.out.keeps hk5 (by omega))
     have HL5 := Lib.hid hl5
     have HK5 : Hid (Keeps (fun k => k = g) w w5) := Lib.hid (HK.out.also hk5 (by intro k h1 h2; omega))
     have g3 := HF5.out.mid HP.out hio
     have g4 := HF5.out.frozen (off + i)
     generalize (o + c) % 4294967296 = z at *
     generalize (o + c) / 4294967296 = q at *
     generalize atDW out i = o2 at *
     clear hl5 hk5 HCS hsc hco
     have HKS := Lib.hid (keeps_set w5 g (off + i) (.int .u32 (z : Int)))
     have HF6 := Lib.hid (HF5.out.midSet HP.out hio z)
     clear hio
     go_wp2_with fail
     go_roundw
     case rel => exact ⟨i + 1, q, out.set i z, by go_num, by omega, hq, Lib.hid (by rw [List.length_set]; exact HOL.out), Lib.hid (by have := HST.out; omega), Lib.hid (set_ltW HDO.out hzl _), HF6, Lib.hid (HL5.out.keeps HKS.out (by omega)), Lib.hid (HK5.out.also HKS.out (by intro k h1 h2; exact h2))⟩
     case measure => simp [intOf] <;> omega
    ·have e : i = x.length := by omega
     subst e
     have HCS := Lib.hid (carry_step 0 c b1 _ (by omega) HL.out)
     rw [Nat.zero_add, show ((0 : Nat) : Int) = 0 from rfl] at HCS
     have hcm3 : c % 4294967296 = c := Nat.mod_eq_of_lt (by omega)
     clear HX2
     go_wp2_with fail
     refine HCS.out.mono ?_
     rintro e w5 ⟨rfl, hl5, hk5⟩
     have HF5 := Lib.hid (HF.out.keeps hk5 (by omega))
     have HK5 : Hid (Keeps (fun k => k = g) w w5) := Lib.hid (HK.out.also hk5 (by intro k h1 h2; omega))
     rw [hcm3]
     clear hl5 hk5 hcm3 HCS
     go_wp2_with fail
     go_ret
     exact ⟨c, out, by simp, hc1, HOL.out, HDO.out, HVAL.out, HF5.out, HK5.out⟩
theorem under_words : Tryz.prog.underlying 30 = some (.slice 116) := by kernel_rfl
theorem size_word : (Tryz.prog.info? 116).map (·.size) = some 1 := by kernel_rfl
theorem wpList_copy_words {w : World} {ops : Array Oper} {rest : List Oper} {o : Oper} {a : Act} {Q : Exit → Act → World → Prop} (hgd : o.guard = none) (d s : Operand)
  (ho : o.op = .call { callee := .builtin .copy, args := #[d, s], argTypes := #[30, 30] }) (g n cap : Nat) (hd : a.eval d = .slice (some ⟨g, 0, none⟩) n cap) (u : Value) (hs : a.eval s = u)
  (out l : List Nat) (hn : n = out.length) (hw : Wds w g out) (hr : Row .u32 w u (natI l)) (hl : l.length ≤ out.length)
  (h : ∀ w', Wds w' g (l ++ out.drop l.length) → Below g w w' → wpList Tryz.prog ops Q rest (a.put o.dst (goInt l.length)) w') : wpList Tryz.prog ops Q (o :: rest) a w := by
 obtain ⟨more, hw⟩ := hw
 obtain ⟨ap, cp, rfl, hc, hm, hne, _⟩ := hr
 rw [natI_length] at *
 refine wpList_copy_splice hgd d s _ _ ho 116 under_words size_word _ _ n cap l.length cp hd hs g 0 ((natI out).map (Value.int .u32) ++ more) 116 hw ((natI l).map (Value.int .u32)) (by simp [natI]; exact (Nat.min_eq_left (by omega)).symm) ?_ (by simp [natI]; omega) (by intro v hv; obtain ⟨z, _, rfl⟩ := List.mem_map.1 hv; rfl) g w (Below.refl _ _) (Nat.le_refl _) ?_
 ·intro hpos
  refine ⟨rfl, ?_⟩
  obtain ⟨b, off, rfl, hcell⟩ := hne (fun h => by rw [h] at hpos; simp at hpos)
  refine ⟨_, rfl, fun j v hv => ?_⟩
  have hj : j < l.length := by
   rcases Nat.lt_or_ge j l.length with h | h
   ·exact h
   ·rw [List.getElem?_eq_none (by simp [natI]; exact h)] at hv; cases hv
  rw [add_none, hcell j hj, ← hv]
  simp [natI, hj]
 ·intro w' hw' hb
  have e : ((natI l).map (Value.int .u32)).length = l.length := by simp [natI]
  rw [e]
  refine h w' ⟨more, ?_⟩ hb
  have h2 := hw'.out
  unfold splice at h2
  rw [e, List.take_zero, List.nil_append, Nat.zero_add, List.drop_append_of_le_length (by simp [natI]; exact hl)] at h2
  show w'.heap[g]? = _
  rw [h2]
  simp [natI, List.map_drop]
theorem valD_pad (l : List Nat) (k : Nat) : valDW (l ++ List.replicate k 0) = valDW l := by
 rw [valD_appendW, valD_zerosW]; simp
theorem sum_val {la lb out : List Nat} {a b c m : Nat} (hm : m = la.length + 1) (hval : valDW out + 4294967296 ^ m * c = valDW (la ++ List.replicate 1 0) + valDW lb) (hc1 : c ≤ 1) (ha : valDW la = a) (hb : valDW lb = b) (hda : ∀ k ∈ la, k < 4294967296) (hdb : ∀ k ∈ lb, k < 4294967296) (hl : lb.length ≤ la.length) : valDW out = a + b := by
 have h1 := valD_ltW hda
 have h2 := valD_ltW hdb
 have h3 : 4294967296 ^ lb.length ≤ 4294967296 ^ la.length := Nat.pow_le_pow_right (by decide) hl
 rw [valD_pad, ha, hb] at hval
 rw [ha] at h1
 rw [hb] at h2
 rcases (by omega : c = 0 ∨ c = 1) with hc | hc
 ·subst hc; rw [Nat.mul_zero] at hval; omega
 ·subst hc
  rw [hm, Nat.pow_succ, Nat.mul_one] at hval
  generalize 4294967296 ^ la.length = p at *
  generalize 4294967296 ^ lb.length = q at *
  omega
set_option maxHeartbeats 8000000 in
theorem sum_wide (u v : Value) (a b : Nat) (w : World) (hu : Row .u32 w u (natI (digsW a))) (hv : Row .u32 w v (natI (digsW b))) (ha : (digsW a).length ≤ 900000) (hb : (digsW b).length ≤ 900000) :
  Calls Tryz.prog 47 #[u, v] w (WEnd (a + b) w) := by
 obtain ⟨i0, hi, hz0, hz1, hz2⟩ := info_parts info_u32
 obtain ⟨pa, ca, rfl, hca, hcam⟩ := row_formW hu
 obtain ⟨pb, cb, rfl, hcb, hcbm⟩ := row_formW hv
 have HU := Lib.hid hu
 have HV := Lib.hid hv
 have HDA := Lib.hid (digs_ltW a)
 have HDB := Lib.hid (digs_ltW b)
 have HNA : Hid (valDW (digsW a) = a) := Lib.hid (valD_digsW a)
 have HNB : Hid (valDW (digsW b) = b) := Lib.hid (valD_digsW b)
 clear hu hv
 generalize digsW a = da at *
 generalize digsW b = db at *
 rcases Nat.lt_or_ge da.length db.length with hlt | hlt
 ·go_enter Tryz.func47, Tryz.ntmps47
  go_wp2_with (first
   | (at_make; go_must (refine wpList_make_fresh rfl _ _ 30 rfl w.heap.size 116 i0 .u32 4 Tryz.underlying30 hi hz0 hz1 hz2 (by decide) _ _ _ _ (db.length + 1) rfl rfl (by first | rfl | omega) (by first | rfl | omega) (by omega) (Nat.le_refl _) ?_); intro w3 hfr hb3 hsz3; have HF0 : Hid (Wds w3 w.heap.size (List.replicate (db.length + 1) 0)) := Lib.hid (Wds.of_fresh (B := w.heap.size) (by simpa [natI] using hfr)); have HB3 := Lib.hid hb3; have HRA := Lib.hid (row_keeps HV.out hb3); clear hfr hb3 hsz3)
   | (have HF00 := HF0; (refine wpList_copy_words (o := ⟨some 19, _, _, _, _, _⟩) rfl _ _ rfl w.heap.size (db.length + 1) (db.length + 1) (by rfl) (.slice pb db.length cb) (by rfl) (List.replicate (db.length + 1) 0) db (by simp) HF0.out HRA.out (by simp) ?_); intro w4 hw4 hb4))
  rw [List.drop_replicate, show db.length + 1 - db.length = 1 by omega] at hw4
  have HB4 : Hid (Below w.heap.size w w4) := Lib.hid (HB3.out.trans hb4)
  have hrb := row_keeps HU.out HB4.out
  have hbl : da ≠ [] → ∀ j, blockOf (.slice pa da.length ca) j → j ≠ w.heap.size := fun hne j hj => by
   have := row_block HU.out (natI_ne hne) j hj
   omega
  have hx1 : (db ++ List.replicate 1 0).length = db.length + 1 := by simp
  have hxd : ∀ k ∈ db ++ List.replicate 1 0, k < 4294967296 := by
   intro k hk
   rcases List.mem_append.1 hk with h | h
   ·exact HDB.out k h
   ·rw [(List.mem_replicate.1 h).2]; decide
  have hlen0 : w.heap.size < w4.heap.size := hw4.lt
  have AD := addTo_any w.heap.size 0 (db.length + 1) [] (db ++ List.replicate 1 0) [] da _ w4 (by simpa using hw4) rfl hxd hrb HDA.out hbl (by omega) (by omega) (by omega) (by omega)
  rw [hx1] at AD
  unfold AddEnd at AD
  have HAD := Lib.hid AD
  clear AD hw4 hb4 hrb hbl hxd
  refine HAD.out.mono ?_
  rintro e w5 ⟨c, out, rfl, hc1, hol, hod, hval, hw5, hk5⟩
  rw [hx1] at hol
  have hB5 : Below w.heap.size w w5 := HB4.out.trans (hk5.below (by omega) (by intro k hk; omega))
  have hval2 : valDW out = a + b := (Nat.add_comm b a) ▸ sum_val hx1 hval hc1 HNB.out HNA.out HDB.out HDA.out (by omega)
  have TR := trimmed_loc (some ⟨w.heap.size, 0, none⟩) (db.length + 1) out w5 (Wds.row0 (by simpa using hw5) (by omega) (by omega)) hod (by omega)
  rw [hval2, hol] at TR
  unfold TrimEnd at TR
  have HTR := Lib.hid TR
  have HB5 := Lib.hid hB5
  clear TR hB5 hval hval2 hw5 hk5 hod HAD
  go_wp2_with fail
  refine HTR.out.mono ?_
  rintro e w6 ⟨q, m, k, rfl, _, hr, rfl⟩
  go_wp2_with fail
  go_ret
  exact ⟨q, m, k, rfl, hr, HB5.out⟩
 ·have hge : ¬ da.length < db.length := by omega
  go_enter Tryz.func47, Tryz.ntmps47
  go_wp2_with (first
   | (at_make; go_must (refine wpList_make_fresh rfl _ _ 30 rfl w.heap.size 116 i0 .u32 4 Tryz.underlying30 hi hz0 hz1 hz2 (by decide) _ _ _ _ (da.length + 1) rfl rfl (by first | rfl | omega) (by first | rfl | omega) (by omega) (Nat.le_refl _) ?_); intro w3 hfr hb3 hsz3; have HF0 : Hid (Wds w3 w.heap.size (List.replicate (da.length + 1) 0)) := Lib.hid (Wds.of_fresh (B := w.heap.size) (by simpa [natI] using hfr)); have HB3 := Lib.hid hb3; have HRA := Lib.hid (row_keeps HU.out hb3); clear hfr hb3 hsz3)
   | (have HF00 := HF0; (refine wpList_copy_words (o := ⟨some 19, _, _, _, _, _⟩) rfl _ _ rfl w.heap.size (da.length + 1) (da.length + 1) (by rfl) (.slice pa da.length ca) (by rfl) (List.replicate (da.length + 1) 0) da (by simp) HF0.out HRA.out (by simp) ?_); intro w4 hw4 hb4))
  rw [List.drop_replicate, show da.length + 1 - da.length = 1 by omega] at hw4
  have HB4 : Hid (Below w.heap.size w w4) := Lib.hid (HB3.out.trans hb4)
  have hrb := row_keeps HV.out HB4.out
  have hbl : db ≠ [] → ∀ j, blockOf (.slice pb db.length cb) j → j ≠ w.heap.size := fun hne j hj => by
   have := row_block HV.out (natI_ne hne) j hj
   omega
  have hx1 : (da ++ List.replicate 1 0).length = da.length + 1 := by simp
  have hxd : ∀ k ∈ da ++ List.replicate 1 0, k < 4294967296 := by
   intro k hk
   rcases List.mem_append.1 hk with h | h
   ·exact HDA.out k h
   ·rw [(List.mem_replicate.1 h).2]; decide
  have hlen0 : w.heap.size < w4.heap.size := hw4.lt
  have AD := addTo_any w.heap.size 0 (da.length + 1) [] (da ++ List.replicate 1 0) [] db _ w4 (by simpa using hw4) rfl hxd hrb HDB.out hbl (by omega) (by omega) (by omega) (by omega)
  rw [hx1] at AD
  unfold AddEnd at AD
  have HAD := Lib.hid AD
  clear AD hw4 hb4 hrb hbl hxd
  refine HAD.out.mono ?_
  rintro e w5 ⟨c, out, rfl, hc1, hol, hod, hval, hw5, hk5⟩
  rw [hx1] at hol
  have hB5 : Below w.heap.size w w5 := HB4.out.trans (hk5.below (by omega) (by intro k hk; omega))
  have hval2 : valDW out = a + b := sum_val hx1 hval hc1 HNA.out HNB.out HDA.out HDB.out (by omega)
  have TR := trimmed_loc (some ⟨w.heap.size, 0, none⟩) (da.length + 1) out w5 (Wds.row0 (by simpa using hw5) (by omega) (by omega)) hod (by omega)
  rw [hval2, hol] at TR
  unfold TrimEnd at TR
  have HTR := Lib.hid TR
  have HB5 := Lib.hid hB5
  clear TR hB5 hval hval2 hw5 hk5 hod HAD
  go_wp2_with fail
  refine HTR.out.mono ?_
  rintro e w6 ⟨q, m, k, rfl, _, hr, rfl⟩
  go_wp2_with fail
  go_ret
  exact ⟨q, m, k, rfl, hr, HB5.out⟩
set_option maxHeartbeats 2000000 in
theorem carryI_any (s c : Int) (b : Nat) (w : World) (hs : -9223372036854775808 ≤ s + c ∧ s + c ≤ 9223372036854775807) (hc : w.cell? ⟨b, 0, none⟩ = some (.int .i64 c)) (hf : w.frozen? ⟨b, 0, none⟩ = false) :
  Calls Tryz.prog 131 #[.int .i64 s, .pointer (some ⟨b, 0, none⟩)] w fun e w' => e = .returned (.int .u32 ((s + c) % 4294967296)) ∧ w' = w.setCell ⟨b, 0, none⟩ (.int .i64 ((s + c) / 4294967296)) := by
 have h1 := hs.1
 have h2 := hs.2
 go_enter Tryz.func131, Tryz.ntmps131
 go_wp2_with fail
 go_ret
 exact ⟨by simp, by simp⟩
theorem carryingI_any (w : World) :
  Calls Tryz.prog 112 #[] w fun e w' => e = .returned (.func (.func 131) #[] #[.pointer (some ⟨w.heap.size, 0, none⟩)]) ∧ w' = w.alloc (.cells #[.int .i64 0] 2) := by
 go_enter Tryz.func112, Tryz.ntmps112
 go_wp2_with fail
 go_ret
 exact ⟨rfl, rfl⟩
def CarryEndI (b : Nat) (s : Int) (w : World) (e : Ending) (w' : World) : Prop := e = .returned (.int .u32 (s % 4294967296)) ∧ Laid w' b 2 [.int .i64 (s / 4294967296)] ∧ Keeps (fun k => k = b) w w'
theorem carryI_step (s c : Int) (b : Nat) (w : World) (hs : -9223372036854775808 ≤ s + c ∧ s + c ≤ 9223372036854775807) (hb : Laid w b 2 [.int .i64 c]) :
  Calls Tryz.prog 131 #[.int .i64 s, .pointer (some ⟨b, 0, none⟩)] w (CarryEndI b (s + c) w) := by
 refine (carryI_any s c b w hs (hb.cell 0) (hb.frozen 0)).mono ?_
 rintro e w' ⟨rfl, rfl⟩
 exact ⟨rfl, hb.set 0 _, keeps_set _ _ _ _⟩
theorem pow_castW (i : Nat) : ((4294967296 ^ i : Nat) : Int) = (4294967296 : Int) ^ i := by simp
theorem take_step {out : List Nat} {i z : Nat} {lo m m' br br' P T : Int} (hi : i < out.length) (h : (valDW out : Int) + (4294967296 : Int) ^ i * (br - m) = T) (hs : (z : Int) + 4294967296 * br' = (atDW out i : Int) - lo + br) (hm : lo + 4294967296 * m' = P + m) :
  (valDW (out.set i z) : Int) + (4294967296 : Int) ^ (i + 1) * (br' - m') = T - (4294967296 : Int) ^ i * P := by
 have h1 := congrArg (fun t : Nat => (t : Int)) (valD_setW hi z)
 simp only [Int.natCast_add, Int.natCast_mul, pow_castW] at h1
 rw [Int.pow_succ]
 generalize (4294967296 : Int) ^ i = p at *
 have e1 := congrArg (fun t => p * t) hs
 have e2 := congrArg (fun t => p * t) hm
 simp only [Int.mul_add, Int.mul_sub] at e1 e2 h ⊢
 rw [Int.mul_assoc, Int.mul_assoc]
 generalize p * (4294967296 * br') = a1 at *
 generalize p * (4294967296 * m') = a2 at *
 generalize p * br = a3 at *
 generalize p * m = a4 at *
 generalize p * lo = a5 at *
 generalize p * P = a6 at *
 generalize p * (z : Int) = a7 at *
 generalize p * (atDW out i : Int) = a8 at *
 omega
def TakeEnd (g : Nat) (pre x post : List Nat) (t : Nat) (w : World) (e : Ending) (w' : World) : Prop :=
 ∃ (d : Nat) (out : List Nat), e = .returned (.bool (decide (0 < d))) ∧ d < 4294967296 ∧ out.length = x.length ∧ (∀ k ∈ out, k < 4294967296) ∧ valDW out + t = valDW x + 4294967296 ^ x.length * d ∧ Wds w' g (pre ++ out ++ post) ∧ Keeps (fun k => k = g) w w'
theorem take_less {out x bs : List Nat} {f n : Nat} {br m : Int} (hn : x.length = n) (hol : out.length = n) (hod : ∀ k ∈ out, k < 4294967296) (hbd : ∀ k ∈ bs, k < 4294967296) (hl : bs.length ≤ n) (hf : f < 4294967296) (hm : 0 ≤ m ∧ m < 4294967296) (hbr : -1 ≤ br ∧ br ≤ 0)
  (h : (valDW out : Int) + (4294967296 : Int) ^ n * (br - m) = (valDW x : Int) - (f : Int) * (valDW bs : Int)) : (m - br).toNat < 4294967296 ∧ valDW out + f * valDW bs = valDW x + 4294967296 ^ n * (m - br).toNat := by
 obtain ⟨d, hd⟩ : ∃ d : Nat, m - br = (d : Int) := ⟨(m - br).toNat, by omega⟩
 have hd2 : br - m = -(d : Int) := by omega
 rw [hd]
 have h0 : valDW out + f * valDW bs = valDW x + 4294967296 ^ n * d := by
  rw [hd2, Int.mul_neg, ← pow_castW] at h
  have e1 : ((f * valDW bs : Nat) : Int) = (f : Int) * (valDW bs : Int) := by simp
  have e2 : ((4294967296 ^ n * d : Nat) : Int) = ((4294967296 ^ n : Nat) : Int) * (d : Int) := by simp
  rw [← e1, ← e2] at h
  generalize f * valDW bs = a1 at *
  generalize 4294967296 ^ n * d = a2 at *
  omega
 refine ⟨?_, by simpa using h0⟩
 rw [Int.toNat_natCast]
 rcases Nat.lt_or_ge d 4294967296 with h1 | h1
 ·exact h1
 ·exfalso
  have h2 := valD_ltW hod
  have h3 := valD_ltW hbd
  have h4 : 4294967296 ^ bs.length ≤ 4294967296 ^ n := Nat.pow_le_pow_right (by decide) hl
  rw [hol] at h2
  have h5 : 4294967296 ^ n * 4294967296 ≤ 4294967296 ^ n * d := Nat.mul_le_mul_left _ h1
  have h6 : f * valDW bs ≤ 4294967295 * valDW bs := Nat.mul_le_mul_right _ (by omega)
  generalize f * valDW bs = a1 at *
  generalize 4294967296 ^ n * d = a2 at *
  generalize 4294967296 ^ n = p at *
  generalize 4294967296 ^ bs.length = q at *
  omega
end Go.Proofs.YtepakogbbomaoaaGreatDoor
