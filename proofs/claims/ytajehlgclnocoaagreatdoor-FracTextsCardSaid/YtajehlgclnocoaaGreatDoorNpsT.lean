/-
 The reference of package wide: Parse. (tools/genNps.py makes this text.)
-/
import Derived.Test.YtajehlgclnocoaaGreatDoorCmrT
import Derived.Test.YtajehlgclnocoaaGreatDoorNfiT
import Derived.Test.YtajehlgclnocoaaGreatDoorTxHT
namespace Go.Proofs.YtajehlgclnocoaaGreatDoor
open Go.RowKit Go.Shelf
set_option linter.unusedVariables false
set_option maxRecDepth 100000
theorem bad_neg {d : List Nat} (h : ¬ (numT d ∧ d ≠ [48])) : ∀ n, 45 :: d ≠ txtN n := by
 intro n e
 rcases txt_good n with ⟨_, h1, h2⟩ | ⟨_, h1, h2⟩
 ·rw [h1] at e
  have e2 : d = decN n.natAbs := (List.cons.inj e).2
  exact h ⟨e2 ▸ decN_num _, e2 ▸ h2⟩
 ·rw [h1] at e
  rw [← e] at h2
  exact h2 rfl
theorem bad_pos {l : List Nat} (h : ¬ numT l) (h45 : l.head? ≠ some 45) : ∀ n, l ≠ txtN n := by
 intro n e
 rcases txt_good n with ⟨_, h1, h2⟩ | ⟨_, h1, h2⟩
 ·rw [e, h1] at h45; exact h45 rfl
 ·rw [e, h1] at h; exact h (decN_num _)
theorem str_at (s : ByteArray) {i : Nat} (h : i < s.size) : (strB s)[i]? = some s[i].toNat := by
 unfold strB
 rw [List.getElem?_map, List.getElem?_eq_getElem (by simpa using h)]
 rfl
theorem str_head (s : ByteArray) (h : 0 < s.size) : (strB s).head? = some s[0].toNat := by
 rw [List.head?_eq_getElem?]; exact str_at s h
theorem str_tail (s : ByteArray) (h : 0 < s.size) : strB s = s[0].toNat :: strB (s.extract 1 s.size) := by
 have h1 := str_at s h
 rw [strB_ext]
 cases hl : strB s with
 | nil => rw [hl] at h1; simp at h1
 | cons c t =>
  rw [hl] at h1
  have hc : c = s[0].toNat := by simpa using h1
  have hn := strB_length s
  rw [hl, List.length_cons] at hn
  rw [hc, List.drop_one, List.tail_cons, List.take_of_length_le (by omega)]
theorem dig_step (d : ByteArray) {j : Nat} (hj : j < d.size) (h : ∀ c ∈ (strB d).take j, digit8 c) (h1 : ¬ (d[j].toNat : Int) < 48) (h2 : ¬ (57 : Int) < (d[j].toNat : Int)) : ∀ c ∈ (strB d).take (j + 1), digit8 c := by
 intro c hc
 have := str_at d hj
 rw [List.take_add_one, this] at hc
 rcases List.mem_append.1 hc with hc | hc
 ·exact h c hc
 ·have : c = d[j].toNat := by simpa using hc
  subst this
  unfold digit8
  omega
theorem not_dig (d : ByteArray) {j : Nat} (hj : j < d.size) (h1 : (d[j].toNat : Int) < 48 ∨ (57 : Int) < (d[j].toNat : Int)) : ¬ numT (strB d) := by
 intro h
 have := h.2.1 d[j].toNat (List.mem_of_getElem? (str_at d hj))
 unfold digit8 at this
 omega
theorem group_lt {L : List Nat} (h : ∀ c ∈ L, digit8 c) {s k : Nat} (hk : k ≤ 4) : vT ((L.drop s).take k) < 10000 := by
 have h1 := vT_lt (l := (L.drop s).take k) (fun c hc => h c (List.mem_of_mem_drop (List.mem_of_mem_take hc)))
 have h2 : ((L.drop s).take k).length ≤ 4 := by rw [List.length_take]; omega
 have h3 : 10 ^ ((L.drop s).take k).length ≤ 10 ^ 4 := Nat.pow_le_pow_right (by decide) h2
 exact Nat.lt_of_lt_of_le h1 h3
theorem group_step {L : List Nat} {d : ByteArray} (hL : L = strB d) {s i : Nat} (hs : s ≤ i) (hi : i < d.size) : vT ((L.drop s).take (i + 1 - s)) = 10 * vT ((L.drop s).take (i - s)) + (d[i].toNat - 48) := by
 have h1 : i + 1 - s = (i - s) + 1 := by omega
 rw [h1, List.take_add_one, List.getElem?_drop, show s + (i - s) = i by omega, hL, str_at d hi]
 rw [show (some d[i].toNat).toList = [d[i].toNat] from rfl, vT_snoc, Nat.mul_comm]
theorem pow_four (j : Nat) : 10 ^ (4 * j) = 10000 ^ j := by rw [Nat.pow_mul]
theorem part_step {L : List Nat} {D : List Nat} {j e : Nat} (hD : D.length = j) (he : e + 4 * j = L.length) (h : valD D = vT (L.drop e)) (s : Nat) (hs : s ≤ e) :
  valD (D ++ [vT ((L.drop s).take (e - s))]) = vT (L.drop s) := by
 rw [valD_snoc, hD, h]
 have h1 : L.drop s = (L.drop s).take (e - s) ++ L.drop e := by
  have := (List.take_append_drop (e - s) (L.drop s)).symm
  rwa [List.drop_drop, show s + (e - s) = e by omega] at this
 have h2 : (L.drop e).length = 4 * j := by rw [List.length_drop]; omega
 have h3 := congrArg vT h1
 rw [vT_app, h2, pow_four] at h3
 rw [h3, Nat.mul_comm (10000 ^ j)]
 omega
def NREnd (n : Int) (w : World) (e : Ending) (w' : World) : Prop :=
 ∃ x c, e = .returned (.tuple #[x, .int .i64 c]) ∧ ((¬ big n ∧ c = 0 ∧ NAt w' x n) ∨ (big n ∧ c = 4 ∧ x = .agg #[.bool false, .slice none 0 0])) ∧ Below w.heap.size w w'
def PEnd (l : List Nat) (w : World) (e : Ending) (w' : World) : Prop := ((∀ n, l ≠ txtN n) ∧ BadEnd w e w') ∨ ∃ n, l = txtN n ∧ NREnd n w e w'
theorem vT_digs {l : List Nat} (h : ∀ c ∈ l, digit8 c) (hl : l.length ≤ 5000) : (digs (vT l)).length ≤ 500000 := by
 have h1 := vT_lt h
 have h2 : vT l < 10000 ^ l.length := Nat.lt_of_lt_of_le h1 (Nat.pow_le_pow_left (by decide) _)
 have := digs_len_le h2
 omega
theorem is45 {c : Nat} (h : ((c : Int) == 45) = true) : c = 45 := by
 have : (c : Int) = 45 := by simpa using h
 omega
theorem neg_good {s d : ByteArray} (h : strB s = 45 :: strB d) (hne : 0 < d.size) (hh : ¬ (d[0].toNat : Int) = 48) : ((∀ c ∈ strB d, digit8 c) → strB s = txtN (sgn true (vT (strB d)))) ∧ (¬ numT (strB d) → ∀ n, strB s ≠ txtN n) := by
 have hd := str_head d hne
 refine ⟨fun ha => ?_, fun hn => by rw [h]; exact bad_neg (fun h2 => hn h2.1)⟩
 have hnum : numT (strB d) := by
  refine ⟨fun e => ?_, ha, fun h2 => ?_⟩
  ·have := strB_length d; rw [e] at this; simp at this; omega
  ·rw [hd] at h2; have : d[0].toNat = 48 := by simpa using h2
   omega
 have h2 := (txt_num hnum).2 (fun e => by rw [e] at hd; have : 48 = d[0].toNat := (by simpa using hd); omega)
 rw [h]; unfold sgn; rw [if_pos rfl]; exact h2.symm
theorem pos_good {s : ByteArray} (hne : 0 < s.size) (hh : (s[0].toNat : Int) = 48 → s.size ≤ 1) (h45 : ((s[0].toNat : Int) == 45) = false) : ((∀ c ∈ strB s, digit8 c) → strB s = txtN (sgn false (vT (strB s)))) ∧ (¬ numT (strB s) → ∀ n, strB s ≠ txtN n) := by
 have hd := str_head s hne
 refine ⟨fun ha => ?_, fun hn => bad_pos hn (fun h2 => ?_)⟩
 ·have hnum : numT (strB s) := by
   refine ⟨fun e => ?_, ha, fun h2 => ?_⟩
   ·have := strB_length s; rw [e] at this; simp at this; omega
   ·rw [hd] at h2; have : s[0].toNat = 48 := by simpa using h2
    have := hh (by omega); rw [strB_length]; omega
  unfold sgn; exact (txt_num hnum).1.symm
 ·rw [hd] at h2
  have : s[0].toNat = 45 := by simpa using h2
  simp [this] at h45
theorem bad_one {s : ByteArray} {c : Nat} {d : ByteArray} (h : strB s = c :: strB d) (hc : ((c : Int) == 45) = true) (h2 : d.size = 0) : ∀ n, strB s ≠ txtN n := by
 have : c = 45 := by have : (c : Int) = 45 := (by simpa using hc); omega
 rw [h, this]
 exact bad_neg (fun h3 => h3.1.1 (List.length_eq_zero_iff.1 (by rw [strB_length]; exact h2)))
theorem bad_two {s : ByteArray} {c : Nat} {d : ByteArray} (h : strB s = c :: strB d) (hc : ((c : Int) == 45) = true) (hne : 0 < d.size) (h2 : (d[0].toNat : Int) = 48) : ∀ n, strB s ≠ txtN n := by
 have : c = 45 := by have : (c : Int) = 45 := (by simpa using hc); omega
 rw [h, this]
 have hd := str_head d hne
 refine bad_neg (fun h3 => h3.2 ?_)
 have hl := h3.1.2.2 (by rw [hd, show d[0].toNat = 48 by omega])
 cases hs : strB d with
 | nil => rw [hs] at hd; simp at hd
 | cons x t =>
  rw [hs] at hd hl
  have : x = d[0].toNat := by simpa using hd
  have : t = [] := List.length_eq_zero_iff.1 (by simpa using hl)
  subst this
  rw [show x = 48 by omega]
theorem bad_five {s : ByteArray} (hne : 0 < s.size) (h1 : (s[0].toNat : Int) = 48) (h2 : ((s.size : Int) == 0) = true ∨ 1 < (s.size : Int)) : ∀ n, strB s ≠ txtN n := by
 have hd := str_head s hne
 refine bad_pos (fun h3 => ?_) (fun h3 => ?_)
 ·have := h3.2.2 (by rw [hd, show s[0].toNat = 48 by omega])
  rw [strB_length] at this
  rcases h2 with h2 | h2
  ·have : (s.size : Int) = 0 := by simpa using h2
   omega
  ·omega
 ·rw [hd] at h3
  have : s[0].toNat = 45 := by simpa using h3
  omega
set_option maxHeartbeats 8000000 in
theorem nParse_any (s : ByteArray) (w : World) (hs : s.size ≤ 5000) (h0 : 0 < s.size) : Calls Tryz.prog 129 #[.string s] w (PEnd (strB s) w) := by
 have HST := Lib.hid (str_tail s h0)
 have HB0 : Hid (Below w.heap.size w (w.alloc (.cells #[.bool false, .slice none 0 0] 24))) := Lib.hid (below_one _ _)
 have HL0 := Lib.hid (Laid.new w 24 [.bool false, .slice none 0 0])
 have hsz : (s.extract 1 s.size).size = s.size - 1 := by rw [ByteArray.size_extract]; omega
 have HSZ := Lib.hid hsz
 clear hsz
 go_enter Tryz.func129, Tryz.ntmps129
 go_wp2_with fail
 all_goals
  obtain ⟨c0, c1, c2, c3⟩ := cells2 HL0.out
  generalize w.alloc (.cells #[.bool false, .slice none 0 0] 24) = w1 at *
 ·have h1 : ((s[0].toNat : Int) == 45) = true := by assumption
  have h2 : s.size - 1 = 0 := by assumption
  have HBD : Hid (∀ n, strB s ≠ txtN n) := Lib.hid (bad_one HST.out h1 (by rw [HSZ.out]; exact h2))
  refine bodyPost_ret (v := .tuple #[.agg #[.bool false, .slice none 0 0], .int .i64 2]) (by simp [results, Tryz.results129, go_sem, c0, c1]) rfl ?_
  first | exact .inl ⟨HBD.out, rfl, HB0.out⟩ | exact .inl ⟨HBD.out, rfl, below_set2 HB0.out (Nat.le_refl _)⟩
 ·have h1 : ((s[0].toNat : Int) == 45) = true := by assumption
  have h3 : 0 < s.size - 1 := by assumption
  have h4 : 0 < (s.extract 1 s.size).size := by rw [HSZ.out]; exact h3
  have h2 : ((s.extract 1 s.size)[0].toNat : Int) = 48 := by assumption
  have HBD : Hid (∀ n, strB s ≠ txtN n) := Lib.hid (bad_two HST.out h1 h4 h2)
  refine bodyPost_ret (v := .tuple #[.agg #[.bool false, .slice none 0 0], .int .i64 2]) (by simp [results, Tryz.results129, go_sem, c0, c1]) rfl ?_
  first | exact .inl ⟨HBD.out, rfl, HB0.out⟩ | exact .inl ⟨HBD.out, rfl, below_set2 HB0.out (Nat.le_refl _)⟩
 ·have h1 : ((s[0].toNat : Int) == 45) = true := by assumption
  have h3 : 0 < s.size - 1 := by assumption
  have h4 : 0 < (s.extract 1 s.size).size := by rw [HSZ.out]; exact h3
  have h2 : ¬ ((s.extract 1 s.size)[0].toNat : Int) = 48 := by assumption
  have h5 : strB s = 45 :: strB (s.extract 1 s.size) := by have := HST.out; rwa [is45 h1] at this
  obtain ⟨hg, hb⟩ := neg_good h5 h4 h2
  have HGOOD := Lib.hid hg
  have HBADD := Lib.hid hb
  clear hg hb h5 h2 h4 HST
  go_loop [6] (fun iv => ∃ j : Nat, j ≤ (s.size - 1) ∧ iv = .int .i64 (j : Int) ∧ Hid (∀ c ∈ (strB (s.extract 1 s.size)).take j, digit8 c)) (fun iv => (s.size - 1) - (intOf iv).toNat)
  case atStart => exact ⟨0, Nat.zero_le _, rfl, Lib.hid (by simp)⟩
  case round =>
   obtain ⟨j, hj, rfl, HJ⟩ := hrel
   by_cases hlt : j < (s.size - 1)
   ·have hlt2 : j < (s.extract 1 s.size).size := by rw [HSZ.out]; exact hlt
    have HLT := Lib.hid hlt2
    go_wp2_with fail
    ·have hc : ((s.extract 1 s.size)[j].toNat : Int) < 48 ∨ (57 : Int) < ((s.extract 1 s.size)[j].toNat : Int) := by assumption
     have HBD : Hid (∀ n, strB s ≠ txtN n) := Lib.hid (HBADD.out (not_dig (s.extract 1 s.size) HLT.out hc))
     refine bodyPost_ret (v := .tuple #[.agg #[.bool false, .slice none 0 0], .int .i64 2]) (by simp [results, Tryz.results129, go_sem, c0, c1]) rfl ?_
     first | exact .inl ⟨HBD.out, rfl, HB0.out⟩ | exact .inl ⟨HBD.out, rfl, below_set2 HB0.out (Nat.le_refl _)⟩
    ·have h12 : (48 : Int) ≤ ((s.extract 1 s.size)[j].toNat : Int) ∧ ((s.extract 1 s.size)[j].toNat : Int) ≤ 57 := by assumption
     have h1 : ¬ ((s.extract 1 s.size)[j].toNat : Int) < 48 := by omega
     have h2 : ¬ (57 : Int) < ((s.extract 1 s.size)[j].toNat : Int) := by omega
     go_round
     case rel => exact ⟨j + 1, by omega, by go_num, Lib.hid (dig_step (s.extract 1 s.size) HLT.out HJ.out h1 h2)⟩
     case measure => simp [intOf]; omega
    ·have hc : ((s.extract 1 s.size)[j].toNat : Int) < 48 := by assumption
     have HBD : Hid (∀ n, strB s ≠ txtN n) := Lib.hid (HBADD.out (not_dig (s.extract 1 s.size) HLT.out (.inl hc)))
     refine bodyPost_ret (v := .tuple #[.agg #[.bool false, .slice none 0 0], .int .i64 2]) (by simp [results, Tryz.results129, go_sem, c0, c1]) rfl ?_
     first | exact .inl ⟨HBD.out, rfl, HB0.out⟩ | exact .inl ⟨HBD.out, rfl, below_set2 HB0.out (Nat.le_refl _)⟩
   ·obtain rfl : j = (s.size - 1) := by omega
    have HALL : Hid (∀ c ∈ strB (s.extract 1 s.size), digit8 c) := Lib.hid (by have := HJ.out; rwa [List.take_of_length_le (by rw [strB_length]; rw [HSZ.out]; exact Nat.le_refl _)] at this)
    have HTXT := Lib.hid (HGOOD.out HALL.out)
    clear HJ HBADD HGOOD
    have HROWN : Hid (Fresh w1.heap.size 3 .i64 w1 (.slice none 0 0) (natI [])) := Lib.hid (fresh_nil _ _ _ _)
    have HB1 : Hid (Below w1.heap.size w1 w1) := Lib.hid (Below.refl _ _)
    obtain ⟨i0, hi, hz0, hz1, hz2⟩ := info_parts info_int
    have hn5 : (s.size - 1) ≤ 5000 := by omega
    clear c0 c1 c2 c3
    go_wp2_with fail
    go_loopw [7, 8, 9, 10] (fun dv ev _ _ wr => ∃ (j : Nat) (D : List Nat), ev = .int .i64 (((s.size - 1) : Nat) - 4 * (j : Int)) ∧ Hid (4 * j ≤ (s.size - 1) + 3 ∧ D.length = j ∧ valD D = vT ((strB (s.extract 1 s.size)).drop ((s.size - 1) - 4 * j)) ∧ ∀ c ∈ D, c < 10000) ∧ Hid (Fresh w1.heap.size 3 .i64 wr dv (natI D)) ∧ Hid (Below w1.heap.size w1 wr)) (fun _ ev _ _ _ => (intOf ev).toNat)
    case atStart => exact ⟨0, [], by simp, Lib.hid ⟨by omega, rfl, by rw [List.drop_of_length_le (by rw [strB_length]; rw [HSZ.out]; omega)]; rfl, by simp⟩, HROWN, HB1⟩
    case round =>
     clear HROWN HB1
     obtain ⟨k, D, rfl, HD, HF, HB⟩ := hrel
     by_cases hpos : 4 * k < (s.size - 1)
     ·obtain ⟨x, hx⟩ : ∃ x : Nat, x + 4 * k = (s.size - 1) := ⟨(s.size - 1) - 4 * k, by omega⟩
      have hxe : (((s.size - 1) : Nat) : Int) - 4 * (k : Int) = (x : Int) := by omega
      have HX := Lib.hid hx
      have hx1 : 0 < x := by omega
      have hxi : (0 : Int) < (x : Int) := by omega
      have hx5 : x ≤ 5000 := by omega
      rw [hxe]
      clear hxe hx hpos
      obtain ⟨wo, rfl⟩ : ∃ wo : World, wo = wr := ⟨_, rfl⟩
      rcases Nat.lt_or_ge 4 x with h4 | h4
      rotate_left
      ·obtain ⟨y, rfl⟩ : ∃ y, y = 0 := ⟨0, rfl⟩
       have HY : Hid ((s.size - 1) - 4 * (k + 1) = 0) := Lib.hid (by have := HX.out; omega)
       have hyx : 0 ≤ x := by omega
       have hy4 : x ≤ 0 + 4 := by omega
       have h4i : (x : Int) ≤ 4 := by omega
       have h4j : ¬ (4 : Int) < (x : Int) := by omega
       have h4k : ¬ 4 < x := by omega
       go_wp2_with fail
       go_loop [9, 10] (fun vv iv => ∃ i : Nat, 0 ≤ i ∧ i ≤ x ∧ iv = .int .i64 (i : Int) ∧ vv = .int .i64 ((vT (((strB (s.extract 1 s.size)).drop 0).take (i - 0)) : Nat) : Int)) (fun _ iv => x - (intOf iv).toNat)
       case atStart => exact ⟨0, Nat.le_refl _, hyx, by first | rfl | exact congrArg (Value.int .i64) HYI.out, by rw [Nat.sub_self]; rfl⟩
       case round =>
        obtain ⟨i, hyi, hix, rfl, rfl⟩ := hrel
        by_cases hlt : i < x
        ·have hid : i < (s.extract 1 s.size).size := by have := HX.out; rw [HSZ.out]; omega
         have hin : i < (s.size - 1) := by have := HX.out; omega
         have hdg := HALL.out (s.extract 1 s.size)[i].toNat (List.mem_of_getElem? (str_at (s.extract 1 s.size) hid))
         unfold digit8 at hdg
         have hc1 : (48 : Int) ≤ ((s.extract 1 s.size)[i].toNat : Int) := by omega
         have hc2 : ((s.extract 1 s.size)[i].toNat : Int) ≤ 57 := by omega
         have HG := Lib.hid (group_step (L := strB (s.extract 1 s.size)) (d := (s.extract 1 s.size)) rfl hyi hid)
         have hV := vT_lt (l := ((strB (s.extract 1 s.size)).drop 0).take (i - 0)) (fun c hc => HALL.out c (List.mem_of_mem_drop (List.mem_of_mem_take hc)))
         have hVl : (((strB (s.extract 1 s.size)).drop 0).take (i - 0)).length ≤ 3 := by rw [List.length_take]; omega
         have hV2 : vT (((strB (s.extract 1 s.size)).drop 0).take (i - 0)) < 1000 := Nat.lt_of_lt_of_le hV (Nat.pow_le_pow_right (n := 10) (by decide) hVl)
         have hV3 : ((vT (((strB (s.extract 1 s.size)).drop 0).take (i - 0)) : Nat) : Int) < 1000 := by omega
         clear hV hVl hdg
         generalize vT (((strB (s.extract 1 s.size)).drop 0).take (i - 0)) = V at *
         go_wp2_with fail
         go_round
         case rel => exact ⟨i + 1, by omega, by omega, by go_num, by rw [HG.out]; congr 1; omega⟩
         case measure => simp [intOf]; omega
        ·obtain rfl : i = x := by omega
         obtain ⟨g, hg⟩ : ∃ g, g = vT (((strB (s.extract 1 s.size)).drop 0).take (i - 0)) := ⟨_, rfl⟩
         have hg4 : g < 10000 := by rw [hg]; exact group_lt HALL.out (by omega)
         have HD2 : Hid (4 * (k + 1) ≤ (s.size - 1) + 3 ∧ (D ++ [g]).length = k + 1 ∧ valD (D ++ [g]) = vT ((strB (s.extract 1 s.size)).drop ((s.size - 1) - 4 * (k + 1))) ∧ ∀ c ∈ D ++ [g], c < 10000) := Lib.hid (by
          obtain ⟨q1, q2, q3, q4⟩ := HD.out
          have q5 := HX.out
          refine ⟨by omega, by rw [List.length_append, q2]; rfl, ?_, fun c hc => ?_⟩
          ·rw [HY.out, hg]
           exact part_step q2 (by rw [strB_length]; rw [HSZ.out]; exact q5) (by rw [q3, show (s.size - 1) - 4 * k = i by omega]) 0 hyx
          ·rcases List.mem_append.1 hc with hc | hc
           ·exact q4 c hc
           ·rw [List.mem_singleton.1 hc]; exact hg4)
         have hlen : (natI D).length + 1 ≤ 1000000000 := by rw [natI_length]; have := HD.out.2.1; have := HD.out.1; omega
         have HEV : Hid ((i : Int) - 4 = (((s.size - 1) : Nat) : Int) - 4 * ((k + 1 : Nat) : Int)) := Lib.hid (by have := HX.out; omega)
         rw [← hg]
         clear hg
         have HXR := Lib.hid (row_of_fresh (fresh_lit wo wo.heap.size 3 .i64 [(g : Int)] (Nat.le_refl _) (by simp)))
         have HF2 := Lib.hid (fresh_keeps HF.out ((Below.refl _ wo).alloc (Nat.le_refl _) (.cells #[.int .i64 (g : Int)] 3)))
         have hsz2 : w1.heap.size ≤ (wo.alloc (.cells #[.int .i64 (g : Int)] 3)).heap.size := by have := HB.out.size; simp; omega
         go_wp2_with (at_builtin; go_must (refine wpList_append_fresh rfl _ _ 22 rfl w1.heap.size 3 i0 .i64 8 Tryz.underlying22 hi hz0 hz1 hz2 (by decide) _ _ rfl HF2.out _ [(g : Int)] rfl HXR.out (by simpa using hlen) hsz2 ?_); intro v3 w3 hfr hgrow; have HB3 := Lib.hid (below_grown (HB.out.alloc HB.out.size _) HF2.out hgrow hsz2); have HF3 : Hid (Fresh w1.heap.size 3 .i64 w3 v3 (natI (D ++ [g]))) := Lib.hid (by rw [natI_append]; exact hfr); clear hfr hgrow)
         go_roundw
         case rel => exact ⟨k + 1, D ++ [g], by first | exact congrArg (Value.int .i64) HEV.out | (simp; have := HEV.out; omega), HD2, HF3, HB3⟩
         case measure => simp [intOf]; omega
      ·obtain ⟨y, hy⟩ : ∃ y, y + 4 = x := ⟨x - 4, by omega⟩
       have HY : Hid ((s.size - 1) - 4 * (k + 1) = y) := Lib.hid (by have := HX.out; omega)
       have hyx : y ≤ x := by omega
       have hy4 : x ≤ y + 4 := by omega
       have h4n : 4 < x := h4
       have h4i : (4 : Int) < (x : Int) := by omega
       clear h4
       have HYI : Hid ((x : Int) - 4 = (y : Int)) := Lib.hid (by omega)
       clear hy
       go_wp2_with fail
       go_loop [9, 10] (fun vv iv => ∃ i : Nat, y ≤ i ∧ i ≤ x ∧ iv = .int .i64 (i : Int) ∧ vv = .int .i64 ((vT (((strB (s.extract 1 s.size)).drop y).take (i - y)) : Nat) : Int)) (fun _ iv => x - (intOf iv).toNat)
       case atStart => exact ⟨y, Nat.le_refl _, hyx, by first | rfl | exact congrArg (Value.int .i64) HYI.out, by rw [Nat.sub_self]; rfl⟩
       case round =>
        obtain ⟨i, hyi, hix, rfl, rfl⟩ := hrel
        by_cases hlt : i < x
        ·have hid : i < (s.extract 1 s.size).size := by have := HX.out; rw [HSZ.out]; omega
         have hin : i < (s.size - 1) := by have := HX.out; omega
         have hdg := HALL.out (s.extract 1 s.size)[i].toNat (List.mem_of_getElem? (str_at (s.extract 1 s.size) hid))
         unfold digit8 at hdg
         have hc1 : (48 : Int) ≤ ((s.extract 1 s.size)[i].toNat : Int) := by omega
         have hc2 : ((s.extract 1 s.size)[i].toNat : Int) ≤ 57 := by omega
         have HG := Lib.hid (group_step (L := strB (s.extract 1 s.size)) (d := (s.extract 1 s.size)) rfl hyi hid)
         have hV := vT_lt (l := ((strB (s.extract 1 s.size)).drop y).take (i - y)) (fun c hc => HALL.out c (List.mem_of_mem_drop (List.mem_of_mem_take hc)))
         have hVl : (((strB (s.extract 1 s.size)).drop y).take (i - y)).length ≤ 3 := by rw [List.length_take]; omega
         have hV2 : vT (((strB (s.extract 1 s.size)).drop y).take (i - y)) < 1000 := Nat.lt_of_lt_of_le hV (Nat.pow_le_pow_right (n := 10) (by decide) hVl)
         have hV3 : ((vT (((strB (s.extract 1 s.size)).drop y).take (i - y)) : Nat) : Int) < 1000 := by omega
         clear hV hVl hdg
         generalize vT (((strB (s.extract 1 s.size)).drop y).take (i - y)) = V at *
         go_wp2_with fail
         go_round
         case rel => exact ⟨i + 1, by omega, by omega, by go_num, by rw [HG.out]; congr 1; omega⟩
         case measure => simp [intOf]; omega
        ·obtain rfl : i = x := by omega
         obtain ⟨g, hg⟩ : ∃ g, g = vT (((strB (s.extract 1 s.size)).drop y).take (i - y)) := ⟨_, rfl⟩
         have hg4 : g < 10000 := by rw [hg]; exact group_lt HALL.out (by omega)
         have HD2 : Hid (4 * (k + 1) ≤ (s.size - 1) + 3 ∧ (D ++ [g]).length = k + 1 ∧ valD (D ++ [g]) = vT ((strB (s.extract 1 s.size)).drop ((s.size - 1) - 4 * (k + 1))) ∧ ∀ c ∈ D ++ [g], c < 10000) := Lib.hid (by
          obtain ⟨q1, q2, q3, q4⟩ := HD.out
          have q5 := HX.out
          refine ⟨by omega, by rw [List.length_append, q2]; rfl, ?_, fun c hc => ?_⟩
          ·rw [HY.out, hg]
           exact part_step q2 (by rw [strB_length]; rw [HSZ.out]; exact q5) (by rw [q3, show (s.size - 1) - 4 * k = i by omega]) y hyx
          ·rcases List.mem_append.1 hc with hc | hc
           ·exact q4 c hc
           ·rw [List.mem_singleton.1 hc]; exact hg4)
         have hlen : (natI D).length + 1 ≤ 1000000000 := by rw [natI_length]; have := HD.out.2.1; have := HD.out.1; omega
         have HEV : Hid ((i : Int) - 4 = (((s.size - 1) : Nat) : Int) - 4 * ((k + 1 : Nat) : Int)) := Lib.hid (by have := HX.out; omega)
         rw [← hg]
         clear hg
         have HXR := Lib.hid (row_of_fresh (fresh_lit wo wo.heap.size 3 .i64 [(g : Int)] (Nat.le_refl _) (by simp)))
         have HF2 := Lib.hid (fresh_keeps HF.out ((Below.refl _ wo).alloc (Nat.le_refl _) (.cells #[.int .i64 (g : Int)] 3)))
         have hsz2 : w1.heap.size ≤ (wo.alloc (.cells #[.int .i64 (g : Int)] 3)).heap.size := by have := HB.out.size; simp; omega
         go_wp2_with (at_builtin; go_must (refine wpList_append_fresh rfl _ _ 22 rfl w1.heap.size 3 i0 .i64 8 Tryz.underlying22 hi hz0 hz1 hz2 (by decide) _ _ rfl HF2.out _ [(g : Int)] rfl HXR.out (by simpa using hlen) hsz2 ?_); intro v3 w3 hfr hgrow; have HB3 := Lib.hid (below_grown (HB.out.alloc HB.out.size _) HF2.out hgrow hsz2); have HF3 : Hid (Fresh w1.heap.size 3 .i64 w3 v3 (natI (D ++ [g]))) := Lib.hid (by rw [natI_append]; exact hfr); clear hfr hgrow)
         go_roundw
         case rel => exact ⟨k + 1, D ++ [g], by first | exact congrArg (Value.int .i64) HEV.out | (simp; have := HEV.out; omega), HD2, HF3, HB3⟩
         case measure => simp [intOf]; omega
     ·have hle : (((s.size - 1) : Nat) : Int) - 4 * (k : Int) ≤ 0 := by omega
      obtain ⟨q1, q2, q3, q4⟩ := HD.out
      rw [show (s.size - 1) - 4 * k = 0 by omega, List.drop_zero] at q3
      have hrow := row_of_fresh HF.out
      obtain ⟨a, cp, rfl, _, _⟩ := fresh_elems HF.out
      have NM := normal_any true _ D wr hrow q4 (by omega)
      rw [q3] at NM
      have HZD : Hid ((digs (sgn true (vT (strB (s.extract 1 s.size)))).natAbs).length ≤ 500000) := Lib.hid (by rw [sgn_abs]; exact vT_digs HALL.out (by rw [strB_length]; rw [HSZ.out]; omega))
      unfold NEnd at NM
      have HNM := Lib.hid NM
      have HL1 := Lib.hid (HL0.out.below HB.out)
      have HB1 := Lib.hid (below_then HB0.out HB.out)
      generalize sgn true (vT (strB (s.extract 1 s.size))) = Z at *
      clear hrow q1 q2 q3 q4 NM HD HF HB HL0 hi hz0 hz1 hz2
      go_wp2_with fail
      go_must (refine HNM.out.mono ?_)
      rintro e w2 ⟨x2, rfl, hx2, hb2⟩
      obtain ⟨b2, p2, n2, q2, rfl⟩ := nat_shape hx2
      have hal := below_one w2 (.cells #[.bool b2, .slice p2 n2 q2] 24)
      have HX2 := Lib.hid (nat_keeps hx2 hal)
      have HLX := Lib.hid (Laid.new w2 24 [.bool b2, .slice p2 n2 q2])
      have HL2 := Lib.hid (HL1.out.below (below_then hb2 hal))
      have HB2 := Lib.hid (below_then (below_then HB1.out hb2) hal)
      obtain ⟨c0, c1, _, _⟩ := cells2 HLX.out
      clear hx2 hb2 hal HNM HL1 HB1
      have FT : Hid (∀ r, (r = true ∧ ¬ big Z) ∨ (r = false ∧ big Z) → Calls Tryz.prog 106 #[.agg #[.bool b2, .slice p2 n2 q2]] (w2.alloc (.cells #[.bool b2, .slice p2 n2 q2] 24)) fun e w' => e = .returned (.bool r) ∧ Below (w2.alloc (.cells #[.bool b2, .slice p2 n2 q2] 24)).heap.size (w2.alloc (.cells #[.bool b2, .slice p2 n2 q2] 24)) w') := Lib.hid (fun r hr => fits_bool _ Z r _ HX2.out HZD.out hr)
      go_wp2_with fail
      generalize w2.alloc (.cells #[.bool b2, .slice p2 n2 q2] 24) = w3 at *
      rcases Classical.em (big Z) with hbig | hbig
      ·have HBG := Lib.hid hbig
       have F := Lib.hid (FT.out false (.inr ⟨rfl, hbig⟩))
       clear hbig FT
       go_must (refine F.out.mono ?_)
       rintro e w4 ⟨rfl, hb4⟩
       obtain ⟨r0, r1, r2, r3⟩ := cells2 (HL2.out.below hb4)
       have HE := Lib.hid (below_set2 (u := .bool false) (v := .slice none 0 0) (below_then HB2.out hb4) (Nat.le_refl _))
       clear hb4 F c0 c1
       go_wp2_with fail
       refine bodyPost_ret (v := .tuple #[.agg #[.bool false, .slice none 0 0], .int .i64 4]) (by simp [results, Tryz.results129, go_sem, r0, r1]) rfl ?_
       exact .inr ⟨Z, HTXT.out, _, _, rfl, .inr ⟨HBG.out, rfl, rfl⟩, HE.out⟩
      ·have HBG := Lib.hid hbig
       have F := Lib.hid (FT.out true (.inl ⟨rfl, hbig⟩))
       clear hbig FT
       go_must (refine F.out.mono ?_)
       rintro e w4 ⟨rfl, hb4⟩
       have HL4 := Lib.hid (HL2.out.below hb4)
       obtain ⟨r0, r1, r2, r3⟩ := cells2 HL4.out
       obtain ⟨d0, d1, _, _⟩ := cells2 (HLX.out.below hb4)
       have HE := Lib.hid (below_set2 (u := .bool b2) (v := .slice p2 n2 q2) (below_then HB2.out hb4) (Nat.le_refl _))
       have HXE := Lib.hid (nat_set (nat_set (nat_keeps HX2.out hb4) HL4.out 0 (.bool b2)) (HL4.out.set 0 _) 1 (.slice p2 n2 q2))
       clear hb4 F c0 c1
       go_wp2_with fail
       refine bodyPost_ret (v := .tuple #[.agg #[.bool b2, .slice p2 n2 q2], .int .i64 0]) (by simp [results, Tryz.results129, go_sem, r0, r1]) rfl ?_
       exact .inr ⟨Z, HTXT.out, _, _, rfl, .inl ⟨HBG.out, rfl, HXE.out⟩, HE.out⟩
 ·have h1 : s = ByteArray.empty := by assumption
  subst h1
  exact absurd h0 (by decide)
 ·have h1 : (s[0].toNat : Int) = 48 := by assumption
  have h2 : ((s.size : Int) == 0) = true ∨ 1 < (s.size : Int) := by assumption
  have HBD : Hid (∀ n, strB s ≠ txtN n) := Lib.hid (bad_five h0 h1 h2)
  refine bodyPost_ret (v := .tuple #[.agg #[.bool false, .slice none 0 0], .int .i64 2]) (by simp [results, Tryz.results129, go_sem, c0, c1]) rfl ?_
  first | exact .inl ⟨HBD.out, rfl, HB0.out⟩ | exact .inl ⟨HBD.out, rfl, below_set2 HB0.out (Nat.le_refl _)⟩
 ·have h1 : (s[0].toNat : Int) = 48 := by assumption
  have h2 : ((s.size : Int) == 0) = false ∧ (s.size : Int) ≤ 1 := by assumption
  have h3 : ((s[0].toNat : Int) == 45) = false := by assumption
  obtain ⟨hg, hb⟩ := pos_good h0 (fun _ => by omega) h3
  have HGOOD := Lib.hid hg
  have HBADD := Lib.hid hb
  clear hg hb h1 h2 h3 HST HSZ
  go_loop [6] (fun iv => ∃ j : Nat, j ≤ s.size ∧ iv = .int .i64 (j : Int) ∧ Hid (∀ c ∈ (strB s).take j, digit8 c)) (fun iv => s.size - (intOf iv).toNat)
  case atStart => exact ⟨0, Nat.zero_le _, rfl, Lib.hid (by simp)⟩
  case round =>
   obtain ⟨j, hj, rfl, HJ⟩ := hrel
   by_cases hlt : j < s.size
   ·have hlt2 : j < s.size := by skip; exact hlt
    have HLT := Lib.hid hlt2
    go_wp2_with fail
    ·have hc : (s[j].toNat : Int) < 48 ∨ (57 : Int) < (s[j].toNat : Int) := by assumption
     have HBD : Hid (∀ n, strB s ≠ txtN n) := Lib.hid (HBADD.out (not_dig s HLT.out hc))
     refine bodyPost_ret (v := .tuple #[.agg #[.bool false, .slice none 0 0], .int .i64 2]) (by simp [results, Tryz.results129, go_sem, c0, c1]) rfl ?_
     first | exact .inl ⟨HBD.out, rfl, HB0.out⟩ | exact .inl ⟨HBD.out, rfl, below_set2 HB0.out (Nat.le_refl _)⟩
    ·have h12 : (48 : Int) ≤ (s[j].toNat : Int) ∧ (s[j].toNat : Int) ≤ 57 := by assumption
     have h1 : ¬ (s[j].toNat : Int) < 48 := by omega
     have h2 : ¬ (57 : Int) < (s[j].toNat : Int) := by omega
     go_round
     case rel => exact ⟨j + 1, by omega, by go_num, Lib.hid (dig_step s HLT.out HJ.out h1 h2)⟩
     case measure => simp [intOf]; omega
    ·have hc : (s[j].toNat : Int) < 48 := by assumption
     have HBD : Hid (∀ n, strB s ≠ txtN n) := Lib.hid (HBADD.out (not_dig s HLT.out (.inl hc)))
     refine bodyPost_ret (v := .tuple #[.agg #[.bool false, .slice none 0 0], .int .i64 2]) (by simp [results, Tryz.results129, go_sem, c0, c1]) rfl ?_
     first | exact .inl ⟨HBD.out, rfl, HB0.out⟩ | exact .inl ⟨HBD.out, rfl, below_set2 HB0.out (Nat.le_refl _)⟩
   ·obtain rfl : j = s.size := by omega
    have HALL : Hid (∀ c ∈ strB s, digit8 c) := Lib.hid (by have := HJ.out; rwa [List.take_of_length_le (by rw [strB_length]; exact Nat.le_refl _)] at this)
    have HTXT := Lib.hid (HGOOD.out HALL.out)
    clear HJ HBADD HGOOD
    have HROWN : Hid (Fresh w1.heap.size 3 .i64 w1 (.slice none 0 0) (natI [])) := Lib.hid (fresh_nil _ _ _ _)
    have HB1 : Hid (Below w1.heap.size w1 w1) := Lib.hid (Below.refl _ _)
    obtain ⟨i0, hi, hz0, hz1, hz2⟩ := info_parts info_int
    have hn5 : s.size ≤ 5000 := by omega
    clear c0 c1 c2 c3
    go_wp2_with fail
    go_loopw [7, 8, 9, 10] (fun dv ev _ _ wr => ∃ (j : Nat) (D : List Nat), ev = .int .i64 ((s.size : Nat) - 4 * (j : Int)) ∧ Hid (4 * j ≤ s.size + 3 ∧ D.length = j ∧ valD D = vT ((strB s).drop (s.size - 4 * j)) ∧ ∀ c ∈ D, c < 10000) ∧ Hid (Fresh w1.heap.size 3 .i64 wr dv (natI D)) ∧ Hid (Below w1.heap.size w1 wr)) (fun _ ev _ _ _ => (intOf ev).toNat)
    case atStart => exact ⟨0, [], by simp, Lib.hid ⟨by omega, rfl, by rw [List.drop_of_length_le (by rw [strB_length]; omega)]; rfl, by simp⟩, HROWN, HB1⟩
    case round =>
     clear HROWN HB1
     obtain ⟨k, D, rfl, HD, HF, HB⟩ := hrel
     by_cases hpos : 4 * k < s.size
     ·obtain ⟨x, hx⟩ : ∃ x : Nat, x + 4 * k = s.size := ⟨s.size - 4 * k, by omega⟩
      have hxe : ((s.size : Nat) : Int) - 4 * (k : Int) = (x : Int) := by omega
      have HX := Lib.hid hx
      have hx1 : 0 < x := by omega
      have hxi : (0 : Int) < (x : Int) := by omega
      have hx5 : x ≤ 5000 := by omega
      rw [hxe]
      clear hxe hx hpos
      obtain ⟨wo, rfl⟩ : ∃ wo : World, wo = wr := ⟨_, rfl⟩
      rcases Nat.lt_or_ge 4 x with h4 | h4
      rotate_left
      ·obtain ⟨y, rfl⟩ : ∃ y, y = 0 := ⟨0, rfl⟩
       have HY : Hid (s.size - 4 * (k + 1) = 0) := Lib.hid (by have := HX.out; omega)
       have hyx : 0 ≤ x := by omega
       have hy4 : x ≤ 0 + 4 := by omega
       have h4i : (x : Int) ≤ 4 := by omega
       have h4j : ¬ (4 : Int) < (x : Int) := by omega
       have h4k : ¬ 4 < x := by omega
       go_wp2_with fail
       go_loop [9, 10] (fun vv iv => ∃ i : Nat, 0 ≤ i ∧ i ≤ x ∧ iv = .int .i64 (i : Int) ∧ vv = .int .i64 ((vT (((strB s).drop 0).take (i - 0)) : Nat) : Int)) (fun _ iv => x - (intOf iv).toNat)
       case atStart => exact ⟨0, Nat.le_refl _, hyx, by first | rfl | exact congrArg (Value.int .i64) HYI.out, by rw [Nat.sub_self]; rfl⟩
       case round =>
        obtain ⟨i, hyi, hix, rfl, rfl⟩ := hrel
        by_cases hlt : i < x
        ·have hid : i < s.size := by have := HX.out; skip; omega
         have hin : i < s.size := by have := HX.out; omega
         have hdg := HALL.out s[i].toNat (List.mem_of_getElem? (str_at s hid))
         unfold digit8 at hdg
         have hc1 : (48 : Int) ≤ (s[i].toNat : Int) := by omega
         have hc2 : (s[i].toNat : Int) ≤ 57 := by omega
         have HG := Lib.hid (group_step (L := strB s) (d := s) rfl hyi hid)
         have hV := vT_lt (l := ((strB s).drop 0).take (i - 0)) (fun c hc => HALL.out c (List.mem_of_mem_drop (List.mem_of_mem_take hc)))
         have hVl : (((strB s).drop 0).take (i - 0)).length ≤ 3 := by rw [List.length_take]; omega
         have hV2 : vT (((strB s).drop 0).take (i - 0)) < 1000 := Nat.lt_of_lt_of_le hV (Nat.pow_le_pow_right (n := 10) (by decide) hVl)
         have hV3 : ((vT (((strB s).drop 0).take (i - 0)) : Nat) : Int) < 1000 := by omega
         clear hV hVl hdg
         generalize vT (((strB s).drop 0).take (i - 0)) = V at *
         go_wp2_with fail
         go_round
         case rel => exact ⟨i + 1, by omega, by omega, by go_num, by rw [HG.out]; congr 1; omega⟩
         case measure => simp [intOf]; omega
        ·obtain rfl : i = x := by omega
         obtain ⟨g, hg⟩ : ∃ g, g = vT (((strB s).drop 0).take (i - 0)) := ⟨_, rfl⟩
         have hg4 : g < 10000 := by rw [hg]; exact group_lt HALL.out (by omega)
         have HD2 : Hid (4 * (k + 1) ≤ s.size + 3 ∧ (D ++ [g]).length = k + 1 ∧ valD (D ++ [g]) = vT ((strB s).drop (s.size - 4 * (k + 1))) ∧ ∀ c ∈ D ++ [g], c < 10000) := Lib.hid (by
          obtain ⟨q1, q2, q3, q4⟩ := HD.out
          have q5 := HX.out
          refine ⟨by omega, by rw [List.length_append, q2]; rfl, ?_, fun c hc => ?_⟩
          ·rw [HY.out, hg]
           exact part_step q2 (by rw [strB_length]; skip; exact q5) (by rw [q3, show s.size - 4 * k = i by omega]) 0 hyx
          ·rcases List.mem_append.1 hc with hc | hc
           ·exact q4 c hc
           ·rw [List.mem_singleton.1 hc]; exact hg4)
         have hlen : (natI D).length + 1 ≤ 1000000000 := by rw [natI_length]; have := HD.out.2.1; have := HD.out.1; omega
         have HEV : Hid ((i : Int) - 4 = ((s.size : Nat) : Int) - 4 * ((k + 1 : Nat) : Int)) := Lib.hid (by have := HX.out; omega)
         rw [← hg]
         clear hg
         have HXR := Lib.hid (row_of_fresh (fresh_lit wo wo.heap.size 3 .i64 [(g : Int)] (Nat.le_refl _) (by simp)))
         have HF2 := Lib.hid (fresh_keeps HF.out ((Below.refl _ wo).alloc (Nat.le_refl _) (.cells #[.int .i64 (g : Int)] 3)))
         have hsz2 : w1.heap.size ≤ (wo.alloc (.cells #[.int .i64 (g : Int)] 3)).heap.size := by have := HB.out.size; simp; omega
         go_wp2_with (at_builtin; go_must (refine wpList_append_fresh rfl _ _ 22 rfl w1.heap.size 3 i0 .i64 8 Tryz.underlying22 hi hz0 hz1 hz2 (by decide) _ _ rfl HF2.out _ [(g : Int)] rfl HXR.out (by simpa using hlen) hsz2 ?_); intro v3 w3 hfr hgrow; have HB3 := Lib.hid (below_grown (HB.out.alloc HB.out.size _) HF2.out hgrow hsz2); have HF3 : Hid (Fresh w1.heap.size 3 .i64 w3 v3 (natI (D ++ [g]))) := Lib.hid (by rw [natI_append]; exact hfr); clear hfr hgrow)
         go_roundw
         case rel => exact ⟨k + 1, D ++ [g], by first | exact congrArg (Value.int .i64) HEV.out | (simp; have := HEV.out; omega), HD2, HF3, HB3⟩
         case measure => simp [intOf]; omega
      ·obtain ⟨y, hy⟩ : ∃ y, y + 4 = x := ⟨x - 4, by omega⟩
       have HY : Hid (s.size - 4 * (k + 1) = y) := Lib.hid (by have := HX.out; omega)
       have hyx : y ≤ x := by omega
       have hy4 : x ≤ y + 4 := by omega
       have h4n : 4 < x := h4
       have h4i : (4 : Int) < (x : Int) := by omega
       clear h4
       have HYI : Hid ((x : Int) - 4 = (y : Int)) := Lib.hid (by omega)
       clear hy
       go_wp2_with fail
       go_loop [9, 10] (fun vv iv => ∃ i : Nat, y ≤ i ∧ i ≤ x ∧ iv = .int .i64 (i : Int) ∧ vv = .int .i64 ((vT (((strB s).drop y).take (i - y)) : Nat) : Int)) (fun _ iv => x - (intOf iv).toNat)
       case atStart => exact ⟨y, Nat.le_refl _, hyx, by first | rfl | exact congrArg (Value.int .i64) HYI.out, by rw [Nat.sub_self]; rfl⟩
       case round =>
        obtain ⟨i, hyi, hix, rfl, rfl⟩ := hrel
        by_cases hlt : i < x
        ·have hid : i < s.size := by have := HX.out; skip; omega
         have hin : i < s.size := by have := HX.out; omega
         have hdg := HALL.out s[i].toNat (List.mem_of_getElem? (str_at s hid))
         unfold digit8 at hdg
         have hc1 : (48 : Int) ≤ (s[i].toNat : Int) := by omega
         have hc2 : (s[i].toNat : Int) ≤ 57 := by omega
         have HG := Lib.hid (group_step (L := strB s) (d := s) rfl hyi hid)
         have hV := vT_lt (l := ((strB s).drop y).take (i - y)) (fun c hc => HALL.out c (List.mem_of_mem_drop (List.mem_of_mem_take hc)))
         have hVl : (((strB s).drop y).take (i - y)).length ≤ 3 := by rw [List.length_take]; omega
         have hV2 : vT (((strB s).drop y).take (i - y)) < 1000 := Nat.lt_of_lt_of_le hV (Nat.pow_le_pow_right (n := 10) (by decide) hVl)
         have hV3 : ((vT (((strB s).drop y).take (i - y)) : Nat) : Int) < 1000 := by omega
         clear hV hVl hdg
         generalize vT (((strB s).drop y).take (i - y)) = V at *
         go_wp2_with fail
         go_round
         case rel => exact ⟨i + 1, by omega, by omega, by go_num, by rw [HG.out]; congr 1; omega⟩
         case measure => simp [intOf]; omega
        ·obtain rfl : i = x := by omega
         obtain ⟨g, hg⟩ : ∃ g, g = vT (((strB s).drop y).take (i - y)) := ⟨_, rfl⟩
         have hg4 : g < 10000 := by rw [hg]; exact group_lt HALL.out (by omega)
         have HD2 : Hid (4 * (k + 1) ≤ s.size + 3 ∧ (D ++ [g]).length = k + 1 ∧ valD (D ++ [g]) = vT ((strB s).drop (s.size - 4 * (k + 1))) ∧ ∀ c ∈ D ++ [g], c < 10000) := Lib.hid (by
          obtain ⟨q1, q2, q3, q4⟩ := HD.out
          have q5 := HX.out
          refine ⟨by omega, by rw [List.length_append, q2]; rfl, ?_, fun c hc => ?_⟩
          ·rw [HY.out, hg]
           exact part_step q2 (by rw [strB_length]; skip; exact q5) (by rw [q3, show s.size - 4 * k = i by omega]) y hyx
          ·rcases List.mem_append.1 hc with hc | hc
           ·exact q4 c hc
           ·rw [List.mem_singleton.1 hc]; exact hg4)
         have hlen : (natI D).length + 1 ≤ 1000000000 := by rw [natI_length]; have := HD.out.2.1; have := HD.out.1; omega
         have HEV : Hid ((i : Int) - 4 = ((s.size : Nat) : Int) - 4 * ((k + 1 : Nat) : Int)) := Lib.hid (by have := HX.out; omega)
         rw [← hg]
         clear hg
         have HXR := Lib.hid (row_of_fresh (fresh_lit wo wo.heap.size 3 .i64 [(g : Int)] (Nat.le_refl _) (by simp)))
         have HF2 := Lib.hid (fresh_keeps HF.out ((Below.refl _ wo).alloc (Nat.le_refl _) (.cells #[.int .i64 (g : Int)] 3)))
         have hsz2 : w1.heap.size ≤ (wo.alloc (.cells #[.int .i64 (g : Int)] 3)).heap.size := by have := HB.out.size; simp; omega
         go_wp2_with (at_builtin; go_must (refine wpList_append_fresh rfl _ _ 22 rfl w1.heap.size 3 i0 .i64 8 Tryz.underlying22 hi hz0 hz1 hz2 (by decide) _ _ rfl HF2.out _ [(g : Int)] rfl HXR.out (by simpa using hlen) hsz2 ?_); intro v3 w3 hfr hgrow; have HB3 := Lib.hid (below_grown (HB.out.alloc HB.out.size _) HF2.out hgrow hsz2); have HF3 : Hid (Fresh w1.heap.size 3 .i64 w3 v3 (natI (D ++ [g]))) := Lib.hid (by rw [natI_append]; exact hfr); clear hfr hgrow)
         go_roundw
         case rel => exact ⟨k + 1, D ++ [g], by first | exact congrArg (Value.int .i64) HEV.out | (simp; have := HEV.out; omega), HD2, HF3, HB3⟩
         case measure => simp [intOf]; omega
     ·have hle : ((s.size : Nat) : Int) - 4 * (k : Int) ≤ 0 := by omega
      obtain ⟨q1, q2, q3, q4⟩ := HD.out
      rw [show s.size - 4 * k = 0 by omega, List.drop_zero] at q3
      have hrow := row_of_fresh HF.out
      obtain ⟨a, cp, rfl, _, _⟩ := fresh_elems HF.out
      have NM := normal_any false _ D wr hrow q4 (by omega)
      rw [q3] at NM
      have HZD : Hid ((digs (sgn false (vT (strB s))).natAbs).length ≤ 500000) := Lib.hid (by rw [sgn_abs]; exact vT_digs HALL.out (by rw [strB_length]; skip; omega))
      unfold NEnd at NM
      have HNM := Lib.hid NM
      have HL1 := Lib.hid (HL0.out.below HB.out)
      have HB1 := Lib.hid (below_then HB0.out HB.out)
      generalize sgn false (vT (strB s)) = Z at *
      clear hrow q1 q2 q3 q4 NM HD HF HB HL0 hi hz0 hz1 hz2
      go_wp2_with fail
      go_must (refine HNM.out.mono ?_)
      rintro e w2 ⟨x2, rfl, hx2, hb2⟩
      obtain ⟨b2, p2, n2, q2, rfl⟩ := nat_shape hx2
      have hal := below_one w2 (.cells #[.bool b2, .slice p2 n2 q2] 24)
      have HX2 := Lib.hid (nat_keeps hx2 hal)
      have HLX := Lib.hid (Laid.new w2 24 [.bool b2, .slice p2 n2 q2])
      have HL2 := Lib.hid (HL1.out.below (below_then hb2 hal))
      have HB2 := Lib.hid (below_then (below_then HB1.out hb2) hal)
      obtain ⟨c0, c1, _, _⟩ := cells2 HLX.out
      clear hx2 hb2 hal HNM HL1 HB1
      have FT : Hid (∀ r, (r = true ∧ ¬ big Z) ∨ (r = false ∧ big Z) → Calls Tryz.prog 106 #[.agg #[.bool b2, .slice p2 n2 q2]] (w2.alloc (.cells #[.bool b2, .slice p2 n2 q2] 24)) fun e w' => e = .returned (.bool r) ∧ Below (w2.alloc (.cells #[.bool b2, .slice p2 n2 q2] 24)).heap.size (w2.alloc (.cells #[.bool b2, .slice p2 n2 q2] 24)) w') := Lib.hid (fun r hr => fits_bool _ Z r _ HX2.out HZD.out hr)
      go_wp2_with fail
      generalize w2.alloc (.cells #[.bool b2, .slice p2 n2 q2] 24) = w3 at *
      rcases Classical.em (big Z) with hbig | hbig
      ·have HBG := Lib.hid hbig
       have F := Lib.hid (FT.out false (.inr ⟨rfl, hbig⟩))
       clear hbig FT
       go_must (refine F.out.mono ?_)
       rintro e w4 ⟨rfl, hb4⟩
       obtain ⟨r0, r1, r2, r3⟩ := cells2 (HL2.out.below hb4)
       have HE := Lib.hid (below_set2 (u := .bool false) (v := .slice none 0 0) (below_then HB2.out hb4) (Nat.le_refl _))
       clear hb4 F c0 c1
       go_wp2_with fail
       refine bodyPost_ret (v := .tuple #[.agg #[.bool false, .slice none 0 0], .int .i64 4]) (by simp [results, Tryz.results129, go_sem, r0, r1]) rfl ?_
       exact .inr ⟨Z, HTXT.out, _, _, rfl, .inr ⟨HBG.out, rfl, rfl⟩, HE.out⟩
      ·have HBG := Lib.hid hbig
       have F := Lib.hid (FT.out true (.inl ⟨rfl, hbig⟩))
       clear hbig FT
       go_must (refine F.out.mono ?_)
       rintro e w4 ⟨rfl, hb4⟩
       have HL4 := Lib.hid (HL2.out.below hb4)
       obtain ⟨r0, r1, r2, r3⟩ := cells2 HL4.out
       obtain ⟨d0, d1, _, _⟩ := cells2 (HLX.out.below hb4)
       have HE := Lib.hid (below_set2 (u := .bool b2) (v := .slice p2 n2 q2) (below_then HB2.out hb4) (Nat.le_refl _))
       have HXE := Lib.hid (nat_set (nat_set (nat_keeps HX2.out hb4) HL4.out 0 (.bool b2)) (HL4.out.set 0 _) 1 (.slice p2 n2 q2))
       clear hb4 F c0 c1
       go_wp2_with fail
       refine bodyPost_ret (v := .tuple #[.agg #[.bool b2, .slice p2 n2 q2], .int .i64 0]) (by simp [results, Tryz.results129, go_sem, r0, r1]) rfl ?_
       exact .inr ⟨Z, HTXT.out, _, _, rfl, .inl ⟨HBG.out, rfl, HXE.out⟩, HE.out⟩
 ·have h1 : ¬ (s[0].toNat : Int) = 48 := by assumption
  have h3 : ((s[0].toNat : Int) == 45) = false := by assumption
  obtain ⟨hg, hb⟩ := pos_good h0 (fun h => absurd h h1) h3
  have HGOOD := Lib.hid hg
  have HBADD := Lib.hid hb
  clear hg hb h1 h3 HST HSZ
  go_loop [6] (fun iv => ∃ j : Nat, j ≤ s.size ∧ iv = .int .i64 (j : Int) ∧ Hid (∀ c ∈ (strB s).take j, digit8 c)) (fun iv => s.size - (intOf iv).toNat)
  case atStart => exact ⟨0, Nat.zero_le _, rfl, Lib.hid (by simp)⟩
  case round =>
   obtain ⟨j, hj, rfl, HJ⟩ := hrel
   by_cases hlt : j < s.size
   ·have hlt2 : j < s.size := by skip; exact hlt
    have HLT := Lib.hid hlt2
    go_wp2_with fail
    ·have hc : (s[j].toNat : Int) < 48 ∨ (57 : Int) < (s[j].toNat : Int) := by assumption
     have HBD : Hid (∀ n, strB s ≠ txtN n) := Lib.hid (HBADD.out (not_dig s HLT.out hc))
     refine bodyPost_ret (v := .tuple #[.agg #[.bool false, .slice none 0 0], .int .i64 2]) (by simp [results, Tryz.results129, go_sem, c0, c1]) rfl ?_
     first | exact .inl ⟨HBD.out, rfl, HB0.out⟩ | exact .inl ⟨HBD.out, rfl, below_set2 HB0.out (Nat.le_refl _)⟩
    ·have h12 : (48 : Int) ≤ (s[j].toNat : Int) ∧ (s[j].toNat : Int) ≤ 57 := by assumption
     have h1 : ¬ (s[j].toNat : Int) < 48 := by omega
     have h2 : ¬ (57 : Int) < (s[j].toNat : Int) := by omega
     go_round
     case rel => exact ⟨j + 1, by omega, by go_num, Lib.hid (dig_step s HLT.out HJ.out h1 h2)⟩
     case measure => simp [intOf]; omega
    ·have hc : (s[j].toNat : Int) < 48 := by assumption
     have HBD : Hid (∀ n, strB s ≠ txtN n) := Lib.hid (HBADD.out (not_dig s HLT.out (.inl hc)))
     refine bodyPost_ret (v := .tuple #[.agg #[.bool false, .slice none 0 0], .int .i64 2]) (by simp [results, Tryz.results129, go_sem, c0, c1]) rfl ?_
     first | exact .inl ⟨HBD.out, rfl, HB0.out⟩ | exact .inl ⟨HBD.out, rfl, below_set2 HB0.out (Nat.le_refl _)⟩
   ·obtain rfl : j = s.size := by omega
    have HALL : Hid (∀ c ∈ strB s, digit8 c) := Lib.hid (by have := HJ.out; rwa [List.take_of_length_le (by rw [strB_length]; exact Nat.le_refl _)] at this)
    have HTXT := Lib.hid (HGOOD.out HALL.out)
    clear HJ HBADD HGOOD
    have HROWN : Hid (Fresh w1.heap.size 3 .i64 w1 (.slice none 0 0) (natI [])) := Lib.hid (fresh_nil _ _ _ _)
    have HB1 : Hid (Below w1.heap.size w1 w1) := Lib.hid (Below.refl _ _)
    obtain ⟨i0, hi, hz0, hz1, hz2⟩ := info_parts info_int
    have hn5 : s.size ≤ 5000 := by omega
    clear c0 c1 c2 c3
    go_wp2_with fail
    go_loopw [7, 8, 9, 10] (fun dv ev _ _ wr => ∃ (j : Nat) (D : List Nat), ev = .int .i64 ((s.size : Nat) - 4 * (j : Int)) ∧ Hid (4 * j ≤ s.size + 3 ∧ D.length = j ∧ valD D = vT ((strB s).drop (s.size - 4 * j)) ∧ ∀ c ∈ D, c < 10000) ∧ Hid (Fresh w1.heap.size 3 .i64 wr dv (natI D)) ∧ Hid (Below w1.heap.size w1 wr)) (fun _ ev _ _ _ => (intOf ev).toNat)
    case atStart => exact ⟨0, [], by simp, Lib.hid ⟨by omega, rfl, by rw [List.drop_of_length_le (by rw [strB_length]; omega)]; rfl, by simp⟩, HROWN, HB1⟩
    case round =>
     clear HROWN HB1
     obtain ⟨k, D, rfl, HD, HF, HB⟩ := hrel
     by_cases hpos : 4 * k < s.size
     ·obtain ⟨x, hx⟩ : ∃ x : Nat, x + 4 * k = s.size := ⟨s.size - 4 * k, by omega⟩
      have hxe : ((s.size : Nat) : Int) - 4 * (k : Int) = (x : Int) := by omega
      have HX := Lib.hid hx
      have hx1 : 0 < x := by omega
      have hxi : (0 : Int) < (x : Int) := by omega
      have hx5 : x ≤ 5000 := by omega
      rw [hxe]
      clear hxe hx hpos
      obtain ⟨wo, rfl⟩ : ∃ wo : World, wo = wr := ⟨_, rfl⟩
      rcases Nat.lt_or_ge 4 x with h4 | h4
      rotate_left
      ·obtain ⟨y, rfl⟩ : ∃ y, y = 0 := ⟨0, rfl⟩
       have HY : Hid (s.size - 4 * (k + 1) = 0) := Lib.hid (by have := HX.out; omega)
       have hyx : 0 ≤ x := by omega
       have hy4 : x ≤ 0 + 4 := by omega
       have h4i : (x : Int) ≤ 4 := by omega
       have h4j : ¬ (4 : Int) < (x : Int) := by omega
       have h4k : ¬ 4 < x := by omega
       go_wp2_with fail
       go_loop [9, 10] (fun vv iv => ∃ i : Nat, 0 ≤ i ∧ i ≤ x ∧ iv = .int .i64 (i : Int) ∧ vv = .int .i64 ((vT (((strB s).drop 0).take (i - 0)) : Nat) : Int)) (fun _ iv => x - (intOf iv).toNat)
       case atStart => exact ⟨0, Nat.le_refl _, hyx, by first | rfl | exact congrArg (Value.int .i64) HYI.out, by rw [Nat.sub_self]; rfl⟩
       case round =>
        obtain ⟨i, hyi, hix, rfl, rfl⟩ := hrel
        by_cases hlt : i < x
        ·have hid : i < s.size := by have := HX.out; skip; omega
         have hin : i < s.size := by have := HX.out; omega
         have hdg := HALL.out s[i].toNat (List.mem_of_getElem? (str_at s hid))
         unfold digit8 at hdg
         have hc1 : (48 : Int) ≤ (s[i].toNat : Int) := by omega
         have hc2 : (s[i].toNat : Int) ≤ 57 := by omega
         have HG := Lib.hid (group_step (L := strB s) (d := s) rfl hyi hid)
         have hV := vT_lt (l := ((strB s).drop 0).take (i - 0)) (fun c hc => HALL.out c (List.mem_of_mem_drop (List.mem_of_mem_take hc)))
         have hVl : (((strB s).drop 0).take (i - 0)).length ≤ 3 := by rw [List.length_take]; omega
         have hV2 : vT (((strB s).drop 0).take (i - 0)) < 1000 := Nat.lt_of_lt_of_le hV (Nat.pow_le_pow_right (n := 10) (by decide) hVl)
         have hV3 : ((vT (((strB s).drop 0).take (i - 0)) : Nat) : Int) < 1000 := by omega
         clear hV hVl hdg
         generalize vT (((strB s).drop 0).take (i - 0)) = V at *
         go_wp2_with fail
         go_round
         case rel => exact ⟨i + 1, by omega, by omega, by go_num, by rw [HG.out]; congr 1; omega⟩
         case measure => simp [intOf]; omega
        ·obtain rfl : i = x := by omega
         obtain ⟨g, hg⟩ : ∃ g, g = vT (((strB s).drop 0).take (i - 0)) := ⟨_, rfl⟩
         have hg4 : g < 10000 := by rw [hg]; exact group_lt HALL.out (by omega)
         have HD2 : Hid (4 * (k + 1) ≤ s.size + 3 ∧ (D ++ [g]).length = k + 1 ∧ valD (D ++ [g]) = vT ((strB s).drop (s.size - 4 * (k + 1))) ∧ ∀ c ∈ D ++ [g], c < 10000) := Lib.hid (by
          obtain ⟨q1, q2, q3, q4⟩ := HD.out
          have q5 := HX.out
          refine ⟨by omega, by rw [List.length_append, q2]; rfl, ?_, fun c hc => ?_⟩
          ·rw [HY.out, hg]
           exact part_step q2 (by rw [strB_length]; skip; exact q5) (by rw [q3, show s.size - 4 * k = i by omega]) 0 hyx
          ·rcases List.mem_append.1 hc with hc | hc
           ·exact q4 c hc
           ·rw [List.mem_singleton.1 hc]; exact hg4)
         have hlen : (natI D).length + 1 ≤ 1000000000 := by rw [natI_length]; have := HD.out.2.1; have := HD.out.1; omega
         have HEV : Hid ((i : Int) - 4 = ((s.size : Nat) : Int) - 4 * ((k + 1 : Nat) : Int)) := Lib.hid (by have := HX.out; omega)
         rw [← hg]
         clear hg
         have HXR := Lib.hid (row_of_fresh (fresh_lit wo wo.heap.size 3 .i64 [(g : Int)] (Nat.le_refl _) (by simp)))
         have HF2 := Lib.hid (fresh_keeps HF.out ((Below.refl _ wo).alloc (Nat.le_refl _) (.cells #[.int .i64 (g : Int)] 3)))
         have hsz2 : w1.heap.size ≤ (wo.alloc (.cells #[.int .i64 (g : Int)] 3)).heap.size := by have := HB.out.size; simp; omega
         go_wp2_with (at_builtin; go_must (refine wpList_append_fresh rfl _ _ 22 rfl w1.heap.size 3 i0 .i64 8 Tryz.underlying22 hi hz0 hz1 hz2 (by decide) _ _ rfl HF2.out _ [(g : Int)] rfl HXR.out (by simpa using hlen) hsz2 ?_); intro v3 w3 hfr hgrow; have HB3 := Lib.hid (below_grown (HB.out.alloc HB.out.size _) HF2.out hgrow hsz2); have HF3 : Hid (Fresh w1.heap.size 3 .i64 w3 v3 (natI (D ++ [g]))) := Lib.hid (by rw [natI_append]; exact hfr); clear hfr hgrow)
         go_roundw
         case rel => exact ⟨k + 1, D ++ [g], by first | exact congrArg (Value.int .i64) HEV.out | (simp; have := HEV.out; omega), HD2, HF3, HB3⟩
         case measure => simp [intOf]; omega
      ·obtain ⟨y, hy⟩ : ∃ y, y + 4 = x := ⟨x - 4, by omega⟩
       have HY : Hid (s.size - 4 * (k + 1) = y) := Lib.hid (by have := HX.out; omega)
       have hyx : y ≤ x := by omega
       have hy4 : x ≤ y + 4 := by omega
       have h4n : 4 < x := h4
       have h4i : (4 : Int) < (x : Int) := by omega
       clear h4
       have HYI : Hid ((x : Int) - 4 = (y : Int)) := Lib.hid (by omega)
       clear hy
       go_wp2_with fail
       go_loop [9, 10] (fun vv iv => ∃ i : Nat, y ≤ i ∧ i ≤ x ∧ iv = .int .i64 (i : Int) ∧ vv = .int .i64 ((vT (((strB s).drop y).take (i - y)) : Nat) : Int)) (fun _ iv => x - (intOf iv).toNat)
       case atStart => exact ⟨y, Nat.le_refl _, hyx, by first | rfl | exact congrArg (Value.int .i64) HYI.out, by rw [Nat.sub_self]; rfl⟩
       case round =>
        obtain ⟨i, hyi, hix, rfl, rfl⟩ := hrel
        by_cases hlt : i < x
        ·have hid : i < s.size := by have := HX.out; skip; omega
         have hin : i < s.size := by have := HX.out; omega
         have hdg := HALL.out s[i].toNat (List.mem_of_getElem? (str_at s hid))
         unfold digit8 at hdg
         have hc1 : (48 : Int) ≤ (s[i].toNat : Int) := by omega
         have hc2 : (s[i].toNat : Int) ≤ 57 := by omega
         have HG := Lib.hid (group_step (L := strB s) (d := s) rfl hyi hid)
         have hV := vT_lt (l := ((strB s).drop y).take (i - y)) (fun c hc => HALL.out c (List.mem_of_mem_drop (List.mem_of_mem_take hc)))
         have hVl : (((strB s).drop y).take (i - y)).length ≤ 3 := by rw [List.length_take]; omega
         have hV2 : vT (((strB s).drop y).take (i - y)) < 1000 := Nat.lt_of_lt_of_le hV (Nat.pow_le_pow_right (n := 10) (by decide) hVl)
         have hV3 : ((vT (((strB s).drop y).take (i - y)) : Nat) : Int) < 1000 := by omega
         clear hV hVl hdg
         generalize vT (((strB s).drop y).take (i - y)) = V at *
         go_wp2_with fail
         go_round
         case rel => exact ⟨i + 1, by omega, by omega, by go_num, by rw [HG.out]; congr 1; omega⟩
         case measure => simp [intOf]; omega
        ·obtain rfl : i = x := by omega
         obtain ⟨g, hg⟩ : ∃ g, g = vT (((strB s).drop y).take (i - y)) := ⟨_, rfl⟩
         have hg4 : g < 10000 := by rw [hg]; exact group_lt HALL.out (by omega)
         have HD2 : Hid (4 * (k + 1) ≤ s.size + 3 ∧ (D ++ [g]).length = k + 1 ∧ valD (D ++ [g]) = vT ((strB s).drop (s.size - 4 * (k + 1))) ∧ ∀ c ∈ D ++ [g], c < 10000) := Lib.hid (by
          obtain ⟨q1, q2, q3, q4⟩ := HD.out
          have q5 := HX.out
          refine ⟨by omega, by rw [List.length_append, q2]; rfl, ?_, fun c hc => ?_⟩
          ·rw [HY.out, hg]
           exact part_step q2 (by rw [strB_length]; skip; exact q5) (by rw [q3, show s.size - 4 * k = i by omega]) y hyx
          ·rcases List.mem_append.1 hc with hc | hc
           ·exact q4 c hc
           ·rw [List.mem_singleton.1 hc]; exact hg4)
         have hlen : (natI D).length + 1 ≤ 1000000000 := by rw [natI_length]; have := HD.out.2.1; have := HD.out.1; omega
         have HEV : Hid ((i : Int) - 4 = ((s.size : Nat) : Int) - 4 * ((k + 1 : Nat) : Int)) := Lib.hid (by have := HX.out; omega)
         rw [← hg]
         clear hg
         have HXR := Lib.hid (row_of_fresh (fresh_lit wo wo.heap.size 3 .i64 [(g : Int)] (Nat.le_refl _) (by simp)))
         have HF2 := Lib.hid (fresh_keeps HF.out ((Below.refl _ wo).alloc (Nat.le_refl _) (.cells #[.int .i64 (g : Int)] 3)))
         have hsz2 : w1.heap.size ≤ (wo.alloc (.cells #[.int .i64 (g : Int)] 3)).heap.size := by have := HB.out.size; simp; omega
         go_wp2_with (at_builtin; go_must (refine wpList_append_fresh rfl _ _ 22 rfl w1.heap.size 3 i0 .i64 8 Tryz.underlying22 hi hz0 hz1 hz2 (by decide) _ _ rfl HF2.out _ [(g : Int)] rfl HXR.out (by simpa using hlen) hsz2 ?_); intro v3 w3 hfr hgrow; have HB3 := Lib.hid (below_grown (HB.out.alloc HB.out.size _) HF2.out hgrow hsz2); have HF3 : Hid (Fresh w1.heap.size 3 .i64 w3 v3 (natI (D ++ [g]))) := Lib.hid (by rw [natI_append]; exact hfr); clear hfr hgrow)
         go_roundw
         case rel => exact ⟨k + 1, D ++ [g], by first | exact congrArg (Value.int .i64) HEV.out | (simp; have := HEV.out; omega), HD2, HF3, HB3⟩
         case measure => simp [intOf]; omega
     ·have hle : ((s.size : Nat) : Int) - 4 * (k : Int) ≤ 0 := by omega
      obtain ⟨q1, q2, q3, q4⟩ := HD.out
      rw [show s.size - 4 * k = 0 by omega, List.drop_zero] at q3
      have hrow := row_of_fresh HF.out
      obtain ⟨a, cp, rfl, _, _⟩ := fresh_elems HF.out
      have NM := normal_any false _ D wr hrow q4 (by omega)
      rw [q3] at NM
      have HZD : Hid ((digs (sgn false (vT (strB s))).natAbs).length ≤ 500000) := Lib.hid (by rw [sgn_abs]; exact vT_digs HALL.out (by rw [strB_length]; skip; omega))
      unfold NEnd at NM
      have HNM := Lib.hid NM
      have HL1 := Lib.hid (HL0.out.below HB.out)
      have HB1 := Lib.hid (below_then HB0.out HB.out)
      generalize sgn false (vT (strB s)) = Z at *
      clear hrow q1 q2 q3 q4 NM HD HF HB HL0 hi hz0 hz1 hz2
      go_wp2_with fail
      go_must (refine HNM.out.mono ?_)
      rintro e w2 ⟨x2, rfl, hx2, hb2⟩
      obtain ⟨b2, p2, n2, q2, rfl⟩ := nat_shape hx2
      have hal := below_one w2 (.cells #[.bool b2, .slice p2 n2 q2] 24)
      have HX2 := Lib.hid (nat_keeps hx2 hal)
      have HLX := Lib.hid (Laid.new w2 24 [.bool b2, .slice p2 n2 q2])
      have HL2 := Lib.hid (HL1.out.below (below_then hb2 hal))
      have HB2 := Lib.hid (below_then (below_then HB1.out hb2) hal)
      obtain ⟨c0, c1, _, _⟩ := cells2 HLX.out
      clear hx2 hb2 hal HNM HL1 HB1
      have FT : Hid (∀ r, (r = true ∧ ¬ big Z) ∨ (r = false ∧ big Z) → Calls Tryz.prog 106 #[.agg #[.bool b2, .slice p2 n2 q2]] (w2.alloc (.cells #[.bool b2, .slice p2 n2 q2] 24)) fun e w' => e = .returned (.bool r) ∧ Below (w2.alloc (.cells #[.bool b2, .slice p2 n2 q2] 24)).heap.size (w2.alloc (.cells #[.bool b2, .slice p2 n2 q2] 24)) w') := Lib.hid (fun r hr => fits_bool _ Z r _ HX2.out HZD.out hr)
      go_wp2_with fail
      generalize w2.alloc (.cells #[.bool b2, .slice p2 n2 q2] 24) = w3 at *
      rcases Classical.em (big Z) with hbig | hbig
      ·have HBG := Lib.hid hbig
       have F := Lib.hid (FT.out false (.inr ⟨rfl, hbig⟩))
       clear hbig FT
       go_must (refine F.out.mono ?_)
       rintro e w4 ⟨rfl, hb4⟩
       obtain ⟨r0, r1, r2, r3⟩ := cells2 (HL2.out.below hb4)
       have HE := Lib.hid (below_set2 (u := .bool false) (v := .slice none 0 0) (below_then HB2.out hb4) (Nat.le_refl _))
       clear hb4 F c0 c1
       go_wp2_with fail
       refine bodyPost_ret (v := .tuple #[.agg #[.bool false, .slice none 0 0], .int .i64 4]) (by simp [results, Tryz.results129, go_sem, r0, r1]) rfl ?_
       exact .inr ⟨Z, HTXT.out, _, _, rfl, .inr ⟨HBG.out, rfl, rfl⟩, HE.out⟩
      ·have HBG := Lib.hid hbig
       have F := Lib.hid (FT.out true (.inl ⟨rfl, hbig⟩))
       clear hbig FT
       go_must (refine F.out.mono ?_)
       rintro e w4 ⟨rfl, hb4⟩
       have HL4 := Lib.hid (HL2.out.below hb4)
       obtain ⟨r0, r1, r2, r3⟩ := cells2 HL4.out
       obtain ⟨d0, d1, _, _⟩ := cells2 (HLX.out.below hb4)
       have HE := Lib.hid (below_set2 (u := .bool b2) (v := .slice p2 n2 q2) (below_then HB2.out hb4) (Nat.le_refl _))
       have HXE := Lib.hid (nat_set (nat_set (nat_keeps HX2.out hb4) HL4.out 0 (.bool b2)) (HL4.out.set 0 _) 1 (.slice p2 n2 q2))
       clear hb4 F c0 c1
       go_wp2_with fail
       refine bodyPost_ret (v := .tuple #[.agg #[.bool b2, .slice p2 n2 q2], .int .i64 0]) (by simp [results, Tryz.results129, go_sem, r0, r1]) rfl ?_
       exact .inr ⟨Z, HTXT.out, _, _, rfl, .inl ⟨HBG.out, rfl, HXE.out⟩, HE.out⟩
set_option maxHeartbeats 1000000 in
theorem nParse_nil (w : World) : Calls Tryz.prog 129 #[.string ByteArray.empty] w (BadEnd w) := by
 have HB0 : Hid (Below w.heap.size w (w.alloc (.cells #[.bool false, .slice none 0 0] 24))) := Lib.hid (below_one _ _)
 go_enter Tryz.func129, Tryz.ntmps129
 go_wp2_with fail
 refine bodyPost_ret (v := .tuple #[.agg #[.bool false, .slice none 0 0], .int .i64 2]) (by simp [results, Tryz.results129, go_sem]) rfl ?_
 exact ⟨rfl, HB0.out⟩
theorem nParse_full (s : ByteArray) (w : World) (hs : s.size ≤ 5000) : Calls Tryz.prog 129 #[.string s] w (PEnd (strB s) w) := by
 rcases Nat.eq_zero_or_pos s.size with h | h
 ·have hl : strB s = [] := List.length_eq_zero_iff.1 (by rw [strB_length]; exact h)
  obtain rfl : s = ByteArray.empty := strB_inj (by rw [hl]; rfl)
  refine (nParse_nil w).mono fun e w' h2 => .inl ⟨fun n hn => ?_, h2⟩
  have h3 : ([] : List Nat) = txtN n := hn
  rcases txt_good n with ⟨_, h4, _⟩ | ⟨_, h4, _⟩
  ·rw [h4] at h3; cases h3
  ·rw [h4] at h3; exact decN_ne _ h3.symm
 ·exact nParse_any s w hs h
theorem nParse_txt (n : Int) (w : World) (hs : (txtN n).length ≤ 5000) : Calls Tryz.prog 129 #[.string (txtS n)] w (NREnd n w) := by
 have h0 : (txtS n).size = (txtN n).length := by rw [← strB_length, strB_txt]
 refine (nParse_full (txtS n) w (by omega)).mono fun e w' h => ?_
 rw [strB_txt] at h
 rcases h with ⟨h1, _⟩ | ⟨m, h1, h2⟩
 ·exact absurd rfl (h1 n)
 ·rw [txtN_inj h1]; exact h2
end Go.Proofs.YtajehlgclnocoaaGreatDoor
