/-
  The walk of the law WireHash.
-/
import Derived.Test.YtghilgkkpbhoiaaDevJ
namespace Go.Proofs.Ytghilgkkpbhoiaa
open Go.RowKit Go.Shelf
set_option linter.unusedVariables false

theorem shr56 {u : Int} (h : 0 ≤ u ∧ u ≤ 18446744073709551615) {n : Nat} (hn : 8 ≤ n) : ∃ X : Nat, X < 72057594037927936 ∧ u / 2 ^ n = (X : Int) := by
  obtain ⟨X, _, e⟩ := shr_nat h n
  refine ⟨X, ?_, e⟩
  have h1 : (256 : Int) ≤ 2 ^ n := by
    have : 2 ^ 8 ≤ 2 ^ n := Nat.pow_le_pow_right (by decide) hn
    have h2 : ((2 ^ n : Nat) : Int) = (2 : Int) ^ n := by rw [Int.natCast_pow]; rfl
    omega
  have h2 : u / 2 ^ n ≤ u / 256 := by
    refine Int.le_ediv_of_mul_le (by decide) ?_
    have h3 : u / 2 ^ n * 256 ≤ u / 2 ^ n * 2 ^ n := Int.mul_le_mul_of_nonneg_left h1 (by omega)
    have h4 : u / 2 ^ n * 2 ^ n ≤ u := Int.ediv_mul_le u (by omega)
    omega
  omega

theorem var_short {m : Nat} (h : m < 72057594037927936) : (varN m).length ≤ 8 := varN_len_le (by decide) (Nat.lt_of_lt_of_le h (by decide))

theorem hash_iff (label : List Nat) {m n : Nat} (hm : m < 72057594037927936) (hn : n < 72057594037927936) (hl : (varN m).length = (varN n).length) :
    (((bytesN label (varN m) : Nat) : Int) == ((bytesN label (varN n) : Nat) : Int)) = ((m : Int) == (n : Int)) := by
  have h8 := var_short hm
  by_cases h : m = n
  · subst h; simp
  · rw [eq_false h]
    refine eq_false fun e => h ?_
    refine varN_inj (by omega) (by omega) (group_inj label hl (varN_lt m) (varN_lt n) (q := 0) (fun i hi => ?_) e)
    rw [List.getElem?_eq_none (by omega), List.getElem?_eq_none (by omega)]

set_option maxRecDepth 100000 in
set_option maxHeartbeats 4000000 in
theorem walk_WireHash (a b shift : Int) (label : ByteArray) (w : World) (ha : 0 ≤ a ∧ a ≤ 18446744073709551615) (hb : 0 ≤ b ∧ b ≤ 18446744073709551615) (hshift : -9223372036854775808 ≤ shift ∧ shift ≤ 9223372036854775807) (hs : label.size ≤ maxLen) :
    Calls Try.prog 10 #[.int .u64 a, .int .u64 b, .int .i64 shift, .string label] w fun e w' => e = .returned (.bool true) ∧ Below w.heap.size w w' := by
  have HA := Lib.hid ha
  have HB := Lib.hid hb
  have HS := Lib.hid hs
  have HSH := Lib.hid hshift
  have HR : Hid (0 ≤ aroundI shift 56 ∧ aroundI shift 56 < 56) := Lib.hid ⟨Int.emod_nonneg _ (by omega), Int.emod_lt_of_pos _ (by omega)⟩
  clear ha hb hs hshift
  go_enter Try.func10, Try.ntmps10
  go_wp2_with fail
  refine (around_any shift 56 w HSH.out (by decide) (by decide)).mono ?_
  rintro e w1 ⟨rfl, rfl⟩
  rw [show ((56 : Nat) : Int) = 56 from rfl]
  have hr := HR.out
  generalize aroundI shift 56 = s at *
  have ha0 := HA.out
  have hb0 := HB.out
  go_wp2_with fail
  obtain ⟨m, hm, em⟩ := shr56 HA.out (n := (8 + s).toNat) (by omega)
  obtain ⟨n, hn, en⟩ := shr56 HB.out (n := (8 + s).toNat) (by omega)
  rw [em, en]
  have hvm := var_short hm
  have hvn := var_short hn
  clear em en hr ha0 hb0 HA HB HR HSH
  have hb0 : Below w.heap.size w (w.alloc (.cells #[.slice none 0 0] 32)) := (Below.refl _ w).alloc (Nat.le_refl _) _
  have hs0 : (w.alloc (.cells #[.slice none 0 0] 32)).heap.size = w.heap.size + 1 := by simp
  have HW0 := Lib.hid (wr_new w)
  generalize w.alloc (.cells #[.slice none 0 0] 32) = w0 at *
  refine (devUint_any _ _ [] m w0 HW0.out (by omega) (by simp)).mono ?_
  rintro e w1 ⟨rfl, g1, hw1, hg1, hk1⟩
  have hb1 := below_foot hb0 hk1 (by omega) (fun k hk => by omega)
  rw [List.nil_append] at hw1
  have hs1 := hk1.size
  have hl1 := hw1.lts
  have hb2 := below_foot hb1 (Keeps.of_below ((Below.refl _ w1).alloc (Nat.le_refl _) (.cells #[.slice none 0 0] 32))) (by omega) (fun k hk => by omega)
  have HW1 := Lib.hid (wr_below hw1 ((Below.refl _ w1).alloc (Nat.le_refl _) (.cells #[.slice none 0 0] 32)))
  have HX1 := Lib.hid (wr_new w1)
  have hs2 : (w1.alloc (.cells #[.slice none 0 0] 32)).heap.size = w1.heap.size + 1 := by simp
  clear hb0 hk1 hw1 hb1 HW0
  go_wp2_with fail
  generalize w1.alloc (.cells #[.slice none 0 0] 32) = w2 at *
  refine (devUint_any _ _ [] n w2 HX1.out (by omega) (by simp)).mono ?_
  rintro e w3 ⟨rfl, g2, hx2, hg2, hk2⟩
  rw [List.nil_append] at hx2
  have hb3 := below_foot hb2 hk2 (by omega) (fun k hk => by omega)
  have HW2 := Lib.hid (wr_keeps HW1.out hk2 (by omega) (by omega))
  have HX2 := Lib.hid hx2
  have hs3 := hk2.size
  clear hb2 hk2 hx2 HW1 HX1
  go_wp2_with fail
  refine (devDone_any _ _ _ w3 HW2.out (by omega)).mono ?_
  rintro e w4 ⟨p, rfl, hp, hb⟩
  have hb4 := below_foot hb3 (Keeps.of_below hb) (by omega) (fun k hk => by omega)
  have HX3 := Lib.hid (wr_below HX2.out hb)
  have HP := Lib.hid hp
  have hs4 := hb.size
  obtain ⟨pa, pc, rfl, _, _⟩ := fresh_elems hp
  rw [natI_length] at *
  clear hb3 hb hp HW2 HX2
  go_wp2_with fail
  refine (devDone_any _ _ _ w4 HX3.out (by omega)).mono ?_
  rintro e w5 ⟨q, rfl, hq, hb⟩
  have hb5 := below_foot hb4 (Keeps.of_below hb) (by omega) (fun k hk => by omega)
  have HP2 := Lib.hid (fresh_keeps HP.out hb)
  have HQ := Lib.hid hq
  have hs5 := hb.size
  obtain ⟨qa, qc, rfl, _, _⟩ := fresh_elems hq
  rw [natI_length] at *
  clear hb4 hb hq HP HX3
  go_wp2_with fail
  refine (short_any label 20 w5 HS.out (by decide)).mono ?_
  rintro e w6 ⟨t, rfl, ht, rfl⟩
  have L := Lib.hid (fun W => lives_any2 W)
  by_cases hl : (varN m).length = (varN n).length
  · have HI := Lib.hid (hash_iff (strN t) hm hn hl)
    have B1 := Lib.hid (fun (W : World) (v : Value) h1 h2 => bytes_any t v (toNats (natI (varN m))) W (by omega) h1 h2 (by rw [toNats_natI]; omega))
    have B2 := Lib.hid (fun (W : World) (v : Value) h1 h2 => bytes_any t v (toNats (natI (varN n))) W (by omega) h1 h2 (by rw [toNats_natI]; omega))
    have HM := Lib.hid (natI_range (varN_lt m))
    have HN := Lib.hid (natI_range (varN_lt n))
    have hml : (natI (varN m)).length ≤ 8 := by rw [natI_length]; exact hvm
    have hnl : (natI (varN n)).length ≤ 8 := by rw [natI_length]; exact hvn
    have HML := Lib.hid hml
    have HNL := Lib.hid hnl
    rw [← hl] at HQ ⊢
    rw [toNats_natI] at B1 B2
    clear hl hml hnl hvn
    generalize bytesN (strN t) (varN m) = X at *
    generalize bytesN (strN t) (varN n) = Y at *
    generalize hlv : (varN m).length = lv at *
    have q1 := eq_bool (rfl : lv = lv)
    clear hlv
    go_wp2_with fail
    refine (B1.out w5 _ (by have := Bytes.of_fresh HP2.out (by have := HML.out; omega) HM.out; rwa [toNats_natI] at this) (fresh_block HP2.out)).mono ?_
    rintro e w7 ⟨rfl, hb⟩
    have hb6 := below_foot hb5 (Keeps.of_below hb) (by omega) (fun k hk => by omega)
    have HQ2 := Lib.hid (fresh_keeps HQ.out hb)
    have hs7 := hb.size
    clear hb hb5 HQ
    go_wp2_with fail
    refine (B2.out w7 _ (by have := Bytes.of_fresh HQ2.out (by have := HNL.out; omega) HN.out; rwa [toNats_natI] at this) (fresh_block HQ2.out)).mono ?_
    rintro e w8 ⟨rfl, hb⟩
    have hb7 := below_foot hb6 (Keeps.of_below hb) (by omega) (fun k hk => by omega)
    have hs8 := hb.size
    have hi := HI.out
    clear hb hb6 HQ2 HI
    obtain ⟨tt, htt⟩ : ∃ tt, ((m : Int) == (n : Int)) = tt := ⟨_, rfl⟩
    rw [htt] at hi
    cases tt
    all_goals
      go_wp2_with fail
      refine (L.out w8).mono ?_
      rintro e w9 ⟨rfl, hb⟩
      have hb8 := below_foot hb7 (Keeps.of_below hb) (by omega) (fun k hk => by omega)
      go_wp2_with fail
      go_ret
      exact ⟨rfl, hb8⟩
  · have hmn : m ≠ n := fun h => hl (by rw [h])
    have q1 := eq_false hl
    have q2 := eq_false hmn
    have q3 : (((varN m).length : Int) != ((varN n).length : Int)) = true := by rw [bne, q1]; rfl
    have q4 : ((m : Int) != (n : Int)) = true := by rw [bne, q2]; rfl
    clear hl hmn
    generalize (varN m).length = lm at *
    generalize (varN n).length = ln at *
    go_wp2_with fail
    refine (L.out w5).mono ?_
    rintro e w9 ⟨rfl, hb⟩
    have hb8 := below_foot hb5 (Keeps.of_below hb) (by omega) (fun k hk => by omega)
    go_wp2_with fail
    go_ret
    exact ⟨rfl, hb8⟩
end Go.Proofs.Ytghilgkkpbhoiaa
