/-
 Package wide: Clone of words, difference.
 Package wide: product.
 Package wide: divideByWord.
 Package wide: results in memory; From, Small, Compare, Sign, Neg.
 Package wide: Neg, Add, Sub.
 Package wide: Sub, Compare, Sign, From, Small.
-/
import Derived.Test.YtepakogbbomaoaaGreatDoorBigHO
import Derived.Test.YtepakogbbomaoaaGreatDoorBgAO
import Derived.Test.YtepakogbbomaoaaGreatDoorNmHO
import Derived.Test.YtepakogbbomaoaaGreatDoorNumGO
import Derived.Deep.RegionHeld3
namespace Go.Proofs.YtepakogbbomaoaaGreatDoor
open Go.RowKit Go.Shelf
set_option linter.unusedVariables false
set_option maxRecDepth 100000
set_option maxHeartbeats 1000000 in
theorem cloneW_any (v : Value) (zs : List Int) (w : World) (hv : Row .u32 w v zs) (hlen : zs.length ≤ 990000000) :
  Calls Tryz.prog 82 #[v] w (Copies 116 .u32 zs w) := by
 obtain ⟨i0, hi, hz0, hz1, hz2⟩ := info_parts info_u32
 have HR := Lib.hid hv
 have q : ∀ (w : World) (a : Option Addr) (n c n' c' : Nat), (binOp .eql 30 (.slice a n c) (.slice none n' c')).run Tryz.prog w = .ok (.bool a.isNone) w := fun w a n c n' c' => Lib.run_eql_slice_nil w _ _ a n c n' c' under_words
 obtain ⟨p, cap, rfl, hcap, hcm, hne, hnil⟩ := hv
 rcases p with _ | p
 ·obtain ⟨rfl, rfl⟩ := hnil rfl
  clear hne hnil
  go_enter Tryz.func82, Tryz.ntmps82
  go_wp2_with fail
  go_ret
  exact copies_mk (fresh_nil _ _ _ _) (Below.refl _ _)
 ·clear hne hnil
  have HF := Lib.hid (fresh_lit w w.heap.size 116 .u32 [] (Nat.le_refl _) (by simp))
  have HR1 := Lib.hid (row_keeps HR.out ((Below.refl _ w).alloc (Nat.le_refl _) (.cells #[] 116)))
  have hsz : w.heap.size ≤ (w.alloc (.cells #[] 116)).heap.size := by simp
  go_enter Tryz.func82, Tryz.ntmps82
  go_wp2_with (at_builtin; go_must (refine wpList_append_fresh rfl _ _ 30 rfl w.heap.size 116 i0 .u32 4 Tryz.underlying30 hi hz0 hz1 hz2 (by decide) _ [] rfl HF.out _ zs rfl HR1.out (by simp; omega) hsz ?_); intro v2 w2 hfr hgrow; have hb2 : Below w.heap.size w w2 := below_grown ((Below.refl _ w).alloc (Nat.le_refl _) _) HF.out hgrow hsz; have HFR := Lib.hid hfr; clear hfr hgrow)
  go_ret
  exact copies_mk HFR.out hb2
theorem diff_val {out x bs : List Nat} {a b d n : Nat} (hn : x.length = n) (hol : out.length = n) (hod : ∀ k ∈ out, k < 4294967296) (hxd : ∀ k ∈ x, k < 4294967296) (h : valDW out + 1 * valDW bs = valDW x + 4294967296 ^ n * d) (ha : valDW x = a) (hb : valDW bs = b) (hle : b ≤ a) : valDW out = a - b := by
 have h1 := valD_ltW hod
 rw [hol] at h1
 rw [ha, hb, Nat.one_mul] at h
 rcases Nat.eq_zero_or_pos d with h2 | h2
 ·subst h2; rw [Nat.mul_zero] at h; omega
 ·have h3 : 4294967296 ^ n * 1 ≤ 4294967296 ^ n * d := Nat.mul_le_mul_left _ h2
  have h4 := valD_ltW hxd
  rw [hn, ha] at h4
  generalize 4294967296 ^ n * d = p at *
  generalize 4294967296 ^ n = q at *
  omega
set_option maxHeartbeats 4000000 in
theorem difference_any (u v : Value) (a b : Nat) (w : World) (hu : Row .u32 w u (natI (digsW a))) (hv : Row .u32 w v (natI (digsW b))) (ha : (digsW a).length ≤ 900000) (hle : b ≤ a) (h0 : a ≠ 0) :
  Calls Tryz.prog 49 #[u, v] w (WEnd (a - b) w) := by
 have hlb : (digsW b).length ≤ (digsW a).length := by
  have h1 := digs_len_ltW a
  exact digs_len_leW (by omega)
 have hpos := digs_len_posW h0
 have CL := cloneW_any u _ w hu (by rw [natI_length]; omega)
 unfold Copies at CL
 have HCL := Lib.hid CL
 obtain ⟨pb, cb, rfl, hcb, hcbm⟩ := row_formW hv
 have HV := Lib.hid hv
 have HDA := Lib.hid (digs_ltW a)
 have HDB := Lib.hid (digs_ltW b)
 have HNA : Hid (valDW (digsW a) = a) := Lib.hid (valD_digsW a)
 have HNB : Hid (valDW (digsW b) = b) := Lib.hid (valD_digsW b)
 clear hv CL
 generalize digsW a = da at *
 generalize digsW b = db at *
 go_enter Tryz.func49, Tryz.ntmps49
 go_wp2_with fail
 refine HCL.out.mono ?_
 rintro e w3 ⟨v3, rfl, hfr, hb3⟩
 obtain ⟨g, cap, rfl, hg, hgl, hcap⟩ := fresh_some hfr (natI_ne (fun e => by rw [e] at hpos; simp at hpos))
 rw [natI_length] at hfr hcap ⊢
 have hcm : cap ≤ 9223372036854775807 := by
  obtain ⟨p, c, e, _, h3, _⟩ := row_of_fresh hfr
  injection e with _ _ e3
  omega
 have hbl : db ≠ [] → ∀ j, blockOf (.slice pb db.length cb) j → j ≠ g := fun hne j hj => by
  have := row_block HV.out (natI_ne hne) j hj
  omega
 have TK := takeFrom_any g 0 cap 1 [] da [] db _ w3 (by simpa using Wds.of_fresh hfr) rfl HDA.out (row_keeps HV.out hb3) HDB.out hbl hlb (by omega) hcap hcm (by decide)
 unfold TakeEnd at TK
 have HTK := Lib.hid TK
 have HB3 := Lib.hid hb3
 rw [show ((1 : Nat) : Int) = 1 from rfl] at HTK
 clear TK hb3 hfr hbl HCL
 go_wp2_with fail
 refine HTK.out.mono ?_
 rintro e w5 ⟨d, out, rfl, hd1, hol, hod, hval, hw5, hk5⟩
 have hval2 := diff_val rfl hol hod HDA.out hval HNA.out HNB.out hle
 have hB5 : Below w.heap.size w w5 := HB3.out.trans (hk5.below (by have := HB3.out.size; omega) (by intro k hk; omega))
 have TR := trimmed_loc (some ⟨g, 0, none⟩) cap out w5 (Wds.row0 (by simpa using hw5) (by omega) hcm) hod (by omega)
 rw [hval2, hol] at TR
 unfold TrimEnd at TR
 have HTR := Lib.hid TR
 have HB5 := Lib.hid hB5
 clear TR hB5 hval hval2 hw5 hk5 hod HTK
 go_wp2_with fail
 refine HTR.out.mono ?_
 rintro e w6 ⟨q, m, k, rfl, _, hr, rfl⟩
 go_wp2_with fail
 go_ret
 exact ⟨q, m, k, rfl, hr, HB5.out⟩
theorem prod_step {b : List Nat} {i k T x V : Nat} (h : V = T + 4294967296 ^ i * (x * valDW (b.take k))) : V + 4294967296 ^ (i + k) * (x * atDW b k) = T + 4294967296 ^ i * (x * valDW (b.take (k + 1))) := by
 rw [valD_take_atW, Nat.mul_add x, Nat.mul_add (4294967296 ^ i), h]
 have e2 : 4294967296 ^ i * (x * (4294967296 ^ k * atDW b k)) = 4294967296 ^ (i + k) * (x * atDW b k) := by
  rw [Nat.pow_add, Nat.mul_left_comm x, Nat.mul_assoc]
 rw [e2, Nat.add_assoc]
theorem prod_close {out a b : List Nat} {i c : Nat} (hj : i + b.length < out.length) (hz : atDW out (i + b.length) = 0) (h : valDW out + 4294967296 ^ (i + b.length) * c = valDW (a.take i) * valDW b + 4294967296 ^ i * (atDW a i * valDW b)) :
  valDW (out.set (i + b.length) c) = valDW (a.take (i + 1)) * valDW b := by
 have h1 := valD_setW hj c
 rw [hz, Nat.mul_zero, Nat.add_zero] at h1
 rw [h1, h, valD_take_atW, Nat.add_mul, Nat.mul_assoc]
set_option maxHeartbeats 16000000 in
theorem product_any (u v : Value) (a b : Nat) (w : World) (hu : Row .u32 w u (natI (digsW a))) (hv : Row .u32 w v (natI (digsW b))) (ha : (digsW a).length ≤ 400000) (hb : (digsW b).length ≤ 400000) :
  Calls Tryz.prog 102 #[u, v] w (WEnd (a * b) w) := by
 obtain ⟨i0, hi, hz0, hz1, hz2⟩ := info_parts info_u32
 obtain ⟨pa, ca, rfl, hca, hcam⟩ := row_formW hu
 obtain ⟨pb, cb, rfl, hcb, hcbm⟩ := row_formW hv
 have HU := Lib.hid hu
 have HV := Lib.hid hv
 have HDA := Lib.hid (digs_ltW a)
 have HDB := Lib.hid (digs_ltW b)
 have HNA : Hid (valDW (digsW a) = a) := Lib.hid (valD_digsW a)
 have HNB : Hid (valDW (digsW b) = b) := Lib.hid (valD_digsW b)
 clear hu hv
 generalize digsW a = da at *
 generalize digsW b = db at *
 go_enter Tryz.func102, Tryz.ntmps102
 go_wp2_with (at_make; go_must (refine wpList_make_fresh rfl _ _ 30 rfl w.heap.size 116 i0 .u32 4 Tryz.underlying30 hi hz0 hz1 hz2 (by decide) _ _ _ _ (da.length + db.length) rfl rfl (by first | rfl | omega) (by first | rfl | omega) (by omega) (Nat.le_refl _) ?_); intro w3 hfr hb3 hsz3)
 have HF0 : Hid (Wds w3 w.heap.size (List.replicate (da.length + db.length) 0)) := Lib.hid (Wds.of_fresh (B := w.heap.size) (by simpa [natI] using hfr))
 have HB3 := Lib.hid hb3
 clear hfr hb3 hsz3
 generalize hg : w.heap.size = g at *
 go_loopw [6, 7, 8, 9, 10, 19] (fun _ _ _ _ _ iv wr => ∃ (i : Nat) (out : List Nat), iv = .int .i64 (i : Int) ∧ i ≤ da.length ∧ Hid (out.length = da.length + db.length) ∧ Hid (valDW out = valDW (da.take i) * valDW db) ∧ Hid (∀ j, i + db.length ≤ j → atDW out j = 0) ∧ Hid (∀ c ∈ out, c < 4294967296) ∧ Hid (Wds wr g out) ∧ Hid (Below g w wr)) (fun _ _ _ _ _ iv _ => ((da.length : Int) - intOf iv).toNat)
 case atStart => exact ⟨0, List.replicate (da.length + db.length) 0, rfl, Nat.zero_le _, Lib.hid (by simp), Lib.hid (by simp [valD_zerosW, valDW]), Lib.hid (fun j _ => atD_zerosW _ j), Lib.hid (fun c hc => by rw [(List.mem_replicate.1 hc).2]; decide), HF0, HB3⟩
 case round =>
  obtain ⟨i, out, rfl, hil, HOL, HVAL, HZ, HDO, HF, HB⟩ := hrel
  clear HF0 HB3
  rcases Nat.lt_or_ge i da.length with h | h
  ·obtain ⟨ba, oa, rfl, hc0⟩ := row_elemW HU.out h
   have hlt0 : ba < w.heap.size := World.block_lt_of_cell? _ _ hc0
   have hca := (HB.out.cell (p := ⟨ba, oa + i, none⟩) (by show ba < g; omega)).trans hc0
   have hx := atD_ltW HDA.out i
   have hi0 : (0 : Int) ≤ (i : Int) := by omega
   obtain ⟨T, hT⟩ : ∃ T, valDW (da.take i) * valDW db = T := ⟨_, rfl⟩
   generalize hax : atDW da i = x at *
   have HCL : Hid (∀ out' c, out'.length = da.length + db.length → atDW out' (i + db.length) = 0 → valDW out' + 4294967296 ^ (i + db.length) * c = T + 4294967296 ^ i * (x * valDW db) → valDW (out'.set (i + db.length) c) = valDW (da.take (i + 1)) * valDW db) := Lib.hid (fun out' c h1 h2 h3 => prod_close (a := da) (by omega) h2 (by rw [hT, hax]; exact h3))
   rw [hT] at HVAL
   have hwg := HF.out.lt
   clear hT hax hc0 hlt0
   go_wp2_with fail
   refine (carrying_any wr).mono ?_
   rintro e w4 ⟨rfl, hw4⟩
   have HL4 : Hid (Laid w4 wr.heap.size 60 [.int .u64 ((0 : Nat) : Int)]) := Lib.hid (by rw [hw4]; exact Laid.new _ _ _)
   have HF4 : Hid (Wds w4 g out) := Lib.hid (by rw [hw4]; exact HF.out.keeps ((Keeps.refl (fun _ => False) _).alloc _) (fun h => h))
   have HB4 : Hid (Below g w w4) := Lib.hid (by rw [hw4]; exact HB.out.alloc (by omega) _)
   clear hw4 HF HB hca
   generalize wr.heap.size = b1 at *
   go_wp2_with fail
   go_loopw [9, 10, 27] (fun _ _ kv ws => ∃ (k c : Nat) (out' : List Nat), kv = .int .i64 (k : Int) ∧ k ≤ db.length ∧ c < 4294967296 ∧ Hid (out'.length = da.length + db.length) ∧ Hid (valDW out' + 4294967296 ^ (i + k) * c = T + 4294967296 ^ i * (x * valDW (db.take k))) ∧ Hid (∀ j, i + db.length ≤ j → atDW out' j = 0) ∧ Hid (∀ c ∈ out', c < 4294967296) ∧ Hid (Wds ws g out') ∧ Hid (Laid ws b1 60 [.int .u64 (c : Int)]) ∧ Hid (Below g w ws)) (fun _ _ kv _ => ((db.length : Int) - intOf kv).toNat)
   case atStart => exact ⟨0, 0, out, rfl, Nat.zero_le _, by decide, HOL, Lib.hid (by rw [HVAL.out]; simp [valDW]), HZ, HDO, HF4, HL4, HB4⟩
   case round =>
    obtain ⟨k, c, out2, rfl, hkl, hc, HOL2, HV2, HZ2, HDO2, HF2, HL2, HB2⟩ := hrel
    clear HF4 HL4 HB4 HVAL HZ HDO HOL
    rcases Nat.lt_or_ge k db.length with hk | hk
    ·obtain ⟨bb, ob, rfl, hcb0⟩ := row_elemW HV.out hk
     have hltb : bb < w.heap.size := World.block_lt_of_cell? _ _ hcb0
     have hcb1 := (HB2.out.cell (p := ⟨bb, ob + k, none⟩) (by show bb < g; omega)).trans hcb0
     have hikl : i + k < out2.length := by rw [HOL2.out]; omega
     have g3 := HF2.out.cell hikl
     have hy := atD_ltW HDB.out k
     have ho := atD_ltW HDO2.out (i + k)
     have hk0 : (0 : Int) ≤ (k : Int) := by omega
     have HPS := Lib.hid (prod_step HV2.out)
     have HWS := Lib.hid (word_step (t := x * atDW db k) (c := c) hikl rfl rfl)
     generalize atDW db k = y at *
     generalize atDW out2 (i + k) = o at *
     obtain ⟨p, hp⟩ : ∃ p, p = x * y := ⟨_, rfl⟩
     have hpi : (x : Int) * (y : Int) = (p : Int) := by rw [hp]; simp
     have hpl : p ≤ 18446744065119617025 := by rw [hp]; exact mul_ltW hx hy
     rw [← hp] at HPS HWS
     obtain ⟨s0, hs0⟩ : ∃ s0, s0 = o + p := ⟨_, rfl⟩
     have hsi : (o : Int) + (p : Int) = (s0 : Int) := by omega
     have hsc : s0 + c < 18446744073709551616 := by omega
     have hq : (s0 + c) / 4294967296 < 4294967296 := by omega
     have hzl : (s0 + c) % 4294967296 < 4294967296 := Nat.mod_lt _ (by decide)
     have HCS := Lib.hid (carry_step s0 c b1 _ hsc HL2.out)
     unfold CarryEnd at HCS
     rw [← hs0, HPS.out] at HWS
     have hikn : ((i : Int) + (k : Int)).toNat = i + k := by omega
     have hik0 : (0 : Int) ≤ (i : Int) + (k : Int) := by omega
     have hik1 : (i : Int) + (k : Int) < ((da.length : Int) + (db.length : Int)) := by omega
     clear hcb0 hltb hp hs0
     go_wp2_with fail
     refine HCS.out.mono ?_
     rintro e w5 ⟨rfl, hl5, hk5⟩
     have HF5 := Lib.hid (HF2.out.keeps hk5 (by omega))
     have HL5 := Lib.hid hl5
     have HB5 : Hid (Below g w w5) := Lib.hid (HB2.out.trans (hk5.below (by have := HF2.out.lt; omega) (by intro k hk; omega)))
     have g5 := HF5.out.cell hikl
     have g6 := HF5.out.frozen (i + k)
     generalize (s0 + c) % 4294967296 = z at *
     generalize (s0 + c) / 4294967296 = q at *
     generalize atDW out2 (i + k) = o2 at *
     clear hl5 hk5 HCS hpl hpi hsi hsc hcb1 g3
     have HKS := Lib.hid (keeps_set w5 g (i + k) (.int .u32 (z : Int)))
     have HF6 := Lib.hid (HF5.out.set hikl z)
     have HB6 := Lib.hid (HB5.out.setCell (p := ⟨g, i + k, none⟩) (Nat.le_refl _) (.int .u32 (z : Int)))
     clear hikl
     go_wp2_with fail
     go_roundw
     case rel => exact ⟨k + 1, q, out2.set (i + k) z, by go_num, by omega, hq, Lib.hid (by rw [List.length_set]; exact HOL2.out), HWS, Lib.hid (fun j hj => by rw [atD_set_neW (by omega)]; exact HZ2.out j hj), Lib.hid (set_ltW HDO2.out hzl _), HF6, Lib.hid (HL5.out.keeps HKS.out (by omega)), HB6⟩
     case measure => simp [intOf] <;> omega
    ·have e : k = db.length := by omega
     subst e
     have hikl : i + db.length < out2.length := by rw [HOL2.out]; omega
     have HCL2 := Lib.hid (HCL.out out2 c HOL2.out (HZ2.out _ (Nat.le_refl _)) (by have := HV2.out; rwa [List.take_length] at this))
     have HCS := Lib.hid (carry_step 0 c b1 _ (by omega) HL2.out)
     unfold CarryEnd at HCS
     rw [Nat.zero_add, show c % 4294967296 = c by omega, show ((0 : Nat) : Int) = 0 from rfl] at HCS
     have hikn : ((i : Int) + (db.length : Int)).toNat = i + db.length := by omega
     have hik0 : (0 : Int) ≤ (i : Int) + (db.length : Int) := by omega
     have hik1 : (i : Int) + (db.length : Int) < ((da.length : Int) + (db.length : Int)) := by omega
     go_wp2_with fail
     refine HCS.out.mono ?_
     rintro e w5 ⟨rfl, hl5, hk5⟩
     have HF5 := Lib.hid (HF2.out.keeps hk5 (by omega))
     have HB5 : Hid (Below g w w5) := Lib.hid (HB2.out.trans (hk5.below (by have := HF2.out.lt; omega) (by intro k hk; omega)))
     have g5 := HF5.out.cell hikl
     have g6 := HF5.out.frozen (i + db.length)
     generalize atDW out2 (i + db.length) = o2 at *
     have HF6 := Lib.hid (HF5.out.set hikl c)
     have HB6 := Lib.hid (HB5.out.setCell (p := ⟨g, i + db.length, none⟩) (Nat.le_refl _) (.int .u32 (c : Int)))
     clear hikl hl5 hk5 HCS
     go_wp2_with fail
     go_roundw
     case rel => exact ⟨i + 1, out2.set (i + db.length) c, by go_num, by omega, Lib.hid (by rw [List.length_set]; exact HOL2.out), HCL2, Lib.hid (fun j hj => by rw [atD_set_neW (by omega)]; exact HZ2.out j (by omega)), Lib.hid (set_ltW HDO2.out hc _), HF6, HB6⟩
     case measure => simp [intOf] <;> omega
  ·have e : i = da.length := by omega
   subst e
   have hrow := HF.out.row0 (cap := da.length + db.length) (by rw [HOL.out]; omega) (by omega)
   have hv : valDW out = a * b := by have := HVAL.out; rw [List.take_length] at this; rw [this, HNA.out, HNB.out]
   have TR := trimmed_loc (some ⟨g, 0, none⟩) (da.length + db.length) out wr hrow HDO.out (by rw [HOL.out]; omega)
   rw [hv, HOL.out] at TR
   unfold TrimEnd at TR
   have HTR := Lib.hid TR
   clear TR hv hrow
   go_wp2_with fail
   refine HTR.out.mono ?_
   rintro e w6 ⟨q, m, k, rfl, _, hr, rfl⟩
   go_wp2_with fail
   go_ret
   exact ⟨q, m, k, rfl, hr, by rw [hg]; exact HB.out⟩
theorem part_or {r x : Nat} (hr : r < 4294967296) (hx : x < 4294967296) : bits .or .u64 ((r : Int) * 4294967296) (x : Int) = ((r * 4294967296 + x : Nat) : Int) := by
 rw [show (r : Int) * 4294967296 = ((2 ^ 32 * r : Nat) : Int) by omega, bits_or_u64_nat _ _ (by omega) (by omega), ← Nat.two_pow_add_eq_or_of_lt (by simpa using hx)]
 omega
theorem quot_step {a out : List Nat} {i n dv r q r2 : Nat} (ha : a.length = n) (ho : out.length = n) (hi : i < n) (h : valDW (a.drop (i + 1)) = valDW (out.drop (i + 1)) * dv + r) (hq : r * 4294967296 + atDW a i = q * dv + r2) :
  valDW (a.drop i) = valDW ((out.set i q).drop i) * dv + r2 := by
 have e1 : a.drop i = atDW a i :: a.drop (i + 1) := by
  rw [List.drop_eq_getElem_cons (by omega)]; unfold atDW; rw [List.getElem?_eq_getElem (by omega)]; rfl
 have e2 : (out.set i q).drop i = q :: out.drop (i + 1) := by
  rw [List.drop_eq_getElem_cons (by rw [List.length_set]; omega), List.getElem_set_self, List.drop_set_of_lt (by omega)]
 rw [e1, e2]
 simp only [valDW]
 rw [h, Nat.add_mul, Nat.mul_add, Nat.mul_assoc]
 generalize valDW (out.drop (i + 1)) * dv = p at *
 generalize q * dv = s at *
 omega
def DivWEnd (n dv : Nat) (w : World) (e : Ending) (w' : World) : Prop := ∃ a m k, e = .returned (.tuple #[.slice a m k, .int .u32 ((n % dv : Nat) : Int)]) ∧ Row .u32 w' (.slice a m k) (natI (digsW (n / dv))) ∧ Below w.heap.size w w' ∧ ∀ j, blockOf (.slice a m k) j → w.heap.size ≤ j
set_option maxHeartbeats 8000000 in
theorem divideByWord_any (u : Value) (n dv : Nat) (w : World) (hu : Row .u32 w u (natI (digsW n))) (ha : (digsW n).length ≤ 900000) (hd0 : 0 < dv) (hd : dv < 4294967296) :
  Calls Tryz.prog 85 #[u, .int .u32 (dv : Int)] w (DivWEnd n dv w) := by
 obtain ⟨i0, hi, hz0, hz1, hz2⟩ := info_parts info_u32
 obtain ⟨pa, ca, rfl, hca, hcam⟩ := row_formW hu
 have HU := Lib.hid hu
 have HDA := Lib.hid (digs_ltW n)
 have HNA : Hid (valDW (digsW n) = n) := Lib.hid (valD_digsW n)
 clear hu
 generalize digsW n = d at *
 go_enter Tryz.func85, Tryz.ntmps85
 go_wp2_with (at_make; go_must (refine wpList_make_fresh rfl _ _ 30 rfl w.heap.size 116 i0 .u32 4 Tryz.underlying30 hi hz0 hz1 hz2 (by decide) _ _ _ _ d.length rfl rfl (by first | rfl | omega) (by first | rfl | omega) (by omega) (Nat.le_refl _) ?_); intro w3 hfr hb3 hsz3)
 have HF0 : Hid (Wds w3 w.heap.size (List.replicate d.length 0)) := Lib.hid (Wds.of_fresh (B := w.heap.size) (by simpa [natI] using hfr))
 have HB3 := Lib.hid hb3
 clear hfr hb3 hsz3
 generalize hg : w.heap.size = g at *
 go_loopw [5, 6, 7] (fun rv iv _ wr => ∃ (j r : Nat) (out : List Nat), iv = .int .i64 ((j : Int) - 1) ∧ rv = .int .u32 (r : Int) ∧ j ≤ d.length ∧ r < dv ∧ Hid (out.length = d.length) ∧ Hid (valDW (d.drop j) = valDW (out.drop j) * dv + r) ∧ Hid (∀ c ∈ out, c < 4294967296) ∧ Hid (Wds wr g out) ∧ Hid (Below g w wr)) (fun _ iv _ _ => (intOf iv + 1).toNat)
 case atStart => exact ⟨d.length, 0, List.replicate d.length 0, rfl, rfl, Nat.le_refl _, hd0, Lib.hid (by simp), Lib.hid (by simp [valDW]), Lib.hid (fun c hc => by rw [(List.mem_replicate.1 hc).2]; decide), HF0, HB3⟩
 case round =>
  obtain ⟨j, r, out, rfl, rfl, hj, hr, HOL, HVAL, HDO, HF, HB⟩ := hrel
  clear HF0 HB3
  rcases Nat.eq_zero_or_pos j with hj0 | hj0
  ·subst hj0
   rw [show ((0 : Nat) : Int) - 1 = -1 from rfl]
   have hv : n = valDW out * dv + r := by have := HVAL.out; rw [List.drop_zero, List.drop_zero, HNA.out] at this; exact this
   have hq : n / dv = valDW out := by rw [hv, Nat.mul_comm, Nat.mul_add_div hd0, Nat.div_eq_of_lt hr, Nat.add_zero]
   have hm : n % dv = r := by rw [hv, Nat.mul_comm, Nat.mul_add_mod, Nat.mod_eq_of_lt hr]
   have TR := trimmed_loc (some ⟨g, 0, none⟩) d.length out wr (HF.out.row0 (cap := d.length) (by rw [HOL.out]; omega) (by omega)) HDO.out (by rw [HOL.out]; omega)
   rw [← hq, HOL.out] at TR
   unfold TrimEnd at TR
   have HTR := Lib.hid TR
   have HM := Lib.hid hm
   clear TR hv hq hm
   go_wp2_with fail
   refine HTR.out.mono ?_
   rintro e w6 ⟨q, m, k, rfl, hqp, hrow, rfl⟩
   have HQP := Lib.hid hqp
   clear hqp
   go_wp2_with fail
   refine bodyPost_ret (v := .tuple #[.slice q m k, .int .u32 (r : Int)]) (by simp [results, Tryz.results85, go_sem]) rfl ?_
   exact ⟨q, m, k, by rw [HM.out], hrow, by rw [hg]; exact HB.out, by
    intro j hj
    rcases HQP.out with h | h
    ·rw [h] at hj; have : j = g := hj; omega
    ·rw [h] at hj; exact hj.elim⟩
  ·obtain ⟨i, rfl⟩ : ∃ i, j = i + 1 := ⟨j - 1, by omega⟩
   rw [show ((i + 1 : Nat) : Int) - 1 = (i : Int) by omega]
   obtain ⟨ba, oa, rfl, hc0⟩ := row_elemW HU.out (show i < d.length by omega)
   have hlt0 : ba < w.heap.size := World.block_lt_of_cell? _ _ hc0
   have hca := (HB.out.cell (p := ⟨ba, oa + i, none⟩) (by show ba < g; omega)).trans hc0
   have hx := atD_ltW HDA.out i
   have hi0 : (0 : Int) ≤ (i : Int) := by omega
   have hio : i < out.length := by rw [HOL.out]; omega
   have g3 := HF.out.cell hio
   have g4 := HF.out.frozen i
   have HST := Lib.hid (fun q r2 => quot_step (q := q) (r2 := r2) rfl HOL.out (show i < d.length by omega) HVAL.out)
   generalize atDW d i = x at *
   generalize atDW out i = o at *
   have hor := part_or (show r < 4294967296 by omega) hx
   obtain ⟨p, hp⟩ : ∃ p, p = r * 4294967296 + x := ⟨_, rfl⟩
   rw [← hp] at hor HST
   have hpl : p < dv * 4294967296 := by
    have : r + 1 ≤ dv := hr
    have := Nat.mul_le_mul_right 4294967296 this
    omega
   have hpu : p < 18446744073709551616 := by omega
   obtain ⟨q, hq⟩ : ∃ q, q = p / dv := ⟨_, rfl⟩
   obtain ⟨r2, hr2⟩ : ∃ r2, r2 = p % dv := ⟨_, rfl⟩
   have hql : q < 4294967296 := by rw [hq]; exact (Nat.div_lt_iff_lt_mul hd0).2 (by rw [Nat.mul_comm]; exact hpl)
   have hrl : r2 < dv := by rw [hr2]; exact Nat.mod_lt _ hd0
   have HQ := Lib.hid (HST.out q r2 (by rw [hq, hr2, Nat.mul_comm]; exact (Nat.div_add_mod p dv).symm))
   have hd1 : (p : Int) / (dv : Int) = (q : Int) := by rw [hq]; simp
   have hd2 : (p : Int) % (dv : Int) = (r2 : Int) := by rw [hr2]; simp
   have hd3 : (dv : Int) ≠ 0 := by omega
   clear hp hc0 HST hq hr2
   have HF6 := Lib.hid (HF.out.set hio q)
   have HB6 := Lib.hid (HB.out.setCell (p := ⟨g, i, none⟩) (Nat.le_refl _) (.int .u32 (q : Int)))
   go_wp2_with fail
   go_roundw
   case rel => exact ⟨i, r2, out.set i q, rfl, rfl, by omega, hrl, Lib.hid (by rw [List.length_set]; exact HOL.out), HQ, Lib.hid (set_ltW HDO.out hql _), HF6, HB6⟩
   case measure => simp [intOf] <;> omega
theorem row_setK {k : IntKind} {W : World} {r : Nat} {t : TypeId} {b : Bool} {a : Option Addr} {n c : Nat} {v : Value} {zs : List Int} (hl : Laid W r t [.bool b, .slice a n c]) (h : Row k W v zs) (j : Nat) (u : Value) : Row k (W.setCell ⟨r, j, none⟩ u) v zs := by
 obtain ⟨p, cap, rfl, h2, h3, h4, h5⟩ := h
 refine ⟨p, cap, rfl, h2, h3, fun hne => ?_, h5⟩
 obtain ⟨g, off, rfl, hc⟩ := h4 hne
 have h0 : 0 < zs.length := List.length_pos_iff.2 hne
 have hg : g ≠ r := by
  intro e
  subst e
  have hc0 := hc 0 h0
  rw [hl.cell] at hc0
  rcases (by omega : off + 0 = 0 ∨ off + 0 = 1 ∨ 2 ≤ off + 0) with ho | ho | ho
  ·rw [ho] at hc0; simp at hc0
  ·rw [ho] at hc0; simp at hc0
  ·rw [List.getElem?_eq_none (by simp; omega)] at hc0; cases hc0
 exact ⟨g, off, rfl, fun i hi => (keeps_set W r j u).cell (hc i hi) (show ¬ g = r from hg)⟩
theorem iat_store {W : World} {r : Nat} {n : Int} {b c : Bool} {a p : Option Addr} {m k m2 k2 : Nat} (hl : Laid W r 32 [.bool c, .slice p m2 k2]) (hx : IAt W (.agg #[.bool b, .slice a m k]) n) :
  IAt ((W.setCell ⟨r, 0, none⟩ (.bool b)).setCell ⟨r, 1, none⟩ (.slice a m k)) (.agg #[.bool b, .slice a m k]) n := by
 obtain ⟨v, e, hr⟩ := hx
 injection e with e
 have e1 : Value.bool b = .bool (decide (n < 0)) := by simpa using congrArg (fun t => t[0]!) e
 have e2 : Value.slice a m k = v := by simpa using congrArg (fun t => t[1]!) e
 subst e2
 have hl2 : Laid (W.setCell ⟨r, 0, none⟩ (.bool b)) r 32 [.bool b, .slice p m2 k2] := hl.set 0 _
 exact ⟨.slice a m k, by rw [e1], row_setK hl2 (row_setK hl hr 0 _) 1 _⟩
theorem iend_store {w W : World} {r : Nat} {n : Int} {b c : Bool} {a p : Option Addr} {m k m2 k2 : Nat} (hb : Below w.heap.size w W) (hr : w.heap.size ≤ r) (hl : Laid W r 32 [.bool c, .slice p m2 k2]) (hx : IAt W (.agg #[.bool b, .slice a m k]) n) :
  IEnd n w (.returned (.agg #[.bool b, .slice a m k])) ((W.setCell ⟨r, 0, none⟩ (.bool b)).setCell ⟨r, 1, none⟩ (.slice a m k)) :=
 ⟨_, _, _, _, rfl, iat_store hl hx, (hb.setCell (p := ⟨r, 0, none⟩) hr _).setCell (p := ⟨r, 1, none⟩) hr _⟩
def RIs (W : World) (b : Bool) (a : Option Addr) (m k : Nat) (n c : Int) : Prop := (¬ big n ∧ c = 0 ∧ IAt W (.agg #[.bool b, .slice a m k]) n) ∨ (big n ∧ c = 4 ∧ b = false ∧ a = none ∧ m = 0 ∧ k = 0)
theorem rend_form {n : Int} {w : World} {e : Ending} {w' : World} (h : REndW n w e w') : ∃ b a m k c, e = .returned (.tuple #[.agg #[.bool b, .slice a m k], .int .i64 c]) ∧ RIs w' b a m k n c ∧ Below w.heap.size w w' := by
 obtain ⟨x, c, rfl, h, hb⟩ := h
 rcases h with ⟨h1, h2, h3⟩ | ⟨h1, h2, rfl⟩
 ·obtain ⟨a, cap, rfl, _⟩ := iat_form h3
  exact ⟨_, _, _, _, _, rfl, .inl ⟨h1, h2, h3⟩, hb⟩
 ·exact ⟨_, _, _, _, _, rfl, .inr ⟨h1, h2, rfl, rfl, rfl, rfl⟩, hb⟩
theorem rend_store {w W : World} {r : Nat} {n z : Int} {b c : Bool} {a p : Option Addr} {m k m2 k2 : Nat} (hb : Below w.heap.size w W) (hr : w.heap.size ≤ r) (hl : Laid W r 32 [.bool c, .slice p m2 k2]) (hx : RIs W b a m k n z) :
  REndW n w (.returned (.tuple #[.agg #[.bool b, .slice a m k], .int .i64 z])) ((W.setCell ⟨r, 0, none⟩ (.bool b)).setCell ⟨r, 1, none⟩ (.slice a m k)) := by
 refine ⟨_, _, rfl, ?_, (hb.setCell (p := ⟨r, 0, none⟩) hr _).setCell (p := ⟨r, 1, none⟩) hr _⟩
 rcases hx with ⟨h1, h2, h3⟩ | ⟨h1, h2, rfl, rfl, rfl, rfl⟩
 ·exact .inl ⟨h1, h2, iat_store hl h3⟩
 ·exact .inr ⟨h1, h2, rfl⟩
theorem cloneW_words (v : Value) (n : Nat) (w : World) (hv : Row .u32 w v (natI (digsW n))) (hlen : (digsW n).length ≤ 900000) : Calls Tryz.prog 82 #[v] w (WEnd n w) := by
 refine (cloneW_any v _ w hv (by rw [natI_length]; omega)).mono ?_
 rintro e w' ⟨v', rfl, hf, hb⟩
 have hr := row_of_fresh hf
 obtain ⟨a, c, rfl, _, _⟩ := row_formW hr
 exact ⟨_, _, _, rfl, hr, hb⟩
structure Boxes2 (w w2 : World) (na nb : Bool) (ax ay : Option Addr) (la lb cx cy : Nat) : Prop where
 below : Below w.heap.size w w2
 size : w2.heap.size = w.heap.size + 3
 x : Laid w2 w.heap.size 32 [.bool na, .slice ax la cx]
 y : Laid w2 (w.heap.size + 1) 32 [.bool nb, .slice ay lb cy]
 r : Laid w2 (w.heap.size + 2) 32 [.bool false, .slice none 0 0]
theorem boxes2 (w : World) (na nb : Bool) (ax ay : Option Addr) (la lb cx cy : Nat) :
  Boxes2 w (((w.alloc (.cells #[.bool na, .slice ax la cx] 32)).alloc (.cells #[.bool nb, .slice ay lb cy] 32)).alloc (.cells #[.bool false, .slice none 0 0] 32)) na nb ax ay la lb cx cy where
 below := (((Below.refl _ w).alloc (Nat.le_refl _) _).alloc (by simp) _).alloc (by simp; try omega) _
 size := by simp
 x := ((Laid.new w _ _).below ((Below.refl _ _).alloc (Nat.le_refl _) _)).below ((Below.refl _ _).alloc (Nat.le_refl _) _)
 y := by
  have := Laid.new (w.alloc (.cells #[.bool na, .slice ax la cx] 32)) 32 [.bool nb, .slice ay lb cy]
  rw [World.size_alloc] at this
  exact this.below ((Below.refl _ _).alloc (Nat.le_refl _) _)
 r := by
  have := Laid.new ((w.alloc (.cells #[.bool na, .slice ax la cx] 32)).alloc (.cells #[.bool nb, .slice ay lb cy] 32)) 32 [.bool false, .slice none 0 0]
  rwa [World.size_alloc, World.size_alloc] at this
theorem Boxes2.cells {w w2 : World} {na nb : Bool} {ax ay : Option Addr} {la lb cx cy : Nat} (h : Boxes2 w w2 na nb ax ay la lb cx cy) {w3 : World} (hb : Below w2.heap.size w2 w3) :
  w3.cell? ⟨w.heap.size, 0, none⟩ = some (.bool na) ∧ w3.cell? ⟨w.heap.size, 1, none⟩ = some (.slice ax la cx) ∧ w3.cell? ⟨w.heap.size + 1, 0, none⟩ = some (.bool nb) ∧ w3.cell? ⟨w.heap.size + 1, 1, none⟩ = some (.slice ay lb cy) := by
 obtain ⟨a, b, _, _⟩ := cells2 (h.x.below hb)
 obtain ⟨c, d, _, _⟩ := cells2 (h.y.below hb)
 exact ⟨a, b, c, d⟩
theorem cells4_set {W : World} {s r i j : Nat} {a b c d u v : Value} (h : W.cell? ⟨s, 0, none⟩ = some a ∧ W.cell? ⟨s, 1, none⟩ = some b ∧ W.cell? ⟨s + 1, 0, none⟩ = some c ∧ W.cell? ⟨s + 1, 1, none⟩ = some d) (h1 : s ≠ r) (h2 : s + 1 ≠ r) :
  ((W.setCell ⟨r, i, none⟩ u).setCell ⟨r, j, none⟩ v).cell? ⟨s, 0, none⟩ = some a ∧ ((W.setCell ⟨r, i, none⟩ u).setCell ⟨r, j, none⟩ v).cell? ⟨s, 1, none⟩ = some b ∧ ((W.setCell ⟨r, i, none⟩ u).setCell ⟨r, j, none⟩ v).cell? ⟨s + 1, 0, none⟩ = some c ∧ ((W.setCell ⟨r, i, none⟩ u).setCell ⟨r, j, none⟩ v).cell? ⟨s + 1, 1, none⟩ = some d := by
 have hk : Keeps (fun k => k = r) W ((W.setCell ⟨r, i, none⟩ u).setCell ⟨r, j, none⟩ v) := (keeps_set W r i u).trans (keeps_set _ r j v)
 exact ⟨hk.cell h.1 h1, hk.cell h.2.1 h1, hk.cell h.2.2.1 h2, hk.cell h.2.2.2 h2⟩
set_option maxHeartbeats 8000000 in
theorem wMul_any (x y : Value) (a b : Int) (w : World) (hx : IAt w x a) (hy : IAt w y b) (ha : (digsW a.natAbs).length ≤ 400000) (hb : (digsW b.natAbs).length ≤ 400000) :
  Calls Tryz.prog 74 #[x, y] w (REndW (a * b) w) := by
 obtain ⟨ax, cx, rfl, hrx⟩ := iat_form hx
 obtain ⟨ay, cy, rfl, hry⟩ := iat_form hy
 obtain ⟨na, hna⟩ : ∃ t, decide (a < 0) = t := ⟨_, rfl⟩
 obtain ⟨nb, hnb⟩ : ∃ t, decide (b < 0) = t := ⟨_, rfl⟩
 have HSG := Lib.hid (mul_sgn na nb a b hna hnb)
 rw [hna, hnb]
 have BX := boxes2 w na nb ax ay (digsW a.natAbs).length (digsW b.natAbs).length cx cy
 clear hx hy hna hnb
 generalize hla : (digsW a.natAbs).length = la at *
 generalize hlb : (digsW b.natAbs).length = lb at *
 obtain ⟨w2, hw2⟩ : ∃ w2, w2 = ((w.alloc (.cells #[.bool na, .slice ax la cx] 32)).alloc (.cells #[.bool nb, .slice ay lb cy] 32)).alloc (.cells #[.bool false, .slice none 0 0] 32) := ⟨_, rfl⟩
 rw [← hw2] at BX
 have HBX := Lib.hid BX
 have PR := product_any _ _ a.natAbs b.natAbs w2.drew (row_keeps (row_keeps hrx BX.below) (Below.refl _ _).drew) (row_keeps (row_keeps hry BX.below) (Below.refl _ _).drew) (by omega) (by omega)
 unfold WEnd at PR
 have HPR := Lib.hid PR
 have S0 : Hid (w2.drew.cell? ⟨w.heap.size, 0, none⟩ = some (.bool na) ∧ w2.drew.cell? ⟨w.heap.size, 1, none⟩ = some (.slice ax la cx) ∧ w2.drew.cell? ⟨w.heap.size + 1, 0, none⟩ = some (.bool nb) ∧ w2.drew.cell? ⟨w.heap.size + 1, 1, none⟩ = some (.slice ay lb cy)) := Lib.hid (BX.cells (Below.refl _ _).drew)
 have SG : Hid (∀ w3 v, Row .u32 w3 v (natI (digsW (a.natAbs * b.natAbs))) → Calls Tryz.prog 46 #[.bool (na != nb), v] w3 (IEnd (a * b) w3)) := Lib.hid (fun w3 v h => by
  have := signed_any (na != nb) v (a.natAbs * b.natAbs) w3 h
  rwa [HSG.out] at this)
 unfold IEnd at SG
 clear BX PR hrx hry hla hlb
 go_enter Tryz.func74, Tryz.ntmps74
 go_wp2_with fail
 rw [← hw2]
 clear hw2
 go_region_held3 (fun w' : World => w'.cell? ⟨w.heap.size, 0, none⟩ = some (.bool na) ∧ w'.cell? ⟨w.heap.size, 1, none⟩ = some (.slice ax la cx) ∧ w'.cell? ⟨w.heap.size + 1, 0, none⟩ = some (.bool nb) ∧ w'.cell? ⟨w.heap.size + 1, 1, none⟩ = some (.slice ay lb cy)) (first | exact S0.out | exact S3.out | exact S4.out | exact S5.out | exact cells4_set S5.out (by omega) (by omega)) (first
  | (go_at_call 102; refine HPR.out.mono ?_; rintro e w3 ⟨a3, m3, k3, rfl, hr3, hb3⟩; have HB3 : Hid (Below w2.heap.size w2 w3) := Lib.hid ((Below.refl _ w2).drew.trans hb3); have S3 := Lib.hid (HBX.out.cells HB3.out); have SG3 := Lib.hid (SG.out _ _ hr3); clear hr3 hb3)
  | (go_at_call 46; refine SG3.out.mono ?_; rintro e w4 ⟨b4, a4, m4, k4, rfl, hx4, hb4⟩; have HB4 := Lib.hid (below_then HB3.out hb4); have S4 := Lib.hid (HBX.out.cells HB4.out); have IR4 := Lib.hid (inRange_any _ _ _ hx4); clear hx4 hb4)
  | (go_at_call 45; refine IR4.out.mono ?_; rintro e w5 hw5; obtain ⟨b5, a5, m5, k5, c5, rfl, hx5, hb5⟩ := rend_form hw5; have HB5 := Lib.hid (below_then HB4.out hb5); have S5 := Lib.hid (HBX.out.cells HB5.out); have HX5 := Lib.hid hx5; obtain ⟨f0, f1, f2, f3⟩ := cells2 (HBX.out.r.below HB5.out); clear hx5 hb5 hw5))
 all_goals
  have HB6 : Hid (Below w.heap.size w w5) := Lib.hid (HBX.out.below.trans (HB5.out.mono (by have := HBX.out.size; omega)))
  have HX6 := Lib.hid (rend_store HB6.out (by omega) (HBX.out.r.below HB5.out) HX5.out)
  go_wp2_with fail
  refine bodyPost_ret (v := .tuple #[.agg #[.bool b5, .slice a5 m5 k5], .int .i64 c5]) (by simp [results, Tryz.results74, go_sem, f0, f1]) rfl ?_
  exact HX6.out
structure B3 (W : World) (s : Nat) (na nb : Bool) (ax ay : Option Addr) (la lb cx cy : Nat) : Prop where
 x : Laid W s 32 [.bool na, .slice ax la cx]
 y : Laid W (s + 1) 32 [.bool nb, .slice ay lb cy]
 r : Laid W (s + 2) 32 [.bool false, .slice none 0 0]
theorem Boxes2.b3 {w w2 : World} {na nb : Bool} {ax ay : Option Addr} {la lb cx cy : Nat} (h : Boxes2 w w2 na nb ax ay la lb cx cy) : B3 w2 w.heap.size na nb ax ay la lb cx cy := ⟨h.x, h.y, h.r⟩
theorem B3.below {W W2 : World} {s : Nat} {na nb : Bool} {ax ay : Option Addr} {la lb cx cy : Nat} (h : B3 W s na nb ax ay la lb cx cy) (hb : Below W.heap.size W W2) : B3 W2 s na nb ax ay la lb cx cy := ⟨h.x.below hb, h.y.below hb, h.r.below hb⟩
theorem B3.cells {W : World} {s : Nat} {na nb : Bool} {ax ay : Option Addr} {la lb cx cy : Nat} (h : B3 W s na nb ax ay la lb cx cy) :
  W.cell? ⟨s, 0, none⟩ = some (.bool na) ∧ W.cell? ⟨s, 1, none⟩ = some (.slice ax la cx) ∧ W.cell? ⟨s + 1, 0, none⟩ = some (.bool nb) ∧ W.cell? ⟨s + 1, 1, none⟩ = some (.slice ay lb cy) := by
 obtain ⟨a, b, _, _⟩ := cells2 h.x
 obtain ⟨c, d, _, _⟩ := cells2 h.y
 exact ⟨a, b, c, d⟩
theorem B3.swap {W : World} {s : Nat} {na nb : Bool} {ax ay : Option Addr} {la lb cx cy : Nat} (h : B3 W s na nb ax ay la lb cx cy) :
  B3 ((((W.setCell ⟨s, 0, none⟩ (.bool nb)).setCell ⟨s, 1, none⟩ (.slice ay lb cy)).setCell ⟨s + 1, 0, none⟩ (.bool na)).setCell ⟨s + 1, 1, none⟩ (.slice ax la cx)) s nb na ay ax lb la cy cx := by
 have hk1 : Keeps (fun k => k = s) W ((W.setCell ⟨s, 0, none⟩ (.bool nb)).setCell ⟨s, 1, none⟩ (.slice ay lb cy)) := (keeps_set W s 0 _).trans (keeps_set _ s 1 _)
 have hx : Laid ((W.setCell ⟨s, 0, none⟩ (.bool nb)).setCell ⟨s, 1, none⟩ (.slice ay lb cy)) s 32 [.bool nb, .slice ay lb cy] := (h.x.set 0 _).set 1 _
 have hy := h.y.keeps hk1 (by omega)
 have hr := h.r.keeps hk1 (by omega)
 generalize (W.setCell ⟨s, 0, none⟩ (.bool nb)).setCell ⟨s, 1, none⟩ (.slice ay lb cy) = W1 at *
 have hk2 : Keeps (fun k => k = s + 1) W1 ((W1.setCell ⟨s + 1, 0, none⟩ (.bool na)).setCell ⟨s + 1, 1, none⟩ (.slice ax la cx)) := (keeps_set W1 (s + 1) 0 _).trans (keeps_set _ (s + 1) 1 _)
 exact ⟨hx.keeps hk2 (by omega), (hy.set 0 _).set 1 _, hr.keeps hk2 (by omega)⟩
theorem cells2_set {W : World} {s r i j : Nat} {a b u v : Value} (h : W.cell? ⟨s, 0, none⟩ = some a ∧ W.cell? ⟨s, 1, none⟩ = some b) (h1 : s ≠ r) :
  ((W.setCell ⟨r, i, none⟩ u).setCell ⟨r, j, none⟩ v).cell? ⟨s, 0, none⟩ = some a ∧ ((W.setCell ⟨r, i, none⟩ u).setCell ⟨r, j, none⟩ v).cell? ⟨s, 1, none⟩ = some b := by
 have hk : Keeps (fun k => k = r) W ((W.setCell ⟨r, i, none⟩ u).setCell ⟨r, j, none⟩ v) := (keeps_set W r i u).trans (keeps_set _ r j v)
 exact ⟨hk.cell h.1 h1, hk.cell h.2 h1⟩
set_option maxHeartbeats 8000000 in
theorem wNeg_any (x : Value) (a : Int) (w : World) (hx : IAt w x a) (ha : (digsW a.natAbs).length ≤ 400000) :
  Calls Tryz.prog 51 #[x] w (IEnd (-a) w) := by
 obtain ⟨ax, cx, rfl, hrx⟩ := iat_form hx
 obtain ⟨na, hna⟩ : ∃ t, decide (a < 0) = t := ⟨_, rfl⟩
 have HSG : Hid (sgn (!na) a.natAbs = -a) := Lib.hid (by subst hna; unfold sgn; rcases Classical.em (a < 0) with h | h <;> simp [h] <;> omega)
 rw [hna]
 clear hx hna
 generalize hla : (digsW a.natAbs).length = la at *
 obtain ⟨w2, hw2⟩ : ∃ w2, w2 = (w.alloc (.cells #[.bool na, .slice ax la cx] 32)).alloc (.cells #[.bool false, .slice none 0 0] 32) := ⟨_, rfl⟩
 have hbe : Below w.heap.size w w2 := by rw [hw2]; exact ((Below.refl _ w).alloc (Nat.le_refl _) _).alloc (by simp) _
 have hs2 : w2.heap.size = w.heap.size + 2 := by rw [hw2]; simp
 have hX : Laid w2 w.heap.size 32 [.bool na, .slice ax la cx] := by rw [hw2]; exact (Laid.new w _ _).below ((Below.refl _ _).alloc (Nat.le_refl _) _)
 have hR : Laid w2 (w.heap.size + 1) 32 [.bool false, .slice none 0 0] := by
  rw [hw2]
  have := Laid.new (w.alloc (.cells #[.bool na, .slice ax la cx] 32)) 32 [.bool false, .slice none 0 0]
  rwa [World.size_alloc] at this
 have HX := Lib.hid hX
 have HR := Lib.hid hR
 have HBE := Lib.hid hbe
 have CL := cloneW_words _ a.natAbs w2.drew (row_keeps (row_keeps hrx hbe) (Below.refl _ _).drew) (by omega)
 unfold WEnd at CL
 have HCL := Lib.hid CL
 have CELLS : Hid (∀ w3, Below w2.heap.size w2 w3 → w3.cell? ⟨w.heap.size, 0, none⟩ = some (.bool na) ∧ w3.cell? ⟨w.heap.size, 1, none⟩ = some (.slice ax la cx)) := Lib.hid (fun w3 h => by
  obtain ⟨a, b, _, _⟩ := cells2 (HX.out.below h)
  exact ⟨a, b⟩)
 have S0 : Hid (w2.drew.cell? ⟨w.heap.size, 0, none⟩ = some (.bool na) ∧ w2.drew.cell? ⟨w.heap.size, 1, none⟩ = some (.slice ax la cx)) := Lib.hid (CELLS.out _ (Below.refl _ _).drew)
 have SG : Hid (∀ w3 v, Row .u32 w3 v (natI (digsW a.natAbs)) → Calls Tryz.prog 46 #[.bool (!na), v] w3 (IEnd (-a) w3)) := Lib.hid (fun w3 v h => by
  have := signed_any (!na) v a.natAbs w3 h
  rwa [HSG.out] at this)
 unfold IEnd at SG
 clear hX hR hbe CL hrx hla
 go_enter Tryz.func51, Tryz.ntmps51
 go_wp2_with fail
 rw [← hw2]
 clear hw2
 go_region_held3 (fun w' : World => w'.cell? ⟨w.heap.size, 0, none⟩ = some (.bool na) ∧ w'.cell? ⟨w.heap.size, 1, none⟩ = some (.slice ax la cx)) (first | exact S0.out | exact S3.out | exact S4.out | exact cells2_set S4.out (by omega)) (first
  | (go_at_call 82; refine HCL.out.mono ?_; rintro e w3 ⟨a3, m3, k3, rfl, hr3, hb3⟩; have HB3 : Hid (Below w2.heap.size w2 w3) := Lib.hid ((Below.refl _ w2).drew.trans hb3); have S3 := Lib.hid (CELLS.out _ HB3.out); have SG3 := Lib.hid (SG.out _ _ hr3); clear hr3 hb3)
  | (go_at_call 46; refine SG3.out.mono ?_; rintro e w4 ⟨b4, a4, m4, k4, rfl, hx4, hb4⟩; have HB4 := Lib.hid (below_then HB3.out hb4); have S4 := Lib.hid (CELLS.out _ HB4.out); have HX4 := Lib.hid hx4; obtain ⟨f0, f1, f2, f3⟩ := cells2 (HR.out.below HB4.out); clear hx4 hb4))
 all_goals
  have HB6 : Hid (Below w.heap.size w w4) := Lib.hid (HBE.out.trans (HB4.out.mono (by omega)))
  have HX6 := Lib.hid (iend_store HB6.out (by omega) (HR.out.below HB4.out) HX4.out)
  go_wp2_with fail
  refine bodyPost_ret (v := .agg #[.bool b4, .slice a4 m4 k4]) (by simp [results, Tryz.results51, go_sem, f0, f1]) rfl ?_
  exact HX6.out
set_option maxHeartbeats 16000000 in
theorem wAdd_any (x y : Value) (a b : Int) (w : World) (hx : IAt w x a) (hy : IAt w y b) (ha : (digsW a.natAbs).length ≤ 400000) (hb : (digsW b.natAbs).length ≤ 400000) :
  Calls Tryz.prog 14 #[x, y] w (REndW (a + b) w) := by
 obtain ⟨ax, cx, rfl, hrx⟩ := iat_form hx
 obtain ⟨ay, cy, rfl, hry⟩ := iat_form hy
 obtain ⟨na, hna⟩ : ∃ t, decide (a < 0) = t := ⟨_, rfl⟩
 obtain ⟨nb, hnb⟩ : ∃ t, decide (b < 0) = t := ⟨_, rfl⟩
 have HS := Lib.hid (add_same na nb a b hna hnb)
 have HLE := Lib.hid (add_less na nb a b hna hnb)
 have HMO := Lib.hid (add_more na nb a b hna hnb)
 have hne0 : na ≠ nb → a.natAbs ≠ b.natAbs ∨ (a.natAbs ≠ 0 ∧ b.natAbs ≠ 0) := fun h => by
  subst hna; subst hnb
  rcases Classical.em (a < 0) with h1 | h1 <;> rcases Classical.em (b < 0) with h2 | h2 <;> simp [h1, h2] at h <;> omega
 have HNE := Lib.hid hne0
 rw [hna, hnb]
 have BX := boxes2 w na nb ax ay (digsW a.natAbs).length (digsW b.natAbs).length cx cy
 have BX2 : Boxes2 w (((w.alloc (.cells #[.bool na, .slice ax (digsW a.natAbs).length cx] 32)).alloc (.cells #[.bool nb, .slice ay (digsW b.natAbs).length cy] 32)).alloc (.cells #[.bool false, .slice none 0 0] 32)) na nb ax ay (digsW a.natAbs).length (digsW b.natAbs).length cx cy := BX
 clear hx hy hna hnb hne0
 generalize hla : (digsW a.natAbs).length = la at *
 generalize hlb : (digsW b.natAbs).length = lb at *
 obtain ⟨w2, hw2⟩ : ∃ w2, w2 = ((w.alloc (.cells #[.bool na, .slice ax la cx] 32)).alloc (.cells #[.bool nb, .slice ay lb cy] 32)).alloc (.cells #[.bool false, .slice none 0 0] 32) := ⟨_, rfl⟩
 rw [← hw2] at BX
 clear BX2
 have HBX := Lib.hid BX
 have HRX := Lib.hid (row_keeps hrx BX.below)
 have HRY := Lib.hid (row_keeps hry BX.below)
 have hs2 := BX.size
 clear BX hrx hry
 have SGN : Hid (∀ (s : Bool) (n : Nat) (z : Int), sgn s n = z → ∀ w3 v, Row .u32 w3 v (natI (digsW n)) → Calls Tryz.prog 46 #[.bool s, v] w3 (IEnd z w3)) := Lib.hid (fun s n z hz w3 v h => by
  have := signed_any s v n w3 h
  rwa [hz] at this)
 unfold IEnd at SGN
 rcases Classical.em (na = nb) with heq | hne
 ·subst heq
  have HS2 := Lib.hid (HS.out rfl)
  have PR := sum_wide _ _ a.natAbs b.natAbs w2.drew (row_keeps HRX.out (Below.refl _ _).drew) (row_keeps HRY.out (Below.refl _ _).drew) (by omega) (by omega)
  unfold WEnd at PR
  have HPR := Lib.hid PR
  have H3 := Lib.hid HBX.out.b3
  have S0 := Lib.hid (H3.out.below (Below.refl _ w2).drew).cells
  have SG := Lib.hid (SGN.out _ _ _ HS2.out)
  have HBW := Lib.hid HBX.out.below
  clear PR HRX HRY hla hlb HS HLE HMO HNE SGN
  go_enter Tryz.func14, Tryz.ntmps14
  go_wp2_with fail
  rw [← hw2]
  clear hw2
  go_region_held3 (fun w' : World => w'.cell? ⟨w.heap.size, 0, none⟩ = some (.bool na) ∧ w'.cell? ⟨w.heap.size, 1, none⟩ = some (.slice ax la cx) ∧ w'.cell? ⟨w.heap.size + 1, 0, none⟩ = some (.bool na) ∧ w'.cell? ⟨w.heap.size + 1, 1, none⟩ = some (.slice ay lb cy)) (first | exact S0.out | exact S3.out | exact S4.out | exact S5.out | exact cells4_set S5.out (by omega) (by omega)) (first
   | (go_at_call 47; refine HPR.out.mono ?_; rintro e w3 ⟨a3, m3, k3, rfl, hr3, hb3⟩; have HB3 : Hid (Below w2.heap.size w2 w3) := Lib.hid ((Below.refl _ w2).drew.trans hb3); have S3 := Lib.hid (H3.out.below HB3.out).cells; have SG3 := Lib.hid (SG.out _ _ hr3); clear hr3 hb3)
   | (go_at_call 46; refine SG3.out.mono ?_; rintro e w4 ⟨b4, a4, m4, k4, rfl, hx4, hb4⟩; have HB4 := Lib.hid (below_then HB3.out hb4); have S4 := Lib.hid (H3.out.below HB4.out).cells; have IR4 := Lib.hid (inRange_any _ _ _ hx4); clear hx4 hb4)
   | (go_at_call 45; refine IR4.out.mono ?_; rintro e w5 hw5; obtain ⟨b5, a5, m5, k5, c5, rfl, hx5, hb5⟩ := rend_form hw5; have HB5 := Lib.hid (below_then HB4.out hb5); have S5 := Lib.hid (H3.out.below HB5.out).cells; have HX5 := Lib.hid hx5; obtain ⟨f0, f1, f2, f3⟩ := cells2 (H3.out.below HB5.out).r; clear hx5 hb5 hw5))
  all_goals
   have HB6 : Hid (Below w.heap.size w w5) := Lib.hid (HBW.out.trans (HB5.out.mono (by omega)))
   have HX6 := Lib.hid (rend_store HB6.out (by omega) (H3.out.below HB5.out).r HX5.out)
   go_wp2_with fail
   refine bodyPost_ret (v := .tuple #[.agg #[.bool b5, .slice a5 m5 k5], .int .i64 c5]) (by simp [results, Tryz.results14, go_sem, f0, f1]) rfl ?_
   exact HX6.out
 have hne2 : (na == nb) = false := by simpa using hne
 have CM := compareWords_any _ _ a.natAbs b.natAbs w2 HRX.out HRY.out (by omega) (by omega)
 unfold CmpEnd at CM
 have HCM := Lib.hid CM
 clear CM
 rcases Classical.em (a.natAbs < b.natAbs) with hcmp | hcmp
 ·have HS2 := Lib.hid (HLE.out hne hcmp)
  have hc : cmpN a.natAbs b.natAbs < 0 := cmpN_lt.2 hcmp
  have DF : Hid (∀ w3, Row .u32 w3 (.slice ay lb cy) (natI (digsW b.natAbs)) → Row .u32 w3 (.slice ax la cx) (natI (digsW a.natAbs)) → Calls Tryz.prog 49 #[.slice ay lb cy, .slice ax la cx] w3 (WEnd (b.natAbs - a.natAbs) w3)) := Lib.hid (fun w3 h1 h2 => difference_any _ _ b.natAbs a.natAbs w3 h1 h2 (by omega) (by omega) (by omega))
  unfold WEnd at DF
  generalize cmpN a.natAbs b.natAbs = c at *
  have SG := Lib.hid (SGN.out _ _ _ HS2.out)
  clear hla hlb HS HLE HMO HNE SGN hne
  go_enter Tryz.func14, Tryz.ntmps14
  go_wp2_with fail
  rw [← hw2]
  refine HCM.out.mono ?_
  rintro e w3 ⟨rfl, hb3⟩
  have HB30 := Lib.hid hb3
  have h30 := HBX.out.b3.below hb3
  obtain ⟨p0, p1, p2, p3⟩ := cells2 h30.x
  obtain ⟨q0, q1, q2, q3⟩ := cells2 h30.y
  have HSW := Lib.hid h30.swap
  have l1 := h30.x.set 0 (.bool nb)
  have l2 : Laid ((w3.setCell ⟨w.heap.size, 0, none⟩ (.bool nb)).setCell ⟨w.heap.size, 1, none⟩ (.slice ay lb cy)) (w.heap.size + 1) 32 [.bool nb, .slice ay lb cy] := h30.y.keeps ((keeps_set w3 w.heap.size 0 (.bool nb)).trans (keeps_set _ w.heap.size 1 (.slice ay lb cy))) (by omega)
  have l3 := l2.set 0 (.bool na)
  have rowm : ∀ v zs, Row .u32 w2 v zs → Row .u32 ((((w3.setCell ⟨w.heap.size, 0, none⟩ (.bool nb)).setCell ⟨w.heap.size, 1, none⟩ (.slice ay lb cy)).setCell ⟨w.heap.size + 1, 0, none⟩ (.bool na)).setCell ⟨w.heap.size + 1, 1, none⟩ (.slice ax la cx)) v zs := fun v zs h =>
   row_setK l3 (row_setK l2 (row_setK l1 (row_setK h30.x (row_keeps h hb3) 0 _) 1 _) 0 _) 1 _
  have HPX := Lib.hid (rowm _ _ HRX.out)
  have HPY := Lib.hid (rowm _ _ HRY.out)
  have hbw3 : Below w.heap.size w w3 := HBX.out.below.trans (hb3.mono (by omega))
  have HBW : Hid (Below w.heap.size w ((((w3.setCell ⟨w.heap.size, 0, none⟩ (.bool nb)).setCell ⟨w.heap.size, 1, none⟩ (.slice ay lb cy)).setCell ⟨w.heap.size + 1, 0, none⟩ (.bool na)).setCell ⟨w.heap.size + 1, 1, none⟩ (.slice ax la cx))) := Lib.hid ((((hbw3.setCell (p := ⟨w.heap.size, 0, none⟩) (Nat.le_refl _) _).setCell (p := ⟨w.heap.size, 1, none⟩) (Nat.le_refl _) _).setCell (p := ⟨w.heap.size + 1, 0, none⟩) (Nat.le_succ _) _).setCell (p := ⟨w.heap.size + 1, 1, none⟩) (Nat.le_succ _) _)
  clear hw2 hb3 h30 l1 l2 l3 rowm hbw3 HRX HRY HB30
  go_wp2_with fail
  generalize (((w3.setCell ⟨w.heap.size, 0, none⟩ (.bool nb)).setCell ⟨w.heap.size, 1, none⟩ (.slice ay lb cy)).setCell ⟨w.heap.size + 1, 0, none⟩ (.bool na)).setCell ⟨w.heap.size + 1, 1, none⟩ (.slice ax la cx) = wm at *
  have H3 := HSW
  have S0 := Lib.hid (H3.out.below (Below.refl _ wm).drew).cells
  have HPR := Lib.hid (DF.out wm.drew (row_keeps HPY.out (Below.refl _ _).drew) (row_keeps HPX.out (Below.refl _ _).drew))
  have hsm := HBW.out.size
  clear p0 p1 p2 p3 q0 q1 q2 q3 DF HCM
  go_region_held3 (fun w' : World => w'.cell? ⟨w.heap.size, 0, none⟩ = some (.bool nb) ∧ w'.cell? ⟨w.heap.size, 1, none⟩ = some (.slice ay lb cy) ∧ w'.cell? ⟨w.heap.size + 1, 0, none⟩ = some (.bool na) ∧ w'.cell? ⟨w.heap.size + 1, 1, none⟩ = some (.slice ax la cx)) (first | exact S0.out | exact S3.out | exact S4.out | exact S5.out | exact cells4_set S5.out (by omega) (by omega)) (first
   | (go_at_call 49; refine HPR.out.mono ?_; rintro e w3 ⟨a3, m3, k3, rfl, hr3, hb3⟩; have HB3 : Hid (Below wm.heap.size wm w3) := Lib.hid ((Below.refl _ wm).drew.trans hb3); have S3 := Lib.hid (H3.out.below HB3.out).cells; have SG3 := Lib.hid (SG.out _ _ hr3); clear hr3 hb3)
   | (go_at_call 46; refine SG3.out.mono ?_; rintro e w4 ⟨b4, a4, m4, k4, rfl, hx4, hb4⟩; have HB4 := Lib.hid (below_then HB3.out hb4); have S4 := Lib.hid (H3.out.below HB4.out).cells; have IR4 := Lib.hid (inRange_any _ _ _ hx4); clear hx4 hb4)
   | (go_at_call 45; refine IR4.out.mono ?_; rintro e w5 hw5; obtain ⟨b5, a5, m5, k5, c5, rfl, hx5, hb5⟩ := rend_form hw5; have HB5 := Lib.hid (below_then HB4.out hb5); have S5 := Lib.hid (H3.out.below HB5.out).cells; have HX5 := Lib.hid hx5; obtain ⟨f0, f1, f2, f3⟩ := cells2 (H3.out.below HB5.out).r; clear hx5 hb5 hw5))
  all_goals
   have HB6 : Hid (Below w.heap.size w w5) := Lib.hid (HBW.out.trans (HB5.out.mono (by omega)))
   have HX6 := Lib.hid (rend_store HB6.out (by omega) (H3.out.below HB5.out).r HX5.out)
   go_wp2_with fail
   refine bodyPost_ret (v := .tuple #[.agg #[.bool b5, .slice a5 m5 k5], .int .i64 c5]) (by simp [results, Tryz.results14, go_sem, f0, f1]) rfl ?_
   exact HX6.out
 ·have HS2 := Lib.hid (HMO.out hne hcmp)
  have hc : ¬ cmpN a.natAbs b.natAbs < 0 := fun h => hcmp (cmpN_lt.1 h)
  have hnz : a.natAbs ≠ 0 := by have := HNE.out hne; omega
  have DF : Hid (∀ w3, Below w2.heap.size w2 w3 → Calls Tryz.prog 49 #[.slice ax la cx, .slice ay lb cy] w3 (WEnd (a.natAbs - b.natAbs) w3)) := Lib.hid (fun w3 h => difference_any _ _ a.natAbs b.natAbs w3 (row_keeps HRX.out h) (row_keeps HRY.out h) (by omega) (by omega) hnz)
  unfold WEnd at DF
  generalize cmpN a.natAbs b.natAbs = c at *
  have SG := Lib.hid (SGN.out _ _ _ HS2.out)
  clear HRX HRY hla hlb HS HLE HMO HNE SGN hne
  go_enter Tryz.func14, Tryz.ntmps14
  go_wp2_with fail
  rw [← hw2]
  refine HCM.out.mono ?_
  rintro e wm ⟨rfl, hbm⟩
  have H3 := Lib.hid (HBX.out.b3.below hbm)
  have S0 := Lib.hid (H3.out.below (Below.refl _ wm).drew).cells
  obtain ⟨p0, p1, p2, p3⟩ := H3.out.cells
  have HPR := Lib.hid (DF.out wm.drew hbm.drew)
  have HBW : Hid (Below w.heap.size w wm) := Lib.hid (HBX.out.below.trans (hbm.mono (by omega)))
  have hsm := hbm.size
  clear hw2 hbm DF HCM
  go_wp2_with fail
  go_region_held3 (fun w' : World => w'.cell? ⟨w.heap.size, 0, none⟩ = some (.bool na) ∧ w'.cell? ⟨w.heap.size, 1, none⟩ = some (.slice ax la cx) ∧ w'.cell? ⟨w.heap.size + 1, 0, none⟩ = some (.bool nb) ∧ w'.cell? ⟨w.heap.size + 1, 1, none⟩ = some (.slice ay lb cy)) (first | exact S0.out | exact S3.out | exact S4.out | exact S5.out | exact cells4_set S5.out (by omega) (by omega)) (first
   | (go_at_call 49; refine HPR.out.mono ?_; rintro e w3 ⟨a3, m3, k3, rfl, hr3, hb3⟩; have HB3 : Hid (Below wm.heap.size wm w3) := Lib.hid ((Below.refl _ wm).drew.trans hb3); have S3 := Lib.hid (H3.out.below HB3.out).cells; have SG3 := Lib.hid (SG.out _ _ hr3); clear hr3 hb3)
   | (go_at_call 46; refine SG3.out.mono ?_; rintro e w4 ⟨b4, a4, m4, k4, rfl, hx4, hb4⟩; have HB4 := Lib.hid (below_then HB3.out hb4); have S4 := Lib.hid (H3.out.below HB4.out).cells; have IR4 := Lib.hid (inRange_any _ _ _ hx4); clear hx4 hb4)
   | (go_at_call 45; refine IR4.out.mono ?_; rintro e w5 hw5; obtain ⟨b5, a5, m5, k5, c5, rfl, hx5, hb5⟩ := rend_form hw5; have HB5 := Lib.hid (below_then HB4.out hb5); have S5 := Lib.hid (H3.out.below HB5.out).cells; have HX5 := Lib.hid hx5; obtain ⟨f0, f1, f2, f3⟩ := cells2 (H3.out.below HB5.out).r; clear hx5 hb5 hw5))
  all_goals
   have HB6 : Hid (Below w.heap.size w w5) := Lib.hid (HBW.out.trans (HB5.out.mono (by omega)))
   have HX6 := Lib.hid (rend_store HB6.out (by omega) (H3.out.below HB5.out).r HX5.out)
   go_wp2_with fail
   refine bodyPost_ret (v := .tuple #[.agg #[.bool b5, .slice a5 m5 k5], .int .i64 c5]) (by simp [results, Tryz.results14, go_sem, f0, f1]) rfl ?_
   exact HX6.out
theorem cmpZ_sgn (na nb : Bool) (a b : Int) (ha : decide (a < 0) = na) (hb : decide (b < 0) = nb) : cmpZ a b = if na && nb then cmpN b.natAbs a.natAbs else if na then -1 else if nb then 1 else cmpN a.natAbs b.natAbs := by
 subst ha; subst hb
 unfold cmpZ cmpN
 rcases Classical.em (a < 0) with h1 | h1 <;> rcases Classical.em (b < 0) with h2 | h2 <;> simp [h1, h2] <;> (repeat' split) <;> omega
set_option maxHeartbeats 8000000 in
theorem wCompare_any (x y : Value) (a b : Int) (w : World) (hx : IAt w x a) (hy : IAt w y b) (ha : (digsW a.natAbs).length ≤ 400000) (hb : (digsW b.natAbs).length ≤ 400000) :
  Calls Tryz.prog 35 #[x, y] w (CmpEnd (cmpZ a b) w) := by
 obtain ⟨ax, cx, rfl, hrx⟩ := iat_form hx
 obtain ⟨ay, cy, rfl, hry⟩ := iat_form hy
 obtain ⟨na, hna⟩ : ∃ t, decide (a < 0) = t := ⟨_, rfl⟩
 obtain ⟨nb, hnb⟩ : ∃ t, decide (b < 0) = t := ⟨_, rfl⟩
 have HZ := Lib.hid (cmpZ_sgn na nb a b hna hnb)
 rw [hna, hnb]
 obtain ⟨w2, hw2⟩ : ∃ w2, w2 = (w.alloc (.cells #[.bool na, .slice ax (digsW a.natAbs).length cx] 32)).alloc (.cells #[.bool nb, .slice ay (digsW b.natAbs).length cy] 32) := ⟨_, rfl⟩
 have hbe : Below w.heap.size w w2 := by rw [hw2]; exact ((Below.refl _ w).alloc (Nat.le_refl _) _).alloc (by simp) _
 have HBE := Lib.hid hbe
 have C1 := compareWords_any _ _ a.natAbs b.natAbs w2 (row_keeps hrx hbe) (row_keeps hry hbe) (by omega) (by omega)
 have C2 := compareWords_any _ _ b.natAbs a.natAbs w2 (row_keeps hry hbe) (row_keeps hrx hbe) (by omega) (by omega)
 unfold CmpEnd at C1 C2
 have HC1 := Lib.hid C1
 have HC2 := Lib.hid C2
 clear hx hy hrx hry hna hnb hbe C1 C2 ha hb
 generalize (digsW a.natAbs).length = la at *
 generalize (digsW b.natAbs).length = lb at *
 cases na <;> cases nb
 all_goals
  go_enter Tryz.func35, Tryz.ntmps35
  go_wp2_with fail
 ·rw [← hw2]
  refine HC1.out.mono ?_
  rintro e w3 ⟨rfl, hb3⟩
  have HB3 := Lib.hid (below_then HBE.out hb3)
  clear hw2 hb3
  go_wp2_with fail
  go_ret
  exact ⟨by rw [HZ.out]; rfl, HB3.out⟩
 ·rw [← hw2]
  go_ret
  exact ⟨by rw [HZ.out]; rfl, HBE.out⟩
 ·rw [← hw2]
  go_ret
  exact ⟨by rw [HZ.out]; rfl, HBE.out⟩
 ·rw [← hw2]
  refine HC2.out.mono ?_
  rintro e w3 ⟨rfl, hb3⟩
  have HB3 := Lib.hid (below_then HBE.out hb3)
  clear hw2 hb3
  go_wp2_with fail
  go_ret
  exact ⟨by rw [HZ.out]; rfl, HB3.out⟩
theorem iat_zero (W : World) : IAt W (.agg #[.bool false, .slice none 0 0]) 0 := ⟨_, rfl, by rw [show (0 : Int).natAbs = 0 from rfl, digs_zeroW]; exact row_none _ _⟩
set_option maxHeartbeats 4000000 in
theorem wSign_any (x : Value) (a : Int) (w : World) (hx : IAt w x a) (ha : (digsW a.natAbs).length ≤ 400000) :
  Calls Tryz.prog 33 #[x] w (CmpEnd (cmpZ a 0) w) := by
 have hx0 := hx
 obtain ⟨ax, cx, rfl, hrx⟩ := iat_form hx
 have hb : Below w.heap.size w (w.alloc (.cells #[.bool (decide (a < 0)), .slice ax (digsW a.natAbs).length cx] 32)) := (Below.refl _ w).alloc (Nat.le_refl _) _
 have CM := wCompare_any _ _ a 0 _ (iat_keeps hx0 hb) (iat_zero _) ha (by rw [show (0 : Int).natAbs = 0 from rfl, digs_zeroW]; decide)
 unfold CmpEnd at CM
 have HCM := Lib.hid CM
 have HB := Lib.hid hb
 clear CM hb hx0 hx hrx
 generalize decide (a < 0) = na at *
 generalize (digsW a.natAbs).length = la at *
 go_enter Tryz.func33, Tryz.ntmps33
 go_wp2_with fail
 refine HCM.out.mono ?_
 rintro e w3 ⟨rfl, hb3⟩
 have HB3 := Lib.hid (below_then HB.out hb3)
 clear hb3
 go_wp2_with fail
 go_ret
 exact ⟨rfl, HB3.out⟩
set_option maxHeartbeats 4000000 in
theorem wFrom_any (n : Int) (w : World) (hn : -9223372036854775808 ≤ n ∧ n ≤ 9223372036854775807) :
  Calls Tryz.prog 62 #[.int .i64 n] w (IEnd n w) := by
 obtain ⟨m, hm⟩ : ∃ m, n.natAbs = m := ⟨_, rfl⟩
 have hlt : m < 18446744073709551616 := by omega
 have HL := Lib.hid (Laid.new w 32 [.bool false, .slice none 0 0])
 have HB := Lib.hid ((Below.refl _ w).alloc (Nat.le_refl _) (.cells #[.bool false, .slice none 0 0] 32))
 have WO : Hid (∀ w1, Calls Tryz.prog 93 #[.int .u64 (m : Int)] w1 (WEnd m w1)) := Lib.hid (fun w1 => wordsOf_wide m w1 hlt)
 unfold WEnd at WO
 have hsz : (w.alloc (.cells #[.bool false, .slice none 0 0] 32)).heap.size = w.heap.size + 1 := by simp
 have HSZ := Lib.hid hsz
 clear hsz
 have tail : ∀ (b : Bool), sgn b m = n → ∀ w3 v, Row .u32 w3 v (natI (digsW m)) → Calls Tryz.prog 46 #[.bool b, v] w3 (IEnd n w3) := fun b hb w3 v h => by
  have := signed_any b v m w3 h
  rwa [hb] at this
 have HT := Lib.hid tail
 clear tail
 unfold IEnd at HT
 by_cases h : n < 0
 ·have hw : IntKind.u64.wrap (-IntKind.u64.wrap n) = (m : Int) := by rw [IntKind.wrap_u64, IntKind.wrap_u64]; omega
  have HS := Lib.hid (HT.out true (by unfold sgn; simp; omega))
  clear hm HT
  go_enter Tryz.func62, Tryz.ntmps62
  go_wp2_with fail
  generalize w.alloc (.cells #[.bool false, .slice none 0 0] 32) = w1 at *
  refine (WO.out w1).mono ?_
  rintro e w2 ⟨a2, m2, k2, rfl, hr2, hb2⟩
  have HS2 := Lib.hid (HS.out w2 _ hr2)
  have HB2 := Lib.hid hb2
  clear hr2 hb2
  go_wp2_with fail
  refine HS2.out.mono ?_
  rintro e w3 ⟨b3, a3, m3, k3, rfl, hx3, hb3⟩
  have hb13 := below_then HB2.out hb3
  obtain ⟨f0, f1, f2, f3⟩ := cells2 (HL.out.below hb13)
  have HX := Lib.hid (iend_store (below_then HB.out hb13) (Nat.le_refl _) (HL.out.below hb13) hx3)
  clear hb13 hx3 hb3
  go_wp2_with fail
  refine bodyPost_ret (v := .agg #[.bool b3, .slice a3 m3 k3]) (by simp [results, Tryz.results62, go_sem, f0, f1]) rfl ?_
  exact HX.out
 ·obtain rfl : n = (m : Int) := by omega
  have HS := Lib.hid (HT.out false (by unfold sgn; simp))
  clear hm HT
  go_enter Tryz.func62, Tryz.ntmps62
  go_wp2_with fail
  generalize w.alloc (.cells #[.bool false, .slice none 0 0] 32) = w1 at *
  refine (WO.out w1).mono ?_
  rintro e w2 ⟨a2, m2, k2, rfl, hr2, hb2⟩
  have HS2 := Lib.hid (HS.out w2 _ hr2)
  have HB2 := Lib.hid hb2
  clear hr2 hb2
  go_wp2_with fail
  refine HS2.out.mono ?_
  rintro e w3 ⟨b3, a3, m3, k3, rfl, hx3, hb3⟩
  have hb13 := below_then HB2.out hb3
  obtain ⟨f0, f1, f2, f3⟩ := cells2 (HL.out.below hb13)
  have HX := Lib.hid (iend_store (below_then HB.out hb13) (Nat.le_refl _) (HL.out.below hb13) hx3)
  clear hb13 hx3 hb3
  go_wp2_with fail
  refine bodyPost_ret (v := .agg #[.bool b3, .slice a3 m3 k3]) (by simp [results, Tryz.results62, go_sem, f0, f1]) rfl ?_
  exact HX.out
end Go.Proofs.YtepakogbbomaoaaGreatDoor
