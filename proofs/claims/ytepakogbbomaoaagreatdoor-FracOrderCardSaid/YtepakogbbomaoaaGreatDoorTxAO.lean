/-
 Texts: the decimal text of an integer; bytes.TrimRight at "0" and slices.Reverse, on a row of the call's own.
 bytes.TrimRight at "0" and slices.Reverse, on a row of the call's own.
 Package wide: String.
 The reference: Decimal, Text.
 The reference of package wide: Text.
-/
import Derived.Test.YtepakogbbomaoaaGreatDoorBgAO
import Derived.Test.YtepakogbbomaoaaGreatDoorPlaO
import Derived.Test.YtepakogbbomaoaaGreatDoorBgIO
import Derived.Test.YtepakogbbomaoaaGreatDoorNmBO
import Derived.Test.YtepakogbbomaoaaGreatDoorNmHO
namespace Go.Proofs.YtepakogbbomaoaaGreatDoor
open Go.RowKit Go.Shelf
set_option linter.unusedVariables false
set_option maxRecDepth 100000
def decN (m : Nat) : List Nat := if m = 0 then [48] else (digsT m).reverse.map (· + 48)
def txtN (n : Int) : List Nat := if n < 0 then 45 :: decN n.natAbs else decN n.natAbs
noncomputable def txtS (n : Int) : ByteArray := strOfNums (natI (txtN n))
theorem decN_lt (m : Nat) : ∀ c ∈ decN m, c < 256 := by
 unfold decN
 intro c hc
 split at hc
 ·simp at hc; omega
 ·obtain ⟨d, hd, rfl⟩ := List.mem_map.1 hc
  have := digs_ltT m d (List.mem_reverse.1 hd)
  omega
theorem txtN_lt (n : Int) : ∀ c ∈ txtN n, c < 256 := by
 unfold txtN
 intro c hc
 split at hc
 ·rcases List.mem_cons.1 hc with h | h
  ·omega
  ·exact decN_lt _ c h
 ·exact decN_lt _ c hc
theorem row_grown {k : IntKind} {w w' : World} {v : Value} {zs : List Int} {row : Option Nat} (h : Row k w v zs) (hg : w.grownBy w' row) (hn : zs ≠ [] → ∀ j, blockOf v j → row ≠ some j) : Row k w' v zs := by
 obtain ⟨p, cap, rfl, h2, h3, h4, h5⟩ := h
 refine ⟨p, cap, rfl, h2, h3, fun hne => ?_, h5⟩
 obtain ⟨g, off, rfl, hc⟩ := h4 hne
 refine ⟨g, off, rfl, fun j hj => ?_⟩
 have hlt : g < w.heap.size := World.block_lt_of_cell? _ _ (hc 0 (List.length_pos_iff.2 hne))
 exact (World.cell?_of_block (hg.block g hlt (fun e => hn hne g rfl e.symm))).trans (hc j hj)
theorem fresh_cut {B : Nat} {e : TypeId} {k : IntKind} {w : World} {g n cap m : Nat} {zs : List Int} (h : Fresh B e k w (.slice (some ⟨g, 0, none⟩) n cap) zs) (hn : n = zs.length) (hm : m ≤ n) : Fresh B e k w (.slice (some ⟨g, 0, none⟩) m cap) (zs.take m) := by
 have hl : (zs.take m).length = m := by rw [List.length_take]; omega
 rcases h.2 with ⟨h0, _⟩ | ⟨g', cap', cur, e1, hb, hg, hnc, hcm, hcs, ht⟩
 ·injection h0 with h0; cases h0
 ·injection e1 with e1 e2 e3
  subst e3
  injection e1 with e1
  have e4 : g = g' := by injection e1
  subst e4
  unfold Fresh
  rw [hl]
  refine ⟨by rw [List.length_map, List.length_take]; omega, .inr ⟨g, cap, cur, rfl, hb, hg, by omega, hcm, hcs, ?_⟩⟩
  have ht2 : cur.toList.take (zs.length * 1) = zs.map (Value.int k) := ht
  rw [Nat.mul_one] at ht2 ⊢
  rw [List.map_take, ← ht2, List.take_take, Nat.min_eq_left (by omega)]
set_option maxHeartbeats 2000000 in
theorem trimRightByte_any (g cap : Nat) (l : List Nat) (w : World) (hv : ∀ j, j < l.length → w.cell? ⟨g, j, none⟩ = some (.int .u8 (atDT l j : Int))) (hc : l.length ≤ cap) (hcm : cap ≤ 9223372036854775807) :
  Calls Tryz.prog 114 #[.slice (some ⟨g, 0, none⟩) l.length cap, .int .u8 48] w fun e w' => ∃ m, e = .returned (.slice (some ⟨g, 0, none⟩) m cap) ∧ m ≤ l.length ∧ (∀ j, m ≤ j → j < l.length → atDT l j = 48) ∧ (0 < m → atDT l (m - 1) ≠ 48) ∧ w = w' := by
 have HV := Lib.hid hv
 clear hv
 go_enter Tryz.func114, Tryz.ntmps114
 go_wp2_with fail
 go_loopw [0] (fun sv wr => ∃ m : Nat, m ≤ l.length ∧ sv = .slice (some ⟨g, 0, none⟩) m cap ∧ Hid (∀ j, m ≤ j → j < l.length → atDT l j = 48) ∧ w = wr) (fun sv _ => lenOfV sv)
 case atStart => exact ⟨l.length, Nat.le_refl _, rfl, Lib.hid (fun j h1 h2 => by omega), rfl⟩
 case round =>
  obtain ⟨m, hm, rfl, HM, rfl⟩ := hrel
  rcases Nat.eq_zero_or_pos m with hm0 | hm0
  ·subst hm0
   go_wp2_with fail
   go_ret
   exact ⟨0, rfl, Nat.zero_le _, HM.out, fun h => absurd h (by decide), rfl⟩
  ·obtain ⟨k, rfl⟩ : ∃ k, m = k + 1 := ⟨m - 1, by omega⟩
   have hck := HV.out k (by omega)
   have hk0 : (0 : Int) ≤ (k : Int) := by omega
   have hc0 : ¬ cap = 0 := by omega
   have hkc : (k : Int) ≤ (cap : Int) := by omega
   have HK : Hid (atDT l k = 48 → ∀ j, k ≤ j → j < l.length → atDT l j = 48) := Lib.hid (fun h j h1 h2 => by
    rcases Nat.lt_or_ge k j with h3 | h3
    ·exact HM.out j h3 h2
    ·rw [show j = k by omega]; exact h)
   by_cases hz : atDT l k = 48
   ·have HK2 := Lib.hid (HK.out hz)
    rw [hz] at hck
    clear hz HK
    go_wp2_with fail
    go_roundw
    case rel => exact ⟨k, by omega, by go_num, HK2, trivial⟩
    case measure => simp [lenOfV]
   ·have HZ := Lib.hid hz
    have b1 : (((atDT l k : Nat) : Int) == 48) = false := by rw [beq_eq_false_iff_ne]; omega
    have HKE : Hid (atDT l (k + 1 - 1) = atDT l k) := Lib.hid rfl
    generalize hx : atDT l k = x at *
    have HX := Lib.hid hx
    clear hz hx HK
    go_wp2_with fail
    go_ret
    exact ⟨k + 1, rfl, hm, HM.out, fun _ => by rw [Nat.add_sub_cancel, HX.out]; exact HZ.out, rfl⟩
set_option maxHeartbeats 2000000 in
theorem trimRight_any (g cap : Nat) (l : List Nat) (w : World) (hv : ∀ j, j < l.length → w.cell? ⟨g, j, none⟩ = some (.int .u8 (atDT l j : Int))) (hl : 0 < l.length) (hc : l.length ≤ cap) (hcm : cap ≤ 9223372036854775807) :
  Calls Tryz.prog 86 #[.slice (some ⟨g, 0, none⟩) l.length cap, .string { data := #[48] }] w fun e w' => ∃ m, e = .returned (.slice (some ⟨g, 0, none⟩) m cap) ∧ m ≤ l.length ∧ (∀ j, m ≤ j → j < l.length → atDT l j = 48) ∧ (0 < m → atDT l (m - 1) ≠ 48) ∧ w = w' := by
 have TR := Lib.hid (trimRightByte_any g cap l w hv hc hcm)
 have h0 : ((l.length : Int) == 0) = false := by rw [beq_eq_false_iff_ne]; omega
 clear hv
 go_enter Tryz.func86, Tryz.ntmps86
 go_wp2_with fail
 refine TR.out.mono ?_
 rintro e w' ⟨m, rfl, h1, h2, h3, rfl⟩
 have H2 := Lib.hid h2
 have H3 := Lib.hid h3
 clear h2 h3
 go_wp2_with fail
 go_ret
 exact ⟨m, rfl, h1, H2.out, H3.out, rfl⟩
theorem rev_step {l out : List Int} {i j : Nat} (hl : out.length = l.length) (hj : i + j + 1 = l.length) (hij : i < j) (h : ∀ k, k < l.length → out[k]? = if k < i ∨ j < k then l.reverse[k]? else l[k]?) :
  ∀ k, k < l.length → ((out.set i (out[j]?.getD 0)).set j (out[i]?.getD 0))[k]? = if k < i + 1 ∨ j - 1 < k then l.reverse[k]? else l[k]? := by
 have hi' : out[i]? = l[i]? := by rw [h i (by omega), if_neg (by omega)]
 have hj' : out[j]? = l[j]? := by rw [h j (by omega), if_neg (by omega)]
 intro k hk
 rw [hi', hj', List.getElem?_set, List.getElem?_set, List.length_set]
 have li : l[i]? = some (l[i]'(by omega)) := List.getElem?_eq_getElem (by omega)
 have lj : l[j]? = some (l[j]'(by omega)) := List.getElem?_eq_getElem (by omega)
 by_cases h1 : j = k
 ·subst h1
  rw [if_pos rfl, if_pos (by omega), if_pos (by omega), List.getElem?_reverse (by omega), show l.length - 1 - j = i by omega, li]; rfl
 ·rw [if_neg h1]
  by_cases h2 : i = k
  ·subst h2
   rw [if_pos rfl, if_pos (by omega), if_pos (by omega), List.getElem?_reverse (by omega), show l.length - 1 - i = j by omega, lj]; rfl
  ·rw [if_neg h2, h k hk]
   by_cases h3 : k < i ∨ j < k
   ·rw [if_pos h3, if_pos (by omega)]
   ·rw [if_neg h3, if_neg (by omega)]
set_option maxHeartbeats 4000000 in
theorem reverse_any (B g cap : Nat) (l : List Int) (w : World) (hf : Fresh B 5 .u8 w (.slice (some ⟨g, 0, none⟩) l.length cap) l) (hB : B ≤ g) (hB2 : B ≤ w.heap.size) (hc : l.length ≤ cap) (hcm : cap ≤ 9223372036854775807) (hlm : l.length ≤ 1000000000) :
  Calls Tryz.prog 87 #[.slice (some ⟨g, 0, none⟩) l.length cap] w fun e w' => (∃ v, e = .returned v) ∧ Fresh B 5 .u8 w' (.slice (some ⟨g, 0, none⟩) l.length cap) l.reverse ∧ Below B w w' := by
 have HF := Lib.hid hf
 clear hf
 go_enter Tryz.func87, Tryz.ntmps87
 go_wp2_with fail
 go_loopw [2, 3] (fun iv jv wr => ∃ (i j : Nat) (out : List Int), iv = .int .i64 (i : Int) ∧ jv = .int .i64 ((j : Int) - 1) ∧ i + j = l.length ∧ i ≤ j + 1 ∧ Hid (out.length = l.length) ∧ Hid (∀ k, k < l.length → out[k]? = if k < i ∨ j - 1 < k ∧ 0 < i then l.reverse[k]? else l[k]?) ∧ Hid (Fresh B 5 .u8 wr (.slice (some ⟨g, 0, none⟩) l.length cap) out) ∧ Hid (Below B w wr)) (fun iv _ _ => ((l.length : Int) - intOf iv).toNat)
 case atStart => exact ⟨0, l.length, l, rfl, rfl, by omega, by omega, Lib.hid rfl, Lib.hid (fun k hk => by rw [if_neg (by omega)]), HF, Lib.hid (Below.refl _ _)⟩
 case round =>
  obtain ⟨i, j, out, rfl, rfl, hij, hle, HOL, HR, HF2, HB⟩ := hrel
  clear HF
  by_cases hlt : (i : Int) < (j : Int) - 1
  ·obtain ⟨k, rfl⟩ : ∃ k, j = k + 1 := ⟨j - 1, by omega⟩
   rw [show ((k + 1 : Nat) : Int) - 1 = (k : Int) by omega] at hlt ⊢
   have hR2 : ∀ q, q < l.length → out[q]? = if q < i ∨ k < q then l.reverse[q]? else l[q]? := fun q hq => by
    rw [HR.out q hq, Nat.add_sub_cancel]
    by_cases h1 : q < i ∨ k < q
    ·rw [if_pos (by omega), if_pos h1]
    ·rw [if_neg (by omega), if_neg h1]
   have HST := Lib.hid (rev_step HOL.out (by omega) (by omega) hR2)
   have hol := HOL.out
   have f1 := fresh_cell HF2.out (j := i) (by omega)
   have f2 := fresh_cell HF2.out (j := k) (by omega)
   have f3 := fresh_frozen2 HF2.out hol.symm i
   have f4 := fresh_frozen2 HF2.out hol.symm k
   generalize out[i]?.getD 0 = oi at *
   generalize out[k]?.getD 0 = ok at *
   have s1 := fresh_store2 HF2.out hol.symm i ok
   have s2 := fresh_store2 s1.1 (by rw [List.length_set]; exact hol.symm) k oi
   have HS2 := Lib.hid s2.1
   have HB2 := Lib.hid ((HB.out.setCell (p := ⟨g, i, none⟩) hB (.int .u8 ok)).setCell (p := ⟨g, k, none⟩) hB (.int .u8 oi))
   have g1 : wr.drew.cell? ⟨g, i, none⟩ = some (.int .u8 oi) := f1
   have g2 : wr.drew.cell? ⟨g, k, none⟩ = some (.int .u8 ok) := f2
   have g3 : wr.drew.frozen? ⟨g, i, none⟩ = false := f3
   have g4 : wr.drew.frozen? ⟨g, k, none⟩ = false := f4
   have h0 : (0 : Int) ≤ (i : Int) := by omega
   have h1 : (0 : Int) ≤ (k : Int) := by omega
   have h2 : (i : Int) < (l.length : Int) := by omega
   have h3 : (k : Int) < (l.length : Int) := by omega
   clear s1 s2 hR2 hol
   go_wp2_with fail
   go_region
   all_goals
    go_wp2_with fail
    go_roundw
    case rel => exact ⟨i + 1, k, (out.set i ok).set k oi, by go_num, rfl, by omega, by omega, Lib.hid (by rw [List.length_set, List.length_set]; exact HOL.out), Lib.hid (fun q hq => by
      rw [HST.out q hq]
      by_cases h1 : q < i + 1 ∨ k - 1 < q
      ·rw [if_pos h1, if_pos (by omega)]
      ·rw [if_neg h1, if_neg (by omega)]), Lib.hid (fresh_keeps HS2.out (Below.refl _ _).drew), Lib.hid HB2.out.drew⟩
    case measure => simp [intOf] <;> omega
  ·have HEND : Hid (out = l.reverse) := Lib.hid (by
    refine List.ext_getElem? (fun q => ?_)
    rcases Nat.lt_or_ge q l.length with hq | hq
    ·rw [HR.out q hq]
     by_cases h1 : q < i ∨ j - 1 < q ∧ 0 < i
     ·rw [if_pos h1]
     ·rw [if_neg h1, List.getElem?_reverse (by omega)]
      congr 1
      omega
    ·rw [List.getElem?_eq_none (by have := HOL.out; omega), List.getElem?_eq_none (by simp; omega)])
   go_wp2_with fail
   go_end0
   exact ⟨⟨_, rfl⟩, by rw [← HEND.out]; exact HF2.out, HB.out⟩
theorem txt_step {D E : List Nat} {n m : Nat} (h : n = valDT D + 10 ^ D.length * m) (hE : E.length = 9) (hg : valDT E = m % 1000000000) : n = valDT (D ++ E) + 10 ^ (D ++ E).length * (m / 1000000000) := by
 rw [valD_appendT, List.length_append, hE, Nat.pow_add, hg, h, Nat.mul_assoc, Nat.add_assoc, ← Nat.mul_add]
 congr 2
 omega
theorem grp_step {E : List Nat} {j gr g : Nat} (hE : E.length = j) (h : valDT E + 10 ^ j * gr = g) : valDT (E ++ [gr % 10]) + 10 ^ (j + 1) * (gr / 10) = g := by
 rw [valD_snocT, hE, Nat.pow_succ, Nat.mul_assoc, Nat.add_assoc, ← Nat.mul_add, ← h]
 congr 2
 omega
theorem len_ten {a n L : Nat} (h : 10 ^ a ≤ n) (hn : n < 4294967296 ^ L) : a ≤ 10 * L := by
 rcases Nat.lt_or_ge (10 * L) a with h1 | h1
 ·exfalso
  have h2 : (10 : Nat) ^ (10 * L) ≤ 10 ^ a := Nat.pow_le_pow_right (by decide) (Nat.le_of_lt h1)
  have h3 : 4294967296 ^ L ≤ (10 ^ 10) ^ L := Nat.pow_le_pow_left (by decide) L
  rw [← Nat.pow_mul] at h3
  omega
 ·exact h1
theorem trim_digs {D : List Nat} {n m : Nat} (hn : n = valDT D) (hd : ∀ c ∈ D, c < 10) (hm : m ≤ D.length) (hz : ∀ j, m ≤ j → j < D.length → atDT D j = 0) (hl : 0 < m → atDT D (m - 1) ≠ 0) : D.take m = digsT n := by
 have h1 : valDT (D.take m) = n := by
  rw [hn]
  have e : D.drop m = List.replicate (D.length - m) 0 := by
   refine List.ext_getElem (by simp) (fun j h2 h3 => ?_)
   have := hz (m + j) (by omega) (by simp at h2; omega)
   unfold atDT at this
   rw [List.getElem?_eq_getElem (by simp at h2; omega)] at this
   rw [List.getElem_drop, List.getElem_replicate]
   exact this
  conv => rhs; rw [← List.take_append_drop m D]
  rw [valD_appendT, e, valD_zerosT]; simp
 rw [← h1]
 refine (digs_ofT (fun c hc => hd c (List.mem_of_mem_take hc)) (fun hne => ?_)).symm
 have hm0 : 0 < m := by
  rcases Nat.eq_zero_or_pos m with h | h
  ·exact absurd (by rw [h, List.take_zero]) hne
  ·exact h
 have := hl hm0
 unfold atDT at this
 rw [List.getElem?_eq_getElem (by omega)] at this
 rw [List.getLast_eq_getElem, List.getElem_take]
 have hl3 : min m D.length - 1 = m - 1 := by omega
 simpa [hl3] using this
theorem atDT_map {D : List Nat} {j : Nat} (h : j < D.length) : atDT (D.map (· + 48)) j = atDT D j + 48 := by
 unfold atDT; simp [h]
theorem pow_ten (L : Nat) : 4294967296 ^ L ≤ 10 ^ (10 * L) := by
 rw [Nat.pow_mul]
 exact Nat.pow_le_pow_left (by decide) L
theorem natI_rev (l : List Nat) : (natI l).reverse = natI l.reverse := by simp [natI]
theorem txt_pos {n : Int} {N : Nat} (hN : n.natAbs = N) (h0 : N ≠ 0) (hneg : decide (n < 0) = false) : strOfNums (natI ((digsT N).map (· + 48))).reverse = txtS n := by
 unfold txtS txtN decN
 have h1 : ¬ n < 0 := by simpa using hneg
 rw [if_neg h1, hN, if_neg h0, natI_rev, List.map_reverse]
theorem txt_neg {n : Int} {N : Nat} (hN : n.natAbs = N) (h0 : N ≠ 0) (hneg : decide (n < 0) = true) : strOfNums (45 :: (natI ((digsT N).map (· + 48))).reverse) = txtS n := by
 unfold txtS txtN decN
 have h1 : n < 0 := by simpa using hneg
 rw [if_pos h1, hN, if_neg h0, natI_rev, List.map_reverse]
 rfl
def TxtEnd (n : Int) (w : World) (e : Ending) (w' : World) : Prop := e = .returned (.string (txtS n)) ∧ Below w.heap.size w w'
theorem txt_zero : txtS 0 = { data := #[48] } := by
 unfold txtS txtN decN
 rfl
set_option maxHeartbeats 16000000 in
theorem wString_any (x : Value) (n : Int) (w : World) (hx : IAt w x n) (hl : (digsW n.natAbs).length ≤ 400000) :
  Calls Tryz.prog 58 #[x] w (TxtEnd n w) := by
 obtain ⟨i0, hi, hz0, hz1, hz2⟩ := info_parts info_u8
 obtain ⟨ax, cx, rfl, hrx⟩ := iat_form hx
 obtain ⟨na, hna⟩ : ∃ t, decide (n < 0) = t := ⟨_, rfl⟩
 rw [hna]
 have hb : Below w.heap.size w (w.alloc (.cells #[.bool na, .slice ax (digsW n.natAbs).length cx] 32)) := (Below.refl _ w).alloc (Nat.le_refl _) _
 have HB0 := Lib.hid hb
 by_cases h0 : n = 0
 ·subst h0
  have e1 : digsW (0 : Int).natAbs = [] := digs_zeroW
  rw [e1] at HB0 ⊢
  clear hx hrx hb e1
  go_enter Tryz.func58, Tryz.ntmps58
  go_wp2_with fail
  go_ret
  exact ⟨by rw [txt_zero]; rfl, HB0.out⟩
 ·have hrow1 := Lib.hid (row_keeps hrx hb)
  have HX := Lib.hid (Laid.new w 32 [.bool na, .slice ax (digsW n.natAbs).length cx])
  have hpos := digs_len_posW (show n.natAbs ≠ 0 by omega)
  have HLL := Lib.hid (digs_len_ltW n.natAbs)
  have hN0 : n.natAbs ≠ 0 := by omega
  have HNA := Lib.hid hna
  have H0 := Lib.hid h0
  clear hx hrx hb hna h0
  generalize hN : n.natAbs = N at *
  have HN := Lib.hid hN
  clear hN
  generalize hL : (digsW N).length = L at *
  have hp0 : ((L : Int) == 0) = false := by rw [beq_eq_false_iff_ne]; omega
  have hs1 : (w.alloc (.cells #[.bool na, .slice ax L cx] 32)).heap.size = w.heap.size + 1 := by simp
  replace HX : Hid (Laid (w.alloc (.cells #[.bool na, .slice ax L cx] 32)) w.heap.size 32 [.bool na, .slice ax L cx]) := HX
  obtain ⟨c0, c1, _, _⟩ := cells2 HX.out
  go_enter Tryz.func58, Tryz.ntmps58
  go_wp2_with fail
  generalize w.alloc (.cells #[.bool na, .slice ax L cx] 32) = w1 at *
  have HF0 : Hid (Fresh (w.heap.size + 1) 5 .u8 (w1.alloc (.cells #[] 5)) (.slice (some ⟨w.heap.size + 1, 0, none⟩) 0 0) (natI (([] : List Nat).map (· + 48)))) := Lib.hid (by
   have := fresh_lit w1 (w.heap.size + 1) 5 .u8 [] (by omega) (by simp)
   rwa [hs1] at this)
  have HB1 : Hid (Below (w.heap.size + 1) w1 (w1.alloc (.cells #[] 5))) := Lib.hid ((Below.refl _ _).alloc (by omega) _)
  have HR1 := Lib.hid (row_keeps hrow1.out ((Below.refl _ w1).alloc (Nat.le_refl _) (.cells #[] 5)))
  have HBX : Hid (∀ w3, Below (w.heap.size + 1) w1 w3 → w3.cell? ⟨w.heap.size, 0, none⟩ = some (.bool na)) := Lib.hid (fun w3 h => (h.cell (p := ⟨w.heap.size, 0, none⟩) (Nat.lt_succ_self _)).trans c0)
  have HW1 : Hid (∀ w3, Below (w.heap.size + 1) w1 w3 → Below w.heap.size w w3) := Lib.hid (fun w3 h => HB0.out.trans (h.mono (Nat.le_succ _)))
  have HR1B : Hid (∀ j, blockOf (.slice ax L cx) j → (digsW N) ≠ [] → j < w1.heap.size) := Lib.hid (fun j hj hne => row_block hrow1.out (natI_ne hne) j hj)
  clear c0 c1 HX hrow1 HB0
  generalize hw2 : w1.alloc (.cells #[] 5) = w2 at *
  generalize hBz : w.heap.size + 1 = Bz at *
  go_loopw [3, 4, 5, 6, 22] (fun tv lv _ _ _ wr => ∃ (m : Nat) (D : List Nat) (ta la : Option Addr) (tn tc lc : Nat), tv = .slice ta tn tc ∧ lv = .slice la (digsW m).length lc ∧ Hid (Row .u32 wr (.slice la (digsW m).length lc) (natI (digsW m))) ∧ Hid (N = valDT D + 10 ^ D.length * m) ∧ Hid (∀ c ∈ D, c < 10) ∧ Hid (Fresh Bz 5 .u8 wr (.slice ta tn tc) (natI (D.map (· + 48)))) ∧ Hid (digsW m ≠ [] → ∀ j, blockOf (.slice la (digsW m).length lc) j → Value.ownBlock (.slice ta tn tc) ≠ some j) ∧ Hid (Below Bz w1 wr) ∧ tn = D.length) (fun tv _ _ _ _ _ => 10 * L + 20 - lenOfV tv)
  case atStart => exact ⟨N, [], some ⟨Bz, 0, none⟩, ax, 0, 0, cx, rfl, by rw [hL], by rw [hL]; exact HR1, Lib.hid (by simp [valDT]), Lib.hid (by simp), HF0, Lib.hid (by
    intro hne j hj e
    have h1 := HR1B.out j (by rw [hL] at hj; exact hj) hne
    have h2 : Bz = j := by simpa [Value.ownBlock] using e
    omega), HB1, rfl⟩
  case round =>
   obtain ⟨m, D, ta, la, tn, tc, lc, rfl, rfl, HROW, HN2, HD, HF, HNB, HBW, rfl⟩ := hrel
   clear HF0 HB1 HR1 HR1B
   by_cases hm : m = 0
   ·subst hm
    have hND : N = valDT D := by have := HN2.out; rw [Nat.mul_zero, Nat.add_zero] at this; exact this
    have hDne : D ≠ [] := fun e => hN0 (by rw [hND, e]; rfl)
    have hDp : 0 < (D.map (· + 48)).length := by rw [List.length_map]; exact List.length_pos_iff.2 hDne
    obtain ⟨tg, tcap, e, hg1, hg2, hg3⟩ := fresh_some HF.out (natI_ne (by simpa using hDne))
    rw [natI_length] at e hg3
    have hg3' : D.length ≤ tcap := by rw [List.length_map] at hg3; exact hg3
    injection e with e1 e2 e3
    subst e1 e3
    clear e2
    have hcells : ∀ j, j < (D.map (· + 48)).length → wr.cell? ⟨tg, j, none⟩ = some (.int .u8 (atDT (D.map (· + 48)) j : Int)) := fun j hj => by
     have := fresh_cell HF.out (j := j) (by rw [natI_length]; exact hj)
     rw [natI_getD] at this
     exact this
    have hcapm : tc ≤ 9223372036854775807 := by
     obtain ⟨p, c, e, _, h3, _⟩ := row_of_fresh HF.out
     injection e with _ _ e3
     omega
    have TRM := trimRight_any tg tc (D.map (· + 48)) wr hcells hDp hg3 hcapm
    rw [List.length_map] at TRM
    have HTRM := Lib.hid TRM
    have HND := Lib.hid hND
    have HDNE := Lib.hid hDne
    have z1 : digsW 0 = [] := digs_zeroW
    rw [z1]
    clear TRM hcells hND HROW HNB hDne hDp
    go_wp2_with fail
    refine HTRM.out.mono ?_
    rintro e w5 ⟨m2, rfl, h1, h2, h3, rfl⟩
    have HTD : Hid (D.take m2 = digsT N) := Lib.hid (trim_digs HND.out HD.out h1 (fun j hj1 hj2 => by
      have := h2 j hj1 hj2
      rw [atDT_map hj2] at this; omega) (fun h => by
      have := h3 h
      rw [atDT_map (by omega)] at this; omega))
    have HFC : Hid (Fresh Bz 5 .u8 wr (.slice (some ⟨tg, 0, none⟩) m2 tc) (natI ((digsT N).map (· + 48)))) := Lib.hid (by
     have := fresh_cut HF.out (by rw [natI_length, List.length_map]) h1
     rw [← natI_take, ← List.map_take, HTD.out] at this
     exact this)
    have hm2 : m2 = (natI ((digsT N).map (· + 48))).length := by rw [natI_length, List.length_map, ← HTD.out, List.length_take]; omega
    have c0 := HBX.out wr HBW.out
    have hBs := HBW.out.size
    have hTL : (natI ((digsT N).map (· + 48))).length ≤ 10 * L := by rw [natI_length, List.length_map]; exact digs_len_leT (Nat.lt_of_lt_of_le HLL.out (pow_ten L))
    clear h2 h3 HTRM HF
    cases na
    ·have RV := reverse_any Bz tg tc (natI ((digsT N).map (· + 48))) wr (by rw [← hm2]; exact HFC.out) hg1 (by omega) (by omega) hcapm (by rw [← hm2]; omega)
     rw [← hm2] at RV
     have HRV := Lib.hid RV
     have HM2 := Lib.hid hm2
     clear RV hm2
     go_wp2_with fail
     refine HRV.out.mono ?_
     rintro e w6 ⟨⟨v6, rfl⟩, hf6, hb6⟩
     have hcv := conv_string (row_of_fresh hf6)
     have HB6 := Lib.hid (HW1.out _ (HBW.out.trans hb6))
     clear hf6 hb6
     go_wp2_with fail
     go_ret
     exact ⟨by rw [← txt_pos HN.out hN0 HNA.out]; rfl, HB6.out⟩
    ·have hF2 := fresh_keeps HFC.out ((Below.refl _ wr).alloc (Nat.le_refl _) (.cells #[.int .u8 45] 5))
     have HF2 := Lib.hid hF2
     have HSRC := Lib.hid (lit_src (W := wr.alloc (.cells #[.int .u8 45] 5)) (H := wr.heap.size) (x := 45) (World.alloc_heap_new wr _))
     have hlen : (natI ((digsT N).map (· + 48))).length + [(45 : Int)].length ≤ 1000000000 := by simp only [List.length_singleton]; omega
     have hsz2 : Bz ≤ (wr.alloc (.cells #[.int .u8 45] 5)).heap.size := by simp; omega
     have HBA : Hid (Below Bz w1 (wr.alloc (.cells #[.int .u8 45] 5))) := Lib.hid (HBW.out.alloc (by omega) _)
     have HM2 := Lib.hid hm2
     clear hF2 hm2
     go_wp2_with (at_builtin; go_must (refine wpList_append_buf rfl _ _ 50 rfl Bz _ _ rfl HF2.out _ [45] rfl HSRC.out hlen hsz2 ?_); intro tb tm tk w6 htm hfr hgrow hwhere; have HFN := Lib.hid hfr; have HGR := Lib.hid hgrow; have HTM := Lib.hid htm; clear hfr hgrow hwhere htm)
     have HB6 := Lib.hid (below_grown HBA.out HF2.out HGR.out hsz2)
     obtain ⟨tg2, tcap2, e, hh1, hh2, hh3⟩ := fresh_some HFN.out (by simp)
     injection e with e1 e2 e3
     subst e1 e3
     have hcapm2 : tk ≤ 9223372036854775807 := by
      obtain ⟨p, c, e, _, h3, _⟩ := row_of_fresh HFN.out
      injection e with _ _ e3
      omega
     have hBs6 := HB6.out.size
     have RV := reverse_any Bz tg2 tk (natI ((digsT N).map (· + 48)) ++ [45]) w6 (by rw [← e2]; exact HFN.out) hh1 (by omega) hh3 hcapm2 (by rw [List.length_append]; simp only [List.length_singleton]; omega)
     rw [← e2] at RV
     have HRV := Lib.hid RV
     clear RV e2
     go_wp2_with fail
     refine HRV.out.mono ?_
     rintro e w7 ⟨⟨v7, rfl⟩, hf7, hb7⟩
     have hcv := conv_string (row_of_fresh hf7)
     have HB7 := Lib.hid (HW1.out _ (HB6.out.trans hb7))
     clear hf7 hb7
     go_wp2_with fail
     go_ret
     exact ⟨by rw [← txt_neg HN.out hN0 HNA.out]; rfl, HB7.out⟩
   ·have hmp := digs_len_posW hm
    have hml : (digsW m).length ≤ L := by
     refine digs_len_leW ?_
     have h1 := HN2.out
     have h2 : m ≤ 10 ^ D.length * m := Nat.le_mul_of_pos_left m (Nat.pow_pos (by decide))
     have := HLL.out
     omega
    have hDl : D.length ≤ 10 * L := by
     refine len_ten (n := N) ?_ HLL.out
     have h1 := HN2.out
     have h2 : 10 ^ D.length * 1 ≤ 10 ^ D.length * m := Nat.mul_le_mul_left _ (by omega)
     omega
    have DW := divideByWord_any _ m 1000000000 wr HROW.out (by omega) (by decide) (by decide)
    unfold DivWEnd at DW
    have HDW := Lib.hid DW
    rw [show ((1000000000 : Nat) : Int) = 1000000000 from rfl] at HDW
    clear DW
    go_wp2_with fail
    refine HDW.out.mono ?_
    rintro e w5 ⟨qa, qm, qk, rfl, hrq, hb5, hq5⟩
    have hqm : qm = (digsW (m / 1000000000)).length := by obtain ⟨p, c, e, _, _⟩ := row_formW hrq; injection e
    subst hqm
    have HF5 := Lib.hid (fresh_keeps HF.out hb5)
    have HBW5 : Hid (Below Bz w1 w5) := Lib.hid (HBW.out.trans (hb5.mono (by have := HBW.out.size; omega)))
    have HNB5 : Hid (∀ j, blockOf (.slice qa (digsW (m / 1000000000)).length qk) j → Value.ownBlock (.slice ta D.length tc) ≠ some j) := Lib.hid (fun j hj e => by
     have h1 := hq5 j hj
     have h2 := (HF.out.lt j e).2
     omega)
    have HRQ := Lib.hid hrq
    obtain ⟨g, hg⟩ : ∃ g, m % 1000000000 = g := ⟨_, rfl⟩
    have hgl : g < 1000000000 := by omega
    have HSTEP : Hid (∀ E : List Nat, E.length = 9 → valDT E = g → N = valDT (D ++ E) + 10 ^ (D ++ E).length * (m / 1000000000)) := Lib.hid (fun E h1 h2 => txt_step HN2.out h1 (by rw [hg]; exact h2))
    rw [hg]
    generalize m / 1000000000 = m2 at *
    have HQL : Hid (∀ j, blockOf (.slice qa (digsW (m2)).length qk) j → digsW (m2) ≠ [] → j < w5.heap.size) := Lib.hid (fun j hj hne => row_block HRQ.out (natI_ne hne) j hj)
    clear HDW hrq hb5 hq5 HF HNB HROW HBW hg
    go_wp2_with fail
    go_loopw [3, 6, 22] (fun tv gv iv ws => ∃ (j gr : Nat) (E : List Nat) (ta : Option Addr) (tn tc : Nat), iv = .int .i64 (j : Int) ∧ gv = .int .u32 (gr : Int) ∧ tv = .slice ta tn tc ∧ tn = D.length + j ∧ j ≤ 9 ∧ gr < 4294967296 ∧ Hid (E.length = j) ∧ Hid (valDT E + 10 ^ j * gr = g) ∧ Hid (∀ c ∈ E, c < 10) ∧ Hid (Fresh Bz 5 .u8 ws (.slice ta tn tc) (natI ((D ++ E).map (· + 48)))) ∧ Hid (Row .u32 ws (.slice qa (digsW (m2)).length qk) (natI (digsW (m2)))) ∧ Hid (digsW (m2) ≠ [] → ∀ j, blockOf (.slice qa (digsW (m2)).length qk) j → Value.ownBlock (.slice ta tn tc) ≠ some j) ∧ Hid (Below Bz w1 ws) ∧ w5.heap.size ≤ ws.heap.size) (fun _ _ iv _ => (9 - intOf iv).toNat)
    case atStart => exact ⟨0, g, [], ta, D.length, tc, rfl, rfl, rfl, rfl, by decide, by omega, Lib.hid rfl, Lib.hid (by simp [valDT]), Lib.hid (by simp), by rw [List.append_nil]; exact HF5, HRQ, Lib.hid (fun _ j hj => HNB5.out j hj), HBW5, Nat.le_refl _⟩
    case round =>
     clear HF5 HRQ HNB5 HBW5
     obtain ⟨j, gr, E, ta, tn, tc, rfl, rfl, rfl, htn, hj, hgr, HEL, HEV, HED, HF, HR, HNB, HBW, hsz5⟩ := hrel
     by_cases hj9 : j = 9
     ·subst hj9
      have hgz : gr = 0 := by
       have := HEV.out
       rcases Nat.eq_zero_or_pos gr with h | h
       ·exact h
       ·have h2 : 10 ^ 9 * 1 ≤ 10 ^ 9 * gr := Nat.mul_le_mul_left _ h
        omega
      have HEV2 : Hid (valDT E = g) := Lib.hid (by have := HEV.out; rw [hgz] at this; simpa using this)
      subst hgz
      go_wp2_with fail
      go_roundw
      case rel => exact ⟨m2, D ++ E, ta, qa, tn, tc, qk, rfl, rfl, HR, Lib.hid (HSTEP.out E HEL.out HEV2.out), Lib.hid (fun c hc => by
        rcases List.mem_append.1 hc with h | h
        ·exact HD.out c h
        ·exact HED.out c h), HF, HNB, HBW, by rw [List.length_append, HEL.out]; exact htn⟩
      case measure => simp [lenOfV] <;> omega
     ·have hjl : (j : Int) < 9 := by omega
      obtain ⟨d, hd⟩ : ∃ d, gr % 10 = d := ⟨_, rfl⟩
      obtain ⟨gr2, hgr2⟩ : ∃ q, gr / 10 = q := ⟨_, rfl⟩
      have hdi : (gr : Int) % 10 = (d : Int) := by omega
      have hqi : (gr : Int) / 10 = (gr2 : Int) := by omega
      have hdl : d < 10 := by omega
      have hg2l : gr2 < 4294967296 := by omega
      have HST := Lib.hid (grp_step HEL.out HEV.out)
      rw [hd, hgr2] at HST
      have hF2 := fresh_keeps HF.out ((Below.refl _ wr).alloc (Nat.le_refl _) (.cells #[.int .u8 (48 + (d : Int))] 5))
      have HF2 := Lib.hid hF2
      have HSRC := Lib.hid (lit_src (W := wr.alloc (.cells #[.int .u8 (48 + (d : Int))] 5)) (H := wr.heap.size) (x := 48 + (d : Int)) (World.alloc_heap_new wr _))
      have hlen : (natI ((D ++ E).map (· + 48))).length + [48 + (d : Int)].length ≤ 1000000000 := by
       rw [natI_length, List.length_map, List.length_append, HEL.out]; simp; omega
      have hsz2 : Bz ≤ (wr.alloc (.cells #[.int .u8 (48 + (d : Int))] 5)).heap.size := by have := HBW.out.size; simp; omega
      have HRA := Lib.hid (row_keeps HR.out ((Below.refl _ wr).alloc (Nat.le_refl _) (.cells #[.int .u8 (48 + (d : Int))] 5)))
      have HBA : Hid (Below Bz w1 (wr.alloc (.cells #[.int .u8 (48 + (d : Int))] 5))) := Lib.hid (HBW.out.alloc (by have := HBW.out.size; omega) _)
      clear hd hgr2 hF2
      go_wp2_with (at_builtin; go_must (refine wpList_append_buf rfl _ _ 50 rfl Bz _ _ rfl HF2.out _ [48 + (d : Int)] rfl HSRC.out hlen hsz2 ?_); intro tb tm tk w6 htm hfr hgrow hwhere; have HFN := Lib.hid hfr; have HGR := Lib.hid hgrow; have HWH := Lib.hid hwhere; have HTM := Lib.hid htm; clear hfr hgrow hwhere htm)
      have HFN2 : Hid (Fresh Bz 5 .u8 w6 (.slice tb tm tk) (natI ((D ++ (E ++ [d])).map (· + 48)))) := Lib.hid (by
       have h1 := HFN.out
       have e1 : natI ((D ++ (E ++ [d])).map (· + 48)) = natI ((D ++ E).map (· + 48)) ++ [48 + (d : Int)] := by
        rw [← List.append_assoc, List.map_append, natI_append]
        congr 1
        show [((d + 48 : Nat) : Int)] = [48 + (d : Int)]
        congr 1; omega
       rw [e1]; exact h1)
      have HR6 := Lib.hid (row_grown HRA.out HGR.out (fun hne j hj => HNB.out (fun e => hne (by rw [e]; rfl)) j hj))
      have HB6 := Lib.hid (below_grown HBA.out HF2.out HGR.out hsz2)
      have hs6 : w5.heap.size ≤ w6.heap.size := by have := HGR.out.size; simp at this; omega
      have HN6 : Hid (digsW m2 ≠ [] → ∀ j, blockOf (.slice qa (digsW m2).length qk) j → Value.ownBlock (.slice tb tm tk) ≠ some j) := Lib.hid (fun hne j hj e => by
       rcases HWH.out with h | h
       ·exact HNB.out hne j hj (h ▸ e)
       ·rw [h] at e
        have h2 := HQL.out j hj hne
        simp at e
        omega)
      have htm2 : tm = D.length + (j + 1) := by have := HTM.out; rw [List.length_append, natI_length, List.length_map, List.length_append, HEL.out] at this; simp at this; omega
      go_wp2_with fail
      go_roundw
      case rel => exact ⟨j + 1, gr2, E ++ [d], tb, tm, tk, by go_num, rfl, rfl, htm2, by omega, hg2l, Lib.hid (by rw [List.length_append, HEL.out]; rfl), HST, Lib.hid (fun c hc => by
        rcases List.mem_append.1 hc with h | h
        ·exact HED.out c h
        ·have : c = d := by simpa using h
         omega), HFN2, HR6, HN6, HB6, hs6⟩
      case measure => simp [intOf] <;> omega
theorem strB_inj {a b : ByteArray} (h : strB a = strB b) : a = b := by
 obtain ⟨da⟩ := a
 obtain ⟨db⟩ := b
 unfold strB at h
 have h2 : da.toList = db.toList := by
  have h3 : ∀ (x y : List UInt8), x.map UInt8.toNat = y.map UInt8.toNat → x = y := by
   intro x
   induction x with
   | nil => intro y h; cases y with
    | nil => rfl
    | cons _ _ => simp at h
   | cons a x ih => intro y h; cases y with
    | nil => simp at h
    | cons b y =>
     simp only [List.map_cons, List.cons.injEq] at h
     rw [UInt8.toNat_inj.1 h.1, ih y h.2]
  exact h3 _ _ h
 congr 1
 exact Array.toList_inj.1 h2
theorem strB_append (a b : ByteArray) : strB (a ++ b) = strB a ++ strB b := by
 unfold strB
 rw [ByteArray.data_append, Array.toList_append, List.map_append]
theorem strB_txt (n : Int) : strB (txtS n) = txtN n := strB_nums (txtN_lt n)
theorem ten_cut (d : Nat) (h : d < 10) : strB (ByteArray.extract { data := #[48, 49, 50, 51, 52, 53, 54, 55, 56, 57] } d (d + 1)) = [d + 48] := by
 have : ∀ k : Fin 10, strB (ByteArray.extract { data := #[48, 49, 50, 51, 52, 53, 54, 55, 56, 57] } k.1 (k.1 + 1)) = [k.1 + 48] := by decide
 exact this ⟨d, h⟩
set_option maxHeartbeats 2000000 in
theorem decimal_any (n : Nat) (w : World) (hn : n < 10000) :
  Calls Tryz.prog 101 #[.int .i64 (n : Int)] w fun e w' => (∃ s, e = .returned (.string s) ∧ strB s = decN n) ∧ w = w' := by
 by_cases h0 : n = 0
 ·subst h0
  go_enter Tryz.func101, Tryz.ntmps101
  go_wp2_with fail
  go_ret
  exact ⟨⟨_, rfl, rfl⟩, rfl⟩
 ·have b0 : ((n : Int) == 0) = false := by rw [beq_eq_false_iff_ne]; omega
  go_enter Tryz.func101, Tryz.ntmps101
  go_wp2_with fail
  go_loopw [4, 5, 6] (fun sv kv _ wr => ∃ (k : Nat) (E : List Nat) (s : ByteArray), sv = .string s ∧ kv = .int .i64 (k : Int) ∧ k ≤ n ∧ s.size = E.length ∧ Hid (strB s = E.reverse.map (· + 48)) ∧ Hid (E ++ digsT k = digsT n) ∧ E.length + k ≤ n + 1 ∧ w = wr) (fun _ kv _ _ => (intOf kv).toNat)
  case atStart => exact ⟨n, [], { data := #[] }, rfl, rfl, Nat.le_refl _, rfl, Lib.hid rfl, Lib.hid rfl, by simp, rfl⟩
  case round =>
   obtain ⟨k, E, s, rfl, rfl, hk, hsz, HS, HT, hek, rfl⟩ := hrel
   by_cases hk0 : k = 0
   ·subst hk0
    have HR : Hid (strB s = decN n) := Lib.hid (by
     rw [HS.out]
     unfold decN
     rw [if_neg h0, ← HT.out, digs_zeroT, List.append_nil])
    go_wp2_with fail
    go_ret
    exact ⟨⟨s, rfl, HR.out⟩, rfl⟩
   ·have hk1 : ((k : Int) != 0) = true := by rw [bne_iff_ne]; omega
    obtain ⟨d, hd⟩ : ∃ d, k % 10 = d := ⟨_, rfl⟩
    obtain ⟨q, hq⟩ : ∃ q, k / 10 = q := ⟨_, rfl⟩
    have hdi : (k : Int).tmod 10 = (d : Int) := by rw [Int.tmod_eq_emod_of_nonneg (by omega)]; omega
    have hqi : (k : Int).tdiv 10 = (q : Int) := by rw [Int.tdiv_eq_ediv_of_nonneg (by omega)]; omega
    have hdl : d < 10 := by omega
    have hd0 : (0 : Int) ≤ (d : Int) := by omega
    have hd1 : ¬ (d : Int) < 0 := by omega
    have HS2 : Hid (strB (ByteArray.extract { data := #[48, 49, 50, 51, 52, 53, 54, 55, 56, 57] } d (d + 1) ++ s) = (E ++ [d]).reverse.map (· + 48)) := Lib.hid (by
     rw [strB_append, ten_cut d hdl, HS.out]; simp)
    have HT2 : Hid ((E ++ [d]) ++ digsT q = digsT n) := Lib.hid (by rw [← HT.out, digs_posT hk0, hd, hq]; simp)
    have hsz2 : (ByteArray.extract { data := #[48, 49, 50, 51, 52, 53, 54, 55, 56, 57] } d (d + 1) ++ s).size = (E ++ [d]).length := by
     rw [← strB_length, HS2.out]; simp
    have HSZ := Lib.hid hsz2
    have hql : q < k := by omega
    have hw : wrap64 (q : Int) = (q : Int) := by unfold wrap64; omega
    clear hd hq hsz2
    go_wp2_with fail
    go_roundw
    case rel => exact ⟨q, E ++ [d], _, rfl, rfl, by omega, HSZ.out, HS2, HT2, by simp; omega, trivial⟩
    case measure => simp [intOf] <;> omega
def pad4 (d : Nat) : List Nat := [d / 1000 % 10 + 48, d / 100 % 10 + 48, d / 10 % 10 + 48, d % 10 + 48]
theorem decN_app {q d : Nat} (hq : q ≠ 0) (hd : d < 10000) : decN (q * 10000 + d) = decN q ++ pad4 d := by
 have h0 : q * 10000 + d ≠ 0 := by omega
 unfold decN pad4
 rw [if_neg h0, if_neg hq, digs_posT h0, digs_posT (n := (q * 10000 + d) / 10) (by omega), digs_posT (n := (q * 10000 + d) / 10 / 10) (by omega), digs_posT (n := (q * 10000 + d) / 10 / 10 / 10) (by omega)]
 have e : (q * 10000 + d) / 10 / 10 / 10 / 10 = q := by omega
 rw [e]
 simp only [List.reverse_cons, List.map_append, List.map_cons, List.map_nil, List.append_assoc, List.cons_append, List.nil_append]
 congr 1
 congr 1
 ·omega
 congr 1
 ·omega
 congr 1
 ·omega
 congr 1
 omega
theorem pad_dec (d : Nat) (hd : d < 10000) : pad4 d = List.replicate (4 - (decN d).length) 48 ++ decN d ∧ (decN d).length ≤ 4 := by
 by_cases h0 : d = 0
 ·subst h0; decide
 ·unfold decN
  rw [if_neg h0, digs_posT h0]
  by_cases h1 : d / 10 = 0
  ·rw [h1, digs_zeroT]; simp [pad4]; omega
  ·rw [digs_posT h1]
   by_cases h2 : d / 10 / 10 = 0
   ·rw [h2, digs_zeroT]; simp [pad4]; omega
   ·rw [digs_posT h2]
    by_cases h3 : d / 10 / 10 / 10 = 0
    ·rw [h3, digs_zeroT]; simp [pad4]; omega
    ·rw [digs_posT h3]
     have h4 : d / 10 / 10 / 10 / 10 = 0 := by omega
     rw [h4, digs_zeroT]; simp [pad4]; omega
theorem drop_val {d : List Nat} {i : Nat} (h : i < d.length) : valD (d.drop i) = valD (d.drop (i + 1)) * 10000 + atD d i := by
 rw [List.drop_eq_getElem_cons h]
 unfold atD
 rw [List.getElem?_eq_getElem h]
 simp only [valD, Option.getD_some]
 omega
theorem drop_ne {n i : Nat} (h : i < (digs n).length) : valD ((digs n).drop i) ≠ 0 := by
 intro e
 have hd : ∀ c ∈ (digs n).drop i, c < 10000 := fun c hc => digs_lt n c (List.mem_of_mem_drop hc)
 have hne : (digs n).drop i ≠ [] := by intro e2; have := congrArg List.length e2; simp at this; omega
 have h1 := digs_of hd (fun hne2 => by
  rw [List.getLast_drop]
  exact digs_last _)
 rw [e, digs_zero] at h1
 exact hne h1.symm
theorem decN_short {d : Nat} (h : d < 10000) : (decN d).length ≤ 4 := (pad_dec d h).2
theorem cons48 (s : ByteArray) : strB ({ data := #[48] } ++ s) = 48 :: strB s := by rw [strB_append]; rfl
theorem cons45 (s : ByteArray) : strB ({ data := #[45] } ++ s) = 45 :: strB s := by rw [strB_append]; rfl
set_option maxHeartbeats 8000000 in
theorem text_any (x : Value) (n : Int) (w : World) (hx : NAt w x n) (hl : (digs n.natAbs).length ≤ 500000) :
  Calls Tryz.prog 73 #[x] w fun e w' => e = .returned (.string (txtS n)) ∧ Below w.heap.size w w' := by
 obtain ⟨ax, cx, rfl⟩ := nat_form hx
 have hr := nat_row hx
 obtain ⟨na, hna⟩ : ∃ t, decide (n < 0) = t := ⟨_, rfl⟩
 rw [hna]
 have HB : Hid (Below w.heap.size w (w.alloc (.cells #[.bool na, .slice ax (digs n.natAbs).length cx] 24))) := Lib.hid ((Below.refl _ w).alloc (Nat.le_refl _) _)
 have HR := Lib.hid (row_keeps hr HB.out)
 have hL := Laid.new w 24 [.bool na, .slice ax (digs n.natAbs).length cx]
 by_cases h0 : n = 0
 ·subst h0
  have e1 : digs (0 : Int).natAbs = [] := digs_zero
  rw [e1] at HB ⊢
  clear hx hr hL HR e1
  go_enter Tryz.func73, Tryz.ntmps73
  go_wp2_with fail
  go_ret
  exact ⟨by rw [show txtS 0 = { data := #[48] } from rfl]; rfl, HB.out⟩
 ·have hN0 : n.natAbs ≠ 0 := by omega
  have hpos := digs_len_pos hN0
  have HNA := Lib.hid hna
  have HNE := Lib.hid (fun i (h : i < (digs n.natAbs).length) => drop_ne (n := n.natAbs) h)
  have HD := Lib.hid (digs_lt n.natAbs)
  have HV := Lib.hid (valD_digs n.natAbs)
  have HN0 := Lib.hid hN0
  clear hx hr hna h0 hN0
  have hL1 : Laid (w.alloc (.cells #[.bool na, .slice ax (digs n.natAbs).length cx] 24)) w.heap.size 24 [.bool na, .slice ax (digs n.natAbs).length cx] := hL
  obtain ⟨c0, c1, _, _⟩ := cells2 hL1
  clear hL hL1
  generalize digs n.natAbs = d at *
  have hp0 : ((d.length : Int) == 0) = false := by rw [beq_eq_false_iff_ne]; omega
  obtain ⟨m, hm⟩ : ∃ m, d.length = m + 1 := ⟨d.length - 1, by omega⟩
  obtain ⟨b, off, rfl, hc⟩ := row_elem HR.out (show m < d.length by omega)
  have hx := atD_lt HD.out m
  have HTOP : Hid (valD (d.drop m) = atD d m) := Lib.hid (by
   rw [drop_val (by omega), List.drop_of_length_le (by omega)]; simp [valD])
  generalize atD d m = x at *
  have DEC := Lib.hid (decimal_any x (w.alloc (.cells #[.bool na, .slice (some ⟨b, off, none⟩) d.length cx] 24)) hx)
  have hi1 : (d.length : Int) - 1 = (m : Int) := by omega
  have hi2 : (d.length : Int) - 2 = (m : Int) - 1 := by omega
  have hm0 : (0 : Int) ≤ (m : Int) := by omega
  have hml : (m : Int) < (d.length : Int) := by omega
  have HM := Lib.hid hm
  clear hm
  go_enter Tryz.func73, Tryz.ntmps73
  go_wp2_with fail
  generalize w.alloc (.cells #[.bool na, .slice (some ⟨b, off, none⟩) d.length cx] 24) = w1 at *
  refine DEC.out.mono ?_
  rintro e w2 ⟨⟨s, rfl, hs⟩, rfl⟩
  have HS := Lib.hid hs
  have hsl : s.size ≤ 4 := by rw [← strB_length, hs]; exact decN_short hx
  clear hs DEC hc
  go_wp2_with fail
  go_loopw [3, 4, 5] (fun ov iv _ wr => ∃ (j : Nat) (o : ByteArray), iv = .int .i64 ((j : Int) - 1) ∧ ov = .string o ∧ j ≤ m ∧ o.size + 4 * j ≤ 4 * m + 4 ∧ Hid (strB o = decN (valD (d.drop j))) ∧ w1 = wr) (fun _ iv _ _ => (intOf iv + 1).toNat)
  case atStart => exact ⟨m, s, rfl, rfl, Nat.le_refl _, by omega, Lib.hid (by rw [HTOP.out]; exact HS.out), rfl⟩
  case round =>
   obtain ⟨j, o, rfl, rfl, hj, hos, HO, rfl⟩ := hrel
   clear HS hsl
   rcases Nat.eq_zero_or_pos j with hj0 | hj0
   ·subst hj0
    rw [show ((0 : Nat) : Int) - 1 = -1 from rfl]
    have HO2 : Hid (strB o = decN n.natAbs) := Lib.hid (by rw [HO.out, List.drop_zero, HV.out])
    have hol : o.size ≤ 4 * m + 4 := by omega
    cases na
    ·have HF : Hid (txtS n = o) := Lib.hid (strB_inj (by rw [strB_txt, HO2.out]; unfold txtN; rw [if_neg (by simpa using HNA.out)]))
     go_wp2_with fail
     go_ret
     exact ⟨by rw [HF.out]; rfl, HB.out⟩
    ·have HF : Hid (txtS n = { data := #[45] } ++ o) := Lib.hid (strB_inj (by rw [strB_txt, cons45, HO2.out]; unfold txtN; rw [if_pos (by simpa using HNA.out)]))
     go_wp2_with fail
     go_ret
     exact ⟨by rw [HF.out]; rfl, HB.out⟩
   ·obtain ⟨i, rfl⟩ : ∃ i, j = i + 1 := ⟨j - 1, by omega⟩
    rw [show ((i + 1 : Nat) : Int) - 1 = (i : Int) by omega]
    have hil : i < d.length := by have := HM.out; omega
    obtain ⟨b2, off2, e, hc2⟩ := row_elem HR.out hil
    injection e with e
    injection e with e1 e2
    subst e1 e2
    have hy := atD_lt HD.out i
    have HVAL : Hid (valD (d.drop i) = valD (d.drop (i + 1)) * 10000 + atD d i) := Lib.hid (drop_val hil)
    have HQ := Lib.hid (HNE.out (i + 1) (by have := HM.out; omega))
    generalize atD d i = y at *
    have DEC := Lib.hid (decimal_any y w1 hy)
    have hi0 : (0 : Int) ≤ (i : Int) := by omega
    have hid : (i : Int) < (d.length : Int) := by omega
    go_wp2_with fail
    refine DEC.out.mono ?_
    rintro e w2 ⟨⟨s, rfl, hs⟩, rfl⟩
    have HS := Lib.hid hs
    have hsl : s.size ≤ 4 := by rw [← strB_length, hs]; exact decN_short hy
    clear hs DEC hc2 hil
    go_wp2_with fail
    go_loopw [5] (fun sv wr => ∃ (t : ByteArray) (r : Nat), sv = .string t ∧ t.size ≤ 4 ∧ Hid (strB t = List.replicate r 48 ++ decN y) ∧ w1 = wr) (fun sv _ => 4 - (match sv with | .string t => t.size | _ => 0))
    case atStart => exact ⟨s, 0, rfl, hsl, Lib.hid HS.out, rfl⟩
    case round =>
     obtain ⟨t, r, rfl, htl, HT, rfl⟩ := hrel
     by_cases h4 : t.size = 4
     ·have HP : Hid (strB t = pad4 y) := Lib.hid (by
       have h1 := strB_length t
       rw [HT.out, List.length_append, List.length_replicate] at h1
       rw [HT.out, (pad_dec y hy).1, show 4 - (decN y).length = r by omega])
      have HO3 : Hid (strB (o ++ t) = decN (valD (d.drop i))) := Lib.hid (by rw [strB_append, HO.out, HP.out, HVAL.out, decN_app HQ.out hy])
      have HOS : Hid ((o ++ t).size + 4 * i ≤ 4 * m + 4) := Lib.hid (by rw [ByteArray.size_append]; omega)
      have hos2 : o.size ≤ 4 * m + 4 := by omega
      go_wp2_with fail
      go_roundw
      case rel => exact ⟨i, o ++ t, by go_num, rfl, by omega, HOS.out, HO3, trivial⟩
      case measure => simp [intOf] <;> omega
     ·have HT2 : Hid (strB ({ data := #[48] } ++ t) = List.replicate (r + 1) 48 ++ decN y) := Lib.hid (by rw [cons48, HT.out, List.replicate_succ]; rfl)
      have htl2 : t.size < 4 := by omega
      have HSZ : Hid ((({ data := #[48] } : ByteArray) ++ t).size = t.size + 1) := Lib.hid (by rw [ByteArray.size_append]; show 1 + t.size = _; omega)
      go_wp2_with fail
      go_roundw
      case rel => exact ⟨_, r + 1, rfl, by rw [HSZ.out]; omega, HT2, trivial⟩
      case measure => simp [HSZ.out] <;> omega
end Go.Proofs.YtepakogbbomaoaaGreatDoor
