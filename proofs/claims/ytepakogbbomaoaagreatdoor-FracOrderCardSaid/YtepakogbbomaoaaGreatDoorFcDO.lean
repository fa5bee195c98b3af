/-
 Package frac: Pow with the exponent 3; strings.Cut at a slash. (tools/genFrv.py makes this text.) Package frac: Parse. (tools/genFrw.py makes this text.)
-/
import Derived.Test.YtepakogbbomaoaaGreatDoorFcCO
import Derived.Test.YtepakogbbomaoaaGreatDoorLfaO
import Derived.Test.YtepakogbbomaoaaGreatDoorRgCO
import Derived.Lib.Bytealg
namespace Go.Proofs.YtepakogbbomaoaaGreatDoor
open Go.RowKit Go.Shelf
set_option linter.unusedVariables false
set_option maxRecDepth 100000
set_option maxHeartbeats 8000000 in
theorem fPow3_any (x : Value) (p q p2 q2 p3 q3 : Int) (w : World) (hx : FAt w x p q) (h1 : 1 ≤ q) (h3 : 1 ≤ q3) (sp : Small p) (sq : Small q) (sp2 : Small p2) (sq2 : Small q2) (sp3 : Small p3) (sq3 : Small q3) (e1 : p2 = p * p) (e2 : p3 = p2 * p) (e3 : q2 = q * q) (e4 : q3 = q2 * q) :
  Calls Tryz.prog 55 #[x, .int .i64 3] w (FREnd (0, p3, q3) w) := by
 obtain ⟨s0, t0, a0, b0, m0, i0, c0, j0, w2, rfl, hw2, z2, hb2, hl0, hf0⟩ := one_f w hx
 obtain ⟨w3, hw3⟩ : ∃ w3, w3 = w2.alloc (.cells #[.bool false, .slice none 0 0, .bool false, .slice none 0 0] 34) := ⟨_, rfl⟩
 have k3 : Below w2.heap.size w2 w3 := by rw [hw3]; exact below_one _ _
 have hl2 : Laid w3 (w.heap.size + 1) 34 [.bool false, .slice none 0 0, .bool false, .slice none 0 0] := by rw [hw3, ← z2]; exact Laid.new _ _ _
 have HL2 := Lib.hid hl2
 have HL0 := Lib.hid (hl0.below k3)
 have HF0 := Lib.hid (fat_keeps hf0 k3)
 have HB3 := Lib.hid (below_then hb2 k3)
 rw [hw2] at hw3
 have PW1 : Hid (∀ X u, IAt X u p → Calls Tryz.prog 84 #[u, .int .i64 3] X (POk p3 X)) := Lib.hid (fun X u h => power3_any u p p2 p3 X h sp sp2 sp3 e1 e2)
 have PW2 : Hid (∀ X u, IAt X u q → Calls Tryz.prog 84 #[u, .int .i64 3] X (POk q3 X)) := Lib.hid (fun X u h => power3_any u q q2 q3 X h sq sq2 sq3 e3 e4)
 have BD : Hid (∀ X, Below w3.heap.size w3 X → Calls Tryz.prog 34 #[.agg #[.bool s0, .slice a0 m0 c0, .bool t0, .slice b0 i0 j0]] X (IEnd q X)) := Lib.hid (fun X h => below_den _ p q X (fat_keeps HF0.out h) h1 sq.words)
 have LW : Hid (∀ X u v, IAt X u p3 → IAt X v q3 → Calls Tryz.prog 43 #[u, v] X (FEnd p3 q3 X)) := Lib.hid (fun X u v h4 h5 => lowest_any u v p3 q3 X h4 h5 h3 sq3.words)
 have HN0 : Hid (IAt w3 (.agg #[.bool s0, .slice a0 m0 c0]) p) := Lib.hid (by
  obtain ⟨s', t', a', b', m', n', c', d', e, g1, g2⟩ := HF0.out
  have e0 : Value.bool s0 = .bool s' := by injection e with e; simpa using congrArg (fun t => t[0]!) e
  have e1 : Value.slice a0 m0 c0 = .slice a' m' c' := by injection e with e; simpa using congrArg (fun t => t[1]!) e
  rw [← e0, ← e1] at g1
  exact g1)
 unfold IEnd at BD
 unfold FEnd at LW
 clear hx h1 h3 sp sq sp2 sq2 sp3 sq3 e1 e2 e3 e4 hw2 z2 hb2 hl0 hf0 k3 hl2
 obtain ⟨⟨e0, e1, e2, e3⟩, _⟩ := cellsF HL0.out
 go_enter Tryz.func55, Tryz.ntmps55
 go_wp2_with fail
 rw [← hw3]
 clear hw3
 go_must (refine (PW1.out _ _ HN0.out).mono ?_)
 rintro e X1 ⟨s1, a1, m1, c1, rfl, hx1, hb1⟩
 have hbb := below_then hb1 (below_one X1 (.cells #[.bool s1, .slice a1 m1 c1] 32))
 have HB1 := Lib.hid hbb
 have T1 := Lib.hid (IBox.new hx1)
 clear PW1 hx1 hb1 hbb HN0 e0 e1 e2 e3
 go_upto_region 4 with (fail)
 generalize X1.alloc (.cells #[.bool s1, .slice a1 m1 c1] 32) = X2 at *
 generalize X1.heap.size = t6 at *
 obtain ⟨⟨e0, e1, e2, e3⟩, _⟩ := cellsF (HL0.out.below HB1.out)
 go_wp2_with fail
 go_must (refine (BD.out _ HB1.out).mono ?_)
 rintro e X3 ⟨s3, a3, m3, c3, rfl, hx3, hb3⟩
 have HB3' := Lib.hid (below_then HB1.out hb3)
 have T1' := Lib.hid (T1.out.below hb3)
 have HX3 := Lib.hid hx3
 clear BD hx3 hb3 HB1 T1 e0 e1 e2 e3
 go_wp2_with fail
 go_must (refine (PW2.out _ _ HX3.out).mono ?_)
 rintro e X4 ⟨s4, a4, m4, c4, rfl, hx4, hb4⟩
 have hbb := below_then hb4 (below_one X4 (.cells #[.bool s4, .slice a4 m4 c4] 32))
 have HB4 := Lib.hid (below_then HB3'.out hbb)
 have T1 := Lib.hid (T1'.out.below hbb)
 have T2 := Lib.hid (IBox.new hx4)
 clear PW2 hx4 hb4 hbb HX3 HB3' T1'
 go_upto_region 5 with (fail)
 generalize X4.alloc (.cells #[.bool s4, .slice a4 m4 c4] 32) = X5 at *
 generalize X4.heap.size = t8 at *
 go_wp2_with fail
 have AL := Laid.new X5 41 [.int .i64 0, .int .i64 0]
 have hb5 := below_one X5 (.cells #[.int .i64 0, .int .i64 0] 41)
 have HOR := Lib.hid (or2_any _ _ _ _ (AL.cell 0) (AL.cell 1))
 have HB5 := Lib.hid (below_then HB4.out hb5)
 have U1 := Lib.hid (T1.out.below hb5)
 have U2 := Lib.hid (T2.out.below hb5)
 clear AL hb5 HB4 T1 T2
 go_must (refine HOR.out.mono ?_)
 rintro e X6 ⟨rfl, rfl⟩
 clear HOR
 rw [show orI 0 0 = 0 from rfl]
 generalize X5.alloc (.cells #[.int .i64 0, .int .i64 0] 41) = X6 at *
 obtain ⟨sA, aA, mA, cA, ⟨cA0, cA1⟩, hA⟩ := U1.out.open
 obtain ⟨sB, aB, mB, cB, ⟨cB0, cB1⟩, hB⟩ := U2.out.open
 have HLW := Lib.hid (LW.out _ _ _ hA hB)
 clear LW hA hB U1 U2
 go_wp2_with fail
 go_must (refine HLW.out.mono ?_)
 rintro e X7 ⟨v7, rfl, hx7, hb7⟩
 obtain ⟨s7, t7, a7, d7, m7, i7, c7, j7, rfl⟩ := fat_shape hx7
 have hl7 := HL2.out.below (below_then HB5.out hb7)
 obtain ⟨⟨r0, r1, r2, r3⟩, r4, r5, r6, r7⟩ := cellsF hl7
 have HE := Lib.hid (below_set4 (p := w.heap.size + 1) (u0 := .bool s7) (u1 := .slice a7 m7 c7) (u2 := .bool t7) (u3 := .slice d7 i7 j7) (below_then HB3.out (below_then HB5.out hb7)) (by omega))
 have HFE := Lib.hid (fat_store hx7 hl7)
 clear hx7 hb7 hl7 HLW cA0 cA1 cB0 cB1 HB5
 go_wp2_with fail
 refine bodyPost_ret (v := .tuple #[.agg #[.bool s7, .slice a7 m7 c7, .bool t7, .slice d7 i7 j7], .int .i64 0]) (by simp [results, Tryz.results55, go_sem, r0, r1, r2, r3]) rfl ?_
 exact ⟨_, _, _, _, _, _, _, _, rfl, HFE.out, HE.out⟩
def CutL (l a b : List Nat) (f : Bool) : Prop := (f = true ∧ l = a ++ 47 :: b ∧ 47 ∉ a) ∨ (f = false ∧ a = l ∧ b = [] ∧ 47 ∉ l)
theorem idx_cases (l : List UInt8) : (Lib.indexByte l 47 = -1 ∧ (47 : UInt8) ∉ l) ∨ ∃ i : Nat, Lib.indexByte l 47 = (i : Int) ∧ i < l.length ∧ l[i]? = some 47 ∧ (47 : UInt8) ∉ l.take i := by
 induction l with
 | nil => exact .inl ⟨rfl, by simp⟩
 | cons b l ih =>
  unfold Lib.indexByte
  rcases Classical.em (b = 47) with h | h
  ·subst h
   exact .inr ⟨0, by simp, by simp, rfl, by simp⟩
  ·rw [if_neg (by simpa using h)]
   rcases ih with ⟨h1, h2⟩ | ⟨i, h1, h2, h3, h4⟩
   ·rw [h1]
    exact .inl ⟨by simp, by simp [h2, Ne.symm h]⟩
   ·rw [h1]
    refine .inr ⟨i + 1, ?_, by simpa using h2, by simpa using h3, by simp [h4, Ne.symm h]⟩
    rw [if_neg (by simp)]
    omega
set_option maxHeartbeats 4000000 in
theorem indexByte_any (s : ByteArray) (w : World) : Calls Tryz.prog 137 #[.string s, .int .u8 47] w (fun e w' => e = .returned (.int .i64 (Lib.indexByte s.data.toList 47)) ∧ w = w') := by
 go_enter Tryz.func137, Tryz.ntmps137
 go_wp2
 rw [run_callFunc_extern Tryz.func146 (by kernel_rfl) (by kernel_rfl) (by kernel_rfl) (e := Extern.BytealgIndexByte.indexByte) (by kernel_rfl), Lib.run_indexByteString]
 simp only [Result.andThen]
 rw [Oper.upon_value]
 go_wp2
 go_ret
 exact ⟨rfl, rfl⟩
set_option maxHeartbeats 4000000 in
theorem index_any (s : ByteArray) (w : World) (hs : s.size ≤ 1000000000) : Calls Tryz.prog 118 #[.string s, .string { data := #[47] }] w (fun e w' => e = .returned (.int .i64 (Lib.indexByte s.data.toList 47)) ∧ w = w') := by
 obtain ⟨i, hi⟩ : ∃ i, i = Lib.indexByte s.data.toList 47 := ⟨_, rfl⟩
 have IB := indexByte_any s w
 rw [← hi] at IB
 have HIB := Lib.hid IB
 have HI := Lib.hid hi
 rw [← hi]
 clear IB hi
 rcases Classical.em (s.toList = [47]) with h | h
 ·have hb : (([47] : List UInt8) == s.toList) = true := by simp [h]
  have h0 : Hid (i = 0) := Lib.hid (by rw [HI.out, ← ByteArray.toList_eq, h]; rfl)
  clear h
  go_enter Tryz.func118, Tryz.ntmps118
  go_wp2_with fail
  go_ret
  exact ⟨by rw [h0.out]; rfl, rfl⟩
 ·have hb : (([47] : List UInt8) == s.toList) = false := by simp; exact fun e => h e.symm
  clear h
  go_enter Tryz.func118, Tryz.ntmps118
  go_wp2_with fail
  go_must (refine HIB.out.mono ?_)
  rintro e w' ⟨rfl, rfl⟩
  go_wp2_with fail
  go_ret
  exact ⟨rfl, rfl⟩
def CutEnd4 (s : ByteArray) (w : World) (e : Ending) (w' : World) : Prop := ∃ (a b : ByteArray) (f : Bool), e = .returned (.tuple #[.string a, .string b, .bool f]) ∧ CutL (strB s) (strB a) (strB b) f ∧ Below w.heap.size w w'
theorem str_mem {s : ByteArray} : (47 : UInt8) ∉ s.data.toList → 47 ∉ strB s := by
 unfold strB
 intro h hm
 obtain ⟨x, hx, he⟩ := List.mem_map.1 hm
 exact h ((show x = 47 from UInt8.toNat_inj.1 he) ▸ hx)
theorem cut_hit {s : ByteArray} {i : Nat} (hi : i < s.data.toList.length) (h : s.data.toList[i]? = some 47) (h2 : (47 : UInt8) ∉ s.data.toList.take i) : CutL (strB s) (strB (s.extract 0 i)) (strB (s.extract (i + 1) s.size)) true := by
 have e1 : (s.extract 0 i).data.toList = s.data.toList.take i := by simp [ByteArray.data_extract]
 have e2 : (s.extract (i + 1) s.size).data.toList = s.data.toList.drop (i + 1) := by
  have hs : s.size = s.data.toList.length := by rw [Array.length_toList]; rfl
  rw [ByteArray.data_extract, Array.toList_extract, List.extract_eq_take_drop, hs, List.take_of_length_le (by simp)]
 refine .inl ⟨rfl, ?_, ?_⟩
 ·unfold strB
  rw [e1, e2]
  have hd : s.data.toList.drop i = 47 :: s.data.toList.drop (i + 1) := by
   rw [List.drop_eq_getElem_cons hi]
   rw [List.getElem?_eq_getElem hi] at h
   injection h with h
   rw [h]
  conv => lhs; rw [← List.take_append_drop i s.data.toList, hd]
  rw [List.map_append, List.map_cons]
  rfl
 ·unfold strB
  rw [e1]
  intro hm
  obtain ⟨x, hx, he⟩ := List.mem_map.1 hm
  exact h2 ((show x = 47 from UInt8.toNat_inj.1 he) ▸ hx)
set_option maxHeartbeats 4000000 in
theorem cut0_any (s : ByteArray) (w : World) (hs : s.size ≤ 1000000000) : Calls Tryz.prog 88 #[.string s, .string { data := #[47] }] w (CutEnd4 s w) := by
 have IX := index_any s w hs
 rcases idx_cases s.data.toList with ⟨h1, h2⟩ | ⟨i, h1, h2, h3, h4⟩
 ·rw [h1] at IX
  have HIX := Lib.hid IX
  have HC := Lib.hid (show CutL (strB s) (strB s) (strB ByteArray.empty) false from .inr ⟨rfl, rfl, rfl, str_mem h2⟩)
  clear IX h1 h2
  go_enter Tryz.func88, Tryz.ntmps88
  go_wp2_with fail
  go_must (refine HIX.out.mono ?_)
  rintro e w' ⟨rfl, rfl⟩
  go_wp2_with fail
  go_ret3
  exact ⟨_, _, _, rfl, HC.out, Below.refl _ _⟩
 ·rw [h1] at IX
  have HIX := Lib.hid IX
  have HC := Lib.hid (cut_hit h2 h3 h4)
  have hsz : s.size = s.data.toList.length := by rw [Array.length_toList]; rfl
  have c0 : i + 1 ≤ s.size := by omega
  have c1 : (0 : Int) ≤ (i : Int) := by omega
  have c2 : (i : Int) ≤ (s.size : Int) := by omega
  have c3 : (0 : Int) ≤ (i : Int) + 1 := by omega
  have c4 : (i : Int) + 1 ≤ (s.size : Int) := by omega
  have c5 : IntKind.i64.wrap ((i : Int) + 1) = (i : Int) + 1 := IntWalk.i64_in _ (by omega)
  clear IX h1 h2 h3 h4 hsz
  go_enter Tryz.func88, Tryz.ntmps88
  go_wp2_with fail
  go_must (refine HIX.out.mono ?_)
  rintro e w' ⟨rfl, rfl⟩
  go_wp2_with fail
  go_region
  go_wp2_with fail
  go_ret3
  exact ⟨_, _, _, rfl, HC.out, (Below.refl _ _).drew⟩
set_option maxHeartbeats 4000000 in
theorem cut_any (s : ByteArray) (w : World) (hs : s.size ≤ 1000000000) : Calls Tryz.prog 60 #[.string s, .string { data := #[47] }] w (CutEnd4 s w) := by
 have C := cut0_any s w hs
 unfold CutEnd4 at C ⊢
 have HC := Lib.hid C
 clear C
 go_enter Tryz.func60, Tryz.ntmps60
 go_wp2_with fail
 go_must (refine HC.out.mono ?_)
 rintro e w' ⟨a, b, f, rfl, h, hb⟩
 have H := Lib.hid h
 have HB := Lib.hid hb
 clear h hb HC
 go_wp2_with fail
 go_ret3
 exact ⟨_, _, _, rfl, H.out, HB.out⟩
def textL (p q : Int) : List Nat := if q = 1 then txtN p else txtN p ++ 47 :: txtN q
theorem strB_fTxt (p q : Int) : strB (fTxt p q) = textL p q := by
 unfold fTxt textL
 split
 ·exact strB_txt p
 ·rw [strB_append, strB_append, strB_txt, strB_txt, List.append_assoc]
  rfl
theorem txt_slash (n : Int) : 47 ∉ txtN n := by
 intro h
 have hd : ∀ m : Nat, 47 ∉ decN m := fun m hm => by
  have := decN_digit m 47 hm
  unfold digit8 at this
  omega
 unfold txtN at h
 split at h
 ·rcases List.mem_cons.1 h with h | h
  ·cases h
  ·exact hd _ h
 ·exact hd _ h
theorem cut_text (p q : Int) : CutL (textL p q) (txtN p) (if q = 1 then [] else txtN q) (decide (q ≠ 1)) := by
 unfold textL
 rcases Classical.em (q = 1) with h | h
 ·rw [if_pos h, if_pos h]
  exact .inr ⟨by simp [h], rfl, rfl, txt_slash p⟩
 ·rw [if_neg h, if_neg h]
  exact .inl ⟨by simp [h], rfl, txt_slash p⟩
theorem app_uniq {a b a' b' : List Nat} (h : a ++ 47 :: b = a' ++ 47 :: b') (h1 : 47 ∉ a) (h2 : 47 ∉ a') : a = a' ∧ b = b' := by
 induction a generalizing a' with
 | nil => cases a' with
  | nil => injection h with _ h; exact ⟨rfl, h⟩
  | cons c a' => injection h with h3 _; exact absurd (h3 ▸ List.mem_cons_self ..) h2
 | cons c a ih => cases a' with
  | nil => injection h with h3 _; exact absurd (h3 ▸ List.mem_cons_self ..) h1
  | cons d a' =>
   injection h with h3 h4
   obtain ⟨e1, e2⟩ := ih h4 (fun k => h1 (List.mem_cons_of_mem _ k)) (fun k => h2 (List.mem_cons_of_mem _ k))
   exact ⟨by rw [h3, e1], e2⟩
theorem cut_uniq {l a b a' b' : List Nat} {f f' : Bool} (h : CutL l a b f) (k : CutL l a' b' f') : a = a' ∧ b = b' ∧ f = f' := by
 rcases h with ⟨h1, h2, h3⟩ | ⟨h1, h2, h3, h4⟩ <;> rcases k with ⟨k1, k2, k3⟩ | ⟨k1, k2, k3, k4⟩
 ·obtain ⟨e1, e2⟩ := app_uniq (h2 ▸ k2 ▸ rfl : a ++ 47 :: b = a' ++ 47 :: b') h3 k3
  exact ⟨e1, e2, by rw [h1, k1]⟩
 ·exact absurd (h2 ▸ List.mem_append_right _ (List.mem_cons_self ..)) k4
 ·exact absurd (k2 ▸ List.mem_append_right _ (List.mem_cons_self ..)) h4
 ·exact ⟨by rw [h2, k2], by rw [h3, k3], by rw [h1, k1]⟩
def FText (s : ByteArray) (p q : Int) : Prop := Low p q ∧ ¬ big p ∧ ¬ big q ∧ strB s = textL p q
theorem ftext_cut {s : ByteArray} {p q : Int} {a b : List Nat} {f : Bool} (h : FText s p q) (k : CutL (strB s) a b f) : a = txtN p ∧ (f = true → b = txtN q ∧ q ≠ 1) ∧ (f = false → q = 1) := by
 have e := h.2.2.2
 rw [e] at k
 obtain ⟨e1, e2, e3⟩ := cut_uniq k (cut_text p q)
 refine ⟨e1, fun hf => ?_, fun hf => ?_⟩
 ·rw [hf] at e3
  have hq : q ≠ 1 := of_decide_eq_true e3.symm
  rw [if_neg hq] at e2
  exact ⟨e2, hq⟩
 ·rw [hf] at e3
  have := of_decide_eq_false e3.symm
  exact Classical.not_not.1 this
theorem ftext_uniq {s : ByteArray} {p q p' q' : Int} (h : FText s p q) (k : FText s p' q') : p = p' ∧ q = q' := by
 have hc := cut_text p q
 rw [← h.2.2.2] at hc
 obtain ⟨e1, e2, e3⟩ := ftext_cut k hc
 refine ⟨txtN_inj e1, ?_⟩
 rcases Classical.em (q = 1) with hq | hq
 ·rw [e3 (by simp [hq]), hq]
 ·have := (e2 (by simp [hq])).1
  rw [if_neg hq] at this
  exact txtN_inj this
def KTK (z k : Int) (w : World) (x : Value) : Prop := ∃ y, x = .tuple #[y, .int .i64 k] ∧ IAt w y z
theorem wParse_gen (s : ByteArray) (hs : s.size ≤ 5000) : ∃ k z : Int, ((k = 0 ∧ strB s = txtN z ∧ ¬ big z) ∨ (k ≠ 0 ∧ z = 0 ∧ ∀ y, strB s = txtN y → big y)) ∧ ∀ X, Calls Tryz.prog 61 #[.string s] X (VEnd (KTK z k) X) := by
 rcases Classical.em (∃ n, strB s = txtN n) with ⟨n, hn⟩ | hno
 ·have e : s = txtS n := strB_inj (by rw [hn, strB_txt])
  have hl : (txtN n).length ≤ 5000 := by rw [← hn, strB_length]; exact hs
  rcases Classical.em (big n) with hb | hb
  ·refine ⟨4, 0, .inr ⟨by decide, rfl, fun y hy => by rw [hn] at hy; rwa [← txtN_inj hy]⟩, fun X => ?_⟩
   rw [e]
   refine (wParse_txt n X hl).mono (fun e w' h => ?_)
   obtain ⟨b, a, m, k, c, rfl, hr, hbb⟩ := rend_form h
   rcases hr with ⟨h1, _⟩ | ⟨_, rfl, rfl, rfl, rfl, rfl⟩
   ·exact absurd hb h1
   ·exact ⟨_, rfl, ⟨_, rfl, iat_zero _⟩, hbb⟩
  ·refine ⟨0, n, .inl ⟨rfl, hn, hb⟩, fun X => ?_⟩
   rw [e]
   refine (wParse_txt n X hl).mono (fun e w' h => ?_)
   obtain ⟨b, a, m, k, c, rfl, hr, hbb⟩ := rend_form h
   rcases hr with ⟨_, rfl, hx⟩ | ⟨h1, _⟩
   ·exact ⟨_, rfl, ⟨_, rfl, hx⟩, hbb⟩
   ·exact absurd h1 hb
 ·refine ⟨2, 0, .inr ⟨by decide, rfl, fun y hy => absurd ⟨y, hy⟩ hno⟩, fun X => ?_⟩
  exact (wParse_bad s X (fun n hn => hno ⟨n, hn⟩) hs).mono (fun e w' h => ⟨_, h.1, ⟨_, rfl, iat_zero _⟩, h.2⟩)
theorem cut_sizes {s a b : ByteArray} {f : Bool} (h : CutL (strB s) (strB a) (strB b) f) : a.size ≤ s.size ∧ b.size ≤ s.size := by
 have h1 := strB_length a
 have h2 := strB_length b
 have h3 := strB_length s
 rcases h with ⟨_, h, _⟩ | ⟨_, h, h', _⟩
 ·have := congrArg List.length h
  rw [List.length_append, List.length_cons] at this
  omega
 ·have e1 := congrArg List.length h
  have e2 := congrArg List.length h'
  rw [List.length_nil] at e2
  omega
def PEnd4 (s : ByteArray) (w : World) (e : Ending) (w' : World) : Prop := (∃ p q, FText s p q ∧ VEnd (KTF (0, p, q)) w e w') ∨ ((∀ p q, ¬ FText s p q) ∧ VEnd (KTF (2, 0, 1)) w e w')
theorem not_big1 : ¬ big 1 := (small_one rfl).notBig
set_option maxHeartbeats 8000000 in
theorem fParse_any (s : ByteArray) (w : World) (hs : s.size ≤ 5000) : Calls Tryz.prog 23 #[.string s] w (PEnd4 s w) := by
 obtain ⟨w1, hw1⟩ : ∃ w1, w1 = w.alloc (.cells #[.bool false, .slice none 0 0, .bool false, .slice none 0 0] 34) := ⟨_, rfl⟩
 have HB1 : Hid (Below w.heap.size w w1) := Lib.hid (by rw [hw1]; exact below_one _ _)
 have HL1 : Hid (Laid w1 w.heap.size 34 [.bool false, .slice none 0 0, .bool false, .slice none 0 0]) := Lib.hid (by rw [hw1]; exact Laid.new _ _ _)
 have HC := cut_any s w1 (by omega)
 unfold CutEnd4 at HC
 have HC := Lib.hid HC
 have FR : Hid (∀ X, Calls Tryz.prog 62 #[.int .i64 1] X (IEnd 1 X)) := Lib.hid (fun X => wFrom_any 1 X (by decide))
 have LW : Hid (∀ X u v p q, 1 ≤ q → ¬ big q → IAt X u p → IAt X v q → Calls Tryz.prog 43 #[u, v] X (FEnd p q X)) := Lib.hid (fun X u v p q h1 h2 h3 h4 => lowest_any u v p q X h3 h4 h1 (low_len h2))
 go_enter Tryz.func23, Tryz.ntmps23
 go_wp2_with fail
 rw [← hw1]
 clear hw1
 go_must (refine HC.out.mono ?_)
 rintro e X0 ⟨a, b, f, rfl, hcut, hb0⟩
 have HCUT := Lib.hid hcut
 have HB0 := Lib.hid (below_then HB1.out hb0)
 have HL0 := Lib.hid (HL1.out.below hb0)
 obtain ⟨sa, sb⟩ := cut_sizes hcut
 obtain ⟨ka, za, ha, PA⟩ := wParse_gen a (by omega)
 have PB : Hid (∃ k z : Int, ((k = 0 ∧ strB b = txtN z ∧ ¬ big z) ∨ (k ≠ 0 ∧ z = 0 ∧ ∀ y, strB b = txtN y → big y)) ∧ ∀ X, Calls Tryz.prog 61 #[.string b] X (VEnd (KTK z k) X)) := Lib.hid (wParse_gen b (by omega))
 have HA := Lib.hid ha
 have PA1 := PA X0
 unfold VEnd at PA1
 have HPA := Lib.hid PA1
 clear HC HB1 HL1 hcut hb0 sa sb hs ha PA PA1
 go_wp2_with fail
 go_must (refine HPA.out.mono ?_)
 rintro e X1 ⟨v1, rfl, ⟨y1, rfl, hx1⟩, hb1⟩
 obtain ⟨s1, a1, m1, c1, rfl⟩ := iat_shape hx1
 have hbb := below_then hb1 (below_one X1 (.cells #[.bool s1, .slice a1 m1 c1] 32))
 have HB2 := Lib.hid (below_then HB0.out hbb)
 have HL2 := Lib.hid (HL0.out.below hbb)
 have T7 := Lib.hid (IBox.new hx1)
 clear HPA hx1 hb1 hbb HB0 HL0
 go_upto_region 3 with (fail)
 generalize X1.alloc (.cells #[.bool s1, .slice a1 m1 c1] 32) = X2 at *
 generalize X1.heap.size = t7 at *
 rcases HA.out with ⟨rfl, hta, nba⟩ | ⟨hka, rfl, hba⟩
 rotate_left
 ·have hk : (ka != 0) = true := by simpa using hka
  have HBA := Lib.hid hba
  clear HA hka hba
  obtain ⟨⟨r0, r1, r2, r3⟩, r4, r5, r6, r7⟩ := cellsF HL2.out
  have HE := Lib.hid (below_set4 (p := w.heap.size) (u0 := .bool false) (u1 := .slice none 0 0) (u2 := .bool false) (u3 := .slice none 0 0) HB2.out (Nat.le_refl _))
  have HFE := Lib.hid (fat_store (fat_zero _) HL2.out)
  go_wp2_with fail
  refine bodyPost_ret (v := .tuple #[.agg #[.bool false, .slice none 0 0, .bool false, .slice none 0 0], .int .i64 2]) (by simp [results, Tryz.results23, go_sem, r0, r1, r2, r3]) rfl ?_
  exact .inr ⟨fun p q h => h.2.1 (HBA.out p (ftext_cut h HCUT.out).1), _, rfl, ⟨_, rfl, HFE.out⟩, HE.out⟩
 ·have HTA := Lib.hid hta
  have NBA := Lib.hid nba
  clear HA hta nba
  rcases f with _ | _
  ·obtain ⟨s7, a7, m7, c7, l7, h7⟩ := T7.out
   have B7 := Lib.hid l7
   have H7 := Lib.hid h7
   clear l7 h7 T7 PB
   go_upto_region 6 with (fail)
   refine regFP6 (b2 := w.heap.size) (z28 := 1) (p29 := za) (q29 := 1) (fun _ _ d _ _ h => by cases d <;> exact h) (Lib.hid (fun X h => ?ld6)) (Lib.hid (fun X h => HL2.out.below h)) (Lib.hid (fun X h => (FR.out X).mono (fun _ _ => v_i))) (Lib.hid (fun X x28 h k => LW.out X _ _ za 1 (by decide) not_big1 (iat_keeps H7.out h) k)) ?_
   case ld6 =>
    obtain ⟨f0, f1, _, _⟩ := cells2 (B7.out.below h)
    exact ⟨f0, f1⟩
   intro X x28 sv tv av dv mv iv cv jv hB hK
   have HBX := Lib.hid (below_then HB2.out hB.out)
   have hcu := HCUT.out
   have HFT : Hid (FText s za 1) := Lib.hid ⟨low_int za, NBA.out, not_big1, by
    rcases hcu with ⟨h, _⟩ | ⟨_, h, _, _⟩
    ·cases h
    ·rw [← h, HTA.out]; unfold textL; rw [if_pos rfl]⟩
   clear hcu FR LW H7 B7
   have hl9 := HL2.out.below hB.out
   obtain ⟨⟨r0, r1, r2, r3⟩, r4, r5, r6, r7⟩ := cellsF hl9
   have HE := Lib.hid (below_set4 (p := w.heap.size) (u0 := .bool sv) (u1 := .slice av mv cv) (u2 := .bool tv) (u3 := .slice dv iv jv) HBX.out (Nat.le_refl _))
   have HFE := Lib.hid (fat_store hK.out hl9)
   clear hl9
   go_wp2_with fail
   refine bodyPost_ret (v := .tuple #[.agg #[.bool sv, .slice av mv cv, .bool tv, .slice dv iv jv], .int .i64 0]) (by simp [results, Tryz.results23, go_sem, r0, r1, r2, r3]) rfl ?_
   exact .inl ⟨za, 1, HFT.out, _, rfl, ⟨_, rfl, HFE.out⟩, HE.out⟩
  ·obtain ⟨kb, zb, hb, PBX⟩ := PB.out
   have HBB := Lib.hid hb
   have PB1 := PBX X2
   unfold VEnd at PB1
   have HPB := Lib.hid PB1
   clear PB hb PBX PB1
   go_upto_region 7 with (fail)
   go_wp2_with fail
   go_must (refine HPB.out.mono ?_)
   rintro e X3 ⟨v3, rfl, ⟨y3, rfl, hx3⟩, hb3⟩
   obtain ⟨s3, a3, m3, c3, rfl⟩ := iat_shape hx3
   have hbb := below_then hb3 (below_one X3 (.cells #[.bool s3, .slice a3 m3 c3] 32))
   have HB4 := Lib.hid (below_then HB2.out hbb)
   have HL4 := Lib.hid (HL2.out.below hbb)
   have T7' := Lib.hid (T7.out.below hbb)
   have T9 := Lib.hid (IBox.new hx3)
   clear HPB hx3 hb3 hbb HB2 HL2 T7
   go_upto_region 8 with (fail)
   generalize X3.alloc (.cells #[.bool s3, .slice a3 m3 c3] 32) = X4 at *
   generalize X3.heap.size = t9 at *
   unfold IEnd at FR
   go_wp2_with fail
   go_must (refine (FR.out _).mono ?_)
   rintro e X5 ⟨s5, a5, m5, c5, rfl, hx5, hb5⟩
   have hbb := below_then hb5 (below_one X5 (.cells #[.bool s5, .slice a5 m5 c5] 32))
   have HB6 := Lib.hid (below_then HB4.out hbb)
   have HL6 := Lib.hid (HL4.out.below hbb)
   have T7 := Lib.hid (T7'.out.below hbb)
   have T9' := Lib.hid (T9.out.below hbb)
   have T10 := Lib.hid (IBox.new hx5)
   clear FR hx5 hb5 hbb HB4 HL4 T7' T9
   go_upto_region 9 with (fail)
   generalize X5.alloc (.cells #[.bool s5, .slice a5 m5 c5] 32) = X6 at *
   generalize X5.heap.size = t10 at *
   obtain ⟨s7, a7, m7, c7, l7, h7⟩ := T7.out
   obtain ⟨s9, a9, m9, c9, l9, h9⟩ := T9'.out
   obtain ⟨sx, ax, mx, cx, lx, hx⟩ := T10.out
   have B7 := Lib.hid l7
   have B9 := Lib.hid l9
   have BX := Lib.hid lx
   have H7 := Lib.hid h7
   have H9 := Lib.hid h9
   have HX := Lib.hid hx
   have LD9 : Hid (∀ X : World, Below X6.heap.size X6 X → X.cell? ⟨t7, 0, none⟩ = some (.bool s7) ∧ X.cell? ⟨t7, 1, none⟩ = some (.slice a7 m7 c7) ∧ X.cell? ⟨t9, 0, none⟩ = some (.bool s9) ∧ X.cell? ⟨t9, 1, none⟩ = some (.slice a9 m9 c9) ∧ X.cell? ⟨t10, 0, none⟩ = some (.bool sx) ∧ X.cell? ⟨t10, 1, none⟩ = some (.slice ax mx cx)) := Lib.hid (fun X h => by
    obtain ⟨f0, f1, _, _⟩ := cells2 (B7.out.below h)
    obtain ⟨f2, f3, _, _⟩ := cells2 (B9.out.below h)
    obtain ⟨f4, f5, _, _⟩ := cells2 (BX.out.below h)
    exact ⟨f0, f1, f2, f3, f4, f5⟩)
   clear l7 h7 l9 h9 lx hx T7 T9' T10
   rcases HBB.out with ⟨rfl, htb, nbb⟩ | ⟨hkb, rfl, hbb⟩
   rotate_left
   ·have hk : (kb != 0) = true := by simpa using hkb
    have HBX := Lib.hid hbb
    clear HBB hkb hbb
    refine regFP9A (fun _ _ d _ _ h => by cases d <;> exact h) hk LD9 ?_
    intro X hB
    have hBW := below_then HB6.out hB.out
    have hLW := HL6.out.below hB.out
    obtain ⟨⟨r0, r1, r2, r3⟩, r4, r5, r6, r7⟩ := cellsF hLW
    have HE := Lib.hid (below_set4 (p := w.heap.size) (u0 := .bool false) (u1 := .slice none 0 0) (u2 := .bool false) (u3 := .slice none 0 0) hBW (Nat.le_refl _))
    have HFE := Lib.hid (fat_store (fat_zero _) hLW)
    go_wp2_with fail
    refine bodyPost_ret (v := .tuple #[.agg #[.bool false, .slice none 0 0, .bool false, .slice none 0 0], .int .i64 2]) (by simp [results, Tryz.results23, go_sem, r0, r1, r2, r3]) rfl ?_
    exact .inr ⟨fun p q h => h.2.2.1 (HBX.out q ((ftext_cut h HCUT.out).2.1 rfl).1), _, rfl, ⟨_, rfl, HFE.out⟩, HE.out⟩
   ·have HTB := Lib.hid htb
    have NBB := Lib.hid nbb
    have CP : Hid (∀ X u v z y, ¬ big z → ¬ big y → IAt X u z → IAt X v y → Calls Tryz.prog 35 #[u, v] X (VEnd (KX (.int .i64 (cmpZ z y))) X)) := Lib.hid (fun X u v z y h1 h2 h3 h4 => (wCompare_any u v z y X h3 h4 (low_len h1) (low_len h2)).mono (fun _ _ => v_c))
    obtain ⟨c41, hc41⟩ : ∃ c41, c41 = cmpZ zb 1 := ⟨_, rfl⟩
    have C41 : Hid (∀ X, Below X6.heap.size X6 X → Calls Tryz.prog 35 #[.agg #[.bool s9, .slice a9 m9 c9], .agg #[.bool sx, .slice ax mx cx]] X (VEnd (KX (.int .i64 c41)) X)) := Lib.hid (fun X h => by rw [hc41]; exact CP.out X _ _ _ _ nbb not_big1 (iat_keeps H9.out h) (iat_keeps HX.out h))
    clear HBB htb nbb
    rcases Classical.em (zb ≤ 1) with hz1 | hz1
    ·have hle : decide (c41 ≤ 0) = true := by rw [hc41]; unfold cmpZ; simp; split; omega; rw [if_neg (by omega)]; omega
     have HZ := Lib.hid hz1
     clear hc41 hz1
     refine regFP9B (fun _ _ d _ _ h => by cases d <;> exact h) hle LD9 C41 ?_
     intro X hB
     have hBW := below_then HB6.out hB.out
     have hLW := HL6.out.below hB.out
     clear hle C41
     obtain ⟨⟨r0, r1, r2, r3⟩, r4, r5, r6, r7⟩ := cellsF hLW
     have HE := Lib.hid (below_set4 (p := w.heap.size) (u0 := .bool false) (u1 := .slice none 0 0) (u2 := .bool false) (u3 := .slice none 0 0) hBW (Nat.le_refl _))
     have HFE := Lib.hid (fat_store (fat_zero _) hLW)
     go_wp2_with fail
     refine bodyPost_ret (v := .tuple #[.agg #[.bool false, .slice none 0 0, .bool false, .slice none 0 0], .int .i64 2]) (by simp [results, Tryz.results23, go_sem, r0, r1, r2, r3]) rfl ?_
     exact .inr ⟨fun p q h => by
       have h1 := (ftext_cut h HCUT.out).2.1 rfl
       have h2 := txtN_inj (HTB.out.symm.trans h1.1)
       have := h.1.pos
       have := HZ.out
       have := h1.2
       omega, _, rfl, ⟨_, rfl, HFE.out⟩, HE.out⟩
    ·have hle : decide (c41 ≤ 0) = false := by rw [hc41]; unfold cmpZ; rw [if_neg (by omega), if_pos (by omega)]; rfl
     have HZ := Lib.hid hz1
     obtain ⟨g, hg⟩ : ∃ g : Int, g = ((Int.gcd za zb : Nat) : Int) := ⟨_, rfl⟩
     have GC : Hid (∀ X, Below X6.heap.size X6 X → Calls Tryz.prog 41 #[.agg #[.bool s7, .slice a7 m7 c7], .agg #[.bool s9, .slice a9 m9 c9]] X (VEnd (KI g) X)) := Lib.hid (fun X h => hg ▸ (wGcd_any _ _ za zb X (iat_keeps H7.out h) (iat_keeps H9.out h) (low_len NBA.out) (low_len NBB.out)).mono (fun _ _ => v_i))
     have NG : ¬ big g := by
      have h1 : (digsW g.natAbs).length ≤ 512 := wlen_le (a := g) (b := zb) (by rw [hg, Int.natAbs_natCast]; exact Int.gcd_le_natAbs_right za (by have := HZ.out; omega)) (by have := NBB.out; unfold big at this; omega)
      unfold big; omega
     obtain ⟨c49, hc49⟩ : ∃ c49, c49 = cmpZ g 1 := ⟨_, rfl⟩
     have C49 : Hid (∀ X x47, Below X6.heap.size X6 X → KI g X x47 → Calls Tryz.prog 35 #[x47, .agg #[.bool sx, .slice ax mx cx]] X (VEnd (KX (.int .i64 c49)) X)) := Lib.hid (fun X x47 h k => by rw [hc49]; exact CP.out X _ _ _ _ NG not_big1 k (iat_keeps HX.out h))
     have HC49 : Hid ((c49 != 0) = false ↔ g = 1) := Lib.hid (by rw [hc49]; simp [cmp_eq0])
     have HG := Lib.hid hg
     clear hc41 hz1 hc49 NG hg
     obtain ⟨b50, hb50⟩ : ∃ b50, (c49 != 0) = b50 := ⟨_, rfl⟩
     refine regFP9C (fun _ _ d _ _ h => by cases d <;> exact h) hle hb50 LD9 C41 GC C49 ?_
     intro X x47 hB _
     rw [hb50] at HC49
     have hBW := below_then HB6.out hB.out
     have hLW := HL6.out.below hB.out
     clear hle hb50 C41 GC C49
     rcases b50 with _ | _
     ·have hg1 : g = 1 := HC49.out.1 rfl
      have HFT : Hid (FText s za zb) := Lib.hid ⟨⟨by have := HZ.out; omega, by have := HG.out; rw [hg1] at this; omega⟩, NBA.out, NBB.out, by
       rcases HCUT.out with ⟨_, h, _⟩ | ⟨h, _⟩
       ·rw [h, HTA.out, HTB.out]; unfold textL; rw [if_neg (by have := HZ.out; omega)]
       ·cases h⟩
      obtain ⟨f0, f1, f2, f3, _, _⟩ := LD9.out X hB.out
      have HLW := LW.out X _ _ za zb (by have := HZ.out; omega) NBB.out (iat_keeps H7.out hB.out) (iat_keeps H9.out hB.out)
      unfold FEnd at HLW
      have HLW := Lib.hid HLW
      have HBW := Lib.hid hBW
      have HLL := Lib.hid hLW
      clear LW hBW hLW HC49 hg1
      go_wp2_with fail
      go_must (refine HLW.out.mono ?_)
      rintro e X9 ⟨v9, rfl, hx9, hb9⟩
      obtain ⟨sv, tv, av, dv, mv, iv, cv, jv, rfl⟩ := fat_shape hx9
      have HB9 := Lib.hid (below_then HBW.out hb9)
      have HL9 := Lib.hid (HLL.out.below hb9)
      have HK9 := Lib.hid hx9
      clear HLW f0 f1 f2 f3 hx9 hb9
      have hl9 := HL9.out
      obtain ⟨⟨r0, r1, r2, r3⟩, r4, r5, r6, r7⟩ := cellsF hl9
      have HE := Lib.hid (below_set4 (p := w.heap.size) (u0 := .bool sv) (u1 := .slice av mv cv) (u2 := .bool tv) (u3 := .slice dv iv jv) HB9.out (Nat.le_refl _))
      have HFE := Lib.hid (fat_store HK9.out hl9)
      clear hl9
      go_wp2_with fail
      refine bodyPost_ret (v := .tuple #[.agg #[.bool sv, .slice av mv cv, .bool tv, .slice dv iv jv], .int .i64 0]) (by simp [results, Tryz.results23, go_sem, r0, r1, r2, r3]) rfl ?_
      exact .inl ⟨za, zb, HFT.out, _, rfl, ⟨_, rfl, HFE.out⟩, HE.out⟩
     ·have HG1 : Hid (g ≠ 1) := Lib.hid (fun h => by cases HC49.out.2 h)
      clear HC49
      obtain ⟨⟨r0, r1, r2, r3⟩, r4, r5, r6, r7⟩ := cellsF hLW
      have HE := Lib.hid (below_set4 (p := w.heap.size) (u0 := .bool false) (u1 := .slice none 0 0) (u2 := .bool false) (u3 := .slice none 0 0) hBW (Nat.le_refl _))
      have HFE := Lib.hid (fat_store (fat_zero _) hLW)
      go_wp2_with fail
      refine bodyPost_ret (v := .tuple #[.agg #[.bool false, .slice none 0 0, .bool false, .slice none 0 0], .int .i64 2]) (by simp [results, Tryz.results23, go_sem, r0, r1, r2, r3]) rfl ?_
      exact .inr ⟨fun p q h => by
        have h1 := (ftext_cut h HCUT.out).2.1 rfl
        have h2 := txtN_inj (HTB.out.symm.trans h1.1)
        have h3 := txtN_inj (HTA.out.symm.trans (ftext_cut h HCUT.out).1)
        have := h.1.cop
        subst h2 h3
        exact HG1.out (by rw [HG.out, this]; rfl), _, rfl, ⟨_, rfl, HFE.out⟩, HE.out⟩
end Go.Proofs.YtepakogbbomaoaaGreatDoor
