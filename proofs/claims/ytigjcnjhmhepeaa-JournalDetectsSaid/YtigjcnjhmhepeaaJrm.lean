/-
  The walk of the law JournalDetects.
-/
import Derived.Test.YtigjcnjhmhepeaaJrk
namespace Go.Proofs.Ytigjcnjhmhepeaa
open Go.RowKit Go.Shelf
set_option linter.unusedVariables false

set_option maxRecDepth 100000 in
set_option maxHeartbeats 4000000 in
theorem flip_fin : ∀ (m : Fin 8) (x : Fin 256), 0 ≤ bits BinOp.xor IntKind.u8 (x.val : Int) ((2 : Int) ^ m.val % 256) ∧ bits BinOp.xor IntKind.u8 (x.val : Int) ((2 : Int) ^ m.val % 256) < 256 ∧ bits BinOp.xor IntKind.u8 (x.val : Int) ((2 : Int) ^ m.val % 256) ≠ (x.val : Int) := by decide +kernel
theorem flip_byte {x m : Nat} (hx : x < 256) (hm : m < 8) : ∃ b : Nat, bits BinOp.xor IntKind.u8 (x : Int) ((2 : Int) ^ m % 256) = (b : Int) ∧ b < 256 ∧ b ≠ x := by
  obtain ⟨h1, h2, h3⟩ := flip_fin ⟨m, hm⟩ ⟨x, hx⟩
  simp only at h1 h2 h3
  exact ⟨(bits BinOp.xor IntKind.u8 (x : Int) ((2 : Int) ^ m % 256)).toNat, by omega, by omega, by omega⟩

theorem fresh_off {A : Foot} {B : Nat} {e : TypeId} {k : IntKind} {w w' : World} {v : Value} {zs : List Int} (h : Fresh B e k w v zs) (hk : Keeps A w w') (hn : ∀ j, blockOf v j → ¬ A j) : Fresh B e k w' v zs :=
  own_foot h hk (fun j hj => hn j (own_block h j hj))

theorem varN_split {a b : Nat} (ha : a < 18446744073709551616) (hb : b < 18446744073709551616) {x y : List Nat} (h : varN a ++ x = varN b ++ y) : a = b ∧ x = y := by
  have h1 := rUint_round ha x
  have h2 := rUint_round hb y
  rw [h, h2] at h1
  injection h1 with h3 h4
  injection h4 with h4 _
  exact ⟨h3.symm, h4.symm⟩

/-- One changed byte behind the length at the beginning of a frame: no frame stands there any more. -/
theorem flip_none {O : List Nat} (hO : ∀ c ∈ O, c < 256) (hO2 : O.length ≤ 1000) {p b : Nat} (hp1 : (varN (coreN 0 O).length).length ≤ p) (hp2 : p < (frameN 0 O).length) (hb : b < 256) (hne : (frameN 0 O)[p]? ≠ some b) :
    scanP 0 ((frameN 0 O).set p b) = [] := by
  refine scanP_no fun hpre => ?_
  have hT8 : ∀ c ∈ (frameN 0 O).set p b, c < 256 := fun c hc => by
    rcases List.mem_or_eq_of_mem_set hc with h1 | h1
    · exact frameN_lt hO c h1
    · omega
  have hX8 := headN_lt hT8
  have hXl := headN_len ((frameN 0 O).set p b)
  have hFl := frameN_len (n := 0) (by decide) (b := O) (by omega)
  rw [List.length_set] at hXl
  generalize hT : (frameN 0 O).set p b = T at *
  generalize headN T = X at *
  have hCl := coreN_len (n := 0) (by decide) (b := O) (by omega)
  have hC8 := coreN_lt (n := 0) hO
  have hCXl := coreN_len (n := 0) (by decide) (b := X) (by omega)
  have hCX8 := coreN_lt (n := 0) hX8
  have hcast : (((0 : Nat) : Int)) = 0 := rfl
  rw [hcast] at hpre
  obtain ⟨t, ht⟩ := hpre
  unfold frameN at ht hT hp2 hne
  have hh := bytesN_lt frameL (coreN 0 O)
  have hhX := bytesN_lt frameL (coreN 0 X)
  generalize coreN 0 O = C at *
  generalize coreN 0 X = D at *
  -- the changed frame, cut behind the length
  have hT2 : T = varN C.length ++ ((C ++ varN (bytesN frameL C)).set (p - (varN C.length).length) b) := by
    rw [← hT, List.append_assoc, List.set_append]
    rw [if_neg (by omega)]
  rw [hT2, List.append_assoc, List.append_assoc] at ht
  obtain ⟨hlen, hrest⟩ := varN_split (by omega) (by omega) ht
  have hF : (varN C.length ++ C ++ varN (bytesN frameL C))[p]? = (C ++ varN (bytesN frameL C))[p - (varN C.length).length]? := by
    rw [List.append_assoc, List.getElem?_append_right hp1]
  rw [hF] at hne
  rw [List.length_append, List.length_append] at hp2
  generalize hq : p - (varN C.length).length = q at *
  by_cases hqc : q < C.length
  · rw [List.set_append, if_pos hqc] at hrest
    obtain ⟨hD, hS⟩ := List.append_inj hrest (by rw [List.length_set]; exact hlen)
    obtain ⟨hh2, _⟩ := varN_split hhX hh (x := t) (y := []) (by rw [hS, List.append_nil])
    have hCD : C = D := group_inj frameL (q := q / 8) (by rw [hD, List.length_set]) hC8 hCX8 (fun i hi => by
      rw [hD, List.getElem?_set_ne (fun e => hi (by rw [e]))]) hh2.symm
    refine hne ?_
    rw [List.getElem?_append_left hqc, hCD, hD, List.getElem?_set_self hqc]
  · rw [List.set_append, if_neg hqc] at hrest
    obtain ⟨hD, hS⟩ := List.append_inj hrest hlen
    rw [hD] at hS
    have hS2 : t = [] := by
      have := congrArg List.length hS
      rw [List.length_append, List.length_set] at this
      exact List.eq_nil_of_length_eq_zero (by omega)
    rw [hS2, List.append_nil] at hS
    refine hne ?_
    rw [List.getElem?_append_right (by omega), hS, List.getElem?_set_self (by omega)]

theorem scan_one {O : List Nat} (h : O.length ≤ 1000) : scanP 0 (frameN 0 O) = [(O, (frameN 0 O).length)] := by
  have h1 := scanP_frames [O] 0 [] (by simp) (fun x hx => by
    have e : x = O := by simpa using hx
    rw [e]; omega)
  have e2 : framesN 0 [O] = frameN 0 O := by
    rw [framesN, framesN, List.append_nil]; rfl
  rw [scanP_nil, List.append_nil, List.append_nil, e2] at h1
  rw [h1, pairsN, pairsN]
  rfl

set_option maxRecDepth 100000 in
set_option maxHeartbeats 8000000 in
theorem walk_JournalDetects (vb : Value) (b : List Int) (bit : Int) (w : World) (hvb : Row .u8 w vb b) (hb : ∀ n ∈ b, 0 ≤ n ∧ n ≤ 255) (hbit : -9223372036854775808 ≤ bit ∧ bit ≤ 9223372036854775807) :
    Calls Try.prog 5 #[vb, .int .i64 bit] w fun e w' => e = .returned (.bool true) ∧ Below w.heap.size w w' := by
  have HBIT := Lib.hid hbit
  have HBR : Hid (∀ n ∈ b.take 200, 0 ≤ n ∧ n ≤ 255) := Lib.hid (fun n hn => hb n (List.mem_of_mem_take hn))
  have HFEW := Lib.hid (refFew_any vb b 200 w hvb (by decide))
  have hb200 : (b.take 200).length ≤ 200 := by rw [List.length_take]; omega
  obtain ⟨O, hO⟩ : ∃ O, toNats (b.take 200) = O := ⟨_, rfl⟩
  have hOn : b.take 200 = natI O := by rw [← hO, natI_toNats HBR.out]
  have HO8 : Hid (∀ c ∈ O, c < 256) := Lib.hid (by rw [← hO]; exact toNats_mem HBR.out)
  rw [hOn] at HFEW hb200
  rw [natI_length] at hb200
  clear hvb hb hbit HBR hO hOn
  have HFLIP := Lib.hid (fun p q => flip_none (O := O) HO8.out (by omega) (p := p) (b := q))
  have HONE := Lib.hid (scan_one (O := O) (by omega))
  have HF8 := Lib.hid (frameN_lt (n := 0) HO8.out)
  have hFl := frameN_len (n := 0) (by decide) (b := O) (by omega)
  have HFDEF : Hid (frameN 0 O = varN (coreN 0 O).length ++ coreN 0 O ++ (varN (bytesN frameL (coreN 0 O)) ++ [])) := Lib.hid (by rw [frameN, List.append_nil])
  have hCl := coreN_len (n := 0) (by decide) (b := O) (by omega)
  have HC8 := Lib.hid (coreN_lt (n := 0) HO8.out)
  have HCD : Hid (coreN 0 O = varN (zigN 0) ++ (varN O.length ++ O)) := Lib.hid (by rw [coreN])
  have HFRM := Lib.hid (fun (v : Value) (w : World) h1 h2 => devFrame_any 0 v O w (by decide) h1 HO8.out h2 (by omega))
  have HH := Lib.hid (bytesN_lt frameL (coreN 0 O))
  generalize frameN 0 O = F at *
  generalize coreN 0 O = C at *
  have hAL : (varN C.length).length < F.length := by
    rw [HFDEF.out]
    have := varN_pos (bytesN frameL C)
    simp only [List.length_append, List.length_nil]
    omega
  go_enter Try.func5, Try.ntmps5
  go_wp2_with fail
  rw [show ((200 : Nat) : Int) = 200 from rfl] at HFEW
  refine HFEW.out.mono ?_
  rintro e w1 ⟨v1, rfl, hf1, hb1⟩
  have HF1 := Lib.hid hf1
  obtain ⟨a1, c1, rfl, _, _⟩ := fresh_elems hf1
  simp only [natI_length] at *
  clear hf1 HFEW
  go_wp2_with fail
  refine (HFRM.out _ w1 (row_of_fresh HF1.out) (fresh_block HF1.out)).mono ?_
  rintro e w2 ⟨f, rfl, hf2, hb2⟩
  have hb12 := below_then hb1 hb2
  have hs2 := hb2.size
  have HF12 := Lib.hid (fresh_keeps HF1.out hb2)
  obtain ⟨gf, cf, rfl, hgf, hgl, hcf⟩ := fresh_some hf2 (fun e => by have h1 := congrArg List.length e; rw [natI_length, List.length_nil] at h1; omega)
  simp only [natI_length] at *
  have HD2 := Lib.hid (fresh_mono hf2 (Nat.le_trans hb1.size (Nat.le_refl _)))
  have hs1 := hb1.size
  clear hf2 hb2 hb1 HF1 HFRM
  go_wp2_with fail
  -- the core, written anew
  have hW3 := wr_new w2
  have hb3 : Below w2.heap.size w2 (w2.alloc (.cells #[.slice none 0 0] 37)) := (Below.refl _ w2).alloc (Nat.le_refl _) _
  have hs3 : (w2.alloc (.cells #[.slice none 0 0] 37)).heap.size = w2.heap.size + 1 := by simp
  generalize w2.alloc (.cells #[.slice none 0 0] 37) = w3 at *
  have HB3 := Lib.hid (below_then hb12 hb3)
  have HO3 := Lib.hid (fresh_keeps HF12.out hb3)
  have HD3 := Lib.hid (fresh_keeps HD2.out hb3)
  have hOb : ∀ j, blockOf (.slice a1 O.length c1) j → j < w2.heap.size := fresh_block HF12.out
  have HOB := Lib.hid hOb
  clear hb3 hb12 HF12 HD2 hOb
  refine (devInt_any _ _ [] 0 w3 hW3 (by decide) (by simp)).mono ?_
  rintro e w4 ⟨rfl, g4, hw4, hg4, hk4⟩
  rw [List.nil_append] at hw4
  have hs4 := hk4.size
  have HW4 := Lib.hid hw4
  have HB4 := Lib.hid (below_foot HB3.out hk4 (by omega) (fun k hk => by omega))
  have HD4 := Lib.hid (fresh_far HD3.out hk4 (by omega))
  have HO4 := Lib.hid (row_foot (row_of_fresh HO3.out) hk4 (fun j hj hn => by have := HOB.out j hj; omega))
  clear hW3 hk4 hw4 HB3 HD3 HO3
  go_wp2_with fail
  refine (devRaw_any _ _ _ _ O w4 HW4.out HO4.out (fun j hj => by have := HOB.out j hj; omega) (by have := varN_len10 (n := zigN 0) (by decide); omega)).mono ?_
  rintro e w5 ⟨rfl, g5, hw5, hg5, hk5⟩
  rw [← HCD.out] at hw5
  have hl4 := HW4.out.lts
  have hs5 := hk5.size
  have HW5 := Lib.hid hw5
  have HB5 := Lib.hid (below_foot HB4.out hk5 (by omega) (fun k hk => by omega))
  have HD5 := Lib.hid (fresh_far HD4.out hk5 (by omega))
  clear hk5 hw5 HB4 HD4 HO4 HW4
  go_wp2_with fail
  refine (devDone_any _ _ _ w5 HW5.out (by omega)).mono ?_
  rintro e w6 ⟨c, rfl, hc6, hb6⟩
  obtain ⟨ca, cc, rfl, _, _⟩ := fresh_elems hc6
  simp only [natI_length] at *
  have hs6 := hb6.size
  have HC6 := Lib.hid hc6
  have HB6 := Lib.hid (below_then HB5.out hb6)
  have HD6 := Lib.hid (fresh_keeps HD5.out hb6)
  clear hc6 hb6 HB5 HD5 HW5
  go_wp2_with fail
  -- the length ahead
  have hW7 := wr_new w6
  have hb7 : Below w6.heap.size w6 (w6.alloc (.cells #[.slice none 0 0] 37)) := (Below.refl _ w6).alloc (Nat.le_refl _) _
  have hs7 : (w6.alloc (.cells #[.slice none 0 0] 37)).heap.size = w6.heap.size + 1 := by simp
  generalize w6.alloc (.cells #[.slice none 0 0] 37) = w7 at *
  have HB7 := Lib.hid (below_then HB6.out hb7)
  have HD7 := Lib.hid (fresh_keeps HD6.out hb7)
  have HC7 := Lib.hid (fresh_keeps HC6.out hb7)
  have hCb : ∀ j, blockOf (.slice ca C.length cc) j → j < w6.heap.size := fresh_block HC6.out
  have HCB := Lib.hid hCb
  clear hb7 HB6 HD6 HC6 hCb
  refine (devUint_any _ _ [] C.length w7 hW7 (by omega) (by simp)).mono ?_
  rintro e w8 ⟨rfl, g8, hw8, hg8, hk8⟩
  rw [List.nil_append] at hw8
  have hs8 := hk8.size
  have HW8 := Lib.hid hw8
  have HB8 := Lib.hid (below_foot HB7.out hk8 (by omega) (fun k hk => by omega))
  have HD8 := Lib.hid (fresh_far HD7.out hk8 (by omega))
  have HC8' := Lib.hid (fresh_off HC7.out hk8 (fun k hk hn => by have := HCB.out k hk; omega))
  have HAHL := Lib.hid (varN_len10 (n := C.length) (by omega))
  clear hW7 hk8 hw8 HB7 HD7 HC7
  generalize hH : varN C.length = H at *
  have HHD : Hid (varN C.length = H) := Lib.hid hH
  clear hH
  have hH10 := HAHL.out
  go_wp2_with fail
  refine (devDone_any _ _ _ w8 HW8.out (by omega)).mono ?_
  rintro e w9 ⟨d, rfl, hd9, hb9⟩
  obtain ⟨da, dc, rfl, _, _⟩ := fresh_elems hd9
  simp only [natI_length] at *
  have hs9 := hb9.size
  have HB9 := Lib.hid (below_then HB8.out hb9)
  have HD9 := Lib.hid (fresh_keeps HD8.out hb9)
  have HC9 := Lib.hid (fresh_keeps HC8'.out hb9)
  have HW9 := Lib.hid (wr_below HW8.out hb9)
  have hl8 := HW8.out.lts
  clear hd9 hb9 HB8 HD8 HC8' HW8
  go_wp2_with fail
  refine (devRaw_any _ _ _ _ C w9 HW9.out (row_of_fresh HC9.out) (fun j hj => by have := HCB.out j hj; omega) (by omega)).mono ?_
  rintro e w10 ⟨rfl, g10, _, hg10, hk10⟩
  have hs10 := hk10.size
  have HB10 := Lib.hid (below_foot HB9.out hk10 (by omega) (fun k hk => by omega))
  have HD10 := Lib.hid (fresh_far HD9.out hk10 (by omega))
  have HC10 := Lib.hid (fresh_off HC9.out hk10 (fun k hk hn => by have := HCB.out k hk; omega))
  clear hk10 HB9 HD9 HC9 HW9
  obtain ⟨D, hD⟩ : ∃ D, F.length = H.length + D := ⟨F.length - H.length, by omega⟩
  have hsub : ((F.length : Int) - (H.length : Int)) = (D : Int) := by omega
  have HMUL : Hid ((8 : Int) * (D : Int) = ((8 * D : Nat) : Int)) := Lib.hid (by omega)
  have HDF := Lib.hid hD
  have hD1 : 1 ≤ D ∧ D ≤ 300 := by omega
  have hHF : H.length ≤ 10 ∧ F.length ≤ 300 := by omega
  clear hD
  go_wp2_with fail
  rw [HMUL.out]
  have hJ : 0 ≤ aroundI bit ((8 * D : Nat) : Int) ∧ aroundI bit ((8 * D : Nat) : Int) < ((8 * D : Nat) : Int) := ⟨Int.emod_nonneg _ (by omega), Int.emod_lt_of_pos _ (by omega)⟩
  refine (around_any bit (8 * D) w10 HBIT.out (by omega) (by omega)).mono ?_
  rintro e w11 ⟨rfl, rfl⟩
  obtain ⟨K, hK⟩ : ∃ K : Nat, aroundI bit ((8 * D : Nat) : Int) = (K : Int) := ⟨(aroundI bit ((8 * D : Nat) : Int)).toNat, by omega⟩
  rw [hK] at hJ ⊢
  have hK8 : K < 8 * D := by omega
  have HFEW2 := Lib.hid (refFew_any _ (natI F) F.length w10 (row_of_fresh HD10.out) (by omega))
  rw [List.take_of_length_le (by rw [natI_length]; exact Nat.le_refl _)] at HFEW2
  clear hK hJ hsub HBIT
  go_wp2_with fail
  refine HFEW2.out.mono ?_
  rintro e w11 ⟨tv, rfl, ht11, hb11⟩
  obtain ⟨gt, ct, rfl, hgt, hgtl, hct⟩ := fresh_some ht11 (fun e => by have h1 := congrArg List.length e; rw [natI_length, List.length_nil] at h1; omega)
  simp only [natI_length] at *
  have HT11 := Lib.hid ht11
  have HB11 := Lib.hid (below_then HB10.out hb11)
  have HD11 := Lib.hid (fresh_keeps HD10.out hb11)
  have HC11 := Lib.hid (fresh_keeps HC10.out hb11)
  have hs11 := hb11.size
  clear ht11 hb11 HB10 HD10 HC10 HFEW2
  have htd : Int.tdiv (K : Int) 8 = ((K / 8 : Nat) : Int) := by rw [Int.tdiv_eq_ediv_of_nonneg (by omega)]; omega
  have htm : Int.tmod (K : Int) 8 = ((K % 8 : Nat) : Int) := by rw [Int.tmod_eq_emod_of_nonneg (by omega)]; omega
  obtain ⟨Q, hQ⟩ : ∃ Q, K / 8 = Q := ⟨_, rfl⟩
  obtain ⟨M, hM⟩ : ∃ M, K % 8 = M := ⟨_, rfl⟩
  rw [hQ] at htd
  rw [hM] at htm
  have hQM : Q < D ∧ M < 8 := by omega
  have hpF : H.length + Q < F.length := by have := HDF.out; omega
  clear hQ hM
  obtain ⟨x, hx⟩ : ∃ x, F[H.length + Q]? = some x := ⟨_, List.getElem?_eq_getElem hpF⟩
  have hxc : w11.cell? ⟨gt, H.length + Q, none⟩ = some (.int .u8 (x : Int)) := by
    have := fresh_cell HT11.out (j := H.length + Q) (by rw [natI_length]; exact hpF)
    rw [natI_getD, hx] at this
    exact this
  have hxf : w11.frozen? ⟨gt, H.length + Q, none⟩ = false := fresh_frozen2 HT11.out (natI_length F).symm _
  have HXX := Lib.hid hx
  have hx8 : x < 256 := HF8.out x (List.mem_of_getElem? hx)
  clear hx
  go_wp2_with fail
  obtain ⟨y, hy, hy8, hyx⟩ := flip_byte hx8 hQM.2
  rw [hy]
  have hst := (fresh_store2 HT11.out (natI_length F).symm (H.length + Q) (y : Int)).1
  rw [show (natI F).set (H.length + Q) (y : Int) = natI (F.set (H.length + Q) y) by simp [natI, List.map_set]] at hst
  have hkt := keeps_set w11 gt (H.length + Q) (.int .u8 (y : Int))
  have hnone := HFLIP.out (H.length + Q) y (by omega) hpF hy8 (by rw [HXX.out]; exact fun e => hyx (by injection e with e; exact e.symm))
  have HT8 : Hid (∀ c ∈ F.set (H.length + Q) y, c < 256) := Lib.hid (fun c hc => by
    rcases List.mem_or_eq_of_mem_set hc with h1 | h1
    · exact HF8.out c h1
    · omega)
  have hTl : (F.set (H.length + Q) y).length ≤ 300 := by rw [List.length_set]; omega
  have HS1 := Lib.hid (fun (W : World) h1 h2 => devScan_any (.slice (some ⟨gt, 0, none⟩) F.length ct) (F.set (H.length + Q) y) W h1 HT8.out h2 (by omega))
  unfold ScanEnd at HS1
  rw [hnone] at HS1
  have HS2 := Lib.hid (fun (v : Value) (W : World) h1 h2 => devScan_any v F W h1 HF8.out h2 (by omega))
  unfold ScanEnd at HS2
  rw [HONE.out] at HS2
  simp only [List.map_nil, List.map_cons, List.sum_nil, List.sum_cons, Nat.add_zero] at HS1 HS2
  have HRAW : Hid (rRaw (F, 0) = (C, (varN (bytesN frameL C) ++ [], 0))) := Lib.hid (by rw [HFDEF.out, ← HHD.out]; exact rRaw_round (l := C) (by omega) _)
  have HUI : Hid (rUint (varN (bytesN frameL C) ++ [], 0) = (bytesN frameL C, ([], 0))) := Lib.hid (rUint_round HH.out [])
  have hgft : gf < gt := by omega
  have HB12 := Lib.hid (below_foot HB11.out hkt (by have := HB11.out.size; omega) (fun k hk => by have := HB11.out.size; omega))
  have HD12 := Lib.hid (fresh_far HD11.out hkt (by omega))
  have HC12 := Lib.hid (fresh_off HC11.out hkt (fun k hk hn => by have := HCB.out k hk; omega))
  have HT12 := Lib.hid hst
  have hs12 := hkt.size
  clear hst hkt hy hyx hnone HB11 HD11 HC11 HT11 hxc hxf HFLIP HONE HXX HFDEF HHD HDF htd htm
  generalize w11.setCell ⟨gt, H.length + Q, none⟩ (.int .u8 (y : Int)) = w12 at *
  refine (HS1.out w12 (row_of_fresh HT12.out) (fresh_block HT12.out)).mono ?_
  rintro e w13 ⟨u, us, rfl, hu, hb13⟩
  obtain ⟨ua, uc, rfl, _, _⟩ := lown_form hu
  have hs13 := hb13.size
  have HB13 := Lib.hid (below_then HB12.out hb13)
  have HD13 := Lib.hid (fresh_keeps HD12.out hb13)
  have HC13 := Lib.hid (fresh_keeps HC12.out hb13)
  clear hu hb13 HB12 HD12 HC12 HT12 HS1 HT8 hTl
  go_wp2_with fail
  refine (HS2.out _ w13 (row_of_fresh HD13.out) (fresh_block HD13.out)).mono ?_
  rintro e w14 ⟨q, qs, rfl, hq, hb14⟩
  obtain ⟨qa, qc, rfl, _, _⟩ := lown_form hq
  have hs14 := hb14.size
  have HB14 := Lib.hid (below_then HB13.out hb14)
  have HD14 := Lib.hid (fresh_keeps HD13.out hb14)
  have HC14 := Lib.hid (fresh_keeps HC13.out hb14)
  clear hq hb14 HB13 HD13 HC13 HS2
  go_wp2_with fail
  refine (devRead_any _ F w14 (row_of_fresh HD14.out) HF8.out (by omega)).mono ?_
  rintro e w15 ⟨r, rb, rfl, hr15, hrr, hrb, hrb2, hb15⟩
  have hs15 := hb15.size
  have hrl15 := (rx_of hr15).lts
  have HX15 := Lib.hid (rx_of hr15)
  have HB15 := Lib.hid (below_then HB14.out hb15)
  have HC15 := Lib.hid (fresh_keeps HC14.out hb15)
  clear hr15 hb15 HB14 HC14 HD14
  go_wp2_with fail
  refine (devRdRaw_any r rb (F, 0) w15 HX15.out HF8.out hrb2).mono ?_
  rw [HRAW.out]
  rintro e w16 ⟨iv, rfl, hiv, hx16, hk16⟩
  have hs16 := hk16.size
  have HX16 := Lib.hid hx16
  have HI16 := Lib.hid hiv
  have HB16 := Lib.hid (below_foot HB15.out hk16 (by have := HB15.out.size; omega) (fun k hk => by have := HB15.out.size; omega))
  have HC16 := Lib.hid (fresh_off HC15.out hk16 (fun k hk hn => by have := HCB.out k hk; omega))
  clear hiv hx16 hk16 HB15 HC15 HX15
  go_wp2_with fail
  refine (devRdUint_any r rb (varN (bytesN frameL C) ++ [], 0) w16 HX16.out).mono ?_
  rw [HUI.out]
  rintro e w17 ⟨rfl, hx17, hk17⟩
  have hs17 := hk17.size
  have hivb := fresh_block HI16.out
  have HX17 := Lib.hid hx17
  have HB17 := Lib.hid (below_foot HB16.out hk17 (by have := HB16.out.size; omega) (fun k hk => by have := HB16.out.size; omega))
  have HC17 := Lib.hid (fresh_off HC16.out hk17 (fun k hk hn => by have := HCB.out k hk; omega))
  have HI17 := Lib.hid (fresh_off HI16.out hk17 (fun k hk hn => by
    rcases fresh_form HI16.out with ⟨h1, _⟩ | ⟨g, c, h1, h2, h3, _⟩
    · rw [h1] at hk; exact hk.elim
    · rw [h1] at hk; have : k = g := hk; omega))
  have HHB := Lib.hid (fun (W : World) h1 h2 => bytes_any { data := #[102, 114, 97, 109, 101] } (.slice ca C.length cc) C W (by decide) h1 h2 (by omega))
  have HHE : Hid (bytesN (strN { data := #[102, 114, 97, 109, 101] }) C = bytesN frameL C) := Lib.hid rfl
  rw [HHE.out] at HHB
  clear hx17 hk17 HB16 HC16 HI16 HX16 HRAW HUI HHE hivb
  generalize bytesN frameL C = h at *
  have qh := eq_bool (rfl : h = h)
  have qf := eq_bool (rfl : F.length = F.length)
  go_wp2_with fail
  refine (devRdEnd_any r rb ([], 0) w17 HX17.out).mono ?_
  rintro e w18 ⟨rfl, rfl⟩
  rw [show ((rEnd (([] : List Nat), 0) : Nat) : Int) = 0 from rfl]
  clear HX17
  go_wp2_with fail
  refine (sameBytes_any iv _ (natI C) (natI C) w17 (Elems.of_fresh HI17.out) (Elems.of_fresh HC17.out) (by rw [natI_length]; omega) (by rw [natI_length]; omega)).mono ?_
  rintro e w18 ⟨rfl, hb18⟩
  rw [decide_eq_true (rfl : natI C = natI C)]
  have hbe18 := below_then HB17.out hb18
  have hby := Bytes.of_fresh (fresh_keeps HC17.out hb18) (by rw [natI_length]; omega) (natI_range HC8.out)
  rw [toNats_natI] at hby
  have HBY := Lib.hid hby
  have hs18 := hb18.size
  clear hb18 hby HI17 HC17
  go_wp2_with fail
  refine (HHB.out w18 HBY.out (fun j hj => by have := HCB.out j hj; omega)).mono ?_
  rintro e w19 ⟨rfl, hb19⟩
  have hbe19 := below_then hbe18 hb19
  clear hb19 hbe18 HBY HHB
  go_wp2_with fail
  refine (lives6_any w19).mono ?_
  rintro e w20 ⟨rfl, hb20⟩
  have hbe20 := below_then hbe19 hb20
  clear hb20 hbe19
  go_wp2_with fail
  go_ret
  exact ⟨rfl, hbe20⟩
end Go.Proofs.Ytigjcnjhmhepeaa
