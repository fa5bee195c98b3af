/-
  The walk of the law WireOwn.
-/
import Derived.Test.YtghilgkkpbhoiaaDevK
namespace Go.Proofs.Ytghilgkkpbhoiaa
open Go.RowKit Go.Shelf
set_option linter.unusedVariables false

theorem fresh_span {B : Nat} {e : TypeId} {k : IntKind} {w : World} {v : Value} {zs : List Int} (h : Fresh B e k w v zs) : ∀ j, blockOf v j → B ≤ j ∧ j < w.heap.size := by
  intro j hj
  rcases h.2 with ⟨rfl, _⟩ | ⟨g, cap, cur, rfl, hb, h3, _⟩
  · exact hj.elim
  · have : j = g := hj
    subst this
    exact ⟨hb, (Array.getElem?_eq_some_iff.1 h3).1⟩

theorem fresh_apart {A : Foot} {B : Nat} {e : TypeId} {k : IntKind} {w w' : World} {v : Value} {zs : List Int} (h : Fresh B e k w v zs) (hk : Keeps A w w') (hn : ∀ j, blockOf v j → ¬ A j) : Fresh B e k w' v zs := by
  refine ⟨h.1, ?_⟩
  rcases h.2 with h0 | ⟨g, cap, cur, rfl, h2, h3, h4⟩
  · exact .inl h0
  · exact .inr ⟨g, cap, cur, rfl, h2, hk.obj h3 (hn g rfl), h4⟩

theorem zigsN_lt (l : List Int) : ∀ c ∈ zigsN l, c < 256 := by
  intro c hc
  obtain ⟨n, _, h⟩ := List.mem_flatMap.1 hc
  exact varN_lt _ c h
theorem own_lt {xs ls : List Int} (h : ∀ n ∈ xs, 0 ≤ n ∧ n ≤ 255) : ∀ c ∈ varN (toNats xs).length ++ toNats xs ++ (varN ls.length ++ zigsN ls), c < 256 := by
  intro c hc
  rcases List.mem_append.1 hc with hc | hc
  · rcases List.mem_append.1 hc with hc | hc
    · exact varN_lt _ c hc
    · exact toNats_mem h c hc
  · rcases List.mem_append.1 hc with hc | hc
    · exact varN_lt _ c hc
    · exact zigsN_lt _ c hc

set_option maxRecDepth 100000 in
set_option maxHeartbeats 8000000 in
theorem walk_WireOwn (u : Value) (b : List Int) (v : Value) (l : List Int) (w : World) (hu : Row .u8 w u b) (hbr : ∀ n ∈ b, 0 ≤ n ∧ n ≤ 255) (hv : Row .i64 w v l) (hlr : ∀ n ∈ l, -9223372036854775808 ≤ n ∧ n ≤ 9223372036854775807) :
    Calls Try.prog 9 #[u, v] w fun e w' => e = .returned (.bool true) ∧ Below w.heap.size w w' := by
  obtain ⟨i0, hi, hz0, hz1, hz2⟩ := info_parts info_u8
  have HXR : Hid (∀ n ∈ b.take 30, 0 ≤ n ∧ n ≤ 255) := Lib.hid (fun n hn => hbr n (List.mem_of_mem_take hn))
  have HLR : Hid (∀ n ∈ l.take 10, -9223372036854775808 ≤ n ∧ n ≤ 9223372036854775807) := Lib.hid (fun n hn => hlr n (List.mem_of_mem_take hn))
  have hxl : (b.take 30).length ≤ 30 := by simp; omega
  have hll : (l.take 10).length ≤ 10 := by simp; omega
  have HU := Lib.hid hu
  have HV := Lib.hid hv
  clear hu hv hbr hlr
  generalize hxs : b.take 30 = xs at *
  generalize hls : l.take 10 = ls at *
  have HXS := Lib.hid hxs
  have HLS := Lib.hid hls
  clear hxs hls
  go_enter Try.func9, Try.ntmps9
  go_wp2_with fail
  refine (refFew_any u b 30 w HU.out (by decide)).mono ?_
  rintro e w1 ⟨v1, rfl, hf1, hb1⟩
  rw [HXS.out] at hf1
  obtain ⟨a1, c1, rfl, _, _⟩ := fresh_elems hf1
  have S1 := Lib.hid (fresh_span hf1)
  have F1 := Lib.hid hf1
  have hs1 := hb1.size
  clear hf1
  go_wp2_with fail
  refine (refInts_any v l 10 w1 (row_keeps HV.out hb1) (by decide)).mono ?_
  rintro e w2 ⟨v2, rfl, hf2, hb⟩
  rw [HLS.out] at hf2
  obtain ⟨a2, c2, rfl, _, _⟩ := fresh_elems hf2
  have S2 := Lib.hid (fresh_span hf2)
  have F2 := Lib.hid hf2
  have F1b := Lib.hid (fresh_keeps F1.out hb)
  have hb2 := below_foot hb1 (Keeps.of_below hb) (by omega) (fun k hk => by omega)
  have hs2 := hb.size
  have hbA : Below w2.heap.size w2 (w2.alloc (.cells #[.slice none 0 0] 32)) := (Below.refl _ w2).alloc (Nat.le_refl _) _
  have hb3 := below_foot hb2 (Keeps.of_below hbA) (by omega) (fun k hk => by omega)
  have hs3 : (w2.alloc (.cells #[.slice none 0 0] 32)).heap.size = w2.heap.size + 1 := by simp
  have F1c := Lib.hid (fresh_keeps F1b.out hbA)
  have F2c := Lib.hid (fresh_keeps F2.out hbA)
  have HW := Lib.hid (wr_new w2)
  clear hf2 hb hb1 hb2 hbA F1 F1b F2
  go_wp2_with fail
  generalize w2.alloc (.cells #[.slice none 0 0] 32) = w3 at *
  have HN1 := Lib.hid (natI_toNats HXR.out)
  have HXL := Lib.hid (toNats_length xs)
  refine (devRaw_any w2.heap.size w2.heap.size [] _ (toNats xs) w3 HW.out (by rw [HN1.out]; exact row_of_fresh F1c.out) (fun j hj => by have := S1.out j hj; omega) (by rw [HXL.out, List.length_nil]; omega)).mono ?_
  rintro e w4 ⟨rfl, g1, hw4, hg1, hk1⟩
  have hb4 := below_foot hb3 hk1 (by omega) (fun k hk => by omega)
  have F1d := Lib.hid (fresh_apart F1c.out hk1 (fun j hj => by have := S1.out j hj; omega))
  have F2d := Lib.hid (fresh_apart F2c.out hk1 (fun j hj => by have := S2.out j hj; omega))
  have HW4 := Lib.hid hw4
  have hs4 := hk1.size
  clear hb3 hk1 hw4 F1c F2c HW
  go_wp2_with fail
  refine (devInts_any w2.heap.size g1 _ _ ls w4 HW4.out (row_of_fresh F2d.out) (fun j hj => by have := S2.out j hj; omega) HLR.out (by have h := varN_len10 (n := (toNats xs).length) (by rw [HXL.out]; omega); rw [List.nil_append, List.length_append, HXL.out] at *; omega) (by omega)).mono ?_
  rintro e w5 ⟨rfl, g2, hw5, hg2, hk2⟩
  have hb5 := below_foot hb4 hk2 (by omega) (fun k hk => by omega)
  have F1e := Lib.hid (fresh_apart F1d.out hk2 (fun j hj => by have := S1.out j hj; omega))
  have F2e := Lib.hid (fresh_apart F2d.out hk2 (fun j hj => by have := S2.out j hj; omega))
  rw [List.nil_append] at hw5
  have HLEN : Hid ((varN (toNats xs).length ++ toNats xs ++ (varN ls.length ++ zigsN ls)).length ≤ 1000) := by
    have h1 := varN_len10 (n := (toNats xs).length) (by rw [HXL.out]; omega)
    have h2 := varN_len10 (n := ls.length) (by omega)
    have h3 := zigsN_len HLR.out
    have h4 := HXL.out
    refine Lib.hid ?_
    simp only [List.length_append]
    omega
  have HL8 : Hid (∀ c ∈ varN (toNats xs).length ++ toNats xs ++ (varN ls.length ++ zigsN ls), c < 256) := Lib.hid (own_lt HXR.out)
  have HRR : Hid (rRaw (varN (toNats xs).length ++ toNats xs ++ (varN ls.length ++ zigsN ls), 0) = (toNats xs, (varN ls.length ++ zigsN ls, 0))) := Lib.hid (rRaw_round (by rw [HXL.out]; omega) _)
  have HRI : Hid (rInts (varN ls.length ++ zigsN ls, 0) = (ls, ([], 0))) := by
    have h := rInts_round (l := ls) (by omega) HLR.out []
    rw [List.append_nil] at h
    exact Lib.hid h
  have HR8 : Hid (∀ c ∈ varN ls.length ++ zigsN ls, c < 256) := Lib.hid (fun c hc => HL8.out c (List.mem_append_right _ hc))
  generalize varN (toNats xs).length ++ toNats xs ++ (varN ls.length ++ zigsN ls) = L at *
  generalize varN ls.length ++ zigsN ls = M at *
  have hL := HLEN.out
  have HW5 := Lib.hid hw5
  have hw5l := hw5.lts
  have hs5 := hk2.size
  clear hb4 hk2 hw5 F1d F2d HW4 HLEN
  go_wp2_with fail
  refine (devDone_any w2.heap.size g2 L w5 HW5.out (by omega)).mono ?_
  rintro e w6 ⟨v3, rfl, hf3, hb⟩
  obtain ⟨a3, c3, rfl, _, _⟩ := fresh_elems hf3
  have S3 := Lib.hid (fresh_span hf3)
  have hb6 := below_foot hb5 (Keeps.of_below hb) (by omega) (fun k hk => by omega)
  have hs6 := hb.size
  have hbA : Below w6.heap.size w6 (w6.alloc (.cells #[] 5)) := (Below.refl _ w6).alloc (Nat.le_refl _) _
  have F1f := Lib.hid (fresh_keeps (fresh_keeps F1e.out hb) hbA)
  have F2f := Lib.hid (fresh_keeps (fresh_keeps F2e.out hb) hbA)
  have F3f := Lib.hid (fresh_keeps hf3 hbA)
  have HW6 := Lib.hid (wr_below (wr_below HW5.out hb) hbA)
  have HLIT := Lib.hid (fresh_lit w6 w6.heap.size 5 .u8 [] (Nat.le_refl _) (by simp))
  have hs6b : (w6.alloc (.cells #[] 5)).heap.size = w6.heap.size + 1 := by simp
  have hb6b := below_foot hb6 (Keeps.of_below hbA) (by omega) (fun k hk => by omega)
  rw [natI_length] at *
  clear hf3 hb hbA hb5 hb6 F1e F2e HW5
  go_wp2_with (at_builtin; go_must (refine wpList_append_fresh rfl _ _ 24 rfl w6.heap.size 5 i0 .u8 1 under_bytes hi hz0 hz1 hz2 (by decide) _ [] rfl HLIT.out _ (natI L) rfl (row_of_fresh F3f.out) (by rw [natI_length]; simp; omega) (by omega) ?_); intro v4 w7 hfr hgrow; have hk7 : Keeps (fun k => w6.heap.size ≤ k) (w6.alloc (.cells #[] 5)) w7 := Keeps.of_grown hgrow (fun k hk => (HLIT.out.lt k hk).1); clear hgrow)
  have F4 : Hid (Fresh w6.heap.size 5 .u8 w7 v4 (natI L)) := Lib.hid hfr
  have S4 := Lib.hid (fresh_span hfr)
  have F1g := Lib.hid (fresh_apart F1f.out hk7 (fun j hj => by have := S1.out j hj; omega))
  have F2g := Lib.hid (fresh_apart F2f.out hk7 (fun j hj => by have := S2.out j hj; omega))
  have F3g := Lib.hid (fresh_apart F3f.out hk7 (fun j hj => by have := S3.out j hj; omega))
  have HW7 := Lib.hid (wr_keeps HW6.out hk7 (by omega) (by omega))
  have hb7 := below_foot hb6b hk7 (by omega) (fun k hk => by omega)
  have hs7 := hk7.size
  clear hfr hk7 hb6b F1f F2f F3f HW6 HLIT
  go_loopw [10] (fun iv wr => ∃ (k : Nat) (ys : List Int), k ≤ xs.length ∧ iv = .int .i64 (k : Int) ∧ Hid (ys.length = xs.length) ∧ Hid (Fresh w.heap.size 5 .u8 wr (.slice a1 xs.length c1) ys) ∧ Hid (Keeps (blockOf (.slice a1 xs.length c1)) w7 wr)) (fun iv _ => xs.length - (intOf iv).toNat)
  case atStart => exact ⟨0, xs, Nat.zero_le _, rfl, Lib.hid (rfl), F1g, Lib.hid (Keeps.refl _ _)⟩
  case round =>
    obtain ⟨k, ys, hk, rfl, HL, HF, HK⟩ := hrel
    by_cases hlt : k < xs.length
    · obtain ⟨g, c2, e1, hgB, hgl, hcl⟩ := fresh_some HF.out (fun e => by have h := HL.out; rw [e, List.length_nil] at h; omega)
      obtain rfl : a1 = some ⟨g, 0, none⟩ := by injection e1
      have hcl := fresh_cell HF.out (j := k) (by have := HL.out; omega)
      have hfz := fresh_frozen2 HF.out HL.out.symm k
      have HS := Lib.hid (fresh_store2 HF.out HL.out.symm k 7).1
      have HK2 := Lib.hid (HK.out.setCell ⟨g, k, none⟩ (.int .u8 7) rfl)
      generalize ys[k]?.getD 0 = old at *
      clear HF HK e1
      go_wp2_with fail
      go_roundw
      case rel => exact ⟨k + 1, ys.set k 7, by omega, by go_num, Lib.hid (by rw [List.length_set]; exact HL.out), HS, HK2⟩
      case measure => simp [intOf]; omega
    · obtain rfl : k = xs.length := by omega
      clear HF HL hlt hk
      obtain ⟨w8, rfl⟩ : ∃ x : World, x = wr := ⟨_, rfl⟩
      have F2h := Lib.hid (fresh_apart F2g.out HK.out (fun j hj h => by have := S1.out j h; have := S2.out j hj; omega))
      have F3h := Lib.hid (fresh_apart F3g.out HK.out (fun j hj h => by have := S1.out j h; have := S3.out j hj; omega))
      have F4h := Lib.hid (fresh_apart F4.out HK.out (fun j hj h => by have := S1.out j h; have := S4.out j hj; omega))
      have HW8 := Lib.hid (wr_keeps HW7.out HK.out (fun h => by have := S1.out _ h; omega) (fun h => by have := S1.out _ h; omega))
      have hb8 := below_foot hb7 HK.out (by omega) (fun k hk => by have := S1.out k hk; omega)
      have hs8 := HK.out.size
      clear HK F1g F2g F3g F4 HW7 hb7
      go_wp2_with fail
      go_loopw [11] (fun iv wr => ∃ (k : Nat) (ys : List Int), k ≤ ls.length ∧ iv = .int .i64 (k : Int) ∧ Hid (ys.length = ls.length) ∧ Hid (Fresh w1.heap.size 3 .i64 wr (.slice a2 ls.length c2) ys) ∧ Hid (Keeps (blockOf (.slice a2 ls.length c2)) w8 wr)) (fun iv _ => ls.length - (intOf iv).toNat)
      case atStart => exact ⟨0, ls, Nat.zero_le _, rfl, Lib.hid (rfl), F2h, Lib.hid (Keeps.refl _ _)⟩
      case round =>
        obtain ⟨k, ys, hk, rfl, HL, HF, HK⟩ := hrel
        by_cases hlt : k < ls.length
        · obtain ⟨g, c2, e1, hgB, hgl, hcl⟩ := fresh_some HF.out (fun e => by have h := HL.out; rw [e, List.length_nil] at h; omega)
          obtain rfl : a2 = some ⟨g, 0, none⟩ := by injection e1
          have hcl := fresh_cell HF.out (j := k) (by have := HL.out; omega)
          have hfz := fresh_frozen2 HF.out HL.out.symm k
          have HS := Lib.hid (fresh_store2 HF.out HL.out.symm k 7).1
          have HK2 := Lib.hid (HK.out.setCell ⟨g, k, none⟩ (.int .i64 7) rfl)
          generalize ys[k]?.getD 0 = old at *
          clear HF HK e1
          go_wp2_with fail
          go_roundw
          case rel => exact ⟨k + 1, ys.set k 7, by omega, by go_num, Lib.hid (by rw [List.length_set]; exact HL.out), HS, HK2⟩
          case measure => simp [intOf]; omega
        · obtain rfl : k = ls.length := by omega
          clear HF HL hlt hk
          obtain ⟨w9, rfl⟩ : ∃ x : World, x = wr := ⟨_, rfl⟩
          have F3i := Lib.hid (fresh_apart F3h.out HK.out (fun j hj h => by have := S2.out j h; have := S3.out j hj; omega))
          have F4i := Lib.hid (fresh_apart F4h.out HK.out (fun j hj h => by have := S2.out j h; have := S4.out j hj; omega))
          have HW9 := Lib.hid (wr_keeps HW8.out HK.out (fun h => by have := S2.out _ h; omega) (fun h => by have := S2.out _ h; omega))
          have hb9 := below_foot hb8 HK.out (by omega) (fun k hk => by have := S2.out k hk; omega)
          have hs9 := HK.out.size
          clear HK F2h F3h F4h HW8 hb8
          go_wp2_with fail
          go_loopw [12] (fun iv wr => ∃ (k : Nat) (ys : List Int), k ≤ L.length ∧ iv = .int .i64 (k : Int) ∧ Hid (ys.length = L.length) ∧ Hid (Fresh w5.heap.size 5 .u8 wr (.slice a3 L.length c3) ys) ∧ Hid (Keeps (blockOf (.slice a3 L.length c3)) w9 wr)) (fun iv _ => L.length - (intOf iv).toNat)
          case atStart => exact ⟨0, (natI L), Nat.zero_le _, rfl, Lib.hid (natI_length _), F3i, Lib.hid (Keeps.refl _ _)⟩
          case round =>
            obtain ⟨k, ys, hk, rfl, HL, HF, HK⟩ := hrel
            by_cases hlt : k < L.length
            · obtain ⟨g, c2, e1, hgB, hgl, hcl⟩ := fresh_some HF.out (fun e => by have h := HL.out; rw [e, List.length_nil] at h; omega)
              obtain rfl : a3 = some ⟨g, 0, none⟩ := by injection e1
              have hcl := fresh_cell HF.out (j := k) (by have := HL.out; omega)
              have hfz := fresh_frozen2 HF.out HL.out.symm k
              have HS := Lib.hid (fresh_store2 HF.out HL.out.symm k 9).1
              have HK2 := Lib.hid (HK.out.setCell ⟨g, k, none⟩ (.int .u8 9) rfl)
              generalize ys[k]?.getD 0 = old at *
              clear HF HK e1
              go_wp2_with fail
              go_roundw
              case rel => exact ⟨k + 1, ys.set k 9, by omega, by go_num, Lib.hid (by rw [List.length_set]; exact HL.out), HS, HK2⟩
              case measure => simp [intOf]; omega
            · obtain rfl : k = L.length := by omega
              clear HF HL hlt hk
              obtain ⟨wA, rfl⟩ : ∃ x : World, x = wr := ⟨_, rfl⟩
              have F4j := Lib.hid (fresh_apart F4i.out HK.out (fun j hj h => by have := S3.out j h; have := S4.out j hj; omega))
              have HWA := Lib.hid (wr_keeps HW9.out HK.out (fun h => by have := S3.out _ h; omega) (fun h => by have := S3.out _ h; omega))
              have hbA := below_foot hb9 HK.out (by omega) (fun k hk => by have := S3.out k hk; omega)
              have hsA := HK.out.size
              clear HK F3i F4i HW9 hb9
              go_wp2_with fail
              refine (devDone_any w2.heap.size g2 L wA HWA.out (by omega)).mono ?_
              rintro e wB ⟨v5, rfl, hf5, hb⟩
              have hbB := below_foot hbA (Keeps.of_below hb) (by omega) (fun k hk => by omega)
              have hsB := hb.size
              have F5 := Lib.hid hf5
              have F4k := Lib.hid (fresh_keeps F4j.out hb)
              clear hf5 hb hbA F4j HWA
              go_wp2_with fail
              refine (sameBytes_any v5 v4 (natI L) (natI L) wB (Elems.of_fresh F5.out) (Elems.of_fresh F4k.out) (by rw [natI_length]; omega) (by rw [natI_length]; omega)).mono ?_
              rintro e wC ⟨rfl, hb⟩
              rw [decide_eq_true (rfl : natI L = natI L)]
              have hbC := below_foot hbB (Keeps.of_below hb) (by omega) (fun k hk => by omega)
              have hsC := hb.size
              have F4l := Lib.hid (fresh_keeps F4k.out hb)
              have hbA2 : Below wC.heap.size wC (wC.alloc (.cells #[] 5)) := (Below.refl _ wC).alloc (Nat.le_refl _) _
              have F4m := Lib.hid (fresh_keeps F4l.out hbA2)
              have HLIT := Lib.hid (fresh_lit wC wC.heap.size 5 .u8 [] (Nat.le_refl _) (by simp))
              have hsD : (wC.alloc (.cells #[] 5)).heap.size = wC.heap.size + 1 := by simp
              have hbD := below_foot hbC (Keeps.of_below hbA2) (by omega) (fun k hk => by omega)
              obtain ⟨a4, c4, rfl, _, _⟩ := fresh_elems F4m.out
              rw [natI_length] at *
              clear hb hbA2 hbB hbC F4k F5
              go_wp2_with (at_builtin; go_must (refine wpList_append_fresh rfl _ _ 24 rfl wC.heap.size 5 i0 .u8 1 under_bytes hi hz0 hz1 hz2 (by decide) _ [] rfl HLIT.out _ (natI L) rfl (row_of_fresh F4m.out) (by rw [natI_length]; simp; omega) (by omega) ?_); intro v6 wE hfr hgrow; have hkE : Keeps (fun k => wC.heap.size ≤ k) (wC.alloc (.cells #[] 5)) wE := Keeps.of_grown hgrow (fun k hk => (HLIT.out.lt k hk).1); clear hgrow)
              have F6 : Hid (Fresh wC.heap.size 5 .u8 wE v6 (natI L)) := Lib.hid hfr
              have S6 := Lib.hid (fresh_span hfr)
              have hbE := below_foot hbD hkE (by omega) (fun k hk => by omega)
              have hsE := hkE.size
              clear hfr hkE hbD F4m F4l HLIT
              refine (devRead_any v6 L wE (row_of_fresh F6.out) HL8.out (by omega)).mono ?_
              rintro e wF ⟨r, bb, rfl, hr, hrB, hbBl, hbbl, hb⟩
              have hbF := below_foot hbE (Keeps.of_below hb) (by omega) (fun k hk => by omega)
              have hsF := hb.size
              have HRD := Lib.hid (rx_of hr)
              have hrF := hr.lts
              have F6b := Lib.hid (fresh_keeps F6.out hb)
              obtain ⟨a6, c6, rfl, _, _⟩ := fresh_elems F6b.out
              rw [natI_length] at *
              clear hb hbE hr F6
              go_wp2_with fail
              go_loopw [15] (fun iv wr => ∃ (k : Nat) (ys : List Int), k ≤ L.length ∧ iv = .int .i64 (k : Int) ∧ Hid (ys.length = L.length) ∧ Hid (Fresh wC.heap.size 5 .u8 wr (.slice a6 L.length c6) ys) ∧ Hid (Keeps (blockOf (.slice a6 L.length c6)) wF wr)) (fun iv _ => L.length - (intOf iv).toNat)
              case atStart => exact ⟨0, (natI L), Nat.zero_le _, rfl, Lib.hid (natI_length _), F6b, Lib.hid (Keeps.refl _ _)⟩
              case round =>
                obtain ⟨k, ys, hk, rfl, HL, HF, HK⟩ := hrel
                by_cases hlt : k < L.length
                · obtain ⟨g, c2, e1, hgB, hgl, hcl⟩ := fresh_some HF.out (fun e => by have h := HL.out; rw [e, List.length_nil] at h; omega)
                  obtain rfl : a6 = some ⟨g, 0, none⟩ := by injection e1
                  have hcl := fresh_cell HF.out (j := k) (by have := HL.out; omega)
                  have hfz := fresh_frozen2 HF.out HL.out.symm k
                  have HS := Lib.hid (fresh_store2 HF.out HL.out.symm k 255).1
                  have HK2 := Lib.hid (HK.out.setCell ⟨g, k, none⟩ (.int .u8 255) rfl)
                  generalize ys[k]?.getD 0 = old at *
                  clear HF HK e1
                  go_wp2_with fail
                  go_roundw
                  case rel => exact ⟨k + 1, ys.set k 255, by omega, by go_num, Lib.hid (by rw [List.length_set]; exact HL.out), HS, HK2⟩
                  case measure => simp [intOf]; omega
                · obtain rfl : k = L.length := by omega
                  clear HF HL hlt hk
                  obtain ⟨wG, rfl⟩ : ∃ x : World, x = wr := ⟨_, rfl⟩
                  have HRG := Lib.hid (rx_keeps HRD.out HK.out (fun h => by have := S6.out _ h; omega) (fun h => by have := S6.out _ h; omega))
                  have hbG := below_foot hbF HK.out (by omega) (fun k hk => by have := S6.out k hk; omega)
                  have hsG := HK.out.size
                  clear HK F6b HRD hbF
                  go_wp2_with fail
                  refine (devRdRaw_any r bb (L, 0) wG HRG.out HL8.out (by omega)).mono ?_
                  rintro e wH ⟨v7, rfl, hf7, hr, hk⟩
                  rw [HRR.out] at hf7 hr
                  have hr' : Rx wH r bb (M, 0) := hr
                  have hf7' : Fresh wG.heap.size 5 .u8 wH v7 (natI (toNats xs)) := hf7
                  rw [HN1.out] at hf7'
                  obtain ⟨a7, c7, rfl, _, _⟩ := fresh_elems hf7'
                  have S7 := Lib.hid (fresh_span hf7')
                  have F7 := Lib.hid hf7'
                  have HRH := Lib.hid hr'
                  have hbH := below_foot hbG hk (by omega) (fun k hk => by omega)
                  have hsH := hk.size
                  have hrl := hr'.lts
                  clear hf7 hf7' hr hr' hk hbG HRG
                  go_wp2_with fail
                  go_loopw [17] (fun iv wr => ∃ (k : Nat) (ys : List Int), k ≤ xs.length ∧ iv = .int .i64 (k : Int) ∧ Hid (ys.length = xs.length) ∧ Hid (Fresh wG.heap.size 5 .u8 wr (.slice a7 xs.length c7) ys) ∧ Hid (Keeps (blockOf (.slice a7 xs.length c7)) wH wr)) (fun iv _ => xs.length - (intOf iv).toNat)
                  case atStart => exact ⟨0, xs, Nat.zero_le _, rfl, Lib.hid (rfl), F7, Lib.hid (Keeps.refl _ _)⟩
                  case round =>
                    obtain ⟨k, ys, hk, rfl, HL, HF, HK⟩ := hrel
                    by_cases hlt : k < xs.length
                    · obtain ⟨g, c2, e1, hgB, hgl, hcl⟩ := fresh_some HF.out (fun e => by have h := HL.out; rw [e, List.length_nil] at h; omega)
                      obtain rfl : a7 = some ⟨g, 0, none⟩ := by injection e1
                      have hcl := fresh_cell HF.out (j := k) (by have := HL.out; omega)
                      have hfz := fresh_frozen2 HF.out HL.out.symm k
                      have HS := Lib.hid (fresh_store2 HF.out HL.out.symm k 1).1
                      have HK2 := Lib.hid (HK.out.setCell ⟨g, k, none⟩ (.int .u8 1) rfl)
                      generalize ys[k]?.getD 0 = old at *
                      clear HF HK e1
                      go_wp2_with fail
                      go_roundw
                      case rel => exact ⟨k + 1, ys.set k 1, by omega, by go_num, Lib.hid (by rw [List.length_set]; exact HL.out), HS, HK2⟩
                      case measure => simp [intOf]; omega
                    · obtain rfl : k = xs.length := by omega
                      clear HF HL hlt hk
                      obtain ⟨wI, rfl⟩ : ∃ x : World, x = wr := ⟨_, rfl⟩
                      have HRI2 := Lib.hid (rx_keeps HRH.out HK.out (fun h => by have := S7.out _ h; omega) (fun h => by have := S7.out _ h; omega))
                      have hbI := below_foot hbH HK.out (by omega) (fun k hk => by have := S7.out k hk; omega)
                      have hsI := HK.out.size
                      clear HK F7 HRH hbH
                      go_wp2_with fail
                      refine (devRdInts_any r bb (M, 0) wI HRI2.out HR8.out (by omega)).mono ?_
                      rintro e wJ ⟨v8, rfl, hf8, hr, hk⟩
                      rw [HRI.out] at hf8 hr
                      have HRJ : Hid (Rx wJ r bb ([], 0)) := Lib.hid hr
                      have F8 : Hid (Fresh wI.heap.size 3 .i64 wJ v8 ls) := Lib.hid hf8
                      have hbJ := below_foot hbI hk (by omega) (fun k hk => by omega)
                      have hsJ := hk.size
                      clear hf8 hr hk hbI HRI2
                      go_wp2_with fail
                      refine (refInts_any v l 10 wJ (row_keeps HV.out (hbJ.mono (Nat.le_refl _))) (by decide)).mono ?_
                      rintro e wK ⟨v9, rfl, hf9, hb⟩
                      rw [HLS.out] at hf9
                      have F9 := Lib.hid hf9
                      have F8b := Lib.hid (fresh_keeps F8.out hb)
                      have HRK := Lib.hid (rx_below HRJ.out (by omega) hb)
                      have hbK := below_foot hbJ (Keeps.of_below hb) (by omega) (fun k hk => by omega)
                      have hsK := hb.size
                      clear hf9 hb hbJ F8 HRJ
                      go_wp2_with fail
                      refine (sameInts_any v8 v9 ls ls wK (Elems.of_fresh F8b.out) (Elems.of_fresh F9.out) (by omega) (by omega)).mono ?_
                      rintro e wL ⟨rfl, hb⟩
                      rw [decide_eq_true (rfl : ls = ls)]
                      have HRL := Lib.hid (rx_below HRK.out (by omega) hb)
                      have hbL := below_foot hbK (Keeps.of_below hb) (by omega) (fun k hk => by omega)
                      have hsL := hb.size
                      clear hb hbK F8b F9 HRK
                      go_wp2_with fail
                      refine (devRdEnd_any r bb _ wL HRL.out).mono ?_
                      rintro e wM ⟨rfl, rfl⟩
                      rw [show rEnd ([], 0) = 0 from rfl]
                      go_wp2_with fail
                      refine (lives_any2 wL).mono ?_
                      rintro e wN ⟨rfl, hb⟩
                      have hbN := below_foot hbL (Keeps.of_below hb) (by omega) (fun k hk => by omega)
                      go_wp2_with fail
                      go_ret
                      exact ⟨rfl, hbN⟩
end Go.Proofs.Ytghilgkkpbhoiaa
