/-
  The walk of the law WireWrites.
-/
import Derived.Test.YtghilgkkpbhoiaaDevP
namespace Go.Proofs.Ytghilgkkpbhoiaa
open Go.RowKit Go.Shelf
set_option linter.unusedVariables false

/-- The first values of a slice of values, read only. -/
theorem valRow_take {lo hi : Nat} {W : World} {a : Option Addr} {cap m : Nat} {xs : List VV} (h : Gv lo hi W (.slice a xs.length cap) xs) (hm : m ≤ xs.length) (hcm : cap ≤ 9223372036854775807) : ValRow W (.slice a m cap) (xs.take m) := by
  have hl : (xs.take m).length = m := by rw [List.length_take]; omega
  obtain ⟨a', c', e, h1, h2⟩ := gv_form h
  injection e with e1 _ e3
  subst e1 e3
  refine ⟨a, cap, by rw [hl], by rw [hl]; omega, hcm, fun hne => ?_⟩
  have h0 : 0 < xs.length := by
    rcases Nat.eq_zero_or_pos m with hm0 | hm0
    · subst hm0; exact absurd (List.take_zero) hne
    · omega
  obtain ⟨g, vb0, vl0, rfl, _⟩ := gv_at h h0
  refine ⟨g, 0, rfl, fun j hj => ?_⟩
  rw [hl] at hj
  obtain ⟨g2, vb, vl, e2, _, _, c0, c1, c2, c3, c4, r1, r2, _⟩ := gv_at h (j := j) (by omega)
  injection e2 with e2
  injection e2 with e2
  subst e2
  have ex : (xs.take m)[j]'(by rw [hl]; exact hj) = xs[j] := List.getElem_take
  rw [ex, Nat.zero_add]
  exact ⟨vb, vl, c0, c1, c2, c3, c4, r1, r2⟩

theorem part_of {lo hi : Nat} {W : World} {o : Option Nat} {vb vl : Value} {y : VV} (h1 : Row .u8 W vb (natI y.b)) (h2 : Row .i64 W vl y.l) (h3 : ∀ j, (blockOf vb j ∨ blockOf vl j) → lo ≤ j ∧ j < hi ∧ o ≠ some j) : PartG lo hi W o (vb, vl) y := ⟨h1, h2, h3⟩

theorem parts_five {lo hi : Nat} {W : World} {o : Option Nat} {fb fl : Value} {u : Nat} {n : Int} {bs : List Nat} {ls : List Int} (h1 : Row .u8 W fb (natI bs)) (h2 : Row .i64 W fl ls) (h3 : ∀ j, blockOf fb j → lo ≤ j ∧ j < hi ∧ o ≠ some j) (h4 : ∀ j, blockOf fl j → lo ≤ j ∧ j < hi ∧ o ≠ some j) :
    ∀ j, (hp : j < [((.slice none 0 0, .slice none 0 0) : Value × Value), (.slice none 0 0, .slice none 0 0), (fb, .slice none 0 0), (.slice none 0 0, fl), (.slice none 0 0, .slice none 0 0)].length) → (hx : j < [(⟨0, u, 0, [], []⟩ : VV), ⟨1, 0, n, [], []⟩, ⟨4, 0, 0, bs, []⟩, ⟨5, 0, 0, [], ls⟩, ⟨2, 0, 1, [], []⟩].length) →
    PartG lo hi W o [((.slice none 0 0, .slice none 0 0) : Value × Value), (.slice none 0 0, .slice none 0 0), (fb, .slice none 0 0), (.slice none 0 0, fl), (.slice none 0 0, .slice none 0 0)][j] [(⟨0, u, 0, [], []⟩ : VV), ⟨1, 0, n, [], []⟩, ⟨4, 0, 0, bs, []⟩, ⟨5, 0, 0, [], ls⟩, ⟨2, 0, 1, [], []⟩][j] := by
  intro j hp hx
  have : j = 0 ∨ j = 1 ∨ j = 2 ∨ j = 3 ∨ j = 4 := by simp at hp; omega
  rcases this with rfl | rfl | rfl | rfl | rfl
  · exact part_nil _ _ _ _ rfl rfl
  · exact part_nil _ _ _ _ rfl rfl
  · exact part_of h1 (row_none _ _) (fun j hj => by rcases hj with hj | hj; exact h3 j hj; exact hj.elim)
  · exact part_of (row_none _ _) h2 (fun j hj => by rcases hj with hj | hj; exact hj.elim; exact h4 j hj)
  · exact part_nil _ _ _ _ rfl rfl

theorem five_ok {xs : List VV} {u : Nat} {n : Int} {bs : List Nat} {ls : List Int} (h : ∀ x ∈ xs, x.ok) (hu : u < 18446744073709551616) (hn : -9223372036854775808 ≤ n ∧ n ≤ 9223372036854775807) (hb : ∀ c ∈ bs, c < 256) (hbl : bs.length ≤ 1000)
    (hl : ∀ n ∈ ls, -9223372036854775808 ≤ n ∧ n ≤ 9223372036854775807) (hll : ls.length ≤ 1000) : ∀ x ∈ xs ++ [(⟨0, u, 0, [], []⟩ : VV), ⟨1, 0, n, [], []⟩, ⟨4, 0, 0, bs, []⟩, ⟨5, 0, 0, [], ls⟩, ⟨2, 0, 1, [], []⟩], x.ok := by
  intro x hx
  rcases List.mem_append.1 hx with hx | hx
  · exact h x hx
  · simp only [List.mem_cons, List.not_mem_nil, or_false] at hx
    rcases hx with rfl | rfl | rfl | rfl | rfl
    · exact ok_small hu (by decide)
    · exact ok_small (by decide) hn
    · exact ⟨by show (0 : Nat) < _; decide, by show (-9223372036854775808 : Int) ≤ 0 ∧ (0 : Int) ≤ _; decide, hb, hbl, fun c h => by simp at h, by simp⟩
    · exact ⟨by show (0 : Nat) < _; decide, by show (-9223372036854775808 : Int) ≤ 0 ∧ (0 : Int) ≤ _; decide, fun c h => by simp at h, by simp, hl, hll⟩
    · exact ok_small (by decide) (by decide)

set_option maxRecDepth 100000 in
set_option maxHeartbeats 8000000 in
theorem walk_WireWrites (v : Value) (l : List Int) (u n : Int) (vb : Value) (b : List Int) (vl : Value) (list : List Int) (w : World) (hv : Row .i64 w v l) (hl : ∀ n ∈ l, -9223372036854775808 ≤ n ∧ n ≤ 9223372036854775807) (hu : 0 ≤ u ∧ u ≤ 18446744073709551615) (hn : -9223372036854775808 ≤ n ∧ n ≤ 9223372036854775807)
    (hvb : Row .u8 w vb b) (hb : ∀ n ∈ b, 0 ≤ n ∧ n ≤ 255) (hvl : Row .i64 w vl list) (hll : ∀ n ∈ list, -9223372036854775808 ≤ n ∧ n ≤ 9223372036854775807) :
    Calls Try.prog 3 #[v, .int .u64 u, .int .i64 n, vb, vl] w fun e w' => e = .returned (.bool true) ∧ Below w.heap.size w w' := by
  obtain ⟨u, rfl⟩ : ∃ x : Nat, u = (x : Int) := ⟨u.toNat, by omega⟩
  have hu2 : u < 18446744073709551616 := by omega
  have HN := Lib.hid hn
  have HV := Lib.hid (refVals_any v l w hv hl (row_short hv))
  have HVB := Lib.hid hvb
  have HVL := Lib.hid hvl
  have HBR : Hid (∀ n ∈ b.take 200, 0 ≤ n ∧ n ≤ 255) := Lib.hid (fun n hn => hb n (List.mem_of_mem_take hn))
  have HLR : Hid (∀ n ∈ list.take 20, -9223372036854775808 ≤ n ∧ n ≤ 9223372036854775807) := Lib.hid (fun n hn => hll n (List.mem_of_mem_take hn))
  have hbl : (b.take 200).length ≤ 200 := by simp; omega
  have hlll : (list.take 20).length ≤ 20 := by simp; omega
  clear hv hl hn hu hvb hb hvl hll
  generalize hbs : b.take 200 = bs at *
  generalize hls : list.take 20 = ls at *
  have HBS := Lib.hid hbs
  have HLS := Lib.hid hls
  clear hbs hls
  go_enter Try.func3, Try.ntmps3
  go_wp2_with fail
  refine HV.out.mono ?_
  rintro e w1 ⟨v1, xs, rfl, hfv, hb1, hxl, hok⟩
  have hs1 := hb1.size
  have HOK := Lib.hid hok
  have HG1 := Lib.hid (gv_of_freshV hfv)
  clear hfv HV hok
  go_wp2_with fail
  refine (refFew_any vb b 200 w1 (row_keeps HVB.out hb1) (by decide)).mono ?_
  rintro e w2 ⟨fb, rfl, hf2, hbw2⟩
  rw [HBS.out] at hf2
  have hb2 := below_foot hb1 (Keeps.of_below hbw2) (by omega) (fun k hk => by omega)
  have hs2 := hbw2.size
  have HG2 := Lib.hid (gv_keeps HG1.out (Keeps.of_below hbw2) (fun k _ h1 h2 => by omega))
  have HF2 := Lib.hid hf2
  have S2 := Lib.hid (fresh_span hf2)
  obtain ⟨fa, fc, rfl, _, _⟩ := fresh_elems hf2
  clear hf2 hbw2 hb1 HG1
  go_wp2_with fail
  refine (refInts_any vl list 20 w2 (row_keeps HVL.out hb2) (by decide)).mono ?_
  rintro e w3 ⟨fl, rfl, hf3, hbw3⟩
  rw [HLS.out] at hf3
  have hb3 := below_foot hb2 (Keeps.of_below hbw3) (by omega) (fun k hk => by omega)
  have hs3 := hbw3.size
  have HG3 := Lib.hid (gv_keeps HG2.out (Keeps.of_below hbw3) (fun k _ h1 h2 => by omega))
  have HF2b := Lib.hid (fresh_keeps HF2.out hbw3)
  have S3 := Lib.hid (fresh_span hf3)
  obtain ⟨la, lc, rfl, _, _⟩ := fresh_elems hf3
  have HF3 := Lib.hid hf3
  clear hf3 hbw3 hb2 HG2 HF2
  have HBN := Lib.hid (natI_toNats HBR.out)
  have hcs : (flatV [(.slice none 0 0, .slice none 0 0), (.slice none 0 0, .slice none 0 0), (.slice fa bs.length fc, .slice none 0 0), (.slice none 0 0, .slice la ls.length lc), (.slice none 0 0, .slice none 0 0)] [⟨0, u, 0, [], []⟩, ⟨1, 0, n, [], []⟩, ⟨4, 0, 0, toNats bs, []⟩, ⟨5, 0, 0, [], ls⟩, ⟨2, 0, 1, [], []⟩]).toArray =
    #[.int .i64 0, .int .u64 (u : Int), .int .i64 0, .slice none 0 0, .slice none 0 0, .int .i64 1, .int .u64 0, .int .i64 n, .slice none 0 0, .slice none 0 0, .int .i64 4, .int .u64 0, .int .i64 0, .slice fa bs.length fc, .slice none 0 0, .int .i64 5, .int .u64 0, .int .i64 0, .slice none 0 0, .slice la ls.length lc, .int .i64 2, .int .u64 0, .int .i64 1, .slice none 0 0, .slice none 0 0] := rfl
  have hlit := laid_vals w3 [(.slice none 0 0, .slice none 0 0), (.slice none 0 0, .slice none 0 0), (.slice fa bs.length fc, .slice none 0 0), (.slice none 0 0, .slice la ls.length lc), (.slice none 0 0, .slice none 0 0)] [⟨0, u, 0, [], []⟩, ⟨1, 0, n, [], []⟩, ⟨4, 0, 0, toNats bs, []⟩, ⟨5, 0, 0, [], ls⟩, ⟨2, 0, 1, [], []⟩] hcs.symm
  have hbL : Below w3.heap.size w3 (w3.alloc (.cells #[.int .i64 0, .int .u64 (u : Int), .int .i64 0, .slice none 0 0, .slice none 0 0, .int .i64 1, .int .u64 0, .int .i64 n, .slice none 0 0, .slice none 0 0, .int .i64 4, .int .u64 0, .int .i64 0, .slice fa bs.length fc, .slice none 0 0, .int .i64 5, .int .u64 0, .int .i64 0, .slice none 0 0, .slice la ls.length lc, .int .i64 2, .int .u64 0, .int .i64 1, .slice none 0 0, .slice none 0 0] 28)) := (Below.refl _ w3).alloc (Nat.le_refl _) _
  obtain ⟨CS, hCS⟩ : ∃ CS : Array Value, #[.int .i64 0, .int .u64 (u : Int), .int .i64 0, .slice none 0 0, .slice none 0 0, .int .i64 1, .int .u64 0, .int .i64 n, .slice none 0 0, .slice none 0 0, .int .i64 4, .int .u64 0, .int .i64 0, .slice fa bs.length fc, .slice none 0 0, .int .i64 5, .int .u64 0, .int .i64 0, .slice none 0 0, .slice la ls.length lc, .int .i64 2, .int .u64 0, .int .i64 1, .slice none 0 0, .slice none 0 0] = CS := ⟨_, rfl⟩
  have HCS := Lib.hid hCS
  rw [hCS] at hlit hbL
  have HLIT := Lib.hid hlit
  have HBL := Lib.hid hbL
  have HG4 := Lib.hid (gv_keeps HG3.out (Keeps.of_below hbL) (fun k _ h1 h2 => by omega))
  have HF2c := Lib.hid (row_of_fresh (fresh_keeps HF2b.out hbL))
  have HF3c := Lib.hid (row_of_fresh (fresh_keeps HF3.out hbL))
  have hsL : (w3.alloc (.cells CS 28)).heap.size = w3.heap.size + 1 := by simp
  clear hcs hlit hbL hCS HG3 HF2b HF3
  go_wp2_with (at_builtin; go_must (rw [HCS.out]; refine wpList_append_gv rfl _ _ rfl w.heap.size w1.heap.size w3.heap.size v1 xs rfl HG4.out w3.heap.size 5 5 rfl [(.slice none 0 0, .slice none 0 0), (.slice none 0 0, .slice none 0 0), (.slice fa bs.length fc, .slice none 0 0), (.slice none 0 0, .slice la ls.length lc), (.slice none 0 0, .slice none 0 0)] [⟨0, u, 0, [], []⟩, ⟨1, 0, n, [], []⟩, ⟨4, 0, 0, toNats bs, []⟩, ⟨5, 0, 0, [], ls⟩, ⟨2, 0, 1, [], []⟩] rfl rfl HLIT.out (by simp [flatV, cellsV, Value.oneCell']) (parts_five (by rw [HBN.out]; exact HF2c.out) HF3c.out (fun j hj => by have h1 := S2.out j hj; exact ⟨by omega, by omega, fun e => by have := (gv_own HG4.out j e).2; omega⟩) (fun j hj => by have h1 := S3.out j hj; exact ⟨by omega, by omega, fun e => by have := (gv_own HG4.out j e).2; omega⟩)) (by omega) (by omega) (by omega) (by omega) ?_); intro a2 n2 c2 w4 hn2 hg2 hgrow; have hb4 : Below w.heap.size w w4 := (below_foot hb3 (Keeps.of_below HBL.out) (by omega) (fun k hk => by omega)).grown hgrow (by omega) (fun k hk => (gv_own HG4.out k hk).1); have hal : (xs ++ [⟨0, u, 0, [], []⟩, ⟨1, 0, n, [], []⟩, ⟨4, 0, 0, toNats bs, []⟩, ⟨5, 0, 0, [], ls⟩, ⟨2, 0, 1, [], []⟩] : List VV).length ≤ 13 := (by rw [List.length_append]; simp; omega); have HAOK := Lib.hid (five_ok (fun x hx => (HOK.out x hx).1) hu2 HN.out (toNats_mem HBR.out) (by rw [toNats_length]; omega) HLR.out (by omega)); generalize (xs ++ [⟨0, u, 0, [], []⟩, ⟨1, 0, n, [], []⟩, ⟨4, 0, 0, toNats bs, []⟩, ⟨5, 0, 0, [], ls⟩, ⟨2, 0, 1, [], []⟩] : List VV) = all at *; subst hn2; have HG := Lib.hid hg2; clear hg2 hgrow HLIT HBL HG4 HOK hb3 HF2c HF3c HCS)
  have hs4 := hb4.size
  have hbA : Below w4.heap.size w4 (w4.alloc (.cells #[.slice none 0 0] 32)) := (Below.refl _ w4).alloc (Nat.le_refl _) _
  have hb5 := below_foot hb4 (Keeps.of_below hbA) (by omega) (fun k hk => by omega)
  have HG5 := Lib.hid (gv_keeps HG.out (Keeps.of_below hbA) (fun k _ h1 h2 => by omega))
  have HW5 := Lib.hid (wr_new w4)
  have hs5 : (w4.alloc (.cells #[.slice none 0 0] 32)).heap.size = w4.heap.size + 1 := by simp
  have hcm : c2 ≤ 9223372036854775807 := by obtain ⟨_, c, e, _, h⟩ := gv_form HG.out; injection e with _ _ e; omega
  have hcl : all.length ≤ c2 := by obtain ⟨_, c, e, h, _⟩ := gv_form HG.out; injection e with _ _ e; omega
  generalize w4.alloc (.cells #[.slice none 0 0] 32) = w5 at *
  clear hbA hb4 HG HVB HVL HBR HLR HBS HLS S2 S3 HBN HN
  go_loopw [13] (fun iv wr => ∃ k g : Nat, k ≤ all.length ∧ iv = .int .i64 (k : Int) ∧ Hid (Wr wr w4.heap.size g (encAll (all.take k))) ∧ w4.heap.size ≤ g ∧ Hid (Gv w.heap.size w4.heap.size wr (.slice a2 all.length c2) all) ∧ Below w.heap.size w wr) (fun iv _ => all.length - (intOf iv).toNat)
  case atStart => exact ⟨0, w4.heap.size, Nat.zero_le _, rfl, HW5, Nat.le_refl _, HG5, hb5⟩
  case round =>
    obtain ⟨k, g, hk, rfl, HWr, hgg, HGr, hbel⟩ := hrel
    clear HW5 HG5 hb5
    have hlw := HWr.out.lts
    by_cases hlt : k < all.length
    · obtain ⟨gg, vb', vl', rfl, hgl, hgh, c0, c1, c2', c3, c4, hrb, hrl, hbl'⟩ := gv_at HGr.out hlt
      have HRB := Lib.hid hrb
      have HRL := Lib.hid hrl
      have HBL := Lib.hid hbl'
      have HX := Lib.hid (HAOK.out all[k] (List.getElem_mem hlt))
      have HE := Lib.hid (encAll_take hlt)
      have HLN : Hid ((encAll (all.take k)).length ≤ 100000000) := by
        have h1 := encAll_len (xs := all.take k) (fun u hu => HAOK.out u (List.mem_of_mem_take hu))
        have h3 : (all.take k).length ≤ 13 := by simp; omega
        exact Lib.hid (by omega)
      have HLN2 : Hid ((encAll (all.take (k + 1))).length ≤ 1000000) := by
        have h1 := encAll_len (xs := all.take (k + 1)) (fun u hu => HAOK.out u (List.mem_of_mem_take hu))
        have h3 : (all.take (k + 1)).length ≤ 13 := by simp; omega
        exact Lib.hid (by omega)
      have HTOK : Hid (∀ x ∈ all.take (k + 1), x.ok) := Lib.hid (fun x hx => HAOK.out x (List.mem_of_mem_take hx))
      have HTL : Hid ((all.take (k + 1)).length ≤ 1000) := Lib.hid (by simp; omega)
      clear hrb hrl hbl'
      generalize all[k] = x at *
      go_wp2_with fail
      refine (write_any w4.heap.size g _ vb' vl' x wr HWr.out HRB.out HRL.out (fun i hi => by have := HBL.out i hi; omega) HX.out HLN.out).mono ?_
      rintro e w6 ⟨rfl, g2, hw6, hg6, hk6⟩
      rw [← HE.out] at hw6
      have hb6 := below_foot hbel hk6 (by omega) (fun i hi => by omega)
      have hgg2 : w4.heap.size ≤ g2 := by omega
      have hG6 := gv_keeps HGr.out hk6 (fun i hi hi2 => by omega)
      have hlw6 := hw6.lts
      have hd : Below w6.heap.size w6 w6.drew := (Below.refl _ w6).drew
      have HW7 := Lib.hid (wr_below hw6 hd)
      have HG7 := Lib.hid (gv_keeps hG6 (Keeps.of_below hd) (fun i _ h1 h2 => by omega))
      have hb7 : Below w.heap.size w w6.drew := hb6.drew
      have DN := Lib.hid (devDone_any w4.heap.size g2 _ w6.drew HW7.out (by have := HLN2.out; omega))
      unfold Copies at DN
      have VT : Hid (∀ W, Gv w.heap.size w4.heap.size W (.slice (some ⟨gg, 0, none⟩) all.length c2) all → ValRow W (.slice (some ⟨gg, 0, none⟩) (k + 1) c2) (all.take (k + 1))) := Lib.hid (fun W h => valRow_take h (by omega) hcm)
      have EN : Hid (∀ W v, ValRow W v (all.take (k + 1)) → Calls Try.prog 17 #[v] W (Copies 5 .u8 (natI (encAll (all.take (k + 1)))) W)) := Lib.hid (fun W v h => refEncode_any v _ W h HTOK.out HTL.out)
      unfold Copies at EN
      clear hw6 hG6 hd hb6 hbel HWr HGr c0 c1 c2' c3 c4 hk6 HRB HRL HBL HX HE HLN
      generalize hLL : encAll (all.take (k + 1)) = L at *
      have HLL := Lib.hid hLL
      clear hLL
      have hkc : (k : Int) + 1 ≤ (c2 : Int) := by omega
      have hk0 : (0 : Int) ≤ (k : Int) + 1 := by omega
      have hkn : ((k : Int) + 1).toNat = k + 1 := by omega
      have hkw : IntKind.i64.wrap ((k : Int) + 1) = (k : Int) + 1 := by rw [wrap_i64]; unfold wrap64; omega
      have hc20 : ¬ c2 = 0 := by omega
      have hc2p : 0 < c2 := by omega
      go_wp2_with fail
      go_region_with (first
        | (go_at_call 16; refine DN.out.mono ?_; rintro e w7 ⟨v5, rfl, hf5, hb5⟩; have F5 := Lib.hid hf5; have HG8 := Lib.hid (gv_keeps HG7.out (Keeps.of_below hb5) (fun i _ h1 h2 => by have : w6.drew.heap.size = w6.heap.size := rfl; omega)); have HW8 := Lib.hid (wr_below HW7.out hb5); have hb8 := below_then hb7 hb5; clear hf5 hb5)
        | (go_at_call 17; refine (EN.out _ _ (VT.out _ HG8.out)).mono ?_; rintro e w8 ⟨v6, rfl, hf6, hb9⟩; have F6 := Lib.hid hf6; have F5b := Lib.hid (fresh_keeps F5.out hb9); have HG9 := Lib.hid (gv_keeps HG8.out (Keeps.of_below hb9) (fun i _ h1 h2 => by have := hb8.size; have := (wr_below HW7.out (Below.refl _ _)).lts; have := HW8.out.lts; omega)); have HW9 := Lib.hid (wr_below HW8.out hb9); have hb10 := below_then hb8 hb9; clear hf6 hb9)
        | (go_at_call 15; refine (sameBytes_any v5 v6 (natI L) (natI L) _ (Elems.of_fresh F5b.out) (Elems.of_fresh F6.out) (by rw [natI_length]; exact HLN2.out) (by rw [natI_length]; exact HLN2.out)).mono ?_; rintro e w9 ⟨rfl, hb11⟩; rw [decide_eq_true (rfl : natI L = natI L)]))
      all_goals
        have HG12 := Lib.hid (gv_keeps HG9.out (Keeps.of_below hb11) (fun i _ h1 h2 => by have := HW9.out.lts; omega))
        have HW12 := Lib.hid (wr_below HW9.out hb11)
        have hb12 := below_then hb10 hb11
        clear hb11 HG9 HW9 hb10 F5b F6 HG8 HW8 HG7 HW7
        go_wp2_with fail
        go_roundw
        case rel => exact ⟨k + 1, g2, by omega, by go_num, Lib.hid (by rw [HLL.out]; exact HW12.out), hgg2, HG12, hb12⟩
        case measure => simp [intOf]; omega
    · obtain rfl : k = all.length := by omega
      go_wp2_with fail
      refine (lives_any2 wr).mono ?_
      rintro e w8 ⟨rfl, hb⟩
      have hbF := below_then hbel hb
      go_wp2_with fail
      go_ret
      exact ⟨rfl, hbF⟩
end Go.Proofs.Ytghilgkkpbhoiaa
