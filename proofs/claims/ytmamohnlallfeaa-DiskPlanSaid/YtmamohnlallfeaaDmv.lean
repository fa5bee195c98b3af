/-
  The law DiskArguments.
-/
import Derived.Deep.DeepCutAuto
import Derived.Test.YtmamohnlallfeaaDkC
namespace Go.Proofs.Ytmamohnlallfeaa
open Go.RowKit Go.Shelf
set_option linter.unusedVariables false
set_option maxRecDepth 100000

theorem natI_toNats2 {zs : List Int} (h : ∀ n ∈ zs, 0 ≤ n ∧ n ≤ 255) : natI (toNats zs) = zs ∧ ∀ c ∈ toNats zs, c < 256 := by
  constructor
  · unfold natI toNats
    rw [List.map_map]
    conv => rhs; rw [← List.map_id zs]
    refine List.map_congr_left fun n hn => ?_
    have := h n hn
    show ((n.toNat : Nat) : Int) = n
    omega
  · intro c hc
    obtain ⟨n, hn, rfl⟩ := List.mem_map.1 hc
    have := h n hn
    omega
theorem elems_take {k : IntKind} {w : World} {a : Option Addr} {n cap : Nat} {zs : List Int} (h : Elems k w (.slice a n cap) zs) (hn : n = zs.length) {m : Nat} (hm : m ≤ n) : Elems k w (.slice a m cap) (zs.take m) := by
  obtain ⟨a2, cap2, h1, h2⟩ := h
  injection h1 with h3 h4 h5
  subst h3 h5
  have hl : (zs.take m).length = m := by rw [List.length_take]; omega
  refine ⟨a, cap, by rw [hl], fun hne => ?_⟩
  obtain ⟨b, off, h6, h7⟩ := h2 (fun e => hne (by rw [e, List.take_nil]))
  refine ⟨b, off, h6, fun j hj => ?_⟩
  rw [hl] at hj
  rw [h7 j (by omega), List.getElem?_take_of_lt hj]
theorem sum_new : sumB pNew.B = 0 := by decide
theorem sum_one {k : Nat} (hk : k < 64) (x : List Nat) : sumB (setB (fun _ => []) k x) = x.length := by
  have h := sum_put (fun _ => 0) k x.length rfl 64
  rw [if_pos hk] at h
  have e : (fun j => (setB (fun _ => []) k x j).length) = fun j => if j = k then x.length else 0 := by
    funext j
    unfold setB
    split <;> rfl
  have h0 : ((List.range 64).map fun _ => 0).sum = 0 := by decide
  unfold sumB
  rw [e, h, h0]
  rfl

def DaFacts (s1 : St) (file size : Int) (bs : List Nat) : Prop :=
  sumB s1.B = bs.length ∧
  (0 ≤ size → size ≤ (bs.length : Int) → (pTrunc s1 file size).1 = 0 ∧ (pRead (pTrunc s1 file size).2 file).2 = bs.take size.toNat) ∧
  (¬ (0 ≤ size ∧ size ≤ (bs.length : Int)) → (pTrunc s1 file size).1 = 1 ∧ (pTrunc s1 file size).2 = s1)
theorem da_fits {R k : Nat} {bs : List Nat} (hk : k < 64) (hfit : bs.length ≤ R) (size : Int) : ∃ s1 : St, (pApp R pNew (k : Int) bs).1 = 0 ∧ (pApp R pNew (k : Int) bs).2 = s1 ∧ (pRead s1 (k : Int)).1 = 0 ∧ (pRead s1 (k : Int)).2 = bs ∧ DaFacts s1 (k : Int) size bs := by
  have hft : isF (k : Int) = true := isF_true (by omega)
  have hsk : setB (fun _ => []) k bs (k : Int).toNat = bs := by unfold setB; rw [Int.toNat_natCast, if_pos rfl]
  have hap : pApp R pNew (k : Int) bs = (0, ⟨true, -1, setB (fun _ => []) k bs, fun _ => 0⟩) := by
    unfold pApp
    rw [hft, if_neg (fun h => by cases h), if_neg (fun h => by cases h), if_neg (by rw [sum_new]; omega)]
    rfl
  refine ⟨⟨true, -1, setB (fun _ => []) k bs, fun _ => 0⟩, by rw [hap], by rw [hap], ?_, ?_, sum_one hk bs, fun h1 h2 => ?_, fun h1 => ?_⟩
  · unfold pRead
    rw [hft, if_neg (fun h => by cases h), if_neg (fun h => by cases h)]
  · unfold pRead
    rw [hft, if_neg (fun h => by cases h), if_neg (fun h => by cases h)]
    exact hsk
  · have ht : pTrunc ⟨true, -1, setB (fun _ => []) k bs, fun _ => 0⟩ (k : Int) size = (0, ⟨true, max (-1 - 1) (-1), setB (setB (fun _ => []) k bs) (k : Int).toNat ((setB (fun _ => []) k bs (k : Int).toNat).take size.toNat), setD (fun _ => 0) (k : Int).toNat (min 0 size.toNat)⟩) := by
      unfold pTrunc
      have hc : isF (k : Int) = true ∧ 0 ≤ size ∧ size ≤ ((setB (fun _ => []) k bs (k : Int).toNat).length : Int) := ⟨hft, h1, by rw [hsk]; exact h2⟩
      rw [if_neg (fun h => h hc)]
      rfl
    rw [ht]
    refine ⟨rfl, ?_⟩
    unfold pRead
    rw [hft, if_neg (fun h => by cases h), if_neg (fun h => by cases h)]
    show setB _ _ _ (k : Int).toNat = _
    rw [hsk]
    unfold setB
    rw [if_pos rfl]
  · have ht : pTrunc ⟨true, -1, setB (fun _ => []) k bs, fun _ => 0⟩ (k : Int) size = (1, ⟨true, -1, setB (fun _ => []) k bs, fun _ => 0⟩) := by
      unfold pTrunc
      rw [if_pos]
      rintro ⟨_, h3, h4⟩
      have h5 : size ≤ ((setB (fun _ => []) k bs (k : Int).toNat).length : Int) := h4
      rw [hsk] at h5
      exact h1 ⟨h3, h5⟩
    rw [ht]
    exact ⟨rfl, rfl⟩
theorem da_full {R k : Nat} {bs : List Nat} (hk : k < 64) (hfit : ¬ bs.length ≤ R) : (pApp R pNew (k : Int) bs).1 = 22 ∧ (pApp R pNew (k : Int) bs).2 = pNew ∧ (pRead pNew (k : Int)).1 = 0 ∧ (pRead pNew (k : Int)).2 = [] := by
  have hft : isF (k : Int) = true := isF_true (by omega)
  unfold pApp pRead
  rw [hft, if_neg (fun h => by cases h), if_neg (fun h => by cases h), if_pos (by rw [sum_new]; omega), if_neg (fun h => by cases h), if_neg (fun h => by cases h)]
  exact ⟨rfl, rfl, rfl, rfl⟩
theorem da_bad {R : Nat} {file : Int} {bs : List Nat} (hf : ¬ (0 ≤ file ∧ file < 64)) : (pApp R pNew file bs).1 = 1 ∧ (pApp R pNew file bs).2 = pNew ∧ (pRead pNew file).1 = 1 ∧ (pRead pNew file).2 = [] ∧ (pTrunc pNew file 0).1 = 1 ∧ (pTrunc pNew file 0).2 = pNew := by
  have hff := isF_false hf
  have ht : pTrunc pNew file 0 = (1, pNew) := by
    unfold pTrunc
    rw [if_pos (fun h => by have := h.1; rw [hff] at this; cases this)]
  unfold pApp pRead
  rw [hff, if_pos rfl, if_pos rfl, ht]
  exact ⟨rfl, rfl, rfl, rfl, rfl, rfl⟩

set_option maxHeartbeats 8000000 in
theorem walk_DiskArguments (room file size : Int) (vb : Value) (b : List Int) (w : World) (hroom : -9223372036854775808 ≤ room ∧ room ≤ 9223372036854775807) (hfile : -9223372036854775808 ≤ file ∧ file ≤ 9223372036854775807)
    (hsize : -9223372036854775808 ≤ size ∧ size ≤ 9223372036854775807) (hvb : Row .u8 w vb b) (hb : ∀ n ∈ b, 0 ≤ n ∧ n ≤ 255) :
    Calls Try.prog 4 #[.int .i64 room, .int .i64 file, .int .i64 size, vb] w fun e w' => e = .returned (.bool true) ∧ Below w.heap.size w w' := by
  have HVB := Lib.hid hvb
  obtain ⟨hbs, h8⟩ := natI_toNats2 (zs := b.take 60) (fun n hn => hb n (List.mem_of_mem_take hn))
  have hl60 : (toNats (b.take 60)).length ≤ 60 := by rw [toNats_length, List.length_take]; omega
  generalize toNats (b.take 60) = bs at *
  have HBS := Lib.hid hbs
  have H8 := Lib.hid h8
  have HL6 := Lib.hid hl60
  clear hvb hb hbs h8
  by_cases hr : 0 ≤ room ∧ room ≤ 16777216
  · obtain ⟨R, rfl⟩ := Int.eq_ofNat_of_zero_le hr.1
    have hr2 := hr.2
    go_enter Try.func4, Try.ntmps4
    go_wp2_with fail
    refine (newS_any R w hr).mono ?_
    rintro e w1 ⟨d, A0, rfl, hd, hA0, hb⟩
    rw [Int.toNat_natCast] at hd
    have D1 := Lib.hid (Dsk.made (n := w.heap.size) hd hA0 (Nat.le_refl _))
    have B1 := Lib.hid hb
    clear hd hA0 hb hr
    generalize (fun k => A0 k ∧ k < w1.heap.size) = A1 at D1
    go_wp2_with fail
    refine (refFew_any vb b 60 w1 (row_keeps HVB.out B1.out) (by decide)).mono ?_
    rintro e w2 ⟨own, rfl, ho, hb⟩
    rw [← HBS.out] at ho
    obtain ⟨oa, oc, rfl, _⟩ := fresh_elems ho
    rw [natI_length] at ho ⊢
    have HO := Lib.hid ho
    have D2 := Lib.hid (D1.out.below hb)
    have N1 := Lib.hid D1.out.hi
    have B2 := Lib.hid (B1.out.trans (hb.mono B1.out.size))
    clear ho hb D1 B1
    go_wp2_with fail
    refine (appS_any D2.out.dk file oa oc bs (row_of_fresh HO.out) H8.out (by have := HL6.out; omega)).mono ?_
    rintro e w3 ⟨rfl, hu⟩
    obtain ⟨A3, hd, hk, hf, hb⟩ := D2.out.up hu B2.out.size
    have D3 := Lib.hid hd
    have HO3 := Lib.hid (own_foot2 HO.out hk (fun j hj hA => by have := (HO.out.lt j hj).1; have := N1.out j hA; omega))
    have NO : Hid (∀ j, Value.ownBlock (.slice oa bs.length oc) = some j → ¬ A3 j) := Lib.hid (fun j hj hA => by
      have h1 := HO.out.lt j hj
      rcases hf j hA with h2 | h2
      · have := N1.out j h2; omega
      · omega)
    have B3 := Lib.hid (B2.out.trans hb)
    clear hu hd hk hf hb D2 B2 N1 HO
    go_wp2_with fail
    refine (readS_any D3.out.dk file).mono ?_
    rintro e w4 ⟨x, rfl, hx, hb⟩
    have D4 := Lib.hid (D3.out.below hb)
    have HO4 := Lib.hid (fresh_keeps HO3.out hb)
    have HX4 := Lib.hid hx
    have B4 := Lib.hid (B3.out.trans (hb.mono B3.out.size))
    clear hx hb D3 HO3 B3
    by_cases hf : 0 ≤ file ∧ file < 64
    · obtain ⟨k, rfl⟩ := Int.eq_ofNat_of_zero_le hf.1
      have hk64 : k < 64 := by omega
      by_cases hfit : bs.length ≤ R
      · obtain ⟨s1, ha1, ha2, hp1, hp2, hfa⟩ := da_fits hk64 hfit size
        rw [ha2] at D4 HX4 ⊢
        rw [ha1]
        rw [hp2] at HX4
        rw [hp1]
        have HFA := Lib.hid hfa
        clear ha1 ha2 hp1 hp2 hfa
        have hc1 : ¬ (k : Int) < 0 := by omega
        have hc2 : ¬ 63 < (k : Int) := by omega
        have hc3 : ¬ (R : Int) < (bs.length : Int) := by omega
        go_wp2_with fail
        refine (sameBytes_any x _ (natI bs) (natI bs) w4 (Elems.of_fresh HX4.out) (by have := Elems.of_fresh HO4.out; exact this) (by rw [natI_length]; omega) (by rw [natI_length]; omega)).mono ?_
        rintro e w5 ⟨rfl, hb⟩
        rw [decide_eq_true rfl]
        have D5 := Lib.hid (D4.out.below hb)
        have HO5 := Lib.hid (fresh_keeps HO4.out hb)
        have B5 := Lib.hid (B4.out.trans (hb.mono B4.out.size))
        clear hb D4 HO4 B4 HX4
        go_wp2_with fail
        refine (truncS_any D5.out.dk (k : Int) size).mono ?_
        rintro e w6 ⟨rfl, hu⟩
        obtain ⟨A6, hd, hk6, hf6, hb⟩ := D5.out.up hu B5.out.size
        have D6 := Lib.hid hd
        have HO6 := Lib.hid (own_foot2 HO5.out hk6 NO.out)
        have B6 := Lib.hid (B5.out.trans hb)
        clear hu hd hk6 hf6 hb D5 HO5 B5
        by_cases hs : 0 ≤ size ∧ size ≤ (bs.length : Int)
        · obtain ⟨m, rfl⟩ := Int.eq_ofNat_of_zero_le hs.1
          have hm2 : (m : Int) ≤ (bs.length : Int) := hs.2
          have hm3 : m ≤ bs.length := by omega
          have hmc : (m : Int) ≤ (oc : Int) := by
            obtain ⟨a9, c9, h9, h91, _⟩ := fresh_elems HO6.out
            injection h9 with _ _ h92
            rw [natI_length] at h91
            omega
          have hmc2 : m ≤ oc := by omega
          obtain ⟨hg1, hg2⟩ := HFA.out.2.1 hs.1 hs.2
          rw [hg1]
          have HG2 := Lib.hid hg2
          have hz1 : ¬ (m : Int) < 0 := by omega
          have hz2 : ¬ (bs.length : Int) < (m : Int) := by omega
          clear hg1 hg2 hs
          go_wp2_with fail
          refine (readS_any D6.out.dk (k : Int)).mono ?_
          rintro e w7 ⟨y, rfl, hy, hb⟩
          rw [HG2.out, Int.toNat_natCast] at hy
          have HY7 := Lib.hid hy
          have HO7 := Lib.hid (fresh_keeps HO6.out hb)
          have B7 := Lib.hid (B6.out.trans (hb.mono B6.out.size))
          clear hy hb D6 HO6 B6
          go_wp2_with fail
          refine (sameBytes_any y _ (natI (bs.take m)) (natI (bs.take m)) w7 (Elems.of_fresh HY7.out) (by rw [natI_first]; exact elems_take (Elems.of_fresh HO7.out) (by rw [natI_length]) hm3) (by rw [natI_length, List.length_take]; omega) (by rw [natI_length, List.length_take]; omega)).mono ?_
          rintro e w8 ⟨rfl, hb⟩
          rw [decide_eq_true rfl]
          have B8 := Lib.hid (B7.out.trans (hb.mono B7.out.size))
          clear hb HY7 HO7 B7
          go_wp2_with fail
          refine (lives5_any w8).mono ?_
          rintro e wl ⟨rfl, hb⟩
          have BL := Lib.hid (B8.out.trans (hb.mono B8.out.size))
          clear hb
          go_wp2_with fail
          go_ret
          exact ⟨rfl, BL.out⟩
        · obtain ⟨hg1, hg2⟩ := HFA.out.2.2 hs
          rw [hg1]
          rw [hg2] at D6
          have hcase : size < 0 ∨ (¬ size < 0 ∧ (bs.length : Int) < size) := by omega
          clear hg1 hg2
          rcases hcase with hc4 | ⟨hc4, hc5⟩
          all_goals
            go_wp2_with fail
            refine (usedS_any D6.out.dk).mono ?_
            rintro e w7 ⟨rfl, hb⟩
            rw [HFA.out.1]
            have B7 := Lib.hid (B6.out.trans (hb.mono B6.out.size))
            clear hb
            go_wp2_with fail
            refine (lives5_any w7).mono ?_
            rintro e wl ⟨rfl, hb⟩
            have BL := Lib.hid (B7.out.trans (hb.mono B7.out.size))
            clear hb
            go_wp2_with fail
            go_ret
            exact ⟨rfl, BL.out⟩
      · obtain ⟨ha1, ha2, hp1, hp2⟩ := da_full hk64 hfit
        rw [ha2] at D4 HX4 ⊢
        rw [ha1]
        rw [hp2] at HX4
        rw [hp1]
        obtain ⟨xa, xc, rfl, _⟩ := fresh_elems HX4.out
        clear ha1 ha2 hp1 hp2 HX4 HO4 NO
        have hc1 : ¬ (k : Int) < 0 := by omega
        have hc2 : ¬ 63 < (k : Int) := by omega
        have hc3 : (R : Int) < (bs.length : Int) := by omega
        go_wp2_with fail
        refine (usedS_any D4.out.dk).mono ?_
        rintro e w5 ⟨rfl, hb⟩
        rw [sum_new]
        have B5 := Lib.hid (B4.out.trans (hb.mono B4.out.size))
        clear hb
        go_wp2_with fail
        refine (lives5_any w5).mono ?_
        rintro e wl ⟨rfl, hb⟩
        have BL := Lib.hid (B5.out.trans (hb.mono B5.out.size))
        clear hb
        go_wp2_with fail
        go_ret
        exact ⟨rfl, BL.out⟩
    · obtain ⟨ha1, ha2, hp1, hp2, ht1, ht2⟩ := da_bad (R := R) (bs := bs) hf
      have htr := Lib.hid (And.intro ht1 ht2)
      rw [ha2] at D4 HX4 ⊢
      rw [ha1]
      rw [hp2] at HX4
      rw [hp1]
      obtain ⟨xa, xc, rfl, _⟩ := fresh_elems HX4.out
      clear ha1 ha2 hp1 hp2 ht1 ht2 HX4 HO4 NO
      have hcase : file < 0 ∨ (¬ file < 0 ∧ 63 < file) := by omega
      rcases hcase with hc | ⟨hc, hc2⟩
      all_goals
        go_wp2_with fail
        refine (truncS_any D4.out.dk file 0).mono ?_
        rintro e w5 ⟨rfl, hu⟩
        rw [htr.out.1]
        obtain ⟨A5, hd, hk, hf5, hb⟩ := D4.out.up hu B4.out.size
        rw [htr.out.2] at hd
        have D5 := Lib.hid hd
        have B5 := Lib.hid (B4.out.trans hb)
        clear hu hd hk hf5 hb D4 B4
        go_wp2_with fail
        refine (usedS_any D5.out.dk).mono ?_
        rintro e w6 ⟨rfl, hb⟩
        rw [sum_new]
        have B6 := Lib.hid (B5.out.trans (hb.mono B5.out.size))
        clear hb
        go_wp2_with fail
        refine (lives5_any w6).mono ?_
        rintro e wl ⟨rfl, hb⟩
        have BL := Lib.hid (B6.out.trans (hb.mono B6.out.size))
        clear hb
        go_wp2_with fail
        go_ret
        exact ⟨rfl, BL.out⟩
  · have hcase : room < 0 ∨ (¬ room < 0 ∧ 16777216 < room) := by omega
    have HR := Lib.hid hr
    clear hr
    rcases hcase with hc | ⟨hc, hc2⟩
    all_goals
      go_enter Try.func4, Try.ntmps4
      go_wp2_with fail
      refine (new_any room w).mono ?_
      rintro e w1 ⟨h1, _⟩
      obtain ⟨rfl, rfl⟩ := h1 HR.out
      have B1 := Lib.hid (Below.refl w1.heap.size w1)
      go_wp2_with fail
      refine (lives5_any w1).mono ?_
      rintro e wl ⟨rfl, hb⟩
      have BL := Lib.hid (B1.out.trans (hb.mono B1.out.size))
      clear hb
      go_wp2_with fail
      go_ret
      exact ⟨rfl, BL.out⟩
end Go.Proofs.Ytmamohnlallfeaa
