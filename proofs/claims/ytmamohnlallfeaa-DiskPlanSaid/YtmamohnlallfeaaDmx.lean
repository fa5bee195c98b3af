/-
  The law DiskHash.
-/
import Derived.Test.YtmamohnlallfeaaDmw
namespace Go.Proofs.Ytmamohnlallfeaa
open Go.RowKit Go.Shelf
set_option linter.unusedVariables false
set_option maxRecDepth 100000

theorem new_one (k : Nat) : pNew.B = oneB k [] := by
  funext j
  unfold oneB setB
  by_cases hj : j = k
  · rw [if_pos hj]; rfl
  · rw [if_neg hj]; rfl
def DhFacts (s1 s3 : St) (ys x : List Nat) (same : Bool) : Prop :=
  (pRead s3 0).1 = 0 ∧ (pRead s3 0).2 = x ∧ x.length = ys.length ∧ (∀ c ∈ x, c < 256) ∧ ((same = true → x = ys) ∧ (same = false → bytesN (strN ⟨#[102]⟩) x ≠ bytesN (strN ⟨#[102]⟩) ys))
theorem dh_facts {ys : List Nat} (h1 : 1 ≤ ys.length) (h2 : ys.length ≤ 8) (h8 : ∀ c ∈ ys, c < 256) (flip : Int) (synced : Bool) :
    (pApp 100 pNew 0 ys).1 = 0 ∧ (pSync (pApp 100 pNew 0 ys).2).1 = 0 ∧ ∃ x, DhFacts (pApp 100 pNew 0 ys).2 (pCrash (if synced then (pSync (pApp 100 pNew 0 ys).2).2 else (pApp 100 pNew 0 ys).2) [8] flip) ys x (synced || decide (flip < 0)) := by
  have ha := app_one (room := 100) (k := 0) (by decide) (s := pNew) (ys := []) rfl rfl (new_one 0) (zs := ys) (by simp; omega)
  rw [List.nil_append] at ha
  have ha2 : pApp 100 pNew 0 ys = (0, ⟨true, -1, oneB 0 ys, pNew.D⟩) := ha
  have hs := sync_one (s := ⟨true, -1, oneB 0 ys, pNew.D⟩) rfl rfl
  rw [ha2]
  refine ⟨rfl, by rw [hs], ?_⟩
  have hk8 : keepAt [8] 0 = 8 := rfl
  cases synced
  · have hc := crash_one (k := 0) (by decide) ys true (-1) pNew.D [8] flip
    have hz : ys.take (pNew.D 0 + lostN 8 (ys.length - pNew.D 0)) = ys := by
      show ys.take (0 + lostN 8 (ys.length - 0)) = ys
      refine List.take_of_length_le ?_
      unfold lostN
      omega
    rw [hk8] at hc
    refine ⟨crashL ys (pNew.D 0) 8 flip, (read_one (k := 0) (by decide) rfl hc).1, (read_one (k := 0) (by decide) rfl hc).2, ?_⟩
    unfold crashL
    rw [hz]
    show ((if 0 ≤ flip ∧ 0 < ys.length - 0 then turn ys (8 * 0 + flip.toNat % (8 * (ys.length - 0))) else ys).length = ys.length ∧ (∀ c ∈ (if 0 ≤ flip ∧ 0 < ys.length - 0 then turn ys (8 * 0 + flip.toNat % (8 * (ys.length - 0))) else ys), c < 256) ∧ (((false || decide (flip < 0)) = true → (if 0 ≤ flip ∧ 0 < ys.length - 0 then turn ys (8 * 0 + flip.toNat % (8 * (ys.length - 0))) else ys) = ys) ∧ ((false || decide (flip < 0)) = false → bytesN (strN ⟨#[102]⟩) (if 0 ≤ flip ∧ 0 < ys.length - 0 then turn ys (8 * 0 + flip.toNat % (8 * (ys.length - 0))) else ys) ≠ bytesN (strN ⟨#[102]⟩) ys)))
    by_cases hf : flip < 0
    · rw [if_neg (by omega)]
      exact ⟨rfl, h8, fun _ => rfl, fun h => by rw [decide_eq_true hf] at h; cases h⟩
    · rw [if_pos (by omega)]
      have hp : (8 * 0 + flip.toNat % (8 * (ys.length - 0))) / 8 < ys.length := by have := Nat.mod_lt flip.toNat (show 0 < 8 * (ys.length - 0) by omega); omega
      generalize 8 * 0 + flip.toNat % (8 * (ys.length - 0)) = p at *
      refine ⟨turn_len ys p, turn_lt h8 hp, fun h => ?_, fun _ he => ?_⟩
      · rw [decide_eq_false hf] at h; cases h
      · refine turn_ne h8 hp (group_inj (q := 0) (strN ⟨#[102]⟩) (turn_len ys p) (turn_lt h8 hp) h8 (fun i hi => ?_) he)
        unfold turn
        rw [List.getElem?_set_ne (by omega)]
  · show ∃ x, DhFacts _ (pCrash (pSync ⟨true, -1, oneB 0 ys, pNew.D⟩).2 [8] flip) ys x _
    rw [hs]
    have hc := crash_one (k := 0) (by decide) ys true (-1) (fun k => (oneB 0 ys k).length) [8] flip
    rw [hk8] at hc
    have hz : crashL ys ys.length 8 flip = ys := by
      unfold crashL
      have : ys.take (ys.length + lostN 8 (ys.length - ys.length)) = ys := List.take_of_length_le (by omega)
      rw [this, if_neg (by omega)]
    have hl : (oneB 0 ys 0).length = ys.length := by rw [oneB_at]
    rw [hl, hz] at hc
    exact ⟨ys, (read_one (k := 0) (by decide) rfl hc).1, (read_one (k := 0) (by decide) rfl hc).2, rfl, h8, fun _ => rfl, fun h => by cases h⟩

/-- Blocks that lie outside a stretch. -/
def Gap (n m : Nat) (A : Foot) : Prop := ∀ k, A k → k < n ∨ m ≤ k
theorem gap_up {n m s : Nat} {A A2 : Foot} (hg : Gap n m A) (hf : ∀ k, A2 k → A k ∨ s ≤ k) (hm : m ≤ s) : Gap n m A2 := fun k hk => by
  rcases hf k hk with h | h
  · exact hg k h
  · exact .inr (by omega)
theorem own_gap {n m : Nat} {A : Foot} {e : TypeId} {k : IntKind} {W W2 : World} {v : Value} {zs : List Int} (h : Fresh n e k W v zs) (hm : ∀ j, v.ownBlock = some j → j < m) (hg : Gap n m A) (hk : Keeps A W W2) : Fresh n e k W2 v zs :=
  own_foot2 h hk (fun j hj hA => by
    have h1 := (h.lt j hj).1
    have h2 := hm j hj
    rcases hg j hA with h3 | h3 <;> omega)

set_option maxHeartbeats 8000000 in
theorem walk_DiskHash (vb : Value) (b : List Int) (flip : Int) (synced : Bool) (w : World) (hvb : Row .u8 w vb b) (hb : ∀ n ∈ b, 0 ≤ n ∧ n ≤ 255) (hflip : -9223372036854775808 ≤ flip ∧ flip ≤ 9223372036854775807) :
    Calls Try.prog 9 #[vb, .int .i64 flip, .bool synced] w fun e w' => e = .returned (.bool true) ∧ Below w.heap.size w w' := by
  have HVB := Lib.hid hvb
  obtain ⟨hbs, h8⟩ := natI_toNats2 (zs := b.take 7) (fun n hn => hb n (List.mem_of_mem_take hn))
  have hl7 : (toNats (b.take 7)).length ≤ 7 := by rw [toNats_length, List.length_take]; omega
  generalize toNats (b.take 7) = bs at *
  obtain ⟨hp1, hp2, x, hfa⟩ := dh_facts (ys := bs ++ [1]) (by simp) (by simp; omega) (by intro c hc; rcases List.mem_append.1 hc with h | h; exact h8 c h; rw [List.mem_singleton.1 h]; decide) flip synced
  have HY8 : Hid (∀ c ∈ bs ++ [1], c < 256) := Lib.hid (by intro c hc; rcases List.mem_append.1 hc with h | h; exact h8 c h; rw [List.mem_singleton.1 h]; decide)
  have HBS := Lib.hid hbs
  have HL7 := Lib.hid hl7
  have HP := Lib.hid (And.intro hp1 hp2)
  have HFA := Lib.hid hfa
  have HFL := Lib.hid hflip
  have HYL : Hid ((bs ++ [1]).length = bs.length + 1) := Lib.hid (by simp)
  clear hvb hb hbs h8 hp1 hp2 hfa hflip
  go_enter Try.func9, Try.ntmps9
  go_wp2_with fail
  refine (newS_any 100 w (by decide)).mono ?_
  rintro e w1 ⟨d, A0, rfl, hd, hA0, hb⟩
  have D1 : Hid (Dsk w.heap.size w1 (fun k => A0 k ∧ k < w1.heap.size) d 100 pNew) := Lib.hid (Dsk.made (n := w.heap.size) hd hA0 (Nat.le_refl _))
  have B1 := Lib.hid hb
  have S1 := Lib.hid hb.size
  clear hd hA0 hb
  generalize (fun k => A0 k ∧ k < w1.heap.size) = A1 at D1
  go_wp2_with fail
  refine (refFew_any vb b 7 w1 (row_keeps HVB.out B1.out) (by decide)).mono ?_
  rintro e w2 ⟨own, rfl, ho, hb⟩
  rw [← HBS.out] at ho
  have HO2 := Lib.hid (fresh_keeps ho ((Below.refl _ w2).alloc (Nat.le_refl _) (.cells #[.int .u8 1] 5)))
  have D2 := Lib.hid ((D1.out.below hb).below ((Below.refl _ w2).alloc (Nat.le_refl _) (.cells #[.int .u8 1] 5)))
  have N1 := Lib.hid D1.out.hi
  have B2 := Lib.hid ((B1.out.trans (hb.mono B1.out.size)).alloc (B1.out.trans (hb.mono B1.out.size)).size (.cells #[.int .u8 1] 5))
  have R2 := Lib.hid (lit_u8 w2 [1] (by decide))
  have S12 := Lib.hid (show w1.heap.size ≤ (w2.alloc (.cells #[.int .u8 1] 5)).heap.size from Nat.le_trans hb.size ((Below.refl _ w2).alloc (Nat.le_refl _) (.cells #[.int .u8 1] 5)).size)
  clear ho hb D1 B1
  go_wp2_with (at_builtin; go_must (refine wpList_append_buf rfl _ _ 33 rfl w1.heap.size own (natI bs) rfl HO2.out _ (natI [1]) rfl (.inl ⟨rfl, R2.out⟩) (by rw [natI_length]; have := HL7.out; simp [natI]; omega) S12.out ?_); intro b3 n3 c3 w3 hn3 hfr3 hgr3 hat3; have HG3 := Lib.hid (And.intro hn3 (And.intro hfr3 hgr3)); clear hn3 hfr3 hgr3 hat3)
  have HO3 : Hid (Fresh w1.heap.size 5 .u8 w3 (.slice b3 (bs ++ [1]).length c3) (natI (bs ++ [1]))) := by
    obtain ⟨h1, h2, _⟩ := HG3.out
    rw [h1] at h2
    rw [natI_append]
    refine Lib.hid ?_
    have e : (bs ++ [1]).length = (natI bs ++ natI [1]).length := by rw [List.length_append, List.length_append, natI_length, natI_length]
    rw [e]
    exact h2
  have hn3 : n3 = (bs ++ [1]).length := by rw [HG3.out.1, List.length_append, List.length_append, natI_length, natI_length]
  subst hn3
  have hkg : Keeps (fun j => own.ownBlock = some j) (w2.alloc (.cells #[.int .u8 1] 5)) w3 := Keeps.of_grown HG3.out.2.2 (fun k h => h)
  have D3 := Lib.hid (D2.out.other hkg (fun k h1 h2 => by have := N1.out k h1; have := (HO2.out.lt k h2).1; omega))
  have B3 := Lib.hid (B2.out.trans (hkg.below (B := w.heap.size) B2.out.size (fun k hk => by have := (HO2.out.lt k hk).1; have := S1.out; omega)))
  have OM : Hid (∀ j, Value.ownBlock (.slice b3 (bs ++ [1]).length c3) = some j → j < w3.heap.size) := Lib.hid (fun j hj => (HO3.out.lt j hj).2)
  have G1 : Hid (Gap w1.heap.size w3.heap.size A1) := Lib.hid (fun k hk => .inl (N1.out k hk))
  clear hkg HG3 HO2 D2 B2 R2 S12 N1 S1
  refine (appS_any D3.out.dk 0 b3 c3 (bs ++ [1]) (row_of_fresh HO3.out) HY8.out (by have := HL7.out; have := HYL.out; omega)).mono ?_
  generalize hr1 : pApp 100 pNew 0 (bs ++ [1]) = r1 at *
  clear hr1
  rintro e w4 ⟨rfl, hu⟩
  rw [HP.out.1]
  obtain ⟨A4, hd, hk, hf, hb⟩ := D3.out.up hu B3.out.size
  have D4 := Lib.hid hd
  have HO4 := Lib.hid (own_gap HO3.out OM.out G1.out hk)
  have G4 := Lib.hid (gap_up G1.out hf (Nat.le_refl _))
  have B4 := Lib.hid (B3.out.trans hb)
  have S4 := Lib.hid hk.size
  clear hu hd hk hf hb D3 HO3 G1 B3
  generalize hys : bs ++ [1] = ys at *
  clear hys
  cases synced
  · have D4a := Lib.hid (D4.out.below ((Below.refl _ w4).alloc (Nat.le_refl _) (.cells #[.int .i64 8] 3)))
    have N4 := Lib.hid D4.out.hi
    have HO4a := Lib.hid (fresh_keeps HO4.out ((Below.refl _ w4).alloc (Nat.le_refl _) (.cells #[.int .i64 8] 3)))
    have B4a := Lib.hid (B4.out.alloc B4.out.size (.cells #[.int .i64 8] 3))
    have S4a := Lib.hid (show w3.heap.size ≤ (w4.alloc (.cells #[.int .i64 8] 3)).heap.size from Nat.le_trans S4.out ((Below.refl _ w4).alloc (Nat.le_refl _) (.cells #[.int .i64 8] 3)).size)
    have R4 : Hid (Row .i64 (w4.alloc (.cells #[.int .i64 8] 3)) (.slice (some ⟨w4.heap.size, 0, none⟩) 1 1) [8]) := Lib.hid (row_of_fresh (fresh_lit w4 0 3 .i64 [8] (Nat.zero_le _) (by decide)))
    clear D4 HO4 B4 S4
    go_wp2_with fail
    refine (crashS_any D4a.out.dk _ [8] flip R4.out (fun j hj hA => by have : j = w4.heap.size := hj; have := N4.out j hA; omega) (by decide) HFL.out (by decide)).mono ?_
    rintro e w6 ⟨rfl, hu⟩
    obtain ⟨A6, hd, hk, hf, hb⟩ := D4a.out.up hu B4a.out.size
    have D6 : Hid (Dsk w.heap.size w6 A6 d 100 (pCrash r1.2 [8] flip)) := Lib.hid hd
    have HO6 := Lib.hid (own_gap HO4a.out OM.out G4.out hk)
    have B6 := Lib.hid (B4a.out.trans hb)
    clear hu hd hk hf hb D4a HO4a B4a S4a G4 R4 N4
    have HFB : Hid (DhFacts r1.2 (pCrash r1.2 [8] flip) ys x (false || decide (flip < 0))) := Lib.hid HFA.out
    clear HFA
    generalize pCrash r1.2 [8] flip = s3 at *
    go_wp2_with fail
    refine (readS_any D6.out.dk 0).mono ?_
    rintro e w7 ⟨y, rfl, hy, hb⟩
    rw [HFB.out.1]
    rw [HFB.out.2.1] at hy
    have HO7 := Lib.hid (fresh_keeps HO6.out hb)
    have HY7 := Lib.hid hy
    have B7 := Lib.hid (B6.out.trans (hb.mono B6.out.size))
    obtain ⟨ya, yc, rfl, _⟩ := fresh_elems hy
    rw [natI_length, HFB.out.2.2.1]
    rw [natI_length, HFB.out.2.2.1] at HY7
    clear hy hb D6 HO6 B6
    by_cases hneg : flip < 0
    · have HSAME : Hid ((false || decide (flip < 0)) = true) := Lib.hid (by rw [decide_eq_true hneg]; rfl)
      have HBY : Hid (bytesN (strN ⟨#[102]⟩) x = bytesN (strN ⟨#[102]⟩) ys) := Lib.hid (by rw [HFB.out.2.2.2.2.1 HSAME.out])
      have by1 : Bytes w7 (.slice ya ys.length yc) x := by
        have h1 := Bytes.of_fresh HY7.out (by rw [natI_length, HFB.out.2.2.1]; have := HL7.out; have := HYL.out; omega) (natI_range HFB.out.2.2.2.1)
        rw [toNats_natI] at h1
        exact h1
      have by2 : Bytes w7 (.slice b3 ys.length c3) ys := by
        have h1 := Bytes.of_fresh HO7.out (by rw [natI_length]; have := HL7.out; have := HYL.out; omega) (natI_range HY8.out)
        rw [toNats_natI] at h1
        exact h1
      have BY1 := Lib.hid by1
      have BY2 := Lib.hid by2
      have BB1 := Lib.hid (fresh_block HY7.out)
      have BB2 := Lib.hid (fresh_block HO7.out)
      have XL := Lib.hid HFB.out.2.2.1
      clear by1 by2 HO7 HY7 HFB
      go_wp2_with fail
      refine (bytes_any ⟨#[102]⟩ _ x w7 (by decide) BY1.out BB1.out (by rw [XL.out]; have := HL7.out; have := HYL.out; omega)).mono ?_
      rintro e w8 ⟨rfl, hb⟩
      have BY3 := Lib.hid (BY2.out.below (fun k hk => hb.block k (BB2.out k hk)))
      have BB3 : Hid (∀ k, blockOf (.slice b3 ys.length c3) k → k < w8.heap.size) := Lib.hid (fun k hk => Nat.lt_of_lt_of_le (BB2.out k hk) hb.size)
      have B8 := Lib.hid (B7.out.trans (hb.mono B7.out.size))
      clear hb B7 BY1 BY2 BB1 BB2
      go_wp2_with fail
      refine (bytes_any ⟨#[102]⟩ _ ys w8 (by decide) BY3.out BB3.out (by have := HL7.out; have := HYL.out; omega)).mono ?_
      rintro e w9 ⟨rfl, hb⟩
      have B9 := Lib.hid (B8.out.trans (hb.mono B8.out.size))
      clear hb B8 BY3 BB3
      have hcmp : ((bytesN (strN ⟨#[102]⟩) x : Int) == (bytesN (strN ⟨#[102]⟩) ys : Int)) = true := eq_bool HBY.out
      clear HBY
      generalize bytesN (strN ⟨#[102]⟩) x = h1 at *
      generalize bytesN (strN ⟨#[102]⟩) ys = h2 at *
      go_wp2_with fail
      refine (lives5_any w9).mono ?_
      rintro e wl ⟨rfl, hb⟩
      have BL := Lib.hid (B9.out.trans (hb.mono B9.out.size))
      clear hb
      go_wp2_with fail
      go_ret
      exact ⟨rfl, BL.out⟩
    · have HSAME : Hid ((false || decide (flip < 0)) = false) := Lib.hid (by rw [decide_eq_false hneg]; rfl)
      have HBY : Hid (bytesN (strN ⟨#[102]⟩) x ≠ bytesN (strN ⟨#[102]⟩) ys) := Lib.hid (HFB.out.2.2.2.2.2 HSAME.out)
      have by1 : Bytes w7 (.slice ya ys.length yc) x := by
        have h1 := Bytes.of_fresh HY7.out (by rw [natI_length, HFB.out.2.2.1]; have := HL7.out; have := HYL.out; omega) (natI_range HFB.out.2.2.2.1)
        rw [toNats_natI] at h1
        exact h1
      have by2 : Bytes w7 (.slice b3 ys.length c3) ys := by
        have h1 := Bytes.of_fresh HO7.out (by rw [natI_length]; have := HL7.out; have := HYL.out; omega) (natI_range HY8.out)
        rw [toNats_natI] at h1
        exact h1
      have BY1 := Lib.hid by1
      have BY2 := Lib.hid by2
      have BB1 := Lib.hid (fresh_block HY7.out)
      have BB2 := Lib.hid (fresh_block HO7.out)
      have XL := Lib.hid HFB.out.2.2.1
      clear by1 by2 HO7 HY7 HFB
      go_wp2_with fail
      refine (bytes_any ⟨#[102]⟩ _ x w7 (by decide) BY1.out BB1.out (by rw [XL.out]; have := HL7.out; have := HYL.out; omega)).mono ?_
      rintro e w8 ⟨rfl, hb⟩
      have BY3 := Lib.hid (BY2.out.below (fun k hk => hb.block k (BB2.out k hk)))
      have BB3 : Hid (∀ k, blockOf (.slice b3 ys.length c3) k → k < w8.heap.size) := Lib.hid (fun k hk => Nat.lt_of_lt_of_le (BB2.out k hk) hb.size)
      have B8 := Lib.hid (B7.out.trans (hb.mono B7.out.size))
      clear hb B7 BY1 BY2 BB1 BB2
      go_wp2_with fail
      refine (bytes_any ⟨#[102]⟩ _ ys w8 (by decide) BY3.out BB3.out (by have := HL7.out; have := HYL.out; omega)).mono ?_
      rintro e w9 ⟨rfl, hb⟩
      have B9 := Lib.hid (B8.out.trans (hb.mono B8.out.size))
      clear hb B8 BY3 BB3
      have hcmp : ((bytesN (strN ⟨#[102]⟩) x : Int) == (bytesN (strN ⟨#[102]⟩) ys : Int)) = false := eq_false HBY.out
      clear HBY
      generalize bytesN (strN ⟨#[102]⟩) x = h1 at *
      generalize bytesN (strN ⟨#[102]⟩) ys = h2 at *
      go_wp2_with fail
      refine (lives5_any w9).mono ?_
      rintro e wl ⟨rfl, hb⟩
      have BL := Lib.hid (B9.out.trans (hb.mono B9.out.size))
      clear hb
      go_wp2_with fail
      go_ret
      exact ⟨by show Ending.returned (.bool (!decide (flip < 0))) = _; rw [decide_eq_false (Int.not_lt.2 (by omega))]; rfl, BL.out⟩
  · go_wp2_with fail
    refine (syncS_any D4.out.dk).mono ?_
    rintro e w5 ⟨rfl, hu⟩
    obtain ⟨A5, hd, hk, hf, hb⟩ := D4.out.up hu B4.out.size
    have D5 := Lib.hid hd
    have HO5 := Lib.hid (own_gap HO4.out OM.out G4.out hk)
    have G5 := Lib.hid (gap_up G4.out hf S4.out)
    have B5 := Lib.hid (B4.out.trans hb)
    have S5 := Lib.hid (Nat.le_trans S4.out hk.size)
    clear hu hd hk hf hb D4 HO4 G4 B4 S4
    have D5a := Lib.hid (D5.out.below ((Below.refl _ w5).alloc (Nat.le_refl _) (.cells #[.int .i64 8] 3)))
    have N5 := Lib.hid D5.out.hi
    have HO5a := Lib.hid (fresh_keeps HO5.out ((Below.refl _ w5).alloc (Nat.le_refl _) (.cells #[.int .i64 8] 3)))
    have B5a := Lib.hid (B5.out.alloc B5.out.size (.cells #[.int .i64 8] 3))
    have S5a := Lib.hid (show w3.heap.size ≤ (w5.alloc (.cells #[.int .i64 8] 3)).heap.size from Nat.le_trans S5.out ((Below.refl _ w5).alloc (Nat.le_refl _) (.cells #[.int .i64 8] 3)).size)
    have R5 : Hid (Row .i64 (w5.alloc (.cells #[.int .i64 8] 3)) (.slice (some ⟨w5.heap.size, 0, none⟩) 1 1) [8]) := Lib.hid (row_of_fresh (fresh_lit w5 0 3 .i64 [8] (Nat.zero_le _) (by decide)))
    clear D5 HO5 B5 S5
    go_wp2_with fail
    refine (crashS_any D5a.out.dk _ [8] flip R5.out (fun j hj hA => by have : j = w5.heap.size := hj; have := N5.out j hA; omega) (by decide) HFL.out (by decide)).mono ?_
    rintro e w6 ⟨rfl, hu⟩
    obtain ⟨A6, hd, hk, hf, hb⟩ := D5a.out.up hu B5a.out.size
    have D6 : Hid (Dsk w.heap.size w6 A6 d 100 (pCrash (pSync r1.2).2 [8] flip)) := Lib.hid hd
    have HO6 := Lib.hid (own_gap HO5a.out OM.out G5.out hk)
    have B6 := Lib.hid (B5a.out.trans hb)
    clear hu hd hk hf hb D5a HO5a B5a S5a G5 R5 N5
    have HFB : Hid (DhFacts r1.2 (pCrash (pSync r1.2).2 [8] flip) ys x (true || decide (flip < 0))) := Lib.hid HFA.out
    clear HFA
    generalize pCrash (pSync r1.2).2 [8] flip = s3 at *
    go_wp2_with fail
    refine (readS_any D6.out.dk 0).mono ?_
    rintro e w7 ⟨y, rfl, hy, hb⟩
    rw [HFB.out.1]
    rw [HFB.out.2.1] at hy
    have HO7 := Lib.hid (fresh_keeps HO6.out hb)
    have HY7 := Lib.hid hy
    have B7 := Lib.hid (B6.out.trans (hb.mono B6.out.size))
    obtain ⟨ya, yc, rfl, _⟩ := fresh_elems hy
    rw [natI_length, HFB.out.2.2.1]
    rw [natI_length, HFB.out.2.2.1] at HY7
    clear hy hb D6 HO6 B6
    have HSAME : Hid ((true || decide (flip < 0)) = true) := Lib.hid rfl
    have HBY : Hid (bytesN (strN ⟨#[102]⟩) x = bytesN (strN ⟨#[102]⟩) ys) := Lib.hid (by rw [HFB.out.2.2.2.2.1 HSAME.out])
    have by1 : Bytes w7 (.slice ya ys.length yc) x := by
      have h1 := Bytes.of_fresh HY7.out (by rw [natI_length, HFB.out.2.2.1]; have := HL7.out; have := HYL.out; omega) (natI_range HFB.out.2.2.2.1)
      rw [toNats_natI] at h1
      exact h1
    have by2 : Bytes w7 (.slice b3 ys.length c3) ys := by
      have h1 := Bytes.of_fresh HO7.out (by rw [natI_length]; have := HL7.out; have := HYL.out; omega) (natI_range HY8.out)
      rw [toNats_natI] at h1
      exact h1
    have BY1 := Lib.hid by1
    have BY2 := Lib.hid by2
    have BB1 := Lib.hid (fresh_block HY7.out)
    have BB2 := Lib.hid (fresh_block HO7.out)
    have XL := Lib.hid HFB.out.2.2.1
    clear by1 by2 HO7 HY7 HFB
    go_wp2_with fail
    refine (bytes_any ⟨#[102]⟩ _ x w7 (by decide) BY1.out BB1.out (by rw [XL.out]; have := HL7.out; have := HYL.out; omega)).mono ?_
    rintro e w8 ⟨rfl, hb⟩
    have BY3 := Lib.hid (BY2.out.below (fun k hk => hb.block k (BB2.out k hk)))
    have BB3 : Hid (∀ k, blockOf (.slice b3 ys.length c3) k → k < w8.heap.size) := Lib.hid (fun k hk => Nat.lt_of_lt_of_le (BB2.out k hk) hb.size)
    have B8 := Lib.hid (B7.out.trans (hb.mono B7.out.size))
    clear hb B7 BY1 BY2 BB1 BB2
    go_wp2_with fail
    refine (bytes_any ⟨#[102]⟩ _ ys w8 (by decide) BY3.out BB3.out (by have := HL7.out; have := HYL.out; omega)).mono ?_
    rintro e w9 ⟨rfl, hb⟩
    have B9 := Lib.hid (B8.out.trans (hb.mono B8.out.size))
    clear hb B8 BY3 BB3
    have hcmp : ((bytesN (strN ⟨#[102]⟩) x : Int) == (bytesN (strN ⟨#[102]⟩) ys : Int)) = true := eq_bool HBY.out
    clear HBY
    generalize bytesN (strN ⟨#[102]⟩) x = h1 at *
    generalize bytesN (strN ⟨#[102]⟩) ys = h2 at *
    go_wp2_with fail
    refine (lives5_any w9).mono ?_
    rintro e wl ⟨rfl, hb⟩
    have BL := Lib.hid (B9.out.trans (hb.mono B9.out.size))
    clear hb
    go_wp2_with fail
    go_ret
    exact ⟨rfl, BL.out⟩
end Go.Proofs.Ytmamohnlallfeaa
