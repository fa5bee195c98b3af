/-
  The reference's generator of values: some list of at most 8 proper values comes out.
-/
import Derived.Test.YtghilgkkpbhoiaaWireQ
import Derived.Deep.RegionLaw
import Derived.Deep.AppendLies
namespace Go.Proofs.Ytghilgkkpbhoiaa
open Go.RowKit Go.Shelf
set_option linter.unusedVariables false

/-- A value whose fields are those of its kind. -/
def VV.proper (x : VV) : Prop :=
  (x.kind = 0 ∧ x.n = 0 ∧ x.b = [] ∧ x.l = []) ∨ (x.kind = 1 ∧ x.u = 0 ∧ x.b = [] ∧ x.l = []) ∨ (x.kind = 2 ∧ x.u = 0 ∧ (x.n = 0 ∨ x.n = 1) ∧ x.b = [] ∧ x.l = []) ∨
  ((x.kind = 3 ∨ x.kind = 4) ∧ x.u = 0 ∧ x.n = 0 ∧ x.l = []) ∨ (x.kind = 5 ∧ x.u = 0 ∧ x.n = 0 ∧ x.b = [])

theorem wrap64_range (n : Int) : -9223372036854775808 ≤ wrap64 n ∧ wrap64 n ≤ 9223372036854775807 := by unfold wrap64; omega

def ValsEnd (w : World) (e : Ending) (w' : World) : Prop :=
  ∃ v xs, e = .returned v ∧ FreshV w.heap.size w' v xs ∧ Below w.heap.size w w' ∧ xs.length ≤ 8 ∧ ∀ x ∈ xs, x.ok ∧ x.proper

theorem div_range {z m : Int} (hz : -9223372036854775808 ≤ z ∧ z ≤ 9223372036854775807) (hm : 1 ≤ m) : -9223372036854775808 ≤ z / m ∧ z / m ≤ 9223372036854775807 := by
  constructor
  · refine Int.le_ediv_of_mul_le (by omega) ?_
    have := Int.mul_le_mul_of_nonneg_left hm (show (0 : Int) ≤ 9223372036854775808 by decide)
    omega
  · refine Int.ediv_le_of_le_mul (by omega) ?_
    have := Int.mul_le_mul_of_nonneg_left hm (show (0 : Int) ≤ 9223372036854775807 by decide)
    omega
theorem pow_ge (n : Nat) : (1 : Int) ≤ 2 ^ n := by
  have : 0 < 2 ^ n := Nat.pow_pos (by decide)
  have h : ((2 ^ n : Nat) : Int) = (2 : Int) ^ n := by rw [Int.natCast_pow]; rfl
  omega
theorem shift_nat (z : Int) (n : Nat) : ∃ X : Nat, X < 18446744073709551616 ∧ IntKind.u64.wrap z / 2 ^ n = (X : Int) := by
  have h0 : 0 ≤ IntKind.u64.wrap z ∧ IntKind.u64.wrap z < 18446744073709551616 := by rw [IntKind.wrap_u64]; omega
  have h1 := pow_ge n
  have h2 : 0 ≤ IntKind.u64.wrap z / 2 ^ n := Int.ediv_nonneg h0.1 (by omega)
  have h3 : IntKind.u64.wrap z / 2 ^ n ≤ IntKind.u64.wrap z := Int.ediv_le_self _ h0.1
  exact ⟨(IntKind.u64.wrap z / 2 ^ n).toNat, by omega, by omega⟩
theorem ok_small {k : Int} {u : Nat} {n : Int} (hu : u < 18446744073709551616) (hn : -9223372036854775808 ≤ n ∧ n ≤ 9223372036854775807) : (⟨k, u, n, [], []⟩ : VV).ok :=
  ⟨hu, hn, fun c h => by simp at h, by simp, fun c h => by simp at h, by simp⟩
theorem all_snoc {xs : List VV} {y : VV} (h : ∀ x ∈ xs, x.ok ∧ x.proper) (hy : y.ok ∧ y.proper) : ∀ x ∈ xs ++ [y], x.ok ∧ x.proper := by
  intro x hx
  rcases List.mem_append.1 hx with h1 | h1
  · exact h x h1
  · have : x = y := by simpa using h1
    subst this
    exact hy

theorem natI_toNats {bs : List Int} (h : ∀ c ∈ bs, 0 ≤ c ∧ c ≤ 255) : natI (toNats bs) = bs := by
  unfold natI toNats
  rw [List.map_map]
  conv => rhs; rw [← List.map_id bs]
  refine List.map_congr_left fun c hc => ?_
  have := h c hc
  simp only [Function.comp, id]
  omega

/-- The cells of a value, laid in a block, for an append. -/
theorem laid_val (W : World) (p : Value × Value) (y : VV) {cs : Array Value} (hcs : cs = (cellsV p y).toArray) : Laid (W.alloc (.cells cs 28)) W.heap.size 28 (flatV [p] [y]) := by
  subst hcs
  rw [flatV_one]
  exact Laid.new W _ _
theorem one_vals (a b c d : Nat) (y : VV) (f g : Option Addr) : ∀ u ∈ flatV [(.slice f a b, .slice g c d)] [y], u.oneCell' = true := by
  intro u hu
  rw [flatV_one] at hu
  simp only [cellsV, List.mem_cons, List.not_mem_nil, or_false] at hu
  rcases hu with rfl | rfl | rfl | rfl | rfl <;> rfl

set_option maxRecDepth 100000 in
set_option maxHeartbeats 8000000 in
theorem refVals_any (v : Value) (zs : List Int) (w : World) (hv : Row .i64 w v zs) (hr : ∀ n ∈ zs, -9223372036854775808 ≤ n ∧ n ≤ 9223372036854775807) (hlen : zs.length ≤ 9223372036854775807) :
    Calls Try.prog 11 #[v] w (ValsEnd w) := by
  obtain ⟨i0, hi, hz0, hz1, hz2⟩ := info_parts info_u8
  obtain ⟨p, cap, rfl, hcap, hcm, hne, hnil⟩ := hv
  have HNE := Lib.hid hne
  have HRG := Lib.hid hr
  clear hne hnil hr
  go_enter Try.func11, Try.ntmps11
  go_wp2_with fail
  go_loopw [3, 4] (fun out i wr => ∃ (k : Nat) (xs : List VV), k ≤ zs.length ∧ k ≤ 8 ∧ i = .int .i64 (k : Int) ∧ Hid (xs.length = k) ∧ Hid (FreshV w.heap.size wr out xs) ∧ Hid (∀ x ∈ xs, x.ok ∧ x.proper) ∧ Below w.heap.size w wr) (fun _ i _ => zs.length - (intOf i).toNat)
  case atStart => exact ⟨0, [], Nat.zero_le _, by decide, rfl, Lib.hid rfl, Lib.hid (freshV_nil _ _), Lib.hid (fun x hx => by simp at hx), Below.refl _ _⟩
  case round =>
    obtain ⟨i, xs, hi1, hi8, rfl, HXL, HF, HOK, hbel⟩ := hrel
    by_cases hlt : i < zs.length
    · by_cases hlt8 : i < 8
      · obtain ⟨b, off, rfl, hc⟩ := HNE.out (fun h => by rw [h] at hlt; simp at hlt)
        have hck := hc i hlt
        have hck := (hbel.cell (p := ⟨b, off + i, none⟩) (World.block_lt_of_cell? _ _ hck)).trans hck
        have hgk : zs[i]?.getD 0 = zs[i] := by simp [hlt]
        rw [hgk] at hck
        have HZ := Lib.hid (HRG.out zs[i] (List.getElem_mem hlt))
        clear hc hgk
        generalize zs[i] = z at *
        go_wp2_with fail
        refine (around_nat z 6 wr HZ.out (by decide) (by decide)).mono ?_
        rintro e w4 ⟨k, hk, rfl, rfl⟩
        go_wp2_with fail
        refine (around_nat (wrap64 (z.tdiv 6)) 63 wr (wrap64_range _) (by decide) (by decide)).mono ?_
        rintro e w5 ⟨n, hn, rfl, rfl⟩
        have hk6 : k = 0 ∨ k = 1 ∨ k = 2 ∨ k = 3 ∨ k = 4 ∨ k = 5 := by omega
        have hbw : b < wr.heap.size := World.block_lt_of_cell? _ _ hck
        have hckA : ∀ o, (wr.alloc o).cell? ⟨b, off + i, none⟩ = some (.int .i64 z) := fun o => (((Below.refl wr.heap.size wr).alloc (Nat.le_refl _) o).cell (p := ⟨b, off + i, none⟩) hbw).trans hck
        have hxl : xs.length + 1 ≤ 1000000 := by have := HXL.out; omega
        have HF2 : Hid (∀ o1 o2, FreshV w.heap.size ((wr.alloc o1).alloc o2) u3 xs) := Lib.hid fun o1 o2 => freshV_keeps HF.out (((Below.refl _ wr).alloc (Nat.le_refl _) _).alloc (by simp) _)
        have HB2 : Hid (∀ o1 o2, Below w.heap.size w ((wr.alloc o1).alloc o2)) := Lib.hid fun o1 o2 => (hbel.alloc hbel.size _).alloc (by have := hbel.size; simp; omega) _
        rcases hk6 with rfl | rfl | rfl | rfl | rfl | rfl
        · obtain ⟨X, hX, hXE⟩ := shift_nat z n
          have HXE := Lib.hid hXE
          clear hXE
          have HY : Hid ((⟨0, X, 0, [], []⟩ : VV).ok ∧ (⟨0, X, 0, [], []⟩ : VV).proper) := Lib.hid ⟨ok_small hX (by decide), .inl ⟨rfl, rfl, rfl, rfl⟩⟩
          have hs0 := hbel.size
          go_wp2_with (at_builtin; go_must (refine wpList_append_vals rfl _ _ rfl w.heap.size _ xs rfl (HF2.out _ _) (wr.heap.size + 1) 1 1 rfl [(.slice none 0 0, .slice none 0 0)] [⟨0, X, 0, [], []⟩] rfl (by have := laid_val (wr.alloc (.cells #[.int .i64 0, .int .u64 (IntKind.u64.wrap z / 2 ^ n), .int .i64 0, .slice none 0 0, .slice none 0 0] 28)) (.slice none 0 0, .slice none 0 0) ⟨0, X, 0, [], []⟩ (cs := #[.int .i64 0, .int .u64 (IntKind.u64.wrap z / 2 ^ n), .int .i64 0, .slice none 0 0, .slice none 0 0]) (by rw [HXE.out]; rfl); rw [World.size_alloc] at this; exact this) (one_vals _ _ _ _ _ _ _) (parts_one ⟨fresh_nil _ _ _ _, fresh_nil _ _ _ _⟩) hxl (by simp; omega) ?_); intro v2 w2 hown hgrow hge; have hb3 : Below w.heap.size w w2 := (HB2.out _ _).grown hgrow (by simp; omega) hge; have HOWN := Lib.hid hown; clear hown hgrow hge)
          go_roundw
          case rel => exact ⟨i + 1, xs ++ [⟨0, X, 0, [], []⟩], by omega, by omega, by go_num, Lib.hid (by rw [List.length_append, HXL.out]; rfl), HOWN, Lib.hid (all_snoc HOK.out HY.out), hb3⟩
          case measure => simp [intOf]; omega
        · have HY : Hid ((⟨1, 0, z / 2 ^ n, [], []⟩ : VV).ok ∧ (⟨1, 0, z / 2 ^ n, [], []⟩ : VV).proper) := Lib.hid ⟨ok_small (by decide) (div_range HZ.out (pow_ge n)), .inr (.inl ⟨rfl, rfl, rfl, rfl⟩)⟩
          have hs0 := hbel.size
          go_wp2_with (at_builtin; go_must (refine wpList_append_vals rfl _ _ rfl w.heap.size _ xs rfl (HF2.out _ _) (wr.heap.size + 1) 1 1 rfl [(.slice none 0 0, .slice none 0 0)] [⟨1, 0, z / 2 ^ n, [], []⟩] rfl (by have := laid_val (wr.alloc (.cells #[.int .i64 1, .int .u64 0, .int .i64 (z / 2 ^ n), .slice none 0 0, .slice none 0 0] 28)) (.slice none 0 0, .slice none 0 0) ⟨1, 0, z / 2 ^ n, [], []⟩ (cs := #[.int .i64 1, .int .u64 0, .int .i64 (z / 2 ^ n), .slice none 0 0, .slice none 0 0]) rfl; rw [World.size_alloc] at this; exact this) (one_vals _ _ _ _ _ _ _) (parts_one ⟨fresh_nil _ _ _ _, fresh_nil _ _ _ _⟩) hxl (by simp; omega) ?_); intro v2 w2 hown hgrow hge; have hb3 : Below w.heap.size w w2 := (HB2.out _ _).grown hgrow (by simp; omega) hge; have HOWN := Lib.hid hown; clear hown hgrow hge)
          go_roundw
          case rel => exact ⟨i + 1, xs ++ [⟨1, 0, z / 2 ^ n, [], []⟩], by omega, by omega, by go_num, Lib.hid (by rw [List.length_append, HXL.out]; rfl), HOWN, Lib.hid (all_snoc HOK.out HY.out), hb3⟩
          case measure => simp [intOf]; omega
        · have HY : Hid ((⟨2, 0, (n : Int) % 2, [], []⟩ : VV).ok ∧ (⟨2, 0, (n : Int) % 2, [], []⟩ : VV).proper) := Lib.hid ⟨ok_small (by decide) (by omega), .inr (.inr (.inl ⟨rfl, rfl, by show (n : Int) % 2 = 0 ∨ (n : Int) % 2 = 1; omega, rfl, rfl⟩))⟩
          have hs0 := hbel.size
          go_wp2_with (at_builtin; go_must (refine wpList_append_vals rfl _ _ rfl w.heap.size _ xs rfl (HF2.out _ _) (wr.heap.size + 1) 1 1 rfl [(.slice none 0 0, .slice none 0 0)] [⟨2, 0, (n : Int) % 2, [], []⟩] rfl (by have := laid_val (wr.alloc (.cells #[.int .i64 2, .int .u64 0, .int .i64 ((n : Int) % 2), .slice none 0 0, .slice none 0 0] 28)) (.slice none 0 0, .slice none 0 0) ⟨2, 0, (n : Int) % 2, [], []⟩ (cs := #[.int .i64 2, .int .u64 0, .int .i64 ((n : Int) % 2), .slice none 0 0, .slice none 0 0]) rfl; rw [World.size_alloc] at this; exact this) (one_vals _ _ _ _ _ _ _) (parts_one ⟨fresh_nil _ _ _ _, fresh_nil _ _ _ _⟩) hxl (by simp; omega) ?_); intro v2 w2 hown hgrow hge; have hb3 : Below w.heap.size w w2 := (HB2.out _ _).grown hgrow (by simp; omega) hge; have HOWN := Lib.hid hown; clear hown hgrow hge)
          go_roundw
          case rel => exact ⟨i + 1, xs ++ [⟨2, 0, (n : Int) % 2, [], []⟩], by omega, by omega, by go_num, Lib.hid (by rw [List.length_append, HXL.out]; rfl), HOWN, Lib.hid (all_snoc HOK.out HY.out), hb3⟩
          case measure => simp [intOf]; omega
        · obtain ⟨wo, rfl⟩ : ∃ wo : World, wo = wr := ⟨_, rfl⟩
          have hl0 := Laid.new wo 28 [.int .i64 3, .int .u64 0, .int .i64 0, .slice none 0 0, .slice none 0 0]
          have hbe0 : Below wo.heap.size wo (wo.alloc (.cells #[.int .i64 3, .int .u64 0, .int .i64 0, .slice none 0 0, .slice none 0 0] 28)) := (Below.refl _ wo).alloc (Nat.le_refl _) _
          have HL0 := Lib.hid hl0
          clear hl0
          go_wp2_with fail
          go_loopw [8] (fun jv wl => ∃ (j : Nat) (bs : List Int) (a : Option Addr) (cap : Nat), j ≤ n % 10 ∧ jv = .int .i64 (j : Int) ∧ Hid (bs.length = j) ∧ Hid (∀ c ∈ bs, 0 ≤ c ∧ c ≤ 255) ∧ Hid (Laid wl wo.heap.size 28 [.int .i64 3, .int .u64 0, .int .i64 0, .slice a bs.length cap, .slice none 0 0]) ∧ Hid (Fresh (wo.heap.size + 1) 5 .u8 wl (.slice a bs.length cap) bs) ∧ Hid (Below wo.heap.size wo wl)) (fun jv _ => 10 - (intOf jv).toNat)
          case atStart => exact ⟨0, [], none, 0, Nat.zero_le _, rfl, Lib.hid rfl, Lib.hid (fun c h => by simp at h), HL0, Lib.hid (fresh_nil _ _ _ _), Lib.hid hbe0⟩
          case round =>
            obtain ⟨j, bs, a, cap2, hj, rfl, HBL, HBR, HL, HFB, HB⟩ := hrel
            clear HL0 hbe0
            have hc0 := HL.out.cell 0
            have hc1 := HL.out.cell 1
            have hc2 := HL.out.cell 2
            have hc3 := HL.out.cell 3
            have hc4 := HL.out.cell 4
            have hf3 := HL.out.frozen 3
            simp only [List.getElem?_cons_zero, List.getElem?_cons_succ] at hc0 hc1 hc2 hc3 hc4
            have hckL : wr.cell? ⟨b, off + i, none⟩ = some (.int .i64 z) := (HB.out.cell (p := ⟨b, off + i, none⟩) hbw).trans hck
            by_cases hjn : j < n % 10
            · have hrow : Hid (wr.ownsRow (wo.heap.size + 1) 5 1 (.slice a bs.length cap2) bs.length (bs.map (Value.int .u8))) := Lib.hid HFB.out
              have hVlt : wo.heap.size < wr.heap.size := HL.out.lt
              have hbs : bs.length + 1 ≤ 11 := by have := HBL.out; omega
              have hblt : b < wr.heap.size := by have := HB.out.size; omega
              have hA : ∀ o, (wr.alloc o).cell? ⟨wo.heap.size, 3, none⟩ = some (.slice a bs.length cap2) ∧ (wr.alloc o).cell? ⟨b, off + i, none⟩ = some (.int .i64 z) ∧ (wr.alloc o).frozen? ⟨wo.heap.size, 3, none⟩ = false := fun o => by
                have hb := (Below.refl wr.heap.size wr).alloc (Nat.le_refl _) o
                exact ⟨(hb.cell (p := ⟨wo.heap.size, 3, none⟩) hVlt).trans hc3, (hb.cell (p := ⟨b, off + i, none⟩) hblt).trans hckL, (hb.frozen (p := ⟨wo.heap.size, 3, none⟩) hVlt).trans hf3⟩
              have hneV : some wo.heap.size ≠ Value.ownBlock (.slice a bs.length cap2) := fun e => by have := (hrow.out.lt _ e.symm).1; omega
              have hneb : some b ≠ Value.ownBlock (.slice a bs.length cap2) := fun e => by have := (hrow.out.lt _ e.symm).1; omega
              have hD : ∀ o, (wr.alloc o).drew.cell? ⟨wo.heap.size, 3, none⟩ = some (.slice a bs.length cap2) ∧ (wr.alloc o).drew.cell? ⟨b, off + i, none⟩ = some (.int .i64 z) ∧ (wr.alloc o).drew.frozen? ⟨wo.heap.size, 3, none⟩ = false := hA
              have HA := Lib.hid hA
              have HD := Lib.hid hD
              have HNV := Lib.hid hneV
              have HNB := Lib.hid hneb
              clear hA hD hneV hneb
              go_wp2_with fail
              go_region_law
                ((refine step_append_lies _ (by rfl) _ _ 24 (by rfl) (wo.heap.size + 1) 5 i0 (.int .u8 0) 1 1 Try.underlying24 hi hz0 hz1 hz2 (by rfl) (by decide) (.slice a bs.length cap2) bs.length (bs.map (Value.int .u8)) (by rfl) (hrow.out.alloc _) ⟨wr.heap.size, 0, none⟩ 1 1 [.int .u8 (IntKind.u8.wrap (z / 2 ^ min (IntKind.u64.wrap (j : Int)).toNat 64))] (by rfl) (by rfl) (cell_one_new _ _ _) (by simp [Value.oneCell']) (by decide) (by unfold maxLen; omega) (by omega) (by simp; omega) (wr.heap.size + 1) (by simp) ?_; intro g3 cap3 w3 hown hgrow hat hglt; have hS3 := And.intro ((hgrow.cell_far ⟨wo.heap.size, 3, none⟩ (by simp; omega) HNV.out).trans (HA.out _).1) (And.intro ((hgrow.cell_far ⟨b, off + i, none⟩ (by simp; omega) HNB.out).trans (HA.out _).2.1) ((hgrow.frozen_far ⟨wo.heap.size, 3, none⟩ (by simp; omega) HNV.out).trans (HA.out _).2.2))))
              all_goals
                have HXR : Hid (∀ c ∈ bs ++ [IntKind.u8.wrap (z / 2 ^ min (IntKind.u64.wrap (j : Int)).toNat 64)], 0 ≤ c ∧ c ≤ 255) := Lib.hid (fun c hc => by
                  rcases List.mem_append.1 hc with h | h
                  · exact HBR.out c h
                  · rw [List.mem_singleton.1 h, IntKind.wrap_u8']; omega)
                generalize IntKind.u8.wrap (z / 2 ^ min (IntKind.u64.wrap (j : Int)).toNat 64) = x at *
                have hL3 : Laid w3 wo.heap.size 28 [.int .i64 3, .int .u64 0, .int .i64 0, .slice a bs.length cap2, .slice none 0 0] := (hgrow.block wo.heap.size (by simp; omega) HNV.out).trans ((Below.heap_alloc _ _ _ hVlt).trans HL.out)
                have hf : Fresh (wo.heap.size + 1) 5 .u8 w3 (.slice (some ⟨g3, 0, none⟩) (bs ++ [x]).length cap3) (bs ++ [x]) := by
                  unfold Fresh
                  rw [List.length_append, List.map_append]
                  exact hown
                have hf2 := Lib.hid (fresh_foot hf (keeps_set w3 wo.heap.size 3 (.slice (some ⟨g3, 0, none⟩) (bs.length + 1) cap3)) (fun k hk e => by omega))
                have hL4 := Lib.hid (hL3.set 3 (.slice (some ⟨g3, 0, none⟩) (bs.length + 1) cap3))
                have hB4 := Lib.hid ((((HB.out.alloc HB.out.size (.cells #[.int .u8 x] 5)).drew.grown hgrow (by have := HB.out.size; simp; omega) (fun k hk => by have := (hrow.out.lt k hk).1; omega)).setCell (p := ⟨wo.heap.size, 3, none⟩) (Nat.le_refl _) (.slice (some ⟨g3, 0, none⟩) (bs.length + 1) cap3)))
                clear hL3 hf hown hgrow hat hglt hS3
                go_wp2_with fail
                go_roundw
                case rel => exact ⟨j + 1, bs ++ [x], some ⟨g3, 0, none⟩, cap3, by omega, by go_num, Lib.hid (by rw [List.length_append, HBL.out]; rfl), HXR, Lib.hid (by rw [List.length_append]; exact hL4.out), hf2, hB4⟩
                case measure => simp [intOf]; omega
            · have HY : Hid ((⟨3, 0, 0, toNats bs, []⟩ : VV).ok ∧ (⟨3, 0, 0, toNats bs, []⟩ : VV).proper) := Lib.hid ⟨⟨show (0 : Nat) < 18446744073709551616 by decide, ⟨show (-9223372036854775808 : Int) ≤ 0 by decide, show (0 : Int) ≤ 9223372036854775807 by decide⟩, toNats_mem HBR.out, by show (toNats bs).length ≤ 1000; rw [toNats_length, HBL.out]; omega, fun c h => by simp at h, by simp⟩, .inr (.inr (.inr (.inl ⟨.inl rfl, rfl, rfl, rfl⟩)))⟩
              have hbelo := below_then hbel HB.out
              have hsw := hbelo.size
              have hswo := hbel.size
              have HFV := Lib.hid (freshV_keeps (freshV_keeps HF.out HB.out) ((Below.refl _ wr).alloc (Nat.le_refl _) (.cells #[.int .i64 3, .int .u64 0, .int .i64 0, .slice a bs.length cap2, .slice none 0 0] 28)))
              have hfb : Fresh w.heap.size 5 .u8 (wr.alloc (.cells #[.int .i64 3, .int .u64 0, .int .i64 0, .slice a bs.length cap2, .slice none 0 0] 28)) (.slice a bs.length cap2) (natI (toNats bs)) := by
                rw [natI_toNats HBR.out]
                exact fresh_mono (fresh_keeps HFB.out ((Below.refl _ wr).alloc (Nat.le_refl _) _)) (by omega)
              have HPART := Lib.hid (parts_one (p := (.slice a bs.length cap2, .slice none 0 0)) (y := ⟨3, 0, 0, toNats bs, []⟩) ⟨hfb, fresh_nil w.heap.size 3 .i64 _⟩)
              clear hfb
              go_wp2_with (at_builtin; go_must (refine wpList_append_vals rfl _ _ rfl w.heap.size _ xs rfl HFV.out wr.heap.size 1 1 rfl [(.slice a bs.length cap2, .slice none 0 0)] [⟨3, 0, 0, toNats bs, []⟩] rfl (laid_val wr (.slice a bs.length cap2, .slice none 0 0) ⟨3, 0, 0, toNats bs, []⟩ (cs := #[.int .i64 3, .int .u64 0, .int .i64 0, .slice a bs.length cap2, .slice none 0 0]) rfl) (one_vals _ _ _ _ _ _ _) HPART.out hxl (by simp; omega) ?_); intro v2 w2 hown hgrow hge; have hb3 : Below w.heap.size w w2 := (hbelo.alloc hsw (.cells #[.int .i64 3, .int .u64 0, .int .i64 0, .slice a bs.length cap2, .slice none 0 0] 28)).grown hgrow (by simp; omega) hge; have HOWN := Lib.hid hown; clear hown hgrow hge)
              go_roundw
              case rel => exact ⟨i + 1, xs ++ [⟨3, 0, 0, toNats bs, []⟩], by omega, by omega, by go_num, Lib.hid (by rw [List.length_append, HXL.out]; rfl), HOWN, Lib.hid (all_snoc HOK.out HY.out), hb3⟩
              case measure => simp [intOf]; omega
        · obtain ⟨wo, rfl⟩ : ∃ wo : World, wo = wr := ⟨_, rfl⟩
          have hl0 := Laid.new wo 28 [.int .i64 4, .int .u64 0, .int .i64 0, .slice none 0 0, .slice none 0 0]
          have hbe0 : Below wo.heap.size wo (wo.alloc (.cells #[.int .i64 4, .int .u64 0, .int .i64 0, .slice none 0 0, .slice none 0 0] 28)) := (Below.refl _ wo).alloc (Nat.le_refl _) _
          have HL0 := Lib.hid hl0
          clear hl0
          go_wp2_with fail
          go_loopw [8] (fun jv wl => ∃ (j : Nat) (bs : List Int) (a : Option Addr) (cap : Nat), j ≤ n % 10 ∧ jv = .int .i64 (j : Int) ∧ Hid (bs.length = j) ∧ Hid (∀ c ∈ bs, 0 ≤ c ∧ c ≤ 255) ∧ Hid (Laid wl wo.heap.size 28 [.int .i64 4, .int .u64 0, .int .i64 0, .slice a bs.length cap, .slice none 0 0]) ∧ Hid (Fresh (wo.heap.size + 1) 5 .u8 wl (.slice a bs.length cap) bs) ∧ Hid (Below wo.heap.size wo wl)) (fun jv _ => 10 - (intOf jv).toNat)
          case atStart => exact ⟨0, [], none, 0, Nat.zero_le _, rfl, Lib.hid rfl, Lib.hid (fun c h => by simp at h), HL0, Lib.hid (fresh_nil _ _ _ _), Lib.hid hbe0⟩
          case round =>
            obtain ⟨j, bs, a, cap2, hj, rfl, HBL, HBR, HL, HFB, HB⟩ := hrel
            clear HL0 hbe0
            have hc0 := HL.out.cell 0
            have hc1 := HL.out.cell 1
            have hc2 := HL.out.cell 2
            have hc3 := HL.out.cell 3
            have hc4 := HL.out.cell 4
            have hf3 := HL.out.frozen 3
            simp only [List.getElem?_cons_zero, List.getElem?_cons_succ] at hc0 hc1 hc2 hc3 hc4
            have hckL : wr.cell? ⟨b, off + i, none⟩ = some (.int .i64 z) := (HB.out.cell (p := ⟨b, off + i, none⟩) hbw).trans hck
            by_cases hjn : j < n % 10
            · have hrow : Hid (wr.ownsRow (wo.heap.size + 1) 5 1 (.slice a bs.length cap2) bs.length (bs.map (Value.int .u8))) := Lib.hid HFB.out
              have hVlt : wo.heap.size < wr.heap.size := HL.out.lt
              have hbs : bs.length + 1 ≤ 11 := by have := HBL.out; omega
              have hblt : b < wr.heap.size := by have := HB.out.size; omega
              have hA : ∀ o, (wr.alloc o).cell? ⟨wo.heap.size, 3, none⟩ = some (.slice a bs.length cap2) ∧ (wr.alloc o).cell? ⟨b, off + i, none⟩ = some (.int .i64 z) ∧ (wr.alloc o).frozen? ⟨wo.heap.size, 3, none⟩ = false := fun o => by
                have hb := (Below.refl wr.heap.size wr).alloc (Nat.le_refl _) o
                exact ⟨(hb.cell (p := ⟨wo.heap.size, 3, none⟩) hVlt).trans hc3, (hb.cell (p := ⟨b, off + i, none⟩) hblt).trans hckL, (hb.frozen (p := ⟨wo.heap.size, 3, none⟩) hVlt).trans hf3⟩
              have hneV : some wo.heap.size ≠ Value.ownBlock (.slice a bs.length cap2) := fun e => by have := (hrow.out.lt _ e.symm).1; omega
              have hneb : some b ≠ Value.ownBlock (.slice a bs.length cap2) := fun e => by have := (hrow.out.lt _ e.symm).1; omega
              have hD : ∀ o, (wr.alloc o).drew.cell? ⟨wo.heap.size, 3, none⟩ = some (.slice a bs.length cap2) ∧ (wr.alloc o).drew.cell? ⟨b, off + i, none⟩ = some (.int .i64 z) ∧ (wr.alloc o).drew.frozen? ⟨wo.heap.size, 3, none⟩ = false := hA
              have HA := Lib.hid hA
              have HD := Lib.hid hD
              have HNV := Lib.hid hneV
              have HNB := Lib.hid hneb
              clear hA hD hneV hneb
              go_wp2_with fail
              go_region_law
                ((refine step_append_lies _ (by rfl) _ _ 24 (by rfl) (wo.heap.size + 1) 5 i0 (.int .u8 0) 1 1 Try.underlying24 hi hz0 hz1 hz2 (by rfl) (by decide) (.slice a bs.length cap2) bs.length (bs.map (Value.int .u8)) (by rfl) (hrow.out.alloc _) ⟨wr.heap.size, 0, none⟩ 1 1 [.int .u8 (IntKind.u8.wrap (z / 2 ^ min (IntKind.u64.wrap (j : Int)).toNat 64))] (by rfl) (by rfl) (cell_one_new _ _ _) (by simp [Value.oneCell']) (by decide) (by unfold maxLen; omega) (by omega) (by simp; omega) (wr.heap.size + 1) (by simp) ?_; intro g3 cap3 w3 hown hgrow hat hglt; have hS3 := And.intro ((hgrow.cell_far ⟨wo.heap.size, 3, none⟩ (by simp; omega) HNV.out).trans (HA.out _).1) (And.intro ((hgrow.cell_far ⟨b, off + i, none⟩ (by simp; omega) HNB.out).trans (HA.out _).2.1) ((hgrow.frozen_far ⟨wo.heap.size, 3, none⟩ (by simp; omega) HNV.out).trans (HA.out _).2.2))))
              all_goals
                have HXR : Hid (∀ c ∈ bs ++ [IntKind.u8.wrap (z / 2 ^ min (IntKind.u64.wrap (j : Int)).toNat 64)], 0 ≤ c ∧ c ≤ 255) := Lib.hid (fun c hc => by
                  rcases List.mem_append.1 hc with h | h
                  · exact HBR.out c h
                  · rw [List.mem_singleton.1 h, IntKind.wrap_u8']; omega)
                generalize IntKind.u8.wrap (z / 2 ^ min (IntKind.u64.wrap (j : Int)).toNat 64) = x at *
                have hL3 : Laid w3 wo.heap.size 28 [.int .i64 4, .int .u64 0, .int .i64 0, .slice a bs.length cap2, .slice none 0 0] := (hgrow.block wo.heap.size (by simp; omega) HNV.out).trans ((Below.heap_alloc _ _ _ hVlt).trans HL.out)
                have hf : Fresh (wo.heap.size + 1) 5 .u8 w3 (.slice (some ⟨g3, 0, none⟩) (bs ++ [x]).length cap3) (bs ++ [x]) := by
                  unfold Fresh
                  rw [List.length_append, List.map_append]
                  exact hown
                have hf2 := Lib.hid (fresh_foot hf (keeps_set w3 wo.heap.size 3 (.slice (some ⟨g3, 0, none⟩) (bs.length + 1) cap3)) (fun k hk e => by omega))
                have hL4 := Lib.hid (hL3.set 3 (.slice (some ⟨g3, 0, none⟩) (bs.length + 1) cap3))
                have hB4 := Lib.hid ((((HB.out.alloc HB.out.size (.cells #[.int .u8 x] 5)).drew.grown hgrow (by have := HB.out.size; simp; omega) (fun k hk => by have := (hrow.out.lt k hk).1; omega)).setCell (p := ⟨wo.heap.size, 3, none⟩) (Nat.le_refl _) (.slice (some ⟨g3, 0, none⟩) (bs.length + 1) cap3)))
                clear hL3 hf hown hgrow hat hglt hS3
                go_wp2_with fail
                go_roundw
                case rel => exact ⟨j + 1, bs ++ [x], some ⟨g3, 0, none⟩, cap3, by omega, by go_num, Lib.hid (by rw [List.length_append, HBL.out]; rfl), HXR, Lib.hid (by rw [List.length_append]; exact hL4.out), hf2, hB4⟩
                case measure => simp [intOf]; omega
            · have HY : Hid ((⟨4, 0, 0, toNats bs, []⟩ : VV).ok ∧ (⟨4, 0, 0, toNats bs, []⟩ : VV).proper) := Lib.hid ⟨⟨show (0 : Nat) < 18446744073709551616 by decide, ⟨show (-9223372036854775808 : Int) ≤ 0 by decide, show (0 : Int) ≤ 9223372036854775807 by decide⟩, toNats_mem HBR.out, by show (toNats bs).length ≤ 1000; rw [toNats_length, HBL.out]; omega, fun c h => by simp at h, by simp⟩, .inr (.inr (.inr (.inl ⟨.inr rfl, rfl, rfl, rfl⟩)))⟩
              have hbelo := below_then hbel HB.out
              have hsw := hbelo.size
              have hswo := hbel.size
              have HFV := Lib.hid (freshV_keeps (freshV_keeps HF.out HB.out) ((Below.refl _ wr).alloc (Nat.le_refl _) (.cells #[.int .i64 4, .int .u64 0, .int .i64 0, .slice a bs.length cap2, .slice none 0 0] 28)))
              have hfb : Fresh w.heap.size 5 .u8 (wr.alloc (.cells #[.int .i64 4, .int .u64 0, .int .i64 0, .slice a bs.length cap2, .slice none 0 0] 28)) (.slice a bs.length cap2) (natI (toNats bs)) := by
                rw [natI_toNats HBR.out]
                exact fresh_mono (fresh_keeps HFB.out ((Below.refl _ wr).alloc (Nat.le_refl _) _)) (by omega)
              have HPART := Lib.hid (parts_one (p := (.slice a bs.length cap2, .slice none 0 0)) (y := ⟨4, 0, 0, toNats bs, []⟩) ⟨hfb, fresh_nil w.heap.size 3 .i64 _⟩)
              clear hfb
              go_wp2_with (at_builtin; go_must (refine wpList_append_vals rfl _ _ rfl w.heap.size _ xs rfl HFV.out wr.heap.size 1 1 rfl [(.slice a bs.length cap2, .slice none 0 0)] [⟨4, 0, 0, toNats bs, []⟩] rfl (laid_val wr (.slice a bs.length cap2, .slice none 0 0) ⟨4, 0, 0, toNats bs, []⟩ (cs := #[.int .i64 4, .int .u64 0, .int .i64 0, .slice a bs.length cap2, .slice none 0 0]) rfl) (one_vals _ _ _ _ _ _ _) HPART.out hxl (by simp; omega) ?_); intro v2 w2 hown hgrow hge; have hb3 : Below w.heap.size w w2 := (hbelo.alloc hsw (.cells #[.int .i64 4, .int .u64 0, .int .i64 0, .slice a bs.length cap2, .slice none 0 0] 28)).grown hgrow (by simp; omega) hge; have HOWN := Lib.hid hown; clear hown hgrow hge)
              go_roundw
              case rel => exact ⟨i + 1, xs ++ [⟨4, 0, 0, toNats bs, []⟩], by omega, by omega, by go_num, Lib.hid (by rw [List.length_append, HXL.out]; rfl), HOWN, Lib.hid (all_snoc HOK.out HY.out), hb3⟩
              case measure => simp [intOf]; omega
        · clear hi hz0 hz1 hz2
          obtain ⟨i0, hi, hz0, hz1, hz2⟩ := info_parts info_int
          obtain ⟨wo, rfl⟩ : ∃ wo : World, wo = wr := ⟨_, rfl⟩
          have hl0 := Laid.new wo 28 [.int .i64 5, .int .u64 0, .int .i64 0, .slice none 0 0, .slice none 0 0]
          have hbe0 : Below wo.heap.size wo (wo.alloc (.cells #[.int .i64 5, .int .u64 0, .int .i64 0, .slice none 0 0, .slice none 0 0] 28)) := (Below.refl _ wo).alloc (Nat.le_refl _) _
          have HL0 := Lib.hid hl0
          clear hl0
          go_wp2_with fail
          go_loopw [9] (fun jv wl => ∃ (j : Nat) (bs : List Int) (a : Option Addr) (cap : Nat), j ≤ n % 5 ∧ jv = .int .i64 (j : Int) ∧ Hid (bs.length = j) ∧ Hid (∀ c ∈ bs, -9223372036854775808 ≤ c ∧ c ≤ 9223372036854775807) ∧ Hid (Laid wl wo.heap.size 28 [.int .i64 5, .int .u64 0, .int .i64 0, .slice none 0 0, .slice a bs.length cap]) ∧ Hid (Fresh (wo.heap.size + 1) 3 .i64 wl (.slice a bs.length cap) bs) ∧ Hid (Below wo.heap.size wo wl)) (fun jv _ => 10 - (intOf jv).toNat)
          case atStart => exact ⟨0, [], none, 0, Nat.zero_le _, rfl, Lib.hid rfl, Lib.hid (fun c h => by simp at h), HL0, Lib.hid (fresh_nil _ _ _ _), Lib.hid hbe0⟩
          case round =>
            obtain ⟨j, bs, a, cap2, hj, rfl, HBL, HBR, HL, HFB, HB⟩ := hrel
            clear HL0 hbe0
            have hc0 := HL.out.cell 0
            have hc1 := HL.out.cell 1
            have hc2 := HL.out.cell 2
            have hc3 := HL.out.cell 3
            have hc4 := HL.out.cell 4
            have hf3 := HL.out.frozen 4
            simp only [List.getElem?_cons_zero, List.getElem?_cons_succ] at hc0 hc1 hc2 hc3 hc4
            have hckL : wr.cell? ⟨b, off + i, none⟩ = some (.int .i64 z) := (HB.out.cell (p := ⟨b, off + i, none⟩) hbw).trans hck
            by_cases hjn : j < n % 5
            · have hrow : Hid (wr.ownsRow (wo.heap.size + 1) 3 1 (.slice a bs.length cap2) bs.length (bs.map (Value.int .i64))) := Lib.hid HFB.out
              have hVlt : wo.heap.size < wr.heap.size := HL.out.lt
              have hbs : bs.length + 1 ≤ 11 := by have := HBL.out; omega
              have hblt : b < wr.heap.size := by have := HB.out.size; omega
              have hA : ∀ o, (wr.alloc o).cell? ⟨wo.heap.size, 4, none⟩ = some (.slice a bs.length cap2) ∧ (wr.alloc o).cell? ⟨b, off + i, none⟩ = some (.int .i64 z) ∧ (wr.alloc o).frozen? ⟨wo.heap.size, 4, none⟩ = false := fun o => by
                have hb := (Below.refl wr.heap.size wr).alloc (Nat.le_refl _) o
                exact ⟨(hb.cell (p := ⟨wo.heap.size, 4, none⟩) hVlt).trans hc4, (hb.cell (p := ⟨b, off + i, none⟩) hblt).trans hckL, (hb.frozen (p := ⟨wo.heap.size, 4, none⟩) hVlt).trans hf3⟩
              have hneV : some wo.heap.size ≠ Value.ownBlock (.slice a bs.length cap2) := fun e => by have := (hrow.out.lt _ e.symm).1; omega
              have hneb : some b ≠ Value.ownBlock (.slice a bs.length cap2) := fun e => by have := (hrow.out.lt _ e.symm).1; omega
              have hD : ∀ o, (wr.alloc o).drew.cell? ⟨wo.heap.size, 4, none⟩ = some (.slice a bs.length cap2) ∧ (wr.alloc o).drew.cell? ⟨b, off + i, none⟩ = some (.int .i64 z) ∧ (wr.alloc o).drew.frozen? ⟨wo.heap.size, 4, none⟩ = false := hA
              have HA := Lib.hid hA
              have HD := Lib.hid hD
              have HNV := Lib.hid hneV
              have HNB := Lib.hid hneb
              clear hA hD hneV hneb
              go_wp2_with fail
              go_region_law
                ((refine step_append_lies _ (by rfl) _ _ 22 (by rfl) (wo.heap.size + 1) 3 i0 (.int .i64 0) 1 8 Try.underlying22 hi hz0 hz1 hz2 (by rfl) (by decide) (.slice a bs.length cap2) bs.length (bs.map (Value.int .i64)) (by rfl) (hrow.out.alloc _) ⟨wr.heap.size, 0, none⟩ 1 1 [.int .i64 (z / 2 ^ min (IntKind.u64.wrap (IntKind.i64.wrap (13 * (j : Int)))).toNat 64)] (by rfl) (by rfl) (cell_one_new _ _ _) (by simp [Value.oneCell']) (by decide) (by unfold maxLen; omega) (by omega) (by simp; omega) (wr.heap.size + 1) (by simp) ?_; intro g3 cap3 w3 hown hgrow hat hglt; have hS3 := And.intro ((hgrow.cell_far ⟨wo.heap.size, 4, none⟩ (by simp; omega) HNV.out).trans (HA.out _).1) (And.intro ((hgrow.cell_far ⟨b, off + i, none⟩ (by simp; omega) HNB.out).trans (HA.out _).2.1) ((hgrow.frozen_far ⟨wo.heap.size, 4, none⟩ (by simp; omega) HNV.out).trans (HA.out _).2.2))))
              all_goals
                have HXR : Hid (∀ c ∈ bs ++ [z / 2 ^ min (IntKind.u64.wrap (IntKind.i64.wrap (13 * (j : Int)))).toNat 64], -9223372036854775808 ≤ c ∧ c ≤ 9223372036854775807) := Lib.hid (fun c hc => by
                  rcases List.mem_append.1 hc with h | h
                  · exact HBR.out c h
                  · rw [List.mem_singleton.1 h]; exact div_range HZ.out (pow_ge _))
                generalize z / 2 ^ min (IntKind.u64.wrap (IntKind.i64.wrap (13 * (j : Int)))).toNat 64 = x at *
                have hL3 : Laid w3 wo.heap.size 28 [.int .i64 5, .int .u64 0, .int .i64 0, .slice none 0 0, .slice a bs.length cap2] := (hgrow.block wo.heap.size (by simp; omega) HNV.out).trans ((Below.heap_alloc _ _ _ hVlt).trans HL.out)
                have hf : Fresh (wo.heap.size + 1) 3 .i64 w3 (.slice (some ⟨g3, 0, none⟩) (bs ++ [x]).length cap3) (bs ++ [x]) := by
                  unfold Fresh
                  rw [List.length_append, List.map_append]
                  exact hown
                have hf2 := Lib.hid (fresh_foot hf (keeps_set w3 wo.heap.size 4 (.slice (some ⟨g3, 0, none⟩) (bs.length + 1) cap3)) (fun k hk e => by omega))
                have hL4 := Lib.hid (hL3.set 4 (.slice (some ⟨g3, 0, none⟩) (bs.length + 1) cap3))
                have hB4 := Lib.hid ((((HB.out.alloc HB.out.size (.cells #[.int .i64 x] 3)).drew.grown hgrow (by have := HB.out.size; simp; omega) (fun k hk => by have := (hrow.out.lt k hk).1; omega)).setCell (p := ⟨wo.heap.size, 4, none⟩) (Nat.le_refl _) (.slice (some ⟨g3, 0, none⟩) (bs.length + 1) cap3)))
                clear hL3 hf hown hgrow hat hglt hS3
                go_wp2_with fail
                go_roundw
                case rel => exact ⟨j + 1, bs ++ [x], some ⟨g3, 0, none⟩, cap3, by omega, by go_num, Lib.hid (by rw [List.length_append, HBL.out]; rfl), HXR, Lib.hid (by rw [List.length_append]; exact hL4.out), hf2, hB4⟩
                case measure => simp [intOf]; omega
            · have HY : Hid ((⟨5, 0, 0, [], bs⟩ : VV).ok ∧ (⟨5, 0, 0, [], bs⟩ : VV).proper) := Lib.hid ⟨⟨show (0 : Nat) < 18446744073709551616 by decide, ⟨show (-9223372036854775808 : Int) ≤ 0 by decide, show (0 : Int) ≤ 9223372036854775807 by decide⟩, fun c h => by simp at h, by simp, HBR.out, by show bs.length ≤ 1000; rw [HBL.out]; omega⟩, .inr (.inr (.inr (.inr ⟨rfl, rfl, rfl, rfl⟩)))⟩
              have hbelo := below_then hbel HB.out
              have hsw := hbelo.size
              have hswo := hbel.size
              have HFV := Lib.hid (freshV_keeps (freshV_keeps HF.out HB.out) ((Below.refl _ wr).alloc (Nat.le_refl _) (.cells #[.int .i64 5, .int .u64 0, .int .i64 0, .slice none 0 0, .slice a bs.length cap2] 28)))
              have hfb : Fresh w.heap.size 3 .i64 (wr.alloc (.cells #[.int .i64 5, .int .u64 0, .int .i64 0, .slice none 0 0, .slice a bs.length cap2] 28)) (.slice a bs.length cap2) bs :=
                fresh_mono (fresh_keeps HFB.out ((Below.refl _ wr).alloc (Nat.le_refl _) _)) (by omega)
              have HPART := Lib.hid (parts_one (p := (.slice none 0 0, .slice a bs.length cap2)) (y := ⟨5, 0, 0, [], bs⟩) ⟨fresh_nil w.heap.size 5 .u8 _, hfb⟩)
              clear hfb
              go_wp2_with (at_builtin; go_must (refine wpList_append_vals rfl _ _ rfl w.heap.size _ xs rfl HFV.out wr.heap.size 1 1 rfl [(.slice none 0 0, .slice a bs.length cap2)] [⟨5, 0, 0, [], bs⟩] rfl (laid_val wr (.slice none 0 0, .slice a bs.length cap2) ⟨5, 0, 0, [], bs⟩ (cs := #[.int .i64 5, .int .u64 0, .int .i64 0, .slice none 0 0, .slice a bs.length cap2]) rfl) (one_vals _ _ _ _ _ _ _) HPART.out hxl (by simp; omega) ?_); intro v2 w2 hown hgrow hge; have hb3 : Below w.heap.size w w2 := (hbelo.alloc hsw (.cells #[.int .i64 5, .int .u64 0, .int .i64 0, .slice none 0 0, .slice a bs.length cap2] 28)).grown hgrow (by simp; omega) hge; have HOWN := Lib.hid hown; clear hown hgrow hge)
              go_roundw
              case rel => exact ⟨i + 1, xs ++ [⟨5, 0, 0, [], bs⟩], by omega, by omega, by go_num, Lib.hid (by rw [List.length_append, HXL.out]; rfl), HOWN, Lib.hid (all_snoc HOK.out HY.out), hb3⟩
              case measure => simp [intOf]; omega
      · obtain rfl : i = 8 := by omega
        go_wp2_with fail
        go_ret
        exact ⟨_, xs, rfl, HF.out, hbel, by have := HXL.out; omega, HOK.out⟩
    · go_wp2_with fail
      go_ret
      exact ⟨_, xs, rfl, HF.out, hbel, by have := HXL.out; omega, HOK.out⟩
end Go.Proofs.Ytghilgkkpbhoiaa
