/-
  The reference's reader: lists.
-/
import Derived.Test.YtghilgkkpbhoiaaWireD
namespace Go.Proofs.Ytghilgkkpbhoiaa
open Go.RowKit Go.Shelf
set_option linter.unusedVariables false

theorem rd_keeps {A : Foot} {W W2 : World} {r b : Nat} {s : RS} (h : Rd W r b s) (hk : Keeps A W W2) (hr : ¬ A r) (hb : ¬ A b) : Rd W2 r b s := by
  obtain ⟨v, h1, h2, h3, h4, h5, h6⟩ := h
  exact ⟨v, h1.keeps hk hr, row_foot h2 hk (fun j hj => by rw [h3.2 j hj]; exact hb), h3, h4, h5, h6⟩

theorem rd_below {W W2 : World} {r b : Nat} {s : RS} (h : Rd W r b s) (hb : b < W.heap.size) (hk : Below W.heap.size W W2) : Rd W2 r b s := by
  have hr : r < W.heap.size := by obtain ⟨v, h1, _⟩ := h; exact h1.lt
  exact rd_keeps h (Keeps.of_below hk) (by omega) (by omega)

theorem fresh_foot {A : Foot} {B : Nat} {e : TypeId} {k : IntKind} {w w' : World} {v : Value} {zs : List Int} (h : Fresh B e k w v zs) (hk : Keeps A w w') (hn : ∀ j, B ≤ j → ¬ A j) : Fresh B e k w' v zs := by
  refine ⟨h.1, ?_⟩
  rcases h.2 with h0 | ⟨g, cap, cur, rfl, h2, h3, h4⟩
  · exact .inl h0
  · exact .inr ⟨g, cap, cur, rfl, h2, hk.obj h3 (hn g h2), h4⟩

/-- A row of the call's own has grown: what lay before the call minds it not. -/
theorem keeps_grown {A : Foot} {e : TypeId} {k : IntKind} {w W W' : World} {v : Value} {zs : List Int} (hk : Keeps A w W) (hf : Fresh w.heap.size e k W v zs) (hg : W.grownBy W' v.ownBlock) : Keeps A w W' :=
  ⟨hg.os.trans hk.os, hg.tape.trans hk.tape, hg.output.trans hk.output, Nat.le_trans hk.size hg.size, fun j hj hn =>
    (hg.block j (Nat.lt_of_lt_of_le hj hk.size) (fun e => by have := (hf.lt j e.symm).1; omega)).trans (hk.same j hj hn)⟩

theorem rLen_small {W : World} {r b : Nat} {s : RS} (h : Rd W r b (rLen s).2) : (rLen s).1 ≤ 1000000 := by
  by_cases he : (rLen s).2.2 = 0
  · have := rLen_le s he
    have := h.short
    omega
  · unfold rLen at *
    split
    · exact Nat.zero_le _
    · rename_i h1
      rw [if_neg h1] at he
      split
      · exact Nat.zero_le _
      · rename_i h2
        rw [if_neg h2] at he
        exact absurd he h1

def IntsEnd (r b : Nat) (l : List Int) (s : RS) (w : World) (e : Ending) (w' : World) : Prop :=
  ∃ v, e = .returned v ∧ Fresh w.heap.size 3 .i64 w' v l ∧ Rd w' r b s ∧ Keeps (fun k => k = r) w w'

theorem rInt_range {W : World} {r b : Nat} {s : RS} (h : Rd W r b s) : -9223372036854775808 ≤ (rInt s).1 ∧ (rInt s).1 ≤ 9223372036854775807 := zagI_range (rUint_lt h.bytes)

set_option maxRecDepth 100000 in
set_option maxHeartbeats 4000000 in
theorem refRdInts_any (r b : Nat) (s : RS) (w : World) (h : Rd w r b s) (hb : b < w.heap.size) :
    Calls Try.prog 53 #[.pointer (some ⟨r, 0, none⟩)] w (IntsEnd r b (rInts s).1 (rInts s).2 w) := by
  obtain ⟨i0, hi, hz0, hz1, hz2⟩ := info_parts info_int
  have hr0 : r < w.heap.size := by obtain ⟨v, h1, _⟩ := h; exact h1.lt
  have HU := Lib.hid (refRdLen_any r b s w h)
  have HSM : Hid (∀ W, Rd W r b (rLen s).2 → (rLen s).1 ≤ 1000000) := fun W h => rLen_small h
  have hdef : rInts s = if (rMany (rLen s).1 (rLen s).2).2.2 ≠ 0 then ([], (rMany (rLen s).1 (rLen s).2).2) else rMany (rLen s).1 (rLen s).2 := rfl
  have HDF := Lib.hid hdef
  clear h hdef
  unfold RdEnd at HU
  generalize rInts s = out at *
  generalize rLen s = q at *
  obtain ⟨n, s1⟩ := q
  replace HDF : Hid (out = if (rMany n s1).2.2 ≠ 0 then ([], (rMany n s1).2) else rMany n s1) := Lib.hid HDF.out
  go_enter Try.func53, Try.ntmps53
  go_wp2_with fail
  refine HU.out.mono ?_
  rintro e w1 ⟨rfl, hrd, hk⟩
  have hn : n ≤ 1000000 := HSM.out _ hrd
  have HR1 := Lib.hid hrd
  have HK1 := Lib.hid hk
  clear hrd hk HU HSM
  go_wp2_with fail
  go_loopw [4, 5] (fun ov iv wr => ∃ (i : Nat) (pre : List Int) (si : RS), i ≤ n ∧ iv = .int .i64 (i : Int) ∧ Hid (pre.length = i) ∧ Hid (rMany n s1 = (pre ++ (rMany (n - i) si).1, (rMany (n - i) si).2)) ∧ Hid (Fresh w.heap.size 3 .i64 wr ov pre) ∧ Hid (Rd wr r b si) ∧ Hid (Keeps (fun k => k = r) w wr)) (fun _ iv _ => n - (intOf iv).toNat)
  case atStart => exact ⟨0, [], s1, Nat.zero_le _, rfl, Lib.hid rfl, Lib.hid rfl, Lib.hid (fresh_nil _ _ _ _), HR1, HK1⟩
  case round =>
    obtain ⟨i, pre, si, hin, rfl, HP, HM, HF, HR, HK⟩ := hrel
    clear HR1 HK1
    obtain ⟨a, cap, hc0, hc1, hf0, hf1, hcap, hcm, _, _, _, _, _⟩ := HR.out.cells
    obtain ⟨li, ei⟩ := si
    simp only at hc0 hc1
    by_cases he : ei = 0
    · subst he
      by_cases hlt : i < n
      · go_wp2_with fail
        refine (refRdInt_any r b (li, 0) wr HR.out).mono ?_
        rintro e w2 ⟨rfl, hrd2, hk2⟩
        have HR2 := Lib.hid hrd2
        have HF2 := Lib.hid (fresh_foot HF.out hk2 (fun j hj e => by omega))
        have HK2 := Lib.hid (HK.out.trans hk2)
        have hsz : w.heap.size ≤ w2.heap.size := HK2.out.size
        have HM2 : Hid (rMany n s1 = ((pre ++ [(rInt (li, 0)).1]) ++ (rMany (n - (i + 1)) (rInt (li, 0)).2).1, (rMany (n - (i + 1)) (rInt (li, 0)).2).2)) := by
          have := HM.out
          rw [show n - i = (n - (i + 1)) + 1 by omega] at this
          rw [this, List.append_assoc]
          exact Lib.hid rfl
        have hpl : pre.length + 1 ≤ 1000000000 := by have := HP.out; omega
        clear hrd2 hk2 HM HF HK HR hc0 hc1 hf0 hf1 hcap hcm
        generalize (rInt (li, 0)).1 = x at *
        generalize (rInt (li, 0)).2 = s2 at *
        have HA := Lib.hid (fresh_keeps HF2.out ((Below.refl _ w2).alloc (Nat.le_refl _) (.cells #[.int .i64 x] 3)))
        have HX := Lib.hid (row_of_fresh (fresh_lit w2 w2.heap.size 3 .i64 [x] (Nat.le_refl _) (by simp)))
        go_wp2_with (at_builtin; refine wpList_append_fresh rfl _ _ 22 rfl w.heap.size 3 i0 .i64 8 Try.underlying22 hi hz0 hz1 hz2 (by decide) _ _ rfl HA.out _ [x] rfl HX.out hpl (by simp; omega) ?_; intro v3 w3 hfr hgrow; have HFR := Lib.hid hfr; have HK3 := Lib.hid (keeps_grown (HK2.out.alloc _) HA.out hgrow); have HR3 := Lib.hid (rd_keeps (rd_below HR2.out (by omega) ((Below.refl _ w2).alloc (Nat.le_refl _) (.cells #[.int .i64 x] 3))) (Keeps.of_grown (A := fun k => w.heap.size ≤ k) hgrow (fun k hk => (HA.out.lt k hk).1)) (by omega) (by omega)); clear hfr hgrow)
        go_roundw
        case rel => exact ⟨i + 1, pre ++ [x], s2, by omega, by go_num, Lib.hid (by rw [List.length_append, HP.out]; rfl), HM2, HFR, HR3, HK3⟩
        case measure => simp [intOf]; omega
      · obtain rfl : i = n := by omega
        have HO : Hid (out = (pre, (li, 0))) := by
          rw [HDF.out, HM.out, Nat.sub_self]
          exact Lib.hid (by show (if _ then _ else _) = _; rw [if_neg (fun h => h rfl)]; show (pre ++ [], _) = _; rw [List.append_nil]; rfl)
        clear HM HDF
        go_wp2_with fail
        go_ret
        rw [HO.out]
        exact ⟨_, rfl, HF.out, HR.out, HK.out⟩
    · have b1 : ((ei : Int) == 0) = false := by simp; omega
      have b2 : ((ei : Int) != 0) = true := by simp; omega
      have HO : Hid (out = ([], (li, ei))) := by
        rw [HDF.out, HM.out, rMany_err _ (s := (li, ei)) he]
        exact Lib.hid (by show (if _ then _ else _) = _; rw [if_pos he])
      clear he HM HDF
      by_cases hlt : i < n
      · go_wp2_with fail
        go_ret
        rw [HO.out]
        exact ⟨_, rfl, fresh_nil _ _ _ _, HR.out, HK.out⟩
      · go_wp2_with fail
        go_ret
        rw [HO.out]
        exact ⟨_, rfl, fresh_nil _ _ _ _, HR.out, HK.out⟩
end Go.Proofs.Ytghilgkkpbhoiaa
