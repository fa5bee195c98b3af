/-
  Plain facts: the sums of two labels that differ in one byte.
-/
import Derived.Test.YtlljcnhcknmoaaaGreatLawD
import Derived.Laws.BytesArg
import Derived.Laws.BitsAllLaws
namespace Go.Proofs.YtlljcnhcknmoaaaGreat
open Go.RowKit
set_option linter.unusedVariables false

theorem label_inj {x y : List Nat} (ws : List Int) (hw : ws.length < T64) (hx8 : x.length < T64) (hl : x.length = y.length) (hx : ∀ c ∈ x, c < 256) (hy : ∀ c ∈ y, c < 256) {q : Nat} (he : ∀ i, i / 8 ≠ q → x[i]? = y[i]?)
    (h : sumN x ws = sumN y ws) : x = y := by
  have hgr : grp x q = grp y q := by
    by_cases hq : q < (x.length + 7) / 8
    · have hwl : (wordsN x).length = (wordsN y).length := by rw [words_length, words_length, hl]
      have hqx : q < (wordsN x).length := by rw [words_length]; exact hq
      have hqy : q < (wordsN y).length := hwl ▸ hqx
      unfold sumN at h
      have h2 := mixN_state (by decide) (fold_lt (mixN_lt _ _) _) (fold_lt (mixN_lt _ _) _) h
      have h3 := fold_state (mixN_lt _ _) (mixN_lt _ _) _ (map_ofInt_lt ws) h2
      have h4 := mixN_state hw (mixN_lt _ _) (mixN_lt _ _) h3
      rw [← hl] at h4
      have h5 := mixN_state hx8 (fold_lt (by decide) _) (fold_lt (by decide) _) h4
      have hoth : ∀ i, i ≠ q → (wordsN x)[i]? = (wordsN y)[i]? := by
        intro i hi
        unfold wordsN
        rw [List.getElem?_map, List.getElem?_map, hl]
        by_cases hir : i < (y.length + 7) / 8
        · rw [List.getElem?_range hir]
          simp only [Option.map_some]
          rw [grp_congr (fun j hj => he j (by omega))]
        · rw [List.getElem?_eq_none (by simp; omega)]; rfl
      have e1 : (wordsN x).take q = (wordsN y).take q := by
        apply List.ext_getElem?
        intro i
        rw [List.getElem?_take, List.getElem?_take]
        split
        · exact hoth i (by omega)
        · rfl
      have e2 : (wordsN x).drop (q + 1) = (wordsN y).drop (q + 1) := by
        apply List.ext_getElem?
        intro i
        rw [List.getElem?_drop, List.getElem?_drop]
        exact hoth _ (by omega)
      rw [list_split (wordsN x) hqx, list_split (wordsN y) hqy, e1, e2] at h5
      have h6 := fold_word (by decide) _ _ (words_lt hx _ (List.getElem_mem hqx)) (words_lt hy _ (List.getElem_mem hqy)) (fun w hw => words_lt hy w (List.mem_of_mem_drop hw)) h5
      have g1 : (wordsN x)[q] = leN (grp x q) := by simp [wordsN]
      have g2 : (wordsN y)[q] = leN (grp y q) := by simp [wordsN]
      rw [g1, g2] at h6
      exact leN_inj (by rw [grp_length, grp_length, hl]) (fun c hc => hx c (grp_mem hc)) (fun c hc => hy c (grp_mem hc)) h6
    · have z1 : grp x q = [] := by apply List.eq_nil_of_length_eq_zero; rw [grp_length]; omega
      have z2 : grp y q = [] := by apply List.eq_nil_of_length_eq_zero; rw [grp_length, ← hl]; omega
      rw [z1, z2]
  apply List.ext_getElem?
  intro i
  by_cases hi : i / 8 = q
  · have h1 := grp_getElem? x q (i % 8)
    have h2 := grp_getElem? y q (i % 8)
    rw [if_pos (by omega), show 8 * q + i % 8 = i by omega] at h1 h2
    rw [← h1, ← h2, hgr]
  · exact he i hi

theorem strN_ofNums {zs : List Int} (h : ∀ n ∈ zs, 0 ≤ n ∧ n ≤ 255) : strN (strOfNums zs) = toNats zs := by
  unfold strN toNats
  rw [strOfNums_data, List.map_map]
  refine List.map_congr_left fun n hn => ?_
  have := h n hn
  simp only [Function.comp, UInt8.toNat_ofNat']
  omega

theorem toNats_natI (l : List Nat) : toNats (natI l) = l := by
  unfold toNats natI
  rw [List.map_map]
  conv => rhs; rw [← List.map_id l]
  exact List.map_congr_left fun n _ => rfl

theorem natI_range {l : List Nat} (h : ∀ c ∈ l, c < 256) : ∀ n ∈ natI l, 0 ≤ n ∧ n ≤ 255 := by
  intro n hn
  obtain ⟨c, hc, rfl⟩ := List.mem_map.1 hn
  have := h c hc
  omega

/-- One byte of a label xored: the sum is the same just where it is xored with nothing. -/
theorem label_eq (ws : List Int) (hw : ws.length ≤ 1000000) {xs : List Int} (hl : xs.length ≤ 1000000) (hx : ∀ n ∈ xs, 0 ≤ n ∧ n ≤ 255) {k : Nat} (hk : k < xs.length) {c : Int} (hc : 0 ≤ c ∧ c ≤ 255) :
    ((sumN (strN (strOfNums xs)) ws : Int) == (sumN (strN (strOfNums (xs.set k (bits .xor .u8 xs[k] c)))) ws : Int)) = (c == 0) := by
  have hk2 := hx _ (List.getElem_mem hk)
  have e := u8_xor xs[k] c hk2.1 (by omega) hc.1 (by omega)
  by_cases h : c = 0
  · subst h
    have e2 : bits .xor .u8 xs[k] 0 = xs[k] := by
      rw [e]; show ((xs[k].toNat ^^^ 0 : Nat) : Int) = xs[k]
      rw [Nat.xor_zero]; omega
    rw [e2, List.set_getElem_self]
    simp
  · rw [show (c == 0) = false by simp [h]]
    have hc1 : 0 ≤ bits .xor .u8 xs[k] c ∧ bits .xor .u8 xs[k] c ≤ 255 := ⟨bits_lo_u8 _ _ _, bits_hi_u8 _ _ _⟩
    have hys := bytes_range_set hx k hc1
    rw [strN_ofNums hx, strN_ofNums hys]
    refine eq_false (fun e3 => h ?_)
    have e4 := label_inj ws (by unfold T64; omega) (by rw [toNats_length]; unfold T64; omega) (by rw [toNats_length, toNats_length, List.length_set]) (toNats_mem hx) (toNats_mem hys) (q := k / 8)
      (fun i hi => by unfold toNats; rw [List.getElem?_map, List.getElem?_map, List.getElem?_set_ne (fun e => hi (by rw [e]))]) e3
    have e5 := toNats_inj hx hys e4
    have e6 : xs[k]? = (xs.set k (bits .xor .u8 xs[k] c))[k]? := congrArg (fun l => l[k]?) e5
    rw [List.getElem?_set_self hk, List.getElem?_eq_getElem hk] at e6
    injection e6 with e7
    rw [e] at e7
    have e8 : xs[k].toNat ^^^ 0 = xs[k].toNat ^^^ c.toNat := by rw [Nat.xor_zero]; omega
    have := xor_cancel e8
    omega
end Go.Proofs.YtlljcnhcknmoaaaGreat
