/-
  Plain facts: sums and hashes of lists that differ at one place, or within one group.
-/
import Derived.Test.YtlljcnhcknmoaaaGreatWalkK
namespace Go.Proofs.YtlljcnhcknmoaaaGreat
open Go.RowKit
set_option linter.unusedVariables false

theorem list_split {α : Type} (l : List α) {k : Nat} (hk : k < l.length) : l = l.take k ++ l[k] :: l.drop (k + 1) := by
  rw [List.getElem_cons_drop hk, List.take_append_drop]

theorem sumN_at (label : List Nat) {us ws : List Int} (hl : us.length = ws.length) {k : Nat} (hk : k < us.length) (he : ∀ i, i ≠ k → us[i]? = ws[i]?) (h : sumN label us = sumN label ws) :
    ofInt us[k] = ofInt (ws[k]'(hl ▸ hk)) := by
  have hk2 : k < ws.length := hl ▸ hk
  have e1 : us.take k = ws.take k := by
    apply List.ext_getElem?
    intro i
    rw [List.getElem?_take, List.getElem?_take]
    split
    · exact he i (by omega)
    · rfl
  have e2 : us.drop (k + 1) = ws.drop (k + 1) := by
    apply List.ext_getElem?
    intro i
    rw [List.getElem?_drop, List.getElem?_drop]
    exact he _ (by omega)
  rw [list_split us hk, list_split ws hk2, e1, e2] at h
  exact sumN_word label _ _ h

theorem grp_getElem? (l : List Nat) (q j : Nat) : (grp l q)[j]? = if j < 8 then l[8 * q + j]? else none := by
  unfold grp
  rw [List.getElem?_take, List.getElem?_drop]

theorem grp_congr {x y : List Nat} {q : Nat} (h : ∀ i, i / 8 = q → x[i]? = y[i]?) : grp x q = grp y q := by
  apply List.ext_getElem?
  intro j
  rw [grp_getElem?, grp_getElem?]
  split
  · exact h _ (by omega)
  · rfl

theorem group_inj (label : List Nat) {x y : List Nat} (hl : x.length = y.length) (hx : ∀ c ∈ x, c < 256) (hy : ∀ c ∈ y, c < 256) {q : Nat} (he : ∀ i, i / 8 ≠ q → x[i]? = y[i]?)
    (h : bytesN label x = bytesN label y) : x = y := by
  have hgr : grp x q = grp y q := by
    by_cases hq : q < (x.length + 7) / 8
    · have hw : (wordsN x).length = (wordsN y).length := by rw [words_length, words_length, hl]
      unfold bytesN at h
      rw [hl] at h
      have hlen : ((wordsN x).map toInt ++ [(y.length : Int)]).length = ((wordsN y).map toInt ++ [(y.length : Int)]).length := by simp [hw]
      have hqx : q < (wordsN x).length := by rw [words_length]; exact hq
      have hqy : q < (wordsN y).length := hw ▸ hqx
      have hk : q < ((wordsN x).map toInt ++ [(y.length : Int)]).length := by simp; omega
      have hoth : ∀ i, i ≠ q → ((wordsN x).map toInt ++ [(y.length : Int)])[i]? = ((wordsN y).map toInt ++ [(y.length : Int)])[i]? := by
        intro i hi
        rw [List.getElem?_append, List.getElem?_append, List.length_map, List.length_map, hw]
        split
        · rename_i hlt
          have : (wordsN x)[i]? = (wordsN y)[i]? := by
            unfold wordsN
            rw [List.getElem?_map, List.getElem?_map, hl]
            by_cases hir : i < (y.length + 7) / 8
            · rw [List.getElem?_range hir]
              simp only [Option.map_some]
              rw [grp_congr (fun j hj => he j (by omega))]
            · rw [List.getElem?_eq_none (by simp; omega)]; rfl
          rw [List.getElem?_map, List.getElem?_map, this]
        · rfl
      have := sumN_at label hlen hk hoth h
      rw [List.getElem_append_left (by simp; exact hqx), List.getElem_append_left (by simp; exact hqy), List.getElem_map, List.getElem_map,
        ofInt_toInt (words_lt hx _ (List.getElem_mem _)), ofInt_toInt (words_lt hy _ (List.getElem_mem _))] at this
      have g1 : (wordsN x)[q] = leN (grp x q) := by simp [wordsN]
      have g2 : (wordsN y)[q] = leN (grp y q) := by simp [wordsN]
      rw [g1, g2] at this
      exact leN_inj (by rw [grp_length, grp_length, hl]) (fun c hc => hx c (grp_mem hc)) (fun c hc => hy c (grp_mem hc)) this
    · have z1 : grp x q = [] := by apply List.eq_nil_of_length_eq_zero; rw [grp_length]; omega
      have z2 : grp y q = [] := by apply List.eq_nil_of_length_eq_zero; rw [grp_length, ← hl]; omega
      rw [z1, z2]
  apply List.ext_getElem?
  intro i
  by_cases hi : i / 8 = q
  · have h1 := grp_getElem? x q (i % 8)
    have h2 := grp_getElem? y q (i % 8)
    rw [if_pos (by omega), show 8 * q + i % 8 = i by omega] at h1 h2
    rw [← h1, ← h2, hgr]
  · exact he i hi
end Go.Proofs.YtlljcnhcknmoaaaGreat
