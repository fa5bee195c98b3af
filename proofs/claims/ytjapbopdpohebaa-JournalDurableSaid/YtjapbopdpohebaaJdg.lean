/-
  The law JournalDurable: what an Append leaves behind a failure of the power.
-/
import Derived.Test.YtjapbopdpohebaaJde
namespace Go.Proofs.Ytjapbopdpohebaa
open Go.RowKit Go.Shelf
set_option linter.unusedVariables false
set_option maxRecDepth 100000

/-- A log opened where records are followed by any bytes. -/
theorem open_st {k : Nat} (hk : k < 64) {s : St} {xs : List (List Nat)} {t : List Nat} (hon : s.on = true) (hl : s.left = -1) (hB : s.B = oneB k (framesN 0 xs ++ t)) (hx : ∀ x ∈ xs, x.length ≤ 1000000) (hn : xs.length ≤ 1000000) :
    (pOpen s (k : Int)).1 = 0 ∧ (pOpen s (k : Int)).2.2 = xs ++ (scanP xs.length t).map Prod.fst ∧ (pOpen s (k : Int)).2.1 = ⟨true, -1, oneB k (framesN 0 xs ++ t.take ((scanP xs.length t).map Prod.snd).sum), fun j => (oneB k (framesN 0 xs ++ t.take ((scanP xs.length t).map Prod.snd).sum) j).length⟩ := by
  obtain ⟨h1, h2⟩ := read_one hk hon hB
  have hsc : scanP 0 (framesN 0 xs ++ t) = pairsN 0 xs ++ scanP xs.length t := by rw [scanP_frames xs 0 t (by omega) hx, Nat.zero_add]
  have hsz : scanSize (framesN 0 xs ++ t) = (framesN 0 xs).length + ((scanP xs.length t).map Prod.snd).sum := by unfold scanSize; rw [hsc, List.map_append, List.sum_append, pairsN_sum]
  have hrc : scanRecs (framesN 0 xs ++ t) = xs ++ (scanP xs.length t).map Prod.fst := by unfold scanRecs; rw [hsc, List.map_append, pairsN_fst]
  have hle := (scanP_sum (framesN 0 xs ++ t).length 0 (framesN 0 xs ++ t) (Nat.le_refl _)).1
  have hle2 : scanSize (framesN 0 xs ++ t) ≤ (framesN 0 xs ++ t).length := hle
  have hcut : ∃ D2, pCutTo s (k : Int) (framesN 0 xs ++ t).length (scanSize (framesN 0 xs ++ t)) = (0, ⟨true, -1, oneB k ((framesN 0 xs ++ t).take (scanSize (framesN 0 xs ++ t))), D2⟩) := by
    unfold pCutTo
    by_cases hc : scanSize (framesN 0 xs ++ t) < (framesN 0 xs ++ t).length
    · rw [if_pos hc]
      exact trunc_one hk hon hl hB hle2
    · rw [if_neg hc, List.take_of_length_le (by omega)]
      obtain ⟨on, left, B, D⟩ := s
      have hon' : on = true := hon
      have hl' : left = -1 := hl
      have hB' : B = oneB k (framesN 0 xs ++ t) := hB
      subst hon' hl' hB'
      exact ⟨D, rfl⟩
  obtain ⟨D2, hcut⟩ := hcut
  have htk : (framesN 0 xs ++ t).take (scanSize (framesN 0 xs ++ t)) = framesN 0 xs ++ t.take ((scanP xs.length t).map Prod.snd).sum := by
    rw [hsz, List.take_append, List.take_of_length_le (by omega)]
    congr 2
    omega
  rw [htk] at hcut
  have hsy := sync_one (s := ⟨true, -1, oneB k (framesN 0 xs ++ t.take ((scanP xs.length t).map Prod.snd).sum), D2⟩) rfl rfl
  unfold pOpen
  rw [h1, h2, hcut, if_neg (fun h => h rfl), if_neg (fun h => h rfl), hsy, if_neg (fun h => h rfl), hrc]
  exact ⟨rfl, rfl, rfl⟩
/-- The beginning of a frame is no frame. -/
theorem scan_short {n : Nat} (hn : n ≤ 1000000) {x : List Nat} (hx : x.length ≤ 1000) {m : Nat} (hm : m < (frameN (n : Int) x).length) : scanP n ((frameN (n : Int) x).take m) = [] := by
  refine scanP_no (fun h => ?_)
  have hl : ((frameN (n : Int) x).take m).length = m := by rw [List.length_take]; omega
  have hfl := frameN_len (n := (n : Int)) (b := x) (natRange hn) (by omega)
  have hy : (headN ((frameN (n : Int) x).take m)).length ≤ 1000000 := by have := headN_len ((frameN (n : Int) x).take m); omega
  generalize headN ((frameN (n : Int) x).take m) = y at *
  obtain ⟨r, hr⟩ := h
  have h1 := next_round (natRange hn) hy (r ++ (frameN (n : Int) x).drop m)
  rw [← List.append_assoc, hr, List.take_append_drop] at h1
  have h2 := next_round (natRange hn) (show x.length ≤ 1000000 by omega) []
  rw [List.append_nil] at h2
  have hxy : x = y := congrArg Prod.fst (h2.symm.trans h1)
  subst hxy
  have := congrArg List.length hr
  rw [List.length_append, hl] at this
  omega
def DurI (s : St) (p : Nat) (xs : List (List Nat)) (i dn td : Nat) (up : Bool) : Prop :=
  (up = true ∧ dn = i ∧ td = i ∧ 2 * i ≤ p ∧ s = ⟨true, (p : Int) - 2 * (i : Int), oneB 0 (framesN 0 (xs.take i)), fun j => (oneB 0 (framesN 0 (xs.take i)) j).length⟩) ∨
  (up = false ∧ dn < i ∧ td = dn + 1 ∧ ∃ x, xs[dn]? = some x ∧ s.on = false ∧ s.B = oneB 0 (framesN 0 (xs.take dn) ++ frameN (dn : Int) x) ∧ s.D 0 = (framesN 0 (xs.take dn)).length)
def DurS (q : Int × St × Lg) (p : Nat) (xs : List (List Nat)) (i dn td : Nat) (up : Bool) : Prop :=
  (up = true ∧ dn = i ∧ q.1 = 0 ∧ q.2.2 = ⟨i + 1, true⟩ ∧ DurI q.2.1 p xs (i + 1) (i + 1) (i + 1) true) ∨
  (up = true ∧ dn = i ∧ q.1 = 23 ∧ q.2.2 = ⟨i, false⟩ ∧ DurI q.2.1 p xs (i + 1) i (i + 1) false) ∨
  (up = false ∧ dn < i ∧ q.1 = 23 ∧ q.2.2 = ⟨dn, false⟩ ∧ DurI q.2.1 p xs (i + 1) dn td false)
theorem oneB_set {k : Nat} (ys zs : List Nat) : setB (oneB k ys) k zs = oneB k zs := by
  funext j
  unfold oneB setB
  by_cases hj : j = k
  · rw [if_pos hj, if_pos hj]
  · rw [if_neg hj, if_neg hj, if_neg hj]
theorem dur_step {s : St} {p : Nat} {xs : List (List Nat)} {i dn td : Nat} {up : Bool} (h : DurI s p xs i dn td up) (hx : Shorts xs) (hi : i < xs.length) : DurS (pLog 5000 s 0 ⟨dn, up⟩ (xs[i])) p xs i dn td up := by
  have h10 := (hx.2 (xs[i]) (List.getElem_mem hi)).1
  rcases h with ⟨rfl, e1, e2, hp, rfl⟩ | ⟨rfl, hdn, htd, x, hxe, hon, hB, hD⟩
  · subst e1
    have e3 := e2.symm
    subst e3
    clear e2
    have hl : (xs.take dn).length = dn := by rw [List.length_take]; omega
    have hfl := framesN_le (xs.take dn) 0 (fun x h => (hx.2 x (List.mem_of_mem_take h)).1) (by have := hx.1; omega)
    have hf := frameN_len (n := (dn : Int)) (b := xs[dn]) (by have := hx.1; omega) (by omega)
    have h6 := hx.1
    have e : setB (oneB 0 (framesN 0 (xs.take dn))) (0 : Int).toNat (oneB 0 (framesN 0 (xs.take dn)) (0 : Int).toNat ++ frameN (dn : Int) xs[dn]) = oneB 0 (framesN 0 (xs.take dn) ++ frameN (dn : Int) xs[dn]) := by
      show setB (oneB 0 (framesN 0 (xs.take dn))) 0 (oneB 0 (framesN 0 (xs.take dn)) 0 ++ _) = _
      rw [oneB_at, oneB_set]
    have ha : pApp 5000 ⟨true, (p : Int) - 2 * (dn : Int), oneB 0 (framesN 0 (xs.take dn)), fun j => (oneB 0 (framesN 0 (xs.take dn)) j).length⟩ 0 (frameN (dn : Int) xs[dn]) =
        pStep ⟨true, (p : Int) - 2 * (dn : Int), oneB 0 (framesN 0 (xs.take dn) ++ frameN (dn : Int) xs[dn]), fun j => (oneB 0 (framesN 0 (xs.take dn)) j).length⟩ := by
      unfold pApp
      rw [isF_true (by decide), if_neg (fun h => by cases h), if_neg (fun h => by cases h), if_neg (by
        show ¬ ¬ sumB (setB (fun _ => []) 0 (framesN 0 (xs.take dn))) + _ ≤ 5000
        rw [sum_one (by decide)]
        exact fun h => h (by omega))]
      show pStep ⟨true, _, setB (oneB 0 (framesN 0 (xs.take dn))) (0 : Int).toNat (oneB 0 (framesN 0 (xs.take dn)) (0 : Int).toNat ++ _), _⟩ = _
      rw [e]
    have hq : pLog 5000 ⟨true, (p : Int) - 2 * (dn : Int), oneB 0 (framesN 0 (xs.take dn)), fun j => (oneB 0 (framesN 0 (xs.take dn)) j).length⟩ 0 ⟨dn, true⟩ xs[dn] =
        if (pStep ⟨true, (p : Int) - 2 * (dn : Int), oneB 0 (framesN 0 (xs.take dn) ++ frameN (dn : Int) xs[dn]), fun j => (oneB 0 (framesN 0 (xs.take dn)) j).length⟩).1 ≠ 0 then ((pStep ⟨true, (p : Int) - 2 * (dn : Int), oneB 0 (framesN 0 (xs.take dn) ++ frameN (dn : Int) xs[dn]), fun j => (oneB 0 (framesN 0 (xs.take dn)) j).length⟩).1, (pStep ⟨true, (p : Int) - 2 * (dn : Int), oneB 0 (framesN 0 (xs.take dn) ++ frameN (dn : Int) xs[dn]), fun j => (oneB 0 (framesN 0 (xs.take dn)) j).length⟩).2, ⟨dn, (pStep ⟨true, (p : Int) - 2 * (dn : Int), oneB 0 (framesN 0 (xs.take dn) ++ frameN (dn : Int) xs[dn]), fun j => (oneB 0 (framesN 0 (xs.take dn)) j).length⟩).1 != 23⟩) else
        if (pSync (pStep ⟨true, (p : Int) - 2 * (dn : Int), oneB 0 (framesN 0 (xs.take dn) ++ frameN (dn : Int) xs[dn]), fun j => (oneB 0 (framesN 0 (xs.take dn)) j).length⟩).2).1 ≠ 0 then ((pSync (pStep ⟨true, (p : Int) - 2 * (dn : Int), oneB 0 (framesN 0 (xs.take dn) ++ frameN (dn : Int) xs[dn]), fun j => (oneB 0 (framesN 0 (xs.take dn)) j).length⟩).2).1, (pSync (pStep ⟨true, (p : Int) - 2 * (dn : Int), oneB 0 (framesN 0 (xs.take dn) ++ frameN (dn : Int) xs[dn]), fun j => (oneB 0 (framesN 0 (xs.take dn)) j).length⟩).2).2, ⟨dn, (pSync (pStep ⟨true, (p : Int) - 2 * (dn : Int), oneB 0 (framesN 0 (xs.take dn) ++ frameN (dn : Int) xs[dn]), fun j => (oneB 0 (framesN 0 (xs.take dn)) j).length⟩).2).1 != 23⟩) else
        (0, (pSync (pStep ⟨true, (p : Int) - 2 * (dn : Int), oneB 0 (framesN 0 (xs.take dn) ++ frameN (dn : Int) xs[dn]), fun j => (oneB 0 (framesN 0 (xs.take dn)) j).length⟩).2).2, ⟨dn + 1, true⟩) := by
      unfold pLog
      rw [if_neg (by omega), if_neg (fun h => by cases h)]
      show (if (pApp 5000 _ 0 (frameN (dn : Int) xs[dn])).1 ≠ 0 then _ else _) = _
      rw [ha]
    rw [hq]
    have hD0 : (oneB 0 (framesN 0 (xs.take dn)) 0).length = (framesN 0 (xs.take dn)).length := by rw [oneB_at]
    by_cases hl0 : (p : Int) - 2 * (dn : Int) = 0
    · have hst : pStep ⟨true, (p : Int) - 2 * (dn : Int), oneB 0 (framesN 0 (xs.take dn) ++ frameN (dn : Int) xs[dn]), fun j => (oneB 0 (framesN 0 (xs.take dn)) j).length⟩ = (23, ⟨false, (p : Int) - 2 * (dn : Int), oneB 0 (framesN 0 (xs.take dn) ++ frameN (dn : Int) xs[dn]), fun j => (oneB 0 (framesN 0 (xs.take dn)) j).length⟩) := by
        unfold pStep stepOn
        rw [if_neg (by rw [decide_eq_true hl0]; show ¬ (false = true); decide)]
      rw [hst, if_pos (by show (23 : Int) ≠ 0; decide)]
      exact .inr (.inl ⟨rfl, rfl, rfl, rfl, .inr ⟨rfl, by omega, rfl, xs[dn], by rw [List.getElem?_eq_getElem hi], rfl, rfl, hD0⟩⟩)
    · have hst : pStep ⟨true, (p : Int) - 2 * (dn : Int), oneB 0 (framesN 0 (xs.take dn) ++ frameN (dn : Int) xs[dn]), fun j => (oneB 0 (framesN 0 (xs.take dn)) j).length⟩ = (0, ⟨true, (p : Int) - 2 * (dn : Int) - 1, oneB 0 (framesN 0 (xs.take dn) ++ frameN (dn : Int) xs[dn]), fun j => (oneB 0 (framesN 0 (xs.take dn)) j).length⟩) := by
        unfold pStep stepOn
        rw [if_pos (by rw [decide_eq_false hl0]; rfl)]
        show (_, (⟨true, max ((p : Int) - 2 * (dn : Int) - 1) (-1), _, _⟩ : St)) = _
        rw [show max ((p : Int) - 2 * (dn : Int) - 1) (-1) = (p : Int) - 2 * (dn : Int) - 1 by omega]
      rw [hst, if_neg (fun h => h rfl)]
      by_cases hl1 : (p : Int) - 2 * (dn : Int) - 1 = 0
      · have hsy : pSync ⟨true, (p : Int) - 2 * (dn : Int) - 1, oneB 0 (framesN 0 (xs.take dn) ++ frameN (dn : Int) xs[dn]), fun j => (oneB 0 (framesN 0 (xs.take dn)) j).length⟩ = (23, ⟨false, (p : Int) - 2 * (dn : Int) - 1, oneB 0 (framesN 0 (xs.take dn) ++ frameN (dn : Int) xs[dn]), fun j => (oneB 0 (framesN 0 (xs.take dn)) j).length⟩) := by
          unfold pSync stepOn
          rw [if_neg (by rw [decide_eq_true hl1]; show ¬ (false = true); decide)]
        show DurS (if (pSync ⟨true, (p : Int) - 2 * (dn : Int) - 1, _, _⟩).1 ≠ 0 then _ else _) _ _ _ _ _ _
        rw [hsy, if_pos (by show (23 : Int) ≠ 0; decide)]
        exact .inr (.inl ⟨rfl, rfl, rfl, rfl, .inr ⟨rfl, by omega, rfl, xs[dn], by rw [List.getElem?_eq_getElem hi], rfl, rfl, hD0⟩⟩)
      · have hsy : pSync ⟨true, (p : Int) - 2 * (dn : Int) - 1, oneB 0 (framesN 0 (xs.take dn) ++ frameN (dn : Int) xs[dn]), fun j => (oneB 0 (framesN 0 (xs.take dn)) j).length⟩ = (0, ⟨true, (p : Int) - 2 * ((dn + 1 : Nat) : Int), oneB 0 (framesN 0 (xs.take (dn + 1))), fun j => (oneB 0 (framesN 0 (xs.take (dn + 1))) j).length⟩) := by
          rw [frames_take hi]
          unfold pSync stepOn
          rw [if_pos (by rw [decide_eq_false hl1]; rfl)]
          show (_, (⟨true, max ((p : Int) - 2 * (dn : Int) - 1 - 1) (-1), _, _⟩ : St)) = _
          rw [show max ((p : Int) - 2 * (dn : Int) - 1 - 1) (-1) = (p : Int) - 2 * ((dn + 1 : Nat) : Int) by omega]
        show DurS (if (pSync ⟨true, (p : Int) - 2 * (dn : Int) - 1, _, _⟩).1 ≠ 0 then _ else _) _ _ _ _ _ _
        rw [hsy, if_neg (fun h => h rfl)]
        exact .inl ⟨rfl, rfl, rfl, rfl, .inl ⟨rfl, rfl, rfl, by omega, rfl⟩⟩
  · rw [log_down (by omega)]
    exact .inr (.inr ⟨rfl, hdn, rfl, rfl, .inr ⟨rfl, by omega, htd, x, hxe, hon, hB, hD⟩⟩)
/-- What is found behind the failure. -/
def DurE (s : St) (keep : Int) (xs : List (List Nat)) (dn td c : Nat) : Prop :=
  dn ≤ c ∧ c ≤ td ∧ c ≤ xs.length ∧ (pOpen (pCrash s [keep] (-1)) 0).1 = 0 ∧ (pOpen (pCrash s [keep] (-1)) 0).2.2 = xs.take c ∧ (pOpen (pCrash s [keep] (-1)) 0).2.1 = stF 0 (xs.take c)
theorem dur_end {s : St} {p : Nat} {xs : List (List Nat)} {dn td : Nat} {up : Bool} (h : DurI s p xs xs.length dn td up) (hx : Shorts xs) (keep : Int) : (up = decide (dn = xs.length)) ∧ ∃ c, DurE s keep xs dn td c := by
  have hxl : ∀ m, ∀ x ∈ xs.take m, x.length ≤ 1000000 := fun m x h => by have := (hx.2 x (List.mem_of_mem_take h)).1; omega
  have hnl : ∀ m, (xs.take m).length ≤ 1000000 := fun m => by rw [List.length_take]; have := hx.1; omega
  rcases h with ⟨rfl, e1, e2, hp, rfl⟩ | ⟨rfl, hdn, htd, x, hxe, hon, hB, hD⟩
  · subst e1 e2
    refine ⟨(decide_eq_true rfl).symm, xs.length, Nat.le_refl _, Nat.le_refl _, Nat.le_refl _, ?_⟩
    have hc := crash_one (k := 0) (by decide) (framesN 0 (xs.take xs.length)) true ((p : Int) - 2 * (xs.length : Int)) (fun j => (oneB 0 (framesN 0 (xs.take xs.length)) j).length) [keep] (-1)
    have hz : crashL (framesN 0 (xs.take xs.length)) (oneB 0 (framesN 0 (xs.take xs.length)) 0).length (keepAt [keep] 0) (-1) = framesN 0 (xs.take xs.length) ++ [] := by
      rw [oneB_at]
      unfold crashL
      rw [if_neg (by omega), List.append_nil]
      exact List.take_of_length_le (by omega)
    rw [hz] at hc
    obtain ⟨o1, o2, o3⟩ := open_st (k := 0) (by decide) (s := pCrash ⟨true, (p : Int) - 2 * (xs.length : Int), oneB 0 (framesN 0 (xs.take xs.length)), fun j => (oneB 0 (framesN 0 (xs.take xs.length)) j).length⟩ [keep] (-1)) rfl rfl hc (hxl _) (hnl _)
    rw [scanP_nil, List.map_nil, List.append_nil] at o2
    rw [scanP_nil, List.take_nil, List.append_nil] at o3
    exact ⟨o1, o2, o3⟩
  · have hdl : dn < xs.length := by
      rcases Nat.lt_or_ge dn xs.length with h | h
      · exact h
      · rw [List.getElem?_eq_none h] at hxe; cases hxe
    have hxx : xs[dn] = x := by rw [List.getElem?_eq_getElem hdl] at hxe; injection hxe
    have hxs := (hx.2 x (by rw [← hxx]; exact List.getElem_mem hdl)).1
    refine ⟨(decide_eq_false (by omega)).symm, ?_⟩
    obtain ⟨on, left, B, D⟩ := s
    have hB' : B = oneB 0 (framesN 0 (xs.take dn) ++ frameN (dn : Int) x) := hB
    subst hB'
    have hc := crash_one (k := 0) (by decide) (framesN 0 (xs.take dn) ++ frameN (dn : Int) x) on left D [keep] (-1)
    have hD' : D 0 = (framesN 0 (xs.take dn)).length := hD
    rw [hD'] at hc
    obtain ⟨m, hm, hz⟩ : ∃ m, m ≤ (frameN (dn : Int) x).length ∧ crashL (framesN 0 (xs.take dn) ++ frameN (dn : Int) x) (framesN 0 (xs.take dn)).length (keepAt [keep] 0) (-1) = framesN 0 (xs.take dn) ++ (frameN (dn : Int) x).take m := by
      refine ⟨min (lostN (keepAt [keep] 0) ((framesN 0 (xs.take dn) ++ frameN (dn : Int) x).length - (framesN 0 (xs.take dn)).length)) (frameN (dn : Int) x).length, Nat.min_le_right _ _, ?_⟩
      unfold crashL
      rw [if_neg (by omega), List.take_append, List.take_of_length_le (by omega)]
      congr 1
      rw [show (framesN 0 (xs.take dn)).length + lostN (keepAt [keep] 0) ((framesN 0 (xs.take dn) ++ frameN (dn : Int) x).length - (framesN 0 (xs.take dn)).length) - (framesN 0 (xs.take dn)).length = lostN (keepAt [keep] 0) ((framesN 0 (xs.take dn) ++ frameN (dn : Int) x).length - (framesN 0 (xs.take dn)).length) by omega]
      rw [List.take_eq_take_min]
    rw [hz] at hc
    by_cases hfull : m = (frameN (dn : Int) x).length
    · refine ⟨dn + 1, by omega, by omega, hdl, ?_⟩
      rw [hfull, List.take_of_length_le (Nat.le_refl _)] at hc
      have ef : framesN 0 (xs.take dn) ++ frameN (dn : Int) x = framesN 0 (xs.take (dn + 1)) ++ [] := by rw [List.append_nil, frames_take hdl, hxx]
      have hc2 := hc.trans (congrArg (oneB 0) ef)
      obtain ⟨o1, o2, o3⟩ := open_st (k := 0) (xs := xs.take (dn + 1)) (t := []) (by decide) (s := pCrash ⟨on, left, oneB 0 (framesN 0 (xs.take dn) ++ frameN (dn : Int) x), D⟩ [keep] (-1)) rfl rfl hc2 (hxl _) (hnl _)
      rw [scanP_nil, List.map_nil, List.append_nil] at o2
      rw [scanP_nil, List.take_nil, List.append_nil] at o3
      exact ⟨o1, o2, o3⟩
    · refine ⟨dn, Nat.le_refl _, by omega, by omega, ?_⟩
      obtain ⟨o1, o2, o3⟩ := open_st (k := 0) (by decide) (s := pCrash ⟨on, left, oneB 0 (framesN 0 (xs.take dn) ++ frameN (dn : Int) x), D⟩ [keep] (-1)) rfl rfl hc (hxl _) (hnl _)
      have hl : (xs.take dn).length = dn := by rw [List.length_take]; omega
      have hsh := scan_short (n := dn) (by have := hx.1; omega) (x := x) (by omega) (m := m) (by omega)
      rw [hl, hsh] at o2 o3
      rw [List.map_nil, List.append_nil] at o2
      rw [List.map_nil, List.sum_nil, List.take_zero, List.append_nil] at o3
      exact ⟨o1, o2, o3⟩
/-- The log goes on. -/
def DurG (ys : List (List Nat)) (b : List Nat) : Prop :=
  (pLog 5000 (stF 0 ys) 0 ⟨ys.length, true⟩ b).1 = 0 ∧ (pLog 5000 (stF 0 ys) 0 ⟨ys.length, true⟩ b).2.1 = stF 0 (ys ++ [b]) ∧ (pOpen (stF 0 (ys ++ [b])) 0).1 = 0 ∧ (pOpen (stF 0 (ys ++ [b])) 0).2.2 = ys ++ [b]
theorem dur_go {ys : List (List Nat)} (hy : Shorts ys) {b : List Nat} (hb : b.length ≤ 50) : DurG ys b := by
  have hfl := framesN_le ys 0 (fun x h => (hy.2 x h).1) (by have := hy.1; omega)
  have hf := frameN_len (n := (ys.length : Int)) (b := b) (by have := hy.1; omega) (by omega)
  have h : pLog 5000 (stF 0 ys) 0 ⟨ys.length, true⟩ b = (0, stF 0 (ys ++ [b]), ⟨ys.length + 1, true⟩) := log_ok (room := 5000) (k := 0) (by decide) (s := stF 0 ys) (kept := ys) rfl rfl rfl (b := b) (by omega) (by have := hy.1; omega)
  obtain ⟨o1, o2, _⟩ := open_one (k := 0) (by decide) (s := stF 0 (ys ++ [b])) (xs := ys ++ [b]) (t := []) rfl rfl (by rw [List.append_nil]; rfl) (fun x hx => by
    rcases List.mem_append.1 hx with h | h
    · have := (hy.2 x h).1; omega
    · rw [List.mem_singleton.1 h]; omega) (by rw [List.length_append]; have := hy.1; simp; omega)
  rw [scanP_nil, List.map_nil, List.append_nil] at o2
  unfold DurG
  rw [h]
  exact ⟨rfl, rfl, o1, o2⟩
theorem dur_start (xs : List (List Nat)) (q : Nat) : DurI (pArm (stF 0 []) (q : Int)) q xs 0 0 0 true := by
  refine .inl ⟨rfl, rfl, rfl, by omega, ?_⟩
  have h : armL true (-1) (q : Int) = (q : Int) - 2 * ((0 : Nat) : Int) := by
    unfold armL
    simp
    try omega
  show (⟨true, armL true (-1) (q : Int), _, _⟩ : St) = _
  rw [h]
  rfl
theorem around_13 (n : Int) : ∃ q : Nat, aroundI n 13 = (q : Int) ∧ q < 13 := by
  have h1 := Int.emod_nonneg (if n < 0 then -(n + 1) else n) (show ((13 : Nat) : Int) ≠ 0 by omega)
  have h2 := Int.emod_lt_of_pos (if n < 0 then -(n + 1) else n) (show (0 : Int) < ((13 : Nat) : Int) by omega)
  unfold aroundI
  exact ⟨((if n < 0 then -(n + 1) else n) % ((13 : Nat) : Int)).toNat, by omega, by omega⟩
theorem fresh_spanJ {B : Nat} {e : TypeId} {k : IntKind} {w : World} {v : Value} {zs : List Int} (h : Fresh B e k w v zs) : ∀ j, blockOf v j → B ≤ j ∧ j < w.heap.size := by
  intro j hj
  rcases h.2 with ⟨rfl, _⟩ | ⟨g, cap, cur, rfl, hb, h3, _⟩
  · exact hj.elim
  · have : j = g := hj
    subst this
    exact ⟨hb, (Array.getElem?_eq_some_iff.1 h3).1⟩
theorem shorts_take {xs : List (List Nat)} (h : Shorts xs) (c : Nat) : Shorts (xs.take c) := ⟨by rw [List.length_take]; have := h.1; omega, fun x hx => h.2 x (List.mem_of_mem_take hx)⟩

set_option maxHeartbeats 16000000 in
theorem walk_JournalDurable (vl : Value) (l : List Int) (wh keep : Int) (vn : Value) (next : List Int) (w : World) (hvl : Row .i64 w vl l) (hlr : ∀ n ∈ l, -9223372036854775808 ≤ n ∧ n ≤ 9223372036854775807)
    (hwh : -9223372036854775808 ≤ wh ∧ wh ≤ 9223372036854775807) (hkeep : -9223372036854775808 ≤ keep ∧ keep ≤ 9223372036854775807) (hvn : Row .u8 w vn next) (hn : ∀ n ∈ next, 0 ≤ n ∧ n ≤ 255) :
    Calls Try.prog 3 #[vl, .int .i64 wh, .int .i64 keep, vn] w fun e w' => e = .returned (.bool true) ∧ Below w.heap.size w w' := by
  have HVL := Lib.hid hvl
  have HLR := Lib.hid hlr
  have HVN := Lib.hid hvn
  have HKP := Lib.hid hkeep
  have HWH := Lib.hid hwh
  obtain ⟨hbs, h8⟩ := natI_toNats2 (zs := next.take 50) (fun n h => hn n (List.mem_of_mem_take h))
  have hl50 : (toNats (next.take 50)).length ≤ 50 := by rw [toNats_length, List.length_take]; omega
  generalize toNats (next.take 50) = own at *
  have HBS := Lib.hid hbs
  have H8 := Lib.hid h8
  have HL5 := Lib.hid hl50
  obtain ⟨q, hq, hq13⟩ := around_13 wh
  have HQ : Hid (aroundI wh (13 : Nat) = (q : Int)) := Lib.hid hq
  obtain ⟨on1, on2, on3⟩ := open_new (k := 0) (by decide)
  have HN1 : Hid ((pOpen pNew 0).1 = 0) := Lib.hid on1
  have HN2 : Hid ((pOpen pNew 0).2.2 = []) := Lib.hid on2
  have HN3 : Hid ((pOpen pNew 0).2.1 = stF 0 []) := Lib.hid on3
  clear hvl hlr hvn hn hkeep hwh hbs h8 hl50 hq on1 on2 on3
  go_enter Try.func3, Try.ntmps3
  go_wp2_with fail
  refine (fresh06_any 5000 w (by decide)).mono ?_
  rintro e w1 ⟨d, A1, rfl, hd, hb⟩
  have D1 := Lib.hid hd
  have B1 := Lib.hid hb
  clear hd hb
  go_wp2_with fail
  refine (open_any D1.out B1.out.size 0 (by decide)).mono ?_
  rintro e w2 ⟨A2, lv, rv, us2, rfl, ho⟩
  rw [HN1.out]
  obtain ⟨g, rfl, hj, hg1, hg2, hg3, _⟩ := ho.good HN1.out
  have D2 : Hid (Dsk w.heap.size w2 A2 d 5000 (stF 0 [])) := Lib.hid (by rw [← HN3.out]; exact ho.dk)
  have J2 : Hid (Jl w2 g d 0 0 true) := Lib.hid (by rw [HN2.out] at hj; exact hj)
  have G2 := Lib.hid (And.intro hg3 (Nat.le_trans B1.out.size hg1))
  have B2 := Lib.hid (B1.out.trans ho.below)
  clear ho hj hg1 hg2 hg3 D1 B1 HN1 HN2 HN3
  go_wp2_with fail
  refine (around_any wh 13 w2 HWH.out (by decide) (by decide)).mono ?_
  rintro e w0 ⟨rfl, rfl⟩
  rw [HQ.out]
  go_wp2_with fail
  refine (armS_any D2.out.dk q (by omega)).mono ?_
  rintro e w22 ⟨rfl, hu⟩
  obtain ⟨A22, hd, hk, hf, hb⟩ := D2.out.up hu B2.out.size
  have D22 := Lib.hid hd
  have J22 : Hid (Jl w22 g d 0 0 true) := Lib.hid (Laid.keeps J2.out hk G2.out.1)
  have G22 : Hid (¬ A22 g ∧ w.heap.size ≤ g) := Lib.hid ⟨fun hA => (hf g hA).elim G2.out.1 (fun h => by have := J2.out.lt; omega), G2.out.2⟩
  have B22 := Lib.hid (B2.out.trans hb)
  clear hu hd hk hf hb D2 J2 G2 B2
  go_wp2_with fail
  refine (records_new vl l w22 (row_keeps HVL.out B22.out) HLR.out).mono ?_
  rintro e w3 ⟨u, us, xs, rfl, hlo, hsh, hb, hlw⟩
  have D3 := Lib.hid (D22.out.below hb)
  have J3 : Hid (Jl w3 g d 0 0 true) := Lib.hid (Laid.below J22.out hb)
  obtain ⟨ua, uc, rfl⟩ : ∃ ua uc, u = .slice ua us.length uc := by
    rcases hlo.own.2 with ⟨h1, h2⟩ | ⟨g, cap, cur, h1, _⟩
    · exact ⟨none, 0, by rw [h1, h2]⟩
    · exact ⟨_, cap, h1⟩
  have X3 : Hid (XsIs w22.heap.size w3.heap.size w3 (.slice ua us.length uc) us xs) := Lib.hid ⟨hlo, fun k hk => (hlo.own.lt k hk).2, fun y hy k hk => ⟨hlw y hy k hk, hlo.lt y hy k hk⟩⟩
  have XL := Lib.hid hlo.len
  have HSH := Lib.hid hsh
  have B3 := Lib.hid (B22.out.trans (hb.mono B22.out.size))
  have G3 : Hid (Gap w22.heap.size w3.heap.size A22 ∧ ¬ A22 g ∧ w.heap.size ≤ g ∧ g < w22.heap.size) := Lib.hid ⟨fun k hk => .inl (D22.out.hi k hk), G22.out.1, G22.out.2, J22.out.lt⟩
  have S3 := Lib.hid (Nat.le_refl w3.heap.size)
  have SZ := Lib.hid hb.size
  have hn6 : us.length ≤ 6 := by rw [hlo.len]; exact hsh.1
  have I3 := Lib.hid (dur_start xs q)
  have hucl : us.length ≤ uc := by
    obtain ⟨a9, c9, h91, h92, _⟩ := (lrow_of_own hlo).form
    injection h91 with _ _ h93
    omega
  have HUC := Lib.hid hucl
  generalize pArm (stF 0 []) (q : Int) = s0 at *
  clear hlo hsh hb hlw D22 J22 G22 B22 hucl
  go_wp2_with fail
  go_loopw [14, 15, 16] (fun s14 s15 s16 wr => ∃ (i dn td : Nat) (up : Bool) (s : St) (A : Foot), s16 = .int .i64 (i : Int) ∧ s14 = .int .i64 (dn : Int) ∧ s15 = .int .i64 (td : Int) ∧ i ≤ us.length ∧ dn ≤ i ∧ Hid (DurI s q xs i dn td up) ∧ Hid (Dsk w.heap.size wr A d 5000 s) ∧ Hid (Jl wr g d 0 dn up) ∧ Hid (Gap w22.heap.size w3.heap.size A ∧ ¬ A g ∧ w.heap.size ≤ g ∧ g < w22.heap.size) ∧ Hid (XsIs w22.heap.size w3.heap.size wr (.slice ua us.length uc) us xs) ∧ Hid (Below w.heap.size w wr) ∧ Hid (w3.heap.size ≤ wr.heap.size)) (fun _ _ s16 _ => us.length - (intOf s16).toNat)
  case atStart => exact ⟨0, 0, 0, true, s0, A22, rfl, rfl, rfl, Nat.zero_le _, Nat.le_refl _, I3, D3, J3, G3, X3, B3, S3⟩
  case round =>
    obtain ⟨i, dn, td, up, s, A, rfl, rfl, rfl, hi, hdi, HI, HD, HJ, HG, HX, HB, HS⟩ := hrel
    clear D3 J3 G3 X3 B3 S3 I3
    by_cases hlt : i < us.length
    · have hxi : i < xs.length := by rw [← XL.out]; exact hlt
      obtain ⟨bb, off, y, rfl, hcy, hry, hby⟩ := HX.out.get hlt
      have HDS := Lib.hid (dur_step HI.out HSH.out hxi)
      have hx8 := HSH.out.2 (xs[i]) (List.getElem_mem hxi)
      have HY := Lib.hid (And.intro hry (And.intro hby hx8))
      clear hry hby hx8 HI
      go_wp2_with fail
      refine (logAppend_any (g := ⟨dn, up⟩) HD.out HB.out.size HJ.out HG.out.2.1 HG.out.2.2.1 (by show dn ≤ 1000000; omega) HY.out.1 HY.out.2.2.2 HY.out.2.1 (by have := HY.out.2.2.1; omega)).mono ?_
      generalize pLog 5000 s 0 ⟨dn, up⟩ (xs[i]) = z at *
      rintro e w4 ⟨rfl, A4, ha⟩
      have HD4 : Hid (Dsk w.heap.size w4 A4 d 5000 z.2.1) := Lib.hid ha.dk
      have HG4 : Hid (Gap w22.heap.size w3.heap.size A4 ∧ ¬ A4 g ∧ w.heap.size ≤ g ∧ g < w22.heap.size) := Lib.hid ⟨gap_up HG.out.1 ha.foot HS.out, ha.far, HG.out.2.2⟩
      have HX4 := Lib.hid (HX.out.keeps ha.keeps (fun k hk => hk.elim (HG.out.1 k) (fun h => .inl (by rw [h]; exact HG.out.2.2.2))))
      have HB4 := Lib.hid (HB.out.trans ha.below)
      have HS4 := Lib.hid (Nat.le_trans HS.out ha.keeps.size)
      have hlg := ha.lg
      rcases HDS.out with ⟨rfl, hdn, hc, hg, hI⟩ | ⟨rfl, hdn, hc, hg, hI⟩ | ⟨rfl, hdn, hc, hg, hI⟩
      · rw [hc]
        have HJ4 : Hid (Jl w4 g d 0 (i + 1) true) := Lib.hid (by rw [hg] at hlg; exact hlg)
        have HI4 := Lib.hid hI
        clear ha hlg hc hg hI HDS HY HD HJ HG HX HB HS hcy
        subst hdn
        go_wp2_with fail
        exact ⟨⟨dn + 1, dn + 1, dn + 1, true, z.2.1, A4, by rw [Int.natCast_add]; rfl, by rw [Int.natCast_add]; rfl, by rw [Int.natCast_add]; rfl, by omega, by omega, HI4, HD4, HJ4, HG4, HX4, HB4, HS4⟩, by simp only [intOf]; omega⟩
      · rw [hc]
        have HJ4 : Hid (Jl w4 g d 0 i false) := Lib.hid (by rw [hg] at hlg; exact hlg)
        have HI4 := Lib.hid hI
        clear ha hlg hc hg hI HDS HY HD HJ HG HX HB HS hcy
        subst hdn
        go_wp2_with fail
        exact ⟨⟨dn + 1, dn, dn + 1, false, z.2.1, A4, by rw [Int.natCast_add]; rfl, rfl, by rw [Int.natCast_add]; rfl, by omega, by omega, HI4, HD4, HJ4, HG4, HX4, HB4, HS4⟩, by simp only [intOf]; omega⟩
      · rw [hc]
        have HJ4 : Hid (Jl w4 g d 0 dn false) := Lib.hid (by rw [hg] at hlg; exact hlg)
        have HI4 := Lib.hid hI
        clear ha hlg hc hg hI HDS HY HD HJ HG HX HB HS hcy
        go_wp2_with fail
        exact ⟨⟨i + 1, dn, td, false, z.2.1, A4, by rw [Int.natCast_add]; rfl, rfl, rfl, by omega, by omega, HI4, HD4, HJ4, HG4, HX4, HB4, HS4⟩, by simp only [intOf]; omega⟩
    · have hie : i = us.length := by omega
      subst hie
      clear hlt hi
      obtain ⟨hup, c, hE⟩ := dur_end (by rw [← XL.out]; exact HI.out) HSH.out keep
      have HE := Lib.hid hE
      rw [← XL.out] at hup
      have hdc : dn ≤ c := hE.1
      have hct : c ≤ td := hE.2.1
      have hcu : c ≤ us.length := by rw [XL.out]; exact hE.2.2.1
      have hcap : c ≤ uc := Nat.le_trans hcu HUC.out
      have htd : td ≤ 7 := by
        rcases HI.out with ⟨_, _, h, _⟩ | ⟨_, h1, h2, _⟩ <;> omega
      clear hE HI
      go_wp2_with fail
      refine (len_any HJ.out).mono ?_
      rintro e w10 ⟨rfl, rfl⟩
      go_wp2_with fail
      refine (up_any HJ.out).mono ?_
      rintro e w11 ⟨rfl, rfl⟩
      have hud : (up = true ∧ dn = us.length) ∨ (up = false ∧ dn < us.length) := by
        by_cases h : dn = us.length
        · exact .inl ⟨by rw [hup]; exact decide_eq_true h, h⟩
        · exact .inr ⟨by rw [hup]; exact decide_eq_false h, by omega⟩
      have D10 := Lib.hid (HD.out.below ((Below.refl _ w11).alloc (Nat.le_refl _) (.cells #[.int .i64 keep] 3)))
      have N10 := Lib.hid HD.out.hi
      have X10 := Lib.hid (HX.out.below ((Below.refl _ w11).alloc (Nat.le_refl _) (.cells #[.int .i64 keep] 3)))
      have B10 := Lib.hid (HB.out.alloc HB.out.size (.cells #[.int .i64 keep] 3))
      have S10 := Lib.hid (Nat.le_trans HS.out ((Below.refl w11.heap.size w11).alloc (Nat.le_refl _) (.cells #[.int .i64 keep] 3)).size)
      have R10 : Hid (Row .i64 (w11.alloc (.cells #[.int .i64 keep] 3)) (.slice (some ⟨w11.heap.size, 0, none⟩) 1 1) [keep]) := Lib.hid (row_of_fresh (fresh_lit w11 0 3 .i64 [keep] (Nat.zero_le _) (by simp)))
      clear hup HD HX HB HS HJ
      rcases hud with ⟨rfl, hdu⟩ | ⟨rfl, hdu⟩
      all_goals
        go_wp2_with fail
        refine (crashS_any D10.out.dk _ [keep] (-1) R10.out (fun j hj hA => by have : j = w11.heap.size := hj; have := N10.out j hA; omega) (fun x hx => by rw [List.mem_singleton.1 hx]; exact HKP.out) (by decide) (by simp)).mono ?_
        rintro e w12 ⟨rfl, hu⟩
        obtain ⟨A12, hd, hk, hf, hb⟩ := D10.out.up hu B10.out.size
        have D12 := Lib.hid hd
        have G12 : Hid (Gap w22.heap.size w3.heap.size A12) := Lib.hid (gap_up HG.out.1 hf S10.out)
        have X12 := Lib.hid (X10.out.keeps hk HG.out.1)
        have B12 := Lib.hid (B10.out.trans hb)
        have HE3 := Lib.hid HE.out.2.2.2
        clear hu hd hk hf hb D10 X10 B10 S10 N10 R10 HE HG
        generalize pCrash s [keep] (-1) = s3 at *
        go_wp2_with fail
        refine (open_any D12.out B12.out.size 0 (by decide)).mono ?_
        rintro e w13 ⟨A13, lv2, rv2, us3, rfl, ho⟩
        obtain ⟨g2, rfl, hj, hg1, hg2, hg3, _⟩ := ho.good HE3.out.1
        rw [HE3.out.1]
        have hol := ho.own
        rw [HE3.out.2.1] at hol hj
        obtain ⟨ys, hys⟩ : ∃ ys, xs.take c = ys := ⟨_, rfl⟩
        have hyl : ys.length = c := by rw [← hys, List.length_take, ← XL.out]; omega
        have hl3 : us3.length = c := by rw [hol.len, hys, hyl]
        obtain ⟨ra, rc, rfl⟩ : ∃ ra rc, rv2 = .slice ra c rc := by
          rcases hol.own.2 with ⟨h1, h2⟩ | ⟨g, cap, cur, h1, _⟩
          · exact ⟨none, 0, by rw [h1, ← hl3, h2]⟩
          · exact ⟨_, cap, by rw [← hl3]; exact h1⟩
        have X13 := Lib.hid (X12.out.keeps ho.keeps G12.out)
        have LR := Lib.hid (lrow_take (lrow_of_own X13.out.own) hcu)
        have LG := Lib.hid (lrow_of_own hol)
        have HL3 := Lib.hid hl3
        have HYS := Lib.hid hys
        have HYL := Lib.hid hyl
        have HSY : Hid (Shorts ys) := Lib.hid (by rw [← hys]; exact shorts_take HSH.out c)
        have D13 : Hid (Dsk w.heap.size w13 A13 d 5000 (stF 0 ys)) := Lib.hid (by rw [← hys, ← HE3.out.2.2]; exact ho.dk)
        have J13 : Hid (Jl w13 g2 d 0 c true) := Lib.hid (by rw [hys, hyl] at hj; exact hj)
        have G13 := Lib.hid (And.intro hg3 (Nat.le_trans B12.out.size hg1))
        have B13 := Lib.hid (B12.out.trans ho.below)
        clear ho hol hj hg1 hg2 hg3 hl3 hys hyl X12 D12 B12 G12 X13 HE3
        go_wp2_with fail
        refine (sameLists_any _ _ us3 _ (xs.take c) (xs.take c) w13 LG.out LR.out (fun x hx => by have := (HSH.out.2 x (List.mem_of_mem_take hx)).1; omega) (fun x hx => by have := (HSH.out.2 x (List.mem_of_mem_take hx)).1; omega) (by rw [HL3.out]; omega) (by rw [List.length_take]; omega)).mono ?_
        rintro e w14 ⟨rfl, hb⟩
        rw [decide_eq_true rfl]
        have D14 := Lib.hid (D13.out.below hb)
        have J14 : Hid (Jl w14 g2 d 0 c true) := Lib.hid (Laid.below J13.out hb)
        have B14 := Lib.hid (B13.out.trans (hb.mono B13.out.size))
        clear hb LR LG HL3 D13 J13 B13
        go_wp2_with fail
        refine (len_any J14.out).mono ?_
        rintro e w15 ⟨rfl, rfl⟩
        go_wp2_with fail
        refine (refFew_any vn next 50 w15 (row_keeps HVN.out B14.out) (by decide)).mono ?_
        rintro e w16 ⟨ov, rfl, hov, hb⟩
        rw [← HBS.out] at hov
        have HO16 := Lib.hid (And.intro (row_of_fresh hov) (fresh_block hov))
        have D16 := Lib.hid (D14.out.below hb)
        have J16 : Hid (Jl w16 g2 d 0 c true) := Lib.hid (Laid.below J14.out hb)
        have B16 := Lib.hid (B14.out.trans (hb.mono B14.out.size))
        obtain ⟨k1, k2, k3, k4⟩ := dur_go HSY.out HL5.out
        rw [HYL.out] at k1 k2
        have HK1 := Lib.hid k1
        have HK2 := Lib.hid k2
        have HK3 := Lib.hid (And.intro k3 k4)
        have OV : Hid (∀ k, blockOf ov k → ¬ A13 k ∧ k ≠ g2 ∧ k < w16.heap.size) := Lib.hid (fun k hk => by
          have h1 := fresh_spanJ hov k hk
          have h2 := J14.out.lt
          exact ⟨fun hA => by have := D14.out.hi k hA; omega, by omega, h1.2⟩)
        clear hov hb k1 k2 k3 k4 D14 J14 B14
        go_wp2_with fail
        refine (logAppend_any (g := ⟨c, true⟩) D16.out B16.out.size J16.out G13.out.1 G13.out.2 (by show c ≤ 1000000; omega) HO16.out.1 H8.out HO16.out.2 (by have := HL5.out; omega)).mono ?_
        rintro e w17 ⟨rfl, A17, ha⟩
        rw [HK1.out]
        have D17 : Hid (Dsk w.heap.size w17 A17 d 5000 (stF 0 (ys ++ [own]))) := Lib.hid (by rw [← HK2.out]; exact ha.dk)
        have B17 := Lib.hid (B16.out.trans ha.below)
        have O17 : Hid (Row .u8 w17 ov (natI own) ∧ ∀ k, blockOf ov k → k < w17.heap.size ∧ ¬ A17 k) := Lib.hid ⟨row_foot HO16.out.1 ha.keeps (fun k hk h => h.elim (OV.out k hk).1 (OV.out k hk).2.1), fun k hk => ⟨Nat.lt_of_lt_of_le (OV.out k hk).2.2 ha.keeps.size, fun hA => (ha.foot k hA).elim (OV.out k hk).1 (fun h => by have := (OV.out k hk).2.2; omega)⟩⟩
        clear ha D16 J16 B16 HO16 HK1 HK2 G13
        go_wp2_with fail
        refine (open_any D17.out B17.out.size 0 (by decide)).mono ?_
        rintro e w18 ⟨A18, lv3, rv3, us4, rfl, ho⟩
        rw [HK3.out.1]
        have hol := ho.own
        rw [HK3.out.2] at hol
        have hl4 : us4.length = c + 1 := by rw [hol.len, List.length_append, HYL.out]; rfl
        have hc4 : c < us4.length := by omega
        have hrw := hol.row c hc4 (by rw [List.length_append, HYL.out]; simp)
        have hgy : (ys ++ [own])[c]'(by rw [List.length_append, HYL.out]; simp) = own := by
          have := HYL.out
          subst this
          simp
        rw [hgy] at hrw
        obtain ⟨la, lc, h1, hcl, _, h4⟩ := (lrow_of_own hol).form
        rw [hl4] at h1
        subst h1
        obtain ⟨b4, off4, rfl, h6⟩ := h4 (fun h => by rw [h] at hl4; simp at hl4)
        have hc6 := h6 c hc4
        generalize us4[c] = y4 at *
        have O18 : Hid (Elems .u8 w18 y4 (natI own) ∧ Elems .u8 w18 ov (natI own)) := Lib.hid ⟨Elems.of_row hrw, Elems.of_row (row_foot O17.out.1 ho.keeps (fun k hk => (O17.out.2 k hk).2))⟩
        have B18 := Lib.hid (B17.out.trans ho.below)
        clear ho hol hl4 hrw hgy h4 h6 hcl D17 B17 O17 HK3
        go_wp2_with fail
        refine (sameBytes_any _ _ (natI own) (natI own) w18 O18.out.1 O18.out.2 (by rw [natI_length]; have := HL5.out; omega) (by rw [natI_length]; have := HL5.out; omega)).mono ?_
        rintro e w19 ⟨rfl, hb⟩
        rw [decide_eq_true rfl]
        have B19 := Lib.hid (B18.out.trans (hb.mono B18.out.size))
        clear hb
        go_wp2_with fail
        refine (lives6_any w19).mono ?_
        rintro e wl ⟨rfl, hb⟩
        have BL := Lib.hid (B19.out.trans (hb.mono B19.out.size))
        clear hb
        go_wp2_with fail
        go_ret
        exact ⟨rfl, BL.out⟩
end Go.Proofs.Ytjapbopdpohebaa
