/-
  The law JournalDurable: what an Append leaves behind a failure of the power.
-/
import Derived.Test.YtjoablphojkimaaGreatDoorJde
namespace Go.Proofs.YtjoablphojkimaaGreatDoor
open Go.RowKit Go.Shelf
set_option linter.unusedVariables false
set_option maxRecDepth 100000

/-- A log opened where records are followed by any bytes. -/
theorem open_st {k : Nat} (hk : k < 64) {s : St} {xs : List (List Nat)} {t : List Nat} (hon : s.on = true) (hl : s.left = -1) (hB : s.B = oneB k (framesN 0 xs ++ t)) (hx : ∀ x ∈ xs, x.length ≤ 1000000) (hn : xs.length ≤ 1000000) :
    (pOpen s (k : Int)).1 = 0 ∧ (pOpen s (k : Int)).2.2 = xs ++ (scanP xs.length t).map Prod.fst ∧ (pOpen s (k : Int)).2.1 = ⟨true, -1, oneB k (framesN 0 xs ++ t.take ((scanP xs.length t).map Prod.snd).sum), fun j => (oneB k (framesN 0 xs ++ t.take ((scanP xs.length t).map Prod.snd).sum) j).length⟩ := by
  obtain ⟨h1, h2⟩ := read_one hk hon hB
  have hsc : scanP 0 (framesN 0 xs ++ t) = pairsN 0 xs ++ scanP xs.length t := by rw [scanP_frames xs 0 t (by omega) hx, Nat.zero_add]
  have hsz : scanSize (framesN 0 xs ++ t) = (framesN 0 xs).length + ((scanP xs.length t).map Prod.snd).sum := by unfold scanSize; rw [hsc, List.map_append, List.sum_append, pairsN_sum]
  have hrc : scanRecs (framesN 0 xs ++ t) = xs ++ (scanP xs.length t).map Prod.fst := by unfold scanRecs; rw [hsc, List.map_append, pairsN_fst]
  have hle := (scanP_sum (framesN 0 xs ++ t).length 0 (framesN 0 xs ++ t) (Nat.le_refl _)).1
  have hle2 : scanSize (framesN 0 xs ++ t) ≤ (framesN 0 xs ++ t).length := hle
  have hcut : ∃ D2, pCutTo s (k : Int) (framesN 0 xs ++ t).length (scanSize (framesN 0 xs ++ t)) = (0, ⟨true, -1, oneB k ((framesN 0 xs ++ t).take (scanSize (framesN 0 xs ++ t))), D2⟩) := by
    unfold pCutTo
    by_cases hc : scanSize (framesN 0 xs ++ t) < (framesN 0 xs ++ t).length
    · rw [if_pos hc]
      exact trunc_one hk hon hl hB hle2
    · rw [if_neg hc, List.take_of_length_le (by omega)]
      obtain ⟨on, left, B, D⟩ := s
      have hon' : on = true := hon
      have hl' : left = -1 := hl
      have hB' : B = oneB k (framesN 0 xs ++ t) := hB
      subst hon' hl' hB'
      exact ⟨D, rfl⟩
  obtain ⟨D2, hcut⟩ := hcut
  have htk : (framesN 0 xs ++ t).take (scanSize (framesN 0 xs ++ t)) = framesN 0 xs ++ t.take ((scanP xs.length t).map Prod.snd).sum := by
    rw [hsz, List.take_append, List.take_of_length_le (by omega)]
    congr 2
    omega
  rw [htk] at hcut
  have hsy := sync_one (s := ⟨true, -1, oneB k (framesN 0 xs ++ t.take ((scanP xs.length t).map Prod.snd).sum), D2⟩) rfl rfl
  unfold pOpen
  rw [h1, h2, hcut, if_neg (fun h => h rfl), if_neg (fun h => h rfl), hsy, if_neg (fun h => h rfl), hrc]
  exact ⟨rfl, rfl, rfl⟩
/-- The beginning of a frame is no frame. -/
theorem scan_short {n : Nat} (hn : n ≤ 1000000) {x : List Nat} (hx : x.length ≤ 1000) {m : Nat} (hm : m < (frameN (n : Int) x).length) : scanP n ((frameN (n : Int) x).take m) = [] := by
  refine scanP_no (fun h => ?_)
  have hl : ((frameN (n : Int) x).take m).length = m := by rw [List.length_take]; omega
  have hfl := frameN_len (n := (n : Int)) (b := x) (natRange hn) (by omega)
  have hy : (headN ((frameN (n : Int) x).take m)).length ≤ 1000000 := by have := headN_len ((frameN (n : Int) x).take m); omega
  generalize headN ((frameN (n : Int) x).take m) = y at *
  obtain ⟨r, hr⟩ := h
  have h1 := next_round (natRange hn) hy (r ++ (frameN (n : Int) x).drop m)
  rw [← List.append_assoc, hr, List.take_append_drop] at h1
  have h2 := next_round (natRange hn) (show x.length ≤ 1000000 by omega) []
  rw [List.append_nil] at h2
  have hxy : x = y := congrArg Prod.fst (h2.symm.trans h1)
  subst hxy
  have := congrArg List.length hr
  rw [List.length_append, hl] at this
  omega
def DurI (s : St) (p : Nat) (xs : List (List Nat)) (i dn td : Nat) (up : Bool) : Prop :=
  (up = true ∧ dn = i ∧ td = i ∧ 2 * i ≤ p ∧ s = ⟨true, (p : Int) - 2 * (i : Int), oneB 0 (framesN 0 (xs.take i)), fun j => (oneB 0 (framesN 0 (xs.take i)) j).length⟩) ∨
  (up = false ∧ dn < i ∧ td = dn + 1 ∧ ∃ x, xs[dn]? = some x ∧ s.on = false ∧ s.B = oneB 0 (framesN 0 (xs.take dn) ++ frameN (dn : Int) x) ∧ s.D 0 = (framesN 0 (xs.take dn)).length)
def DurS (q : Int × St × Lg) (p : Nat) (xs : List (List Nat)) (i dn td : Nat) (up : Bool) : Prop :=
  (up = true ∧ dn = i ∧ q.1 = 0 ∧ q.2.2 = ⟨i + 1, true⟩ ∧ DurI q.2.1 p xs (i + 1) (i + 1) (i + 1) true) ∨
  (up = true ∧ dn = i ∧ q.1 = 23 ∧ q.2.2 = ⟨i, false⟩ ∧ DurI q.2.1 p xs (i + 1) i (i + 1) false) ∨
  (up = false ∧ dn < i ∧ q.1 = 23 ∧ q.2.2 = ⟨dn, false⟩ ∧ DurI q.2.1 p xs (i + 1) dn td false)
theorem oneB_set {k : Nat} (ys zs : List Nat) : setB (oneB k ys) k zs = oneB k zs := by
  funext j
  unfold oneB setB
  by_cases hj : j = k
  · rw [if_pos hj, if_pos hj]
  · rw [if_neg hj, if_neg hj, if_neg hj]
theorem dur_step {s : St} {p : Nat} {xs : List (List Nat)} {i dn td : Nat} {up : Bool} (h : DurI s p xs i dn td up) (hx : Shorts xs) (hi : i < xs.length) : DurS (pLog 5000 s 0 ⟨dn, up⟩ (xs[i])) p xs i dn td up := by
  have h10 := (hx.2 (xs[i]) (List.getElem_mem hi)).1
  rcases h with ⟨rfl, e1, e2, hp, rfl⟩ | ⟨rfl, hdn, htd, x, hxe, hon, hB, hD⟩
  · subst e1
    have e3 := e2.symm
    subst e3
    clear e2
    have hl : (xs.take dn).length = dn := by rw [List.length_take]; omega
    have hfl := framesN_le (xs.take dn) 0 (fun x h => (hx.2 x (List.mem_of_mem_take h)).1) (by have := hx.1; omega)
    have hf := frameN_len (n := (dn : Int)) (b := xs[dn]) (by have := hx.1; omega) (by omega)
    have h6 := hx.1
    have e : setB (oneB 0 (framesN 0 (xs.take dn))) (0 : Int).toNat (oneB 0 (framesN 0 (xs.take dn)) (0 : Int).toNat ++ frameN (dn : Int) xs[dn]) = oneB 0 (framesN 0 (xs.take dn) ++ frameN (dn : Int) xs[dn]) := by
      show setB (oneB 0 (framesN 0 (xs.take dn))) 0 (oneB 0 (framesN 0 (xs.take dn)) 0 ++ _) = _
      rw [oneB_at, oneB_set]
    have ha : pApp 5000 ⟨true, (p : Int) - 2 * (dn : Int), oneB 0 (framesN 0 (xs.take dn)), fun j => (oneB 0 (framesN 0 (xs.take dn)) j).length⟩ 0 (frameN (dn : Int) xs[dn]) =
        pStep ⟨true, (p : Int) - 2 * (dn : Int), oneB 0 (framesN 0 (xs.take dn) ++ frameN (dn : Int) xs[dn]), fun j => (oneB 0 (framesN 0 (xs.take dn)) j).length⟩ := by
      unfold pApp
      rw [isF_true (by decide), if_neg (fun h => by cases h), if_neg (fun h => by cases h), if_neg (by
        show ¬ ¬ sumB (setB (fun _ => []) 0 (framesN 0 (xs.take dn))) + _ ≤ 5000
        rw [sum_one (by decide)]
        exact fun h => h (by omega))]
      show pStep ⟨true, _, setB (oneB 0 (framesN 0 (xs.take dn))) (0 : Int).toNat (oneB 0 (framesN 0 (xs.take dn)) (0 : Int).toNat ++ _), _⟩ = _
      rw [e]
    have hq : pLog 5000 ⟨true, (p : Int) - 2 * (dn : Int), oneB 0 (framesN 0 (xs.take dn)), fun j => (oneB 0 (framesN 0 (xs.take dn)) j).length⟩ 0 ⟨dn, true⟩ xs[dn] =
        if (pStep ⟨true, (p : Int) - 2 * (dn : Int), oneB 0 (framesN 0 (xs.take dn) ++ frameN (dn : Int) xs[dn]), fun j => (oneB 0 (framesN 0 (xs.take dn)) j).length⟩).1 ≠ 0 then ((pStep ⟨true, (p : Int) - 2 * (dn : Int), oneB 0 (framesN 0 (xs.take dn) ++ frameN (dn : Int) xs[dn]), fun j => (oneB 0 (framesN 0 (xs.take dn)) j).length⟩).1, (pStep ⟨true, (p : Int) - 2 * (dn : Int), oneB 0 (framesN 0 (xs.take dn) ++ frameN (dn : Int) xs[dn]), fun j => (oneB 0 (framesN 0 (xs.take dn)) j).length⟩).2, ⟨dn, (pStep ⟨true, (p : Int) - 2 * (dn : Int), oneB 0 (framesN 0 (xs.take dn) ++ frameN (dn : Int) xs[dn]), fun j => (oneB 0 (framesN 0 (xs.take dn)) j).length⟩).1 != 23⟩) else
        if (pSync (pStep ⟨true, (p : Int) - 2 * (dn : Int), oneB 0 (framesN 0 (xs.take dn) ++ frameN (dn : Int) xs[dn]), fun j => (oneB 0 (framesN 0 (xs.take dn)) j).length⟩).2).1 ≠ 0 then ((pSync (pStep ⟨true, (p : Int) - 2 * (dn : Int), oneB 0 (framesN 0 (xs.take dn) ++ frameN (dn : Int) xs[dn]), fun j => (oneB 0 (framesN 0 (xs.take dn)) j).length⟩).2).1, (pSync (pStep ⟨true, (p : Int) - 2 * (dn : Int), oneB 0 (framesN 0 (xs.take dn) ++ frameN (dn : Int) xs[dn]), fun j => (oneB 0 (framesN 0 (xs.take dn)) j).length⟩).2).2, ⟨dn, (pSync (pStep ⟨true, (p : Int) - 2 * (dn : Int), oneB 0 (framesN 0 (xs.take dn) ++ frameN (dn : Int) xs[dn]), fun j => (oneB 0 (framesN 0 (xs.take dn)) j).length⟩).2).1 != 23⟩) else
        (0, (pSync (pStep ⟨true, (p : Int) - 2 * (dn : Int), oneB 0 (framesN 0 (xs.take dn) ++ frameN (dn : Int) xs[dn]), fun j => (oneB 0 (framesN 0 (xs.take dn)) j).length⟩).2).2, ⟨dn + 1, true⟩) := by
      unfold pLog
      rw [if_neg (by omega), if_neg (fun h => by cases h)]
      show (if (pApp 5000 _ 0 (frameN (dn : Int) xs[dn])).1 ≠ 0 then _ else _) = _
      rw [ha]
    rw [hq]
    have hD0 : (oneB 0 (framesN 0 (xs.take dn)) 0).length = (framesN 0 (xs.take dn)).length := by rw [oneB_at]
    by_cases hl0 : (p : Int) - 2 * (dn : Int) = 0
    · have hst : pStep ⟨true, (p : Int) - 2 * (dn : Int), oneB 0 (framesN 0 (xs.take dn) ++ frameN (dn : Int) xs[dn]), fun j => (oneB 0 (framesN 0 (xs.take dn)) j).length⟩ = (23, ⟨false, (p : Int) - 2 * (dn : Int), oneB 0 (framesN 0 (xs.take dn) ++ frameN (dn : Int) xs[dn]), fun j => (oneB 0 (framesN 0 (xs.take dn)) j).length⟩) := by
        unfold pStep stepOn
        rw [if_neg (by rw [decide_eq_true hl0]; show ¬ (false = true); decide)]
      rw [hst, if_pos (by show (23 : Int) ≠ 0; decide)]
      exact .inr (.inl ⟨rfl, rfl, rfl, rfl, .inr ⟨rfl, by omega, rfl, xs[dn], by rw [List.getElem?_eq_getElem hi], rfl, rfl, hD0⟩⟩)
    · have hst : pStep ⟨true, (p : Int) - 2 * (dn : Int), oneB 0 (framesN 0 (xs.take dn) ++ frameN (dn : Int) xs[dn]), fun j => (oneB 0 (framesN 0 (xs.take dn)) j).length⟩ = (0, ⟨true, (p : Int) - 2 * (dn : Int) - 1, oneB 0 (framesN 0 (xs.take dn) ++ frameN (dn : Int) xs[dn]), fun j => (oneB 0 (framesN 0 (xs.take dn)) j).length⟩) := by
        unfold pStep stepOn
        rw [if_pos (by rw [decide_eq_false hl0]; rfl)]
        show (_, (⟨true, max ((p : Int) - 2 * (dn : Int) - 1) (-1), _, _⟩ : St)) = _
        rw [show max ((p : Int) - 2 * (dn : Int) - 1) (-1) = (p : Int) - 2 * (dn : Int) - 1 by omega]
      rw [hst, if_neg (fun h => h rfl)]
      by_cases hl1 : (p : Int) - 2 * (dn : Int) - 1 = 0
      · have hsy : pSync ⟨true, (p : Int) - 2 * (dn : Int) - 1, oneB 0 (framesN 0 (xs.take dn) ++ frameN (dn : Int) xs[dn]), fun j => (oneB 0 (framesN 0 (xs.take dn)) j).length⟩ = (23, ⟨false, (p : Int) - 2 * (dn : Int) - 1, oneB 0 (framesN 0 (xs.take dn) ++ frameN (dn : Int) xs[dn]), fun j => (oneB 0 (framesN 0 (xs.take dn)) j).length⟩) := by
          unfold pSync stepOn
          rw [if_neg (by rw [decide_eq_true hl1]; show ¬ (false = true); decide)]
        show DurS (if (pSync ⟨true, (p : Int) - 2 * (dn : Int) - 1, _, _⟩).1 ≠ 0 then _ else _) _ _ _ _ _ _
        rw [hsy, if_pos (by show (23 : Int) ≠ 0; decide)]
        exact .inr (.inl ⟨rfl, rfl, rfl, rfl, .inr ⟨rfl, by omega, rfl, xs[dn], by rw [List.getElem?_eq_getElem hi], rfl, rfl, hD0⟩⟩)
      · have hsy : pSync ⟨true, (p : Int) - 2 * (dn : Int) - 1, oneB 0 (framesN 0 (xs.take dn) ++ frameN (dn : Int) xs[dn]), fun j => (oneB 0 (framesN 0 (xs.take dn)) j).length⟩ = (0, ⟨true, (p : Int) - 2 * ((dn + 1 : Nat) : Int), oneB 0 (framesN 0 (xs.take (dn + 1))), fun j => (oneB 0 (framesN 0 (xs.take (dn + 1))) j).length⟩) := by
          rw [frames_take hi]
          unfold pSync stepOn
          rw [if_pos (by rw [decide_eq_false hl1]; rfl)]
          show (_, (⟨true, max ((p : Int) - 2 * (dn : Int) - 1 - 1) (-1), _, _⟩ : St)) = _
          rw [show max ((p : Int) - 2 * (dn : Int) - 1 - 1) (-1) = (p : Int) - 2 * ((dn + 1 : Nat) : Int) by omega]
        show DurS (if (pSync ⟨true, (p : Int) - 2 * (dn : Int) - 1, _, _⟩).1 ≠ 0 then _ else _) _ _ _ _ _ _
        rw [hsy, if_neg (fun h => h rfl)]
        exact .inl ⟨rfl, rfl, rfl, rfl, .inl ⟨rfl, rfl, rfl, by omega, rfl⟩⟩
  · rw [log_down (by omega)]
    exact .inr (.inr ⟨rfl, hdn, rfl, rfl, .inr ⟨rfl, by omega, htd, x, hxe, hon, hB, hD⟩⟩)
/-- What is found behind the failure. -/
def DurE (s : St) (keep : Int) (xs : List (List Nat)) (dn td c : Nat) : Prop :=
  dn ≤ c ∧ c ≤ td ∧ c ≤ xs.length ∧ (pOpen (pCrash s [keep] (-1)) 0).1 = 0 ∧ (pOpen (pCrash s [keep] (-1)) 0).2.2 = xs.take c ∧ (pOpen (pCrash s [keep] (-1)) 0).2.1 = stF 0 (xs.take c)
theorem dur_end {s : St} {p : Nat} {xs : List (List Nat)} {dn td : Nat} {up : Bool} (h : DurI s p xs xs.length dn td up) (hx : Shorts xs) (keep : Int) : (up = decide (dn = xs.length)) ∧ ∃ c, DurE s keep xs dn td c := by
  have hxl : ∀ m, ∀ x ∈ xs.take m, x.length ≤ 1000000 := fun m x h => by have := (hx.2 x (List.mem_of_mem_take h)).1; omega
  have hnl : ∀ m, (xs.take m).length ≤ 1000000 := fun m => by rw [List.length_take]; have := hx.1; omega
  rcases h with ⟨rfl, e1, e2, hp, rfl⟩ | ⟨rfl, hdn, htd, x, hxe, hon, hB, hD⟩
  · subst e1 e2
    refine ⟨(decide_eq_true rfl).symm, xs.length, Nat.le_refl _, Nat.le_refl _, Nat.le_refl _, ?_⟩
    have hc := crash_one (k := 0) (by decide) (framesN 0 (xs.take xs.length)) true ((p : Int) - 2 * (xs.length : Int)) (fun j => (oneB 0 (framesN 0 (xs.take xs.length)) j).length) [keep] (-1)
    have hz : crashL (framesN 0 (xs.take xs.length)) (oneB 0 (framesN 0 (xs.take xs.length)) 0).length (keepAt [keep] 0) (-1) = framesN 0 (xs.take xs.length) ++ [] := by
      rw [oneB_at]
      unfold crashL
      rw [if_neg (by omega), List.append_nil]
      exact List.take_of_length_le (by omega)
    rw [hz] at hc
    obtain ⟨o1, o2, o3⟩ := open_st (k := 0) (by decide) (s := pCrash ⟨true, (p : Int) - 2 * (xs.length : Int), oneB 0 (framesN 0 (xs.take xs.length)), fun j => (oneB 0 (framesN 0 (xs.take xs.length)) j).length⟩ [keep] (-1)) rfl rfl hc (hxl _) (hnl _)
    rw [scanP_nil, List.map_nil, List.append_nil] at o2
    rw [scanP_nil, List.take_nil, List.append_nil] at o3
    exact ⟨o1, o2, o3⟩
  · have hdl : dn < xs.length := by
      rcases Nat.lt_or_ge dn xs.length with h | h
      · exact h
      · rw [List.getElem?_eq_none h] at hxe; cases hxe
    have hxx : xs[dn] = x := by rw [List.getElem?_eq_getElem hdl] at hxe; injection hxe
    have hxs := (hx.2 x (by rw [← hxx]; exact List.getElem_mem hdl)).1
    refine ⟨(decide_eq_false (by omega)).symm, ?_⟩
    obtain ⟨on, left, B, D⟩ := s
    have hB' : B = oneB 0 (framesN 0 (xs.take dn) ++ frameN (dn : Int) x) := hB
    subst hB'
    have hc := crash_one (k := 0) (by decide) (framesN 0 (xs.take dn) ++ frameN (dn : Int) x) on left D [keep] (-1)
    have hD' : D 0 = (framesN 0 (xs.take dn)).length := hD
    rw [hD'] at hc
    obtain ⟨m, hm, hz⟩ : ∃ m, m ≤ (frameN (dn : Int) x).length ∧ crashL (framesN 0 (xs.take dn) ++ frameN (dn : Int) x) (framesN 0 (xs.take dn)).length (keepAt [keep] 0) (-1) = framesN 0 (xs.take dn) ++ (frameN (dn : Int) x).take m := by
      refine ⟨min (lostN (keepAt [keep] 0) ((framesN 0 (xs.take dn) ++ frameN (dn : Int) x).length - (framesN 0 (xs.take dn)).length)) (frameN (dn : Int) x).length, Nat.min_le_right _ _, ?_⟩
      unfold crashL
      rw [if_neg (by omega), List.take_append, List.take_of_length_le (by omega)]
      congr 1
      rw [show (framesN 0 (xs.take dn)).length + lostN (keepAt [keep] 0) ((framesN 0 (xs.take dn) ++ frameN (dn : Int) x).length - (framesN 0 (xs.take dn)).length) - (framesN 0 (xs.take dn)).length = lostN (keepAt [keep] 0) ((framesN 0 (xs.take dn) ++ frameN (dn : Int) x).length - (framesN 0 (xs.take dn)).length) by omega]
      rw [List.take_eq_take_min]
    rw [hz] at hc
    by_cases hfull : m = (frameN (dn : Int) x).length
    · refine ⟨dn + 1, by omega, by omega, hdl, ?_⟩
      rw [hfull, List.take_of_length_le (Nat.le_refl _)] at hc
      have ef : framesN 0 (xs.take dn) ++ frameN (dn : Int) x = framesN 0 (xs.take (dn + 1)) ++ [] := by rw [List.append_nil, frames_take hdl, hxx]
      have hc2 := hc.trans (congrArg (oneB 0) ef)
      obtain ⟨o1, o2, o3⟩ := open_st (k := 0) (xs := xs.take (dn + 1)) (t := []) (by decide) (s := pCrash ⟨on, left, oneB 0 (framesN 0 (xs.take dn) ++ frameN (dn : Int) x), D⟩ [keep] (-1)) rfl rfl hc2 (hxl _) (hnl _)
      rw [scanP_nil, List.map_nil, List.append_nil] at o2
      rw [scanP_nil, List.take_nil, List.append_nil] at o3
      exact ⟨o1, o2, o3⟩
    · refine ⟨dn, Nat.le_refl _, by omega, by omega, ?_⟩
      obtain ⟨o1, o2, o3⟩ := open_st (k := 0) (by decide) (s := pCrash ⟨on, left, oneB 0 (framesN 0 (xs.take dn) ++ frameN (dn : Int) x), D⟩ [keep] (-1)) rfl rfl hc (hxl _) (hnl _)
      have hl : (xs.take dn).length = dn := by rw [List.length_take]; omega
      have hsh := scan_short (n := dn) (by have := hx.1; omega) (x := x) (by omega) (m := m) (by omega)
      rw [hl, hsh] at o2 o3
      rw [List.map_nil, List.append_nil] at o2
      rw [List.map_nil, List.sum_nil, List.take_zero, List.append_nil] at o3
      exact ⟨o1, o2, o3⟩
/-- The log goes on. -/
def DurG (ys : List (List Nat)) (b : List Nat) : Prop :=
  (pLog 5000 (stF 0 ys) 0 ⟨ys.length, true⟩ b).1 = 0 ∧ (pLog 5000 (stF 0 ys) 0 ⟨ys.length, true⟩ b).2.1 = stF 0 (ys ++ [b]) ∧ (pOpen (stF 0 (ys ++ [b])) 0).1 = 0 ∧ (pOpen (stF 0 (ys ++ [b])) 0).2.2 = ys ++ [b]
theorem dur_go {ys : List (List Nat)} (hy : Shorts ys) {b : List Nat} (hb : b.length ≤ 50) : DurG ys b := by
  have hfl := framesN_le ys 0 (fun x h => (hy.2 x h).1) (by have := hy.1; omega)
  have hf := frameN_len (n := (ys.length : Int)) (b := b) (by have := hy.1; omega) (by omega)
  have h : pLog 5000 (stF 0 ys) 0 ⟨ys.length, true⟩ b = (0, stF 0 (ys ++ [b]), ⟨ys.length + 1, true⟩) := log_ok (room := 5000) (k := 0) (by decide) (s := stF 0 ys) (kept := ys) rfl rfl rfl (b := b) (by omega) (by have := hy.1; omega)
  obtain ⟨o1, o2, _⟩ := open_one (k := 0) (by decide) (s := stF 0 (ys ++ [b])) (xs := ys ++ [b]) (t := []) rfl rfl (by rw [List.append_nil]; rfl) (fun x hx => by
    rcases List.mem_append.1 hx with h | h
    · have := (hy.2 x h).1; omega
    · rw [List.mem_singleton.1 h]; omega) (by rw [List.length_append]; have := hy.1; simp; omega)
  rw [scanP_nil, List.map_nil, List.append_nil] at o2
  unfold DurG
  rw [h]
  exact ⟨rfl, rfl, o1, o2⟩
theorem dur_start (xs : List (List Nat)) (q : Nat) : DurI (pArm (stF 0 []) (q : Int)) q xs 0 0 0 true := by
  refine .inl ⟨rfl, rfl, rfl, by omega, ?_⟩
  have h : armL true (-1) (q : Int) = (q : Int) - 2 * ((0 : Nat) : Int) := by
    unfold armL
    simp
    try omega
  show (⟨true, armL true (-1) (q : Int), _, _⟩ : St) = _
  rw [h]
  rfl
theorem around_13 (n : Int) : ∃ q : Nat, aroundI n 13 = (q : Int) ∧ q < 13 := by
  have h1 := Int.emod_nonneg (if n < 0 then -(n + 1) else n) (show ((13 : Nat) : Int) ≠ 0 by omega)
  have h2 := Int.emod_lt_of_pos (if n < 0 then -(n + 1) else n) (show (0 : Int) < ((13 : Nat) : Int) by omega)
  unfold aroundI
  exact ⟨((if n < 0 then -(n + 1) else n) % ((13 : Nat) : Int)).toNat, by omega, by omega⟩
theorem fresh_spanJ {B : Nat} {e : TypeId} {k : IntKind} {w : World} {v : Value} {zs : List Int} (h : Fresh B e k w v zs) : ∀ j, blockOf v j → B ≤ j ∧ j < w.heap.size := by
  intro j hj
  rcases h.2 with ⟨rfl, _⟩ | ⟨g, cap, cur, rfl, hb, h3, _⟩
  · exact hj.elim
  · have : j = g := hj
    subst this
    exact ⟨hb, (Array.getElem?_eq_some_iff.1 h3).1⟩
theorem shorts_take {xs : List (List Nat)} (h : Shorts xs) (c : Nat) : Shorts (xs.take c) := ⟨by rw [List.length_take]; have := h.1; omega, fun x hx => h.2 x (List.mem_of_mem_take hx)⟩

end Go.Proofs.YtjoablphojkimaaGreatDoor
