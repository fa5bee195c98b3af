/-
  JournalReplays: what an Append leaves behind a failure of the power: file 1, room 20000, records up to 30 bytes (Jdg's lemmas, turned by program).
-/
import Derived.Test.YtjoablphojkimaaGreatDoorJdg
namespace Go.Proofs.YtjoablphojkimaaGreatDoor
open Go.RowKit Go.Shelf
set_option linter.unusedVariables false
set_option maxRecDepth 100000

def Shortz (xss : List (List Nat)) : Prop := xss.length ≤ 6 ∧ ∀ x ∈ xss, x.length ≤ 30 ∧ ∀ c ∈ x, c < 256
theorem framesZ_le : ∀ (xs : List (List Nat)) (n : Nat), (∀ x ∈ xs, x.length ≤ 30) → n + xs.length ≤ 1000000 → (framesN n xs).length ≤ 80 * xs.length
  | [], n, _, _ => by unfold framesN; exact Nat.zero_le _
  | x :: t, n, h, hn => by
    have h1 := framesZ_le t (n + 1) (fun y hy => h y (by simp [hy])) (by rw [List.length_cons] at hn; omega)
    have h2 := frameN_len (n := (n : Int)) (b := x) (by rw [List.length_cons] at hn; omega) (by have := h x (by simp); omega)
    have h3 := h x (by simp)
    unfold framesN
    rw [List.length_append, List.length_cons]
    omega
def DurZ (s : St) (p : Nat) (xs : List (List Nat)) (i dn td : Nat) (up : Bool) : Prop :=
  (up = true ∧ dn = i ∧ td = i ∧ 2 * i ≤ p ∧ s = ⟨true, (p : Int) - 2 * (i : Int), oneB 1 (framesN 0 (xs.take i)), fun j => (oneB 1 (framesN 0 (xs.take i)) j).length⟩) ∨
  (up = false ∧ dn < i ∧ td = dn + 1 ∧ ∃ x, xs[dn]? = some x ∧ s.on = false ∧ s.B = oneB 1 (framesN 0 (xs.take dn) ++ frameN (dn : Int) x) ∧ s.D 1 = (framesN 0 (xs.take dn)).length)
def DurZS (q : Int × St × Lg) (p : Nat) (xs : List (List Nat)) (i dn td : Nat) (up : Bool) : Prop :=
  (up = true ∧ dn = i ∧ q.1 = 0 ∧ q.2.2 = ⟨i + 1, true⟩ ∧ DurZ q.2.1 p xs (i + 1) (i + 1) (i + 1) true) ∨
  (up = true ∧ dn = i ∧ q.1 = 23 ∧ q.2.2 = ⟨i, false⟩ ∧ DurZ q.2.1 p xs (i + 1) i (i + 1) false) ∨
  (up = false ∧ dn < i ∧ q.1 = 23 ∧ q.2.2 = ⟨dn, false⟩ ∧ DurZ q.2.1 p xs (i + 1) dn td false)
theorem durz_step {s : St} {p : Nat} {xs : List (List Nat)} {i dn td : Nat} {up : Bool} (h : DurZ s p xs i dn td up) (hx : Shortz xs) (hi : i < xs.length) : DurZS (pLog 20000 s 1 ⟨dn, up⟩ (xs[i])) p xs i dn td up := by
  have h10 := (hx.2 (xs[i]) (List.getElem_mem hi)).1
  rcases h with ⟨rfl, e1, e2, hp, rfl⟩ | ⟨rfl, hdn, htd, x, hxe, hon, hB, hD⟩
  · subst e1
    have e3 := e2.symm
    subst e3
    clear e2
    have hl : (xs.take dn).length = dn := by rw [List.length_take]; omega
    have hfl := framesZ_le (xs.take dn) 0 (fun x h => (hx.2 x (List.mem_of_mem_take h)).1) (by have := hx.1; omega)
    have hf := frameN_len (n := (dn : Int)) (b := xs[dn]) (by have := hx.1; omega) (by omega)
    have h6 := hx.1
    have e : setB (oneB 1 (framesN 0 (xs.take dn))) (1 : Int).toNat (oneB 1 (framesN 0 (xs.take dn)) (1 : Int).toNat ++ frameN (dn : Int) xs[dn]) = oneB 1 (framesN 0 (xs.take dn) ++ frameN (dn : Int) xs[dn]) := by
      show setB (oneB 1 (framesN 0 (xs.take dn))) 1 (oneB 1 (framesN 0 (xs.take dn)) 1 ++ _) = _
      rw [oneB_at, oneB_set]
    have ha : pApp 20000 ⟨true, (p : Int) - 2 * (dn : Int), oneB 1 (framesN 0 (xs.take dn)), fun j => (oneB 1 (framesN 0 (xs.take dn)) j).length⟩ 1 (frameN (dn : Int) xs[dn]) =
        pStep ⟨true, (p : Int) - 2 * (dn : Int), oneB 1 (framesN 0 (xs.take dn) ++ frameN (dn : Int) xs[dn]), fun j => (oneB 1 (framesN 0 (xs.take dn)) j).length⟩ := by
      unfold pApp
      rw [isF_true (by decide), if_neg (fun h => by cases h), if_neg (fun h => by cases h), if_neg (by
        show ¬ ¬ sumB (setB (fun _ => []) 1 (framesN 0 (xs.take dn))) + _ ≤ 20000
        rw [sum_one (by decide)]
        exact fun h => h (by omega))]
      show pStep ⟨true, _, setB (oneB 1 (framesN 0 (xs.take dn))) (1 : Int).toNat (oneB 1 (framesN 0 (xs.take dn)) (1 : Int).toNat ++ _), _⟩ = _
      rw [e]
    have hq : pLog 20000 ⟨true, (p : Int) - 2 * (dn : Int), oneB 1 (framesN 0 (xs.take dn)), fun j => (oneB 1 (framesN 0 (xs.take dn)) j).length⟩ 1 ⟨dn, true⟩ xs[dn] =
        if (pStep ⟨true, (p : Int) - 2 * (dn : Int), oneB 1 (framesN 0 (xs.take dn) ++ frameN (dn : Int) xs[dn]), fun j => (oneB 1 (framesN 0 (xs.take dn)) j).length⟩).1 ≠ 0 then ((pStep ⟨true, (p : Int) - 2 * (dn : Int), oneB 1 (framesN 0 (xs.take dn) ++ frameN (dn : Int) xs[dn]), fun j => (oneB 1 (framesN 0 (xs.take dn)) j).length⟩).1, (pStep ⟨true, (p : Int) - 2 * (dn : Int), oneB 1 (framesN 0 (xs.take dn) ++ frameN (dn : Int) xs[dn]), fun j => (oneB 1 (framesN 0 (xs.take dn)) j).length⟩).2, ⟨dn, (pStep ⟨true, (p : Int) - 2 * (dn : Int), oneB 1 (framesN 0 (xs.take dn) ++ frameN (dn : Int) xs[dn]), fun j => (oneB 1 (framesN 0 (xs.take dn)) j).length⟩).1 != 23⟩) else
        if (pSync (pStep ⟨true, (p : Int) - 2 * (dn : Int), oneB 1 (framesN 0 (xs.take dn) ++ frameN (dn : Int) xs[dn]), fun j => (oneB 1 (framesN 0 (xs.take dn)) j).length⟩).2).1 ≠ 0 then ((pSync (pStep ⟨true, (p : Int) - 2 * (dn : Int), oneB 1 (framesN 0 (xs.take dn) ++ frameN (dn : Int) xs[dn]), fun j => (oneB 1 (framesN 0 (xs.take dn)) j).length⟩).2).1, (pSync (pStep ⟨true, (p : Int) - 2 * (dn : Int), oneB 1 (framesN 0 (xs.take dn) ++ frameN (dn : Int) xs[dn]), fun j => (oneB 1 (framesN 0 (xs.take dn)) j).length⟩).2).2, ⟨dn, (pSync (pStep ⟨true, (p : Int) - 2 * (dn : Int), oneB 1 (framesN 0 (xs.take dn) ++ frameN (dn : Int) xs[dn]), fun j => (oneB 1 (framesN 0 (xs.take dn)) j).length⟩).2).1 != 23⟩) else
        (0, (pSync (pStep ⟨true, (p : Int) - 2 * (dn : Int), oneB 1 (framesN 0 (xs.take dn) ++ frameN (dn : Int) xs[dn]), fun j => (oneB 1 (framesN 0 (xs.take dn)) j).length⟩).2).2, ⟨dn + 1, true⟩) := by
      unfold pLog
      rw [if_neg (by omega), if_neg (fun h => by cases h)]
      show (if (pApp 20000 _ 1 (frameN (dn : Int) xs[dn])).1 ≠ 0 then _ else _) = _
      rw [ha]
    rw [hq]
    have hD0 : (oneB 1 (framesN 0 (xs.take dn)) 1).length = (framesN 0 (xs.take dn)).length := by rw [oneB_at]
    by_cases hl0 : (p : Int) - 2 * (dn : Int) = 0
    · have hst : pStep ⟨true, (p : Int) - 2 * (dn : Int), oneB 1 (framesN 0 (xs.take dn) ++ frameN (dn : Int) xs[dn]), fun j => (oneB 1 (framesN 0 (xs.take dn)) j).length⟩ = (23, ⟨false, (p : Int) - 2 * (dn : Int), oneB 1 (framesN 0 (xs.take dn) ++ frameN (dn : Int) xs[dn]), fun j => (oneB 1 (framesN 0 (xs.take dn)) j).length⟩) := by
        unfold pStep stepOn
        rw [if_neg (by rw [decide_eq_true hl0]; show ¬ (false = true); decide)]
      rw [hst, if_pos (by show (23 : Int) ≠ 0; decide)]
      exact .inr (.inl ⟨rfl, rfl, rfl, rfl, .inr ⟨rfl, by omega, rfl, xs[dn], by rw [List.getElem?_eq_getElem hi], rfl, rfl, hD0⟩⟩)
    · have hst : pStep ⟨true, (p : Int) - 2 * (dn : Int), oneB 1 (framesN 0 (xs.take dn) ++ frameN (dn : Int) xs[dn]), fun j => (oneB 1 (framesN 0 (xs.take dn)) j).length⟩ = (0, ⟨true, (p : Int) - 2 * (dn : Int) - 1, oneB 1 (framesN 0 (xs.take dn) ++ frameN (dn : Int) xs[dn]), fun j => (oneB 1 (framesN 0 (xs.take dn)) j).length⟩) := by
        unfold pStep stepOn
        rw [if_pos (by rw [decide_eq_false hl0]; rfl)]
        show (_, (⟨true, max ((p : Int) - 2 * (dn : Int) - 1) (-1), _, _⟩ : St)) = _
        rw [show max ((p : Int) - 2 * (dn : Int) - 1) (-1) = (p : Int) - 2 * (dn : Int) - 1 by omega]
      rw [hst, if_neg (fun h => h rfl)]
      by_cases hl1 : (p : Int) - 2 * (dn : Int) - 1 = 0
      · have hsy : pSync ⟨true, (p : Int) - 2 * (dn : Int) - 1, oneB 1 (framesN 0 (xs.take dn) ++ frameN (dn : Int) xs[dn]), fun j => (oneB 1 (framesN 0 (xs.take dn)) j).length⟩ = (23, ⟨false, (p : Int) - 2 * (dn : Int) - 1, oneB 1 (framesN 0 (xs.take dn) ++ frameN (dn : Int) xs[dn]), fun j => (oneB 1 (framesN 0 (xs.take dn)) j).length⟩) := by
          unfold pSync stepOn
          rw [if_neg (by rw [decide_eq_true hl1]; show ¬ (false = true); decide)]
        show DurZS (if (pSync ⟨true, (p : Int) - 2 * (dn : Int) - 1, _, _⟩).1 ≠ 0 then _ else _) _ _ _ _ _ _
        rw [hsy, if_pos (by show (23 : Int) ≠ 0; decide)]
        exact .inr (.inl ⟨rfl, rfl, rfl, rfl, .inr ⟨rfl, by omega, rfl, xs[dn], by rw [List.getElem?_eq_getElem hi], rfl, rfl, hD0⟩⟩)
      · have hsy : pSync ⟨true, (p : Int) - 2 * (dn : Int) - 1, oneB 1 (framesN 0 (xs.take dn) ++ frameN (dn : Int) xs[dn]), fun j => (oneB 1 (framesN 0 (xs.take dn)) j).length⟩ = (0, ⟨true, (p : Int) - 2 * ((dn + 1 : Nat) : Int), oneB 1 (framesN 0 (xs.take (dn + 1))), fun j => (oneB 1 (framesN 0 (xs.take (dn + 1))) j).length⟩) := by
          rw [frames_take hi]
          unfold pSync stepOn
          rw [if_pos (by rw [decide_eq_false hl1]; rfl)]
          show (_, (⟨true, max ((p : Int) - 2 * (dn : Int) - 1 - 1) (-1), _, _⟩ : St)) = _
          rw [show max ((p : Int) - 2 * (dn : Int) - 1 - 1) (-1) = (p : Int) - 2 * ((dn + 1 : Nat) : Int) by omega]
        show DurZS (if (pSync ⟨true, (p : Int) - 2 * (dn : Int) - 1, _, _⟩).1 ≠ 0 then _ else _) _ _ _ _ _ _
        rw [hsy, if_neg (fun h => h rfl)]
        exact .inl ⟨rfl, rfl, rfl, rfl, .inl ⟨rfl, rfl, rfl, by omega, rfl⟩⟩
  · rw [log_down (by omega)]
    exact .inr (.inr ⟨rfl, hdn, rfl, rfl, .inr ⟨rfl, by omega, htd, x, hxe, hon, hB, hD⟩⟩)
/-- What is found behind the failure. -/
def DurZE (s : St) (keep : Int) (xs : List (List Nat)) (dn td c : Nat) : Prop :=
  dn ≤ c ∧ c ≤ td ∧ c ≤ xs.length ∧ (pOpen (pCrash s [keep] (-1)) 1).1 = 0 ∧ (pOpen (pCrash s [keep] (-1)) 1).2.2 = xs.take c ∧ (pOpen (pCrash s [keep] (-1)) 1).2.1 = stF 1 (xs.take c)
theorem durz_end {s : St} {p : Nat} {xs : List (List Nat)} {dn td : Nat} {up : Bool} (h : DurZ s p xs xs.length dn td up) (hx : Shortz xs) (keep : Int) : (up = decide (dn = xs.length)) ∧ ∃ c, DurZE s keep xs dn td c := by
  have hxl : ∀ m, ∀ x ∈ xs.take m, x.length ≤ 1000000 := fun m x h => by have := (hx.2 x (List.mem_of_mem_take h)).1; omega
  have hnl : ∀ m, (xs.take m).length ≤ 1000000 := fun m => by rw [List.length_take]; have := hx.1; omega
  rcases h with ⟨rfl, e1, e2, hp, rfl⟩ | ⟨rfl, hdn, htd, x, hxe, hon, hB, hD⟩
  · subst e1 e2
    refine ⟨(decide_eq_true rfl).symm, xs.length, Nat.le_refl _, Nat.le_refl _, Nat.le_refl _, ?_⟩
    have hc := crash_one (k := 1) (by decide) (framesN 0 (xs.take xs.length)) true ((p : Int) - 2 * (xs.length : Int)) (fun j => (oneB 1 (framesN 0 (xs.take xs.length)) j).length) [keep] (-1)
    have hz : crashL (framesN 0 (xs.take xs.length)) (oneB 1 (framesN 0 (xs.take xs.length)) 1).length (keepAt [keep] 0) (-1) = framesN 0 (xs.take xs.length) ++ [] := by
      rw [oneB_at]
      unfold crashL
      rw [if_neg (by omega), List.append_nil]
      exact List.take_of_length_le (by omega)
    rw [hz] at hc
    obtain ⟨o1, o2, o3⟩ := open_st (k := 1) (by decide) (s := pCrash ⟨true, (p : Int) - 2 * (xs.length : Int), oneB 1 (framesN 0 (xs.take xs.length)), fun j => (oneB 1 (framesN 0 (xs.take xs.length)) j).length⟩ [keep] (-1)) rfl rfl hc (hxl _) (hnl _)
    rw [scanP_nil, List.map_nil, List.append_nil] at o2
    rw [scanP_nil, List.take_nil, List.append_nil] at o3
    exact ⟨o1, o2, o3⟩
  · have hdl : dn < xs.length := by
      rcases Nat.lt_or_ge dn xs.length with h | h
      · exact h
      · rw [List.getElem?_eq_none h] at hxe; cases hxe
    have hxx : xs[dn] = x := by rw [List.getElem?_eq_getElem hdl] at hxe; injection hxe
    have hxs := (hx.2 x (by rw [← hxx]; exact List.getElem_mem hdl)).1
    refine ⟨(decide_eq_false (by omega)).symm, ?_⟩
    obtain ⟨on, left, B, D⟩ := s
    have hB' : B = oneB 1 (framesN 0 (xs.take dn) ++ frameN (dn : Int) x) := hB
    subst hB'
    have hc := crash_one (k := 1) (by decide) (framesN 0 (xs.take dn) ++ frameN (dn : Int) x) on left D [keep] (-1)
    have hD' : D 1 = (framesN 0 (xs.take dn)).length := hD
    rw [hD'] at hc
    obtain ⟨m, hm, hz⟩ : ∃ m, m ≤ (frameN (dn : Int) x).length ∧ crashL (framesN 0 (xs.take dn) ++ frameN (dn : Int) x) (framesN 0 (xs.take dn)).length (keepAt [keep] 0) (-1) = framesN 0 (xs.take dn) ++ (frameN (dn : Int) x).take m := by
      refine ⟨min (lostN (keepAt [keep] 0) ((framesN 0 (xs.take dn) ++ frameN (dn : Int) x).length - (framesN 0 (xs.take dn)).length)) (frameN (dn : Int) x).length, Nat.min_le_right _ _, ?_⟩
      unfold crashL
      rw [if_neg (by omega), List.take_append, List.take_of_length_le (by omega)]
      congr 1
      rw [show (framesN 0 (xs.take dn)).length + lostN (keepAt [keep] 0) ((framesN 0 (xs.take dn) ++ frameN (dn : Int) x).length - (framesN 0 (xs.take dn)).length) - (framesN 0 (xs.take dn)).length = lostN (keepAt [keep] 0) ((framesN 0 (xs.take dn) ++ frameN (dn : Int) x).length - (framesN 0 (xs.take dn)).length) by omega]
      rw [List.take_eq_take_min]
    rw [hz] at hc
    by_cases hfull : m = (frameN (dn : Int) x).length
    · refine ⟨dn + 1, by omega, by omega, hdl, ?_⟩
      rw [hfull, List.take_of_length_le (Nat.le_refl _)] at hc
      have ef : framesN 0 (xs.take dn) ++ frameN (dn : Int) x = framesN 0 (xs.take (dn + 1)) ++ [] := by rw [List.append_nil, frames_take hdl, hxx]
      have hc2 := hc.trans (congrArg (oneB 1) ef)
      obtain ⟨o1, o2, o3⟩ := open_st (k := 1) (xs := xs.take (dn + 1)) (t := []) (by decide) (s := pCrash ⟨on, left, oneB 1 (framesN 0 (xs.take dn) ++ frameN (dn : Int) x), D⟩ [keep] (-1)) rfl rfl hc2 (hxl _) (hnl _)
      rw [scanP_nil, List.map_nil, List.append_nil] at o2
      rw [scanP_nil, List.take_nil, List.append_nil] at o3
      exact ⟨o1, o2, o3⟩
    · refine ⟨dn, Nat.le_refl _, by omega, by omega, ?_⟩
      obtain ⟨o1, o2, o3⟩ := open_st (k := 1) (by decide) (s := pCrash ⟨on, left, oneB 1 (framesN 0 (xs.take dn) ++ frameN (dn : Int) x), D⟩ [keep] (-1)) rfl rfl hc (hxl _) (hnl _)
      have hl : (xs.take dn).length = dn := by rw [List.length_take]; omega
      have hsh := scan_short (n := dn) (by have := hx.1; omega) (x := x) (by omega) (m := m) (by omega)
      rw [hl, hsh] at o2 o3
      rw [List.map_nil, List.append_nil] at o2
      rw [List.map_nil, List.sum_nil, List.take_zero, List.append_nil] at o3
      exact ⟨o1, o2, o3⟩
theorem durz_start (xs : List (List Nat)) (q : Nat) : DurZ (pArm (stF 1 []) (q : Int)) q xs 0 0 0 true := by
  refine .inl ⟨rfl, rfl, rfl, by omega, ?_⟩
  have h : armL true (-1) (q : Int) = (q : Int) - 2 * ((0 : Nat) : Int) := by
    unfold armL
    simp
    try omega
  show (⟨true, armL true (-1) (q : Int), _, _⟩ : St) = _
  rw [h]
  rfl
end Go.Proofs.YtjoablphojkimaaGreatDoor
