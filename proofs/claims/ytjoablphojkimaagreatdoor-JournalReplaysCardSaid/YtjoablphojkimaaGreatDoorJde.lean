/-
  The law JournalInverted.
-/
import Derived.Test.YtjoablphojkimaaGreatDoorJdb
import Derived.Test.YtjoablphojkimaaGreatDoorJdd
namespace Go.Proofs.YtjoablphojkimaaGreatDoor
open Go.RowKit Go.Shelf
set_option linter.unusedVariables false
set_option maxRecDepth 100000

theorem framesN_le : ∀ (xs : List (List Nat)) (n : Nat), (∀ x ∈ xs, x.length ≤ 10) → n + xs.length ≤ 1000000 → (framesN n xs).length ≤ 50 * xs.length
  | [], n, _, _ => by unfold framesN; exact Nat.zero_le _
  | x :: t, n, h, hn => by
    have h1 := framesN_le t (n + 1) (fun y hy => h y (by simp [hy])) (by rw [List.length_cons] at hn; omega)
    have h2 := frameN_len (n := (n : Int)) (b := x) (by rw [List.length_cons] at hn; omega) (by have := h x (by simp); omega)
    have h3 := h x (by simp)
    unfold framesN
    rw [List.length_append, List.length_cons]
    omega
/-- A disk with a log in file k, all of it durable. -/
noncomputable def stF (k : Nat) (xs : List (List Nat)) : St := ⟨true, -1, oneB k (framesN 0 xs), fun j => (oneB k (framesN 0 xs) j).length⟩
theorem open_new {k : Nat} (hk : k < 64) : (pOpen pNew (k : Int)).1 = 0 ∧ (pOpen pNew (k : Int)).2.2 = [] ∧ (pOpen pNew (k : Int)).2.1 = stF k [] := by
  have hB : pNew.B = oneB k (framesN 0 [] ++ []) := by rw [List.append_nil]; exact new_one k
  obtain ⟨h1, h2⟩ := read_one hk (s := pNew) rfl hB
  have hz : framesN 0 [] ++ [] = ([] : List Nat) := by rw [List.append_nil]; rfl
  rw [hz] at h2
  have hsz : scanSize [] = 0 := by unfold scanSize; rw [scanP_nil]; rfl
  have hrc : scanRecs [] = [] := by unfold scanRecs; rw [scanP_nil]; rfl
  have hcut : pCutTo pNew (k : Int) 0 0 = (0, pNew) := by unfold pCutTo; rw [if_neg (by decide)]
  have hsy := sync_one (s := pNew) rfl rfl
  unfold pOpen
  rw [h1, h2, hsz, hrc, List.length_nil, hcut, if_neg (fun h => h rfl), if_neg (fun h => h rfl), hsy, if_neg (fun h => h rfl)]
  refine ⟨rfl, rfl, ?_⟩
  have hB2 : pNew.B = oneB k (framesN 0 []) := new_one k
  unfold stF
  rw [← hB2]
theorem turn_behind {F R : List Nat} {p : Nat} (hp : 8 * F.length ≤ p) : ∃ t, turn (F ++ R) p = F ++ t ∧ t.length = R.length := by
  unfold turn
  rw [List.set_append_right _ _ (by omega)]
  exact ⟨_, rfl, by rw [List.length_set]⟩
theorem crash_behind (F R : List Nat) (q flip : Int) : ∃ t, crashL (F ++ R) F.length q flip = F ++ t ∧ t.length ≤ R.length := by
  have hz : ∀ m, (F ++ R).take (F.length + m) = F ++ R.take m := fun m => by rw [List.take_append, List.take_of_length_le (by omega)]; congr 2; omega
  unfold crashL
  rw [hz]
  split
  · obtain ⟨t, h1, h2⟩ := turn_behind (F := F) (R := R.take (lostN q ((F ++ R).length - F.length))) (p := 8 * F.length + flip.toNat % (8 * ((F ++ R.take (lostN q ((F ++ R).length - F.length))).length - F.length))) (by omega)
    exact ⟨t, h1, by rw [h2, List.length_take]; omega⟩
  · exact ⟨_, rfl, by rw [List.length_take]; omega⟩
def InvFacts (q : Int × St × Lg) (s3 : St) (xs : List (List Nat)) : Prop :=
  q.1 = 23 ∧ q.2.2 = ⟨xs.length, false⟩ ∧ (pOpen s3 0).1 = 0 ∧ ∃ more, (pOpen s3 0).2.2 = xs ++ more
theorem inv_facts {xs : List (List Nat)} (hx : Shorts xs) {own : List Nat} (ho : own.length ≤ 60) (keep flip : Int) :
    InvFacts (pLog 5000 (pArm (stF 0 xs) 0) 0 ⟨xs.length, true⟩ own) (pCrash (pLog 5000 (pArm (stF 0 xs) 0) 0 ⟨xs.length, true⟩ own).2.1 [keep] flip) xs := by
  have hfl := framesN_le xs 0 (fun x h => (hx.2 x h).1) (by have := hx.1; omega)
  have hf := frameN_len (n := (xs.length : Int)) (b := own) (by have := hx.1; omega) (by omega)
  have ha : pApp 5000 (pArm (stF 0 xs) 0) 0 (frameN (xs.length : Int) own) = (23, ⟨false, 0, oneB 0 (framesN 0 xs ++ frameN (xs.length : Int) own), (stF 0 xs).D⟩) := by
    unfold pApp
    rw [isF_true (by decide), if_neg (fun h => by cases h), if_neg (fun h => by cases h), if_neg (by
      show ¬ ¬ sumB (setB (fun _ => []) 0 (framesN 0 xs)) + _ ≤ 5000
      rw [sum_one (by decide)]
      have := hx.1
      exact fun h => h (by omega))]
    have e : setB (oneB 0 (framesN 0 xs)) 0 (oneB 0 (framesN 0 xs) 0 ++ frameN (xs.length : Int) own) = oneB 0 (framesN 0 xs ++ frameN (xs.length : Int) own) := by
      rw [oneB_at]
      funext j
      unfold oneB setB
      by_cases hj : j = 0
      · rw [if_pos hj, if_pos hj]
      · rw [if_neg hj, if_neg hj, if_neg hj]
    show pStep ⟨true, 0, setB (oneB 0 (framesN 0 xs)) 0 (oneB 0 (framesN 0 xs) 0 ++ frameN (xs.length : Int) own), _⟩ = _
    rw [e]
    rfl
  have hq : pLog 5000 (pArm (stF 0 xs) 0) 0 ⟨xs.length, true⟩ own = (23, ⟨false, 0, oneB 0 (framesN 0 xs ++ frameN (xs.length : Int) own), (stF 0 xs).D⟩, ⟨xs.length, false⟩) := by
    unfold pLog
    rw [if_neg (by omega), if_neg (fun h => by cases h)]
    show (if (pApp 5000 (pArm (stF 0 xs) 0) 0 (frameN (xs.length : Int) own)).1 ≠ 0 then _ else _) = _
    rw [ha, if_pos (by show (23 : Int) ≠ 0; decide)]
    rfl
  rw [hq]
  have hc := crash_one (k := 0) (by decide) (framesN 0 xs ++ frameN (xs.length : Int) own) false 0 (stF 0 xs).D [keep] flip
  have hd : (stF 0 xs).D 0 = (framesN 0 xs).length := by show (oneB 0 (framesN 0 xs) 0).length = _; rw [oneB_at]
  rw [hd] at hc
  obtain ⟨t, ht, _⟩ := crash_behind (framesN 0 xs) (frameN (xs.length : Int) own) (keepAt [keep] 0) flip
  rw [ht] at hc
  obtain ⟨o1, o2, _⟩ := open_one (k := 0) (by decide) (s := pCrash ⟨false, 0, oneB 0 (framesN 0 xs ++ frameN (xs.length : Int) own), (stF 0 xs).D⟩ [keep] flip) rfl rfl hc (fun x h => by have := (hx.2 x h).1; omega) (by have := hx.1; omega)
  exact ⟨rfl, rfl, o1, _, o2⟩

theorem frames_take {xs : List (List Nat)} {i : Nat} (hi : i < xs.length) : framesN 0 (xs.take (i + 1)) = framesN 0 (xs.take i) ++ frameN (i : Int) xs[i] := by
  rw [List.take_succ_eq_append_getElem hi, framesN_snoc, List.length_take, Nat.zero_add]
  congr 3
  omega
theorem stF_step {k : Nat} (hk : k < 64) {xs : List (List Nat)} (hx : Shorts xs) {i : Nat} (hi : i < xs.length) :
    (pLog 5000 (stF k (xs.take i)) (k : Int) ⟨i, true⟩ (xs[i])).1 = 0 ∧ (pLog 5000 (stF k (xs.take i)) (k : Int) ⟨i, true⟩ (xs[i])).2.1 = stF k (xs.take (i + 1)) ∧ (pLog 5000 (stF k (xs.take i)) (k : Int) ⟨i, true⟩ (xs[i])).2.2 = ⟨i + 1, true⟩ := by
  have hl : (xs.take i).length = i := by rw [List.length_take]; omega
  have h10 := (hx.2 (xs[i]) (List.getElem_mem hi)).1
  have hfl := framesN_le (xs.take i) 0 (fun x h => (hx.2 x (List.mem_of_mem_take h)).1) (by have := hx.1; omega)
  have hf := frameN_len (n := (i : Int)) (b := xs[i]) (by have := hx.1; omega) (by omega)
  have h := log_ok (room := 5000) hk (s := stF k (xs.take i)) (kept := xs.take i) rfl rfl rfl (b := xs[i]) (by omega) (by rw [hl]; have := hx.1; omega)
  rw [hl] at h
  rw [h, ← List.take_succ_eq_append_getElem hi]
  exact ⟨rfl, rfl, rfl⟩

/-- Records at hand, in blocks from lo to hi. -/
structure XsIs (lo hi : Nat) (W : World) (u : Value) (us : List Value) (xs : List (List Nat)) : Prop where
  own : LOwn lo W u us xs
  top : ∀ k, u.ownBlock = some k → k < hi
  els : ∀ y ∈ us, ∀ k, blockOf y k → lo ≤ k ∧ k < hi
theorem XsIs.keeps {lo hi : Nat} {W W2 : World} {u : Value} {us : List Value} {xs : List (List Nat)} {A : Foot} (h : XsIs lo hi W u us xs) (hk : Keeps A W W2) (hg : ∀ k, A k → k < lo ∨ hi ≤ k) : XsIs lo hi W2 u us xs :=
  ⟨lown_foot h.own hk (fun k hk hA => by
      have h1 := (h.own.own.lt k hk).1
      have h2 := h.top k hk
      rcases hg k hA with h3 | h3 <;> omega) (fun y hy k hk hA => by
      have h1 := h.els y hy k hk
      rcases hg k hA with h3 | h3 <;> omega), h.top, h.els⟩
theorem XsIs.below {lo hi : Nat} {W W2 : World} {u : Value} {us : List Value} {xs : List (List Nat)} (h : XsIs lo hi W u us xs) (hb : Below W.heap.size W W2) : XsIs lo hi W2 u us xs := ⟨lown_below h.own hb, h.top, h.els⟩
theorem XsIs.get {lo hi : Nat} {W : World} {a : Option Addr} {cap : Nat} {us : List Value} {xs : List (List Nat)} (h : XsIs lo hi W (.slice a us.length cap) us xs) {i : Nat} (hi : i < us.length) :
    ∃ b off y, a = some ⟨b, off, none⟩ ∧ W.cell? ⟨b, off + i, none⟩ = some y ∧ Row .u8 W y (natI (xs[i]'(by rw [← h.own.len]; exact hi))) ∧ ∀ j, blockOf y j → j < W.heap.size := by
  obtain ⟨a2, cap2, h1, _, _, h4⟩ := (lrow_of_own h.own).form
  injection h1 with h5 h6 h7
  subst h5
  obtain ⟨b, off, h8, h9⟩ := h4 (fun e => by rw [e] at hi; simp at hi)
  exact ⟨b, off, us[i], h8, h9 i hi, h.own.row i hi (by rw [← h.own.len]; exact hi), h.own.lt _ (List.getElem_mem hi)⟩

end Go.Proofs.YtjoablphojkimaaGreatDoor
