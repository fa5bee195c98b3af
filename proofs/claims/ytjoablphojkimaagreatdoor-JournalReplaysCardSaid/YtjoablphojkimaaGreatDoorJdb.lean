/-
  Logs by states: records appended, a log opened.
-/
import Derived.Test.YtjoablphojkimaaGreatDoorDmx
import Derived.Test.YtjoablphojkimaaGreatDoorJdA
namespace Go.Proofs.YtjoablphojkimaaGreatDoor
open Go.RowKit Go.Shelf
set_option linter.unusedVariables false
set_option maxRecDepth 100000

theorem log_ok {room k : Nat} (hk : k < 64) {s : St} {kept : List (List Nat)} (hon : s.on = true) (hl : s.left = -1) (hB : s.B = oneB k (framesN 0 kept)) {b : List Nat} (hb : b.length ≤ 65536)
    (hfit : (framesN 0 kept).length + (frameN (kept.length : Int) b).length ≤ room) :
    pLog room s (k : Int) ⟨kept.length, true⟩ b = (0, ⟨true, -1, oneB k (framesN 0 (kept ++ [b])), fun j => (oneB k (framesN 0 (kept ++ [b])) j).length⟩, ⟨kept.length + 1, true⟩) := by
  have ha := app_one hk hon hl hB (zs := frameN (kept.length : Int) b) hfit
  have e : framesN 0 kept ++ frameN (kept.length : Int) b = framesN 0 (kept ++ [b]) := by rw [framesN_snoc, Nat.zero_add]
  rw [e] at ha
  unfold pLog
  rw [if_neg (by omega), if_neg (fun h => by cases h)]
  show (if (pApp room s (k : Int) (frameN (kept.length : Int) b)).1 ≠ 0 then _ else _) = _
  rw [ha, if_neg (fun h => h rfl)]
  rw [show pSync (((0 : Int), (⟨true, -1, oneB k (framesN 0 (kept ++ [b])), s.D⟩ : St)).2) = _ from sync_one rfl rfl, if_neg (fun h => h rfl)]
theorem log_full {room k : Nat} (hk : k < 64) {s : St} {kept : List (List Nat)} (hon : s.on = true) (hB : s.B = oneB k (framesN 0 kept)) {b : List Nat} (hb : b.length ≤ 65536)
    (hfit : ¬ (framesN 0 kept).length + (frameN (kept.length : Int) b).length ≤ room) :
    pLog room s (k : Int) ⟨kept.length, true⟩ b = (22, s, ⟨kept.length, true⟩) := by
  have ha : pApp room s (k : Int) (frameN (kept.length : Int) b) = (22, s) := by
    unfold pApp
    rw [isF_true (by omega), if_neg (fun h => by cases h), if_neg (by rw [hon]; decide), if_pos]
    rw [hB]
    show ¬ sumB (setB (fun _ => []) k _) + _ ≤ room
    rw [sum_one hk]
    exact hfit
  unfold pLog
  rw [if_neg (by omega), if_neg (fun h => by cases h)]
  show (if (pApp room s (k : Int) (frameN (kept.length : Int) b)).1 ≠ 0 then _ else _) = _
  rw [ha, if_pos (by show (22 : Int) ≠ 0; decide)]
  rfl
theorem trunc_one {k : Nat} (hk : k < 64) {s : St} {ys : List Nat} (hon : s.on = true) (hl : s.left = -1) (hB : s.B = oneB k ys) {m : Nat} (hm : m ≤ ys.length) :
    ∃ D2, pTrunc s (k : Int) (m : Int) = (0, ⟨true, -1, oneB k (ys.take m), D2⟩) := by
  obtain ⟨on, left, B, D⟩ := s
  have hon' : on = true := hon
  have hl' : left = -1 := hl
  have hB' : B = oneB k ys := hB
  subst hon' hl' hB'
  refine ⟨setD D (k : Int).toNat (min (D (k : Int).toNat) (m : Int).toNat), ?_⟩
  unfold pTrunc
  have hc : isF (k : Int) = true ∧ 0 ≤ (m : Int) ∧ (m : Int) ≤ ((oneB k ys (k : Int).toNat).length : Int) := ⟨isF_true (by omega), by omega, by rw [Int.toNat_natCast, oneB_at]; omega⟩
  rw [if_neg (fun h => h hc)]
  have e : setB (oneB k ys) (k : Int).toNat ((oneB k ys (k : Int).toNat).take (m : Int).toNat) = oneB k (ys.take m) := by
    rw [Int.toNat_natCast, Int.toNat_natCast, oneB_at]
    funext j
    unfold oneB setB
    by_cases hj : j = k
    · rw [if_pos hj, if_pos hj]
    · rw [if_neg hj, if_neg hj, if_neg hj]
  show (_, (⟨true, _, setB (oneB k ys) (k : Int).toNat _, _⟩ : St)) = _
  rw [e]
  rfl
/-- A log opened where records are followed by any bytes. -/
theorem open_one {k : Nat} (hk : k < 64) {s : St} {xs : List (List Nat)} {t : List Nat} (hon : s.on = true) (hl : s.left = -1) (hB : s.B = oneB k (framesN 0 xs ++ t)) (hx : ∀ x ∈ xs, x.length ≤ 1000000) (hn : xs.length ≤ 1000000) :
    (pOpen s (k : Int)).1 = 0 ∧ (pOpen s (k : Int)).2.2 = xs ++ (scanP xs.length t).map Prod.fst ∧ (pOpen s (k : Int)).2.1.on = true ∧ (pOpen s (k : Int)).2.1.left = -1 ∧
      (pOpen s (k : Int)).2.1.B = oneB k (framesN 0 xs ++ t.take ((scanP xs.length t).map Prod.snd).sum) := by
  obtain ⟨h1, h2⟩ := read_one hk hon hB
  have hsc : scanP 0 (framesN 0 xs ++ t) = pairsN 0 xs ++ scanP xs.length t := by rw [scanP_frames xs 0 t (by omega) hx, Nat.zero_add]
  have hsz : scanSize (framesN 0 xs ++ t) = (framesN 0 xs).length + ((scanP xs.length t).map Prod.snd).sum := by unfold scanSize; rw [hsc, List.map_append, List.sum_append, pairsN_sum]
  have hrc : scanRecs (framesN 0 xs ++ t) = xs ++ (scanP xs.length t).map Prod.fst := by unfold scanRecs; rw [hsc, List.map_append, pairsN_fst]
  have hle := (scanP_sum (framesN 0 xs ++ t).length 0 (framesN 0 xs ++ t) (Nat.le_refl _)).1
  have hle2 : scanSize (framesN 0 xs ++ t) ≤ (framesN 0 xs ++ t).length := hle
  have hcut : ∃ D2, pCutTo s (k : Int) (framesN 0 xs ++ t).length (scanSize (framesN 0 xs ++ t)) = (0, ⟨true, -1, oneB k ((framesN 0 xs ++ t).take (scanSize (framesN 0 xs ++ t))), D2⟩) := by
    unfold pCutTo
    by_cases hc : scanSize (framesN 0 xs ++ t) < (framesN 0 xs ++ t).length
    · rw [if_pos hc]
      exact trunc_one hk hon hl hB hle2
    · rw [if_neg hc, List.take_of_length_le (by omega)]
      obtain ⟨on, left, B, D⟩ := s
      have hon' : on = true := hon
      have hl' : left = -1 := hl
      have hB' : B = oneB k (framesN 0 xs ++ t) := hB
      subst hon' hl' hB'
      exact ⟨D, rfl⟩
  obtain ⟨D2, hcut⟩ := hcut
  have htk : (framesN 0 xs ++ t).take (scanSize (framesN 0 xs ++ t)) = framesN 0 xs ++ t.take ((scanP xs.length t).map Prod.snd).sum := by
    rw [hsz, List.take_append, List.take_of_length_le (by omega)]
    congr 2
    omega
  rw [htk] at hcut
  have hsy := sync_one (s := ⟨true, -1, oneB k (framesN 0 xs ++ t.take ((scanP xs.length t).map Prod.snd).sum), D2⟩) rfl rfl
  unfold pOpen
  rw [h1, h2, hcut, if_neg (fun h => h rfl), if_neg (fun h => h rfl), hsy, if_neg (fun h => h rfl), hrc]
  exact ⟨rfl, rfl, rfl, rfl, rfl⟩
theorem open_bad {s : St} {file : Int} (hf : ¬ (0 ≤ file ∧ file < 64)) : pOpen s file = (1, s, []) := by
  unfold pOpen pRead
  rw [isF_false hf, if_pos rfl, if_pos (by decide)]
end Go.Proofs.YtjoablphojkimaaGreatDoor
