/-
  DiskNumbers: the states of a disk to which two files are written; what a crash leaves of them; two texts written one behind the other and read again.
-/
import Derived.Test.YtjoablphojkimaaGreatDoorDkC
import Derived.Test.YtjoablphojkimaaGreatDoorWrM
import Derived.Test.YtjoablphojkimaaGreatDoorLwa
namespace Go.Proofs.YtjoablphojkimaaGreatDoor
open Go.RowKit Go.Shelf
set_option linter.unusedVariables false
set_option maxRecDepth 100000

theorem flipK_ge {B : Nat → List Nat} {D : Nat → Nat} : ∀ {ks : List Nat} {bit k p : Nat}, flipK B D ks bit = some (k, p) → 8 * D k ≤ p
  | [], _, _, _, h => by cases h
  | j :: t, bit, k, p, h => by
    have h2 : (if bit < 8 * ((B j).length - D j) then some (j, 8 * D j + bit) else flipK B D t (bit - 8 * ((B j).length - D j))) = some (k, p) := h
    split at h2
    · injection h2 with h2
      injection h2 with h3 h4
      subst h3
      omega
    · exact flipK_ge h2
/-- The durable part stands, whatever is behind it. -/
def PreN (B X : Nat → List Nat) (D : Nat → Nat) : Prop := ∀ k, ∃ t, X k = (B k).take (D k) ++ t ∧ D k + t.length ≤ (B k).length
theorem keep_pre {B : Nat → List Nat} {D : Nat → Nat} (keep : List Int) (hd : ∀ k, D k ≤ (B k).length) : PreN B (keepB B D keep) D := fun k => by
  refine ⟨((B k).drop (D k)).take (lostN (keepAt keep ((filesB B).idxOf k)) ((B k).length - D k)), ?_, ?_⟩
  · unfold keepB; rw [List.take_add]
  · rw [List.length_take, List.length_drop]; have := hd k; omega
theorem flip_pre {B X : Nat → List Nat} {D : Nat → Nat} (flip : Int) (hd : ∀ k, D k ≤ (B k).length) (h : PreN B X D) : PreN B (flipB X D flip) D := by
  unfold flipB
  split
  · split
    · rename_i kk p hf
      intro k
      obtain ⟨t, h1, h2⟩ := h k
      by_cases hk : k = kk
      · subst hk
        have hp := flipK_ge hf
        have hl : ((B k).take (D k)).length = D k := by rw [List.length_take]; have := hd k; omega
        refine ⟨t.set (p / 8 - D k) (flipN (((X k)[p / 8]?).getD 0) p), ?_, by rw [List.length_set]; exact h2⟩
        show setB X k _ k = _
        unfold setB
        rw [if_pos rfl]
        generalize flipN (((X k)[p / 8]?).getD 0) p = c
        rw [h1, List.set_append, if_neg (by omega), hl]
      · refine ⟨t, ?_, h2⟩
        show setB X kk _ k = _
        unfold setB
        rw [if_neg hk]
        exact h1
    · exact h
  · exact h
theorem crash_pre {s : St} (hd : ∀ k, s.D k ≤ (s.B k).length) (keep : List Int) (flip : Int) : PreN s.B (pCrash s keep flip).B s.D := flip_pre flip hd (keep_pre keep hd)

theorem sum_setM (g : Nat → Nat) (k a : Nat) : ∀ n, ((List.range n).map fun j => if j = k then a else g j).sum + (if k < n then g k else 0) = (if k < n then a else 0) + ((List.range n).map g).sum
  | 0 => by simp
  | n + 1 => by
    have h := sum_setM g k a n
    rw [List.range_succ, List.map_append, List.map_append, List.sum_append, List.sum_append]
    simp only [List.map_cons, List.map_nil, List.sum_cons, List.sum_nil, Nat.add_zero]
    by_cases h1 : n = k
    · subst h1
      rw [if_neg (Nat.lt_irrefl _), if_neg (Nat.lt_irrefl _)] at h
      rw [if_pos rfl, if_pos (Nat.lt_succ_self _), if_pos (Nat.lt_succ_self _)]
      omega
    · rw [if_neg h1]
      by_cases h2 : k < n
      · rw [if_pos h2, if_pos h2] at h
        rw [if_pos (by omega), if_pos (by omega)]
        omega
      · rw [if_neg h2, if_neg h2] at h
        rw [if_neg (by omega), if_neg (by omega)]
        omega
theorem sumM_set (B : Nat → List Nat) {k : Nat} (hk : k < 64) (x : List Nat) : sumB (setB B k x) + (B k).length = x.length + sumB B := by
  have h := sum_setM (fun j => (B j).length) k x.length 64
  rw [if_pos hk, if_pos hk] at h
  have e : (fun j => (setB B k x j).length) = fun j => if j = k then x.length else (B j).length := by
    funext j; unfold setB; split <;> rfl
  unfold sumB
  rw [e]
  exact h
theorem setB_at (B : Nat → List Nat) (k : Nat) (x : List Nat) : setB B k x k = x := if_pos rfl
theorem setB_far {B : Nat → List Nat} {k j : Nat} (x : List Nat) (h : j ≠ k) : setB B k x j = B j := if_neg h
theorem setB_two (B : Nat → List Nat) (k : Nat) (x y : List Nat) : setB (setB B k x) k y = setB B k y := by
  funext j; unfold setB; split <;> rfl
/-- A disk that is on, no failure armed. -/
def onN (B : Nat → List Nat) (D : Nat → Nat) : St := ⟨true, -1, B, D⟩
theorem appN {room k : Nat} (hk : k < 64) (B : Nat → List Nat) (D : Nat → Nat) (zs : List Nat) (hr : sumB B + zs.length ≤ room) : pApp room (onN B D) (k : Int) zs = (0, onN (setB B k (B k ++ zs)) D) := by
  unfold pApp
  rw [if_neg (by rw [isF_true (by omega)]; decide), if_neg (by show ¬ (true = false); decide), if_neg (fun h => h hr)]
  rfl
/-- The first j of the files 5, 6. -/
def filesN (all : List Nat) : Nat → Nat → List Nat
  | 0 => fun _ => []
  | j + 1 => setB (filesN all j) (5 + j) all
theorem filesN_ge (all : List Nat) : ∀ (j k : Nat), 5 + j ≤ k → filesN all j k = []
  | 0, _, _ => rfl
  | j + 1, k, h => by
    show setB _ _ _ _ = _
    rw [setB_far _ (by omega)]
    exact filesN_ge all j k (by omega)
theorem filesN_sum (all : List Nat) : ∀ (j : Nat), j ≤ 2 → sumB (filesN all j) = j * all.length
  | 0, _ => by show sumB (fun _ => []) = 0 * all.length; rw [Nat.zero_mul]; decide
  | j + 1, h => by
    have h1 := sumM_set (filesN all j) (k := 5 + j) (by omega) all
    rw [filesN_ge all j (5 + j) (Nat.le_refl _), filesN_sum all j (by omega)] at h1
    show sumB (setB _ _ _) = _
    rw [Nat.succ_mul]
    simp only [List.length_nil] at h1
    omega
/-- The two Appends of a round. -/
theorem filesN_app {all : List Nat} (hl : all.length ≤ 4000) {j : Nat} (hj : j < 2) (k : Nat) (D : Nat → Nat) :
    ∃ s1, pApp 20000 (onN (filesN all j) D) ((5 + j : Nat) : Int) (all.take k) = (0, s1) ∧ pApp 20000 s1 ((5 + j : Nat) : Int) (all.drop k) = (0, onN (filesN all (j + 1)) D) := by
  have hs := filesN_sum all j (by omega)
  have hm : j * all.length ≤ 2 * 4000 := Nat.mul_le_mul (by omega) hl
  have hlen := congrArg List.length (List.take_append_drop k all)
  rw [List.length_append] at hlen
  refine ⟨_, appN (by omega) _ D (all.take k) (by omega), ?_⟩
  have h1 := sumM_set (filesN all j) (k := 5 + j) (by omega) (filesN all j (5 + j) ++ all.take k)
  rw [List.length_append] at h1
  rw [appN (by omega) _ D (all.drop k) (by omega), setB_at, setB_two, filesN_ge all j (5 + j) (Nat.le_refl _), List.nil_append, List.take_append_drop]
  rfl
def lensN (all : List Nat) : Nat → Nat := fun k => (filesN all 2 k).length
theorem syncN (all : List Nat) (D : Nat → Nat) : pSync (onN (filesN all 2) D) = (0, onN (filesN all 2) (lensN all)) := rfl
def tailN (all : List Nat) : St := onN (setB (setB (filesN all 2) 6 (all ++ [9, 9, 9])) 8 [1]) (lensN all)
theorem files6 (all : List Nat) : filesN all 2 6 = all := setB_at _ _ _
theorem files5 (all : List Nat) : filesN all 2 5 = all := by
  show setB _ _ _ _ = _
  rw [setB_far _ (by decide)]
  exact setB_at _ _ _
theorem tailN_app {all : List Nat} (hl : all.length ≤ 4000) :
    ∃ s1, pApp 20000 (onN (filesN all 2) (lensN all)) 6 [9, 9, 9] = (0, s1) ∧ pApp 20000 s1 8 [1] = (0, tailN all) := by
  have hs := filesN_sum all 2 (by omega)
  have h6 := files6 all
  have h8 := filesN_ge all 2 8 (by omega)
  have h1 := appN (room := 20000) (k := 6) (by omega) (filesN all 2) (lensN all) [9, 9, 9] (by simp; omega)
  refine ⟨_, h1, ?_⟩
  have h2 := sumM_set (filesN all 2) (k := 6) (by omega) (filesN all 2 6 ++ [9, 9, 9])
  rw [List.length_append, h6] at h2
  have h3 := appN (room := 20000) (k := 8) (by omega) (setB (filesN all 2) 6 (filesN all 2 6 ++ [9, 9, 9])) (lensN all) [1] (by rw [h6]; simp at h2 ⊢; omega)
  rw [setB_far _ (by decide), h8] at h3
  rw [h6] at h3 ⊢
  exact h3
/-- What stands behind the crash. -/
structure EndN (c : St) (all : List Nat) : Prop where
  on : c.on = true
  b5 : c.B 5 = all
  b6 : ∃ t, c.B 6 = all ++ t ∧ t.length ≤ 3
theorem endN (all : List Nat) (keep : List Int) (flip : Int) : EndN (pCrash (tailN all) keep flip) all := by
  have hB5 : (tailN all).B 5 = all := by
    show setB (setB (filesN all 2) 6 (all ++ [9, 9, 9])) 8 [1] 5 = all
    rw [setB_far _ (by decide), setB_far _ (by decide)]
    exact files5 all
  have hB6 : (tailN all).B 6 = all ++ [9, 9, 9] := by
    show setB (setB (filesN all 2) 6 (all ++ [9, 9, 9])) 8 [1] 6 = all ++ [9, 9, 9]
    rw [setB_far _ (by decide)]
    exact setB_at _ _ _
  have hD5 : (tailN all).D 5 = all.length := congrArg List.length (files5 all)
  have hD6 : (tailN all).D 6 = all.length := congrArg List.length (files6 all)
  have hd : ∀ k, (tailN all).D k ≤ ((tailN all).B k).length := fun k => by
    show (filesN all 2 k).length ≤ (setB (setB (filesN all 2) 6 (all ++ [9, 9, 9])) 8 [1] k).length
    by_cases h8 : k = 8
    · subst h8; rw [filesN_ge all 2 8 (by omega)]; exact Nat.zero_le _
    · rw [setB_far _ h8]
      by_cases h6 : k = 6
      · subst h6; rw [setB_at, files6, List.length_append]; omega
      · rw [setB_far _ h6]; exact Nat.le_refl _
  have hp := crash_pre hd keep flip
  refine ⟨rfl, ?_, ?_⟩
  · obtain ⟨t, h1, h2⟩ := hp 5
    rw [hB5, hD5] at h1 h2
    have h3 : t = [] := List.eq_nil_of_length_eq_zero (by omega)
    rw [h1, h3, List.take_length, List.append_nil]
  · obtain ⟨t, h1, h2⟩ := hp 6
    rw [hB6, hD6] at h1 h2
    refine ⟨t, ?_, by rw [List.length_append] at h2; simp at h2; omega⟩
    rw [h1, List.take_append, List.take_length, Nat.sub_self, List.take_zero, List.append_nil]
/-- A file from 5 to 6 behind the crash. -/
theorem EndN.read {c : St} {all : List Nat} (h : EndN c all) {j : Nat} (hj : j < 2) : ∃ t, pRead c ((5 + j : Nat) : Int) = (0, all ++ t) ∧ t.length ≤ 3 ∧ (j = 0 → t = []) := by
  have hr : pRead c ((5 + j : Nat) : Int) = (0, c.B (5 + j)) := by
    unfold pRead
    rw [if_neg (by rw [isF_true (by omega)]; decide), h.on, if_neg (by decide), Int.toNat_natCast]
  rw [hr]
  rcases (show j = 0 ∨ j = 1 by omega) with rfl | rfl
  · exact ⟨[], by rw [show c.B (5 + 0) = all from h.b5, List.append_nil], by simp, fun _ => rfl⟩
  · obtain ⟨t, h1, h2⟩ := h.b6
    exact ⟨t, by rw [show c.B (5 + 1) = all ++ t from h1], h2, fun h => by omega⟩

/-- Two texts one behind the other. -/
def allN (x y : List Nat) : List Nat := ([] ++ (varN x.length ++ x)) ++ (varN y.length ++ y)
theorem allN_len {x y : List Nat} (hx : x.length ≤ 100) (hy : y.length ≤ 100) : (allN x y).length ≤ 300 := by
  have h1 := varN_len10 (n := x.length) (by omega)
  have h2 := varN_len10 (n := y.length) (by omega)
  unfold allN
  simp only [List.length_append, List.length_nil]
  omega
theorem allN_read {x y t : List Nat} (hx : x.length ≤ 100) (hy : y.length ≤ 100) : rRaw (allN x y ++ t, 0) = (x, (varN y.length ++ y ++ t, 0)) ∧ rRaw (varN y.length ++ y ++ t, 0) = (y, (t, 0)) := by
  refine ⟨?_, rRaw_round (by omega) t⟩
  have := rRaw_round (l := x) (by omega) (varN y.length ++ y ++ t)
  rw [← this]
  unfold allN
  simp only [List.nil_append, List.append_assoc]
theorem num_small {n : Int} (h : -9223372036854775808 ≤ n ∧ n ≤ 9223372036854775807) : Small n ∧ (txtN n).length ≤ 100 := by
  have h1 : n.natAbs ≤ 2 ^ 63 := by have h2 : (2 : Nat) ^ 63 = 9223372036854775808 := by decide
                                    rw [h2]; omega
  refine ⟨small_of h1 (by decide), ?_⟩
  have := txtN_len (n := n) (k := 19) (Nat.lt_of_le_of_lt h1 (by decide)) (by decide)
  omega
theorem prod_small {n m : Int} (h : -9223372036854775808 ≤ n ∧ n ≤ 9223372036854775807) (h2 : -9223372036854775808 ≤ m ∧ m ≤ 9223372036854775807) : Small (n * m) ∧ (txtN (n * m)).length ≤ 100 := by
  have h1 : (n * m).natAbs ≤ 2 ^ 126 := by
    rw [Int.natAbs_mul]
    have e : (2 : Nat) ^ 126 = 2 ^ 63 * 2 ^ 63 := by decide
    rw [e]
    have h3 : (2 : Nat) ^ 63 = 9223372036854775808 := by decide
    exact Nat.mul_le_mul (by rw [h3]; omega) (by rw [h3]; omega)
  refine ⟨small_of h1 (by decide), ?_⟩
  have := txtN_len (n := n * m) (k := 38) (Nat.lt_of_le_of_lt h1 (by decide)) (by decide)
  omega
end Go.Proofs.YtjoablphojkimaaGreatDoor
