/-
  A disk with one file, behind a failure of the power.
-/
import Derived.Test.YtjoablphojkimaaGreatDoorDmv
namespace Go.Proofs.YtjoablphojkimaaGreatDoor
open Go.RowKit Go.Shelf
set_option linter.unusedVariables false
set_option maxRecDepth 100000

def oneB (k : Nat) (ys : List Nat) : Nat → List Nat := setB (fun _ => []) k ys
theorem oneB_at (k : Nat) (ys : List Nat) : oneB k ys k = ys := by unfold oneB setB; rw [if_pos rfl]
theorem oneB_far {k j : Nat} (ys : List Nat) (h : j ≠ k) : oneB k ys j = [] := by unfold oneB setB; rw [if_neg h]
theorem files_one {k : Nat} (hk : k < 64) {ys : List Nat} (hne : ys ≠ []) : filesB (oneB k ys) = [k] := by
  refine sorted_ext (List.Pairwise.filter _ List.pairwise_lt_range) (by simp) (fun x => ?_)
  unfold filesB
  rw [List.mem_filter, List.mem_range, List.mem_singleton]
  constructor
  · rintro ⟨_, hx⟩
    by_cases h : x = k
    · exact h
    · rw [oneB_far ys h] at hx; simp at hx
  · rintro rfl
    refine ⟨hk, ?_⟩
    rw [oneB_at]
    cases ys with
    | nil => exact absurd rfl hne
    | cons a t => rfl
theorem loose_one {k : Nat} (hk : k < 64) (ys : List Nat) (D : Nat → Nat) : looseS (oneB k ys) D = ys.length - D k := by
  have h := sum_put (fun _ => 0) k (ys.length - D k) rfl 64
  rw [if_pos hk] at h
  have e : (fun j => (oneB k ys j).length - D j) = fun j => if j = k then ys.length - D k else 0 := by
    funext j
    by_cases hj : j = k
    · rw [if_pos hj, hj, oneB_at]
    · rw [if_neg hj, oneB_far ys hj]; simp
  have h0 : ((List.range 64).map fun _ => 0).sum = 0 := by decide
  unfold looseS
  rw [e, h, h0]
  rfl
theorem keep_one {k : Nat} (hk : k < 64) (ys : List Nat) (D : Nat → Nat) (keep : List Int) : keepB (oneB k ys) D keep = oneB k (ys.take (D k + lostN (keepAt keep 0) (ys.length - D k))) := by
  funext j
  unfold keepB
  by_cases hj : j = k
  · subst hj
    rw [oneB_at, oneB_at]
    by_cases hne : ys = []
    · rw [hne, List.take_nil, List.take_nil]
    · rw [files_one hk hne, show List.idxOf j [j] = 0 by simp]
  · rw [oneB_far _ hj, oneB_far _ hj, List.take_nil]
theorem flipK_one {k bit : Nat} {B : Nat → List Nat} {D : Nat → Nat} (hb : bit < 8 * ((B k).length - D k)) (hB : ∀ j, j ≠ k → B j = []) : ∀ {ks : List Nat}, k ∈ ks → flipK B D ks bit = some (k, 8 * D k + bit)
  | [], h => by simp at h
  | j :: t, h => by
    by_cases hj : j = k
    · subst hj
      show (if bit < 8 * ((B j).length - D j) then _ else _) = _
      rw [if_pos hb]
    · have hz := hB j hj
      show (if bit < 8 * ((B j).length - D j) then _ else _) = _
      rw [if_neg (by rw [hz]; simp), show bit - 8 * ((B j).length - D j) = bit by rw [hz]; simp]
      exact flipK_one hb hB ((List.mem_cons.1 h).resolve_left (fun e => hj e.symm))
def turn (zs : List Nat) (p : Nat) : List Nat := zs.set (p / 8) (flipN ((zs[p / 8]?).getD 0) p)
def crashL (ys : List Nat) (dur : Nat) (q flip : Int) : List Nat :=
  if 0 ≤ flip ∧ 0 < (ys.take (dur + lostN q (ys.length - dur))).length - dur then turn (ys.take (dur + lostN q (ys.length - dur))) (8 * dur + flip.toNat % (8 * ((ys.take (dur + lostN q (ys.length - dur))).length - dur))) else ys.take (dur + lostN q (ys.length - dur))
theorem crash_one {k : Nat} (hk : k < 64) (ys : List Nat) (on : Bool) (left : Int) (D : Nat → Nat) (keep : List Int) (flip : Int) :
    (pCrash ⟨on, left, oneB k ys, D⟩ keep flip).B = oneB k (crashL ys (D k) (keepAt keep 0) flip) := by
  unfold pCrash
  show flipB (keepB (oneB k ys) D keep) D flip = _
  rw [keep_one hk]
  generalize hzs : ys.take (D k + lostN (keepAt keep 0) (ys.length - D k)) = zs
  unfold flipB crashL
  rw [loose_one hk, hzs]
  by_cases hc : 0 ≤ flip ∧ 0 < zs.length - D k
  · rw [if_pos hc, if_pos hc]
    rw [flipK_one (k := k) (bit := flip.toNat % (8 * (zs.length - D k))) (by rw [oneB_at]; exact Nat.mod_lt _ (by omega)) (fun j hj => oneB_far zs hj) (List.mem_range.2 hk)]
    show turnB (oneB k zs) k _ = _
    funext j
    unfold turnB setB turn
    by_cases hj : j = k
    · rw [if_pos hj, hj, oneB_at, oneB_at]
    · rw [if_neg hj, oneB_far _ hj, oneB_far _ hj]
  · rw [if_neg hc, if_neg hc]
theorem turn_len (zs : List Nat) (p : Nat) : (turn zs p).length = zs.length := by unfold turn; rw [List.length_set]
theorem turn_lt {zs : List Nat} (h : ∀ c ∈ zs, c < 256) {p : Nat} (hp : p / 8 < zs.length) : ∀ c ∈ turn zs p, c < 256 := by
  intro c hc
  unfold turn at hc
  have h8 : (zs[p / 8]?).getD 0 < 256 := by rw [List.getElem?_eq_getElem hp]; exact h _ (List.getElem_mem hp)
  rcases List.mem_or_eq_of_mem_set hc with h1 | h1
  · exact h c h1
  · rw [h1]; exact (flip_bits p h8).2.1
theorem turn_ne {zs : List Nat} (h : ∀ c ∈ zs, c < 256) {p : Nat} (hp : p / 8 < zs.length) : turn zs p ≠ zs := by
  intro e
  have h8 : (zs[p / 8]?).getD 0 < 256 := by rw [List.getElem?_eq_getElem hp]; exact h _ (List.getElem_mem hp)
  have h1 := congrArg (fun l : List Nat => l[p / 8]?) e
  unfold turn at h1
  simp only [List.getElem?_set_self hp, List.getElem?_eq_getElem hp, Option.getD_some] at h1
  injection h1 with h1
  rw [List.getElem?_eq_getElem hp] at h8
  exact (flip_bits p h8).2.2 h1
theorem app_one {room k : Nat} (hk : k < 64) {s : St} {ys : List Nat} (hon : s.on = true) (hl : s.left = -1) (hB : s.B = oneB k ys) {zs : List Nat} (hroom : ys.length + zs.length ≤ room) :
    pApp room s (k : Int) zs = (0, ⟨true, -1, oneB k (ys ++ zs), s.D⟩) := by
  obtain ⟨on, left, B, D⟩ := s
  subst hon hl hB
  unfold pApp
  rw [isF_true (by omega), if_neg (fun h => by cases h), if_neg (fun h => by cases h), if_neg (by
    show ¬ ¬ sumB (setB (fun _ => []) k ys) + zs.length ≤ room
    rw [sum_one hk]
    exact fun h => h hroom)]
  have e : setB (oneB k ys) (k : Int).toNat (oneB k ys (k : Int).toNat ++ zs) = oneB k (ys ++ zs) := by
    rw [Int.toNat_natCast, oneB_at]
    funext j
    unfold oneB setB
    by_cases hj : j = k
    · rw [if_pos hj, if_pos hj]
    · rw [if_neg hj, if_neg hj, if_neg hj]
  show (_, _) = _
  rw [e]
  rfl
theorem sync_one {s : St} (hon : s.on = true) (hl : s.left = -1) : pSync s = (0, ⟨true, -1, s.B, fun k => (s.B k).length⟩) := by
  obtain ⟨on, left, B, D⟩ := s
  subst hon hl
  rfl
theorem read_one {k : Nat} (hk : k < 64) {s : St} {ys : List Nat} (hon : s.on = true) (hB : s.B = oneB k ys) : (pRead s (k : Int)).1 = 0 ∧ (pRead s (k : Int)).2 = ys := by
  unfold pRead
  rw [isF_true (by omega), if_neg (fun h => by cases h), if_neg (by rw [hon]; decide), hB, Int.toNat_natCast, oneB_at]
  exact ⟨rfl, rfl⟩
end Go.Proofs.YtjoablphojkimaaGreatDoor
