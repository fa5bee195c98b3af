/-
  DiskNumbers: the states of a disk to which two files are written; what a crash leaves of them; two texts written one behind the other and read again. Numbers in memory away from a disk: what a disk's steps leave of them. Two results of a drawn region into two variables.
-/
import Derived.Test.YtjoablphojkimaaGreatDoorDkC
import Derived.Test.YtjoablphojkimaaGreatDoorWrM
import Derived.Test.YtjoablphojkimaaGreatDoorLwa
import Derived.Test.YtjoablphojkimaaGreatDoorCmn
import Derived.Deep.RegionHeld3
namespace Go.Proofs.YtjoablphojkimaaGreatDoor
open Go.RowKit Go.Shelf
set_option linter.unusedVariables false
set_option maxRecDepth 100000

theorem flipK_ge {B : Nat → List Nat} {D : Nat → Nat} : ∀ {ks : List Nat} {bit k p : Nat}, flipK B D ks bit = some (k, p) → 8 * D k ≤ p
  | [], _, _, _, h => by cases h
  | j :: t, bit, k, p, h => by
    have h2 : (if bit < 8 * ((B j).length - D j) then some (j, 8 * D j + bit) else flipK B D t (bit - 8 * ((B j).length - D j))) = some (k, p) := h
    split at h2
    · injection h2 with h2
      injection h2 with h3 h4
      subst h3
      omega
    · exact flipK_ge h2
/-- The durable part stands, whatever is behind it. -/
def PreN (B X : Nat → List Nat) (D : Nat → Nat) : Prop := ∀ k, ∃ t, X k = (B k).take (D k) ++ t ∧ D k + t.length ≤ (B k).length
theorem keep_pre {B : Nat → List Nat} {D : Nat → Nat} (keep : List Int) (hd : ∀ k, D k ≤ (B k).length) : PreN B (keepB B D keep) D := fun k => by
  refine ⟨((B k).drop (D k)).take (lostN (keepAt keep ((filesB B).idxOf k)) ((B k).length - D k)), ?_, ?_⟩
  · unfold keepB; rw [List.take_add]
  · rw [List.length_take, List.length_drop]; have := hd k; omega
theorem flip_pre {B X : Nat → List Nat} {D : Nat → Nat} (flip : Int) (hd : ∀ k, D k ≤ (B k).length) (h : PreN B X D) : PreN B (flipB X D flip) D := by
  unfold flipB
  split
  · split
    · rename_i kk p hf
      intro k
      obtain ⟨t, h1, h2⟩ := h k
      by_cases hk : k = kk
      · subst hk
        have hp := flipK_ge hf
        have hl : ((B k).take (D k)).length = D k := by rw [List.length_take]; have := hd k; omega
        refine ⟨t.set (p / 8 - D k) (flipN (((X k)[p / 8]?).getD 0) p), ?_, by rw [List.length_set]; exact h2⟩
        show setB X k _ k = _
        unfold setB
        rw [if_pos rfl]
        generalize flipN (((X k)[p / 8]?).getD 0) p = c
        rw [h1, List.set_append, if_neg (by omega), hl]
      · refine ⟨t, ?_, h2⟩
        show setB X kk _ k = _
        unfold setB
        rw [if_neg hk]
        exact h1
    · exact h
  · exact h
theorem crash_pre {s : St} (hd : ∀ k, s.D k ≤ (s.B k).length) (keep : List Int) (flip : Int) : PreN s.B (pCrash s keep flip).B s.D := flip_pre flip hd (keep_pre keep hd)

theorem sum_setM (g : Nat → Nat) (k a : Nat) : ∀ n, ((List.range n).map fun j => if j = k then a else g j).sum + (if k < n then g k else 0) = (if k < n then a else 0) + ((List.range n).map g).sum
  | 0 => by simp
  | n + 1 => by
    have h := sum_setM g k a n
    rw [List.range_succ, List.map_append, List.map_append, List.sum_append, List.sum_append]
    simp only [List.map_cons, List.map_nil, List.sum_cons, List.sum_nil, Nat.add_zero]
    by_cases h1 : n = k
    · subst h1
      rw [if_neg (Nat.lt_irrefl _), if_neg (Nat.lt_irrefl _)] at h
      rw [if_pos rfl, if_pos (Nat.lt_succ_self _), if_pos (Nat.lt_succ_self _)]
      omega
    · rw [if_neg h1]
      by_cases h2 : k < n
      · rw [if_pos h2, if_pos h2] at h
        rw [if_pos (by omega), if_pos (by omega)]
        omega
      · rw [if_neg h2, if_neg h2] at h
        rw [if_neg (by omega), if_neg (by omega)]
        omega
theorem sumM_set (B : Nat → List Nat) {k : Nat} (hk : k < 64) (x : List Nat) : sumB (setB B k x) + (B k).length = x.length + sumB B := by
  have h := sum_setM (fun j => (B j).length) k x.length 64
  rw [if_pos hk, if_pos hk] at h
  have e : (fun j => (setB B k x j).length) = fun j => if j = k then x.length else (B j).length := by
    funext j; unfold setB; split <;> rfl
  unfold sumB
  rw [e]
  exact h
theorem setB_at (B : Nat → List Nat) (k : Nat) (x : List Nat) : setB B k x k = x := if_pos rfl
theorem setB_far {B : Nat → List Nat} {k j : Nat} (x : List Nat) (h : j ≠ k) : setB B k x j = B j := if_neg h
theorem setB_two (B : Nat → List Nat) (k : Nat) (x y : List Nat) : setB (setB B k x) k y = setB B k y := by
  funext j; unfold setB; split <;> rfl
/-- A disk that is on, no failure armed. -/
def onN (B : Nat → List Nat) (D : Nat → Nat) : St := ⟨true, -1, B, D⟩
theorem appN {room k : Nat} (hk : k < 64) (B : Nat → List Nat) (D : Nat → Nat) (zs : List Nat) (hr : sumB B + zs.length ≤ room) : pApp room (onN B D) (k : Int) zs = (0, onN (setB B k (B k ++ zs)) D) := by
  unfold pApp
  rw [if_neg (by rw [isF_true (by omega)]; decide), if_neg (by show ¬ (true = false); decide), if_neg (fun h => h hr)]
  rfl
/-- The first j of the files 5, 6. -/
def filesN (all : List Nat) : Nat → Nat → List Nat
  | 0 => fun _ => []
  | j + 1 => setB (filesN all j) (5 + j) all
theorem filesN_ge (all : List Nat) : ∀ (j k : Nat), 5 + j ≤ k → filesN all j k = []
  | 0, _, _ => rfl
  | j + 1, k, h => by
    show setB _ _ _ _ = _
    rw [setB_far _ (by omega)]
    exact filesN_ge all j k (by omega)
theorem filesN_sum (all : List Nat) : ∀ (j : Nat), j ≤ 2 → sumB (filesN all j) = j * all.length
  | 0, _ => by show sumB (fun _ => []) = 0 * all.length; rw [Nat.zero_mul]; decide
  | j + 1, h => by
    have h1 := sumM_set (filesN all j) (k := 5 + j) (by omega) all
    rw [filesN_ge all j (5 + j) (Nat.le_refl _), filesN_sum all j (by omega)] at h1
    show sumB (setB _ _ _) = _
    rw [Nat.succ_mul]
    simp only [List.length_nil] at h1
    omega
/-- The two Appends of a round. -/
theorem filesN_app {all : List Nat} (hl : all.length ≤ 4000) {j : Nat} (hj : j < 2) (k : Nat) (D : Nat → Nat) :
    ∃ s1, pApp 20000 (onN (filesN all j) D) ((5 + j : Nat) : Int) (all.take k) = (0, s1) ∧ pApp 20000 s1 ((5 + j : Nat) : Int) (all.drop k) = (0, onN (filesN all (j + 1)) D) := by
  have hs := filesN_sum all j (by omega)
  have hm : j * all.length ≤ 2 * 4000 := Nat.mul_le_mul (by omega) hl
  have hlen := congrArg List.length (List.take_append_drop k all)
  rw [List.length_append] at hlen
  refine ⟨_, appN (by omega) _ D (all.take k) (by omega), ?_⟩
  have h1 := sumM_set (filesN all j) (k := 5 + j) (by omega) (filesN all j (5 + j) ++ all.take k)
  rw [List.length_append] at h1
  rw [appN (by omega) _ D (all.drop k) (by omega), setB_at, setB_two, filesN_ge all j (5 + j) (Nat.le_refl _), List.nil_append, List.take_append_drop]
  rfl
def lensN (all : List Nat) : Nat → Nat := fun k => (filesN all 2 k).length
theorem syncN (all : List Nat) (D : Nat → Nat) : pSync (onN (filesN all 2) D) = (0, onN (filesN all 2) (lensN all)) := rfl
def tailN (all : List Nat) : St := onN (setB (setB (filesN all 2) 6 (all ++ [9, 9, 9])) 8 [1]) (lensN all)
theorem files6 (all : List Nat) : filesN all 2 6 = all := setB_at _ _ _
theorem files5 (all : List Nat) : filesN all 2 5 = all := by
  show setB _ _ _ _ = _
  rw [setB_far _ (by decide)]
  exact setB_at _ _ _
theorem tailN_app {all : List Nat} (hl : all.length ≤ 4000) :
    ∃ s1, pApp 20000 (onN (filesN all 2) (lensN all)) 6 [9, 9, 9] = (0, s1) ∧ pApp 20000 s1 8 [1] = (0, tailN all) := by
  have hs := filesN_sum all 2 (by omega)
  have h6 := files6 all
  have h8 := filesN_ge all 2 8 (by omega)
  have h1 := appN (room := 20000) (k := 6) (by omega) (filesN all 2) (lensN all) [9, 9, 9] (by simp; omega)
  refine ⟨_, h1, ?_⟩
  have h2 := sumM_set (filesN all 2) (k := 6) (by omega) (filesN all 2 6 ++ [9, 9, 9])
  rw [List.length_append, h6] at h2
  have h3 := appN (room := 20000) (k := 8) (by omega) (setB (filesN all 2) 6 (filesN all 2 6 ++ [9, 9, 9])) (lensN all) [1] (by rw [h6]; simp at h2 ⊢; omega)
  rw [setB_far _ (by decide), h8] at h3
  rw [h6] at h3 ⊢
  exact h3
/-- What stands behind the crash. -/
structure EndN (c : St) (all : List Nat) : Prop where
  on : c.on = true
  b5 : c.B 5 = all
  b6 : ∃ t, c.B 6 = all ++ t ∧ t.length ≤ 3
theorem endN (all : List Nat) (keep : List Int) (flip : Int) : EndN (pCrash (tailN all) keep flip) all := by
  have hB5 : (tailN all).B 5 = all := by
    show setB (setB (filesN all 2) 6 (all ++ [9, 9, 9])) 8 [1] 5 = all
    rw [setB_far _ (by decide), setB_far _ (by decide)]
    exact files5 all
  have hB6 : (tailN all).B 6 = all ++ [9, 9, 9] := by
    show setB (setB (filesN all 2) 6 (all ++ [9, 9, 9])) 8 [1] 6 = all ++ [9, 9, 9]
    rw [setB_far _ (by decide)]
    exact setB_at _ _ _
  have hD5 : (tailN all).D 5 = all.length := congrArg List.length (files5 all)
  have hD6 : (tailN all).D 6 = all.length := congrArg List.length (files6 all)
  have hd : ∀ k, (tailN all).D k ≤ ((tailN all).B k).length := fun k => by
    show (filesN all 2 k).length ≤ (setB (setB (filesN all 2) 6 (all ++ [9, 9, 9])) 8 [1] k).length
    by_cases h8 : k = 8
    · subst h8; rw [filesN_ge all 2 8 (by omega)]; exact Nat.zero_le _
    · rw [setB_far _ h8]
      by_cases h6 : k = 6
      · subst h6; rw [setB_at, files6, List.length_append]; omega
      · rw [setB_far _ h6]; exact Nat.le_refl _
  have hp := crash_pre hd keep flip
  refine ⟨rfl, ?_, ?_⟩
  · obtain ⟨t, h1, h2⟩ := hp 5
    rw [hB5, hD5] at h1 h2
    have h3 : t = [] := List.eq_nil_of_length_eq_zero (by omega)
    rw [h1, h3, List.take_length, List.append_nil]
  · obtain ⟨t, h1, h2⟩ := hp 6
    rw [hB6, hD6] at h1 h2
    refine ⟨t, ?_, by rw [List.length_append] at h2; simp at h2; omega⟩
    rw [h1, List.take_append, List.take_length, Nat.sub_self, List.take_zero, List.append_nil]
/-- A file from 5 to 6 behind the crash. -/
theorem EndN.read {c : St} {all : List Nat} (h : EndN c all) {j : Nat} (hj : j < 2) : ∃ t, pRead c ((5 + j : Nat) : Int) = (0, all ++ t) ∧ t.length ≤ 3 ∧ (j = 0 → t = []) := by
  have hr : pRead c ((5 + j : Nat) : Int) = (0, c.B (5 + j)) := by
    unfold pRead
    rw [if_neg (by rw [isF_true (by omega)]; decide), h.on, if_neg (by decide), Int.toNat_natCast]
  rw [hr]
  rcases (show j = 0 ∨ j = 1 by omega) with rfl | rfl
  · exact ⟨[], by rw [show c.B (5 + 0) = all from h.b5, List.append_nil], by simp, fun _ => rfl⟩
  · obtain ⟨t, h1, h2⟩ := h.b6
    exact ⟨t, by rw [show c.B (5 + 1) = all ++ t from h1], h2, fun h => by omega⟩

/-- Two texts one behind the other. -/
def allN (x y : List Nat) : List Nat := ([] ++ (varN x.length ++ x)) ++ (varN y.length ++ y)
theorem allN_len {x y : List Nat} (hx : x.length ≤ 100) (hy : y.length ≤ 100) : (allN x y).length ≤ 300 := by
  have h1 := varN_len10 (n := x.length) (by omega)
  have h2 := varN_len10 (n := y.length) (by omega)
  unfold allN
  simp only [List.length_append, List.length_nil]
  omega
theorem allN_read {x y t : List Nat} (hx : x.length ≤ 100) (hy : y.length ≤ 100) : rRaw (allN x y ++ t, 0) = (x, (varN y.length ++ y ++ t, 0)) ∧ rRaw (varN y.length ++ y ++ t, 0) = (y, (t, 0)) := by
  refine ⟨?_, rRaw_round (by omega) t⟩
  have := rRaw_round (l := x) (by omega) (varN y.length ++ y ++ t)
  rw [← this]
  unfold allN
  simp only [List.nil_append, List.append_assoc]
theorem num_small {n : Int} (h : -9223372036854775808 ≤ n ∧ n ≤ 9223372036854775807) : Small n ∧ (txtN n).length ≤ 100 := by
  have h1 : n.natAbs ≤ 2 ^ 63 := by have h2 : (2 : Nat) ^ 63 = 9223372036854775808 := by decide
                                    rw [h2]; omega
  refine ⟨small_of h1 (by decide), ?_⟩
  have := txtN_len (n := n) (k := 19) (Nat.lt_of_le_of_lt h1 (by decide)) (by decide)
  omega
theorem prod_small {n m : Int} (h : -9223372036854775808 ≤ n ∧ n ≤ 9223372036854775807) (h2 : -9223372036854775808 ≤ m ∧ m ≤ 9223372036854775807) : Small (n * m) ∧ (txtN (n * m)).length ≤ 100 := by
  have h1 : (n * m).natAbs ≤ 2 ^ 126 := by
    rw [Int.natAbs_mul]
    have e : (2 : Nat) ^ 126 = 2 ^ 63 * 2 ^ 63 := by decide
    rw [e]
    have h3 : (2 : Nat) ^ 63 = 9223372036854775808 := by decide
    exact Nat.mul_le_mul (by rw [h3]; omega) (by rw [h3]; omega)
  refine ⟨small_of h1 (by decide), ?_⟩
  have := txtN_len (n := n * m) (k := 38) (Nat.lt_of_le_of_lt h1 (by decide)) (by decide)
  omega

/-- No words lie in the blocks A. -/
def FarN (W : World) (A : Foot) : Prop := ∀ v z zs, Row .u32 W v (z :: zs) → ∀ k, blockOf v k → ¬ A k
theorem row_here {W : World} {v : Value} {z : Int} {zs : List Int} (h : Row .u32 W v (z :: zs)) {k : Nat} (hk : blockOf v k) : ∃ off u, W.cell? ⟨k, off, none⟩ = some (.int .u32 u) := by
  obtain ⟨a, cap, rfl, _, _, hne, _⟩ := h
  obtain ⟨b, off, rfl, hc⟩ := hne (by simp)
  obtain rfl : k = b := hk
  exact ⟨off + 0, _, hc 0 (by simp)⟩
theorem new_far (w : World) : Calls Tryz.prog 5 #[.int .i64 20000] w fun e w' =>
    ∃ d A, e = .returned (.tuple #[.pointer (some ⟨d, 0, none⟩), .int .i64 0]) ∧ Dsk w.heap.size w' A d 20000 pNew ∧ Below w.heap.size w w' ∧ ∀ W, Below w'.heap.size w' W → FarN W A := by
  refine (new_any 20000 w).mono ?_
  rintro e w' ⟨_, h2⟩
  obtain ⟨d, b, he, hd, hd1, hb1, hb⟩ := h2 (by decide)
  have hdl := hd.dk.lt
  have hbl : b < w'.heap.size := by
    obtain ⟨es, clock, hm, _⟩ := hd.mp
    exact (Array.getElem?_eq_some_iff.1 hm).1
  refine ⟨d, fun k => k = d ∨ k = b, he, ⟨dks_of hd (fun k => rfl) (fun k => rfl) (fun k hk => ?_), fun k hk => by omega, fun k hk => by omega⟩, hb, fun W hW v z zs hr k hk hA => ?_⟩
  · rcases hk with h | h | ⟨f, hf, _⟩
    · exact .inl h
    · exact .inr h
    · simp at hf
  · obtain ⟨off, u, hc⟩ := row_here hr hk
    rcases hA with rfl | rfl
    · have h1 := (hd.dk.below hW).cell off
      rw [hc] at h1
      rcases off with _ | _ | _ | _ | off
      · simp at h1
      · simp at h1
      · simp at h1
      · simp at h1
      · simp at h1
    · obtain ⟨es, clock, hm, _⟩ := hd.mp
      have h1 := (Keeps.of_below hW).obj hm (by omega)
      unfold World.cell? at hc
      simp [h1] at hc
/-- A number in a variable, none of it in the blocks A. -/
def NumFar (W : World) (A : Foot) (t : Nat) (n : Int) : Prop := ∃ s a m c, Laid W t 29 [.bool s, .slice a m c] ∧ IAt W (.agg #[.bool s, .slice a m c]) n ∧ ¬ A t ∧ (digsW n.natAbs = [] ∨ ∀ k, blockOf (.slice a m c) k → ¬ A k)
section
variable {W W2 : World} {A A2 : Foot} {t : Nat} {n : Int}
theorem NumFar.of (h : IBox W t n) (hf : FarN W A) (ht : ¬ A t) : NumFar W A t n := by
  obtain ⟨s, a, m, c, h1, h2⟩ := h
  refine ⟨s, a, m, c, h1, h2, ht, ?_⟩
  obtain ⟨v, e, hr⟩ := h2
  injection e with e
  obtain rfl : v = .slice a m c := (by have e2 := congrArg Array.toList e; simp at e2; exact e2.2.symm)
  cases hz : natI (digsW n.natAbs) with
  | nil =>
    refine .inl ?_
    unfold natI at hz
    exact List.map_eq_nil_iff.1 hz
  | cons z zs =>
    rw [hz] at hr
    exact .inr (hf _ _ _ hr)
theorem NumFar.box (h : NumFar W A t n) : IBox W t n := by
  obtain ⟨s, a, m, c, h1, h2, _⟩ := h
  exact ⟨s, a, m, c, h1, h2⟩
theorem row_nil {k : IntKind} {v : Value} (h : Row k W v []) : Row k W2 v [] := by
  obtain ⟨a, cap, h1, h2, h3, _, h5⟩ := h
  exact ⟨a, cap, h1, h2, h3, fun h => absurd rfl h, h5⟩
theorem NumFar.step (h : NumFar W A t n) (hk : Keeps A W W2) (hf : ∀ k, A2 k → A k ∨ W.heap.size ≤ k) : NumFar W2 A2 t n := by
  obtain ⟨s, a, m, c, h1, ⟨v, e, hr⟩, ht, hb⟩ := h
  injection e with e
  obtain rfl : v = .slice a m c := (by have e2 := congrArg Array.toList e; simp at e2; exact e2.2.symm)
  have hr2 : Row .u32 W2 (.slice a m c) (natI (digsW n.natAbs)) := by
    rcases hb with hb | hb
    · rw [hb] at hr ⊢
      exact row_nil hr
    · exact row_foot hr hk hb
  refine ⟨s, a, m, c, h1.keeps hk ht, ⟨_, congrArg Value.agg e, hr2⟩, fun h => (hf t h).elim ht (fun h3 => by have := h1.lt; omega), ?_⟩
  rcases hb with hb | hb
  · exact .inl hb
  · cases hz : natI (digsW n.natAbs) with
    | nil =>
      refine .inl ?_
      unfold natI at hz
      exact List.map_eq_nil_iff.1 hz
    | cons z zs =>
      rw [hz] at hr
      refine .inr (fun k hk h => (hf k h).elim (hb k hk) (fun h3 => ?_))
      obtain ⟨off, u, hc⟩ := row_here hr hk
      have := World.block_lt_of_cell? _ _ hc
      have h4 : k < W.heap.size := this
      omega
theorem NumFar.below (h : NumFar W A t n) (hb : Below W.heap.size W W2) : NumFar W2 A t n := by
  obtain ⟨s, a, m, c, h1, h2, h3, h4⟩ := h
  exact ⟨s, a, m, c, h1.below hb, iat_keeps h2 hb, h3, h4⟩
/-- Bytes of one's own away from A. -/
structure FarB (W : World) (A : Foot) (v : Value) (l : List Int) : Prop where
  row : Fresh 0 5 .u8 W v l
  away : ∀ j, v.ownBlock = some j → ¬ A j
theorem FarB.below {v : Value} {l : List Int} (h : FarB W A v l) (hb : Below W.heap.size W W2) : FarB W2 A v l := ⟨own_foot2 h.row (Keeps.of_below hb) (fun j hj hn => by have := (h.row.lt j hj).2; omega), h.away⟩
theorem FarB.keeps {v : Value} {l : List Int} (h : FarB W A v l) (hk : Keeps A W W2) (hf : ∀ k, A2 k → A k ∨ W.heap.size ≤ k) : FarB W2 A2 v l := ⟨own_foot2 h.row hk h.away, fun j hj h2 => (hf j h2).elim (h.away j hj) (fun h3 => by have := (h.row.lt j hj).2; omega)⟩
end
/-- A disk and two numbers away from it. -/
structure DN (n : Nat) (W : World) (A : Foot) (d : Nat) (s : St) (ta tp : Nat) (a p : Int) : Prop where
  dk : Dsk n W A d 20000 s
  na : NumFar W A ta a
  np : NumFar W A tp p
section
variable {n : Nat} {W W2 : World} {A A2 : Foot} {d ta tp : Nat} {s s2 : St} {a p : Int}
theorem DN.below (h : DN n W A d s ta tp a p) (hb : Below W.heap.size W W2) : DN n W2 A d s ta tp a p := ⟨h.dk.below hb, h.na.below hb, h.np.below hb⟩
theorem DN.step (h : DN n W A d s ta tp a p) (hu : UpS W A d 20000 s2 W2) (hn : n ≤ W.heap.size) : ∃ A2, DN n W2 A2 d s2 ta tp a p ∧ Keeps A W W2 ∧ (∀ k, A2 k → A k ∨ W.heap.size ≤ k) ∧ Below n W W2 := by
  obtain ⟨A2, hd, hk, hf, hb⟩ := h.dk.up hu hn
  exact ⟨A2, ⟨hd, h.na.step hk hf, h.np.step hk hf⟩, hk, hf, hb⟩
end
theorem below_cutN {a b c : World} (h : Below a.heap.size a b) (k : Below b.heap.size b c) : Below a.heap.size a c := h.trans (k.mono h.size)

/-- Two variables of new integers, and all else as it was. -/
def TwoI (W F : World) (p q : Nat) (a b : Int) : Prop := IBox F p a ∧ IBox F q b ∧ Below W.heap.size W F
theorem twoi_end {W F : World} {p q : Nat} {a b : Int} (h : TwoI W F p q a b) : ∃ p2 q2 : Nat, Value.pointer (some ⟨p, 0, none⟩) = .pointer (some ⟨p2, 0, none⟩) ∧ Value.pointer (some ⟨q, 0, none⟩) = .pointer (some ⟨q2, 0, none⟩) ∧ Hid (IBox F p2 a) ∧ Hid (IBox F q2 b) ∧ Hid (Below W.heap.size W F) := ⟨p, q, rfl, rfl, Lib.hid h.1, Lib.hid h.2.1, Lib.hid h.2.2⟩
theorem twoi_end2 {W F : World} {p q : Nat} {a b : Int} (h : TwoI W F q p b a) : ∃ p2 q2 : Nat, Value.pointer (some ⟨p, 0, none⟩) = .pointer (some ⟨p2, 0, none⟩) ∧ Value.pointer (some ⟨q, 0, none⟩) = .pointer (some ⟨q2, 0, none⟩) ∧ Hid (IBox F p2 a) ∧ Hid (IBox F q2 b) ∧ Hid (Below W.heap.size W F) := ⟨p, q, rfl, rfl, Lib.hid h.2.1, Lib.hid h.1, Lib.hid h.2.2⟩
theorem below_setI {W X : World} {p : Nat} {u v : Value} (h : Below W.heap.size W X) (hp : W.heap.size ≤ p) : Below W.heap.size W ((X.setCell ⟨p, 0, none⟩ u).setCell ⟨p, 1, none⟩ v) := (h.setCell (p := ⟨p, 0, none⟩) hp _).setCell (p := ⟨p, 1, none⟩) hp _
theorem ibox_zero2 (W : World) : IBox ((W.alloc (.cells #[.bool false, .slice none 0 0] 29)).alloc (.cells #[.bool false, .slice none 0 0] 29)) W.heap.size 0 ∧ IBox ((W.alloc (.cells #[.bool false, .slice none 0 0] 29)).alloc (.cells #[.bool false, .slice none 0 0] 29)) (W.heap.size + 1) 0 :=
  ⟨(ibox_two (iat_zero W) (iat_zero W)).1, (ibox_two (iat_zero W) (iat_zero W)).2.1⟩
section
variable {W w10 : World} {a b : Int} {s t : Bool} {x y : Option Addr} {i j c d : Nat}
theorem twoi_two (hx : IAt w10 (.agg #[.bool s, .slice x i c]) a) (hy : IAt w10 (.agg #[.bool t, .slice y j d]) b) (hb : Below W.heap.size W w10) :
    TwoI W ((w10.alloc (.cells #[.bool s, .slice x i c] 29)).alloc (.cells #[.bool t, .slice y j d] 29)) w10.heap.size (w10.heap.size + 1) a b :=
  ⟨(ibox_two hx hy).1, (ibox_two hx hy).2.1, below_then (below_then hb (below_one _ _)) (below_one _ _)⟩
theorem twoi_pre1 {p : Nat} (h0 : IBox w10 p 0) (hp : W.heap.size ≤ p) (hx : IAt w10 (.agg #[.bool s, .slice x i c]) a) (hy : IAt w10 (.agg #[.bool t, .slice y j d]) b) (hb : Below W.heap.size W w10) :
    TwoI W (((w10.setCell ⟨p, 0, none⟩ (.bool s)).setCell ⟨p, 1, none⟩ (.slice x i c)).alloc (.cells #[.bool t, .slice y j d] 29)) p w10.heap.size a b := by
  have k0 := h0.store hx
  obtain ⟨_, _, _, _, l0, _⟩ := h0
  have hy2 : IAt ((w10.setCell ⟨p, 0, none⟩ (.bool s)).setCell ⟨p, 1, none⟩ (.slice x i c)) (.agg #[.bool t, .slice y j d]) b := iat_set (iat_set hy l0 0 _) (l0.set 0 _) 1 _
  have k1 := IBox.new hy2
  simp only [World.size_setCell] at k1
  exact ⟨k0.below (below_one _ _), k1, below_then (below_setI hb hp) (below_one _ _)⟩
theorem twoi_pre2 {p q : Nat} (h0 : IBox w10 p 0) (h1 : IBox w10 q 0) (hp : W.heap.size ≤ p) (hq : W.heap.size ≤ q) (hx : IAt w10 (.agg #[.bool s, .slice x i c]) a) (hy : IAt w10 (.agg #[.bool t, .slice y j d]) b) (hb : Below W.heap.size W w10) (hne : p ≠ q) :
    TwoI W ((((w10.setCell ⟨p, 0, none⟩ (.bool s)).setCell ⟨p, 1, none⟩ (.slice x i c)).setCell ⟨q, 0, none⟩ (.bool t)).setCell ⟨q, 1, none⟩ (.slice y j d)) p q a b := by
  have k0 := h0.store hx
  have k1 := h0.other h1 (Ne.symm hne) (s := s) (a := x) (m := i) (c := c)
  obtain ⟨_, _, _, _, l0, _⟩ := h0
  have hy2 : IAt ((w10.setCell ⟨p, 0, none⟩ (.bool s)).setCell ⟨p, 1, none⟩ (.slice x i c)) (.agg #[.bool t, .slice y j d]) b := iat_set (iat_set hy l0 0 _) (l0.set 0 _) 1 _
  exact ⟨k1.other k0 hne, k1.store hy2, (((hb.setCell (p := ⟨p, 0, none⟩) hp _).setCell (p := ⟨p, 1, none⟩) hp _).setCell (p := ⟨q, 0, none⟩) hq _).setCell (p := ⟨q, 1, none⟩) hq _⟩
end
end Go.Proofs.YtjoablphojkimaaGreatDoor
