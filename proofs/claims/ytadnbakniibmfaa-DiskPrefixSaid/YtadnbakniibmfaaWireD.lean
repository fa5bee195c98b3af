/-
  The reference's reader: signed numbers, truth values, lengths, byte slices, lists, the end.
-/
import Derived.Test.YtadnbakniibmfaaWireC
namespace Go.Proofs.Ytadnbakniibmfaa
open Go.RowKit Go.Shelf
set_option linter.unusedVariables false

def rInt (s : RS) : Int × RS := (zagI (rUint s).1, (rUint s).2)
def rBool (s : RS) : Bool × RS :=
  if s.2 ≠ 0 then (false, s) else match s.1 with
  | [] => (false, ([], 3))
  | c :: l => if 1 < c then (false, (c :: l, 2)) else (decide (c = 1), (l, 0))
def rLen (s : RS) : Nat × RS :=
  if (rUint s).2.2 ≠ 0 then (0, (rUint s).2) else if (rUint s).2.1.length < (rUint s).1 then (0, ((rUint s).2.1, 3)) else rUint s
def rRaw (s : RS) : List Nat × RS :=
  if (rLen s).2.2 ≠ 0 then ([], (rLen s).2) else ((rLen s).2.1.take (rLen s).1, ((rLen s).2.1.drop (rLen s).1, 0))
def rMany : Nat → RS → List Int × RS
  | 0, s => ([], s)
  | n + 1, s => ((rInt s).1 :: (rMany n (rInt s).2).1, (rMany n (rInt s).2).2)
def rInts (s : RS) : List Int × RS :=
  if (rMany (rLen s).1 (rLen s).2).2.2 ≠ 0 then ([], (rMany (rLen s).1 (rLen s).2).2) else rMany (rLen s).1 (rLen s).2
def rEnd (s : RS) : Nat := if s.2 = 0 ∧ s.1 ≠ [] then 2 else s.2

theorem rUint_lt {s : RS} (h8 : ∀ c ∈ s.1, c < 256) : (rUint s).1 < 18446744073709551616 := by
  unfold rUint
  split
  · cases h : readVar 0 s.1 with
    | err e => show 0 < _; exact (by decide)
    | val n r => exact (readVar_one s.1 h8 0 (by decide) n r h).2.1
  · show 0 < _; exact (by decide)
theorem rUint_err {s : RS} (h : s.2 ≠ 0) : rUint s = (0, s) := by unfold rUint; rw [if_neg h]
theorem rInt_err {s : RS} (h : s.2 ≠ 0) : (rInt s).2 = s := by unfold rInt; rw [rUint_err h]
theorem rMany_err (n : Nat) {s : RS} (h : s.2 ≠ 0) : (rMany n s).2 = s := by
  induction n generalizing s with
  | zero => rfl
  | succ n ih => show (rMany n (rInt s).2).2 = s; rw [rInt_err h]; exact ih h

theorem rLen_le (s : RS) (h : (rLen s).2.2 = 0) : (rLen s).1 ≤ (rLen s).2.1.length := by
  unfold rLen at *
  split at h
  · rename_i h1; exact absurd h h1
  · rw [if_neg ‹_›]
    split at h
    · simp at h
    · rw [if_neg ‹_›]; omega

theorem row_take {W : World} {b off cap m : Nat} {k : IntKind} {l : List Int} (h : Row k W (.slice (some ⟨b, off, none⟩) l.length cap) l) (hm : m ≤ l.length) : Row k W (.slice (some ⟨b, off, none⟩) m cap) (l.take m) := by
  obtain ⟨a, cap', e1, h2, h3, h4, _⟩ := h
  injection e1 with e1 e2 e3
  subst e1 e3
  have e : (l.take m).length = m := by rw [List.length_take]; omega
  refine ⟨_, cap, by rw [e], by rw [e]; omega, h3, fun hne => ?_, fun h => by cases h⟩
  obtain ⟨b', off', e4, hc⟩ := h4 (fun h => hne (by rw [h]; simp))
  refine ⟨b', off', e4, fun j hj => ?_⟩
  rw [e] at hj
  rw [hc j (by omega), List.getElem?_take_of_lt hj]

end Go.Proofs.Ytadnbakniibmfaa
