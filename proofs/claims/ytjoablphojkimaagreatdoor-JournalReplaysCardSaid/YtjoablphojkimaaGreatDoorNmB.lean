/-
  The reference of package wide: integers as they lie in memory; normal, Of, comparing, adding, subtracting.
  The reference of package wide: Of, comparing, adding, subtracting.
  The reference of package wide: comparing.
  The reference of package wide: Compare, adding, subtracting.
  The reference of package wide: subtracting and adding digits.
-/
import Derived.Test.YtjoablphojkimaaGreatDoorBase
import Derived.Test.YtjoablphojkimaaGreatDoorNumA
namespace Go.Proofs.YtjoablphojkimaaGreatDoor
open Go.RowKit Go.Shelf
set_option linter.unusedVariables false
set_option maxRecDepth 100000

/-- The value x of the reference is the integer n. -/
def NAt (W : World) (x : Value) (n : Int) : Prop := ∃ v, x = .agg #[.bool (decide (n < 0)), v] ∧ Row .i64 W v (natI (digs n.natAbs))
theorem nat_keeps {W W2 : World} {x : Value} {n : Int} (h : NAt W x n) (hb : Below W.heap.size W W2) : NAt W2 x n := by
  obtain ⟨v, h1, h2⟩ := h
  exact ⟨v, h1, row_keeps h2 hb⟩
def NEnd (n : Int) (w : World) (e : Ending) (w' : World) : Prop := ∃ x, e = .returned x ∧ NAt w' x n ∧ Below w.heap.size w w'
def sgn (neg : Bool) (m : Nat) : Int := if neg then -(m : Int) else (m : Int)
theorem sgn_abs (neg : Bool) (m : Nat) : (sgn neg m).natAbs = m := by unfold sgn; split <;> omega
theorem sgn_neg (neg : Bool) (m : Nat) : decide (sgn neg m < 0) = (neg && decide (0 < m)) := by
  unfold sgn
  cases neg
  · simp
  · simp
def lenOfV : Value → Nat
  | .slice _ n _ => n
  | _ => 0
theorem row_nil_of {k : IntKind} {W : World} (a : Option Addr) (cap : Nat) (h : a = none → cap = 0) (hc : cap ≤ 9223372036854775807) : Row k W (.slice a 0 cap) [] :=
  ⟨a, cap, rfl, Nat.zero_le _, hc, fun h => (h rfl).elim, fun e => ⟨rfl, h e⟩⟩
theorem natI_take (d : List Nat) (m : Nat) : natI (d.take m) = (natI d).take m := by simp [natI, List.map_take]

theorem row_cutW {k : IntKind} {W : World} {p : Option Addr} {cap m : Nat} {l : List Int} (h : Row k W (.slice p l.length cap) l) (hm : m ≤ l.length) : Row k W (.slice p m cap) (l.take m) := by
  obtain ⟨a, cap', e1, h2, h3, h4, h5⟩ := h
  injection e1 with e1 _ e3
  subst e1 e3
  have e : (l.take m).length = m := by rw [List.length_take]; omega
  refine ⟨p, cap, by rw [e], by rw [e]; omega, h3, fun hne => ?_, fun h => ?_⟩
  · obtain ⟨b', off', e4, hc⟩ := h4 (fun h => hne (by rw [h]; simp))
    refine ⟨b', off', e4, fun j hj => ?_⟩
    rw [e] at hj
    rw [hc j (by omega), List.getElem?_take_of_lt hj]
  · obtain ⟨h6, h7⟩ := h5 h
    exact ⟨by rw [h6]; simp, h7⟩

/-- the same, and the digits lie where the argument's lay -/
def NEndAt (p : Option Addr) (n : Int) (w : World) (e : Ending) (w' : World) : Prop := ∃ b m k, e = .returned (.agg #[.bool b, .slice p m k]) ∧ NAt w' (.agg #[.bool b, .slice p m k]) n ∧ Below w.heap.size w w'

theorem cells2 {W : World} {r : Nat} {t : TypeId} {u v : Value} (h : Laid W r t [u, v]) : W.cell? ⟨r, 0, none⟩ = some u ∧ W.cell? ⟨r, 1, none⟩ = some v ∧ W.frozen? ⟨r, 0, none⟩ = false ∧ W.frozen? ⟨r, 1, none⟩ = false :=
  ⟨h.cell 0, h.cell 1, h.frozen 0, h.frozen 1⟩
/-- A row of integers does not lie in a struct's block. -/
theorem row_set {W : World} {r : Nat} {t : TypeId} {b : Bool} {a : Option Addr} {n k : Nat} {v : Value} {zs : List Int} (hl : Laid W r t [.bool b, .slice a n k]) (h : Row .i64 W v zs) (j : Nat) (u : Value) : Row .i64 (W.setCell ⟨r, j, none⟩ u) v zs := by
  obtain ⟨p, cap, rfl, h2, h3, h4, h5⟩ := h
  refine ⟨p, cap, rfl, h2, h3, fun hne => ?_, h5⟩
  obtain ⟨g, off, rfl, hc⟩ := h4 hne
  have h0 : 0 < zs.length := List.length_pos_iff.2 hne
  have hg : g ≠ r := by
    intro e
    subst e
    have hc0 := hc 0 h0
    rw [hl.cell] at hc0
    rcases (by omega : off + 0 = 0 ∨ off + 0 = 1 ∨ 2 ≤ off + 0) with ho | ho | ho
    · rw [ho] at hc0; simp at hc0
    · rw [ho] at hc0; simp at hc0
    · rw [List.getElem?_eq_none (by simp; omega)] at hc0; cases hc0
  exact ⟨g, off, rfl, fun i hi => (keeps_set W r j u).cell (hc i hi) (show ¬ g = r from hg)⟩
theorem nat_form {W : World} {x : Value} {n : Int} (h : NAt W x n) : ∃ a cap, x = .agg #[.bool (decide (n < 0)), .slice a (digs n.natAbs).length cap] := by
  obtain ⟨v, rfl, a, cap, rfl, _⟩ := h
  exact ⟨a, cap, by rw [natI_length]⟩

def CmpEnd (c : Int) (w : World) (e : Ending) (w' : World) : Prop := e = .returned (.int .i64 c) ∧ Below w.heap.size w w'

def cmpI (a b : Int) : Int := if a < b then -1 else if b < a then 1 else 0

/-- the call returns a row of digits that has the property P -/
def DEnd (P : List Nat → Prop) (w : World) (e : Ending) (w' : World) : Prop := ∃ v out, e = .returned v ∧ Row .i64 w' v (natI out) ∧ P out ∧ Below w.heap.size w w'

theorem all_snocW {out : List Nat} {z : Nat} (h : ∀ c ∈ out, c < 10000) (hz : z < 10000) : ∀ c ∈ out ++ [z], c < 10000 := by
  intro c hc
  rcases List.mem_append.mp hc with hc | hc
  · exact h c hc
  · rw [List.mem_singleton.mp hc]; exact hz

/-- the same, and the row is the call's own -/
def DEndAt (P : List Nat → Prop) (w : World) (e : Ending) (w' : World) : Prop := ∃ v out, e = .returned v ∧ Row .i64 w' v (natI out) ∧ P out ∧ Below w.heap.size w w' ∧ ∀ j, blockOf v j → w.heap.size ≤ j

end Go.Proofs.YtjoablphojkimaaGreatDoor
