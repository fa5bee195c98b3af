/-
  The walks of the reference's small functions: a string cut short, copies of integers and bytes, a number around a size, slices compared.
-/
import Derived.Test.YtlljcnhcknmoaaaGreatWalkG
import Derived.Laws.AppendOwnNone
namespace Go.Proofs.YtlljcnhcknmoaaaGreat
open Go.RowKit Go.Shelf
set_option linter.unusedVariables false

/-- A slice value as an argument may come: its elements are the integers zs. -/
def Row (k : IntKind) (w : World) (v : Value) (zs : List Int) : Prop :=
  ∃ a cap, v = .slice a zs.length cap ∧ zs.length ≤ cap ∧ cap ≤ 9223372036854775807 ∧
    (zs ≠ [] → ∃ b off, a = some ⟨b, off, none⟩ ∧ ∀ j, j < zs.length → w.cell? ⟨b, off + j, none⟩ = some (.int k (zs[j]?.getD 0))) ∧ (a = none → zs = [] ∧ cap = 0)

/-- A slice that the call has made: v holds the integers zs, in a row of its own from block B on; or it is nil and there are none. -/
def Fresh (B : Nat) (e : TypeId) (k : IntKind) (w : World) (v : Value) (zs : List Int) : Prop := w.ownsRow B e 1 v zs.length (zs.map (Value.int k))

def natI (l : List Nat) : List Int := l.map fun c : Nat => (c : Int)

def CutTo (m : Nat) (w : World) (e : Ending) (w' : World) : Prop := ∃ t : ByteArray, e = .returned (.string t) ∧ t.size ≤ m ∧ w = w'

/-- n brought to the range from 0 on below m. -/
def aroundI (n : Int) (m : Int) : Int := (if n < 0 then -(n + 1) else n) % m

set_option maxHeartbeats 400000 in
theorem around_any (n : Int) (m : Nat) (w : World) (hn : -9223372036854775808 ≤ n ∧ n ≤ 9223372036854775807) (hm : 1 ≤ m) (hm2 : m ≤ 4611686018427387904) :
    Calls Tryz.prog 4 #[.int .i64 n, .int .i64 (m : Int)] w fun e w' => e = .returned (.int .i64 (aroundI n m)) ∧ w = w' := by
  by_cases h : n < 0
  · go_enter Tryz.func4, Tryz.ntmps4
    go_wp2
    go_ret
    exact ⟨ret_int (by unfold aroundI; rw [if_pos h, ← Int.neg_tmod, Int.tmod_eq_emod_of_nonneg (by omega)]), rfl⟩
  · have h0 : 0 ≤ n := by omega
    clear h
    go_enter Tryz.func4, Tryz.ntmps4
    go_wp2
    go_ret
    exact ⟨ret_int (by unfold aroundI; rw [if_neg (by omega)]), rfl⟩

def Copies (e : TypeId) (k : IntKind) (zs : List Int) (w : World) (en : Ending) (w' : World) : Prop :=
  ∃ v, en = .returned v ∧ Fresh w.heap.size e k w' v zs ∧ Below w.heap.size w w'

theorem fresh_nil (B : Nat) (e : TypeId) (k : IntKind) (w : World) : Fresh B e k w (.slice none 0 0) [] := World.ownsRow_nil w B e 1

theorem copies_mk {e : TypeId} {k : IntKind} {zs : List Int} {w w' : World} {v : Value} (h1 : Fresh w.heap.size e k w' v zs) (h2 : Below w.heap.size w w') : Copies e k zs w (.returned v) w' :=
  ⟨v, rfl, h1, h2⟩

-- BEGIN COPY
-- END COPY
end Go.Proofs.YtlljcnhcknmoaaaGreat
