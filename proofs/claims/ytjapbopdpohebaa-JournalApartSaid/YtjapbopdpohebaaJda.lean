/-
  Package journal over a disk: states; Len, Up.
-/
import Derived.Defers
import Derived.Test.YtjapbopdpohebaaDmx
import Derived.Test.YtjapbopdpohebaaJrD
namespace Go.Proofs.Ytjapbopdpohebaa
open Go.RowKit Go.Shelf
set_option linter.unusedVariables false
set_option maxRecDepth 100000

/-- A log in memory. -/
def Jl (W : World) (r d : Nat) (file : Int) (n : Nat) (up : Bool) : Prop := Laid W r 56 [.pointer (some ⟨d, 0, none⟩), .int .i64 file, .int .i64 (n : Int), .bool up]
noncomputable def scanSize (l : List Nat) : Nat := ((scanP 0 l).map Prod.snd).sum
noncomputable def scanRecs (l : List Nat) : List (List Nat) := (scanP 0 l).map Prod.fst
/-- What Open makes of a state: its error, the state behind it, the records. -/
def pCutTo (s : St) (file : Int) (len size : Nat) : Int × St := if size < len then pTrunc s file (size : Int) else (0, s)
noncomputable def pOpen (s : St) (file : Int) : Int × St × List (List Nat) :=
  if (pRead s file).1 ≠ 0 then ((pRead s file).1, s, []) else
  if (pCutTo s file (pRead s file).2.length (scanSize (pRead s file).2)).1 ≠ 0 then ((pCutTo s file (pRead s file).2.length (scanSize (pRead s file).2)).1, (pCutTo s file (pRead s file).2.length (scanSize (pRead s file).2)).2, []) else
  if (pSync (pCutTo s file (pRead s file).2.length (scanSize (pRead s file).2)).2).1 ≠ 0 then ((pSync (pCutTo s file (pRead s file).2.length (scanSize (pRead s file).2)).2).1, (pSync (pCutTo s file (pRead s file).2.length (scanSize (pRead s file).2)).2).2, []) else
  (0, (pSync (pCutTo s file (pRead s file).2.length (scanSize (pRead s file).2)).2).2, scanRecs (pRead s file).2)
/-- A log's state. -/
structure Lg where
  n : Nat
  up : Bool
noncomputable def pLog (room : Nat) (s : St) (file : Int) (g : Lg) (b : List Nat) : Int × St × Lg :=
  if 65536 < b.length then (4, s, g) else
  if g.up = false then (23, s, g) else
  if (pApp room s file (frameN (g.n : Int) b)).1 ≠ 0 then ((pApp room s file (frameN (g.n : Int) b)).1, (pApp room s file (frameN (g.n : Int) b)).2, ⟨g.n, (pApp room s file (frameN (g.n : Int) b)).1 != 23⟩) else
  if (pSync (pApp room s file (frameN (g.n : Int) b)).2).1 ≠ 0 then ((pSync (pApp room s file (frameN (g.n : Int) b)).2).1, (pSync (pApp room s file (frameN (g.n : Int) b)).2).2, ⟨g.n, (pSync (pApp room s file (frameN (g.n : Int) b)).2).1 != 23⟩) else
  (0, (pSync (pApp room s file (frameN (g.n : Int) b)).2).2, ⟨g.n + 1, true⟩)

def LenEnd (n : Nat) (w : World) (e : Ending) (w' : World) : Prop := e = .returned (.int .i64 (n : Int)) ∧ w' = w
theorem len_any {w : World} {r d n : Nat} {file : Int} {up : Bool} (h : Jl w r d file n up) : Calls Try.prog 13 #[.pointer (some ⟨r, 0, none⟩)] w (LenEnd n w) := by
  have c2 := Laid.cell h 2
  simp only [List.getElem?_cons_succ, List.getElem?_cons_zero] at c2
  clear h
  go_enter Try.func13, Try.ntmps13
  go_wp2_with fail
  go_ret
  exact ⟨rfl, rfl⟩
theorem up_any {w : World} {r d n : Nat} {file : Int} {up : Bool} (h : Jl w r d file n up) : Calls Try.prog 14 #[.pointer (some ⟨r, 0, none⟩)] w (OnEnd up w) := by
  have c3 := Laid.cell h 3
  simp only [List.getElem?_cons_succ, List.getElem?_cons_zero] at c3
  clear h
  go_enter Try.func14, Try.ntmps14
  go_wp2_with fail
  go_ret
  exact ⟨rfl, rfl⟩
end Go.Proofs.Ytjapbopdpohebaa
