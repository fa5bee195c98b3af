/-
  The program's reader: Text; the laws' examples.
-/
import Derived.Test.YtmamohnlallfeaaDevG
import Derived.Laws.BytesArg
namespace Go.Proofs.Ytmamohnlallfeaa
open Go.RowKit Go.Shelf
set_option linter.unusedVariables false
set_option maxRecDepth 100000

theorem strB_nums {l : List Nat} (h : ∀ c ∈ l, c < 256) : strB (strOfNums (natI l)) = l := by
  unfold strB
  rw [strOfNums_data, List.map_map]
  unfold natI
  rw [List.map_map]
  conv => rhs; rw [← List.map_id l]
  refine List.map_congr_left fun c hc => ?_
  have := h c hc
  simp only [Function.comp, id, Int.toNat_natCast]
  exact UInt8.toNat_ofNat_of_lt' this

/-- Bytes as a string. -/
theorem conv_string {W : World} {v : Value} {xs : List Int} (h : Row .u8 W v xs) : (convert 33 9 v).run Try.prog W = .ok (.string (strOfNums xs)) W := by
  obtain ⟨a, c, rfl, h2, h3, h4, h5⟩ := h
  cases a with
  | none =>
    obtain ⟨rfl, rfl⟩ := h5 rfl
    exact run_convert_bytes_nil (P := Try.prog) W _ _ under_bytes Try.underlying5 _ _ _ under_str
  | some a =>
    by_cases hx : xs = []
    · subst hx
      obtain ⟨b, off, s⟩ := a
      rw [run_convert_bytes_string (P := Try.prog) W _ _ _ _ _ _ under_bytes Try.underlying5 under_str]
      simp [Conv.bytesToString, loadCells, loadCellsFrom]
      rfl
    · obtain ⟨b, off, e, hc⟩ := h4 hx
      injection e with e
      subst e
      refine run_convert_bytes_arg (P := Try.prog) W 33 5 under_bytes Try.underlying5 b off xs.length c xs rfl (fun i hi => ?_) _ under_str
      rw [hc i hi, List.getD_eq_getElem?_getD]

end Go.Proofs.Ytmamohnlallfeaa
