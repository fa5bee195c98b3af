/-
  The reference's words, sums and pairs.
-/
import Derived.Test.YtadnbakniibmfaaWalkI
namespace Go.Proofs.Ytadnbakniibmfaa
open Go.RowKit Go.Shelf
set_option linter.unusedVariables false

theorem info_u64 : (Try.prog.info? 60).map (fun i => (i.zero, i.size, i.bytes)) = some (some (.int .u64 0), 1, 8) := by kernel_rfl

theorem refMix_form (a b : Nat) (ha : a < T64) (hb : b < T64) :
    bits .xor .u64 (IntKind.u64.wrap (bits .xor .u64 (a : Int) (b : Int) * 11400714819323198485)) (IntKind.u64.wrap ((IntKind.u64.wrap (bits .xor .u64 (a : Int) (b : Int) * 11400714819323198485)).tdiv 4294967296)) = (mixN a b : Int) := by
  have h := mix_form a b ha hb
  generalize bits .xor .u64 (a : Int) (b : Int) * 11400714819323198485 = X at *
  have e : IntKind.u64.wrap ((IntKind.u64.wrap X).tdiv 4294967296) = IntKind.u64.wrap X / 4294967296 := by
    rw [IntKind.wrap_u64, IntKind.wrap_u64, Int.tdiv_eq_ediv_of_nonneg (by omega)]; omega
  rw [e]; exact h

theorem leN_drop (g : List Nat) {j : Nat} (hj : j < g.length) : leN (g.drop j) = g[j]?.getD 0 + 256 * leN (g.drop (j + 1)) := by
  rw [List.drop_eq_getElem_cons hj]
  simp [leN, hj]

theorem leN_drop_lt (g : List Nat) (h : ∀ c ∈ g, c < 256) (h8 : g.length ≤ 8) (j : Nat) : leN (g.drop (j + 1)) < 72057594037927936 := by
  have h1 := leN_lt (g.drop (j + 1)) (fun c hc => h c (List.mem_of_mem_drop hc))
  have h2 : 256 ^ (g.drop (j + 1)).length ≤ 256 ^ 7 := Nat.pow_le_pow_right (by decide) (by simp; omega)
  have h3 : (256 : Nat) ^ 7 = 72057594037927936 := by decide
  omega

theorem words_upto (l : List Nat) (q : Nat) : ((List.range (q + 1)).map fun k => leN (grp l k)) = ((List.range q).map fun k => leN (grp l k)) ++ [leN (grp l q)] := by
  rw [List.range_succ, List.map_append, List.map_singleton]

end Go.Proofs.Ytadnbakniibmfaa
