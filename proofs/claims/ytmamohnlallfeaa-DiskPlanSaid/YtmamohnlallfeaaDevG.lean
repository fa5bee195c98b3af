/-
  The program's reader: lists, Text, Raw, Ints.
-/
import Derived.Test.YtmamohnlallfeaaDevF
namespace Go.Proofs.Ytmamohnlallfeaa
open Go.RowKit Go.Shelf
set_option linter.unusedVariables false
set_option maxRecDepth 100000

theorem made_zero (k : IntKind) (n : Nat) : (madeCells (Value.int k 0).cells (n * 1)).toList = (List.replicate n (0 : Int)).map (Value.int k) := by
  refine List.ext_getElem (by simp [madeCells]) fun j h1 h2 => ?_
  simp [madeCells, Value.cells, Nat.mod_one]

/-- make, of n zeros. -/
theorem wpList_make_fresh {W : World} {ops : Array Oper} {rest : List Oper} {o : Oper} {a : Act} {Q : Exit → Act → World → Prop} (hg : o.guard = none) (l c : Operand) (t : TypeId) (hop : o.op = Op.makeSlice t l c)
    (B : Nat) (e : TypeId) (i : TypeInfo) (k : IntKind) (bytes : Nat) (ht : Try.prog.underlying t = some (.slice e)) (hi : Try.prog.info? e = some i) (hz : i.zero = some (.int k 0)) (hsize : i.size = 1) (hby : i.bytes = bytes) (hb8 : bytes ≤ 8)
    (kl kc : IntKind) (L C : Int) (n : Nat) (hl : a.eval l = .int kl L) (hc : a.eval c = .int kc C) (hL : L = (n : Int)) (hC : C = (n : Int)) (hn : n ≤ 1000000000) (hB : B ≤ W.heap.size)
    (hK : ∀ w', Fresh B e k w' (.slice (some ⟨W.heap.size, 0, none⟩) n n) (List.replicate n 0) → Below W.heap.size W w' → w'.heap.size ≥ W.heap.size → wpList Try.prog ops Q rest (a.put o.dst (.slice (some ⟨W.heap.size, 0, none⟩) n n)) w') :
    wpList Try.prog ops Q (o :: rest) a W := by
  have h2 : i.bytes * n ≤ 281474976710656 := by
    rw [hby]
    have : bytes * n ≤ 8 * n := Nat.mul_le_mul_right _ hb8
    omega
  refine wpList_make_full W hg l c t hop B e i (.int k 0) 1 ht hi hz hsize kl kc L C n hl hc hL hC h2 (by unfold maxLen; omega) hB (fun w' h1 h2 => ?_)
  refine hK w' ?_ ((Below.refl _ W).grown h2 (Nat.le_refl _) (fun k h => by cases h)) h2.size
  unfold Fresh
  rw [List.length_replicate, ← made_zero]
  exact h1

theorem set_fill {pre : List Int} {k m : Nat} (hk : pre.length = k) (x : Int) : (pre ++ List.replicate (m + 1) 0).set k x = (pre ++ [x]) ++ List.replicate m 0 := by
  subst hk
  rw [List.set_append_right _ _ (Nat.le_refl _), Nat.sub_self, List.replicate_succ, List.set_cons_zero, List.append_assoc]
  rfl
theorem rUint_zero {s : RS} (h : (rUint s).2.2 ≠ 0) : (rUint s).1 = 0 := by
  unfold rUint at *
  by_cases h0 : s.2 = 0
  · rw [if_pos h0] at *
    cases hr : readVar 0 s.1 with
    | err k => rfl
    | val n r => rw [hr] at h; exact absurd rfl h
  · rw [if_neg h0]

theorem fresh_frozen2 {H : Nat} {e : TypeId} {k : IntKind} {w : World} {g cap n : Nat} {zs : List Int} (h : Fresh H e k w (.slice (some ⟨g, 0, none⟩) n cap) zs) (hn : n = zs.length) (j : Nat) : w.frozen? ⟨g, j, none⟩ = false := by
  subst hn; exact fresh_frozen h j

theorem under_ints : Try.prog.underlying 22 = some (.slice 3) := by kernel_rfl
theorem rMany_succ (n : Nat) (s : RS) : rMany (n + 1) s = ((rInt s).1 :: (rMany n (rInt s).2).1, (rMany n (rInt s).2).2) := rfl

end Go.Proofs.Ytmamohnlallfeaa
