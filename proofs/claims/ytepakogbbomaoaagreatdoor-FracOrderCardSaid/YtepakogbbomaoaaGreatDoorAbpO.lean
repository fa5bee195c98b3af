/-
 What an operation yields, more kinds: comparisons of numbers, signs, picks, slices of the reference's fractions (for regions over an abstract frame).
-/
import Derived.Test.YtepakogbbomaoaaGreatDoorAboO
namespace Go.Proofs.YtepakogbbomaoaaGreatDoor
open Go.RowKit Go.Shelf
set_option linter.unusedVariables false
set_option maxRecDepth 100000
section
variable {ev : Operand → Value} {o : Oper} {W : World}
theorem x_ixR {s t : Operand} {b l cp k : Nat} (h : o.op = .indexAddr 28 s t) (hs : ev s = .slice (some ⟨b, 0, none⟩) l cp) (ht : ev t = .int .i64 (k : Int)) (hk : k < l) : (execOp ev o).run Tryz.prog W = .ok (.value (.pointer (some ⟨b, k * 4, none⟩))) W := by
 have hk1 : (k : Int) < (l : Int) := by omega
 have hk2 : ¬ l ≤ k := by omega
 unfold execOp
 rw [h]
 dsimp only
 rw [hs, ht]
 go_simp
theorem x_ldR {s : Operand} {b n : Nat} {u0 u1 : Bool} {a d : Option Addr} {m i c j : Nat} (h : o.op = .load 26 s) (hs : ev s = .pointer (some ⟨b, n, none⟩)) (c0 : W.cell? ⟨b, n, none⟩ = some (.bool u0)) (c1 : W.cell? ⟨b, n + 1, none⟩ = some (.slice a m c)) (c2 : W.cell? ⟨b, n + 2, none⟩ = some (.bool u1)) (c3 : W.cell? ⟨b, n + 3, none⟩ = some (.slice d i j)) :
  (execOp ev o).run Tryz.prog W = .ok (.value (.agg #[.bool u0, .slice a m c, .bool u1, .slice d i j])) W := by
 unfold execOp
 rw [h]
 dsimp only
 rw [hs]
 go_simp
theorem x_ne {s t : Operand} {a b : Int} (h : o.op = .binOp .neq 3 s t 3) (hs : ev s = .int .i64 a) (ht : ev t = .int .i64 b) : (execOp ev o).run Tryz.prog W = .ok (.value (.bool (a != b))) W := by
 unfold execOp
 rw [h]
 dsimp only
 rw [hs, ht]
 go_simp
theorem x_eq {s t : Operand} {a b : Int} (h : o.op = .binOp .eql 3 s t 3) (hs : ev s = .int .i64 a) (ht : ev t = .int .i64 b) : (execOp ev o).run Tryz.prog W = .ok (.value (.bool (a == b))) W := by
 unfold execOp
 rw [h]
 dsimp only
 rw [hs, ht]
 go_simp
theorem x_le {s t : Operand} {a b : Int} (h : o.op = .binOp .leq 3 s t 3) (hs : ev s = .int .i64 a) (ht : ev t = .int .i64 b) : (execOp ev o).run Tryz.prog W = .ok (.value (.bool (decide (a ≤ b)))) W := by
 unfold execOp
 rw [h]
 dsimp only
 rw [hs, ht]
 go_simp
theorem x_gt {s t : Operand} {a b : Int} (h : o.op = .binOp .gtr 3 s t 3) (hs : ev s = .int .i64 a) (ht : ev t = .int .i64 b) : (execOp ev o).run Tryz.prog W = .ok (.value (.bool (decide (b < a)))) W := by
 unfold execOp
 rw [h]
 dsimp only
 rw [hs, ht]
 go_simp
theorem x_mul {s t : Operand} {a b : Int} (h : o.op = .binOp .mul 3 s t 3) (hs : ev s = .int .i64 a) (ht : ev t = .int .i64 b) : (execOp ev o).run Tryz.prog W = .ok (.value (.int .i64 (IntKind.i64.wrap (a * b)))) W := by
 unfold execOp
 rw [h]
 dsimp only
 rw [hs, ht]
 go_simp
theorem x_neg {s : Operand} {a : Int} (h : o.op = .unOp .neg 3 s) (hs : ev s = .int .i64 a) : (execOp ev o).run Tryz.prog W = .ok (.value (.int .i64 (IntKind.i64.wrap (-a)))) W := by
 unfold execOp
 rw [h]
 dsimp only
 rw [hs]
 go_simp
theorem x_neB {s t : Operand} {a b : Bool} (h : o.op = .binOp .neq 4 s t 4) (hs : ev s = .bool a) (ht : ev t = .bool b) : (execOp ev o).run Tryz.prog W = .ok (.value (.bool (a != b))) W := by
 unfold execOp
 rw [h]
 dsimp only
 rw [hs, ht]
 go_simp
 all_goals cases a <;> cases b <;> rfl
theorem x_pick {s t u : Operand} {c : Bool} {v1 v2 : Value} (h : o.op = .pick s t u) (hs : ev s = .bool c) (ht : ev t = v1) (hu : ev u = v2) : (execOp ev o).run Tryz.prog W = .ok (.value (if c then v1 else v2)) W := by
 unfold execOp
 rw [h]
 dsimp only
 rw [hs, ht, hu]
 cases c <;> go_simp
end
end Go.Proofs.YtepakogbbomaoaaGreatDoor
