/-
 What an operation yields (execOp), by kinds: for regions over an abstract frame (XAbs).
-/
import Derived.Test.YtepakogbbomaoaaGreatDoorAbsO
namespace Go.Proofs.YtepakogbbomaoaaGreatDoor
open Go.RowKit Go.Shelf
set_option linter.unusedVariables false
set_option maxRecDepth 100000
section
variable {ev : Operand → Value} {o : Oper} {W : World}
theorem x_move {s : Operand} {v : Value} (h : o.op = .move s) (hs : ev s = v) : (execOp ev o).run Tryz.prog W = .ok (.value v) W := by
 unfold execOp
 rw [h]
 simp [hs]
theorem x_fa {s : Operand} {b : Nat} (h : o.op = .fieldAddr 34 s 0) (hs : ev s = .pointer (some ⟨b, 0, none⟩)) : (execOp ev o).run Tryz.prog W = .ok (.value (.pointer (some ⟨b, 0, none⟩))) W := by
 unfold execOp
 rw [h]
 dsimp only
 rw [hs]
 go_simp
theorem x_fb {s : Operand} {b : Nat} (h : o.op = .fieldAddr 34 s 1) (hs : ev s = .pointer (some ⟨b, 0, none⟩)) : (execOp ev o).run Tryz.prog W = .ok (.value (.pointer (some ⟨b, 2, none⟩))) W := by
 unfold execOp
 rw [h]
 dsimp only
 rw [hs]
 go_simp
theorem x_ldF {s : Operand} {b n : Nat} {u0 u1 : Bool} {a d : Option Addr} {m i c j : Nat} (h : o.op = .load 34 s) (hs : ev s = .pointer (some ⟨b, n, none⟩)) (c0 : W.cell? ⟨b, n, none⟩ = some (.bool u0)) (c1 : W.cell? ⟨b, n + 1, none⟩ = some (.slice a m c)) (c2 : W.cell? ⟨b, n + 2, none⟩ = some (.bool u1)) (c3 : W.cell? ⟨b, n + 3, none⟩ = some (.slice d i j)) :
  (execOp ev o).run Tryz.prog W = .ok (.value (.agg #[.bool u0, .slice a m c, .bool u1, .slice d i j])) W := by
 unfold execOp
 rw [h]
 dsimp only
 rw [hs]
 go_simp
theorem x_ldI {s : Operand} {b n : Nat} {u0 : Bool} {a : Option Addr} {m c : Nat} (h : o.op = .load 32 s) (hs : ev s = .pointer (some ⟨b, n, none⟩)) (c0 : W.cell? ⟨b, n, none⟩ = some (.bool u0)) (c1 : W.cell? ⟨b, n + 1, none⟩ = some (.slice a m c)) :
  (execOp ev o).run Tryz.prog W = .ok (.value (.agg #[.bool u0, .slice a m c])) W := by
 unfold execOp
 rw [h]
 dsimp only
 rw [hs]
 go_simp
theorem x_ixF {s t : Operand} {b l cp k : Nat} (h : o.op = .indexAddr 29 s t) (hs : ev s = .slice (some ⟨b, 0, none⟩) l cp) (ht : ev t = .int .i64 (k : Int)) (hk : k < l) : (execOp ev o).run Tryz.prog W = .ok (.value (.pointer (some ⟨b, k * 4, none⟩))) W := by
 have hk1 : (k : Int) < (l : Int) := by omega
 have hk2 : ¬ l ≤ k := by omega
 unfold execOp
 rw [h]
 dsimp only
 rw [hs, ht]
 go_simp
theorem x_ext {s : Operand} {y e : Value} (h : o.op = .extract s 0) (hs : ev s = .tuple #[y, e]) : (execOp ev o).run Tryz.prog W = .ok (.value y) W := by
 unfold execOp
 rw [h]
 dsimp only
 rw [hs]
 go_simp
theorem x_ext1 {s : Operand} {y e : Value} (h : o.op = .extract s 1) (hs : ev s = .tuple #[y, e]) : (execOp ev o).run Tryz.prog W = .ok (.value e) W := by
 unfold execOp
 rw [h]
 dsimp only
 rw [hs]
 go_simp
theorem x_alloc (h : o.op = .alloc 34) : (execOp ev o).run Tryz.prog W = .ok (.value (.pointer (some ⟨W.heap.size, 0, none⟩))) (W.alloc (.cells #[.bool false, .slice none 0 0, .bool false, .slice none 0 0] 34)) := by
 unfold execOp
 rw [h]
 dsimp only
 go_simp
def callB (P : Program) (f : FuncId) : Bool := match P.funcs[f]? with
 | some fn => !(fn.name == "runtime.NumGoroutine") && fn.body.isSome
 | none => false
theorem callB_run {P : Program} {f : FuncId} (h : callB P f = true) (args : Array Value) (w : World) : (callFunc f args).run P w = .ok (.enter f args) w := by
 unfold callB at h
 cases hf : P.funcs[f]? with
 | none => rw [hf] at h; cases h
 | some fn =>
  rw [hf] at h
  dsimp only at h
  rw [Bool.and_eq_true] at h
  obtain ⟨h1, h2⟩ := h
  have h3 : fn.name ≠ "runtime.NumGoroutine" := by simpa using h1
  obtain ⟨c, hc⟩ := Option.isSome_iff_exists.1 h2
  simp [callFunc, hf, h3, hc]
theorem x_call1 {f : FuncId} {s : Operand} {u : Value} {tys : Array TypeId} (h : o.op = .call ⟨.value (.func f), #[s], tys⟩) (hs : ev s = u) (hf : ev (.func f) = .func (.func f) #[] #[]) (hc : callB Tryz.prog f = true) : (execOp ev o).run Tryz.prog W = .ok (.enter f #[u]) W := by
 have hr := callB_run hc #[u] W
 unfold execOp
 rw [h]
 simp [resolve, invoke, hs, hf, Deferred.ofValue, hr]
theorem x_call2 {f : FuncId} {s t : Operand} {u v : Value} {tys : Array TypeId} (h : o.op = .call ⟨.value (.func f), #[s, t], tys⟩) (hs : ev s = u) (ht : ev t = v) (hf : ev (.func f) = .func (.func f) #[] #[]) (hc : callB Tryz.prog f = true) : (execOp ev o).run Tryz.prog W = .ok (.enter f #[u, v]) W := by
 have hr := callB_run hc #[u, v] W
 unfold execOp
 rw [h]
 simp [resolve, invoke, hs, ht, hf, Deferred.ofValue, hr]
theorem x_raN {s : Operand} {b : Nat} (h : o.op = .fieldAddr 26 s 0) (hs : ev s = .pointer (some ⟨b, 0, none⟩)) : (execOp ev o).run Tryz.prog W = .ok (.value (.pointer (some ⟨b, 0, none⟩))) W := by
 unfold execOp
 rw [h]
 dsimp only
 rw [hs]
 go_simp
theorem x_rbN {s : Operand} {b : Nat} (h : o.op = .fieldAddr 26 s 1) (hs : ev s = .pointer (some ⟨b, 0, none⟩)) : (execOp ev o).run Tryz.prog W = .ok (.value (.pointer (some ⟨b, 2, none⟩))) W := by
 unfold execOp
 rw [h]
 dsimp only
 rw [hs]
 go_simp
theorem x_ldN {s : Operand} {b n : Nat} {u0 : Bool} {a : Option Addr} {m c : Nat} (h : o.op = .load 24 s) (hs : ev s = .pointer (some ⟨b, n, none⟩)) (c0 : W.cell? ⟨b, n, none⟩ = some (.bool u0)) (c1 : W.cell? ⟨b, n + 1, none⟩ = some (.slice a m c)) :
  (execOp ev o).run Tryz.prog W = .ok (.value (.agg #[.bool u0, .slice a m c])) W := by
 unfold execOp
 rw [h]
 dsimp only
 rw [hs]
 go_simp
theorem x_stF {s t : Operand} {b : Nat} {u0 u1 : Bool} {a d : Option Addr} {m i c j : Nat} {y0 y1 y2 y3 : Value} (h : o.op = .store 34 s t) (hs : ev s = .pointer (some ⟨b, 0, none⟩)) (ht : ev t = .agg #[.bool u0, .slice a m c, .bool u1, .slice d i j])
  (hl : (W.cell? ⟨b, 0, none⟩ = some y0 ∧ W.cell? ⟨b, 1, none⟩ = some y1 ∧ W.cell? ⟨b, 2, none⟩ = some y2 ∧ W.cell? ⟨b, 3, none⟩ = some y3) ∧ W.frozen? ⟨b, 0, none⟩ = false ∧ W.frozen? ⟨b, 1, none⟩ = false ∧ W.frozen? ⟨b, 2, none⟩ = false ∧ W.frozen? ⟨b, 3, none⟩ = false) :
  (execOp ev o).run Tryz.prog W = .ok .skip ((((W.setCell ⟨b, 0, none⟩ (.bool u0)).setCell ⟨b, 1, none⟩ (.slice a m c)).setCell ⟨b, 2, none⟩ (.bool u1)).setCell ⟨b, 3, none⟩ (.slice d i j)) := by
 obtain ⟨⟨r0, r1, r2, r3⟩, r4, r5, r6, r7⟩ := hl
 unfold execOp
 rw [h]
 dsimp only
 rw [hs, ht]
 go_simp
theorem x_asg {s : Operand} {v : Value} (h : o.op = .assign s) (hs : ev s = v) : (execOp ev o).run Tryz.prog W = .ok (.value v) W := by
 unfold execOp
 rw [h]
 simp [hs]
end
end Go.Proofs.YtepakogbbomaoaaGreatDoor
