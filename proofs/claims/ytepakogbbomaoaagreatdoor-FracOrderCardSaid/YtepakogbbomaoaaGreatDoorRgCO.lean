/-
 Laws of drawn regions: package frac, its reference, the laws' helpers (genRgm.py makes this text).
-/
import Derived.Test.YtepakogbbomaoaaGreatDoorRgAO
namespace Go.Proofs.YtepakogbbomaoaaGreatDoor
open Go.RowKit Go.Shelf
set_option linter.unusedVariables false
set_option maxRecDepth 100000
def oFP9A0 : Oper := ⟨some 36, Op.move (.tmp 8), 41, "frac.go:181", #[], none⟩
def oFP9A1 : Oper := ⟨some 37, Op.binOp BinOp.neq 41 (.tmp 36) (.const (.int .i64 0)) 41, 4, "frac.go:181", #[⟨0, .data⟩], none⟩
def oFP9A2 : Oper := ⟨some 38, Op.move (.tmp 37), 4, "frac.go:181", #[⟨1, .data⟩], none⟩
def oFP9A3 : Oper := ⟨some 39, Op.load 32 (.tmp 9), 32, "frac.go:181", #[⟨2, .guard⟩], some (2, false)⟩
def oFP9A4 : Oper := ⟨some 40, Op.load 32 (.tmp 10), 32, "frac.go:181", #[⟨2, .guard⟩], some (2, false)⟩
def oFP9A5 : Oper := ⟨some 41, Op.call ⟨.value (.func 35), #[.tmp 39, .tmp 40], #[32, 32]⟩, 3, "frac.go:181", #[⟨3, .data⟩, ⟨4, .data⟩, ⟨2, .chain⟩, ⟨2, .guard⟩], some (2, false)⟩
def oFP9A6 : Oper := ⟨some 42, Op.binOp BinOp.leq 3 (.tmp 41) (.const (.int .i64 0)) 3, 4, "frac.go:181", #[⟨5, .data⟩, ⟨2, .guard⟩], some (2, false)⟩
def oFP9A7 : Oper := ⟨some 43, Op.pick (.tmp 38) (.const (.bool true)) (.tmp 42), 4, "frac.go:181", #[⟨2, .data⟩, ⟨6, .data⟩], none⟩
def oFP9A8 : Oper := ⟨some 44, Op.move (.tmp 43), 4, "frac.go:181", #[⟨7, .data⟩, ⟨5, .chain⟩], none⟩
def oFP9A9 : Oper := ⟨some 45, Op.load 32 (.tmp 7), 32, "frac.go:181", #[⟨8, .guard⟩], some (8, false)⟩
def oFP9A10 : Oper := ⟨some 46, Op.load 32 (.tmp 9), 32, "frac.go:181", #[⟨8, .guard⟩], some (8, false)⟩
def oFP9A11 : Oper := ⟨some 47, Op.call ⟨.value (.func 41), #[.tmp 45, .tmp 46], #[32, 32]⟩, 32, "frac.go:181", #[⟨9, .data⟩, ⟨10, .data⟩, ⟨8, .chain⟩, ⟨8, .guard⟩], some (8, false)⟩
def oFP9A12 : Oper := ⟨some 48, Op.load 32 (.tmp 10), 32, "frac.go:181", #[⟨8, .guard⟩], some (8, false)⟩
def oFP9A13 : Oper := ⟨some 49, Op.call ⟨.value (.func 35), #[.tmp 47, .tmp 48], #[32, 32]⟩, 3, "frac.go:181", #[⟨11, .data⟩, ⟨12, .data⟩, ⟨11, .chain⟩, ⟨8, .guard⟩], some (8, false)⟩
def oFP9A14 : Oper := ⟨some 50, Op.binOp BinOp.neq 3 (.tmp 49) (.const (.int .i64 0)) 3, 4, "frac.go:181", #[⟨13, .data⟩, ⟨8, .guard⟩], some (8, false)⟩
def oFP9A15 : Oper := ⟨some 51, Op.pick (.tmp 44) (.const (.bool true)) (.tmp 50), 4, "frac.go:181", #[⟨8, .data⟩, ⟨14, .data⟩], none⟩
def opsFP9A : Array Oper := #[oFP9A0, oFP9A1, oFP9A2, oFP9A3, oFP9A4, oFP9A5, oFP9A6, oFP9A7, oFP9A8, oFP9A9, oFP9A10, oFP9A11, oFP9A12, oFP9A13, oFP9A14, oFP9A15]
set_option maxHeartbeats 8000000 in
theorem regFP9A {Q : Exit → Act → World → Prop} (hQ : ∀ c a d v w, Q (.panic c) (Act.put a d v) w → Q (.panic c) a w) {W0 : World} {dd : List Deferred} {u0 u1 u2 u3 u4 u5 u6 G9 Gd J1 Gt Gf G4 Gm J0 G5 Gx Gu Go J5 Ga Gj J4 Ge Gv Gg J8 Gz Gq Gw Gc Gh J2 J7 G0 G7 Gl J6 G8 Gr G1 Gs G2 Gk Gn G6 Gb Gp G3 J3 Gi Gy : Value} {b7 : Nat} {s7 : Bool} {a7 : Option Addr} {m7 c7 : Nat} {b9 : Nat} {s9 : Bool} {a9 : Option Addr} {m9 c9 : Nat} {b10 : Nat} {s10 : Bool} {a10 : Option Addr} {m10 c10 : Nat} {n8 : Int} (HK8 : (n8 != 0) = true)
  (LD : Hid (∀ X : World, Below W0.heap.size W0 X → X.cell? ⟨b7, 0, none⟩ = some (.bool s7) ∧ X.cell? ⟨b7, 1, none⟩ = some (.slice a7 m7 c7) ∧ X.cell? ⟨b9, 0, none⟩ = some (.bool s9) ∧ X.cell? ⟨b9, 1, none⟩ = some (.slice a9 m9 c9) ∧ X.cell? ⟨b10, 0, none⟩ = some (.bool s10) ∧ X.cell? ⟨b10, 1, none⟩ = some (.slice a10 m10 c10)))
  (leaf : ∀ (X : World) , Hid (Below W0.heap.size W0 X) → Q .normal ⟨#[u0, u1, u2, u3, u4, u5, u6, .pointer (some ⟨b7, 0, none⟩), .int .i64 n8, .pointer (some ⟨b9, 0, none⟩), .pointer (some ⟨b10, 0, none⟩), G9, Gd, J1, Gt, Gf, G4, Gm, J0, G5, Gx, Gu, Go, J5, Ga, Gj, J4, Ge, Gv, Gg, J8, Gz, Gq, Gw, Gc, Gh, .int .i64 n8, .bool true, .bool true, undef, undef, undef, undef, .bool true, .bool true, undef, undef, undef, undef, undef, undef, .bool true, G3, J3, Gi, Gy], dd⟩ X) :
  (Code.region 9 opsFP9A true).wp Tryz.prog Q ⟨#[u0, u1, u2, u3, u4, u5, u6, .pointer (some ⟨b7, 0, none⟩), .int .i64 n8, .pointer (some ⟨b9, 0, none⟩), .pointer (some ⟨b10, 0, none⟩), G9, Gd, J1, Gt, Gf, G4, Gm, J0, G5, Gx, Gu, Go, J5, Ga, Gj, J4, Ge, Gv, Gg, J8, Gz, Gq, Gw, Gc, Gh, J2, J7, G0, G7, Gl, J6, G8, Gr, G1, Gs, G2, Gk, Gn, G6, Gb, Gp, G3, J3, Gi, Gy], dd⟩ W0 := by
 refine region_ops (P := Tryz.prog) (ops := opsFP9A) (W0 := W0) (dd := dd) (k := 16) (T := 0) (E := [0, 1, 2, 3, 4, 5, 6, 7, 8, 9, 10, 11, 12, 13, 14, 15]) (C := []) (S := (fun _ => True)) (K := getK [KX (.int .i64 n8), KX (.bool true), KX (.bool true), KX (undef), KX (undef), KX (undef), KX (undef), KX (.bool true), KX (.bool true), KX (undef), KX (undef), KX (undef), KX (undef), KX (undef), KX (undef), KX (.bool true)]) (tm := (fun x => #[u0, u1, u2, u3, u4, u5, u6, .pointer (some ⟨b7, 0, none⟩), .int .i64 n8, .pointer (some ⟨b9, 0, none⟩), .pointer (some ⟨b10, 0, none⟩), G9, Gd, J1, Gt, Gf, G4, Gm, J0, G5, Gx, Gu, Go, J5, Ga, Gj, J4, Ge, Gv, Gg, J8, Gz, Gq, Gw, Gc, Gh, x 0, x 1, x 2, x 3, x 4, x 5, x 6, x 7, x 8, x 9, x 10, x 11, x 12, x 13, x 14, x 15, G3, J3, Gi, Gy])) (getV [J2, J7, G0, G7, Gl, J6, G8, Gr, G1, Gs, G2, Gk, Gn, G6, Gb, Gp]) (by kernel_rfl) (by rfl) (by kernel_rfl) (by kernel_rfl) (by kernel_rfl) (by kernel_rfl) (by kernel_rfl) hQ (fun _ _ => trivial) (getK_mono ⟨m_x, m_x, m_x, m_x, m_x, m_x, m_x, m_x, m_x, m_x, m_x, m_x, m_x, m_x, m_x, m_x, trivial⟩) ?eager ?call ?fin
 case eager =>
  intro i hi
  simp only [List.mem_cons, List.not_mem_nil, or_false] at hi
  rcases hi with rfl | rfl | rfl | rfl | rfl | rfl | rfl | rfl | rfl | rfl | rfl | rfl | rfl | rfl | rfl | rfl
  ·intro x w hB hd
   clear hd
   refine ⟨oFP9A0, (.int .i64 n8), rfl, ?_, rfl, (by first | rfl | simp [Act.put, upd])⟩
   refine Or.inl ⟨by rfl, fun _ _ => ?_⟩
   unfold oFP9A0
   go_simp
   try with_reducible rfl
  ·intro x w hB hd
   obtain ⟨k0, -⟩ := deps_k (ds := [0]) (by kernel_rfl) hd
   clear hd
   have e0 : x 0 = .int .i64 n8 := k0
   refine ⟨oFP9A1, (.bool true), rfl, ?_, rfl, (by first | rfl | simp [Act.put, upd])⟩
   rw [e0]
   refine Or.inl ⟨by rfl, fun _ _ => ?_⟩
   unfold oFP9A1
   go_simp
   try with_reducible rfl
  ·intro x w hB hd
   obtain ⟨k1, -⟩ := deps_k (ds := [1]) (by kernel_rfl) hd
   clear hd
   have e1 : x 1 = .bool true := k1
   refine ⟨oFP9A2, (.bool true), rfl, ?_, rfl, (by first | rfl | simp [Act.put, upd])⟩
   rw [e1]
   refine Or.inl ⟨by rfl, fun _ _ => ?_⟩
   unfold oFP9A2
   go_simp
   try with_reducible rfl
  ·intro x w hB hd
   obtain ⟨k2, -⟩ := deps_k (ds := [2]) (by kernel_rfl) hd
   clear hd
   have e2 : x 2 = .bool true := k2
   refine ⟨oFP9A3, undef, rfl, ?_, rfl, (by first | rfl | simp [Act.put, upd])⟩
   rw [e2]
   exact Or.inr ⟨by rfl, rfl⟩
  ·intro x w hB hd
   obtain ⟨k2, -⟩ := deps_k (ds := [2]) (by kernel_rfl) hd
   clear hd
   have e2 : x 2 = .bool true := k2
   refine ⟨oFP9A4, undef, rfl, ?_, rfl, (by first | rfl | simp [Act.put, upd])⟩
   rw [e2]
   exact Or.inr ⟨by rfl, rfl⟩
  ·intro x w hB hd
   obtain ⟨k3, k4, k2, k2, -⟩ := deps_k (ds := [3, 4, 2, 2]) (by kernel_rfl) hd
   clear hd
   have e2 : x 2 = .bool true := k2
   refine ⟨oFP9A5, undef, rfl, ?_, rfl, (by first | rfl | simp [Act.put, upd])⟩
   rw [e2]
   exact Or.inr ⟨by rfl, rfl⟩
  ·intro x w hB hd
   obtain ⟨k5, k2, -⟩ := deps_k (ds := [5, 2]) (by kernel_rfl) hd
   clear hd
   have e2 : x 2 = .bool true := k2
   refine ⟨oFP9A6, undef, rfl, ?_, rfl, (by first | rfl | simp [Act.put, upd])⟩
   rw [e2]
   exact Or.inr ⟨by rfl, rfl⟩
  ·intro x w hB hd
   obtain ⟨k2, k6, -⟩ := deps_k (ds := [2, 6]) (by kernel_rfl) hd
   clear hd
   have e2 : x 2 = .bool true := k2
   have e6 : x 6 = undef := k6
   refine ⟨oFP9A7, (.bool true), rfl, ?_, rfl, (by first | rfl | simp [Act.put, upd])⟩
   rw [e2]
   rw [e6]
   refine Or.inl ⟨by rfl, fun _ _ => ?_⟩
   unfold oFP9A7
   go_simp
   try with_reducible rfl
  ·intro x w hB hd
   obtain ⟨k7, k5, -⟩ := deps_k (ds := [7, 5]) (by kernel_rfl) hd
   clear hd
   have e7 : x 7 = .bool true := k7
   refine ⟨oFP9A8, (.bool true), rfl, ?_, rfl, (by first | rfl | simp [Act.put, upd])⟩
   rw [e7]
   refine Or.inl ⟨by rfl, fun _ _ => ?_⟩
   unfold oFP9A8
   go_simp
   try with_reducible rfl
  ·intro x w hB hd
   obtain ⟨k8, -⟩ := deps_k (ds := [8]) (by kernel_rfl) hd
   clear hd
   have e8 : x 8 = .bool true := k8
   refine ⟨oFP9A9, undef, rfl, ?_, rfl, (by first | rfl | simp [Act.put, upd])⟩
   rw [e8]
   exact Or.inr ⟨by rfl, rfl⟩
  ·intro x w hB hd
   obtain ⟨k8, -⟩ := deps_k (ds := [8]) (by kernel_rfl) hd
   clear hd
   have e8 : x 8 = .bool true := k8
   refine ⟨oFP9A10, undef, rfl, ?_, rfl, (by first | rfl | simp [Act.put, upd])⟩
   rw [e8]
   exact Or.inr ⟨by rfl, rfl⟩
  ·intro x w hB hd
   obtain ⟨k9, k10, k8, k8, -⟩ := deps_k (ds := [9, 10, 8, 8]) (by kernel_rfl) hd
   clear hd
   have e8 : x 8 = .bool true := k8
   refine ⟨oFP9A11, undef, rfl, ?_, rfl, (by first | rfl | simp [Act.put, upd])⟩
   rw [e8]
   exact Or.inr ⟨by rfl, rfl⟩
  ·intro x w hB hd
   obtain ⟨k8, -⟩ := deps_k (ds := [8]) (by kernel_rfl) hd
   clear hd
   have e8 : x 8 = .bool true := k8
   refine ⟨oFP9A12, undef, rfl, ?_, rfl, (by first | rfl | simp [Act.put, upd])⟩
   rw [e8]
   exact Or.inr ⟨by rfl, rfl⟩
  ·intro x w hB hd
   obtain ⟨k11, k12, k11, k8, -⟩ := deps_k (ds := [11, 12, 11, 8]) (by kernel_rfl) hd
   clear hd
   have e8 : x 8 = .bool true := k8
   refine ⟨oFP9A13, undef, rfl, ?_, rfl, (by first | rfl | simp [Act.put, upd])⟩
   rw [e8]
   exact Or.inr ⟨by rfl, rfl⟩
  ·intro x w hB hd
   obtain ⟨k13, k8, -⟩ := deps_k (ds := [13, 8]) (by kernel_rfl) hd
   clear hd
   have e8 : x 8 = .bool true := k8
   refine ⟨oFP9A14, undef, rfl, ?_, rfl, (by first | rfl | simp [Act.put, upd])⟩
   rw [e8]
   exact Or.inr ⟨by rfl, rfl⟩
  ·intro x w hB hd
   obtain ⟨k8, k14, -⟩ := deps_k (ds := [8, 14]) (by kernel_rfl) hd
   clear hd
   have e8 : x 8 = .bool true := k8
   have e14 : x 14 = undef := k14
   refine ⟨oFP9A15, (.bool true), rfl, ?_, rfl, (by first | rfl | simp [Act.put, upd])⟩
   rw [e8]
   rw [e14]
   refine Or.inl ⟨by rfl, fun _ _ => ?_⟩
   unfold oFP9A15
   go_simp
   try with_reducible rfl
 case call =>
  intro i hi
  cases hi
 case fin =>
  intro x w hB H
  have e0 : x 0 = .int .i64 n8 := H 0 (by decide)
  have e1 : x 1 = .bool true := H 1 (by decide)
  have e2 : x 2 = .bool true := H 2 (by decide)
  have e3 : x 3 = undef := H 3 (by decide)
  have e4 : x 4 = undef := H 4 (by decide)
  have e5 : x 5 = undef := H 5 (by decide)
  have e6 : x 6 = undef := H 6 (by decide)
  have e7 : x 7 = .bool true := H 7 (by decide)
  have e8 : x 8 = .bool true := H 8 (by decide)
  have e9 : x 9 = undef := H 9 (by decide)
  have e10 : x 10 = undef := H 10 (by decide)
  have e11 : x 11 = undef := H 11 (by decide)
  have e12 : x 12 = undef := H 12 (by decide)
  have e13 : x 13 = undef := H 13 (by decide)
  have e14 : x 14 = undef := H 14 (by decide)
  have e15 : x 15 = .bool true := H 15 (by decide)
  clear H
  show wpAnyH _ _ _ _ _ 0 #[true, true, true, true, true, true, true, true, true, true, true, true, true, true, true, true] ⟨#[u0, u1, u2, u3, u4, u5, u6, .pointer (some ⟨b7, 0, none⟩), .int .i64 n8, .pointer (some ⟨b9, 0, none⟩), .pointer (some ⟨b10, 0, none⟩), G9, Gd, J1, Gt, Gf, G4, Gm, J0, G5, Gx, Gu, Go, J5, Ga, Gj, J4, Ge, Gv, Gg, J8, Gz, Gq, Gw, Gc, Gh, x 0, x 1, x 2, x 3, x 4, x 5, x 6, x 7, x 8, x 9, x 10, x 11, x 12, x 13, x 14, x 15, G3, J3, Gi, Gy], dd⟩ _
  rw [e0]
  clear e0
  rw [e1]
  clear e1
  rw [e2]
  clear e2
  rw [e3]
  clear e3
  rw [e4]
  clear e4
  rw [e5]
  clear e5
  rw [e6]
  clear e6
  rw [e7]
  clear e7
  rw [e8]
  clear e8
  rw [e9]
  clear e9
  rw [e10]
  clear e10
  rw [e11]
  clear e11
  rw [e12]
  clear e12
  rw [e13]
  clear e13
  rw [e14]
  clear e14
  rw [e15]
  clear e15
  refine wpAnyH_done (by kernel_rfl) ?_ _
  exact leaf _  (Lib.hid hB) 
def oFP9B0 : Oper := ⟨some 36, Op.move (.tmp 8), 41, "frac.go:181", #[], none⟩
def oFP9B1 : Oper := ⟨some 37, Op.binOp BinOp.neq 41 (.tmp 36) (.const (.int .i64 0)) 41, 4, "frac.go:181", #[⟨0, .data⟩], none⟩
def oFP9B2 : Oper := ⟨some 38, Op.move (.tmp 37), 4, "frac.go:181", #[⟨1, .data⟩], none⟩
def oFP9B3 : Oper := ⟨some 39, Op.load 32 (.tmp 9), 32, "frac.go:181", #[⟨2, .guard⟩], some (2, false)⟩
def oFP9B4 : Oper := ⟨some 40, Op.load 32 (.tmp 10), 32, "frac.go:181", #[⟨2, .guard⟩], some (2, false)⟩
def oFP9B5 : Oper := ⟨some 41, Op.call ⟨.value (.func 35), #[.tmp 39, .tmp 40], #[32, 32]⟩, 3, "frac.go:181", #[⟨3, .data⟩, ⟨4, .data⟩, ⟨2, .chain⟩, ⟨2, .guard⟩], some (2, false)⟩
def oFP9B6 : Oper := ⟨some 42, Op.binOp BinOp.leq 3 (.tmp 41) (.const (.int .i64 0)) 3, 4, "frac.go:181", #[⟨5, .data⟩, ⟨2, .guard⟩], some (2, false)⟩
def oFP9B7 : Oper := ⟨some 43, Op.pick (.tmp 38) (.const (.bool true)) (.tmp 42), 4, "frac.go:181", #[⟨2, .data⟩, ⟨6, .data⟩], none⟩
def oFP9B8 : Oper := ⟨some 44, Op.move (.tmp 43), 4, "frac.go:181", #[⟨7, .data⟩, ⟨5, .chain⟩], none⟩
def oFP9B9 : Oper := ⟨some 45, Op.load 32 (.tmp 7), 32, "frac.go:181", #[⟨8, .guard⟩], some (8, false)⟩
def oFP9B10 : Oper := ⟨some 46, Op.load 32 (.tmp 9), 32, "frac.go:181", #[⟨8, .guard⟩], some (8, false)⟩
def oFP9B11 : Oper := ⟨some 47, Op.call ⟨.value (.func 41), #[.tmp 45, .tmp 46], #[32, 32]⟩, 32, "frac.go:181", #[⟨9, .data⟩, ⟨10, .data⟩, ⟨8, .chain⟩, ⟨8, .guard⟩], some (8, false)⟩
def oFP9B12 : Oper := ⟨some 48, Op.load 32 (.tmp 10), 32, "frac.go:181", #[⟨8, .guard⟩], some (8, false)⟩
def oFP9B13 : Oper := ⟨some 49, Op.call ⟨.value (.func 35), #[.tmp 47, .tmp 48], #[32, 32]⟩, 3, "frac.go:181", #[⟨11, .data⟩, ⟨12, .data⟩, ⟨11, .chain⟩, ⟨8, .guard⟩], some (8, false)⟩
def oFP9B14 : Oper := ⟨some 50, Op.binOp BinOp.neq 3 (.tmp 49) (.const (.int .i64 0)) 3, 4, "frac.go:181", #[⟨13, .data⟩, ⟨8, .guard⟩], some (8, false)⟩
def oFP9B15 : Oper := ⟨some 51, Op.pick (.tmp 44) (.const (.bool true)) (.tmp 50), 4, "frac.go:181", #[⟨8, .data⟩, ⟨14, .data⟩], none⟩
def opsFP9B : Array Oper := #[oFP9B0, oFP9B1, oFP9B2, oFP9B3, oFP9B4, oFP9B5, oFP9B6, oFP9B7, oFP9B8, oFP9B9, oFP9B10, oFP9B11, oFP9B12, oFP9B13, oFP9B14, oFP9B15]
set_option maxHeartbeats 8000000 in
theorem regFP9B {Q : Exit → Act → World → Prop} (hQ : ∀ c a d v w, Q (.panic c) (Act.put a d v) w → Q (.panic c) a w) {W0 : World} {dd : List Deferred} {u0 u1 u2 u3 u4 u5 u6 G9 Gd J1 Gt Gf G4 Gm J0 G5 Gx Gu Go J5 Ga Gj J4 Ge Gv Gg J8 Gz Gq Gw Gc Gh J2 J7 G0 G7 Gl J6 G8 Gr G1 Gs G2 Gk Gn G6 Gb Gp G3 J3 Gi Gy : Value} {b7 : Nat} {s7 : Bool} {a7 : Option Addr} {m7 c7 : Nat} {b9 : Nat} {s9 : Bool} {a9 : Option Addr} {m9 c9 : Nat} {b10 : Nat} {s10 : Bool} {a10 : Option Addr} {m10 c10 : Nat} {c41 : Int} (HC41 : decide (c41 ≤ 0) = true)
  (LD : Hid (∀ X : World, Below W0.heap.size W0 X → X.cell? ⟨b7, 0, none⟩ = some (.bool s7) ∧ X.cell? ⟨b7, 1, none⟩ = some (.slice a7 m7 c7) ∧ X.cell? ⟨b9, 0, none⟩ = some (.bool s9) ∧ X.cell? ⟨b9, 1, none⟩ = some (.slice a9 m9 c9) ∧ X.cell? ⟨b10, 0, none⟩ = some (.bool s10) ∧ X.cell? ⟨b10, 1, none⟩ = some (.slice a10 m10 c10)))
  (C41 : Hid (∀ X, Below W0.heap.size W0 X → Calls Tryz.prog 35 #[.agg #[.bool s9, .slice a9 m9 c9], .agg #[.bool s10, .slice a10 m10 c10]] X (VEnd (KX (.int .i64 c41)) X)))
  (leaf : ∀ (X : World) , Hid (Below W0.heap.size W0 X) → Q .normal ⟨#[u0, u1, u2, u3, u4, u5, u6, .pointer (some ⟨b7, 0, none⟩), .int .i64 0, .pointer (some ⟨b9, 0, none⟩), .pointer (some ⟨b10, 0, none⟩), G9, Gd, J1, Gt, Gf, G4, Gm, J0, G5, Gx, Gu, Go, J5, Ga, Gj, J4, Ge, Gv, Gg, J8, Gz, Gq, Gw, Gc, Gh, .int .i64 0, .bool false, .bool false, .agg #[.bool s9, .slice a9 m9 c9], .agg #[.bool s10, .slice a10 m10 c10], .int .i64 c41, .bool true, .bool true, .bool true, undef, undef, undef, undef, undef, undef, .bool true, G3, J3, Gi, Gy], dd⟩ X) :
  (Code.region 9 opsFP9B true).wp Tryz.prog Q ⟨#[u0, u1, u2, u3, u4, u5, u6, .pointer (some ⟨b7, 0, none⟩), .int .i64 0, .pointer (some ⟨b9, 0, none⟩), .pointer (some ⟨b10, 0, none⟩), G9, Gd, J1, Gt, Gf, G4, Gm, J0, G5, Gx, Gu, Go, J5, Ga, Gj, J4, Ge, Gv, Gg, J8, Gz, Gq, Gw, Gc, Gh, J2, J7, G0, G7, Gl, J6, G8, Gr, G1, Gs, G2, Gk, Gn, G6, Gb, Gp, G3, J3, Gi, Gy], dd⟩ W0 := by
 refine region_ops (P := Tryz.prog) (ops := opsFP9B) (W0 := W0) (dd := dd) (k := 16) (T := 0) (E := [0, 1, 2, 6, 7, 8, 9, 10, 11, 12, 13, 14, 15]) (C := [3, 4, 5]) (S := (fun _ => True)) (K := getK [KX (.int .i64 0), KX (.bool false), KX (.bool false), KX (.agg #[.bool s9, .slice a9 m9 c9]), KX (.agg #[.bool s10, .slice a10 m10 c10]), KX (.int .i64 c41), KX (.bool true), KX (.bool true), KX (.bool true), KX (undef), KX (undef), KX (undef), KX (undef), KX (undef), KX (undef), KX (.bool true)]) (tm := (fun x => #[u0, u1, u2, u3, u4, u5, u6, .pointer (some ⟨b7, 0, none⟩), .int .i64 0, .pointer (some ⟨b9, 0, none⟩), .pointer (some ⟨b10, 0, none⟩), G9, Gd, J1, Gt, Gf, G4, Gm, J0, G5, Gx, Gu, Go, J5, Ga, Gj, J4, Ge, Gv, Gg, J8, Gz, Gq, Gw, Gc, Gh, x 0, x 1, x 2, x 3, x 4, x 5, x 6, x 7, x 8, x 9, x 10, x 11, x 12, x 13, x 14, x 15, G3, J3, Gi, Gy])) (getV [J2, J7, G0, G7, Gl, J6, G8, Gr, G1, Gs, G2, Gk, Gn, G6, Gb, Gp]) (by kernel_rfl) (by rfl) (by kernel_rfl) (by kernel_rfl) (by kernel_rfl) (by kernel_rfl) (by kernel_rfl) hQ (fun _ _ => trivial) (getK_mono ⟨m_x, m_x, m_x, m_x, m_x, m_x, m_x, m_x, m_x, m_x, m_x, m_x, m_x, m_x, m_x, m_x, trivial⟩) ?eager ?call ?fin
 case eager =>
  intro i hi
  simp only [List.mem_cons, List.not_mem_nil, or_false] at hi
  rcases hi with rfl | rfl | rfl | rfl | rfl | rfl | rfl | rfl | rfl | rfl | rfl | rfl | rfl
  ·intro x w hB hd
   clear hd
   refine ⟨oFP9B0, (.int .i64 0), rfl, ?_, rfl, (by first | rfl | simp [Act.put, upd])⟩
   refine Or.inl ⟨by rfl, fun _ _ => ?_⟩
   unfold oFP9B0
   go_simp
   try with_reducible rfl
  ·intro x w hB hd
   obtain ⟨k0, -⟩ := deps_k (ds := [0]) (by kernel_rfl) hd
   clear hd
   have e0 : x 0 = .int .i64 0 := k0
   refine ⟨oFP9B1, (.bool false), rfl, ?_, rfl, (by first | rfl | simp [Act.put, upd])⟩
   rw [e0]
   refine Or.inl ⟨by rfl, fun _ _ => ?_⟩
   unfold oFP9B1
   go_simp
   try with_reducible rfl
  ·intro x w hB hd
   obtain ⟨k1, -⟩ := deps_k (ds := [1]) (by kernel_rfl) hd
   clear hd
   have e1 : x 1 = .bool false := k1
   refine ⟨oFP9B2, (.bool false), rfl, ?_, rfl, (by first | rfl | simp [Act.put, upd])⟩
   rw [e1]
   refine Or.inl ⟨by rfl, fun _ _ => ?_⟩
   unfold oFP9B2
   go_simp
   try with_reducible rfl
  ·intro x w hB hd
   obtain ⟨k5, k2, -⟩ := deps_k (ds := [5, 2]) (by kernel_rfl) hd
   clear hd
   have e5 : x 5 = .int .i64 c41 := k5
   have e2 : x 2 = .bool false := k2
   refine ⟨oFP9B6, (.bool true), rfl, ?_, rfl, (by first | rfl | simp [Act.put, upd])⟩
   rw [e5]
   rw [e2]
   refine Or.inl ⟨by rfl, fun _ _ => ?_⟩
   unfold oFP9B6
   go_simp
   try with_reducible rfl
  ·intro x w hB hd
   obtain ⟨k2, k6, -⟩ := deps_k (ds := [2, 6]) (by kernel_rfl) hd
   clear hd
   have e2 : x 2 = .bool false := k2
   have e6 : x 6 = .bool true := k6
   refine ⟨oFP9B7, (.bool true), rfl, ?_, rfl, (by first | rfl | simp [Act.put, upd])⟩
   rw [e2]
   rw [e6]
   refine Or.inl ⟨by rfl, fun _ _ => ?_⟩
   unfold oFP9B7
   go_simp
   try with_reducible rfl
  ·intro x w hB hd
   obtain ⟨k7, k5, -⟩ := deps_k (ds := [7, 5]) (by kernel_rfl) hd
   clear hd
   have e7 : x 7 = .bool true := k7
   refine ⟨oFP9B8, (.bool true), rfl, ?_, rfl, (by first | rfl | simp [Act.put, upd])⟩
   rw [e7]
   refine Or.inl ⟨by rfl, fun _ _ => ?_⟩
   unfold oFP9B8
   go_simp
   try with_reducible rfl
  ·intro x w hB hd
   obtain ⟨k8, -⟩ := deps_k (ds := [8]) (by kernel_rfl) hd
   clear hd
   have e8 : x 8 = .bool true := k8
   refine ⟨oFP9B9, undef, rfl, ?_, rfl, (by first | rfl | simp [Act.put, upd])⟩
   rw [e8]
   exact Or.inr ⟨by rfl, rfl⟩
  ·intro x w hB hd
   obtain ⟨k8, -⟩ := deps_k (ds := [8]) (by kernel_rfl) hd
   clear hd
   have e8 : x 8 = .bool true := k8
   refine ⟨oFP9B10, undef, rfl, ?_, rfl, (by first | rfl | simp [Act.put, upd])⟩
   rw [e8]
   exact Or.inr ⟨by rfl, rfl⟩
  ·intro x w hB hd
   obtain ⟨k9, k10, k8, k8, -⟩ := deps_k (ds := [9, 10, 8, 8]) (by kernel_rfl) hd
   clear hd
   have e8 : x 8 = .bool true := k8
   refine ⟨oFP9B11, undef, rfl, ?_, rfl, (by first | rfl | simp [Act.put, upd])⟩
   rw [e8]
   exact Or.inr ⟨by rfl, rfl⟩
  ·intro x w hB hd
   obtain ⟨k8, -⟩ := deps_k (ds := [8]) (by kernel_rfl) hd
   clear hd
   have e8 : x 8 = .bool true := k8
   refine ⟨oFP9B12, undef, rfl, ?_, rfl, (by first | rfl | simp [Act.put, upd])⟩
   rw [e8]
   exact Or.inr ⟨by rfl, rfl⟩
  ·intro x w hB hd
   obtain ⟨k11, k12, k11, k8, -⟩ := deps_k (ds := [11, 12, 11, 8]) (by kernel_rfl) hd
   clear hd
   have e8 : x 8 = .bool true := k8
   refine ⟨oFP9B13, undef, rfl, ?_, rfl, (by first | rfl | simp [Act.put, upd])⟩
   rw [e8]
   exact Or.inr ⟨by rfl, rfl⟩
  ·intro x w hB hd
   obtain ⟨k13, k8, -⟩ := deps_k (ds := [13, 8]) (by kernel_rfl) hd
   clear hd
   have e8 : x 8 = .bool true := k8
   refine ⟨oFP9B14, undef, rfl, ?_, rfl, (by first | rfl | simp [Act.put, upd])⟩
   rw [e8]
   exact Or.inr ⟨by rfl, rfl⟩
  ·intro x w hB hd
   obtain ⟨k8, k14, -⟩ := deps_k (ds := [8, 14]) (by kernel_rfl) hd
   clear hd
   have e8 : x 8 = .bool true := k8
   have e14 : x 14 = undef := k14
   refine ⟨oFP9B15, (.bool true), rfl, ?_, rfl, (by first | rfl | simp [Act.put, upd])⟩
   rw [e8]
   rw [e14]
   refine Or.inl ⟨by rfl, fun _ _ => ?_⟩
   unfold oFP9B15
   go_simp
   try with_reducible rfl
 case call =>
  intro i hi
  simp only [List.mem_cons, List.not_mem_nil, or_false] at hi
  rcases hi with rfl | rfl | rfl
  ·intro x w hB hd
   obtain ⟨k2, -⟩ := deps_k (ds := [2]) (by kernel_rfl) hd
   clear hd
   have e2 : x 2 = .bool false := k2
   have hLD := LD.out w hB
   obtain ⟨f0, f1, f2, f3, f4, f5⟩ := hLD
   refine wpOp_shut (o := oFP9B3) rfl (fun K' hK => ?_)
   unfold oFP9B3
   rw [e2]
   rw [if_pos (by rfl)]
   go_simp
   exact hK.out _ _ ⟨_, (by first | rfl | simp [upd, e2]), Below.refl _ _, rfl⟩
  ·intro x w hB hd
   obtain ⟨k2, -⟩ := deps_k (ds := [2]) (by kernel_rfl) hd
   clear hd
   have e2 : x 2 = .bool false := k2
   have hLD := LD.out w hB
   obtain ⟨f0, f1, f2, f3, f4, f5⟩ := hLD
   refine wpOp_shut (o := oFP9B4) rfl (fun K' hK => ?_)
   unfold oFP9B4
   rw [e2]
   rw [if_pos (by rfl)]
   go_simp
   exact hK.out _ _ ⟨_, (by first | rfl | simp [upd, e2]), Below.refl _ _, rfl⟩
  ·intro x w hB hd
   obtain ⟨k3, k4, k2, k2, -⟩ := deps_k (ds := [3, 4, 2, 2]) (by kernel_rfl) hd
   clear hd
   have e3 : x 3 = .agg #[.bool s9, .slice a9 m9 c9] := k3
   have e4 : x 4 = .agg #[.bool s10, .slice a10 m10 c10] := k4
   have e2 : x 2 = .bool false := k2
   have HC := C41.out w hB
   unfold VEnd at HC
   have HC := Lib.hid HC
   refine wpOp_shut (o := oFP9B5) rfl (fun K' hK => ?_)
   unfold oFP9B5
   rw [e3]
   rw [e4]
   rw [e2]
   rw [if_pos (by rfl)]
   go_simp
   go_at_call 35
   refine HC.out.mono ?_
   rintro e w5 ⟨v5, rfl, hk5, hb5⟩
   clear HC
   go_wp2_with fail
   exact hK.out _ _ ⟨v5, (by first | rfl | simp [upd, e3, e4, e2]), hb5, hk5⟩
 case fin =>
  intro x w hB H
  have e0 : x 0 = .int .i64 0 := H 0 (by decide)
  have e1 : x 1 = .bool false := H 1 (by decide)
  have e2 : x 2 = .bool false := H 2 (by decide)
  have e3 : x 3 = .agg #[.bool s9, .slice a9 m9 c9] := H 3 (by decide)
  have e4 : x 4 = .agg #[.bool s10, .slice a10 m10 c10] := H 4 (by decide)
  have e5 : x 5 = .int .i64 c41 := H 5 (by decide)
  have e6 : x 6 = .bool true := H 6 (by decide)
  have e7 : x 7 = .bool true := H 7 (by decide)
  have e8 : x 8 = .bool true := H 8 (by decide)
  have e9 : x 9 = undef := H 9 (by decide)
  have e10 : x 10 = undef := H 10 (by decide)
  have e11 : x 11 = undef := H 11 (by decide)
  have e12 : x 12 = undef := H 12 (by decide)
  have e13 : x 13 = undef := H 13 (by decide)
  have e14 : x 14 = undef := H 14 (by decide)
  have e15 : x 15 = .bool true := H 15 (by decide)
  clear H
  show wpAnyH _ _ _ _ _ 0 #[true, true, true, true, true, true, true, true, true, true, true, true, true, true, true, true] ⟨#[u0, u1, u2, u3, u4, u5, u6, .pointer (some ⟨b7, 0, none⟩), .int .i64 0, .pointer (some ⟨b9, 0, none⟩), .pointer (some ⟨b10, 0, none⟩), G9, Gd, J1, Gt, Gf, G4, Gm, J0, G5, Gx, Gu, Go, J5, Ga, Gj, J4, Ge, Gv, Gg, J8, Gz, Gq, Gw, Gc, Gh, x 0, x 1, x 2, x 3, x 4, x 5, x 6, x 7, x 8, x 9, x 10, x 11, x 12, x 13, x 14, x 15, G3, J3, Gi, Gy], dd⟩ _
  rw [e0]
  clear e0
  rw [e1]
  clear e1
  rw [e2]
  clear e2
  rw [e3]
  clear e3
  rw [e4]
  clear e4
  rw [e5]
  clear e5
  rw [e6]
  clear e6
  rw [e7]
  clear e7
  rw [e8]
  clear e8
  rw [e9]
  clear e9
  rw [e10]
  clear e10
  rw [e11]
  clear e11
  rw [e12]
  clear e12
  rw [e13]
  clear e13
  rw [e14]
  clear e14
  rw [e15]
  clear e15
  refine wpAnyH_done (by kernel_rfl) ?_ _
  exact leaf _  (Lib.hid hB) 
def oFP9C0 : Oper := ⟨some 36, Op.move (.tmp 8), 41, "frac.go:181", #[], none⟩
def oFP9C1 : Oper := ⟨some 37, Op.binOp BinOp.neq 41 (.tmp 36) (.const (.int .i64 0)) 41, 4, "frac.go:181", #[⟨0, .data⟩], none⟩
def oFP9C2 : Oper := ⟨some 38, Op.move (.tmp 37), 4, "frac.go:181", #[⟨1, .data⟩], none⟩
def oFP9C3 : Oper := ⟨some 39, Op.load 32 (.tmp 9), 32, "frac.go:181", #[⟨2, .guard⟩], some (2, false)⟩
def oFP9C4 : Oper := ⟨some 40, Op.load 32 (.tmp 10), 32, "frac.go:181", #[⟨2, .guard⟩], some (2, false)⟩
def oFP9C5 : Oper := ⟨some 41, Op.call ⟨.value (.func 35), #[.tmp 39, .tmp 40], #[32, 32]⟩, 3, "frac.go:181", #[⟨3, .data⟩, ⟨4, .data⟩, ⟨2, .chain⟩, ⟨2, .guard⟩], some (2, false)⟩
def oFP9C6 : Oper := ⟨some 42, Op.binOp BinOp.leq 3 (.tmp 41) (.const (.int .i64 0)) 3, 4, "frac.go:181", #[⟨5, .data⟩, ⟨2, .guard⟩], some (2, false)⟩
def oFP9C7 : Oper := ⟨some 43, Op.pick (.tmp 38) (.const (.bool true)) (.tmp 42), 4, "frac.go:181", #[⟨2, .data⟩, ⟨6, .data⟩], none⟩
def oFP9C8 : Oper := ⟨some 44, Op.move (.tmp 43), 4, "frac.go:181", #[⟨7, .data⟩, ⟨5, .chain⟩], none⟩
def oFP9C9 : Oper := ⟨some 45, Op.load 32 (.tmp 7), 32, "frac.go:181", #[⟨8, .guard⟩], some (8, false)⟩
def oFP9C10 : Oper := ⟨some 46, Op.load 32 (.tmp 9), 32, "frac.go:181", #[⟨8, .guard⟩], some (8, false)⟩
def oFP9C11 : Oper := ⟨some 47, Op.call ⟨.value (.func 41), #[.tmp 45, .tmp 46], #[32, 32]⟩, 32, "frac.go:181", #[⟨9, .data⟩, ⟨10, .data⟩, ⟨8, .chain⟩, ⟨8, .guard⟩], some (8, false)⟩
def oFP9C12 : Oper := ⟨some 48, Op.load 32 (.tmp 10), 32, "frac.go:181", #[⟨8, .guard⟩], some (8, false)⟩
def oFP9C13 : Oper := ⟨some 49, Op.call ⟨.value (.func 35), #[.tmp 47, .tmp 48], #[32, 32]⟩, 3, "frac.go:181", #[⟨11, .data⟩, ⟨12, .data⟩, ⟨11, .chain⟩, ⟨8, .guard⟩], some (8, false)⟩
def oFP9C14 : Oper := ⟨some 50, Op.binOp BinOp.neq 3 (.tmp 49) (.const (.int .i64 0)) 3, 4, "frac.go:181", #[⟨13, .data⟩, ⟨8, .guard⟩], some (8, false)⟩
def oFP9C15 : Oper := ⟨some 51, Op.pick (.tmp 44) (.const (.bool true)) (.tmp 50), 4, "frac.go:181", #[⟨8, .data⟩, ⟨14, .data⟩], none⟩
def opsFP9C : Array Oper := #[oFP9C0, oFP9C1, oFP9C2, oFP9C3, oFP9C4, oFP9C5, oFP9C6, oFP9C7, oFP9C8, oFP9C9, oFP9C10, oFP9C11, oFP9C12, oFP9C13, oFP9C14, oFP9C15]
set_option maxHeartbeats 8000000 in
theorem regFP9C {Q : Exit → Act → World → Prop} (hQ : ∀ c a d v w, Q (.panic c) (Act.put a d v) w → Q (.panic c) a w) {W0 : World} {dd : List Deferred} {u0 u1 u2 u3 u4 u5 u6 G9 Gd J1 Gt Gf G4 Gm J0 G5 Gx Gu Go J5 Ga Gj J4 Ge Gv Gg J8 Gz Gq Gw Gc Gh J2 J7 G0 G7 Gl J6 G8 Gr G1 Gs G2 Gk Gn G6 Gb Gp G3 J3 Gi Gy : Value} {b7 : Nat} {s7 : Bool} {a7 : Option Addr} {m7 c7 : Nat} {b9 : Nat} {s9 : Bool} {a9 : Option Addr} {m9 c9 : Nat} {b10 : Nat} {s10 : Bool} {a10 : Option Addr} {m10 c10 : Nat} {c41 c49 z47 : Int} {b50 : Bool} (HC41 : decide (c41 ≤ 0) = false) (HC50 : (c49 != 0) = b50)
  (LD : Hid (∀ X : World, Below W0.heap.size W0 X → X.cell? ⟨b7, 0, none⟩ = some (.bool s7) ∧ X.cell? ⟨b7, 1, none⟩ = some (.slice a7 m7 c7) ∧ X.cell? ⟨b9, 0, none⟩ = some (.bool s9) ∧ X.cell? ⟨b9, 1, none⟩ = some (.slice a9 m9 c9) ∧ X.cell? ⟨b10, 0, none⟩ = some (.bool s10) ∧ X.cell? ⟨b10, 1, none⟩ = some (.slice a10 m10 c10)))
  (C41 : Hid (∀ X, Below W0.heap.size W0 X → Calls Tryz.prog 35 #[.agg #[.bool s9, .slice a9 m9 c9], .agg #[.bool s10, .slice a10 m10 c10]] X (VEnd (KX (.int .i64 c41)) X)))
  (C47 : Hid (∀ X, Below W0.heap.size W0 X → Calls Tryz.prog 41 #[.agg #[.bool s7, .slice a7 m7 c7], .agg #[.bool s9, .slice a9 m9 c9]] X (VEnd (KI z47) X)))
  (C49 : Hid (∀ X x47, Below W0.heap.size W0 X → KI z47 X x47 → Calls Tryz.prog 35 #[x47, .agg #[.bool s10, .slice a10 m10 c10]] X (VEnd (KX (.int .i64 c49)) X)))
  (leaf : ∀ (X : World) (x47 : Value), Hid (Below W0.heap.size W0 X) → Hid (KI z47 X x47) → Q .normal ⟨#[u0, u1, u2, u3, u4, u5, u6, .pointer (some ⟨b7, 0, none⟩), .int .i64 0, .pointer (some ⟨b9, 0, none⟩), .pointer (some ⟨b10, 0, none⟩), G9, Gd, J1, Gt, Gf, G4, Gm, J0, G5, Gx, Gu, Go, J5, Ga, Gj, J4, Ge, Gv, Gg, J8, Gz, Gq, Gw, Gc, Gh, .int .i64 0, .bool false, .bool false, .agg #[.bool s9, .slice a9 m9 c9], .agg #[.bool s10, .slice a10 m10 c10], .int .i64 c41, .bool false, .bool false, .bool false, .agg #[.bool s7, .slice a7 m7 c7], .agg #[.bool s9, .slice a9 m9 c9], x47, .agg #[.bool s10, .slice a10 m10 c10], .int .i64 c49, .bool b50, .bool b50, G3, J3, Gi, Gy], dd⟩ X) :
  (Code.region 9 opsFP9C true).wp Tryz.prog Q ⟨#[u0, u1, u2, u3, u4, u5, u6, .pointer (some ⟨b7, 0, none⟩), .int .i64 0, .pointer (some ⟨b9, 0, none⟩), .pointer (some ⟨b10, 0, none⟩), G9, Gd, J1, Gt, Gf, G4, Gm, J0, G5, Gx, Gu, Go, J5, Ga, Gj, J4, Ge, Gv, Gg, J8, Gz, Gq, Gw, Gc, Gh, J2, J7, G0, G7, Gl, J6, G8, Gr, G1, Gs, G2, Gk, Gn, G6, Gb, Gp, G3, J3, Gi, Gy], dd⟩ W0 := by
 refine region_ops (P := Tryz.prog) (ops := opsFP9C) (W0 := W0) (dd := dd) (k := 16) (T := 0) (E := [0, 1, 2, 6, 7, 8, 14, 15]) (C := [3, 4, 5, 9, 10, 11, 12, 13]) (S := (fun _ => True)) (K := getK [KX (.int .i64 0), KX (.bool false), KX (.bool false), KX (.agg #[.bool s9, .slice a9 m9 c9]), KX (.agg #[.bool s10, .slice a10 m10 c10]), KX (.int .i64 c41), KX (.bool false), KX (.bool false), KX (.bool false), KX (.agg #[.bool s7, .slice a7 m7 c7]), KX (.agg #[.bool s9, .slice a9 m9 c9]), KI z47, KX (.agg #[.bool s10, .slice a10 m10 c10]), KX (.int .i64 c49), KX (.bool b50), KX (.bool b50)]) (tm := (fun x => #[u0, u1, u2, u3, u4, u5, u6, .pointer (some ⟨b7, 0, none⟩), .int .i64 0, .pointer (some ⟨b9, 0, none⟩), .pointer (some ⟨b10, 0, none⟩), G9, Gd, J1, Gt, Gf, G4, Gm, J0, G5, Gx, Gu, Go, J5, Ga, Gj, J4, Ge, Gv, Gg, J8, Gz, Gq, Gw, Gc, Gh, x 0, x 1, x 2, x 3, x 4, x 5, x 6, x 7, x 8, x 9, x 10, x 11, x 12, x 13, x 14, x 15, G3, J3, Gi, Gy])) (getV [J2, J7, G0, G7, Gl, J6, G8, Gr, G1, Gs, G2, Gk, Gn, G6, Gb, Gp]) (by kernel_rfl) (by rfl) (by kernel_rfl) (by kernel_rfl) (by kernel_rfl) (by kernel_rfl) (by kernel_rfl) hQ (fun _ _ => trivial) (getK_mono ⟨m_x, m_x, m_x, m_x, m_x, m_x, m_x, m_x, m_x, m_x, m_x, m_i, m_x, m_x, m_x, m_x, trivial⟩) ?eager ?call ?fin
 case eager =>
  intro i hi
  simp only [List.mem_cons, List.not_mem_nil, or_false] at hi
  rcases hi with rfl | rfl | rfl | rfl | rfl | rfl | rfl | rfl
  ·intro x w hB hd
   clear hd
   refine ⟨oFP9C0, (.int .i64 0), rfl, ?_, rfl, (by first | rfl | simp [Act.put, upd])⟩
   refine Or.inl ⟨by rfl, fun _ _ => ?_⟩
   unfold oFP9C0
   go_simp
   try with_reducible rfl
  ·intro x w hB hd
   obtain ⟨k0, -⟩ := deps_k (ds := [0]) (by kernel_rfl) hd
   clear hd
   have e0 : x 0 = .int .i64 0 := k0
   refine ⟨oFP9C1, (.bool false), rfl, ?_, rfl, (by first | rfl | simp [Act.put, upd])⟩
   rw [e0]
   refine Or.inl ⟨by rfl, fun _ _ => ?_⟩
   unfold oFP9C1
   go_simp
   try with_reducible rfl
  ·intro x w hB hd
   obtain ⟨k1, -⟩ := deps_k (ds := [1]) (by kernel_rfl) hd
   clear hd
   have e1 : x 1 = .bool false := k1
   refine ⟨oFP9C2, (.bool false), rfl, ?_, rfl, (by first | rfl | simp [Act.put, upd])⟩
   rw [e1]
   refine Or.inl ⟨by rfl, fun _ _ => ?_⟩
   unfold oFP9C2
   go_simp
   try with_reducible rfl
  ·intro x w hB hd
   obtain ⟨k5, k2, -⟩ := deps_k (ds := [5, 2]) (by kernel_rfl) hd
   clear hd
   have e5 : x 5 = .int .i64 c41 := k5
   have e2 : x 2 = .bool false := k2
   refine ⟨oFP9C6, (.bool false), rfl, ?_, rfl, (by first | rfl | simp [Act.put, upd])⟩
   rw [e5]
   rw [e2]
   refine Or.inl ⟨by rfl, fun _ _ => ?_⟩
   unfold oFP9C6
   go_simp
   try with_reducible rfl
  ·intro x w hB hd
   obtain ⟨k2, k6, -⟩ := deps_k (ds := [2, 6]) (by kernel_rfl) hd
   clear hd
   have e2 : x 2 = .bool false := k2
   have e6 : x 6 = .bool false := k6
   refine ⟨oFP9C7, (.bool false), rfl, ?_, rfl, (by first | rfl | simp [Act.put, upd])⟩
   rw [e2]
   rw [e6]
   refine Or.inl ⟨by rfl, fun _ _ => ?_⟩
   unfold oFP9C7
   go_simp
   try with_reducible rfl
  ·intro x w hB hd
   obtain ⟨k7, k5, -⟩ := deps_k (ds := [7, 5]) (by kernel_rfl) hd
   clear hd
   have e7 : x 7 = .bool false := k7
   refine ⟨oFP9C8, (.bool false), rfl, ?_, rfl, (by first | rfl | simp [Act.put, upd])⟩
   rw [e7]
   refine Or.inl ⟨by rfl, fun _ _ => ?_⟩
   unfold oFP9C8
   go_simp
   try with_reducible rfl
  ·intro x w hB hd
   obtain ⟨k13, k8, -⟩ := deps_k (ds := [13, 8]) (by kernel_rfl) hd
   clear hd
   have e13 : x 13 = .int .i64 c49 := k13
   have e8 : x 8 = .bool false := k8
   refine ⟨oFP9C14, (.bool b50), rfl, ?_, rfl, (by first | rfl | simp [Act.put, upd])⟩
   rw [e13]
   rw [e8]
   refine Or.inl ⟨by rfl, fun _ _ => ?_⟩
   unfold oFP9C14
   go_simp
   try with_reducible rfl
  ·intro x w hB hd
   obtain ⟨k8, k14, -⟩ := deps_k (ds := [8, 14]) (by kernel_rfl) hd
   clear hd
   have e8 : x 8 = .bool false := k8
   have e14 : x 14 = .bool b50 := k14
   refine ⟨oFP9C15, (.bool b50), rfl, ?_, rfl, (by first | rfl | simp [Act.put, upd])⟩
   rw [e8]
   rw [e14]
   refine Or.inl ⟨by rfl, fun _ _ => ?_⟩
   unfold oFP9C15
   go_simp
   try with_reducible rfl
 case call =>
  intro i hi
  simp only [List.mem_cons, List.not_mem_nil, or_false] at hi
  rcases hi with rfl | rfl | rfl | rfl | rfl | rfl | rfl | rfl
  ·intro x w hB hd
   obtain ⟨k2, -⟩ := deps_k (ds := [2]) (by kernel_rfl) hd
   clear hd
   have e2 : x 2 = .bool false := k2
   have hLD := LD.out w hB
   obtain ⟨f0, f1, f2, f3, f4, f5⟩ := hLD
   refine wpOp_shut (o := oFP9C3) rfl (fun K' hK => ?_)
   unfold oFP9C3
   rw [e2]
   rw [if_pos (by rfl)]
   go_simp
   exact hK.out _ _ ⟨_, (by first | rfl | simp [upd, e2]), Below.refl _ _, rfl⟩
  ·intro x w hB hd
   obtain ⟨k2, -⟩ := deps_k (ds := [2]) (by kernel_rfl) hd
   clear hd
   have e2 : x 2 = .bool false := k2
   have hLD := LD.out w hB
   obtain ⟨f0, f1, f2, f3, f4, f5⟩ := hLD
   refine wpOp_shut (o := oFP9C4) rfl (fun K' hK => ?_)
   unfold oFP9C4
   rw [e2]
   rw [if_pos (by rfl)]
   go_simp
   exact hK.out _ _ ⟨_, (by first | rfl | simp [upd, e2]), Below.refl _ _, rfl⟩
  ·intro x w hB hd
   obtain ⟨k3, k4, k2, k2, -⟩ := deps_k (ds := [3, 4, 2, 2]) (by kernel_rfl) hd
   clear hd
   have e3 : x 3 = .agg #[.bool s9, .slice a9 m9 c9] := k3
   have e4 : x 4 = .agg #[.bool s10, .slice a10 m10 c10] := k4
   have e2 : x 2 = .bool false := k2
   have HC := C41.out w hB
   unfold VEnd at HC
   have HC := Lib.hid HC
   refine wpOp_shut (o := oFP9C5) rfl (fun K' hK => ?_)
   unfold oFP9C5
   rw [e3]
   rw [e4]
   rw [e2]
   rw [if_pos (by rfl)]
   go_simp
   go_at_call 35
   refine HC.out.mono ?_
   rintro e w5 ⟨v5, rfl, hk5, hb5⟩
   clear HC
   go_wp2_with fail
   exact hK.out _ _ ⟨v5, (by first | rfl | simp [upd, e3, e4, e2]), hb5, hk5⟩
  ·intro x w hB hd
   obtain ⟨k8, -⟩ := deps_k (ds := [8]) (by kernel_rfl) hd
   clear hd
   have e8 : x 8 = .bool false := k8
   have hLD := LD.out w hB
   obtain ⟨f0, f1, f2, f3, f4, f5⟩ := hLD
   refine wpOp_shut (o := oFP9C9) rfl (fun K' hK => ?_)
   unfold oFP9C9
   rw [e8]
   rw [if_pos (by rfl)]
   go_simp
   exact hK.out _ _ ⟨_, (by first | rfl | simp [upd, e8]), Below.refl _ _, rfl⟩
  ·intro x w hB hd
   obtain ⟨k8, -⟩ := deps_k (ds := [8]) (by kernel_rfl) hd
   clear hd
   have e8 : x 8 = .bool false := k8
   have hLD := LD.out w hB
   obtain ⟨f0, f1, f2, f3, f4, f5⟩ := hLD
   refine wpOp_shut (o := oFP9C10) rfl (fun K' hK => ?_)
   unfold oFP9C10
   rw [e8]
   rw [if_pos (by rfl)]
   go_simp
   exact hK.out _ _ ⟨_, (by first | rfl | simp [upd, e8]), Below.refl _ _, rfl⟩
  ·intro x w hB hd
   obtain ⟨k9, k10, k8, k8, -⟩ := deps_k (ds := [9, 10, 8, 8]) (by kernel_rfl) hd
   clear hd
   have e9 : x 9 = .agg #[.bool s7, .slice a7 m7 c7] := k9
   have e10 : x 10 = .agg #[.bool s9, .slice a9 m9 c9] := k10
   have e8 : x 8 = .bool false := k8
   have HC := C47.out w hB
   unfold VEnd at HC
   have HC := Lib.hid HC
   refine wpOp_shut (o := oFP9C11) rfl (fun K' hK => ?_)
   unfold oFP9C11
   rw [e9]
   rw [e10]
   rw [e8]
   rw [if_pos (by rfl)]
   go_simp
   go_at_call 41
   refine HC.out.mono ?_
   rintro e w5 ⟨v5, rfl, hk5, hb5⟩
   clear HC
   go_wp2_with fail
   exact hK.out _ _ ⟨v5, (by first | rfl | simp [upd, e9, e10, e8]), hb5, hk5⟩
  ·intro x w hB hd
   obtain ⟨k8, -⟩ := deps_k (ds := [8]) (by kernel_rfl) hd
   clear hd
   have e8 : x 8 = .bool false := k8
   have hLD := LD.out w hB
   obtain ⟨f0, f1, f2, f3, f4, f5⟩ := hLD
   refine wpOp_shut (o := oFP9C12) rfl (fun K' hK => ?_)
   unfold oFP9C12
   rw [e8]
   rw [if_pos (by rfl)]
   go_simp
   exact hK.out _ _ ⟨_, (by first | rfl | simp [upd, e8]), Below.refl _ _, rfl⟩
  ·intro x w hB hd
   obtain ⟨k11, k12, k11, k8, -⟩ := deps_k (ds := [11, 12, 11, 8]) (by kernel_rfl) hd
   clear hd
   have e12 : x 12 = .agg #[.bool s10, .slice a10 m10 c10] := k12
   have e8 : x 8 = .bool false := k8
   have HC := C49.out w _ hB k11
   unfold VEnd at HC
   have HC := Lib.hid HC
   refine wpOp_shut (o := oFP9C13) rfl (fun K' hK => ?_)
   unfold oFP9C13
   rw [e12]
   rw [e8]
   rw [if_pos (by rfl)]
   go_simp
   go_at_call 35
   refine HC.out.mono ?_
   rintro e w5 ⟨v5, rfl, hk5, hb5⟩
   clear HC
   go_wp2_with fail
   exact hK.out _ _ ⟨v5, (by first | rfl | simp [upd, e12, e8]), hb5, hk5⟩
 case fin =>
  intro x w hB H
  have e0 : x 0 = .int .i64 0 := H 0 (by decide)
  have e1 : x 1 = .bool false := H 1 (by decide)
  have e2 : x 2 = .bool false := H 2 (by decide)
  have e3 : x 3 = .agg #[.bool s9, .slice a9 m9 c9] := H 3 (by decide)
  have e4 : x 4 = .agg #[.bool s10, .slice a10 m10 c10] := H 4 (by decide)
  have e5 : x 5 = .int .i64 c41 := H 5 (by decide)
  have e6 : x 6 = .bool false := H 6 (by decide)
  have e7 : x 7 = .bool false := H 7 (by decide)
  have e8 : x 8 = .bool false := H 8 (by decide)
  have e9 : x 9 = .agg #[.bool s7, .slice a7 m7 c7] := H 9 (by decide)
  have e10 : x 10 = .agg #[.bool s9, .slice a9 m9 c9] := H 10 (by decide)
  have k47 : KI z47 w (x 11) := H 11 (by decide)
  have e12 : x 12 = .agg #[.bool s10, .slice a10 m10 c10] := H 12 (by decide)
  have e13 : x 13 = .int .i64 c49 := H 13 (by decide)
  have e14 : x 14 = .bool b50 := H 14 (by decide)
  have e15 : x 15 = .bool b50 := H 15 (by decide)
  clear H
  show wpAnyH _ _ _ _ _ 0 #[true, true, true, true, true, true, true, true, true, true, true, true, true, true, true, true] ⟨#[u0, u1, u2, u3, u4, u5, u6, .pointer (some ⟨b7, 0, none⟩), .int .i64 0, .pointer (some ⟨b9, 0, none⟩), .pointer (some ⟨b10, 0, none⟩), G9, Gd, J1, Gt, Gf, G4, Gm, J0, G5, Gx, Gu, Go, J5, Ga, Gj, J4, Ge, Gv, Gg, J8, Gz, Gq, Gw, Gc, Gh, x 0, x 1, x 2, x 3, x 4, x 5, x 6, x 7, x 8, x 9, x 10, x 11, x 12, x 13, x 14, x 15, G3, J3, Gi, Gy], dd⟩ _
  rw [e0]
  clear e0
  rw [e1]
  clear e1
  rw [e2]
  clear e2
  rw [e3]
  clear e3
  rw [e4]
  clear e4
  rw [e5]
  clear e5
  rw [e6]
  clear e6
  rw [e7]
  clear e7
  rw [e8]
  clear e8
  rw [e9]
  clear e9
  rw [e10]
  clear e10
  generalize x 11 = x47 at *
  rw [e12]
  clear e12
  rw [e13]
  clear e13
  rw [e14]
  clear e14
  rw [e15]
  clear e15
  refine wpAnyH_done (by kernel_rfl) ?_ _
  exact leaf _ _ (Lib.hid hB) (Lib.hid k47)
def oLV60 : Oper := ⟨some 44, Op.call ⟨.value (.func 54), #[.const (.int .i64 1)], #[3]⟩, 34, "law.go:47", #[], none⟩
def oLV61 : Oper := ⟨some 45, Op.load 34 (.tmp 5), 34, "law.go:47", #[], none⟩
def oLV62 : Oper := ⟨some 46, Op.call ⟨.value (.func 26), #[.tmp 44, .tmp 45], #[34, 34]⟩, 42, "law.go:47", #[⟨0, .data⟩, ⟨1, .data⟩, ⟨0, .chain⟩], none⟩
def oLV63 : Oper := ⟨some 43, Op.move (.tmp 46), 42, "law.go:47", #[⟨2, .data⟩], none⟩
def oLV64 : Oper := ⟨some 47, Op.extract (.tmp 43) 0, 34, "law.go:47", #[⟨3, .data⟩], none⟩
def oLV65 : Oper := ⟨some 48, Op.extract (.tmp 43) 1, 41, "law.go:47", #[⟨3, .data⟩, ⟨7, .gcOnly .lateStores⟩], none⟩
def oLV66 : Oper := ⟨some 11, Op.alloc 34, 0, "law.go:47", #[], none⟩
def oLV67 : Oper := ⟨none, Op.store 34 (.tmp 11) (.tmp 47), 0, "law.go:47", #[⟨6, .data⟩, ⟨4, .data⟩, ⟨2, .chain⟩, ⟨0, .phase⟩, ⟨1, .phase⟩, ⟨2, .phase⟩, ⟨3, .phase⟩, ⟨4, .phase⟩, ⟨5, .textOnly .lateStores⟩, ⟨6, .phase⟩], none⟩
def oLV68 : Oper := ⟨some 12, Op.assign (.tmp 48), 41, "law.go:47", #[⟨5, .data⟩, ⟨7, .chain⟩, ⟨0, .phase⟩, ⟨1, .phase⟩, ⟨2, .phase⟩, ⟨3, .phase⟩, ⟨4, .phase⟩, ⟨5, .phase⟩, ⟨6, .phase⟩, ⟨7, .phase⟩], none⟩
def opsLV6 : Array Oper := #[oLV60, oLV61, oLV62, oLV63, oLV64, oLV65, oLV66, oLV67, oLV68]
set_option maxHeartbeats 8000000 in
theorem regLV6 {Q : Exit → Act → World → Prop} (hQ : ∀ c a d v w, Q (.panic c) (Act.put a d v) w → Q (.panic c) a w) {W0 : World} {dd : List Deferred} {u0 u1 u2 u3 u4 u6 u7 u8 u9 J3 Ja Gi Uc U7 Gk Gf Jh Gx J6 U9 Jn Jj J1 G3 Gn Jp G4 Gv Gl G9 Ub Gt Gw Gh Jd Gy Jr Gd Jz U5 Uf J9 Gu Jw Ga Jx U3 Go J7 J8 Gr G1 Gz Je Ua Gm J2 Jy Gc Jk Gb Ju G0 G7 Jf Ue Jq Ji Ge J0 Jo G5 U6 Js Jg J4 Jc Jm Gq Jv Gp Gs Gg U1 G2 U8 Jl G6 Ug G8 Gj Jb Jt J5 Ud U0 U4 U2 : Value} {b5 : Nat} {s5 : Bool} {a5 : Option Addr} {m5 c5 : Nat} {s5x : Bool} {a5x : Option Addr} {m5x c5x : Nat} {p44 q44 : Int} {R : Int × Int × Int}
  (LD : Hid (∀ X : World, Below W0.heap.size W0 X → X.cell? ⟨b5, 0, none⟩ = some (.bool s5) ∧ X.cell? ⟨b5, 1, none⟩ = some (.slice a5 m5 c5) ∧ X.cell? ⟨b5, 2, none⟩ = some (.bool s5x) ∧ X.cell? ⟨b5, 3, none⟩ = some (.slice a5x m5x c5x)))
  (C44 : Hid (∀ X, Below W0.heap.size W0 X → Calls Tryz.prog 54 #[.int .i64 1] X (VEnd (KF p44 q44) X)))
  (C46 : Hid (∀ X x44, Below W0.heap.size W0 X → KF p44 q44 X x44 → Calls Tryz.prog 26 #[x44, .agg #[.bool s5, .slice a5 m5 c5, .bool s5x, .slice a5x m5x c5x]] X (VEnd (KTF R) X)))
  (leaf : ∀ (X : World) (x44 : Value) (x46 : Value) (x43 : Value) (sv47 tv47 : Bool) (av47 dv47 : Option Addr) (mv47 iv47 cv47 jv47 : Nat) (t11 : Nat), Hid (Below W0.heap.size W0 X) → W0.heap.size ≤ t11 → Hid (FBox X t11 R.2.1 R.2.2) → Q .normal ⟨#[u0, u1, u2, u3, u4, .pointer (some ⟨b5, 0, none⟩), u6, u7, u8, u9, J3, .pointer (some ⟨t11, 0, none⟩), .int .i64 R.1, Uc, U7, Gk, Gf, Jh, Gx, J6, U9, Jn, Jj, J1, G3, Gn, Jp, G4, Gv, Gl, G9, Ub, Gt, Gw, Gh, Jd, Gy, Jr, Gd, Jz, U5, Uf, J9, x43, x44, .agg #[.bool s5, .slice a5 m5 c5, .bool s5x, .slice a5x m5x c5x], x46, .agg #[.bool sv47, .slice av47 mv47 cv47, .bool tv47, .slice dv47 iv47 jv47], .int .i64 R.1, J7, J8, Gr, G1, Gz, Je, Ua, Gm, J2, Jy, Gc, Jk, Gb, Ju, G0, G7, Jf, Ue, Jq, Ji, Ge, J0, Jo, G5, U6, Js, Jg, J4, Jc, Jm, Gq, Jv, Gp, Gs, Gg, U1, G2, U8, Jl, G6, Ug, G8, Gj, Jb, Jt, J5, Ud, U0, U4, U2], dd⟩ X) :
  (Code.region 6 opsLV6 true).wp Tryz.prog Q ⟨#[u0, u1, u2, u3, u4, .pointer (some ⟨b5, 0, none⟩), u6, u7, u8, u9, J3, Ja, Gi, Uc, U7, Gk, Gf, Jh, Gx, J6, U9, Jn, Jj, J1, G3, Gn, Jp, G4, Gv, Gl, G9, Ub, Gt, Gw, Gh, Jd, Gy, Jr, Gd, Jz, U5, Uf, J9, Gu, Jw, Ga, Jx, U3, Go, J7, J8, Gr, G1, Gz, Je, Ua, Gm, J2, Jy, Gc, Jk, Gb, Ju, G0, G7, Jf, Ue, Jq, Ji, Ge, J0, Jo, G5, U6, Js, Jg, J4, Jc, Jm, Gq, Jv, Gp, Gs, Gg, U1, G2, U8, Jl, G6, Ug, G8, Gj, Jb, Jt, J5, Ud, U0, U4, U2], dd⟩ W0 := by
 refine region_ops (P := Tryz.prog) (ops := opsLV6) (W0 := W0) (dd := dd) (k := 7) (T := 2) (E := [3, 4, 5]) (C := [0, 1, 2, 6]) (S := (fun _ => True)) (K := getK [KF p44 q44, KX (.agg #[.bool s5, .slice a5 m5 c5, .bool s5x, .slice a5x m5x c5x]), KTF R, KTF R, KF R.2.1 R.2.2, KX (.int .i64 R.1), KA W0.heap.size 34 [.bool false, .slice none 0 0, .bool false, .slice none 0 0]]) (tm := (fun x => #[u0, u1, u2, u3, u4, .pointer (some ⟨b5, 0, none⟩), u6, u7, u8, u9, J3, x 6, Gi, Uc, U7, Gk, Gf, Jh, Gx, J6, U9, Jn, Jj, J1, G3, Gn, Jp, G4, Gv, Gl, G9, Ub, Gt, Gw, Gh, Jd, Gy, Jr, Gd, Jz, U5, Uf, J9, x 3, x 0, x 1, x 2, x 4, x 5, J7, J8, Gr, G1, Gz, Je, Ua, Gm, J2, Jy, Gc, Jk, Gb, Ju, G0, G7, Jf, Ue, Jq, Ji, Ge, J0, Jo, G5, U6, Js, Jg, J4, Jc, Jm, Gq, Jv, Gp, Gs, Gg, U1, G2, U8, Jl, G6, Ug, G8, Gj, Jb, Jt, J5, Ud, U0, U4, U2])) (getV [Jw, Ga, Jx, Gu, U3, Go, Ja]) (by kernel_rfl) (by rfl) (by kernel_rfl) (by kernel_rfl) (by kernel_rfl) (by kernel_rfl) (by kernel_rfl) hQ (fun _ _ => trivial) (getK_mono ⟨m_f, m_x, m_tf, m_tf, m_f, m_x, m_a, trivial⟩) ?eager ?call ?fin
 case eager =>
  intro i hi
  simp only [List.mem_cons, List.not_mem_nil, or_false] at hi
  rcases hi with rfl | rfl | rfl
  ·intro x w hB hd
   obtain ⟨k2, -⟩ := deps_k (ds := [2]) (by kernel_rfl) hd
   clear hd
   refine ⟨oLV63, (x 2), rfl, ?_, k2, (by first | rfl | simp [Act.put, upd])⟩
   refine Or.inl ⟨by rfl, fun _ _ => ?_⟩
   unfold oLV63
   go_simp
   try with_reducible rfl
  ·intro x w hB hd
   obtain ⟨k3, -⟩ := deps_k (ds := [3]) (by kernel_rfl) hd
   clear hd
   obtain ⟨y3, e3, hy3⟩ : KTF R w (x 3) := k3
   refine ⟨oLV64, y3, rfl, ?_, hy3, (by first | rfl | simp [Act.put, upd])⟩
   rw [e3]
   refine Or.inl ⟨by rfl, fun _ _ => ?_⟩
   unfold oLV64
   go_simp
   try with_reducible rfl
  ·intro x w hB hd
   obtain ⟨k3, -⟩ := deps_k (ds := [3]) (by kernel_rfl) hd
   clear hd
   obtain ⟨y3, e3, hy3⟩ : KTF R w (x 3) := k3
   refine ⟨oLV65, (.int .i64 R.1), rfl, ?_, rfl, (by first | rfl | simp [Act.put, upd])⟩
   rw [e3]
   refine Or.inl ⟨by rfl, fun _ _ => ?_⟩
   unfold oLV65
   go_simp
   try with_reducible rfl
 case call =>
  intro i hi
  simp only [List.mem_cons, List.not_mem_nil, or_false] at hi
  rcases hi with rfl | rfl | rfl | rfl
  ·intro x w hB hd
   clear hd
   have HC := C44.out w hB
   unfold VEnd at HC
   have HC := Lib.hid HC
   refine wpOp_shut (o := oLV60) rfl (fun K' hK => ?_)
   unfold oLV60
   go_simp
   go_at_call 54
   refine HC.out.mono ?_
   rintro e w5 ⟨v5, rfl, hk5, hb5⟩
   clear HC
   go_wp2_with fail
   exact hK.out _ _ ⟨v5, (by first | rfl | simp [upd]), hb5, hk5⟩
  ·intro x w hB hd
   clear hd
   have hLD := LD.out w hB
   obtain ⟨f0, f1, f2, f3⟩ := hLD
   refine wpOp_shut (o := oLV61) rfl (fun K' hK => ?_)
   unfold oLV61
   go_simp
   exact hK.out _ _ ⟨_, (by first | rfl | simp [upd]), Below.refl _ _, rfl⟩
  ·intro x w hB hd
   obtain ⟨k0, k1, k0, -⟩ := deps_k (ds := [0, 1, 0]) (by kernel_rfl) hd
   clear hd
   have e1 : x 1 = .agg #[.bool s5, .slice a5 m5 c5, .bool s5x, .slice a5x m5x c5x] := k1
   have HC := C46.out w _ hB k0
   unfold VEnd at HC
   have HC := Lib.hid HC
   refine wpOp_shut (o := oLV62) rfl (fun K' hK => ?_)
   unfold oLV62
   rw [e1]
   go_simp
   go_at_call 26
   refine HC.out.mono ?_
   rintro e w5 ⟨v5, rfl, hk5, hb5⟩
   clear HC
   go_wp2_with fail
   exact hK.out _ _ ⟨v5, (by first | rfl | simp [upd, e1]), hb5, hk5⟩
  ·intro x w hB hd
   clear hd
   refine wpOp_shut (o := oLV66) rfl (fun K' hK => ?_)
   unfold oLV66
   go_simp
   exact hK.out _ _ ⟨_, (by first | rfl | simp [Act.put, upd]), below_one w (.cells #[.bool false, .slice none 0 0, .bool false, .slice none 0 0] 34), ka_new 34 [.bool false, .slice none 0 0, .bool false, .slice none 0 0] hB.size⟩
 case fin =>
  intro x w hB H
  have k44 : KF p44 q44 w (x 0) := H 0 (by decide)
  have e1 : x 1 = .agg #[.bool s5, .slice a5 m5 c5, .bool s5x, .slice a5x m5x c5x] := H 1 (by decide)
  have k46 : KTF R w (x 2) := H 2 (by decide)
  have k43 : KTF R w (x 3) := H 3 (by decide)
  have k47 : KF R.2.1 R.2.2 w (x 4) := H 4 (by decide)
  obtain ⟨sv47, tv47, av47, dv47, mv47, iv47, cv47, jv47, e4⟩ := fat_shape k47
  rw [e4] at k47
  have e5 : x 5 = .int .i64 R.1 := H 5 (by decide)
  obtain ⟨t11, e6, L11, l11⟩ : KA W0.heap.size 34 [.bool false, .slice none 0 0, .bool false, .slice none 0 0] w (x 6) := H 6 (by decide)
  clear H
  show wpAnyH _ _ _ _ _ 2 #[true, true, true, true, true, true, true, false, false] ⟨#[u0, u1, u2, u3, u4, .pointer (some ⟨b5, 0, none⟩), u6, u7, u8, u9, J3, x 6, Gi, Uc, U7, Gk, Gf, Jh, Gx, J6, U9, Jn, Jj, J1, G3, Gn, Jp, G4, Gv, Gl, G9, Ub, Gt, Gw, Gh, Jd, Gy, Jr, Gd, Jz, U5, Uf, J9, x 3, x 0, x 1, x 2, x 4, x 5, J7, J8, Gr, G1, Gz, Je, Ua, Gm, J2, Jy, Gc, Jk, Gb, Ju, G0, G7, Jf, Ue, Jq, Ji, Ge, J0, Jo, G5, U6, Js, Jg, J4, Jc, Jm, Gq, Jv, Gp, Gs, Gg, U1, G2, U8, Jl, G6, Ug, G8, Gj, Jb, Jt, J5, Ud, U0, U4, U2], dd⟩ _
  generalize x 0 = x44 at *
  rw [e1]
  clear e1
  generalize x 2 = x46 at *
  generalize x 3 = x43 at *
  rw [e4]
  clear e4
  rw [e5]
  clear e5
  rw [e6]
  clear e6
  obtain ⟨⟨r0, r1, r2, r3⟩, r4, r5, r6, r7⟩ := cellsF l11
  refine wpAnyH_ready (rs := [7]) (by kernel_rfl) (by simp) (AllReadyH.cons (o := oLV67) rfl (fun K hK => ?_) AllReadyH.nil)
  unfold oLV67
  go_simp
  refine hK.out _ _ trivial (fun hHeld => ?_)
  clear r0 r1 r2 r3 r4 r5 r6 r7
  clear hK K
  try simp only [List.setIfInBounds_toArray, List.set_cons_zero, List.set_cons_succ]
  refine wpAnyH_ready (rs := [8]) (by kernel_rfl) (by simp) (AllReadyH.cons (o := oLV68) rfl (fun K hK => ?_) AllReadyH.nil)
  unfold oLV68
  go_simp
  refine hK.out _ _ trivial (fun hHeld => ?_)
  clear hK K
  try simp only [List.setIfInBounds_toArray, List.set_cons_zero, List.set_cons_succ]
  refine wpAnyH_done (by kernel_rfl) ?_ _
  exact leaf _ _ _ _ _ _ _ _ _ _ _ _ _ (Lib.hid (below_set4 hB L11)) L11 (Lib.hid (FBox.store l11 k47))
end Go.Proofs.YtepakogbbomaoaaGreatDoor
