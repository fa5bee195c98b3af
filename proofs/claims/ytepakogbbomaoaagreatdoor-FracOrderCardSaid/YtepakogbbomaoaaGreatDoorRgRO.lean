/-
 Laws of drawn regions: package frac, its reference, the laws' helpers (genRgm.py makes this text).
-/
import Derived.Test.YtepakogbbomaoaaGreatDoorRgAO
namespace Go.Proofs.YtepakogbbomaoaaGreatDoor
open Go.RowKit Go.Shelf
set_option linter.unusedVariables false
set_option maxRecDepth 100000
def oRMu0 : Oper := ⟨some 9, Op.fieldAddr 26 (.tmp 2) 0, 0, "ref.go:70", #[], none⟩
def oRMu1 : Oper := ⟨some 10, Op.load 24 (.tmp 9), 24, "ref.go:70", #[⟨0, .data⟩], none⟩
def oRMu2 : Oper := ⟨some 11, Op.fieldAddr 26 (.tmp 3) 0, 0, "ref.go:70", #[], none⟩
def oRMu3 : Oper := ⟨some 12, Op.load 24 (.tmp 11), 24, "ref.go:70", #[⟨2, .data⟩], none⟩
def oRMu4 : Oper := ⟨some 13, Op.call ⟨.value (.func 40), #[.tmp 10, .tmp 12], #[24, 24]⟩, 24, "ref.go:70", #[⟨1, .data⟩, ⟨3, .data⟩], none⟩
def oRMu5 : Oper := ⟨some 14, Op.fieldAddr 26 (.tmp 2) 1, 0, "ref.go:70", #[], none⟩
def oRMu6 : Oper := ⟨some 15, Op.load 24 (.tmp 14), 24, "ref.go:70", #[⟨5, .data⟩], none⟩
def oRMu7 : Oper := ⟨some 16, Op.fieldAddr 26 (.tmp 3) 1, 0, "ref.go:70", #[], none⟩
def oRMu8 : Oper := ⟨some 17, Op.load 24 (.tmp 16), 24, "ref.go:70", #[⟨7, .data⟩], none⟩
def oRMu9 : Oper := ⟨some 18, Op.call ⟨.value (.func 40), #[.tmp 15, .tmp 17], #[24, 24]⟩, 24, "ref.go:70", #[⟨6, .data⟩, ⟨8, .data⟩, ⟨4, .chain⟩], none⟩
def oRMu10 : Oper := ⟨some 19, Op.call ⟨.value (.func 31), #[.tmp 13, .tmp 18], #[24, 24]⟩, 65, "ref.go:70", #[⟨4, .data⟩, ⟨9, .data⟩, ⟨9, .chain⟩], none⟩
def oRMu11 : Oper := ⟨some 8, Op.move (.tmp 19), 65, "ref.go:70", #[⟨10, .data⟩], none⟩
def oRMu12 : Oper := ⟨some 20, Op.extract (.tmp 8) 0, 26, "ref.go:70", #[⟨11, .data⟩], none⟩
def oRMu13 : Oper := ⟨some 21, Op.extract (.tmp 8) 1, 41, "ref.go:70", #[⟨11, .data⟩, ⟨15, .gcOnly .lateStores⟩], none⟩
def oRMu14 : Oper := ⟨some 6, Op.alloc 26, 0, "ref.go:70", #[], none⟩
def oRMu15 : Oper := ⟨none, Op.store 26 (.tmp 6) (.tmp 20), 0, "ref.go:70", #[⟨14, .data⟩, ⟨12, .data⟩, ⟨10, .chain⟩, ⟨0, .phase⟩, ⟨1, .phase⟩, ⟨2, .phase⟩, ⟨3, .phase⟩, ⟨4, .phase⟩, ⟨5, .phase⟩, ⟨6, .phase⟩, ⟨7, .phase⟩, ⟨8, .phase⟩, ⟨9, .phase⟩, ⟨10, .phase⟩, ⟨11, .phase⟩, ⟨12, .phase⟩, ⟨13, .textOnly .lateStores⟩, ⟨14, .phase⟩], none⟩
def oRMu16 : Oper := ⟨some 7, Op.assign (.tmp 21), 41, "ref.go:70", #[⟨13, .data⟩, ⟨15, .chain⟩, ⟨0, .phase⟩, ⟨1, .phase⟩, ⟨2, .phase⟩, ⟨3, .phase⟩, ⟨4, .phase⟩, ⟨5, .phase⟩, ⟨6, .phase⟩, ⟨7, .phase⟩, ⟨8, .phase⟩, ⟨9, .phase⟩, ⟨10, .phase⟩, ⟨11, .phase⟩, ⟨12, .phase⟩, ⟨13, .phase⟩, ⟨14, .phase⟩, ⟨15, .phase⟩], none⟩
def opsRMu : Array Oper := #[oRMu0, oRMu1, oRMu2, oRMu3, oRMu4, oRMu5, oRMu6, oRMu7, oRMu8, oRMu9, oRMu10, oRMu11, oRMu12, oRMu13, oRMu14, oRMu15, oRMu16]
set_option maxHeartbeats 8000000 in
theorem regRMu {Q : Exit → Act → World → Prop} (hQ : ∀ c a d v w, Q (.panic c) (Act.put a d v) w → Q (.panic c) a w) {W0 : World} {dd : List Deferred} {u0 u1 u4 u5 u6 u7 u8 u9 G0 G3 G5 Ge Ga G6 G1 G8 Gd G2 Gc Gb G9 Gg G4 G7 Gf : Value} {b2 : Nat} {s2 : Bool} {a2 : Option Addr} {m2 c2 : Nat} {s2x : Bool} {a2x : Option Addr} {m2x c2x : Nat} {b3 : Nat} {s3 : Bool} {a3 : Option Addr} {m3 c3 : Nat} {s3x : Bool} {a3x : Option Addr} {m3x c3x : Nat} {z13 z18 : Int} {R : Int × Int × Int}
  (LD : Hid (∀ X : World, Below W0.heap.size W0 X → X.cell? ⟨b2, 0, none⟩ = some (.bool s2) ∧ X.cell? ⟨b2, 1, none⟩ = some (.slice a2 m2 c2) ∧ X.cell? ⟨b2, 2, none⟩ = some (.bool s2x) ∧ X.cell? ⟨b2, 3, none⟩ = some (.slice a2x m2x c2x) ∧ X.cell? ⟨b3, 0, none⟩ = some (.bool s3) ∧ X.cell? ⟨b3, 1, none⟩ = some (.slice a3 m3 c3) ∧ X.cell? ⟨b3, 2, none⟩ = some (.bool s3x) ∧ X.cell? ⟨b3, 3, none⟩ = some (.slice a3x m3x c3x)))
  (C13 : Hid (∀ X, Below W0.heap.size W0 X → Calls Tryz.prog 40 #[.agg #[.bool s2, .slice a2 m2 c2], .agg #[.bool s3, .slice a3 m3 c3]] X (VEnd (KN z13) X)))
  (C18 : Hid (∀ X, Below W0.heap.size W0 X → Calls Tryz.prog 40 #[.agg #[.bool s2x, .slice a2x m2x c2x], .agg #[.bool s3x, .slice a3x m3x c3x]] X (VEnd (KN z18) X)))
  (C19 : Hid (∀ X x13 x18, Below W0.heap.size W0 X → KN z13 X x13 → KN z18 X x18 → Calls Tryz.prog 31 #[x13, x18] X (VEnd (KTR R) X)))
  (leaf : ∀ (X : World) (x13 : Value) (x18 : Value) (x19 : Value) (x8 : Value) (sv20 tv20 : Bool) (av20 dv20 : Option Addr) (mv20 iv20 cv20 jv20 : Nat) (t6 : Nat), Hid (Below W0.heap.size W0 X) → W0.heap.size ≤ t6 → Hid (RBox X t6 R.2.1 R.2.2) → Q .normal ⟨#[u0, u1, .pointer (some ⟨b2, 0, none⟩), .pointer (some ⟨b3, 0, none⟩), u4, u5, .pointer (some ⟨t6, 0, none⟩), .int .i64 R.1, x8, .pointer (some ⟨b2, 0, none⟩), .agg #[.bool s2, .slice a2 m2 c2], .pointer (some ⟨b3, 0, none⟩), .agg #[.bool s3, .slice a3 m3 c3], x13, .pointer (some ⟨b2, 2, none⟩), .agg #[.bool s2x, .slice a2x m2x c2x], .pointer (some ⟨b3, 2, none⟩), .agg #[.bool s3x, .slice a3x m3x c3x], x18, x19, .agg #[.bool sv20, .slice av20 mv20 cv20, .bool tv20, .slice dv20 iv20 jv20], .int .i64 R.1, G9, Gg, G4, G7, Gf], dd⟩ X) :
  (Code.region 1 opsRMu true).wp Tryz.prog Q ⟨#[u0, u1, .pointer (some ⟨b2, 0, none⟩), .pointer (some ⟨b3, 0, none⟩), u4, u5, u6, u7, u8, u9, G0, G3, G5, Ge, Ga, G6, G1, G8, Gd, G2, Gc, Gb, G9, Gg, G4, G7, Gf], dd⟩ W0 := by
 refine region_ops (P := Tryz.prog) (ops := opsRMu) (W0 := W0) (dd := dd) (k := 15) (T := 2) (E := [0, 2, 5, 7, 11, 12, 13]) (C := [1, 3, 4, 6, 8, 9, 10, 14]) (S := (fun _ => True)) (K := getK [KX (.pointer (some ⟨b2, 0, none⟩)), KX (.agg #[.bool s2, .slice a2 m2 c2]), KX (.pointer (some ⟨b3, 0, none⟩)), KX (.agg #[.bool s3, .slice a3 m3 c3]), KN z13, KX (.pointer (some ⟨b2, 2, none⟩)), KX (.agg #[.bool s2x, .slice a2x m2x c2x]), KX (.pointer (some ⟨b3, 2, none⟩)), KX (.agg #[.bool s3x, .slice a3x m3x c3x]), KN z18, KTR R, KTR R, KR R.2.1 R.2.2, KX (.int .i64 R.1), KA W0.heap.size 26 [.bool false, .slice none 0 0, .bool false, .slice none 0 0]]) (tm := (fun x => #[u0, u1, .pointer (some ⟨b2, 0, none⟩), .pointer (some ⟨b3, 0, none⟩), u4, u5, x 14, u7, x 11, x 0, x 1, x 2, x 3, x 4, x 5, x 6, x 7, x 8, x 9, x 10, x 12, x 13, G9, Gg, G4, G7, Gf])) (getV [u9, G0, G3, G5, Ge, Ga, G6, G1, G8, Gd, G2, u8, Gc, Gb, u6]) (by kernel_rfl) (by rfl) (by kernel_rfl) (by kernel_rfl) (by kernel_rfl) (by kernel_rfl) (by kernel_rfl) hQ (fun _ _ => trivial) (getK_mono ⟨m_x, m_x, m_x, m_x, m_n, m_x, m_x, m_x, m_x, m_n, m_tr, m_tr, m_r, m_x, m_a, trivial⟩) ?eager ?call ?fin
 case eager =>
  intro i hi
  simp only [List.mem_cons, List.not_mem_nil, or_false] at hi
  rcases hi with rfl | rfl | rfl | rfl | rfl | rfl | rfl
  ·intro x w hB hd
   clear hd
   refine ⟨oRMu0, (.pointer (some ⟨b2, 0, none⟩)), rfl, ?_, rfl, (by first | rfl | simp [Act.put, upd])⟩
   refine Or.inl ⟨by rfl, fun _ _ => ?_⟩
   unfold oRMu0
   go_simp
   try with_reducible rfl
  ·intro x w hB hd
   clear hd
   refine ⟨oRMu2, (.pointer (some ⟨b3, 0, none⟩)), rfl, ?_, rfl, (by first | rfl | simp [Act.put, upd])⟩
   refine Or.inl ⟨by rfl, fun _ _ => ?_⟩
   unfold oRMu2
   go_simp
   try with_reducible rfl
  ·intro x w hB hd
   clear hd
   refine ⟨oRMu5, (.pointer (some ⟨b2, 2, none⟩)), rfl, ?_, rfl, (by first | rfl | simp [Act.put, upd])⟩
   refine Or.inl ⟨by rfl, fun _ _ => ?_⟩
   unfold oRMu5
   go_simp
   try with_reducible rfl
  ·intro x w hB hd
   clear hd
   refine ⟨oRMu7, (.pointer (some ⟨b3, 2, none⟩)), rfl, ?_, rfl, (by first | rfl | simp [Act.put, upd])⟩
   refine Or.inl ⟨by rfl, fun _ _ => ?_⟩
   unfold oRMu7
   go_simp
   try with_reducible rfl
  ·intro x w hB hd
   obtain ⟨k10, -⟩ := deps_k (ds := [10]) (by kernel_rfl) hd
   clear hd
   refine ⟨oRMu11, (x 10), rfl, ?_, k10, (by first | rfl | simp [Act.put, upd])⟩
   refine Or.inl ⟨by rfl, fun _ _ => ?_⟩
   unfold oRMu11
   go_simp
   try with_reducible rfl
  ·intro x w hB hd
   obtain ⟨k11, -⟩ := deps_k (ds := [11]) (by kernel_rfl) hd
   clear hd
   obtain ⟨y11, e11, hy11⟩ : KTR R w (x 11) := k11
   refine ⟨oRMu12, y11, rfl, ?_, hy11, (by first | rfl | simp [Act.put, upd])⟩
   rw [e11]
   refine Or.inl ⟨by rfl, fun _ _ => ?_⟩
   unfold oRMu12
   go_simp
   try with_reducible rfl
  ·intro x w hB hd
   obtain ⟨k11, -⟩ := deps_k (ds := [11]) (by kernel_rfl) hd
   clear hd
   obtain ⟨y11, e11, hy11⟩ : KTR R w (x 11) := k11
   refine ⟨oRMu13, (.int .i64 R.1), rfl, ?_, rfl, (by first | rfl | simp [Act.put, upd])⟩
   rw [e11]
   refine Or.inl ⟨by rfl, fun _ _ => ?_⟩
   unfold oRMu13
   go_simp
   try with_reducible rfl
 case call =>
  intro i hi
  simp only [List.mem_cons, List.not_mem_nil, or_false] at hi
  rcases hi with rfl | rfl | rfl | rfl | rfl | rfl | rfl | rfl
  ·intro x w hB hd
   obtain ⟨k0, -⟩ := deps_k (ds := [0]) (by kernel_rfl) hd
   clear hd
   have e0 : x 0 = .pointer (some ⟨b2, 0, none⟩) := k0
   have hLD := LD.out w hB
   obtain ⟨f0, f1, f2, f3, f4, f5, f6, f7⟩ := hLD
   refine wpOp_shut (o := oRMu1) rfl (fun K' hK => ?_)
   unfold oRMu1
   rw [e0]
   go_simp
   exact hK.out _ _ ⟨_, (by first | rfl | simp [upd, e0]), Below.refl _ _, rfl⟩
  ·intro x w hB hd
   obtain ⟨k2, -⟩ := deps_k (ds := [2]) (by kernel_rfl) hd
   clear hd
   have e2 : x 2 = .pointer (some ⟨b3, 0, none⟩) := k2
   have hLD := LD.out w hB
   obtain ⟨f0, f1, f2, f3, f4, f5, f6, f7⟩ := hLD
   refine wpOp_shut (o := oRMu3) rfl (fun K' hK => ?_)
   unfold oRMu3
   rw [e2]
   go_simp
   exact hK.out _ _ ⟨_, (by first | rfl | simp [upd, e2]), Below.refl _ _, rfl⟩
  ·intro x w hB hd
   obtain ⟨k1, k3, -⟩ := deps_k (ds := [1, 3]) (by kernel_rfl) hd
   clear hd
   have e1 : x 1 = .agg #[.bool s2, .slice a2 m2 c2] := k1
   have e3 : x 3 = .agg #[.bool s3, .slice a3 m3 c3] := k3
   have HC := C13.out w hB
   unfold VEnd at HC
   have HC := Lib.hid HC
   refine wpOp_shut (o := oRMu4) rfl (fun K' hK => ?_)
   unfold oRMu4
   rw [e1]
   rw [e3]
   go_simp
   go_at_call 40
   refine HC.out.mono ?_
   rintro e w5 ⟨v5, rfl, hk5, hb5⟩
   clear HC
   go_wp2_with fail
   exact hK.out _ _ ⟨v5, (by first | rfl | simp [upd, e1, e3]), hb5, hk5⟩
  ·intro x w hB hd
   obtain ⟨k5, -⟩ := deps_k (ds := [5]) (by kernel_rfl) hd
   clear hd
   have e5 : x 5 = .pointer (some ⟨b2, 2, none⟩) := k5
   have hLD := LD.out w hB
   obtain ⟨f0, f1, f2, f3, f4, f5, f6, f7⟩ := hLD
   refine wpOp_shut (o := oRMu6) rfl (fun K' hK => ?_)
   unfold oRMu6
   rw [e5]
   go_simp
   exact hK.out _ _ ⟨_, (by first | rfl | simp [upd, e5]), Below.refl _ _, rfl⟩
  ·intro x w hB hd
   obtain ⟨k7, -⟩ := deps_k (ds := [7]) (by kernel_rfl) hd
   clear hd
   have e7 : x 7 = .pointer (some ⟨b3, 2, none⟩) := k7
   have hLD := LD.out w hB
   obtain ⟨f0, f1, f2, f3, f4, f5, f6, f7⟩ := hLD
   refine wpOp_shut (o := oRMu8) rfl (fun K' hK => ?_)
   unfold oRMu8
   rw [e7]
   go_simp
   exact hK.out _ _ ⟨_, (by first | rfl | simp [upd, e7]), Below.refl _ _, rfl⟩
  ·intro x w hB hd
   obtain ⟨k6, k8, k4, -⟩ := deps_k (ds := [6, 8, 4]) (by kernel_rfl) hd
   clear hd
   have e6 : x 6 = .agg #[.bool s2x, .slice a2x m2x c2x] := k6
   have e8 : x 8 = .agg #[.bool s3x, .slice a3x m3x c3x] := k8
   have HC := C18.out w hB
   unfold VEnd at HC
   have HC := Lib.hid HC
   refine wpOp_shut (o := oRMu9) rfl (fun K' hK => ?_)
   unfold oRMu9
   rw [e6]
   rw [e8]
   go_simp
   go_at_call 40
   refine HC.out.mono ?_
   rintro e w5 ⟨v5, rfl, hk5, hb5⟩
   clear HC
   go_wp2_with fail
   exact hK.out _ _ ⟨v5, (by first | rfl | simp [upd, e6, e8]), hb5, hk5⟩
  ·intro x w hB hd
   obtain ⟨k4, k9, k9, -⟩ := deps_k (ds := [4, 9, 9]) (by kernel_rfl) hd
   clear hd
   have HC := C19.out w _ _ hB k4 k9
   unfold VEnd at HC
   have HC := Lib.hid HC
   refine wpOp_shut (o := oRMu10) rfl (fun K' hK => ?_)
   unfold oRMu10
   go_simp
   go_at_call 31
   refine HC.out.mono ?_
   rintro e w5 ⟨v5, rfl, hk5, hb5⟩
   clear HC
   go_wp2_with fail
   exact hK.out _ _ ⟨v5, (by first | rfl | simp [upd]), hb5, hk5⟩
  ·intro x w hB hd
   clear hd
   refine wpOp_shut (o := oRMu14) rfl (fun K' hK => ?_)
   unfold oRMu14
   go_simp
   exact hK.out _ _ ⟨_, (by first | rfl | simp [Act.put, upd]), below_one w (.cells #[.bool false, .slice none 0 0, .bool false, .slice none 0 0] 26), ka_new 26 [.bool false, .slice none 0 0, .bool false, .slice none 0 0] hB.size⟩
 case fin =>
  intro x w hB H
  have e0 : x 0 = .pointer (some ⟨b2, 0, none⟩) := H 0 (by decide)
  have e1 : x 1 = .agg #[.bool s2, .slice a2 m2 c2] := H 1 (by decide)
  have e2 : x 2 = .pointer (some ⟨b3, 0, none⟩) := H 2 (by decide)
  have e3 : x 3 = .agg #[.bool s3, .slice a3 m3 c3] := H 3 (by decide)
  have k13 : KN z13 w (x 4) := H 4 (by decide)
  have e5 : x 5 = .pointer (some ⟨b2, 2, none⟩) := H 5 (by decide)
  have e6 : x 6 = .agg #[.bool s2x, .slice a2x m2x c2x] := H 6 (by decide)
  have e7 : x 7 = .pointer (some ⟨b3, 2, none⟩) := H 7 (by decide)
  have e8 : x 8 = .agg #[.bool s3x, .slice a3x m3x c3x] := H 8 (by decide)
  have k18 : KN z18 w (x 9) := H 9 (by decide)
  have k19 : KTR R w (x 10) := H 10 (by decide)
  have k8 : KTR R w (x 11) := H 11 (by decide)
  have k20 : KR R.2.1 R.2.2 w (x 12) := H 12 (by decide)
  obtain ⟨sv20, tv20, av20, dv20, mv20, iv20, cv20, jv20, e12⟩ := rf_shape k20
  rw [e12] at k20
  have e13 : x 13 = .int .i64 R.1 := H 13 (by decide)
  obtain ⟨t6, e14, L6, l6⟩ : KA W0.heap.size 26 [.bool false, .slice none 0 0, .bool false, .slice none 0 0] w (x 14) := H 14 (by decide)
  clear H
  show wpAnyH _ _ _ _ _ 2 #[true, true, true, true, true, true, true, true, true, true, true, true, true, true, true, false, false] ⟨#[u0, u1, .pointer (some ⟨b2, 0, none⟩), .pointer (some ⟨b3, 0, none⟩), u4, u5, x 14, u7, x 11, x 0, x 1, x 2, x 3, x 4, x 5, x 6, x 7, x 8, x 9, x 10, x 12, x 13, G9, Gg, G4, G7, Gf], dd⟩ _
  rw [e0]
  clear e0
  rw [e1]
  clear e1
  rw [e2]
  clear e2
  rw [e3]
  clear e3
  generalize x 4 = x13 at *
  rw [e5]
  clear e5
  rw [e6]
  clear e6
  rw [e7]
  clear e7
  rw [e8]
  clear e8
  generalize x 9 = x18 at *
  generalize x 10 = x19 at *
  generalize x 11 = x8 at *
  rw [e12]
  clear e12
  rw [e13]
  clear e13
  rw [e14]
  clear e14
  obtain ⟨⟨r0, r1, r2, r3⟩, r4, r5, r6, r7⟩ := cellsF l6
  refine wpAnyH_ready (rs := [15]) (by kernel_rfl) (by simp) (AllReadyH.cons (o := oRMu15) rfl (fun K hK => ?_) AllReadyH.nil)
  unfold oRMu15
  go_simp
  refine hK.out _ _ trivial (fun hHeld => ?_)
  clear r0 r1 r2 r3 r4 r5 r6 r7
  clear hK K
  try simp only [List.setIfInBounds_toArray, List.set_cons_zero, List.set_cons_succ]
  refine wpAnyH_ready (rs := [16]) (by kernel_rfl) (by simp) (AllReadyH.cons (o := oRMu16) rfl (fun K hK => ?_) AllReadyH.nil)
  unfold oRMu16
  go_simp
  refine hK.out _ _ trivial (fun hHeld => ?_)
  clear hK K
  try simp only [List.setIfInBounds_toArray, List.set_cons_zero, List.set_cons_succ]
  refine wpAnyH_done (by kernel_rfl) ?_ _
  exact leaf _ _ _ _ _ _ _ _ _ _ _ _ _ _ (Lib.hid (below_set4 hB L6)) L6 (Lib.hid (RBox.store l6 k20))
def oRCo0 : Oper := ⟨some 5, Op.fieldAddr 26 (.tmp 2) 0, 0, "ref.go:129", #[], none⟩
def oRCo1 : Oper := ⟨some 6, Op.load 24 (.tmp 5), 24, "ref.go:129", #[⟨0, .data⟩], none⟩
def oRCo2 : Oper := ⟨some 7, Op.fieldAddr 26 (.tmp 3) 1, 0, "ref.go:129", #[], none⟩
def oRCo3 : Oper := ⟨some 8, Op.load 24 (.tmp 7), 24, "ref.go:129", #[⟨2, .data⟩], none⟩
def oRCo4 : Oper := ⟨some 9, Op.call ⟨.value (.func 40), #[.tmp 6, .tmp 8], #[24, 24]⟩, 24, "ref.go:129", #[⟨1, .data⟩, ⟨3, .data⟩], none⟩
def oRCo5 : Oper := ⟨some 10, Op.fieldAddr 26 (.tmp 3) 0, 0, "ref.go:129", #[], none⟩
def oRCo6 : Oper := ⟨some 11, Op.load 24 (.tmp 10), 24, "ref.go:129", #[⟨5, .data⟩], none⟩
def oRCo7 : Oper := ⟨some 12, Op.fieldAddr 26 (.tmp 2) 1, 0, "ref.go:129", #[], none⟩
def oRCo8 : Oper := ⟨some 13, Op.load 24 (.tmp 12), 24, "ref.go:129", #[⟨7, .data⟩], none⟩
def oRCo9 : Oper := ⟨some 14, Op.call ⟨.value (.func 40), #[.tmp 11, .tmp 13], #[24, 24]⟩, 24, "ref.go:129", #[⟨6, .data⟩, ⟨8, .data⟩, ⟨4, .chain⟩], none⟩
def oRCo10 : Oper := ⟨some 15, Op.call ⟨.value (.func 39), #[.tmp 9, .tmp 14], #[24, 24]⟩, 3, "ref.go:129", #[⟨4, .data⟩, ⟨9, .data⟩, ⟨9, .chain⟩], none⟩
def oRCo11 : Oper := ⟨some 4, Op.assign (.tmp 15), 3, "ref.go:129", #[⟨10, .data⟩, ⟨10, .chain⟩, ⟨0, .phase⟩, ⟨1, .phase⟩, ⟨2, .phase⟩, ⟨3, .phase⟩, ⟨4, .phase⟩, ⟨5, .phase⟩, ⟨6, .phase⟩, ⟨7, .phase⟩, ⟨8, .phase⟩, ⟨9, .phase⟩, ⟨10, .phase⟩], none⟩
def opsRCo : Array Oper := #[oRCo0, oRCo1, oRCo2, oRCo3, oRCo4, oRCo5, oRCo6, oRCo7, oRCo8, oRCo9, oRCo10, oRCo11]
set_option maxHeartbeats 8000000 in
theorem regRCo {Q : Exit → Act → World → Prop} (hQ : ∀ c a d v w, Q (.panic c) (Act.put a d v) w → Q (.panic c) a w) {W0 : World} {dd : List Deferred} {u0 u1 u4 u5 u6 u7 u8 u9 G0 G5 G1 G2 G4 G3 : Value} {b2 : Nat} {s2 : Bool} {a2 : Option Addr} {m2 c2 : Nat} {s2x : Bool} {a2x : Option Addr} {m2x c2x : Nat} {b3 : Nat} {s3 : Bool} {a3 : Option Addr} {m3 c3 : Nat} {s3x : Bool} {a3x : Option Addr} {m3x c3x : Nat} {z9 z14 c15 : Int}
  (LD : Hid (∀ X : World, Below W0.heap.size W0 X → X.cell? ⟨b2, 0, none⟩ = some (.bool s2) ∧ X.cell? ⟨b2, 1, none⟩ = some (.slice a2 m2 c2) ∧ X.cell? ⟨b2, 2, none⟩ = some (.bool s2x) ∧ X.cell? ⟨b2, 3, none⟩ = some (.slice a2x m2x c2x) ∧ X.cell? ⟨b3, 0, none⟩ = some (.bool s3) ∧ X.cell? ⟨b3, 1, none⟩ = some (.slice a3 m3 c3) ∧ X.cell? ⟨b3, 2, none⟩ = some (.bool s3x) ∧ X.cell? ⟨b3, 3, none⟩ = some (.slice a3x m3x c3x)))
  (C9 : Hid (∀ X, Below W0.heap.size W0 X → Calls Tryz.prog 40 #[.agg #[.bool s2, .slice a2 m2 c2], .agg #[.bool s3x, .slice a3x m3x c3x]] X (VEnd (KN z9) X)))
  (C14 : Hid (∀ X, Below W0.heap.size W0 X → Calls Tryz.prog 40 #[.agg #[.bool s3, .slice a3 m3 c3], .agg #[.bool s2x, .slice a2x m2x c2x]] X (VEnd (KN z14) X)))
  (C15 : Hid (∀ X x9 x14, Below W0.heap.size W0 X → KN z9 X x9 → KN z14 X x14 → Calls Tryz.prog 39 #[x9, x14] X (VEnd (KX (.int .i64 c15)) X)))
  (leaf : ∀ (X : World) (x9 : Value) (x14 : Value), Hid (Below W0.heap.size W0 X) → Hid (KN z9 X x9) → Hid (KN z14 X x14) → Q .normal ⟨#[u0, u1, .pointer (some ⟨b2, 0, none⟩), .pointer (some ⟨b3, 0, none⟩), .int .i64 c15, .pointer (some ⟨b2, 0, none⟩), .agg #[.bool s2, .slice a2 m2 c2], .pointer (some ⟨b3, 2, none⟩), .agg #[.bool s3x, .slice a3x m3x c3x], x9, .pointer (some ⟨b3, 0, none⟩), .agg #[.bool s3, .slice a3 m3 c3], .pointer (some ⟨b2, 2, none⟩), .agg #[.bool s2x, .slice a2x m2x c2x], x14, .int .i64 c15], dd⟩ X) :
  (Code.region 1 opsRCo true).wp Tryz.prog Q ⟨#[u0, u1, .pointer (some ⟨b2, 0, none⟩), .pointer (some ⟨b3, 0, none⟩), u4, u5, u6, u7, u8, u9, G0, G5, G1, G2, G4, G3], dd⟩ W0 := by
 refine region_ops (P := Tryz.prog) (ops := opsRCo) (W0 := W0) (dd := dd) (k := 11) (T := 1) (E := [0, 2, 5, 7]) (C := [1, 3, 4, 6, 8, 9, 10]) (S := (fun _ => True)) (K := getK [KX (.pointer (some ⟨b2, 0, none⟩)), KX (.agg #[.bool s2, .slice a2 m2 c2]), KX (.pointer (some ⟨b3, 2, none⟩)), KX (.agg #[.bool s3x, .slice a3x m3x c3x]), KN z9, KX (.pointer (some ⟨b3, 0, none⟩)), KX (.agg #[.bool s3, .slice a3 m3 c3]), KX (.pointer (some ⟨b2, 2, none⟩)), KX (.agg #[.bool s2x, .slice a2x m2x c2x]), KN z14, KX (.int .i64 c15)]) (tm := (fun x => #[u0, u1, .pointer (some ⟨b2, 0, none⟩), .pointer (some ⟨b3, 0, none⟩), u4, x 0, x 1, x 2, x 3, x 4, x 5, x 6, x 7, x 8, x 9, x 10])) (getV [u5, u6, u7, u8, u9, G0, G5, G1, G2, G4, G3]) (by kernel_rfl) (by rfl) (by kernel_rfl) (by kernel_rfl) (by kernel_rfl) (by kernel_rfl) (by kernel_rfl) hQ (fun _ _ => trivial) (getK_mono ⟨m_x, m_x, m_x, m_x, m_n, m_x, m_x, m_x, m_x, m_n, m_x, trivial⟩) ?eager ?call ?fin
 case eager =>
  intro i hi
  simp only [List.mem_cons, List.not_mem_nil, or_false] at hi
  rcases hi with rfl | rfl | rfl | rfl
  ·intro x w hB hd
   clear hd
   refine ⟨oRCo0, (.pointer (some ⟨b2, 0, none⟩)), rfl, ?_, rfl, (by first | rfl | simp [Act.put, upd])⟩
   refine Or.inl ⟨by rfl, fun _ _ => ?_⟩
   unfold oRCo0
   go_simp
   try with_reducible rfl
  ·intro x w hB hd
   clear hd
   refine ⟨oRCo2, (.pointer (some ⟨b3, 2, none⟩)), rfl, ?_, rfl, (by first | rfl | simp [Act.put, upd])⟩
   refine Or.inl ⟨by rfl, fun _ _ => ?_⟩
   unfold oRCo2
   go_simp
   try with_reducible rfl
  ·intro x w hB hd
   clear hd
   refine ⟨oRCo5, (.pointer (some ⟨b3, 0, none⟩)), rfl, ?_, rfl, (by first | rfl | simp [Act.put, upd])⟩
   refine Or.inl ⟨by rfl, fun _ _ => ?_⟩
   unfold oRCo5
   go_simp
   try with_reducible rfl
  ·intro x w hB hd
   clear hd
   refine ⟨oRCo7, (.pointer (some ⟨b2, 2, none⟩)), rfl, ?_, rfl, (by first | rfl | simp [Act.put, upd])⟩
   refine Or.inl ⟨by rfl, fun _ _ => ?_⟩
   unfold oRCo7
   go_simp
   try with_reducible rfl
 case call =>
  intro i hi
  simp only [List.mem_cons, List.not_mem_nil, or_false] at hi
  rcases hi with rfl | rfl | rfl | rfl | rfl | rfl | rfl
  ·intro x w hB hd
   obtain ⟨k0, -⟩ := deps_k (ds := [0]) (by kernel_rfl) hd
   clear hd
   have e0 : x 0 = .pointer (some ⟨b2, 0, none⟩) := k0
   have hLD := LD.out w hB
   obtain ⟨f0, f1, f2, f3, f4, f5, f6, f7⟩ := hLD
   refine wpOp_shut (o := oRCo1) rfl (fun K' hK => ?_)
   unfold oRCo1
   rw [e0]
   go_simp
   exact hK.out _ _ ⟨_, (by first | rfl | simp [upd, e0]), Below.refl _ _, rfl⟩
  ·intro x w hB hd
   obtain ⟨k2, -⟩ := deps_k (ds := [2]) (by kernel_rfl) hd
   clear hd
   have e2 : x 2 = .pointer (some ⟨b3, 2, none⟩) := k2
   have hLD := LD.out w hB
   obtain ⟨f0, f1, f2, f3, f4, f5, f6, f7⟩ := hLD
   refine wpOp_shut (o := oRCo3) rfl (fun K' hK => ?_)
   unfold oRCo3
   rw [e2]
   go_simp
   exact hK.out _ _ ⟨_, (by first | rfl | simp [upd, e2]), Below.refl _ _, rfl⟩
  ·intro x w hB hd
   obtain ⟨k1, k3, -⟩ := deps_k (ds := [1, 3]) (by kernel_rfl) hd
   clear hd
   have e1 : x 1 = .agg #[.bool s2, .slice a2 m2 c2] := k1
   have e3 : x 3 = .agg #[.bool s3x, .slice a3x m3x c3x] := k3
   have HC := C9.out w hB
   unfold VEnd at HC
   have HC := Lib.hid HC
   refine wpOp_shut (o := oRCo4) rfl (fun K' hK => ?_)
   unfold oRCo4
   rw [e1]
   rw [e3]
   go_simp
   go_at_call 40
   refine HC.out.mono ?_
   rintro e w5 ⟨v5, rfl, hk5, hb5⟩
   clear HC
   go_wp2_with fail
   exact hK.out _ _ ⟨v5, (by first | rfl | simp [upd, e1, e3]), hb5, hk5⟩
  ·intro x w hB hd
   obtain ⟨k5, -⟩ := deps_k (ds := [5]) (by kernel_rfl) hd
   clear hd
   have e5 : x 5 = .pointer (some ⟨b3, 0, none⟩) := k5
   have hLD := LD.out w hB
   obtain ⟨f0, f1, f2, f3, f4, f5, f6, f7⟩ := hLD
   refine wpOp_shut (o := oRCo6) rfl (fun K' hK => ?_)
   unfold oRCo6
   rw [e5]
   go_simp
   exact hK.out _ _ ⟨_, (by first | rfl | simp [upd, e5]), Below.refl _ _, rfl⟩
  ·intro x w hB hd
   obtain ⟨k7, -⟩ := deps_k (ds := [7]) (by kernel_rfl) hd
   clear hd
   have e7 : x 7 = .pointer (some ⟨b2, 2, none⟩) := k7
   have hLD := LD.out w hB
   obtain ⟨f0, f1, f2, f3, f4, f5, f6, f7⟩ := hLD
   refine wpOp_shut (o := oRCo8) rfl (fun K' hK => ?_)
   unfold oRCo8
   rw [e7]
   go_simp
   exact hK.out _ _ ⟨_, (by first | rfl | simp [upd, e7]), Below.refl _ _, rfl⟩
  ·intro x w hB hd
   obtain ⟨k6, k8, k4, -⟩ := deps_k (ds := [6, 8, 4]) (by kernel_rfl) hd
   clear hd
   have e6 : x 6 = .agg #[.bool s3, .slice a3 m3 c3] := k6
   have e8 : x 8 = .agg #[.bool s2x, .slice a2x m2x c2x] := k8
   have HC := C14.out w hB
   unfold VEnd at HC
   have HC := Lib.hid HC
   refine wpOp_shut (o := oRCo9) rfl (fun K' hK => ?_)
   unfold oRCo9
   rw [e6]
   rw [e8]
   go_simp
   go_at_call 40
   refine HC.out.mono ?_
   rintro e w5 ⟨v5, rfl, hk5, hb5⟩
   clear HC
   go_wp2_with fail
   exact hK.out _ _ ⟨v5, (by first | rfl | simp [upd, e6, e8]), hb5, hk5⟩
  ·intro x w hB hd
   obtain ⟨k4, k9, k9, -⟩ := deps_k (ds := [4, 9, 9]) (by kernel_rfl) hd
   clear hd
   have HC := C15.out w _ _ hB k4 k9
   unfold VEnd at HC
   have HC := Lib.hid HC
   refine wpOp_shut (o := oRCo10) rfl (fun K' hK => ?_)
   unfold oRCo10
   go_simp
   go_at_call 39
   refine HC.out.mono ?_
   rintro e w5 ⟨v5, rfl, hk5, hb5⟩
   clear HC
   go_wp2_with fail
   exact hK.out _ _ ⟨v5, (by first | rfl | simp [upd]), hb5, hk5⟩
 case fin =>
  intro x w hB H
  have e0 : x 0 = .pointer (some ⟨b2, 0, none⟩) := H 0 (by decide)
  have e1 : x 1 = .agg #[.bool s2, .slice a2 m2 c2] := H 1 (by decide)
  have e2 : x 2 = .pointer (some ⟨b3, 2, none⟩) := H 2 (by decide)
  have e3 : x 3 = .agg #[.bool s3x, .slice a3x m3x c3x] := H 3 (by decide)
  have k9 : KN z9 w (x 4) := H 4 (by decide)
  have e5 : x 5 = .pointer (some ⟨b3, 0, none⟩) := H 5 (by decide)
  have e6 : x 6 = .agg #[.bool s3, .slice a3 m3 c3] := H 6 (by decide)
  have e7 : x 7 = .pointer (some ⟨b2, 2, none⟩) := H 7 (by decide)
  have e8 : x 8 = .agg #[.bool s2x, .slice a2x m2x c2x] := H 8 (by decide)
  have k14 : KN z14 w (x 9) := H 9 (by decide)
  have e10 : x 10 = .int .i64 c15 := H 10 (by decide)
  clear H
  show wpAnyH _ _ _ _ _ 1 #[true, true, true, true, true, true, true, true, true, true, true, false] ⟨#[u0, u1, .pointer (some ⟨b2, 0, none⟩), .pointer (some ⟨b3, 0, none⟩), u4, x 0, x 1, x 2, x 3, x 4, x 5, x 6, x 7, x 8, x 9, x 10], dd⟩ _
  rw [e0]
  clear e0
  rw [e1]
  clear e1
  rw [e2]
  clear e2
  rw [e3]
  clear e3
  generalize x 4 = x9 at *
  rw [e5]
  clear e5
  rw [e6]
  clear e6
  rw [e7]
  clear e7
  rw [e8]
  clear e8
  generalize x 9 = x14 at *
  rw [e10]
  clear e10
  refine wpAnyH_ready (rs := [11]) (by kernel_rfl) (by simp) (AllReadyH.cons (o := oRCo11) rfl (fun K hK => ?_) AllReadyH.nil)
  unfold oRCo11
  go_simp
  refine hK.out _ _ trivial (fun hHeld => ?_)
  clear hK K
  try simp only [List.setIfInBounds_toArray, List.set_cons_zero, List.set_cons_succ]
  refine wpAnyH_done (by kernel_rfl) ?_ _
  exact leaf _ _ _ (Lib.hid hB) (Lib.hid k9) (Lib.hid k14)
end Go.Proofs.YtepakogbbomaoaaGreatDoor
