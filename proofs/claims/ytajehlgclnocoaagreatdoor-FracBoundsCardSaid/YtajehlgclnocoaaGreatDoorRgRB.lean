/-
 Laws of drawn regions: package frac, its reference, the laws' helpers (genRgm.py makes this text).
-/
import Derived.Test.YtajehlgclnocoaaGreatDoorRgAB
namespace Go.Proofs.YtajehlgclnocoaaGreatDoor
open Go.RowKit Go.Shelf
set_option linter.unusedVariables false
set_option maxRecDepth 100000
def oRMu0 : Oper := ⟨some 9, Op.fieldAddr 26 (.tmp 2) 0, 0, "ref.go:70", #[], none⟩
def oRMu1 : Oper := ⟨some 10, Op.load 24 (.tmp 9), 24, "ref.go:70", #[⟨0, .data⟩], none⟩
def oRMu2 : Oper := ⟨some 11, Op.fieldAddr 26 (.tmp 3) 0, 0, "ref.go:70", #[], none⟩
def oRMu3 : Oper := ⟨some 12, Op.load 24 (.tmp 11), 24, "ref.go:70", #[⟨2, .data⟩], none⟩
def oRMu4 : Oper := ⟨some 13, Op.call ⟨.value (.func 105), #[.tmp 10, .tmp 12], #[24, 24]⟩, 24, "ref.go:70", #[⟨1, .data⟩, ⟨3, .data⟩], none⟩
def oRMu5 : Oper := ⟨some 14, Op.fieldAddr 26 (.tmp 2) 1, 0, "ref.go:70", #[], none⟩
def oRMu6 : Oper := ⟨some 15, Op.load 24 (.tmp 14), 24, "ref.go:70", #[⟨5, .data⟩], none⟩
def oRMu7 : Oper := ⟨some 16, Op.fieldAddr 26 (.tmp 3) 1, 0, "ref.go:70", #[], none⟩
def oRMu8 : Oper := ⟨some 17, Op.load 24 (.tmp 16), 24, "ref.go:70", #[⟨7, .data⟩], none⟩
def oRMu9 : Oper := ⟨some 18, Op.call ⟨.value (.func 105), #[.tmp 15, .tmp 17], #[24, 24]⟩, 24, "ref.go:70", #[⟨6, .data⟩, ⟨8, .data⟩, ⟨4, .chain⟩], none⟩
def oRMu10 : Oper := ⟨some 19, Op.call ⟨.value (.func 38), #[.tmp 13, .tmp 18], #[24, 24]⟩, 40, "ref.go:70", #[⟨4, .data⟩, ⟨9, .data⟩, ⟨9, .chain⟩], none⟩
def oRMu11 : Oper := ⟨some 8, Op.move (.tmp 19), 40, "ref.go:70", #[⟨10, .data⟩], none⟩
def oRMu12 : Oper := ⟨some 20, Op.extract (.tmp 8) 0, 26, "ref.go:70", #[⟨11, .data⟩], none⟩
def oRMu13 : Oper := ⟨some 21, Op.extract (.tmp 8) 1, 37, "ref.go:70", #[⟨11, .data⟩, ⟨15, .gcOnly .lateStores⟩], none⟩
def oRMu14 : Oper := ⟨some 6, Op.alloc 26, 0, "ref.go:70", #[], none⟩
def oRMu15 : Oper := ⟨none, Op.store 26 (.tmp 6) (.tmp 20), 0, "ref.go:70", #[⟨14, .data⟩, ⟨12, .data⟩, ⟨10, .chain⟩, ⟨0, .phase⟩, ⟨1, .phase⟩, ⟨2, .phase⟩, ⟨3, .phase⟩, ⟨4, .phase⟩, ⟨5, .phase⟩, ⟨6, .phase⟩, ⟨7, .phase⟩, ⟨8, .phase⟩, ⟨9, .phase⟩, ⟨10, .phase⟩, ⟨11, .phase⟩, ⟨12, .phase⟩, ⟨13, .textOnly .lateStores⟩, ⟨14, .phase⟩], none⟩
def oRMu16 : Oper := ⟨some 7, Op.assign (.tmp 21), 37, "ref.go:70", #[⟨13, .data⟩, ⟨15, .chain⟩, ⟨0, .phase⟩, ⟨1, .phase⟩, ⟨2, .phase⟩, ⟨3, .phase⟩, ⟨4, .phase⟩, ⟨5, .phase⟩, ⟨6, .phase⟩, ⟨7, .phase⟩, ⟨8, .phase⟩, ⟨9, .phase⟩, ⟨10, .phase⟩, ⟨11, .phase⟩, ⟨12, .phase⟩, ⟨13, .phase⟩, ⟨14, .phase⟩, ⟨15, .phase⟩], none⟩
def opsRMu : Array Oper := #[oRMu0, oRMu1, oRMu2, oRMu3, oRMu4, oRMu5, oRMu6, oRMu7, oRMu8, oRMu9, oRMu10, oRMu11, oRMu12, oRMu13, oRMu14, oRMu15, oRMu16]
set_option maxHeartbeats 8000000 in
theorem regRMu {Q : Exit → Act → World → Prop} (hQ : ∀ c a d v w, Q (.panic c) (Act.put a d v) w → Q (.panic c) a w) {W0 : World} {dd : List Deferred} {u0 u1 u4 u5 u6 u7 u8 u9 Gb G6 G7 Gf G1 Ge Ga G2 G8 G4 G0 G5 Gg G3 Gd G9 Gc : Value} {b2 : Nat} {s2 : Bool} {a2 : Option Addr} {m2 c2 : Nat} {s2x : Bool} {a2x : Option Addr} {m2x c2x : Nat} {b3 : Nat} {s3 : Bool} {a3 : Option Addr} {m3 c3 : Nat} {s3x : Bool} {a3x : Option Addr} {m3x c3x : Nat} {z13 z18 : Int} {R : Int × Int × Int}
  (LD : Hid (∀ X : World, Below W0.heap.size W0 X → X.cell? ⟨b2, 0, none⟩ = some (.bool s2) ∧ X.cell? ⟨b2, 1, none⟩ = some (.slice a2 m2 c2) ∧ X.cell? ⟨b2, 2, none⟩ = some (.bool s2x) ∧ X.cell? ⟨b2, 3, none⟩ = some (.slice a2x m2x c2x) ∧ X.cell? ⟨b3, 0, none⟩ = some (.bool s3) ∧ X.cell? ⟨b3, 1, none⟩ = some (.slice a3 m3 c3) ∧ X.cell? ⟨b3, 2, none⟩ = some (.bool s3x) ∧ X.cell? ⟨b3, 3, none⟩ = some (.slice a3x m3x c3x)))
  (C13 : Hid (∀ X, Below W0.heap.size W0 X → Calls Tryz.prog 105 #[.agg #[.bool s2, .slice a2 m2 c2], .agg #[.bool s3, .slice a3 m3 c3]] X (VEnd (KN z13) X)))
  (C18 : Hid (∀ X, Below W0.heap.size W0 X → Calls Tryz.prog 105 #[.agg #[.bool s2x, .slice a2x m2x c2x], .agg #[.bool s3x, .slice a3x m3x c3x]] X (VEnd (KN z18) X)))
  (C19 : Hid (∀ X x13 x18, Below W0.heap.size W0 X → KN z13 X x13 → KN z18 X x18 → Calls Tryz.prog 38 #[x13, x18] X (VEnd (KTR R) X)))
  (leaf : ∀ (X : World) (x13 : Value) (x18 : Value) (x19 : Value) (x8 : Value) (sv20 tv20 : Bool) (av20 dv20 : Option Addr) (mv20 iv20 cv20 jv20 : Nat) (t6 : Nat), Hid (Below W0.heap.size W0 X) → W0.heap.size ≤ t6 → Hid (RBox X t6 R.2.1 R.2.2) → Q .normal ⟨#[u0, u1, .pointer (some ⟨b2, 0, none⟩), .pointer (some ⟨b3, 0, none⟩), u4, u5, .pointer (some ⟨t6, 0, none⟩), .int .i64 R.1, x8, .pointer (some ⟨b2, 0, none⟩), .agg #[.bool s2, .slice a2 m2 c2], .pointer (some ⟨b3, 0, none⟩), .agg #[.bool s3, .slice a3 m3 c3], x13, .pointer (some ⟨b2, 2, none⟩), .agg #[.bool s2x, .slice a2x m2x c2x], .pointer (some ⟨b3, 2, none⟩), .agg #[.bool s3x, .slice a3x m3x c3x], x18, x19, .agg #[.bool sv20, .slice av20 mv20 cv20, .bool tv20, .slice dv20 iv20 jv20], .int .i64 R.1, Gg, G3, Gd, G9, Gc], dd⟩ X) :
  (Code.region 1 opsRMu true).wp Tryz.prog Q ⟨#[u0, u1, .pointer (some ⟨b2, 0, none⟩), .pointer (some ⟨b3, 0, none⟩), u4, u5, u6, u7, u8, u9, Gb, G6, G7, Gf, G1, Ge, Ga, G2, G8, G4, G0, G5, Gg, G3, Gd, G9, Gc], dd⟩ W0 := by
 refine region_ops (P := Tryz.prog) (ops := opsRMu) (W0 := W0) (dd := dd) (k := 15) (T := 2) (E := [0, 2, 5, 7, 11, 12, 13]) (C := [1, 3, 4, 6, 8, 9, 10, 14]) (S := (fun _ => True)) (K := getK [KX (.pointer (some ⟨b2, 0, none⟩)), KX (.agg #[.bool s2, .slice a2 m2 c2]), KX (.pointer (some ⟨b3, 0, none⟩)), KX (.agg #[.bool s3, .slice a3 m3 c3]), KN z13, KX (.pointer (some ⟨b2, 2, none⟩)), KX (.agg #[.bool s2x, .slice a2x m2x c2x]), KX (.pointer (some ⟨b3, 2, none⟩)), KX (.agg #[.bool s3x, .slice a3x m3x c3x]), KN z18, KTR R, KTR R, KR R.2.1 R.2.2, KX (.int .i64 R.1), KA W0.heap.size 26 [.bool false, .slice none 0 0, .bool false, .slice none 0 0]]) (tm := (fun x => #[u0, u1, .pointer (some ⟨b2, 0, none⟩), .pointer (some ⟨b3, 0, none⟩), u4, u5, x 14, u7, x 11, x 0, x 1, x 2, x 3, x 4, x 5, x 6, x 7, x 8, x 9, x 10, x 12, x 13, Gg, G3, Gd, G9, Gc])) (getV [u9, Gb, G6, G7, Gf, G1, Ge, Ga, G2, G8, G4, u8, G0, G5, u6]) (by kernel_rfl) (by rfl) (by kernel_rfl) (by kernel_rfl) (by kernel_rfl) (by kernel_rfl) (by kernel_rfl) hQ (fun _ _ => trivial) (getK_mono ⟨m_x, m_x, m_x, m_x, m_n, m_x, m_x, m_x, m_x, m_n, m_tr, m_tr, m_r, m_x, m_a, trivial⟩) ?eager ?call ?fin
 case eager =>
  intro i hi
  simp only [List.mem_cons, List.not_mem_nil, or_false] at hi
  rcases hi with rfl | rfl | rfl | rfl | rfl | rfl | rfl
  ·intro x w hB hd
   clear hd
   refine ⟨oRMu0, (.pointer (some ⟨b2, 0, none⟩)), rfl, ?_, rfl, (by first | rfl | simp [Act.put, upd])⟩
   refine Or.inl ⟨by rfl, fun _ _ => ?_⟩
   unfold oRMu0
   go_simp
   try with_reducible rfl
  ·intro x w hB hd
   clear hd
   refine ⟨oRMu2, (.pointer (some ⟨b3, 0, none⟩)), rfl, ?_, rfl, (by first | rfl | simp [Act.put, upd])⟩
   refine Or.inl ⟨by rfl, fun _ _ => ?_⟩
   unfold oRMu2
   go_simp
   try with_reducible rfl
  ·intro x w hB hd
   clear hd
   refine ⟨oRMu5, (.pointer (some ⟨b2, 2, none⟩)), rfl, ?_, rfl, (by first | rfl | simp [Act.put, upd])⟩
   refine Or.inl ⟨by rfl, fun _ _ => ?_⟩
   unfold oRMu5
   go_simp
   try with_reducible rfl
  ·intro x w hB hd
   clear hd
   refine ⟨oRMu7, (.pointer (some ⟨b3, 2, none⟩)), rfl, ?_, rfl, (by first | rfl | simp [Act.put, upd])⟩
   refine Or.inl ⟨by rfl, fun _ _ => ?_⟩
   unfold oRMu7
   go_simp
   try with_reducible rfl
  ·intro x w hB hd
   obtain ⟨k10, -⟩ := deps_k (ds := [10]) (by kernel_rfl) hd
   clear hd
   refine ⟨oRMu11, (x 10), rfl, ?_, k10, (by first | rfl | simp [Act.put, upd])⟩
   refine Or.inl ⟨by rfl, fun _ _ => ?_⟩
   unfold oRMu11
   go_simp
   try with_reducible rfl
  ·intro x w hB hd
   obtain ⟨k11, -⟩ := deps_k (ds := [11]) (by kernel_rfl) hd
   clear hd
   obtain ⟨y11, e11, hy11⟩ : KTR R w (x 11) := k11
   refine ⟨oRMu12, y11, rfl, ?_, hy11, (by first | rfl | simp [Act.put, upd])⟩
   rw [e11]
   refine Or.inl ⟨by rfl, fun _ _ => ?_⟩
   unfold oRMu12
   go_simp
   try with_reducible rfl
  ·intro x w hB hd
   obtain ⟨k11, -⟩ := deps_k (ds := [11]) (by kernel_rfl) hd
   clear hd
   obtain ⟨y11, e11, hy11⟩ : KTR R w (x 11) := k11
   refine ⟨oRMu13, (.int .i64 R.1), rfl, ?_, rfl, (by first | rfl | simp [Act.put, upd])⟩
   rw [e11]
   refine Or.inl ⟨by rfl, fun _ _ => ?_⟩
   unfold oRMu13
   go_simp
   try with_reducible rfl
 case call =>
  intro i hi
  simp only [List.mem_cons, List.not_mem_nil, or_false] at hi
  rcases hi with rfl | rfl | rfl | rfl | rfl | rfl | rfl | rfl
  ·intro x w hB hd
   obtain ⟨k0, -⟩ := deps_k (ds := [0]) (by kernel_rfl) hd
   clear hd
   have e0 : x 0 = .pointer (some ⟨b2, 0, none⟩) := k0
   have hLD := LD.out w hB
   obtain ⟨f0, f1, f2, f3, f4, f5, f6, f7⟩ := hLD
   refine wpOp_shut (o := oRMu1) rfl (fun K' hK => ?_)
   unfold oRMu1
   rw [e0]
   go_simp
   exact hK.out _ _ ⟨_, (by first | rfl | simp [upd, e0]), Below.refl _ _, rfl⟩
  ·intro x w hB hd
   obtain ⟨k2, -⟩ := deps_k (ds := [2]) (by kernel_rfl) hd
   clear hd
   have e2 : x 2 = .pointer (some ⟨b3, 0, none⟩) := k2
   have hLD := LD.out w hB
   obtain ⟨f0, f1, f2, f3, f4, f5, f6, f7⟩ := hLD
   refine wpOp_shut (o := oRMu3) rfl (fun K' hK => ?_)
   unfold oRMu3
   rw [e2]
   go_simp
   exact hK.out _ _ ⟨_, (by first | rfl | simp [upd, e2]), Below.refl _ _, rfl⟩
  ·intro x w hB hd
   obtain ⟨k1, k3, -⟩ := deps_k (ds := [1, 3]) (by kernel_rfl) hd
   clear hd
   have e1 : x 1 = .agg #[.bool s2, .slice a2 m2 c2] := k1
   have e3 : x 3 = .agg #[.bool s3, .slice a3 m3 c3] := k3
   have HC := C13.out w hB
   unfold VEnd at HC
   have HC := Lib.hid HC
   refine wpOp_shut (o := oRMu4) rfl (fun K' hK => ?_)
   unfold oRMu4
   rw [e1]
   rw [e3]
   go_simp
   go_at_call 105
   refine HC.out.mono ?_
   rintro e w5 ⟨v5, rfl, hk5, hb5⟩
   clear HC
   go_wp2_with fail
   exact hK.out _ _ ⟨v5, (by first | rfl | simp [upd, e1, e3]), hb5, hk5⟩
  ·intro x w hB hd
   obtain ⟨k5, -⟩ := deps_k (ds := [5]) (by kernel_rfl) hd
   clear hd
   have e5 : x 5 = .pointer (some ⟨b2, 2, none⟩) := k5
   have hLD := LD.out w hB
   obtain ⟨f0, f1, f2, f3, f4, f5, f6, f7⟩ := hLD
   refine wpOp_shut (o := oRMu6) rfl (fun K' hK => ?_)
   unfold oRMu6
   rw [e5]
   go_simp
   exact hK.out _ _ ⟨_, (by first | rfl | simp [upd, e5]), Below.refl _ _, rfl⟩
  ·intro x w hB hd
   obtain ⟨k7, -⟩ := deps_k (ds := [7]) (by kernel_rfl) hd
   clear hd
   have e7 : x 7 = .pointer (some ⟨b3, 2, none⟩) := k7
   have hLD := LD.out w hB
   obtain ⟨f0, f1, f2, f3, f4, f5, f6, f7⟩ := hLD
   refine wpOp_shut (o := oRMu8) rfl (fun K' hK => ?_)
   unfold oRMu8
   rw [e7]
   go_simp
   exact hK.out _ _ ⟨_, (by first | rfl | simp [upd, e7]), Below.refl _ _, rfl⟩
  ·intro x w hB hd
   obtain ⟨k6, k8, k4, -⟩ := deps_k (ds := [6, 8, 4]) (by kernel_rfl) hd
   clear hd
   have e6 : x 6 = .agg #[.bool s2x, .slice a2x m2x c2x] := k6
   have e8 : x 8 = .agg #[.bool s3x, .slice a3x m3x c3x] := k8
   have HC := C18.out w hB
   unfold VEnd at HC
   have HC := Lib.hid HC
   refine wpOp_shut (o := oRMu9) rfl (fun K' hK => ?_)
   unfold oRMu9
   rw [e6]
   rw [e8]
   go_simp
   go_at_call 105
   refine HC.out.mono ?_
   rintro e w5 ⟨v5, rfl, hk5, hb5⟩
   clear HC
   go_wp2_with fail
   exact hK.out _ _ ⟨v5, (by first | rfl | simp [upd, e6, e8]), hb5, hk5⟩
  ·intro x w hB hd
   obtain ⟨k4, k9, k9, -⟩ := deps_k (ds := [4, 9, 9]) (by kernel_rfl) hd
   clear hd
   have HC := C19.out w _ _ hB k4 k9
   unfold VEnd at HC
   have HC := Lib.hid HC
   refine wpOp_shut (o := oRMu10) rfl (fun K' hK => ?_)
   unfold oRMu10
   go_simp
   go_at_call 38
   refine HC.out.mono ?_
   rintro e w5 ⟨v5, rfl, hk5, hb5⟩
   clear HC
   go_wp2_with fail
   exact hK.out _ _ ⟨v5, (by first | rfl | simp [upd]), hb5, hk5⟩
  ·intro x w hB hd
   clear hd
   refine wpOp_shut (o := oRMu14) rfl (fun K' hK => ?_)
   unfold oRMu14
   go_simp
   exact hK.out _ _ ⟨_, (by first | rfl | simp [Act.put, upd]), below_one w (.cells #[.bool false, .slice none 0 0, .bool false, .slice none 0 0] 26), ka_new 26 [.bool false, .slice none 0 0, .bool false, .slice none 0 0] hB.size⟩
 case fin =>
  intro x w hB H
  have e0 : x 0 = .pointer (some ⟨b2, 0, none⟩) := H 0 (by decide)
  have e1 : x 1 = .agg #[.bool s2, .slice a2 m2 c2] := H 1 (by decide)
  have e2 : x 2 = .pointer (some ⟨b3, 0, none⟩) := H 2 (by decide)
  have e3 : x 3 = .agg #[.bool s3, .slice a3 m3 c3] := H 3 (by decide)
  have k13 : KN z13 w (x 4) := H 4 (by decide)
  have e5 : x 5 = .pointer (some ⟨b2, 2, none⟩) := H 5 (by decide)
  have e6 : x 6 = .agg #[.bool s2x, .slice a2x m2x c2x] := H 6 (by decide)
  have e7 : x 7 = .pointer (some ⟨b3, 2, none⟩) := H 7 (by decide)
  have e8 : x 8 = .agg #[.bool s3x, .slice a3x m3x c3x] := H 8 (by decide)
  have k18 : KN z18 w (x 9) := H 9 (by decide)
  have k19 : KTR R w (x 10) := H 10 (by decide)
  have k8 : KTR R w (x 11) := H 11 (by decide)
  have k20 : KR R.2.1 R.2.2 w (x 12) := H 12 (by decide)
  obtain ⟨sv20, tv20, av20, dv20, mv20, iv20, cv20, jv20, e12⟩ := rf_shape k20
  rw [e12] at k20
  have e13 : x 13 = .int .i64 R.1 := H 13 (by decide)
  obtain ⟨t6, e14, L6, l6⟩ : KA W0.heap.size 26 [.bool false, .slice none 0 0, .bool false, .slice none 0 0] w (x 14) := H 14 (by decide)
  clear H
  show wpAnyH _ _ _ _ _ 2 #[true, true, true, true, true, true, true, true, true, true, true, true, true, true, true, false, false] ⟨#[u0, u1, .pointer (some ⟨b2, 0, none⟩), .pointer (some ⟨b3, 0, none⟩), u4, u5, x 14, u7, x 11, x 0, x 1, x 2, x 3, x 4, x 5, x 6, x 7, x 8, x 9, x 10, x 12, x 13, Gg, G3, Gd, G9, Gc], dd⟩ _
  rw [e0]
  clear e0
  rw [e1]
  clear e1
  rw [e2]
  clear e2
  rw [e3]
  clear e3
  generalize x 4 = x13 at *
  rw [e5]
  clear e5
  rw [e6]
  clear e6
  rw [e7]
  clear e7
  rw [e8]
  clear e8
  generalize x 9 = x18 at *
  generalize x 10 = x19 at *
  generalize x 11 = x8 at *
  rw [e12]
  clear e12
  rw [e13]
  clear e13
  rw [e14]
  clear e14
  obtain ⟨⟨r0, r1, r2, r3⟩, r4, r5, r6, r7⟩ := cellsF l6
  refine wpAnyH_ready (rs := [15]) (by kernel_rfl) (by simp) (AllReadyH.cons (o := oRMu15) rfl (fun K hK => ?_) AllReadyH.nil)
  unfold oRMu15
  go_simp
  refine hK.out _ _ trivial (fun hHeld => ?_)
  clear r0 r1 r2 r3 r4 r5 r6 r7
  clear hK K
  try simp only [List.setIfInBounds_toArray, List.set_cons_zero, List.set_cons_succ]
  refine wpAnyH_ready (rs := [16]) (by kernel_rfl) (by simp) (AllReadyH.cons (o := oRMu16) rfl (fun K hK => ?_) AllReadyH.nil)
  unfold oRMu16
  go_simp
  refine hK.out _ _ trivial (fun hHeld => ?_)
  clear hK K
  try simp only [List.setIfInBounds_toArray, List.set_cons_zero, List.set_cons_succ]
  refine wpAnyH_done (by kernel_rfl) ?_ _
  exact leaf _ _ _ _ _ _ _ _ _ _ _ _ _ _ (Lib.hid (below_set4 hB L6)) L6 (Lib.hid (RBox.store l6 k20))
def oRDi0 : Oper := ⟨some 9, Op.fieldAddr 26 (.tmp 2) 0, 0, "ref.go:76", #[], none⟩
def oRDi1 : Oper := ⟨some 10, Op.load 24 (.tmp 9), 24, "ref.go:76", #[⟨0, .data⟩], none⟩
def oRDi2 : Oper := ⟨some 11, Op.fieldAddr 26 (.tmp 3) 1, 0, "ref.go:76", #[], none⟩
def oRDi3 : Oper := ⟨some 12, Op.load 24 (.tmp 11), 24, "ref.go:76", #[⟨2, .data⟩], none⟩
def oRDi4 : Oper := ⟨some 13, Op.call ⟨.value (.func 105), #[.tmp 10, .tmp 12], #[24, 24]⟩, 24, "ref.go:76", #[⟨1, .data⟩, ⟨3, .data⟩], none⟩
def oRDi5 : Oper := ⟨some 14, Op.fieldAddr 26 (.tmp 2) 1, 0, "ref.go:76", #[], none⟩
def oRDi6 : Oper := ⟨some 15, Op.load 24 (.tmp 14), 24, "ref.go:76", #[⟨5, .data⟩], none⟩
def oRDi7 : Oper := ⟨some 16, Op.fieldAddr 26 (.tmp 3) 0, 0, "ref.go:76", #[], none⟩
def oRDi8 : Oper := ⟨some 17, Op.load 24 (.tmp 16), 24, "ref.go:76", #[⟨7, .data⟩], none⟩
def oRDi9 : Oper := ⟨some 18, Op.call ⟨.value (.func 105), #[.tmp 15, .tmp 17], #[24, 24]⟩, 24, "ref.go:76", #[⟨6, .data⟩, ⟨8, .data⟩, ⟨4, .chain⟩], none⟩
def oRDi10 : Oper := ⟨some 19, Op.call ⟨.value (.func 38), #[.tmp 13, .tmp 18], #[24, 24]⟩, 40, "ref.go:76", #[⟨4, .data⟩, ⟨9, .data⟩, ⟨9, .chain⟩], none⟩
def oRDi11 : Oper := ⟨some 8, Op.move (.tmp 19), 40, "ref.go:76", #[⟨10, .data⟩], none⟩
def oRDi12 : Oper := ⟨some 20, Op.extract (.tmp 8) 0, 26, "ref.go:76", #[⟨11, .data⟩], none⟩
def oRDi13 : Oper := ⟨some 21, Op.extract (.tmp 8) 1, 37, "ref.go:76", #[⟨11, .data⟩, ⟨15, .gcOnly .lateStores⟩], none⟩
def oRDi14 : Oper := ⟨some 6, Op.alloc 26, 0, "ref.go:76", #[], none⟩
def oRDi15 : Oper := ⟨none, Op.store 26 (.tmp 6) (.tmp 20), 0, "ref.go:76", #[⟨14, .data⟩, ⟨12, .data⟩, ⟨10, .chain⟩, ⟨0, .phase⟩, ⟨1, .phase⟩, ⟨2, .phase⟩, ⟨3, .phase⟩, ⟨4, .phase⟩, ⟨5, .phase⟩, ⟨6, .phase⟩, ⟨7, .phase⟩, ⟨8, .phase⟩, ⟨9, .phase⟩, ⟨10, .phase⟩, ⟨11, .phase⟩, ⟨12, .phase⟩, ⟨13, .textOnly .lateStores⟩, ⟨14, .phase⟩], none⟩
def oRDi16 : Oper := ⟨some 7, Op.assign (.tmp 21), 37, "ref.go:76", #[⟨13, .data⟩, ⟨15, .chain⟩, ⟨0, .phase⟩, ⟨1, .phase⟩, ⟨2, .phase⟩, ⟨3, .phase⟩, ⟨4, .phase⟩, ⟨5, .phase⟩, ⟨6, .phase⟩, ⟨7, .phase⟩, ⟨8, .phase⟩, ⟨9, .phase⟩, ⟨10, .phase⟩, ⟨11, .phase⟩, ⟨12, .phase⟩, ⟨13, .phase⟩, ⟨14, .phase⟩, ⟨15, .phase⟩], none⟩
def opsRDi : Array Oper := #[oRDi0, oRDi1, oRDi2, oRDi3, oRDi4, oRDi5, oRDi6, oRDi7, oRDi8, oRDi9, oRDi10, oRDi11, oRDi12, oRDi13, oRDi14, oRDi15, oRDi16]
set_option maxHeartbeats 8000000 in
theorem regRDi {Q : Exit → Act → World → Prop} (hQ : ∀ c a d v w, Q (.panic c) (Act.put a d v) w → Q (.panic c) a w) {W0 : World} {dd : List Deferred} {u0 u1 u4 u5 u6 u7 u8 u9 Gb G6 G7 Gf G1 Ge Ga G2 G8 G4 G0 G5 Gg G3 Gd G9 Gc : Value} {b2 : Nat} {s2 : Bool} {a2 : Option Addr} {m2 c2 : Nat} {s2x : Bool} {a2x : Option Addr} {m2x c2x : Nat} {b3 : Nat} {s3 : Bool} {a3 : Option Addr} {m3 c3 : Nat} {s3x : Bool} {a3x : Option Addr} {m3x c3x : Nat} {z13 z18 : Int} {R : Int × Int × Int}
  (LD : Hid (∀ X : World, Below W0.heap.size W0 X → X.cell? ⟨b2, 0, none⟩ = some (.bool s2) ∧ X.cell? ⟨b2, 1, none⟩ = some (.slice a2 m2 c2) ∧ X.cell? ⟨b2, 2, none⟩ = some (.bool s2x) ∧ X.cell? ⟨b2, 3, none⟩ = some (.slice a2x m2x c2x) ∧ X.cell? ⟨b3, 0, none⟩ = some (.bool s3) ∧ X.cell? ⟨b3, 1, none⟩ = some (.slice a3 m3 c3) ∧ X.cell? ⟨b3, 2, none⟩ = some (.bool s3x) ∧ X.cell? ⟨b3, 3, none⟩ = some (.slice a3x m3x c3x)))
  (C13 : Hid (∀ X, Below W0.heap.size W0 X → Calls Tryz.prog 105 #[.agg #[.bool s2, .slice a2 m2 c2], .agg #[.bool s3x, .slice a3x m3x c3x]] X (VEnd (KN z13) X)))
  (C18 : Hid (∀ X, Below W0.heap.size W0 X → Calls Tryz.prog 105 #[.agg #[.bool s2x, .slice a2x m2x c2x], .agg #[.bool s3, .slice a3 m3 c3]] X (VEnd (KN z18) X)))
  (C19 : Hid (∀ X x13 x18, Below W0.heap.size W0 X → KN z13 X x13 → KN z18 X x18 → Calls Tryz.prog 38 #[x13, x18] X (VEnd (KTR R) X)))
  (leaf : ∀ (X : World) (x13 : Value) (x18 : Value) (x19 : Value) (x8 : Value) (sv20 tv20 : Bool) (av20 dv20 : Option Addr) (mv20 iv20 cv20 jv20 : Nat) (t6 : Nat), Hid (Below W0.heap.size W0 X) → W0.heap.size ≤ t6 → Hid (RBox X t6 R.2.1 R.2.2) → Q .normal ⟨#[u0, u1, .pointer (some ⟨b2, 0, none⟩), .pointer (some ⟨b3, 0, none⟩), u4, u5, .pointer (some ⟨t6, 0, none⟩), .int .i64 R.1, x8, .pointer (some ⟨b2, 0, none⟩), .agg #[.bool s2, .slice a2 m2 c2], .pointer (some ⟨b3, 2, none⟩), .agg #[.bool s3x, .slice a3x m3x c3x], x13, .pointer (some ⟨b2, 2, none⟩), .agg #[.bool s2x, .slice a2x m2x c2x], .pointer (some ⟨b3, 0, none⟩), .agg #[.bool s3, .slice a3 m3 c3], x18, x19, .agg #[.bool sv20, .slice av20 mv20 cv20, .bool tv20, .slice dv20 iv20 jv20], .int .i64 R.1, Gg, G3, Gd, G9, Gc], dd⟩ X) :
  (Code.region 1 opsRDi true).wp Tryz.prog Q ⟨#[u0, u1, .pointer (some ⟨b2, 0, none⟩), .pointer (some ⟨b3, 0, none⟩), u4, u5, u6, u7, u8, u9, Gb, G6, G7, Gf, G1, Ge, Ga, G2, G8, G4, G0, G5, Gg, G3, Gd, G9, Gc], dd⟩ W0 := by
 refine region_ops (P := Tryz.prog) (ops := opsRDi) (W0 := W0) (dd := dd) (k := 15) (T := 2) (E := [0, 2, 5, 7, 11, 12, 13]) (C := [1, 3, 4, 6, 8, 9, 10, 14]) (S := (fun _ => True)) (K := getK [KX (.pointer (some ⟨b2, 0, none⟩)), KX (.agg #[.bool s2, .slice a2 m2 c2]), KX (.pointer (some ⟨b3, 2, none⟩)), KX (.agg #[.bool s3x, .slice a3x m3x c3x]), KN z13, KX (.pointer (some ⟨b2, 2, none⟩)), KX (.agg #[.bool s2x, .slice a2x m2x c2x]), KX (.pointer (some ⟨b3, 0, none⟩)), KX (.agg #[.bool s3, .slice a3 m3 c3]), KN z18, KTR R, KTR R, KR R.2.1 R.2.2, KX (.int .i64 R.1), KA W0.heap.size 26 [.bool false, .slice none 0 0, .bool false, .slice none 0 0]]) (tm := (fun x => #[u0, u1, .pointer (some ⟨b2, 0, none⟩), .pointer (some ⟨b3, 0, none⟩), u4, u5, x 14, u7, x 11, x 0, x 1, x 2, x 3, x 4, x 5, x 6, x 7, x 8, x 9, x 10, x 12, x 13, Gg, G3, Gd, G9, Gc])) (getV [u9, Gb, G6, G7, Gf, G1, Ge, Ga, G2, G8, G4, u8, G0, G5, u6]) (by kernel_rfl) (by rfl) (by kernel_rfl) (by kernel_rfl) (by kernel_rfl) (by kernel_rfl) (by kernel_rfl) hQ (fun _ _ => trivial) (getK_mono ⟨m_x, m_x, m_x, m_x, m_n, m_x, m_x, m_x, m_x, m_n, m_tr, m_tr, m_r, m_x, m_a, trivial⟩) ?eager ?call ?fin
 case eager =>
  intro i hi
  simp only [List.mem_cons, List.not_mem_nil, or_false] at hi
  rcases hi with rfl | rfl | rfl | rfl | rfl | rfl | rfl
  ·intro x w hB hd
   clear hd
   refine ⟨oRDi0, (.pointer (some ⟨b2, 0, none⟩)), rfl, ?_, rfl, (by first | rfl | simp [Act.put, upd])⟩
   refine Or.inl ⟨by rfl, fun _ _ => ?_⟩
   unfold oRDi0
   go_simp
   try with_reducible rfl
  ·intro x w hB hd
   clear hd
   refine ⟨oRDi2, (.pointer (some ⟨b3, 2, none⟩)), rfl, ?_, rfl, (by first | rfl | simp [Act.put, upd])⟩
   refine Or.inl ⟨by rfl, fun _ _ => ?_⟩
   unfold oRDi2
   go_simp
   try with_reducible rfl
  ·intro x w hB hd
   clear hd
   refine ⟨oRDi5, (.pointer (some ⟨b2, 2, none⟩)), rfl, ?_, rfl, (by first | rfl | simp [Act.put, upd])⟩
   refine Or.inl ⟨by rfl, fun _ _ => ?_⟩
   unfold oRDi5
   go_simp
   try with_reducible rfl
  ·intro x w hB hd
   clear hd
   refine ⟨oRDi7, (.pointer (some ⟨b3, 0, none⟩)), rfl, ?_, rfl, (by first | rfl | simp [Act.put, upd])⟩
   refine Or.inl ⟨by rfl, fun _ _ => ?_⟩
   unfold oRDi7
   go_simp
   try with_reducible rfl
  ·intro x w hB hd
   obtain ⟨k10, -⟩ := deps_k (ds := [10]) (by kernel_rfl) hd
   clear hd
   refine ⟨oRDi11, (x 10), rfl, ?_, k10, (by first | rfl | simp [Act.put, upd])⟩
   refine Or.inl ⟨by rfl, fun _ _ => ?_⟩
   unfold oRDi11
   go_simp
   try with_reducible rfl
  ·intro x w hB hd
   obtain ⟨k11, -⟩ := deps_k (ds := [11]) (by kernel_rfl) hd
   clear hd
   obtain ⟨y11, e11, hy11⟩ : KTR R w (x 11) := k11
   refine ⟨oRDi12, y11, rfl, ?_, hy11, (by first | rfl | simp [Act.put, upd])⟩
   rw [e11]
   refine Or.inl ⟨by rfl, fun _ _ => ?_⟩
   unfold oRDi12
   go_simp
   try with_reducible rfl
  ·intro x w hB hd
   obtain ⟨k11, -⟩ := deps_k (ds := [11]) (by kernel_rfl) hd
   clear hd
   obtain ⟨y11, e11, hy11⟩ : KTR R w (x 11) := k11
   refine ⟨oRDi13, (.int .i64 R.1), rfl, ?_, rfl, (by first | rfl | simp [Act.put, upd])⟩
   rw [e11]
   refine Or.inl ⟨by rfl, fun _ _ => ?_⟩
   unfold oRDi13
   go_simp
   try with_reducible rfl
 case call =>
  intro i hi
  simp only [List.mem_cons, List.not_mem_nil, or_false] at hi
  rcases hi with rfl | rfl | rfl | rfl | rfl | rfl | rfl | rfl
  ·intro x w hB hd
   obtain ⟨k0, -⟩ := deps_k (ds := [0]) (by kernel_rfl) hd
   clear hd
   have e0 : x 0 = .pointer (some ⟨b2, 0, none⟩) := k0
   have hLD := LD.out w hB
   obtain ⟨f0, f1, f2, f3, f4, f5, f6, f7⟩ := hLD
   refine wpOp_shut (o := oRDi1) rfl (fun K' hK => ?_)
   unfold oRDi1
   rw [e0]
   go_simp
   exact hK.out _ _ ⟨_, (by first | rfl | simp [upd, e0]), Below.refl _ _, rfl⟩
  ·intro x w hB hd
   obtain ⟨k2, -⟩ := deps_k (ds := [2]) (by kernel_rfl) hd
   clear hd
   have e2 : x 2 = .pointer (some ⟨b3, 2, none⟩) := k2
   have hLD := LD.out w hB
   obtain ⟨f0, f1, f2, f3, f4, f5, f6, f7⟩ := hLD
   refine wpOp_shut (o := oRDi3) rfl (fun K' hK => ?_)
   unfold oRDi3
   rw [e2]
   go_simp
   exact hK.out _ _ ⟨_, (by first | rfl | simp [upd, e2]), Below.refl _ _, rfl⟩
  ·intro x w hB hd
   obtain ⟨k1, k3, -⟩ := deps_k (ds := [1, 3]) (by kernel_rfl) hd
   clear hd
   have e1 : x 1 = .agg #[.bool s2, .slice a2 m2 c2] := k1
   have e3 : x 3 = .agg #[.bool s3x, .slice a3x m3x c3x] := k3
   have HC := C13.out w hB
   unfold VEnd at HC
   have HC := Lib.hid HC
   refine wpOp_shut (o := oRDi4) rfl (fun K' hK => ?_)
   unfold oRDi4
   rw [e1]
   rw [e3]
   go_simp
   go_at_call 105
   refine HC.out.mono ?_
   rintro e w5 ⟨v5, rfl, hk5, hb5⟩
   clear HC
   go_wp2_with fail
   exact hK.out _ _ ⟨v5, (by first | rfl | simp [upd, e1, e3]), hb5, hk5⟩
  ·intro x w hB hd
   obtain ⟨k5, -⟩ := deps_k (ds := [5]) (by kernel_rfl) hd
   clear hd
   have e5 : x 5 = .pointer (some ⟨b2, 2, none⟩) := k5
   have hLD := LD.out w hB
   obtain ⟨f0, f1, f2, f3, f4, f5, f6, f7⟩ := hLD
   refine wpOp_shut (o := oRDi6) rfl (fun K' hK => ?_)
   unfold oRDi6
   rw [e5]
   go_simp
   exact hK.out _ _ ⟨_, (by first | rfl | simp [upd, e5]), Below.refl _ _, rfl⟩
  ·intro x w hB hd
   obtain ⟨k7, -⟩ := deps_k (ds := [7]) (by kernel_rfl) hd
   clear hd
   have e7 : x 7 = .pointer (some ⟨b3, 0, none⟩) := k7
   have hLD := LD.out w hB
   obtain ⟨f0, f1, f2, f3, f4, f5, f6, f7⟩ := hLD
   refine wpOp_shut (o := oRDi8) rfl (fun K' hK => ?_)
   unfold oRDi8
   rw [e7]
   go_simp
   exact hK.out _ _ ⟨_, (by first | rfl | simp [upd, e7]), Below.refl _ _, rfl⟩
  ·intro x w hB hd
   obtain ⟨k6, k8, k4, -⟩ := deps_k (ds := [6, 8, 4]) (by kernel_rfl) hd
   clear hd
   have e6 : x 6 = .agg #[.bool s2x, .slice a2x m2x c2x] := k6
   have e8 : x 8 = .agg #[.bool s3, .slice a3 m3 c3] := k8
   have HC := C18.out w hB
   unfold VEnd at HC
   have HC := Lib.hid HC
   refine wpOp_shut (o := oRDi9) rfl (fun K' hK => ?_)
   unfold oRDi9
   rw [e6]
   rw [e8]
   go_simp
   go_at_call 105
   refine HC.out.mono ?_
   rintro e w5 ⟨v5, rfl, hk5, hb5⟩
   clear HC
   go_wp2_with fail
   exact hK.out _ _ ⟨v5, (by first | rfl | simp [upd, e6, e8]), hb5, hk5⟩
  ·intro x w hB hd
   obtain ⟨k4, k9, k9, -⟩ := deps_k (ds := [4, 9, 9]) (by kernel_rfl) hd
   clear hd
   have HC := C19.out w _ _ hB k4 k9
   unfold VEnd at HC
   have HC := Lib.hid HC
   refine wpOp_shut (o := oRDi10) rfl (fun K' hK => ?_)
   unfold oRDi10
   go_simp
   go_at_call 38
   refine HC.out.mono ?_
   rintro e w5 ⟨v5, rfl, hk5, hb5⟩
   clear HC
   go_wp2_with fail
   exact hK.out _ _ ⟨v5, (by first | rfl | simp [upd]), hb5, hk5⟩
  ·intro x w hB hd
   clear hd
   refine wpOp_shut (o := oRDi14) rfl (fun K' hK => ?_)
   unfold oRDi14
   go_simp
   exact hK.out _ _ ⟨_, (by first | rfl | simp [Act.put, upd]), below_one w (.cells #[.bool false, .slice none 0 0, .bool false, .slice none 0 0] 26), ka_new 26 [.bool false, .slice none 0 0, .bool false, .slice none 0 0] hB.size⟩
 case fin =>
  intro x w hB H
  have e0 : x 0 = .pointer (some ⟨b2, 0, none⟩) := H 0 (by decide)
  have e1 : x 1 = .agg #[.bool s2, .slice a2 m2 c2] := H 1 (by decide)
  have e2 : x 2 = .pointer (some ⟨b3, 2, none⟩) := H 2 (by decide)
  have e3 : x 3 = .agg #[.bool s3x, .slice a3x m3x c3x] := H 3 (by decide)
  have k13 : KN z13 w (x 4) := H 4 (by decide)
  have e5 : x 5 = .pointer (some ⟨b2, 2, none⟩) := H 5 (by decide)
  have e6 : x 6 = .agg #[.bool s2x, .slice a2x m2x c2x] := H 6 (by decide)
  have e7 : x 7 = .pointer (some ⟨b3, 0, none⟩) := H 7 (by decide)
  have e8 : x 8 = .agg #[.bool s3, .slice a3 m3 c3] := H 8 (by decide)
  have k18 : KN z18 w (x 9) := H 9 (by decide)
  have k19 : KTR R w (x 10) := H 10 (by decide)
  have k8 : KTR R w (x 11) := H 11 (by decide)
  have k20 : KR R.2.1 R.2.2 w (x 12) := H 12 (by decide)
  obtain ⟨sv20, tv20, av20, dv20, mv20, iv20, cv20, jv20, e12⟩ := rf_shape k20
  rw [e12] at k20
  have e13 : x 13 = .int .i64 R.1 := H 13 (by decide)
  obtain ⟨t6, e14, L6, l6⟩ : KA W0.heap.size 26 [.bool false, .slice none 0 0, .bool false, .slice none 0 0] w (x 14) := H 14 (by decide)
  clear H
  show wpAnyH _ _ _ _ _ 2 #[true, true, true, true, true, true, true, true, true, true, true, true, true, true, true, false, false] ⟨#[u0, u1, .pointer (some ⟨b2, 0, none⟩), .pointer (some ⟨b3, 0, none⟩), u4, u5, x 14, u7, x 11, x 0, x 1, x 2, x 3, x 4, x 5, x 6, x 7, x 8, x 9, x 10, x 12, x 13, Gg, G3, Gd, G9, Gc], dd⟩ _
  rw [e0]
  clear e0
  rw [e1]
  clear e1
  rw [e2]
  clear e2
  rw [e3]
  clear e3
  generalize x 4 = x13 at *
  rw [e5]
  clear e5
  rw [e6]
  clear e6
  rw [e7]
  clear e7
  rw [e8]
  clear e8
  generalize x 9 = x18 at *
  generalize x 10 = x19 at *
  generalize x 11 = x8 at *
  rw [e12]
  clear e12
  rw [e13]
  clear e13
  rw [e14]
  clear e14
  obtain ⟨⟨r0, r1, r2, r3⟩, r4, r5, r6, r7⟩ := cellsF l6
  refine wpAnyH_ready (rs := [15]) (by kernel_rfl) (by simp) (AllReadyH.cons (o := oRDi15) rfl (fun K hK => ?_) AllReadyH.nil)
  unfold oRDi15
  go_simp
  refine hK.out _ _ trivial (fun hHeld => ?_)
  clear r0 r1 r2 r3 r4 r5 r6 r7
  clear hK K
  try simp only [List.setIfInBounds_toArray, List.set_cons_zero, List.set_cons_succ]
  refine wpAnyH_ready (rs := [16]) (by kernel_rfl) (by simp) (AllReadyH.cons (o := oRDi16) rfl (fun K hK => ?_) AllReadyH.nil)
  unfold oRDi16
  go_simp
  refine hK.out _ _ trivial (fun hHeld => ?_)
  clear hK K
  try simp only [List.setIfInBounds_toArray, List.set_cons_zero, List.set_cons_succ]
  refine wpAnyH_done (by kernel_rfl) ?_ _
  exact leaf _ _ _ _ _ _ _ _ _ _ _ _ _ _ (Lib.hid (below_set4 hB L6)) L6 (Lib.hid (RBox.store l6 k20))
def oRNe0 : Oper := ⟨some 3, Op.fieldAddr 26 (.tmp 1) 0, 0, "ref.go:63", #[], none⟩
def oRNe1 : Oper := ⟨some 4, Op.load 24 (.tmp 3), 24, "ref.go:63", #[⟨0, .data⟩], none⟩
def oRNe2 : Oper := ⟨some 5, Op.call ⟨.value (.func 34), #[.tmp 4], #[24]⟩, 24, "ref.go:63", #[⟨1, .data⟩], none⟩
def oRNe3 : Oper := ⟨some 6, Op.fieldAddr 26 (.tmp 1) 1, 0, "ref.go:63", #[], none⟩
def oRNe4 : Oper := ⟨some 7, Op.load 24 (.tmp 6), 24, "ref.go:63", #[⟨3, .data⟩], none⟩
def oRNe5 : Oper := ⟨some 8, Op.build 26 #[(0, .tmp 5), (1, .tmp 7)], 26, "ref.go:63", #[⟨2, .data⟩, ⟨4, .data⟩], none⟩
def oRNe6 : Oper := ⟨none, Op.store 26 (.tmp 2) (.tmp 8), 0, "ref.go:63", #[⟨5, .data⟩, ⟨2, .chain⟩, ⟨0, .phase⟩, ⟨1, .phase⟩, ⟨2, .phase⟩, ⟨3, .phase⟩, ⟨4, .phase⟩, ⟨5, .phase⟩], none⟩
def opsRNe : Array Oper := #[oRNe0, oRNe1, oRNe2, oRNe3, oRNe4, oRNe5, oRNe6]
set_option maxHeartbeats 8000000 in
theorem regRNe {Q : Exit → Act → World → Prop} (hQ : ∀ c a d v w, Q (.panic c) (Act.put a d v) w → Q (.panic c) a w) {W0 : World} {dd : List Deferred} {u0 u3 u4 u5 u6 u7 u8 : Value} {b1 : Nat} {s1 : Bool} {a1 : Option Addr} {m1 c1 : Nat} {s1x : Bool} {a1x : Option Addr} {m1x c1x : Nat} {b2 : Nat} {z5 z7 : Int}
  (LD : Hid (∀ X : World, Below W0.heap.size W0 X → X.cell? ⟨b1, 0, none⟩ = some (.bool s1) ∧ X.cell? ⟨b1, 1, none⟩ = some (.slice a1 m1 c1) ∧ X.cell? ⟨b1, 2, none⟩ = some (.bool s1x) ∧ X.cell? ⟨b1, 3, none⟩ = some (.slice a1x m1x c1x)))
  (HR2 : Hid (∀ X : World, Below W0.heap.size W0 X → Laid X b2 26 [.bool false, .slice none 0 0, .bool false, .slice none 0 0]))
  (ID : Hid (∀ X, Below W0.heap.size W0 X → NAt X (.agg #[.bool s1x, .slice a1x m1x c1x]) z7))
  (C5 : Hid (∀ X, Below W0.heap.size W0 X → Calls Tryz.prog 34 #[.agg #[.bool s1, .slice a1 m1 c1]] X (VEnd (KN z5) X)))
  (leaf : ∀ (X : World) (x5 : Value) (sv8 tv8 : Bool) (av8 dv8 : Option Addr) (mv8 iv8 cv8 jv8 : Nat), Hid (Below W0.heap.size W0 X) → Hid (KR z5 z7 X (.agg #[.bool sv8, .slice av8 mv8 cv8, .bool tv8, .slice dv8 iv8 jv8])) → Q .normal ⟨#[u0, .pointer (some ⟨b1, 0, none⟩), .pointer (some ⟨b2, 0, none⟩), .pointer (some ⟨b1, 0, none⟩), .agg #[.bool s1, .slice a1 m1 c1], x5, .pointer (some ⟨b1, 2, none⟩), .agg #[.bool s1x, .slice a1x m1x c1x], .agg #[.bool sv8, .slice av8 mv8 cv8, .bool tv8, .slice dv8 iv8 jv8]], dd⟩ ((((X.setCell ⟨b2, 0, none⟩ (.bool sv8)).setCell ⟨b2, 1, none⟩ (.slice av8 mv8 cv8)).setCell ⟨b2, 2, none⟩ (.bool tv8)).setCell ⟨b2, 3, none⟩ (.slice dv8 iv8 jv8))) :
  (Code.region 1 opsRNe true).wp Tryz.prog Q ⟨#[u0, .pointer (some ⟨b1, 0, none⟩), .pointer (some ⟨b2, 0, none⟩), u3, u4, u5, u6, u7, u8], dd⟩ W0 := by
 refine region_ops (P := Tryz.prog) (ops := opsRNe) (W0 := W0) (dd := dd) (k := 6) (T := 1) (E := [0, 3, 5]) (C := [1, 2, 4]) (S := (fun _ => True)) (K := getK [KX (.pointer (some ⟨b1, 0, none⟩)), KX (.agg #[.bool s1, .slice a1 m1 c1]), KN z5, KX (.pointer (some ⟨b1, 2, none⟩)), KX (.agg #[.bool s1x, .slice a1x m1x c1x]), KR z5 z7]) (tm := (fun x => #[u0, .pointer (some ⟨b1, 0, none⟩), .pointer (some ⟨b2, 0, none⟩), x 0, x 1, x 2, x 3, x 4, x 5])) (getV [u3, u4, u5, u6, u7, u8]) (by kernel_rfl) (by rfl) (by kernel_rfl) (by kernel_rfl) (by kernel_rfl) (by kernel_rfl) (by kernel_rfl) hQ (fun _ _ => trivial) (getK_mono ⟨m_x, m_x, m_n, m_x, m_x, m_r, trivial⟩) ?eager ?call ?fin
 case eager =>
  intro i hi
  simp only [List.mem_cons, List.not_mem_nil, or_false] at hi
  rcases hi with rfl | rfl | rfl
  ·intro x w hB hd
   clear hd
   refine ⟨oRNe0, (.pointer (some ⟨b1, 0, none⟩)), rfl, ?_, rfl, (by first | rfl | simp [Act.put, upd])⟩
   refine Or.inl ⟨by rfl, fun _ _ => ?_⟩
   unfold oRNe0
   go_simp
   try with_reducible rfl
  ·intro x w hB hd
   clear hd
   refine ⟨oRNe3, (.pointer (some ⟨b1, 2, none⟩)), rfl, ?_, rfl, (by first | rfl | simp [Act.put, upd])⟩
   refine Or.inl ⟨by rfl, fun _ _ => ?_⟩
   unfold oRNe3
   go_simp
   try with_reducible rfl
  ·intro x w hB hd
   obtain ⟨k2, k4, -⟩ := deps_k (ds := [2, 4]) (by kernel_rfl) hd
   clear hd
   have hy2 : KN z5 w (x 2) := k2
   obtain ⟨o2a, o2b, o2c, o2d, e2⟩ := nat_shape hy2
   have e4 : x 4 = .agg #[.bool s1x, .slice a1x m1x c1x] := k4
   refine ⟨oRNe5, (.agg #[.bool o2a, .slice o2b o2c o2d, .bool s1x, .slice a1x m1x c1x]), rfl, ?_, ⟨_, _, _, _, _, _, _, _, rfl, (e2 ▸ hy2), (ID.out w hB)⟩, (by first | rfl | simp [Act.put, upd])⟩
   rw [e2]
   rw [e4]
   refine Or.inl ⟨by rfl, fun _ _ => ?_⟩
   unfold oRNe5
   go_simp
   try with_reducible rfl
 case call =>
  intro i hi
  simp only [List.mem_cons, List.not_mem_nil, or_false] at hi
  rcases hi with rfl | rfl | rfl
  ·intro x w hB hd
   obtain ⟨k0, -⟩ := deps_k (ds := [0]) (by kernel_rfl) hd
   clear hd
   have e0 : x 0 = .pointer (some ⟨b1, 0, none⟩) := k0
   have hLD := LD.out w hB
   obtain ⟨f0, f1, f2, f3⟩ := hLD
   refine wpOp_shut (o := oRNe1) rfl (fun K' hK => ?_)
   unfold oRNe1
   rw [e0]
   go_simp
   exact hK.out _ _ ⟨_, (by first | rfl | simp [upd, e0]), Below.refl _ _, rfl⟩
  ·intro x w hB hd
   obtain ⟨k1, -⟩ := deps_k (ds := [1]) (by kernel_rfl) hd
   clear hd
   have e1 : x 1 = .agg #[.bool s1, .slice a1 m1 c1] := k1
   have HC := C5.out w hB
   unfold VEnd at HC
   have HC := Lib.hid HC
   refine wpOp_shut (o := oRNe2) rfl (fun K' hK => ?_)
   unfold oRNe2
   rw [e1]
   go_simp
   go_at_call 34
   refine HC.out.mono ?_
   rintro e w5 ⟨v5, rfl, hk5, hb5⟩
   clear HC
   go_wp2_with fail
   exact hK.out _ _ ⟨v5, (by first | rfl | simp [upd, e1]), hb5, hk5⟩
  ·intro x w hB hd
   obtain ⟨k3, -⟩ := deps_k (ds := [3]) (by kernel_rfl) hd
   clear hd
   have e3 : x 3 = .pointer (some ⟨b1, 2, none⟩) := k3
   have hLD := LD.out w hB
   obtain ⟨f0, f1, f2, f3⟩ := hLD
   refine wpOp_shut (o := oRNe4) rfl (fun K' hK => ?_)
   unfold oRNe4
   rw [e3]
   go_simp
   exact hK.out _ _ ⟨_, (by first | rfl | simp [upd, e3]), Below.refl _ _, rfl⟩
 case fin =>
  intro x w hB H
  have e0 : x 0 = .pointer (some ⟨b1, 0, none⟩) := H 0 (by decide)
  have e1 : x 1 = .agg #[.bool s1, .slice a1 m1 c1] := H 1 (by decide)
  have k5 : KN z5 w (x 2) := H 2 (by decide)
  have e3 : x 3 = .pointer (some ⟨b1, 2, none⟩) := H 3 (by decide)
  have e4 : x 4 = .agg #[.bool s1x, .slice a1x m1x c1x] := H 4 (by decide)
  have k8 : KR z5 z7 w (x 5) := H 5 (by decide)
  obtain ⟨sv8, tv8, av8, dv8, mv8, iv8, cv8, jv8, e5⟩ := rf_shape k8
  rw [e5] at k8
  clear H
  show wpAnyH _ _ _ _ _ 1 #[true, true, true, true, true, true, false] ⟨#[u0, .pointer (some ⟨b1, 0, none⟩), .pointer (some ⟨b2, 0, none⟩), x 0, x 1, x 2, x 3, x 4, x 5], dd⟩ _
  rw [e0]
  clear e0
  rw [e1]
  clear e1
  generalize x 2 = x5 at *
  rw [e3]
  clear e3
  rw [e4]
  clear e4
  rw [e5]
  clear e5
  have l2 := HR2.out w hB
  obtain ⟨⟨r0, r1, r2, r3⟩, r4, r5, r6, r7⟩ := cellsF l2
  refine wpAnyH_ready (rs := [6]) (by kernel_rfl) (by simp) (AllReadyH.cons (o := oRNe6) rfl (fun K hK => ?_) AllReadyH.nil)
  unfold oRNe6
  go_simp
  refine hK.out _ _ trivial (fun hHeld => ?_)
  clear r0 r1 r2 r3 r4 r5 r6 r7
  clear hK K
  try simp only [List.setIfInBounds_toArray, List.set_cons_zero, List.set_cons_succ]
  refine wpAnyH_done (by kernel_rfl) ?_ _
  exact leaf _ _ _ _ _ _ _ _ _ _ (Lib.hid hB) (Lib.hid k8)
end Go.Proofs.YtajehlgclnocoaaGreatDoor
