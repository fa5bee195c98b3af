/-
 Laws of drawn regions: the reference's Add (genRra.py makes this text).
-/
import Derived.Test.YtajehlgclnocoaaGreatDoorGrwB
namespace Go.Proofs.YtajehlgclnocoaaGreatDoor
open Go.RowKit Go.Shelf
set_option linter.unusedVariables false
set_option maxRecDepth 100000
def oRA40 : Oper := ⟨some 33, Op.fieldAddr 26 (.tmp 2) 0, 0, "ref.go:51", #[], none⟩
def oRA41 : Oper := ⟨some 34, Op.load 24 (.tmp 33), 24, "ref.go:51", #[⟨0, .data⟩], none⟩
def oRA42 : Oper := ⟨some 35, Op.load 24 (.tmp 7), 24, "ref.go:51", #[], none⟩
def oRA43 : Oper := ⟨some 36, Op.call ⟨.value (.func 105), #[.tmp 34, .tmp 35], #[24, 24]⟩, 24, "ref.go:51", #[⟨1, .data⟩, ⟨2, .data⟩], none⟩
def oRA44 : Oper := ⟨some 37, Op.fieldAddr 26 (.tmp 3) 0, 0, "ref.go:51", #[], none⟩
def oRA45 : Oper := ⟨some 38, Op.load 24 (.tmp 37), 24, "ref.go:51", #[⟨4, .data⟩], none⟩
def oRA46 : Oper := ⟨some 39, Op.load 24 (.tmp 9), 24, "ref.go:51", #[], none⟩
def oRA47 : Oper := ⟨some 40, Op.call ⟨.value (.func 105), #[.tmp 38, .tmp 39], #[24, 24]⟩, 24, "ref.go:51", #[⟨5, .data⟩, ⟨6, .data⟩, ⟨3, .chain⟩], none⟩
def oRA48 : Oper := ⟨some 41, Op.load 24 (.tmp 9), 24, "ref.go:51", #[], none⟩
def oRA49 : Oper := ⟨some 42, Op.fieldAddr 26 (.tmp 3) 1, 0, "ref.go:51", #[], none⟩
def oRA410 : Oper := ⟨some 43, Op.load 24 (.tmp 42), 24, "ref.go:51", #[⟨9, .data⟩], none⟩
def oRA411 : Oper := ⟨some 44, Op.call ⟨.value (.func 105), #[.tmp 41, .tmp 43], #[24, 24]⟩, 24, "ref.go:51", #[⟨8, .data⟩, ⟨10, .data⟩, ⟨7, .chain⟩], none⟩
def oRA412 : Oper := ⟨some 45, Op.buildSlice 128 3 #[(0, .tmp 36), (1, .tmp 40), (2, .tmp 44)], 128, "ref.go:51", #[⟨3, .data⟩, ⟨7, .data⟩, ⟨11, .data⟩], none⟩
def oRA413 : Oper := ⟨some 11, Op.assign (.tmp 45), 128, "ref.go:51", #[⟨12, .data⟩, ⟨11, .chain⟩, ⟨0, .phase⟩, ⟨1, .phase⟩, ⟨2, .phase⟩, ⟨3, .phase⟩, ⟨4, .phase⟩, ⟨5, .phase⟩, ⟨6, .phase⟩, ⟨7, .phase⟩, ⟨8, .phase⟩, ⟨9, .phase⟩, ⟨10, .phase⟩, ⟨11, .phase⟩, ⟨12, .phase⟩], none⟩
def opsRA4 : Array Oper := #[oRA40, oRA41, oRA42, oRA43, oRA44, oRA45, oRA46, oRA47, oRA48, oRA49, oRA410, oRA411, oRA412, oRA413]
set_option maxHeartbeats 8000000 in
theorem regRA4 {Q : Exit → Act → World → Prop} (hQ : ∀ c a d v w, Q (.panic c) (Act.put a d v) w → Q (.panic c) a w) {W0 : World} {dd : List Deferred} {u0 u1 u4 u5 u6 u8 J4 Gq Gr Jo G7 Jl J2 G9 Gw Gk G0 Gp Ju Gc Jg Gx Jd Gl G1 Jh Jr Gs J8 Jq Jf Gh Gn J9 Ga Jm G8 Gb Jc Jn Gv G2 Ji Gd Jj Go Jt Je Gm J3 Gt Gz Gj G3 Gu J0 Gi J5 G4 J1 Jk Jb G5 J6 Gf Jp J7 Ja Ge Gg Js G6 Gy : Value} {b2 : Nat} {s2 : Bool} {a2 : Option Addr} {m2 c2 : Nat} {s2x : Bool} {a2x : Option Addr} {m2x c2x : Nat} {b3 : Nat} {s3 : Bool} {a3 : Option Addr} {m3 c3 : Nat} {s3x : Bool} {a3x : Option Addr} {m3x c3x : Nat} {b7 : Nat} {s7 : Bool} {a7 : Option Addr} {m7 c7 : Nat} {b9 : Nat} {s9 : Bool} {a9 : Option Addr} {m9 c9 : Nat} {z36 z40 z44 : Int}
  (LD : Hid (∀ X : World, Below W0.heap.size W0 X → X.cell? ⟨b2, 0, none⟩ = some (.bool s2) ∧ X.cell? ⟨b2, 1, none⟩ = some (.slice a2 m2 c2) ∧ X.cell? ⟨b2, 2, none⟩ = some (.bool s2x) ∧ X.cell? ⟨b2, 3, none⟩ = some (.slice a2x m2x c2x) ∧ X.cell? ⟨b3, 0, none⟩ = some (.bool s3) ∧ X.cell? ⟨b3, 1, none⟩ = some (.slice a3 m3 c3) ∧ X.cell? ⟨b3, 2, none⟩ = some (.bool s3x) ∧ X.cell? ⟨b3, 3, none⟩ = some (.slice a3x m3x c3x) ∧ X.cell? ⟨b7, 0, none⟩ = some (.bool s7) ∧ X.cell? ⟨b7, 1, none⟩ = some (.slice a7 m7 c7) ∧ X.cell? ⟨b9, 0, none⟩ = some (.bool s9) ∧ X.cell? ⟨b9, 1, none⟩ = some (.slice a9 m9 c9)))
  (C36 : Hid (∀ X, Below W0.heap.size W0 X → Calls Tryz.prog 105 #[.agg #[.bool s2, .slice a2 m2 c2], .agg #[.bool s7, .slice a7 m7 c7]] X (VEnd (KN z36) X)))
  (C40 : Hid (∀ X, Below W0.heap.size W0 X → Calls Tryz.prog 105 #[.agg #[.bool s3, .slice a3 m3 c3], .agg #[.bool s9, .slice a9 m9 c9]] X (VEnd (KN z40) X)))
  (C44 : Hid (∀ X, Below W0.heap.size W0 X → Calls Tryz.prog 105 #[.agg #[.bool s9, .slice a9 m9 c9], .agg #[.bool s3x, .slice a3x m3x c3x]] X (VEnd (KN z44) X)))
  (leaf : ∀ (X : World) (x36 : Value) (x40 : Value) (x44 : Value) (x45 : Value), Hid (Below W0.heap.size W0 X) → Hid (KN z36 X x36) → Hid (KN z40 X x40) → Hid (KN z44 X x44) → Hid (KS3 W0.heap.size z36 z40 z44 X x45) → Q .normal ⟨#[u0, u1, .pointer (some ⟨b2, 0, none⟩), .pointer (some ⟨b3, 0, none⟩), u4, u5, u6, .pointer (some ⟨b7, 0, none⟩), u8, .pointer (some ⟨b9, 0, none⟩), J4, x45, Gr, Jo, G7, Jl, J2, G9, Gw, Gk, G0, Gp, Ju, Gc, Jg, Gx, Jd, Gl, G1, Jh, Jr, Gs, J8, .pointer (some ⟨b2, 0, none⟩), .agg #[.bool s2, .slice a2 m2 c2], .agg #[.bool s7, .slice a7 m7 c7], x36, .pointer (some ⟨b3, 0, none⟩), .agg #[.bool s3, .slice a3 m3 c3], .agg #[.bool s9, .slice a9 m9 c9], x40, .agg #[.bool s9, .slice a9 m9 c9], .pointer (some ⟨b3, 2, none⟩), .agg #[.bool s3x, .slice a3x m3x c3x], x44, x45, Ji, Gd, Jj, Go, Jt, Je, Gm, J3, Gt, Gz, Gj, G3, Gu, J0, Gi, J5, G4, J1, Jk, Jb, G5, J6, Gf, Jp, J7, Ja, Ge, Gg, Js, G6, Gy], dd⟩ X) :
  (Code.region 4 opsRA4 true).wp Tryz.prog Q ⟨#[u0, u1, .pointer (some ⟨b2, 0, none⟩), .pointer (some ⟨b3, 0, none⟩), u4, u5, u6, .pointer (some ⟨b7, 0, none⟩), u8, .pointer (some ⟨b9, 0, none⟩), J4, Gq, Gr, Jo, G7, Jl, J2, G9, Gw, Gk, G0, Gp, Ju, Gc, Jg, Gx, Jd, Gl, G1, Jh, Jr, Gs, J8, Jq, Jf, Gh, Gn, J9, Ga, Jm, G8, Gb, Jc, Jn, Gv, G2, Ji, Gd, Jj, Go, Jt, Je, Gm, J3, Gt, Gz, Gj, G3, Gu, J0, Gi, J5, G4, J1, Jk, Jb, G5, J6, Gf, Jp, J7, Ja, Ge, Gg, Js, G6, Gy], dd⟩ W0 := by
 refine region_ops (P := Tryz.prog) (ops := opsRA4) (W0 := W0) (dd := dd) (k := 13) (T := 1) (E := [0, 4, 9]) (C := [1, 2, 3, 5, 6, 7, 8, 10, 11, 12]) (S := (fun _ => True)) (K := getK [KX (.pointer (some ⟨b2, 0, none⟩)), KX (.agg #[.bool s2, .slice a2 m2 c2]), KX (.agg #[.bool s7, .slice a7 m7 c7]), KN z36, KX (.pointer (some ⟨b3, 0, none⟩)), KX (.agg #[.bool s3, .slice a3 m3 c3]), KX (.agg #[.bool s9, .slice a9 m9 c9]), KN z40, KX (.agg #[.bool s9, .slice a9 m9 c9]), KX (.pointer (some ⟨b3, 2, none⟩)), KX (.agg #[.bool s3x, .slice a3x m3x c3x]), KN z44, KS3 W0.heap.size z36 z40 z44]) (tm := (fun x => #[u0, u1, .pointer (some ⟨b2, 0, none⟩), .pointer (some ⟨b3, 0, none⟩), u4, u5, u6, .pointer (some ⟨b7, 0, none⟩), u8, .pointer (some ⟨b9, 0, none⟩), J4, Gq, Gr, Jo, G7, Jl, J2, G9, Gw, Gk, G0, Gp, Ju, Gc, Jg, Gx, Jd, Gl, G1, Jh, Jr, Gs, J8, x 0, x 1, x 2, x 3, x 4, x 5, x 6, x 7, x 8, x 9, x 10, x 11, x 12, Ji, Gd, Jj, Go, Jt, Je, Gm, J3, Gt, Gz, Gj, G3, Gu, J0, Gi, J5, G4, J1, Jk, Jb, G5, J6, Gf, Jp, J7, Ja, Ge, Gg, Js, G6, Gy])) (getV [Jq, Jf, Gh, Gn, J9, Ga, Jm, G8, Gb, Jc, Jn, Gv, G2]) (by kernel_rfl) (by rfl) (by kernel_rfl) (by kernel_rfl) (by kernel_rfl) (by kernel_rfl) (by kernel_rfl) hQ (fun _ _ => trivial) (getK_mono ⟨m_x, m_x, m_x, m_n, m_x, m_x, m_x, m_n, m_x, m_x, m_x, m_n, m_s3, trivial⟩) ?eager ?call ?fin
 case eager =>
  intro i hi
  simp only [List.mem_cons, List.not_mem_nil, or_false] at hi
  rcases hi with rfl | rfl | rfl
  ·intro x w hB hd
   clear hd
   refine ⟨oRA40, (.pointer (some ⟨b2, 0, none⟩)), rfl, ?_, rfl, (by first | rfl | simp [Act.put, upd])⟩
   refine Or.inl ⟨by rfl, fun _ _ => ?_⟩
   unfold oRA40
   go_simp
   try with_reducible rfl
  ·intro x w hB hd
   clear hd
   refine ⟨oRA44, (.pointer (some ⟨b3, 0, none⟩)), rfl, ?_, rfl, (by first | rfl | simp [Act.put, upd])⟩
   refine Or.inl ⟨by rfl, fun _ _ => ?_⟩
   unfold oRA44
   go_simp
   try with_reducible rfl
  ·intro x w hB hd
   clear hd
   refine ⟨oRA49, (.pointer (some ⟨b3, 2, none⟩)), rfl, ?_, rfl, (by first | rfl | simp [Act.put, upd])⟩
   refine Or.inl ⟨by rfl, fun _ _ => ?_⟩
   unfold oRA49
   go_simp
   try with_reducible rfl
 case call =>
  intro i hi
  simp only [List.mem_cons, List.not_mem_nil, or_false] at hi
  rcases hi with rfl | rfl | rfl | rfl | rfl | rfl | rfl | rfl | rfl | rfl
  ·intro x w hB hd
   obtain ⟨k0, -⟩ := deps_k (ds := [0]) (by kernel_rfl) hd
   clear hd
   have e0 : x 0 = .pointer (some ⟨b2, 0, none⟩) := k0
   have hLD := LD.out w hB
   obtain ⟨f0, f1, f2, f3, f4, f5, f6, f7, f8, f9, f10, f11⟩ := hLD
   refine wpOp_shut (o := oRA41) rfl (fun K' hK => ?_)
   unfold oRA41
   rw [e0]
   go_simp
   exact hK.out _ _ ⟨_, (by first | rfl | simp [upd, e0]), Below.refl _ _, rfl⟩
  ·intro x w hB hd
   clear hd
   have hLD := LD.out w hB
   obtain ⟨f0, f1, f2, f3, f4, f5, f6, f7, f8, f9, f10, f11⟩ := hLD
   refine wpOp_shut (o := oRA42) rfl (fun K' hK => ?_)
   unfold oRA42
   go_simp
   exact hK.out _ _ ⟨_, (by first | rfl | simp [upd]), Below.refl _ _, rfl⟩
  ·intro x w hB hd
   obtain ⟨k1, k2, -⟩ := deps_k (ds := [1, 2]) (by kernel_rfl) hd
   clear hd
   have e1 : x 1 = .agg #[.bool s2, .slice a2 m2 c2] := k1
   have e2 : x 2 = .agg #[.bool s7, .slice a7 m7 c7] := k2
   have HC := C36.out w hB
   unfold VEnd at HC
   have HC := Lib.hid HC
   refine wpOp_shut (o := oRA43) rfl (fun K' hK => ?_)
   unfold oRA43
   rw [e1]
   rw [e2]
   go_simp
   go_at_call 105
   refine HC.out.mono ?_
   rintro e w5 ⟨v5, rfl, hk5, hb5⟩
   clear HC
   go_wp2_with fail
   exact hK.out _ _ ⟨v5, (by first | rfl | simp [upd, e1, e2]), hb5, hk5⟩
  ·intro x w hB hd
   obtain ⟨k4, -⟩ := deps_k (ds := [4]) (by kernel_rfl) hd
   clear hd
   have e4 : x 4 = .pointer (some ⟨b3, 0, none⟩) := k4
   have hLD := LD.out w hB
   obtain ⟨f0, f1, f2, f3, f4, f5, f6, f7, f8, f9, f10, f11⟩ := hLD
   refine wpOp_shut (o := oRA45) rfl (fun K' hK => ?_)
   unfold oRA45
   rw [e4]
   go_simp
   exact hK.out _ _ ⟨_, (by first | rfl | simp [upd, e4]), Below.refl _ _, rfl⟩
  ·intro x w hB hd
   clear hd
   have hLD := LD.out w hB
   obtain ⟨f0, f1, f2, f3, f4, f5, f6, f7, f8, f9, f10, f11⟩ := hLD
   refine wpOp_shut (o := oRA46) rfl (fun K' hK => ?_)
   unfold oRA46
   go_simp
   exact hK.out _ _ ⟨_, (by first | rfl | simp [upd]), Below.refl _ _, rfl⟩
  ·intro x w hB hd
   obtain ⟨k5, k6, k3, -⟩ := deps_k (ds := [5, 6, 3]) (by kernel_rfl) hd
   clear hd
   have e5 : x 5 = .agg #[.bool s3, .slice a3 m3 c3] := k5
   have e6 : x 6 = .agg #[.bool s9, .slice a9 m9 c9] := k6
   have HC := C40.out w hB
   unfold VEnd at HC
   have HC := Lib.hid HC
   refine wpOp_shut (o := oRA47) rfl (fun K' hK => ?_)
   unfold oRA47
   rw [e5]
   rw [e6]
   go_simp
   go_at_call 105
   refine HC.out.mono ?_
   rintro e w5 ⟨v5, rfl, hk5, hb5⟩
   clear HC
   go_wp2_with fail
   exact hK.out _ _ ⟨v5, (by first | rfl | simp [upd, e5, e6]), hb5, hk5⟩
  ·intro x w hB hd
   clear hd
   have hLD := LD.out w hB
   obtain ⟨f0, f1, f2, f3, f4, f5, f6, f7, f8, f9, f10, f11⟩ := hLD
   refine wpOp_shut (o := oRA48) rfl (fun K' hK => ?_)
   unfold oRA48
   go_simp
   exact hK.out _ _ ⟨_, (by first | rfl | simp [upd]), Below.refl _ _, rfl⟩
  ·intro x w hB hd
   obtain ⟨k9, -⟩ := deps_k (ds := [9]) (by kernel_rfl) hd
   clear hd
   have e9 : x 9 = .pointer (some ⟨b3, 2, none⟩) := k9
   have hLD := LD.out w hB
   obtain ⟨f0, f1, f2, f3, f4, f5, f6, f7, f8, f9, f10, f11⟩ := hLD
   refine wpOp_shut (o := oRA410) rfl (fun K' hK => ?_)
   unfold oRA410
   rw [e9]
   go_simp
   exact hK.out _ _ ⟨_, (by first | rfl | simp [upd, e9]), Below.refl _ _, rfl⟩
  ·intro x w hB hd
   obtain ⟨k8, k10, k7, -⟩ := deps_k (ds := [8, 10, 7]) (by kernel_rfl) hd
   clear hd
   have e8 : x 8 = .agg #[.bool s9, .slice a9 m9 c9] := k8
   have e10 : x 10 = .agg #[.bool s3x, .slice a3x m3x c3x] := k10
   have HC := C44.out w hB
   unfold VEnd at HC
   have HC := Lib.hid HC
   refine wpOp_shut (o := oRA411) rfl (fun K' hK => ?_)
   unfold oRA411
   rw [e8]
   rw [e10]
   go_simp
   go_at_call 105
   refine HC.out.mono ?_
   rintro e w5 ⟨v5, rfl, hk5, hb5⟩
   clear HC
   go_wp2_with fail
   exact hK.out _ _ ⟨v5, (by first | rfl | simp [upd, e8, e10]), hb5, hk5⟩
  ·intro x w hB hd
   obtain ⟨k3, k7, k11, -⟩ := deps_k (ds := [3, 7, 11]) (by kernel_rfl) hd
   clear hd
   have hy3 : KN z36 w (x 3) := k3
   obtain ⟨o3a, o3b, o3c, o3d, e3⟩ := nat_shape hy3
   have hy7 : KN z40 w (x 7) := k7
   obtain ⟨o7a, o7b, o7c, o7d, e7⟩ := nat_shape hy7
   have hy11 : KN z44 w (x 11) := k11
   obtain ⟨o11a, o11b, o11c, o11d, e11⟩ := nat_shape hy11
   refine wpOp_shut (o := oRA412) rfl (fun K' hK => ?_)
   unfold oRA412
   rw [e3]
   rw [e7]
   rw [e11]
   go_simp
   exact hK.out _ _ ⟨_, (by first | rfl | simp [upd, e3, e7, e11]), below_one w _, ks3_new hB.size (e3 ▸ hy3) (e7 ▸ hy7) (e11 ▸ hy11)⟩
 case fin =>
  intro x w hB H
  have e0 : x 0 = .pointer (some ⟨b2, 0, none⟩) := H 0 (by decide)
  have e1 : x 1 = .agg #[.bool s2, .slice a2 m2 c2] := H 1 (by decide)
  have e2 : x 2 = .agg #[.bool s7, .slice a7 m7 c7] := H 2 (by decide)
  have k36 : KN z36 w (x 3) := H 3 (by decide)
  have e4 : x 4 = .pointer (some ⟨b3, 0, none⟩) := H 4 (by decide)
  have e5 : x 5 = .agg #[.bool s3, .slice a3 m3 c3] := H 5 (by decide)
  have e6 : x 6 = .agg #[.bool s9, .slice a9 m9 c9] := H 6 (by decide)
  have k40 : KN z40 w (x 7) := H 7 (by decide)
  have e8 : x 8 = .agg #[.bool s9, .slice a9 m9 c9] := H 8 (by decide)
  have e9 : x 9 = .pointer (some ⟨b3, 2, none⟩) := H 9 (by decide)
  have e10 : x 10 = .agg #[.bool s3x, .slice a3x m3x c3x] := H 10 (by decide)
  have k44 : KN z44 w (x 11) := H 11 (by decide)
  have k45 : KS3 W0.heap.size z36 z40 z44 w (x 12) := H 12 (by decide)
  clear H
  show wpAnyH _ _ _ _ _ 1 #[true, true, true, true, true, true, true, true, true, true, true, true, true, false] ⟨#[u0, u1, .pointer (some ⟨b2, 0, none⟩), .pointer (some ⟨b3, 0, none⟩), u4, u5, u6, .pointer (some ⟨b7, 0, none⟩), u8, .pointer (some ⟨b9, 0, none⟩), J4, Gq, Gr, Jo, G7, Jl, J2, G9, Gw, Gk, G0, Gp, Ju, Gc, Jg, Gx, Jd, Gl, G1, Jh, Jr, Gs, J8, x 0, x 1, x 2, x 3, x 4, x 5, x 6, x 7, x 8, x 9, x 10, x 11, x 12, Ji, Gd, Jj, Go, Jt, Je, Gm, J3, Gt, Gz, Gj, G3, Gu, J0, Gi, J5, G4, J1, Jk, Jb, G5, J6, Gf, Jp, J7, Ja, Ge, Gg, Js, G6, Gy], dd⟩ _
  rw [e0]
  clear e0
  rw [e1]
  clear e1
  rw [e2]
  clear e2
  generalize x 3 = x36 at *
  rw [e4]
  clear e4
  rw [e5]
  clear e5
  rw [e6]
  clear e6
  generalize x 7 = x40 at *
  rw [e8]
  clear e8
  rw [e9]
  clear e9
  rw [e10]
  clear e10
  generalize x 11 = x44 at *
  generalize x 12 = x45 at *
  refine wpAnyH_ready (rs := [13]) (by kernel_rfl) (by simp) (AllReadyH.cons (o := oRA413) rfl (fun K hK => ?_) AllReadyH.nil)
  unfold oRA413
  go_simp
  refine hK.out _ _ trivial (fun hHeld => ?_)
  clear hK K
  try simp only [List.setIfInBounds_toArray, List.set_cons_zero, List.set_cons_succ]
  refine wpAnyH_done (by kernel_rfl) ?_ _
  exact leaf _ _ _ _ _ (Lib.hid hB) (Lib.hid k36) (Lib.hid k40) (Lib.hid k44) (Lib.hid k45)
def oRA50 : Oper := ⟨some 46, Op.move (.tmp 11), 128, "ref.go:52", #[], none⟩
def oRA51 : Oper := ⟨some 47, Op.move (.tmp 11), 128, "ref.go:52", #[], none⟩
def oRA52 : Oper := ⟨some 48, Op.indexAddr 128 (.tmp 47) (.const (.int .i64 0)), 0, "ref.go:52", #[⟨1, .data⟩], none⟩
def oRA53 : Oper := ⟨some 49, Op.load 24 (.tmp 48), 24, "ref.go:52", #[⟨2, .data⟩], none⟩
def oRA54 : Oper := ⟨some 50, Op.move (.tmp 11), 128, "ref.go:52", #[], none⟩
def oRA55 : Oper := ⟨some 51, Op.indexAddr 128 (.tmp 50) (.const (.int .i64 1)), 0, "ref.go:52", #[⟨4, .data⟩], none⟩
def oRA56 : Oper := ⟨some 52, Op.load 24 (.tmp 51), 24, "ref.go:52", #[⟨5, .data⟩], none⟩
def oRA57 : Oper := ⟨some 53, Op.call ⟨.value (.func 70), #[.tmp 49, .tmp 52], #[24, 24]⟩, 24, "ref.go:52", #[⟨3, .data⟩, ⟨6, .data⟩], none⟩
def oRA58 : Oper := ⟨some 54, Op.buildSlice 128 1 #[(0, .tmp 53)], 128, "ref.go:52", #[⟨7, .data⟩], none⟩
def oRA59 : Oper := ⟨some 55, Op.call ⟨.builtin .append, #[.tmp 46, .tmp 54], #[128, 128]⟩, 128, "ref.go:52", #[⟨0, .data⟩, ⟨8, .data⟩, ⟨7, .chain⟩], none⟩
def oRA510 : Oper := ⟨some 11, Op.assign (.tmp 55), 128, "ref.go:52", #[⟨9, .data⟩, ⟨9, .chain⟩, ⟨0, .phase⟩, ⟨1, .phase⟩, ⟨2, .phase⟩, ⟨3, .phase⟩, ⟨4, .phase⟩, ⟨5, .phase⟩, ⟨6, .phase⟩, ⟨7, .phase⟩, ⟨8, .phase⟩, ⟨9, .phase⟩], none⟩
def opsRA5 : Array Oper := #[oRA50, oRA51, oRA52, oRA53, oRA54, oRA55, oRA56, oRA57, oRA58, oRA59, oRA510]
set_option maxHeartbeats 8000000 in
theorem regRA5 {Q : Exit → Act → World → Prop} (hQ : ∀ c a d v w, Q (.panic c) (Act.put a d v) w → Q (.panic c) a w) {W0 : World} {dd : List Deferred} {u0 u1 u2 u3 u4 u5 u6 u7 u8 u9 J4 Gr Jo G8 Jl J2 Ga Gw Gl G0 Gq Jt Gd Jg Gx Jd Gm G1 Jh Jr Gs J8 Jq Jf Gi Go J9 Gb Jm G9 Gc Jc Jn Gv G2 Ji Ge Jj Gp G5 Je Gn J3 Gt Gz Gk G3 Gu J0 Gj J5 G4 J1 Jk Jb G6 J6 Gg Jp J7 Ja Gf Gh Js G7 Gy : Value}  {bl : Nat} {sI sK : Bool} {aI aK : Option Addr} {mI cI mK cK : Nat} {z0 z1 z2 z53 : Int}
  (LD : Hid (∀ X : World, Below W0.heap.size W0 X → X.cell? ⟨bl, 0, none⟩ = some (.bool sI) ∧ X.cell? ⟨bl, 1, none⟩ = some (.slice aI mI cI) ∧ X.cell? ⟨bl, 2, none⟩ = some (.bool sK) ∧ X.cell? ⟨bl, 3, none⟩ = some (.slice aK mK cK)))
  (OR : Hid (∀ X : World, Below W0.heap.size W0 X → NRow X bl [z0, z1, z2]))
  (C53 : Hid (∀ X, Below W0.heap.size W0 X → Calls Tryz.prog 70 #[.agg #[.bool sI, .slice aI mI cI], .agg #[.bool sK, .slice aK mK cK]] X (VEnd (KN z53) X)))
  (leaf : ∀ (X : World) (x53 : Value) (x54 : Value) (x55 : Value), Hid (Below W0.heap.size W0 X) → Hid (KN z53 X x53) → Hid (KS1 W0.heap.size z53 X x54) → Hid (KG4 W0.heap.size z0 z1 z2 z53 X x55) → Q .normal ⟨#[u0, u1, u2, u3, u4, u5, u6, u7, u8, u9, J4, x55, Gr, Jo, G8, Jl, J2, Ga, Gw, Gl, G0, Gq, Jt, Gd, Jg, Gx, Jd, Gm, G1, Jh, Jr, Gs, J8, Jq, Jf, Gi, Go, J9, Gb, Jm, G9, Gc, Jc, Jn, Gv, G2, .slice (some ⟨bl, 0, none⟩) 3 3, .slice (some ⟨bl, 0, none⟩) 3 3, .pointer (some ⟨bl, 0, none⟩), .agg #[.bool sI, .slice aI mI cI], .slice (some ⟨bl, 0, none⟩) 3 3, .pointer (some ⟨bl, 2, none⟩), .agg #[.bool sK, .slice aK mK cK], x53, x54, x55, Gk, G3, Gu, J0, Gj, J5, G4, J1, Jk, Jb, G6, J6, Gg, Jp, J7, Ja, Gf, Gh, Js, G7, Gy], dd⟩ X) :
  (Code.region 5 opsRA5 true).wp Tryz.prog Q ⟨#[u0, u1, u2, u3, u4, u5, u6, u7, u8, u9, J4, .slice (some ⟨bl, 0, none⟩) 3 3, Gr, Jo, G8, Jl, J2, Ga, Gw, Gl, G0, Gq, Jt, Gd, Jg, Gx, Jd, Gm, G1, Jh, Jr, Gs, J8, Jq, Jf, Gi, Go, J9, Gb, Jm, G9, Gc, Jc, Jn, Gv, G2, Ji, Ge, Jj, Gp, G5, Je, Gn, J3, Gt, Gz, Gk, G3, Gu, J0, Gj, J5, G4, J1, Jk, Jb, G6, J6, Gg, Jp, J7, Ja, Gf, Gh, Js, G7, Gy], dd⟩ W0 := by
 refine region_ops (P := Tryz.prog) (ops := opsRA5) (W0 := W0) (dd := dd) (k := 10) (T := 1) (E := [0, 1, 2, 4, 5]) (C := [3, 6, 7, 8, 9]) (S := (fun _ => True)) (K := getK [KX (.slice (some ⟨bl, 0, none⟩) 3 3), KX (.slice (some ⟨bl, 0, none⟩) 3 3), KX (.pointer (some ⟨bl, 0, none⟩)), KX (.agg #[.bool sI, .slice aI mI cI]), KX (.slice (some ⟨bl, 0, none⟩) 3 3), KX (.pointer (some ⟨bl, 2, none⟩)), KX (.agg #[.bool sK, .slice aK mK cK]), KN z53, KS1 W0.heap.size z53, KG4 W0.heap.size z0 z1 z2 z53]) (tm := (fun x => #[u0, u1, u2, u3, u4, u5, u6, u7, u8, u9, J4, .slice (some ⟨bl, 0, none⟩) 3 3, Gr, Jo, G8, Jl, J2, Ga, Gw, Gl, G0, Gq, Jt, Gd, Jg, Gx, Jd, Gm, G1, Jh, Jr, Gs, J8, Jq, Jf, Gi, Go, J9, Gb, Jm, G9, Gc, Jc, Jn, Gv, G2, x 0, x 1, x 2, x 3, x 4, x 5, x 6, x 7, x 8, x 9, Gk, G3, Gu, J0, Gj, J5, G4, J1, Jk, Jb, G6, J6, Gg, Jp, J7, Ja, Gf, Gh, Js, G7, Gy])) (getV [Ji, Ge, Jj, Gp, G5, Je, Gn, J3, Gt, Gz]) (by kernel_rfl) (by rfl) (by kernel_rfl) (by kernel_rfl) (by kernel_rfl) (by kernel_rfl) (by kernel_rfl) hQ (fun _ _ => trivial) (getK_mono ⟨m_x, m_x, m_x, m_x, m_x, m_x, m_x, m_n, m_s1, m_g4, trivial⟩) ?eager ?call ?fin
 case eager =>
  intro i hi
  simp only [List.mem_cons, List.not_mem_nil, or_false] at hi
  rcases hi with rfl | rfl | rfl | rfl | rfl
  ·intro x w hB hd
   clear hd
   refine ⟨oRA50, (.slice (some ⟨bl, 0, none⟩) 3 3), rfl, ?_, rfl, (by first | rfl | simp [Act.put, upd])⟩
   refine Or.inl ⟨by rfl, fun _ _ => ?_⟩
   unfold oRA50
   go_simp
   try with_reducible rfl
  ·intro x w hB hd
   clear hd
   refine ⟨oRA51, (.slice (some ⟨bl, 0, none⟩) 3 3), rfl, ?_, rfl, (by first | rfl | simp [Act.put, upd])⟩
   refine Or.inl ⟨by rfl, fun _ _ => ?_⟩
   unfold oRA51
   go_simp
   try with_reducible rfl
  ·intro x w hB hd
   obtain ⟨k1, -⟩ := deps_k (ds := [1]) (by kernel_rfl) hd
   clear hd
   have e1 : x 1 = .slice (some ⟨bl, 0, none⟩) 3 3 := k1
   refine ⟨oRA52, (.pointer (some ⟨bl, 0, none⟩)), rfl, ?_, rfl, (by first | rfl | simp [Act.put, upd])⟩
   rw [e1]
   refine Or.inl ⟨by rfl, fun _ _ => ?_⟩
   unfold oRA52
   go_simp
   try with_reducible rfl
  ·intro x w hB hd
   clear hd
   refine ⟨oRA54, (.slice (some ⟨bl, 0, none⟩) 3 3), rfl, ?_, rfl, (by first | rfl | simp [Act.put, upd])⟩
   refine Or.inl ⟨by rfl, fun _ _ => ?_⟩
   unfold oRA54
   go_simp
   try with_reducible rfl
  ·intro x w hB hd
   obtain ⟨k4, -⟩ := deps_k (ds := [4]) (by kernel_rfl) hd
   clear hd
   have e4 : x 4 = .slice (some ⟨bl, 0, none⟩) 3 3 := k4
   refine ⟨oRA55, (.pointer (some ⟨bl, 2, none⟩)), rfl, ?_, rfl, (by first | rfl | simp [Act.put, upd])⟩
   rw [e4]
   refine Or.inl ⟨by rfl, fun _ _ => ?_⟩
   unfold oRA55
   go_simp
   try with_reducible rfl
 case call =>
  intro i hi
  simp only [List.mem_cons, List.not_mem_nil, or_false] at hi
  rcases hi with rfl | rfl | rfl | rfl | rfl
  ·intro x w hB hd
   obtain ⟨k2, -⟩ := deps_k (ds := [2]) (by kernel_rfl) hd
   clear hd
   have e2 : x 2 = .pointer (some ⟨bl, 0, none⟩) := k2
   have hLD := LD.out w hB
   obtain ⟨f0, f1, f2, f3⟩ := hLD
   refine wpOp_shut (o := oRA53) rfl (fun K' hK => ?_)
   unfold oRA53
   rw [e2]
   go_simp
   exact hK.out _ _ ⟨_, (by first | rfl | simp [upd, e2]), Below.refl _ _, rfl⟩
  ·intro x w hB hd
   obtain ⟨k5, -⟩ := deps_k (ds := [5]) (by kernel_rfl) hd
   clear hd
   have e5 : x 5 = .pointer (some ⟨bl, 2, none⟩) := k5
   have hLD := LD.out w hB
   obtain ⟨f0, f1, f2, f3⟩ := hLD
   refine wpOp_shut (o := oRA56) rfl (fun K' hK => ?_)
   unfold oRA56
   rw [e5]
   go_simp
   exact hK.out _ _ ⟨_, (by first | rfl | simp [upd, e5]), Below.refl _ _, rfl⟩
  ·intro x w hB hd
   obtain ⟨k3, k6, -⟩ := deps_k (ds := [3, 6]) (by kernel_rfl) hd
   clear hd
   have e3 : x 3 = .agg #[.bool sI, .slice aI mI cI] := k3
   have e6 : x 6 = .agg #[.bool sK, .slice aK mK cK] := k6
   have HC := C53.out w hB
   unfold VEnd at HC
   have HC := Lib.hid HC
   refine wpOp_shut (o := oRA57) rfl (fun K' hK => ?_)
   unfold oRA57
   rw [e3]
   rw [e6]
   go_simp
   go_at_call 70
   refine HC.out.mono ?_
   rintro e w5 ⟨v5, rfl, hk5, hb5⟩
   clear HC
   go_wp2_with fail
   exact hK.out _ _ ⟨v5, (by first | rfl | simp [upd, e3, e6]), hb5, hk5⟩
  ·intro x w hB hd
   obtain ⟨k7, -⟩ := deps_k (ds := [7]) (by kernel_rfl) hd
   clear hd
   have hy7 : KN z53 w (x 7) := k7
   obtain ⟨o7a, o7b, o7c, o7d, e7⟩ := nat_shape hy7
   refine wpOp_shut (o := oRA58) rfl (fun K' hK => ?_)
   unfold oRA58
   rw [e7]
   go_simp
   exact hK.out _ _ ⟨_, (by first | rfl | simp [upd, e7]), below_one w _, ks1_new hB.size (e7 ▸ hy7)⟩
  ·intro x w hB hd
   obtain ⟨k0, k8, k7, -⟩ := deps_k (ds := [0, 8, 7]) (by kernel_rfl) hd
   clear hd
   have e0 : x 0 = .slice (some ⟨bl, 0, none⟩) 3 3 := k0
   obtain ⟨g8, e8, L8, hy8⟩ : KS1 W0.heap.size z53 w (x 8) := k8
   refine wpOp_shut (o := oRA59) rfl (fun K' hK => ?_)
   rw [e0]
   rw [e8]
   rw [if_pos (by rfl)]
   refine op_append_n31 (.tmp 46) (.tmp 54) (by rfl) (by rfl) (by rfl) (OR.out w hB) hy8 hB.size (fun v w5 hb5 hv => ?_)
   exact hK.out _ _ ⟨v, (by simp [Act.put, upd, oRA59, e0, e8]), hb5, hv⟩
 case fin =>
  intro x w hB H
  have e0 : x 0 = .slice (some ⟨bl, 0, none⟩) 3 3 := H 0 (by decide)
  have e1 : x 1 = .slice (some ⟨bl, 0, none⟩) 3 3 := H 1 (by decide)
  have e2 : x 2 = .pointer (some ⟨bl, 0, none⟩) := H 2 (by decide)
  have e3 : x 3 = .agg #[.bool sI, .slice aI mI cI] := H 3 (by decide)
  have e4 : x 4 = .slice (some ⟨bl, 0, none⟩) 3 3 := H 4 (by decide)
  have e5 : x 5 = .pointer (some ⟨bl, 2, none⟩) := H 5 (by decide)
  have e6 : x 6 = .agg #[.bool sK, .slice aK mK cK] := H 6 (by decide)
  have k53 : KN z53 w (x 7) := H 7 (by decide)
  have k54 : KS1 W0.heap.size z53 w (x 8) := H 8 (by decide)
  have k55 : KG4 W0.heap.size z0 z1 z2 z53 w (x 9) := H 9 (by decide)
  clear H
  show wpAnyH _ _ _ _ _ 1 #[true, true, true, true, true, true, true, true, true, true, false] ⟨#[u0, u1, u2, u3, u4, u5, u6, u7, u8, u9, J4, .slice (some ⟨bl, 0, none⟩) 3 3, Gr, Jo, G8, Jl, J2, Ga, Gw, Gl, G0, Gq, Jt, Gd, Jg, Gx, Jd, Gm, G1, Jh, Jr, Gs, J8, Jq, Jf, Gi, Go, J9, Gb, Jm, G9, Gc, Jc, Jn, Gv, G2, x 0, x 1, x 2, x 3, x 4, x 5, x 6, x 7, x 8, x 9, Gk, G3, Gu, J0, Gj, J5, G4, J1, Jk, Jb, G6, J6, Gg, Jp, J7, Ja, Gf, Gh, Js, G7, Gy], dd⟩ _
  rw [e0]
  clear e0
  rw [e1]
  clear e1
  rw [e2]
  clear e2
  rw [e3]
  clear e3
  rw [e4]
  clear e4
  rw [e5]
  clear e5
  rw [e6]
  clear e6
  generalize x 7 = x53 at *
  generalize x 8 = x54 at *
  generalize x 9 = x55 at *
  refine wpAnyH_ready (rs := [10]) (by kernel_rfl) (by simp) (AllReadyH.cons (o := oRA510) rfl (fun K hK => ?_) AllReadyH.nil)
  unfold oRA510
  go_simp
  refine hK.out _ _ trivial (fun hHeld => ?_)
  clear hK K
  try simp only [List.setIfInBounds_toArray, List.set_cons_zero, List.set_cons_succ]
  refine wpAnyH_done (by kernel_rfl) ?_ _
  exact leaf _ _ _ _ (Lib.hid hB) (Lib.hid k53) (Lib.hid k54) (Lib.hid k55)
def oRA120 : Oper := ⟨some 68, Op.move (.tmp 11), 128, "ref.go:59", #[], none⟩
def oRA121 : Oper := ⟨some 69, Op.indexAddr 128 (.tmp 68) (.const (.int .i64 3)), 0, "ref.go:59", #[⟨0, .data⟩], none⟩
def oRA122 : Oper := ⟨some 70, Op.load 24 (.tmp 69), 24, "ref.go:59", #[⟨1, .data⟩], none⟩
def oRA123 : Oper := ⟨some 71, Op.move (.tmp 11), 128, "ref.go:59", #[], none⟩
def oRA124 : Oper := ⟨some 72, Op.indexAddr 128 (.tmp 71) (.const (.int .i64 2)), 0, "ref.go:59", #[⟨3, .data⟩], none⟩
def oRA125 : Oper := ⟨some 73, Op.load 24 (.tmp 72), 24, "ref.go:59", #[⟨4, .data⟩], none⟩
def oRA126 : Oper := ⟨some 74, Op.call ⟨.value (.func 38), #[.tmp 70, .tmp 73], #[24, 24]⟩, 40, "ref.go:59", #[⟨2, .data⟩, ⟨5, .data⟩], none⟩
def oRA127 : Oper := ⟨some 75, Op.extract (.tmp 74) 0, 26, "ref.go:59", #[⟨6, .data⟩], none⟩
def oRA128 : Oper := ⟨some 76, Op.extract (.tmp 74) 1, 37, "ref.go:59", #[⟨6, .data⟩], none⟩
def oRA129 : Oper := ⟨none, Op.store 26 (.tmp 4) (.tmp 75), 0, "ref.go:59", #[⟨7, .data⟩, ⟨6, .chain⟩, ⟨0, .phase⟩, ⟨1, .phase⟩, ⟨2, .phase⟩, ⟨3, .phase⟩, ⟨4, .phase⟩, ⟨5, .phase⟩, ⟨6, .phase⟩, ⟨7, .phase⟩, ⟨8, .phase⟩], none⟩
def oRA1210 : Oper := ⟨some 5, Op.assign (.tmp 76), 37, "ref.go:59", #[⟨8, .data⟩, ⟨9, .chain⟩, ⟨0, .phase⟩, ⟨1, .phase⟩, ⟨2, .phase⟩, ⟨3, .phase⟩, ⟨4, .phase⟩, ⟨5, .phase⟩, ⟨6, .phase⟩, ⟨7, .phase⟩, ⟨8, .phase⟩, ⟨9, .phase⟩], none⟩
def opsRA12 : Array Oper := #[oRA120, oRA121, oRA122, oRA123, oRA124, oRA125, oRA126, oRA127, oRA128, oRA129, oRA1210]
set_option maxHeartbeats 8000000 in
theorem regRA12 {Q : Exit → Act → World → Prop} (hQ : ∀ c a d v w, Q (.panic c) (Act.put a d v) w → Q (.panic c) a w) {W0 : World} {dd : List Deferred} {u0 u1 u2 u3 u5 u6 u7 u8 u9 J4 Gs Jo G8 Jl J2 Ga Gw Gl G0 Gr Jt Gd Jg Gx Jd Gm G1 Jh Jr Gt J8 Jq Jf Gi Go J9 Gb Jm G9 Gc Jc Jn Gv G2 Ji Ge Jj Gp G5 Je Gn J3 Gq Gz Gk G3 Gu J0 Gj J5 G4 J1 Jk Jb G6 J6 Gg Jp J7 Ja Gf Gh Js G7 Gy : Value} {b4 : Nat} {bl cl : Nat} {sI sK : Bool} {aI aK : Option Addr} {mI cI mK cK : Nat}  {R : Int × Int × Int}
  (LD : Hid (∀ X : World, Below W0.heap.size W0 X → X.cell? ⟨bl, 6, none⟩ = some (.bool sI) ∧ X.cell? ⟨bl, 7, none⟩ = some (.slice aI mI cI) ∧ X.cell? ⟨bl, 4, none⟩ = some (.bool sK) ∧ X.cell? ⟨bl, 5, none⟩ = some (.slice aK mK cK)))
  (HR4 : Hid (∀ X : World, Below W0.heap.size W0 X → Laid X b4 26 [.bool false, .slice none 0 0, .bool false, .slice none 0 0]))
  (C74 : Hid (∀ X, Below W0.heap.size W0 X → Calls Tryz.prog 38 #[.agg #[.bool sI, .slice aI mI cI], .agg #[.bool sK, .slice aK mK cK]] X (VEnd (KTR R) X)))
  (leaf : ∀ (X : World) (x74 : Value) (sv75 tv75 : Bool) (av75 dv75 : Option Addr) (mv75 iv75 cv75 jv75 : Nat), Hid (Below W0.heap.size W0 X) → Hid (KR R.2.1 R.2.2 X (.agg #[.bool sv75, .slice av75 mv75 cv75, .bool tv75, .slice dv75 iv75 jv75])) → Q .normal ⟨#[u0, u1, u2, u3, .pointer (some ⟨b4, 0, none⟩), .int .i64 R.1, u6, u7, u8, u9, J4, .slice (some ⟨bl, 0, none⟩) 4 cl, Gs, Jo, G8, Jl, J2, Ga, Gw, Gl, G0, Gr, Jt, Gd, Jg, Gx, Jd, Gm, G1, Jh, Jr, Gt, J8, Jq, Jf, Gi, Go, J9, Gb, Jm, G9, Gc, Jc, Jn, Gv, G2, Ji, Ge, Jj, Gp, G5, Je, Gn, J3, Gq, Gz, Gk, G3, Gu, J0, Gj, J5, G4, J1, Jk, Jb, G6, J6, .slice (some ⟨bl, 0, none⟩) 4 cl, .pointer (some ⟨bl, 6, none⟩), .agg #[.bool sI, .slice aI mI cI], .slice (some ⟨bl, 0, none⟩) 4 cl, .pointer (some ⟨bl, 4, none⟩), .agg #[.bool sK, .slice aK mK cK], x74, .agg #[.bool sv75, .slice av75 mv75 cv75, .bool tv75, .slice dv75 iv75 jv75], .int .i64 R.1], dd⟩ ((((X.setCell ⟨b4, 0, none⟩ (.bool sv75)).setCell ⟨b4, 1, none⟩ (.slice av75 mv75 cv75)).setCell ⟨b4, 2, none⟩ (.bool tv75)).setCell ⟨b4, 3, none⟩ (.slice dv75 iv75 jv75))) :
  (Code.region 12 opsRA12 true).wp Tryz.prog Q ⟨#[u0, u1, u2, u3, .pointer (some ⟨b4, 0, none⟩), u5, u6, u7, u8, u9, J4, .slice (some ⟨bl, 0, none⟩) 4 cl, Gs, Jo, G8, Jl, J2, Ga, Gw, Gl, G0, Gr, Jt, Gd, Jg, Gx, Jd, Gm, G1, Jh, Jr, Gt, J8, Jq, Jf, Gi, Go, J9, Gb, Jm, G9, Gc, Jc, Jn, Gv, G2, Ji, Ge, Jj, Gp, G5, Je, Gn, J3, Gq, Gz, Gk, G3, Gu, J0, Gj, J5, G4, J1, Jk, Jb, G6, J6, Gg, Jp, J7, Ja, Gf, Gh, Js, G7, Gy], dd⟩ W0 := by
 refine region_ops (P := Tryz.prog) (ops := opsRA12) (W0 := W0) (dd := dd) (k := 9) (T := 2) (E := [0, 1, 3, 4, 7, 8]) (C := [2, 5, 6]) (S := (fun _ => True)) (K := getK [KX (.slice (some ⟨bl, 0, none⟩) 4 cl), KX (.pointer (some ⟨bl, 6, none⟩)), KX (.agg #[.bool sI, .slice aI mI cI]), KX (.slice (some ⟨bl, 0, none⟩) 4 cl), KX (.pointer (some ⟨bl, 4, none⟩)), KX (.agg #[.bool sK, .slice aK mK cK]), KTR R, KR R.2.1 R.2.2, KX (.int .i64 R.1)]) (tm := (fun x => #[u0, u1, u2, u3, .pointer (some ⟨b4, 0, none⟩), u5, u6, u7, u8, u9, J4, .slice (some ⟨bl, 0, none⟩) 4 cl, Gs, Jo, G8, Jl, J2, Ga, Gw, Gl, G0, Gr, Jt, Gd, Jg, Gx, Jd, Gm, G1, Jh, Jr, Gt, J8, Jq, Jf, Gi, Go, J9, Gb, Jm, G9, Gc, Jc, Jn, Gv, G2, Ji, Ge, Jj, Gp, G5, Je, Gn, J3, Gq, Gz, Gk, G3, Gu, J0, Gj, J5, G4, J1, Jk, Jb, G6, J6, x 0, x 1, x 2, x 3, x 4, x 5, x 6, x 7, x 8])) (getV [Gg, Jp, J7, Ja, Gf, Gh, Js, G7, Gy]) (by kernel_rfl) (by rfl) (by kernel_rfl) (by kernel_rfl) (by kernel_rfl) (by kernel_rfl) (by kernel_rfl) hQ (fun _ _ => trivial) (getK_mono ⟨m_x, m_x, m_x, m_x, m_x, m_x, m_tr, m_r, m_x, trivial⟩) ?eager ?call ?fin
 case eager =>
  intro i hi
  simp only [List.mem_cons, List.not_mem_nil, or_false] at hi
  rcases hi with rfl | rfl | rfl | rfl | rfl | rfl
  ·intro x w hB hd
   clear hd
   refine ⟨oRA120, (.slice (some ⟨bl, 0, none⟩) 4 cl), rfl, ?_, rfl, (by first | rfl | simp [Act.put, upd])⟩
   refine Or.inl ⟨by rfl, fun _ _ => ?_⟩
   unfold oRA120
   go_simp
   try with_reducible rfl
  ·intro x w hB hd
   obtain ⟨k0, -⟩ := deps_k (ds := [0]) (by kernel_rfl) hd
   clear hd
   have e0 : x 0 = .slice (some ⟨bl, 0, none⟩) 4 cl := k0
   refine ⟨oRA121, (.pointer (some ⟨bl, 6, none⟩)), rfl, ?_, rfl, (by first | rfl | simp [Act.put, upd])⟩
   rw [e0]
   refine Or.inl ⟨by rfl, fun _ _ => ?_⟩
   unfold oRA121
   go_simp
   try with_reducible rfl
  ·intro x w hB hd
   clear hd
   refine ⟨oRA123, (.slice (some ⟨bl, 0, none⟩) 4 cl), rfl, ?_, rfl, (by first | rfl | simp [Act.put, upd])⟩
   refine Or.inl ⟨by rfl, fun _ _ => ?_⟩
   unfold oRA123
   go_simp
   try with_reducible rfl
  ·intro x w hB hd
   obtain ⟨k3, -⟩ := deps_k (ds := [3]) (by kernel_rfl) hd
   clear hd
   have e3 : x 3 = .slice (some ⟨bl, 0, none⟩) 4 cl := k3
   refine ⟨oRA124, (.pointer (some ⟨bl, 4, none⟩)), rfl, ?_, rfl, (by first | rfl | simp [Act.put, upd])⟩
   rw [e3]
   refine Or.inl ⟨by rfl, fun _ _ => ?_⟩
   unfold oRA124
   go_simp
   try with_reducible rfl
  ·intro x w hB hd
   obtain ⟨k6, -⟩ := deps_k (ds := [6]) (by kernel_rfl) hd
   clear hd
   obtain ⟨y6, e6, hy6⟩ : KTR R w (x 6) := k6
   refine ⟨oRA127, y6, rfl, ?_, hy6, (by first | rfl | simp [Act.put, upd])⟩
   rw [e6]
   refine Or.inl ⟨by rfl, fun _ _ => ?_⟩
   unfold oRA127
   go_simp
   try with_reducible rfl
  ·intro x w hB hd
   obtain ⟨k6, -⟩ := deps_k (ds := [6]) (by kernel_rfl) hd
   clear hd
   obtain ⟨y6, e6, hy6⟩ : KTR R w (x 6) := k6
   refine ⟨oRA128, (.int .i64 R.1), rfl, ?_, rfl, (by first | rfl | simp [Act.put, upd])⟩
   rw [e6]
   refine Or.inl ⟨by rfl, fun _ _ => ?_⟩
   unfold oRA128
   go_simp
   try with_reducible rfl
 case call =>
  intro i hi
  simp only [List.mem_cons, List.not_mem_nil, or_false] at hi
  rcases hi with rfl | rfl | rfl
  ·intro x w hB hd
   obtain ⟨k1, -⟩ := deps_k (ds := [1]) (by kernel_rfl) hd
   clear hd
   have e1 : x 1 = .pointer (some ⟨bl, 6, none⟩) := k1
   have hLD := LD.out w hB
   obtain ⟨f0, f1, f2, f3⟩ := hLD
   refine wpOp_shut (o := oRA122) rfl (fun K' hK => ?_)
   unfold oRA122
   rw [e1]
   go_simp
   exact hK.out _ _ ⟨_, (by first | rfl | simp [upd, e1]), Below.refl _ _, rfl⟩
  ·intro x w hB hd
   obtain ⟨k4, -⟩ := deps_k (ds := [4]) (by kernel_rfl) hd
   clear hd
   have e4 : x 4 = .pointer (some ⟨bl, 4, none⟩) := k4
   have hLD := LD.out w hB
   obtain ⟨f0, f1, f2, f3⟩ := hLD
   refine wpOp_shut (o := oRA125) rfl (fun K' hK => ?_)
   unfold oRA125
   rw [e4]
   go_simp
   exact hK.out _ _ ⟨_, (by first | rfl | simp [upd, e4]), Below.refl _ _, rfl⟩
  ·intro x w hB hd
   obtain ⟨k2, k5, -⟩ := deps_k (ds := [2, 5]) (by kernel_rfl) hd
   clear hd
   have e2 : x 2 = .agg #[.bool sI, .slice aI mI cI] := k2
   have e5 : x 5 = .agg #[.bool sK, .slice aK mK cK] := k5
   have HC := C74.out w hB
   unfold VEnd at HC
   have HC := Lib.hid HC
   refine wpOp_shut (o := oRA126) rfl (fun K' hK => ?_)
   unfold oRA126
   rw [e2]
   rw [e5]
   go_simp
   go_at_call 38
   refine HC.out.mono ?_
   rintro e w5 ⟨v5, rfl, hk5, hb5⟩
   clear HC
   go_wp2_with fail
   exact hK.out _ _ ⟨v5, (by first | rfl | simp [upd, e2, e5]), hb5, hk5⟩
 case fin =>
  intro x w hB H
  have e0 : x 0 = .slice (some ⟨bl, 0, none⟩) 4 cl := H 0 (by decide)
  have e1 : x 1 = .pointer (some ⟨bl, 6, none⟩) := H 1 (by decide)
  have e2 : x 2 = .agg #[.bool sI, .slice aI mI cI] := H 2 (by decide)
  have e3 : x 3 = .slice (some ⟨bl, 0, none⟩) 4 cl := H 3 (by decide)
  have e4 : x 4 = .pointer (some ⟨bl, 4, none⟩) := H 4 (by decide)
  have e5 : x 5 = .agg #[.bool sK, .slice aK mK cK] := H 5 (by decide)
  have k74 : KTR R w (x 6) := H 6 (by decide)
  have k75 : KR R.2.1 R.2.2 w (x 7) := H 7 (by decide)
  obtain ⟨sv75, tv75, av75, dv75, mv75, iv75, cv75, jv75, e7⟩ := rf_shape k75
  rw [e7] at k75
  have e8 : x 8 = .int .i64 R.1 := H 8 (by decide)
  clear H
  show wpAnyH _ _ _ _ _ 2 #[true, true, true, true, true, true, true, true, true, false, false] ⟨#[u0, u1, u2, u3, .pointer (some ⟨b4, 0, none⟩), u5, u6, u7, u8, u9, J4, .slice (some ⟨bl, 0, none⟩) 4 cl, Gs, Jo, G8, Jl, J2, Ga, Gw, Gl, G0, Gr, Jt, Gd, Jg, Gx, Jd, Gm, G1, Jh, Jr, Gt, J8, Jq, Jf, Gi, Go, J9, Gb, Jm, G9, Gc, Jc, Jn, Gv, G2, Ji, Ge, Jj, Gp, G5, Je, Gn, J3, Gq, Gz, Gk, G3, Gu, J0, Gj, J5, G4, J1, Jk, Jb, G6, J6, x 0, x 1, x 2, x 3, x 4, x 5, x 6, x 7, x 8], dd⟩ _
  rw [e0]
  clear e0
  rw [e1]
  clear e1
  rw [e2]
  clear e2
  rw [e3]
  clear e3
  rw [e4]
  clear e4
  rw [e5]
  clear e5
  generalize x 6 = x74 at *
  rw [e7]
  clear e7
  rw [e8]
  clear e8
  have l4 := HR4.out w hB
  obtain ⟨⟨r0, r1, r2, r3⟩, r4, r5, r6, r7⟩ := cellsF l4
  refine wpAnyH_ready (rs := [9]) (by kernel_rfl) (by simp) (AllReadyH.cons (o := oRA129) rfl (fun K hK => ?_) AllReadyH.nil)
  unfold oRA129
  go_simp
  refine hK.out _ _ trivial (fun hHeld => ?_)
  clear r0 r1 r2 r3 r4 r5 r6 r7
  clear hK K
  try simp only [List.setIfInBounds_toArray, List.set_cons_zero, List.set_cons_succ]
  refine wpAnyH_ready (rs := [10]) (by kernel_rfl) (by simp) (AllReadyH.cons (o := oRA1210) rfl (fun K hK => ?_) AllReadyH.nil)
  unfold oRA1210
  go_simp
  refine hK.out _ _ trivial (fun hHeld => ?_)
  clear hK K
  try simp only [List.setIfInBounds_toArray, List.set_cons_zero, List.set_cons_succ]
  refine wpAnyH_done (by kernel_rfl) ?_ _
  exact leaf _ _ _ _ _ _ _ _ _ _ (Lib.hid hB) (Lib.hid k75)
end Go.Proofs.YtajehlgclnocoaaGreatDoor
