/-
 Laws of drawn regions: the laws of package frac (genRsb.py makes this text).
-/
import Derived.Test.YtajehlgclnocoaaGreatDoorGrwS
namespace Go.Proofs.YtajehlgclnocoaaGreatDoor
open Go.RowKit Go.Shelf
set_option linter.unusedVariables false
set_option maxRecDepth 100000
def oLS30 : Oper := ⟨some 30, Op.load 26 (.tmp 3), 26, "law.go:78", #[], none⟩
def oLS31 : Oper := ⟨some 31, Op.load 26 (.tmp 4), 26, "law.go:78", #[], none⟩
def oLS32 : Oper := ⟨some 32, Op.load 26 (.tmp 3), 26, "law.go:78", #[], none⟩
def oLS33 : Oper := ⟨some 33, Op.call ⟨.value (.func 17), #[.tmp 32], #[26]⟩, 26, "law.go:78", #[⟨2, .data⟩], none⟩
def oLS34 : Oper := ⟨some 34, Op.call ⟨.value (.func 18), #[.const (.int .i64 0)], #[3]⟩, 26, "law.go:78", #[⟨3, .chain⟩], none⟩
def oLS35 : Oper := ⟨some 35, Op.buildSlice 30 4 #[(0, .tmp 30), (1, .tmp 31), (2, .tmp 33), (3, .tmp 34)], 30, "law.go:78", #[⟨0, .data⟩, ⟨1, .data⟩, ⟨3, .data⟩, ⟨4, .data⟩], none⟩
def oLS36 : Oper := ⟨some 5, Op.assign (.tmp 35), 30, "law.go:78", #[⟨5, .data⟩, ⟨4, .chain⟩, ⟨0, .phase⟩, ⟨1, .phase⟩, ⟨2, .phase⟩, ⟨3, .phase⟩, ⟨4, .phase⟩, ⟨5, .phase⟩], none⟩
def opsLS3 : Array Oper := #[oLS30, oLS31, oLS32, oLS33, oLS34, oLS35, oLS36]
set_option maxHeartbeats 8000000 in
theorem regLS3 {Q : Exit → Act → World → Prop} (hQ : ∀ c a d v w, Q (.panic c) (Act.put a d v) w → Q (.panic c) a w) {W0 : World} {dd : List Deferred} {u0 u1 u2 u5 u6 u7 u8 u9 U8 V3 Vj V9 Uz Vh Yc Ya Vd Vx V4 U9 Us Va Um Vu Y7 V8 Up Y8 Ue Uq Ug Uv U5 Vi Uw Vn Y4 Vo Ua V1 U4 Vr Uc Vt Vm Uk V2 U2 Vs Jx Y9 Y5 Un Ye Ud Vk Vq Vg V0 Jz Vl Vw Ur Uh Vb Vp Vz V6 Ve Y3 Uu Ui Y6 Uf Vv Vy Yb Yd U7 Ut Uj U1 Vc Vf Jy Ub U3 V7 Ux V5 Ul U0 Y1 Uy U6 Y0 Uo Y2 Jr J9 G3 Jv Jj Gk Gm G0 Gj J0 Jn Gf G2 Ge Ga Jh Jk J7 G4 Gu G6 Go Jf J6 Jc J1 Jb Gw Gn Jp G9 Gz Gx J8 G5 Gh Gp Jt G8 J2 Jl Jg G7 J3 Ja Jo Ji Gy Gd J4 Gc Gs Gg Gi Gb Gr Gq Je Jw G1 Ju J5 Jq Gv Gl Jm Js Gt Jd : Value} {b3 : Nat} {s3 : Bool} {a3 : Option Addr} {m3 c3 : Nat} {s3x : Bool} {a3x : Option Addr} {m3x c3x : Nat} {b4 : Nat} {s4 : Bool} {a4 : Option Addr} {m4 c4 : Nat} {s4x : Bool} {a4x : Option Addr} {m4x c4x : Nat} {p3 q3 p4 q4 p33 q33 p34 q34 : Int}
  (LD : Hid (∀ X : World, Below W0.heap.size W0 X → X.cell? ⟨b3, 0, none⟩ = some (.bool s3) ∧ X.cell? ⟨b3, 1, none⟩ = some (.slice a3 m3 c3) ∧ X.cell? ⟨b3, 2, none⟩ = some (.bool s3x) ∧ X.cell? ⟨b3, 3, none⟩ = some (.slice a3x m3x c3x) ∧ X.cell? ⟨b4, 0, none⟩ = some (.bool s4) ∧ X.cell? ⟨b4, 1, none⟩ = some (.slice a4 m4 c4) ∧ X.cell? ⟨b4, 2, none⟩ = some (.bool s4x) ∧ X.cell? ⟨b4, 3, none⟩ = some (.slice a4x m4x c4x)))
  (I3 : Hid (∀ X, Below W0.heap.size W0 X → RFAt X (.agg #[.bool s3, .slice a3 m3 c3, .bool s3x, .slice a3x m3x c3x]) p3 q3))
  (I4 : Hid (∀ X, Below W0.heap.size W0 X → RFAt X (.agg #[.bool s4, .slice a4 m4 c4, .bool s4x, .slice a4x m4x c4x]) p4 q4))
  (C33 : Hid (∀ X, Below W0.heap.size W0 X → Calls Tryz.prog 17 #[.agg #[.bool s3, .slice a3 m3 c3, .bool s3x, .slice a3x m3x c3x]] X (VEnd (KR p33 q33) X)))
  (C34 : Hid (∀ X, Below W0.heap.size W0 X → Calls Tryz.prog 18 #[.int .i64 0] X (VEnd (KR p34 q34) X)))
  (leaf : ∀ (X : World) (x33 : Value) (x34 : Value) (x35 : Value), Hid (Below W0.heap.size W0 X) → Hid (KR p33 q33 X x33) → Hid (KR p34 q34 X x34) → Hid (KSR4 W0.heap.size (p3, q3) (p4, q4) (p33, q33) (p34, q34) X x35) → Q .normal ⟨#[u0, u1, u2, .pointer (some ⟨b3, 0, none⟩), .pointer (some ⟨b4, 0, none⟩), x35, u6, u7, u8, u9, U8, V3, Vj, V9, Uz, Vh, Yc, Ya, Vd, Vx, V4, U9, Us, Va, Um, Vu, Y7, V8, Up, Y8, .agg #[.bool s3, .slice a3 m3 c3, .bool s3x, .slice a3x m3x c3x], .agg #[.bool s4, .slice a4 m4 c4, .bool s4x, .slice a4x m4x c4x], .agg #[.bool s3, .slice a3 m3 c3, .bool s3x, .slice a3x m3x c3x], x33, x34, x35, Uw, Vn, Y4, Vo, Ua, V1, U4, Vr, Uc, Vt, Vm, Uk, V2, U2, Vs, Jx, Y9, Y5, Un, Ye, Ud, Vk, Vq, Vg, V0, Jz, Vl, Vw, Ur, Uh, Vb, Vp, Vz, V6, Ve, Y3, Uu, Ui, Y6, Uf, Vv, Vy, Yb, Yd, U7, Ut, Uj, U1, Vc, Vf, Jy, Ub, U3, V7, Ux, V5, Ul, U0, Y1, Uy, U6, Y0, Uo, Y2, Jr, J9, G3, Jv, Jj, Gk, Gm, G0, Gj, J0, Jn, Gf, G2, Ge, Ga, Jh, Jk, J7, G4, Gu, G6, Go, Jf, J6, Jc, J1, Jb, Gw, Gn, Jp, G9, Gz, Gx, J8, G5, Gh, Gp, Jt, G8, J2, Jl, Jg, G7, J3, Ja, Jo, Ji, Gy, Gd, J4, Gc, Gs, Gg, Gi, Gb, Gr, Gq, Je, Jw, G1, Ju, J5, Jq, Gv, Gl, Jm, Js, Gt, Jd], dd⟩ X) :
  (Code.region 3 opsLS3 true).wp Tryz.prog Q ⟨#[u0, u1, u2, .pointer (some ⟨b3, 0, none⟩), .pointer (some ⟨b4, 0, none⟩), u5, u6, u7, u8, u9, U8, V3, Vj, V9, Uz, Vh, Yc, Ya, Vd, Vx, V4, U9, Us, Va, Um, Vu, Y7, V8, Up, Y8, Ue, Uq, Ug, Uv, U5, Vi, Uw, Vn, Y4, Vo, Ua, V1, U4, Vr, Uc, Vt, Vm, Uk, V2, U2, Vs, Jx, Y9, Y5, Un, Ye, Ud, Vk, Vq, Vg, V0, Jz, Vl, Vw, Ur, Uh, Vb, Vp, Vz, V6, Ve, Y3, Uu, Ui, Y6, Uf, Vv, Vy, Yb, Yd, U7, Ut, Uj, U1, Vc, Vf, Jy, Ub, U3, V7, Ux, V5, Ul, U0, Y1, Uy, U6, Y0, Uo, Y2, Jr, J9, G3, Jv, Jj, Gk, Gm, G0, Gj, J0, Jn, Gf, G2, Ge, Ga, Jh, Jk, J7, G4, Gu, G6, Go, Jf, J6, Jc, J1, Jb, Gw, Gn, Jp, G9, Gz, Gx, J8, G5, Gh, Gp, Jt, G8, J2, Jl, Jg, G7, J3, Ja, Jo, Ji, Gy, Gd, J4, Gc, Gs, Gg, Gi, Gb, Gr, Gq, Je, Jw, G1, Ju, J5, Jq, Gv, Gl, Jm, Js, Gt, Jd], dd⟩ W0 := by
 refine region_ops (P := Tryz.prog) (ops := opsLS3) (W0 := W0) (dd := dd) (k := 6) (T := 1) (E := []) (C := [0, 1, 2, 3, 4, 5]) (S := (fun _ => True)) (K := getK [KX (.agg #[.bool s3, .slice a3 m3 c3, .bool s3x, .slice a3x m3x c3x]), KX (.agg #[.bool s4, .slice a4 m4 c4, .bool s4x, .slice a4x m4x c4x]), KX (.agg #[.bool s3, .slice a3 m3 c3, .bool s3x, .slice a3x m3x c3x]), KR p33 q33, KR p34 q34, KSR4 W0.heap.size (p3, q3) (p4, q4) (p33, q33) (p34, q34)]) (tm := (fun x => #[u0, u1, u2, .pointer (some ⟨b3, 0, none⟩), .pointer (some ⟨b4, 0, none⟩), u5, u6, u7, u8, u9, U8, V3, Vj, V9, Uz, Vh, Yc, Ya, Vd, Vx, V4, U9, Us, Va, Um, Vu, Y7, V8, Up, Y8, x 0, x 1, x 2, x 3, x 4, x 5, Uw, Vn, Y4, Vo, Ua, V1, U4, Vr, Uc, Vt, Vm, Uk, V2, U2, Vs, Jx, Y9, Y5, Un, Ye, Ud, Vk, Vq, Vg, V0, Jz, Vl, Vw, Ur, Uh, Vb, Vp, Vz, V6, Ve, Y3, Uu, Ui, Y6, Uf, Vv, Vy, Yb, Yd, U7, Ut, Uj, U1, Vc, Vf, Jy, Ub, U3, V7, Ux, V5, Ul, U0, Y1, Uy, U6, Y0, Uo, Y2, Jr, J9, G3, Jv, Jj, Gk, Gm, G0, Gj, J0, Jn, Gf, G2, Ge, Ga, Jh, Jk, J7, G4, Gu, G6, Go, Jf, J6, Jc, J1, Jb, Gw, Gn, Jp, G9, Gz, Gx, J8, G5, Gh, Gp, Jt, G8, J2, Jl, Jg, G7, J3, Ja, Jo, Ji, Gy, Gd, J4, Gc, Gs, Gg, Gi, Gb, Gr, Gq, Je, Jw, G1, Ju, J5, Jq, Gv, Gl, Jm, Js, Gt, Jd])) (getV [Ue, Uq, Ug, Uv, U5, Vi]) (by kernel_rfl) (by rfl) (by kernel_rfl) (by kernel_rfl) (by kernel_rfl) (by kernel_rfl) (by kernel_rfl) hQ (fun _ _ => trivial) (getK_mono ⟨m_x, m_x, m_x, m_r, m_r, m_sr4, trivial⟩) ?eager ?call ?fin
 case eager =>
  intro i hi
  cases hi
 case call =>
  intro i hi
  simp only [List.mem_cons, List.not_mem_nil, or_false] at hi
  rcases hi with rfl | rfl | rfl | rfl | rfl | rfl
  ·intro x w hB hd
   clear hd
   have hLD := LD.out w hB
   obtain ⟨f0, f1, f2, f3, f4, f5, f6, f7⟩ := hLD
   refine wpOp_shut (o := oLS30) rfl (fun K' hK => ?_)
   unfold oLS30
   go_simp
   exact hK.out _ _ ⟨_, (by first | rfl | simp [upd]), Below.refl _ _, rfl⟩
  ·intro x w hB hd
   clear hd
   have hLD := LD.out w hB
   obtain ⟨f0, f1, f2, f3, f4, f5, f6, f7⟩ := hLD
   refine wpOp_shut (o := oLS31) rfl (fun K' hK => ?_)
   unfold oLS31
   go_simp
   exact hK.out _ _ ⟨_, (by first | rfl | simp [upd]), Below.refl _ _, rfl⟩
  ·intro x w hB hd
   clear hd
   have hLD := LD.out w hB
   obtain ⟨f0, f1, f2, f3, f4, f5, f6, f7⟩ := hLD
   refine wpOp_shut (o := oLS32) rfl (fun K' hK => ?_)
   unfold oLS32
   go_simp
   exact hK.out _ _ ⟨_, (by first | rfl | simp [upd]), Below.refl _ _, rfl⟩
  ·intro x w hB hd
   obtain ⟨k2, -⟩ := deps_k (ds := [2]) (by kernel_rfl) hd
   clear hd
   have e2 : x 2 = .agg #[.bool s3, .slice a3 m3 c3, .bool s3x, .slice a3x m3x c3x] := k2
   have HC := C33.out w hB
   unfold VEnd at HC
   have HC := Lib.hid HC
   refine wpOp_shut (o := oLS33) rfl (fun K' hK => ?_)
   unfold oLS33
   rw [e2]
   go_simp
   go_at_call 17
   refine HC.out.mono ?_
   rintro e w5 ⟨v5, rfl, hk5, hb5⟩
   clear HC
   go_wp2_with fail
   exact hK.out _ _ ⟨v5, (by first | rfl | simp [upd, e2]), hb5, hk5⟩
  ·intro x w hB hd
   obtain ⟨k3, -⟩ := deps_k (ds := [3]) (by kernel_rfl) hd
   clear hd
   have HC := C34.out w hB
   unfold VEnd at HC
   have HC := Lib.hid HC
   refine wpOp_shut (o := oLS34) rfl (fun K' hK => ?_)
   unfold oLS34
   go_simp
   go_at_call 18
   refine HC.out.mono ?_
   rintro e w5 ⟨v5, rfl, hk5, hb5⟩
   clear HC
   go_wp2_with fail
   exact hK.out _ _ ⟨v5, (by first | rfl | simp [upd]), hb5, hk5⟩
  ·intro x w hB hd
   obtain ⟨k0, k1, k3, k4, -⟩ := deps_k (ds := [0, 1, 3, 4]) (by kernel_rfl) hd
   clear hd
   have e0 : x 0 = .agg #[.bool s3, .slice a3 m3 c3, .bool s3x, .slice a3x m3x c3x] := k0
   have e1 : x 1 = .agg #[.bool s4, .slice a4 m4 c4, .bool s4x, .slice a4x m4x c4x] := k1
   have hy3 : KR p33 q33 w (x 3) := k3
   obtain ⟨o3a, o3b, o3c, o3d, o3e, o3f, o3g, o3h, e3⟩ := rf_shape hy3
   have hy4 : KR p34 q34 w (x 4) := k4
   obtain ⟨o4a, o4b, o4c, o4d, o4e, o4f, o4g, o4h, e4⟩ := rf_shape hy4
   refine wpOp_shut (o := oLS35) rfl (fun K' hK => ?_)
   unfold oLS35
   rw [e0]
   rw [e1]
   rw [e3]
   rw [e4]
   go_simp
   exact hK.out _ _ ⟨_, (by first | rfl | simp [upd, e0, e1, e3, e4]), below_one w _, ksr4_new hB.size (I3.out w hB) (I4.out w hB) (e3 ▸ hy3) (e4 ▸ hy4)⟩
 case fin =>
  intro x w hB H
  have e0 : x 0 = .agg #[.bool s3, .slice a3 m3 c3, .bool s3x, .slice a3x m3x c3x] := H 0 (by decide)
  have e1 : x 1 = .agg #[.bool s4, .slice a4 m4 c4, .bool s4x, .slice a4x m4x c4x] := H 1 (by decide)
  have e2 : x 2 = .agg #[.bool s3, .slice a3 m3 c3, .bool s3x, .slice a3x m3x c3x] := H 2 (by decide)
  have k33 : KR p33 q33 w (x 3) := H 3 (by decide)
  have k34 : KR p34 q34 w (x 4) := H 4 (by decide)
  have k35 : KSR4 W0.heap.size (p3, q3) (p4, q4) (p33, q33) (p34, q34) w (x 5) := H 5 (by decide)
  clear H
  show wpAnyH _ _ _ _ _ 1 #[true, true, true, true, true, true, false] ⟨#[u0, u1, u2, .pointer (some ⟨b3, 0, none⟩), .pointer (some ⟨b4, 0, none⟩), u5, u6, u7, u8, u9, U8, V3, Vj, V9, Uz, Vh, Yc, Ya, Vd, Vx, V4, U9, Us, Va, Um, Vu, Y7, V8, Up, Y8, x 0, x 1, x 2, x 3, x 4, x 5, Uw, Vn, Y4, Vo, Ua, V1, U4, Vr, Uc, Vt, Vm, Uk, V2, U2, Vs, Jx, Y9, Y5, Un, Ye, Ud, Vk, Vq, Vg, V0, Jz, Vl, Vw, Ur, Uh, Vb, Vp, Vz, V6, Ve, Y3, Uu, Ui, Y6, Uf, Vv, Vy, Yb, Yd, U7, Ut, Uj, U1, Vc, Vf, Jy, Ub, U3, V7, Ux, V5, Ul, U0, Y1, Uy, U6, Y0, Uo, Y2, Jr, J9, G3, Jv, Jj, Gk, Gm, G0, Gj, J0, Jn, Gf, G2, Ge, Ga, Jh, Jk, J7, G4, Gu, G6, Go, Jf, J6, Jc, J1, Jb, Gw, Gn, Jp, G9, Gz, Gx, J8, G5, Gh, Gp, Jt, G8, J2, Jl, Jg, G7, J3, Ja, Jo, Ji, Gy, Gd, J4, Gc, Gs, Gg, Gi, Gb, Gr, Gq, Je, Jw, G1, Ju, J5, Jq, Gv, Gl, Jm, Js, Gt, Jd], dd⟩ _
  rw [e0]
  clear e0
  rw [e1]
  clear e1
  rw [e2]
  clear e2
  generalize x 3 = x33 at *
  generalize x 4 = x34 at *
  generalize x 5 = x35 at *
  refine wpAnyH_ready (rs := [6]) (by kernel_rfl) (by simp) (AllReadyH.cons (o := oLS36) rfl (fun K hK => ?_) AllReadyH.nil)
  unfold oLS36
  go_simp
  refine hK.out _ _ trivial (fun hHeld => ?_)
  clear hK K
  try simp only [List.setIfInBounds_toArray, List.set_cons_zero, List.set_cons_succ]
  refine wpAnyH_done (by kernel_rfl) ?_ _
  exact leaf _ _ _ _ (Lib.hid hB) (Lib.hid k33) (Lib.hid k34) (Lib.hid k35)
def oLS130 : Oper := ⟨some 61, Op.move (.tmp 5), 30, "law.go:84", #[], none⟩
def oLS131 : Oper := ⟨some 62, Op.move (.tmp 6), 3, "law.go:84", #[], none⟩
def oLS132 : Oper := ⟨some 63, Op.indexAddr 30 (.tmp 61) (.tmp 62), 0, "law.go:84", #[⟨0, .data⟩, ⟨1, .data⟩], none⟩
def oLS133 : Oper := ⟨some 64, Op.load 26 (.tmp 63), 26, "law.go:84", #[⟨2, .data⟩], none⟩
def oLS134 : Oper := ⟨some 65, Op.move (.tmp 5), 30, "law.go:84", #[], none⟩
def oLS135 : Oper := ⟨some 66, Op.move (.tmp 7), 3, "law.go:84", #[], none⟩
def oLS136 : Oper := ⟨some 67, Op.indexAddr 30 (.tmp 65) (.tmp 66), 0, "law.go:84", #[⟨4, .data⟩, ⟨5, .data⟩], none⟩
def oLS137 : Oper := ⟨some 68, Op.load 26 (.tmp 67), 26, "law.go:84", #[⟨6, .data⟩], none⟩
def oLS138 : Oper := ⟨some 69, Op.call ⟨.value (.func 21), #[.tmp 64, .tmp 68], #[26, 26]⟩, 40, "law.go:84", #[⟨3, .data⟩, ⟨7, .data⟩], none⟩
def oLS139 : Oper := ⟨some 60, Op.move (.tmp 69), 40, "law.go:84", #[⟨8, .data⟩], none⟩
def oLS1310 : Oper := ⟨some 70, Op.extract (.tmp 60) 0, 26, "law.go:84", #[⟨9, .data⟩], none⟩
def oLS1311 : Oper := ⟨some 71, Op.extract (.tmp 60) 1, 37, "law.go:84", #[⟨9, .data⟩, ⟨13, .gcOnly .lateStores⟩], none⟩
def oLS1312 : Oper := ⟨some 12, Op.alloc 26, 0, "law.go:84", #[], none⟩
def oLS1313 : Oper := ⟨none, Op.store 26 (.tmp 12) (.tmp 70), 0, "law.go:84", #[⟨12, .data⟩, ⟨10, .data⟩, ⟨8, .chain⟩, ⟨0, .phase⟩, ⟨1, .phase⟩, ⟨2, .phase⟩, ⟨3, .phase⟩, ⟨4, .phase⟩, ⟨5, .phase⟩, ⟨6, .phase⟩, ⟨7, .phase⟩, ⟨8, .phase⟩, ⟨9, .phase⟩, ⟨10, .phase⟩, ⟨11, .textOnly .lateStores⟩, ⟨12, .phase⟩], none⟩
def oLS1314 : Oper := ⟨some 13, Op.assign (.tmp 71), 37, "law.go:84", #[⟨11, .data⟩, ⟨13, .chain⟩, ⟨0, .phase⟩, ⟨1, .phase⟩, ⟨2, .phase⟩, ⟨3, .phase⟩, ⟨4, .phase⟩, ⟨5, .phase⟩, ⟨6, .phase⟩, ⟨7, .phase⟩, ⟨8, .phase⟩, ⟨9, .phase⟩, ⟨10, .phase⟩, ⟨11, .phase⟩, ⟨12, .phase⟩, ⟨13, .phase⟩], none⟩
def opsLS13 : Array Oper := #[oLS130, oLS131, oLS132, oLS133, oLS134, oLS135, oLS136, oLS137, oLS138, oLS139, oLS1310, oLS1311, oLS1312, oLS1313, oLS1314]
set_option maxHeartbeats 8000000 in
theorem regLS13 {Q : Exit → Act → World → Prop} (hQ : ∀ c a d v w, Q (.panic c) (Act.put a d v) w → Q (.panic c) a w) {W0 : World} {dd : List Deferred} {u0 u1 u2 u3 u4 u8 u9 U8 V3 Vj V9 Uz Vh Yc Ya Vd Vx V4 U9 Us Va Um Vu Y7 V8 Up Y8 Ue Uq Ug Uv U5 Vi Uw Vn Y4 Vo Ua V1 U4 Vr Uc Vt Vm Uk V2 U2 Vs Jx Y9 Y5 Un Ye Ud Vk Vq Vg V0 Jz Vl Vw Ur Uh Vb Vp Vz V6 Ve Y3 Uu Ui Y6 Uf Vv Vy Yb Yd U7 Ut Uj U1 Vc Vf Jy Ub U3 V7 Ux V5 Ul U0 Y1 Uy U6 Y0 Uo Y2 Jr J9 G3 Jv Jj Gk Gm G0 Gj J0 Jn Gf G2 Ge Ga Jh Jk J7 G4 Gu G6 Gp Jf J6 Jc J1 Jb Gw Gn Jp G9 Gz Gx J8 G5 Gh Gq Jt G8 J2 Jl Jg G7 J3 Ja Jo Ji Gy Gd J4 Gc Gs Gg Gi Gb Gr Go Je Jw G1 Ju J5 Jq Gv Gl Jm Js Gt Jd : Value}  {bl ki kk : Nat} {sI tI sK tK : Bool} {aI dI aK dK : Option Addr} {mI iI cI jI mK iK cK jK : Nat} {R : Int × Int × Int} (HKi : ¬ ((4 : Int) ≤ ((ki : Nat) : Int))) (HKk : ¬ ((4 : Int) ≤ ((kk : Nat) : Int)))
  (LD : Hid (∀ X : World, Below W0.heap.size W0 X → X.cell? ⟨bl, ki * 4, none⟩ = some (.bool sI) ∧ X.cell? ⟨bl, ki * 4 + 1, none⟩ = some (.slice aI mI cI) ∧ X.cell? ⟨bl, ki * 4 + 2, none⟩ = some (.bool tI) ∧ X.cell? ⟨bl, ki * 4 + 3, none⟩ = some (.slice dI iI jI) ∧ X.cell? ⟨bl, kk * 4, none⟩ = some (.bool sK) ∧ X.cell? ⟨bl, kk * 4 + 1, none⟩ = some (.slice aK mK cK) ∧ X.cell? ⟨bl, kk * 4 + 2, none⟩ = some (.bool tK) ∧ X.cell? ⟨bl, kk * 4 + 3, none⟩ = some (.slice dK iK jK)))
  (C69 : Hid (∀ X, Below W0.heap.size W0 X → Calls Tryz.prog 21 #[.agg #[.bool sI, .slice aI mI cI, .bool tI, .slice dI iI jI], .agg #[.bool sK, .slice aK mK cK, .bool tK, .slice dK iK jK]] X (VEnd (KTR R) X)))
  (leaf : ∀ (X : World) (x69 : Value) (x60 : Value) (sv70 tv70 : Bool) (av70 dv70 : Option Addr) (mv70 iv70 cv70 jv70 : Nat) (t12 : Nat), Hid (Below W0.heap.size W0 X) → W0.heap.size ≤ t12 → Hid (RBox X t12 R.2.1 R.2.2) → Q .normal ⟨#[u0, u1, u2, u3, u4, .slice (some ⟨bl, 0, none⟩) 4 4, .int .i64 ((ki : Nat) : Int), .int .i64 ((kk : Nat) : Int), u8, u9, U8, V3, .pointer (some ⟨t12, 0, none⟩), .int .i64 R.1, Uz, Vh, Yc, Ya, Vd, Vx, V4, U9, Us, Va, Um, Vu, Y7, V8, Up, Y8, Ue, Uq, Ug, Uv, U5, Vi, Uw, Vn, Y4, Vo, Ua, V1, U4, Vr, Uc, Vt, Vm, Uk, V2, U2, Vs, Jx, Y9, Y5, Un, Ye, Ud, Vk, Vq, Vg, x60, .slice (some ⟨bl, 0, none⟩) 4 4, .int .i64 ((ki : Nat) : Int), .pointer (some ⟨bl, ki * 4, none⟩), .agg #[.bool sI, .slice aI mI cI, .bool tI, .slice dI iI jI], .slice (some ⟨bl, 0, none⟩) 4 4, .int .i64 ((kk : Nat) : Int), .pointer (some ⟨bl, kk * 4, none⟩), .agg #[.bool sK, .slice aK mK cK, .bool tK, .slice dK iK jK], x69, .agg #[.bool sv70, .slice av70 mv70 cv70, .bool tv70, .slice dv70 iv70 jv70], .int .i64 R.1, Uu, Ui, Y6, Uf, Vv, Vy, Yb, Yd, U7, Ut, Uj, U1, Vc, Vf, Jy, Ub, U3, V7, Ux, V5, Ul, U0, Y1, Uy, U6, Y0, Uo, Y2, Jr, J9, G3, Jv, Jj, Gk, Gm, G0, Gj, J0, Jn, Gf, G2, Ge, Ga, Jh, Jk, J7, G4, Gu, G6, Gp, Jf, J6, Jc, J1, Jb, Gw, Gn, Jp, G9, Gz, Gx, J8, G5, Gh, Gq, Jt, G8, J2, Jl, Jg, G7, J3, Ja, Jo, Ji, Gy, Gd, J4, Gc, Gs, Gg, Gi, Gb, Gr, Go, Je, Jw, G1, Ju, J5, Jq, Gv, Gl, Jm, Js, Gt, Jd], dd⟩ X) :
  (Code.region 13 opsLS13 true).wp Tryz.prog Q ⟨#[u0, u1, u2, u3, u4, .slice (some ⟨bl, 0, none⟩) 4 4, .int .i64 ((ki : Nat) : Int), .int .i64 ((kk : Nat) : Int), u8, u9, U8, V3, Vj, V9, Uz, Vh, Yc, Ya, Vd, Vx, V4, U9, Us, Va, Um, Vu, Y7, V8, Up, Y8, Ue, Uq, Ug, Uv, U5, Vi, Uw, Vn, Y4, Vo, Ua, V1, U4, Vr, Uc, Vt, Vm, Uk, V2, U2, Vs, Jx, Y9, Y5, Un, Ye, Ud, Vk, Vq, Vg, V0, Jz, Vl, Vw, Ur, Uh, Vb, Vp, Vz, V6, Ve, Y3, Uu, Ui, Y6, Uf, Vv, Vy, Yb, Yd, U7, Ut, Uj, U1, Vc, Vf, Jy, Ub, U3, V7, Ux, V5, Ul, U0, Y1, Uy, U6, Y0, Uo, Y2, Jr, J9, G3, Jv, Jj, Gk, Gm, G0, Gj, J0, Jn, Gf, G2, Ge, Ga, Jh, Jk, J7, G4, Gu, G6, Gp, Jf, J6, Jc, J1, Jb, Gw, Gn, Jp, G9, Gz, Gx, J8, G5, Gh, Gq, Jt, G8, J2, Jl, Jg, G7, J3, Ja, Jo, Ji, Gy, Gd, J4, Gc, Gs, Gg, Gi, Gb, Gr, Go, Je, Jw, G1, Ju, J5, Jq, Gv, Gl, Jm, Js, Gt, Jd], dd⟩ W0 := by
 refine region_ops (P := Tryz.prog) (ops := opsLS13) (W0 := W0) (dd := dd) (k := 13) (T := 2) (E := [0, 1, 2, 4, 5, 6, 9, 10, 11]) (C := [3, 7, 8, 12]) (S := (fun _ => True)) (K := getK [KX (.slice (some ⟨bl, 0, none⟩) 4 4), KX (.int .i64 ((ki : Nat) : Int)), KX (.pointer (some ⟨bl, ki * 4, none⟩)), KX (.agg #[.bool sI, .slice aI mI cI, .bool tI, .slice dI iI jI]), KX (.slice (some ⟨bl, 0, none⟩) 4 4), KX (.int .i64 ((kk : Nat) : Int)), KX (.pointer (some ⟨bl, kk * 4, none⟩)), KX (.agg #[.bool sK, .slice aK mK cK, .bool tK, .slice dK iK jK]), KTR R, KTR R, KR R.2.1 R.2.2, KX (.int .i64 R.1), KA W0.heap.size 26 [.bool false, .slice none 0 0, .bool false, .slice none 0 0]]) (tm := (fun x => #[u0, u1, u2, u3, u4, .slice (some ⟨bl, 0, none⟩) 4 4, .int .i64 ((ki : Nat) : Int), .int .i64 ((kk : Nat) : Int), u8, u9, U8, V3, x 12, V9, Uz, Vh, Yc, Ya, Vd, Vx, V4, U9, Us, Va, Um, Vu, Y7, V8, Up, Y8, Ue, Uq, Ug, Uv, U5, Vi, Uw, Vn, Y4, Vo, Ua, V1, U4, Vr, Uc, Vt, Vm, Uk, V2, U2, Vs, Jx, Y9, Y5, Un, Ye, Ud, Vk, Vq, Vg, x 9, x 0, x 1, x 2, x 3, x 4, x 5, x 6, x 7, x 8, x 10, x 11, Uu, Ui, Y6, Uf, Vv, Vy, Yb, Yd, U7, Ut, Uj, U1, Vc, Vf, Jy, Ub, U3, V7, Ux, V5, Ul, U0, Y1, Uy, U6, Y0, Uo, Y2, Jr, J9, G3, Jv, Jj, Gk, Gm, G0, Gj, J0, Jn, Gf, G2, Ge, Ga, Jh, Jk, J7, G4, Gu, G6, Gp, Jf, J6, Jc, J1, Jb, Gw, Gn, Jp, G9, Gz, Gx, J8, G5, Gh, Gq, Jt, G8, J2, Jl, Jg, G7, J3, Ja, Jo, Ji, Gy, Gd, J4, Gc, Gs, Gg, Gi, Gb, Gr, Go, Je, Jw, G1, Ju, J5, Jq, Gv, Gl, Jm, Js, Gt, Jd])) (getV [Jz, Vl, Vw, Ur, Uh, Vb, Vp, Vz, V6, V0, Ve, Y3, Vj]) (by kernel_rfl) (by rfl) (by kernel_rfl) (by kernel_rfl) (by kernel_rfl) (by kernel_rfl) (by kernel_rfl) hQ (fun _ _ => trivial) (getK_mono ⟨m_x, m_x, m_x, m_x, m_x, m_x, m_x, m_x, m_tr, m_tr, m_r, m_x, m_a, trivial⟩) ?eager ?call ?fin
 case eager =>
  intro i hi
  simp only [List.mem_cons, List.not_mem_nil, or_false] at hi
  rcases hi with rfl | rfl | rfl | rfl | rfl | rfl | rfl | rfl | rfl
  ·intro x w hB hd
   clear hd
   refine ⟨oLS130, (.slice (some ⟨bl, 0, none⟩) 4 4), rfl, ?_, rfl, (by first | rfl | simp [Act.put, upd])⟩
   refine Or.inl ⟨by rfl, fun _ _ => ?_⟩
   unfold oLS130
   go_simp
   try with_reducible rfl
  ·intro x w hB hd
   clear hd
   refine ⟨oLS131, (.int .i64 ((ki : Nat) : Int)), rfl, ?_, rfl, (by first | rfl | simp [Act.put, upd])⟩
   refine Or.inl ⟨by rfl, fun _ _ => ?_⟩
   unfold oLS131
   go_simp
   try with_reducible rfl
  ·intro x w hB hd
   obtain ⟨k0, k1, -⟩ := deps_k (ds := [0, 1]) (by kernel_rfl) hd
   clear hd
   have e0 : x 0 = .slice (some ⟨bl, 0, none⟩) 4 4 := k0
   have e1 : x 1 = .int .i64 ((ki : Nat) : Int) := k1
   refine ⟨oLS132, (.pointer (some ⟨bl, ki * 4, none⟩)), rfl, ?_, rfl, (by first | rfl | simp [Act.put, upd])⟩
   rw [e0]
   rw [e1]
   refine Or.inl ⟨by rfl, fun _ _ => ?_⟩
   unfold oLS132
   go_simp
   try with_reducible rfl
  ·intro x w hB hd
   clear hd
   refine ⟨oLS134, (.slice (some ⟨bl, 0, none⟩) 4 4), rfl, ?_, rfl, (by first | rfl | simp [Act.put, upd])⟩
   refine Or.inl ⟨by rfl, fun _ _ => ?_⟩
   unfold oLS134
   go_simp
   try with_reducible rfl
  ·intro x w hB hd
   clear hd
   refine ⟨oLS135, (.int .i64 ((kk : Nat) : Int)), rfl, ?_, rfl, (by first | rfl | simp [Act.put, upd])⟩
   refine Or.inl ⟨by rfl, fun _ _ => ?_⟩
   unfold oLS135
   go_simp
   try with_reducible rfl
  ·intro x w hB hd
   obtain ⟨k4, k5, -⟩ := deps_k (ds := [4, 5]) (by kernel_rfl) hd
   clear hd
   have e4 : x 4 = .slice (some ⟨bl, 0, none⟩) 4 4 := k4
   have e5 : x 5 = .int .i64 ((kk : Nat) : Int) := k5
   refine ⟨oLS136, (.pointer (some ⟨bl, kk * 4, none⟩)), rfl, ?_, rfl, (by first | rfl | simp [Act.put, upd])⟩
   rw [e4]
   rw [e5]
   refine Or.inl ⟨by rfl, fun _ _ => ?_⟩
   unfold oLS136
   go_simp
   try with_reducible rfl
  ·intro x w hB hd
   obtain ⟨k8, -⟩ := deps_k (ds := [8]) (by kernel_rfl) hd
   clear hd
   refine ⟨oLS139, (x 8), rfl, ?_, k8, (by first | rfl | simp [Act.put, upd])⟩
   refine Or.inl ⟨by rfl, fun _ _ => ?_⟩
   unfold oLS139
   go_simp
   try with_reducible rfl
  ·intro x w hB hd
   obtain ⟨k9, -⟩ := deps_k (ds := [9]) (by kernel_rfl) hd
   clear hd
   obtain ⟨y9, e9, hy9⟩ : KTR R w (x 9) := k9
   refine ⟨oLS1310, y9, rfl, ?_, hy9, (by first | rfl | simp [Act.put, upd])⟩
   rw [e9]
   refine Or.inl ⟨by rfl, fun _ _ => ?_⟩
   unfold oLS1310
   go_simp
   try with_reducible rfl
  ·intro x w hB hd
   obtain ⟨k9, -⟩ := deps_k (ds := [9]) (by kernel_rfl) hd
   clear hd
   obtain ⟨y9, e9, hy9⟩ : KTR R w (x 9) := k9
   refine ⟨oLS1311, (.int .i64 R.1), rfl, ?_, rfl, (by first | rfl | simp [Act.put, upd])⟩
   rw [e9]
   refine Or.inl ⟨by rfl, fun _ _ => ?_⟩
   unfold oLS1311
   go_simp
   try with_reducible rfl
 case call =>
  intro i hi
  simp only [List.mem_cons, List.not_mem_nil, or_false] at hi
  rcases hi with rfl | rfl | rfl | rfl
  ·intro x w hB hd
   obtain ⟨k2, -⟩ := deps_k (ds := [2]) (by kernel_rfl) hd
   clear hd
   have e2 : x 2 = .pointer (some ⟨bl, ki * 4, none⟩) := k2
   have hLD := LD.out w hB
   obtain ⟨f0, f1, f2, f3, f4, f5, f6, f7⟩ := hLD
   refine wpOp_shut (o := oLS133) rfl (fun K' hK => ?_)
   unfold oLS133
   rw [e2]
   go_simp
   exact hK.out _ _ ⟨_, (by first | rfl | simp [upd, e2]), Below.refl _ _, rfl⟩
  ·intro x w hB hd
   obtain ⟨k6, -⟩ := deps_k (ds := [6]) (by kernel_rfl) hd
   clear hd
   have e6 : x 6 = .pointer (some ⟨bl, kk * 4, none⟩) := k6
   have hLD := LD.out w hB
   obtain ⟨f0, f1, f2, f3, f4, f5, f6, f7⟩ := hLD
   refine wpOp_shut (o := oLS137) rfl (fun K' hK => ?_)
   unfold oLS137
   rw [e6]
   go_simp
   exact hK.out _ _ ⟨_, (by first | rfl | simp [upd, e6]), Below.refl _ _, rfl⟩
  ·intro x w hB hd
   obtain ⟨k3, k7, -⟩ := deps_k (ds := [3, 7]) (by kernel_rfl) hd
   clear hd
   have e3 : x 3 = .agg #[.bool sI, .slice aI mI cI, .bool tI, .slice dI iI jI] := k3
   have e7 : x 7 = .agg #[.bool sK, .slice aK mK cK, .bool tK, .slice dK iK jK] := k7
   have HC := C69.out w hB
   unfold VEnd at HC
   have HC := Lib.hid HC
   refine wpOp_shut (o := oLS138) rfl (fun K' hK => ?_)
   unfold oLS138
   rw [e3]
   rw [e7]
   go_simp
   go_at_call 21
   refine HC.out.mono ?_
   rintro e w5 ⟨v5, rfl, hk5, hb5⟩
   clear HC
   go_wp2_with fail
   exact hK.out _ _ ⟨v5, (by first | rfl | simp [upd, e3, e7]), hb5, hk5⟩
  ·intro x w hB hd
   clear hd
   refine wpOp_shut (o := oLS1312) rfl (fun K' hK => ?_)
   unfold oLS1312
   go_simp
   exact hK.out _ _ ⟨_, (by first | rfl | simp [Act.put, upd]), below_one w (.cells #[.bool false, .slice none 0 0, .bool false, .slice none 0 0] 26), ka_new 26 [.bool false, .slice none 0 0, .bool false, .slice none 0 0] hB.size⟩
 case fin =>
  intro x w hB H
  have e0 : x 0 = .slice (some ⟨bl, 0, none⟩) 4 4 := H 0 (by decide)
  have e1 : x 1 = .int .i64 ((ki : Nat) : Int) := H 1 (by decide)
  have e2 : x 2 = .pointer (some ⟨bl, ki * 4, none⟩) := H 2 (by decide)
  have e3 : x 3 = .agg #[.bool sI, .slice aI mI cI, .bool tI, .slice dI iI jI] := H 3 (by decide)
  have e4 : x 4 = .slice (some ⟨bl, 0, none⟩) 4 4 := H 4 (by decide)
  have e5 : x 5 = .int .i64 ((kk : Nat) : Int) := H 5 (by decide)
  have e6 : x 6 = .pointer (some ⟨bl, kk * 4, none⟩) := H 6 (by decide)
  have e7 : x 7 = .agg #[.bool sK, .slice aK mK cK, .bool tK, .slice dK iK jK] := H 7 (by decide)
  have k69 : KTR R w (x 8) := H 8 (by decide)
  have k60 : KTR R w (x 9) := H 9 (by decide)
  have k70 : KR R.2.1 R.2.2 w (x 10) := H 10 (by decide)
  obtain ⟨sv70, tv70, av70, dv70, mv70, iv70, cv70, jv70, e10⟩ := rf_shape k70
  rw [e10] at k70
  have e11 : x 11 = .int .i64 R.1 := H 11 (by decide)
  obtain ⟨t12, e12, L12, l12⟩ : KA W0.heap.size 26 [.bool false, .slice none 0 0, .bool false, .slice none 0 0] w (x 12) := H 12 (by decide)
  clear H
  show wpAnyH _ _ _ _ _ 2 #[true, true, true, true, true, true, true, true, true, true, true, true, true, false, false] ⟨#[u0, u1, u2, u3, u4, .slice (some ⟨bl, 0, none⟩) 4 4, .int .i64 ((ki : Nat) : Int), .int .i64 ((kk : Nat) : Int), u8, u9, U8, V3, x 12, V9, Uz, Vh, Yc, Ya, Vd, Vx, V4, U9, Us, Va, Um, Vu, Y7, V8, Up, Y8, Ue, Uq, Ug, Uv, U5, Vi, Uw, Vn, Y4, Vo, Ua, V1, U4, Vr, Uc, Vt, Vm, Uk, V2, U2, Vs, Jx, Y9, Y5, Un, Ye, Ud, Vk, Vq, Vg, x 9, x 0, x 1, x 2, x 3, x 4, x 5, x 6, x 7, x 8, x 10, x 11, Uu, Ui, Y6, Uf, Vv, Vy, Yb, Yd, U7, Ut, Uj, U1, Vc, Vf, Jy, Ub, U3, V7, Ux, V5, Ul, U0, Y1, Uy, U6, Y0, Uo, Y2, Jr, J9, G3, Jv, Jj, Gk, Gm, G0, Gj, J0, Jn, Gf, G2, Ge, Ga, Jh, Jk, J7, G4, Gu, G6, Gp, Jf, J6, Jc, J1, Jb, Gw, Gn, Jp, G9, Gz, Gx, J8, G5, Gh, Gq, Jt, G8, J2, Jl, Jg, G7, J3, Ja, Jo, Ji, Gy, Gd, J4, Gc, Gs, Gg, Gi, Gb, Gr, Go, Je, Jw, G1, Ju, J5, Jq, Gv, Gl, Jm, Js, Gt, Jd], dd⟩ _
  rw [e0]
  clear e0
  rw [e1]
  clear e1
  rw [e2]
  clear e2
  rw [e3]
  clear e3
  rw [e4]
  clear e4
  rw [e5]
  clear e5
  rw [e6]
  clear e6
  rw [e7]
  clear e7
  generalize x 8 = x69 at *
  generalize x 9 = x60 at *
  rw [e10]
  clear e10
  rw [e11]
  clear e11
  rw [e12]
  clear e12
  obtain ⟨⟨r0, r1, r2, r3⟩, r4, r5, r6, r7⟩ := cellsF l12
  refine wpAnyH_ready (rs := [13]) (by kernel_rfl) (by simp) (AllReadyH.cons (o := oLS1313) rfl (fun K hK => ?_) AllReadyH.nil)
  unfold oLS1313
  go_simp
  refine hK.out _ _ trivial (fun hHeld => ?_)
  clear r0 r1 r2 r3 r4 r5 r6 r7
  clear hK K
  try simp only [List.setIfInBounds_toArray, List.set_cons_zero, List.set_cons_succ]
  refine wpAnyH_ready (rs := [14]) (by kernel_rfl) (by simp) (AllReadyH.cons (o := oLS1314) rfl (fun K hK => ?_) AllReadyH.nil)
  unfold oLS1314
  go_simp
  refine hK.out _ _ trivial (fun hHeld => ?_)
  clear hK K
  try simp only [List.setIfInBounds_toArray, List.set_cons_zero, List.set_cons_succ]
  refine wpAnyH_done (by kernel_rfl) ?_ _
  exact leaf _ _ _ _ _ _ _ _ _ _ _ _ (Lib.hid (below_set4 hB L12)) L12 (Lib.hid (RBox.store l12 k70))
def oLS150 : Oper := ⟨some 79, Op.move (.tmp 5), 30, "law.go:86", #[], none⟩
def oLS151 : Oper := ⟨some 80, Op.move (.tmp 6), 3, "law.go:86", #[], none⟩
def oLS152 : Oper := ⟨some 81, Op.indexAddr 30 (.tmp 79) (.tmp 80), 0, "law.go:86", #[⟨0, .data⟩, ⟨1, .data⟩], none⟩
def oLS153 : Oper := ⟨some 82, Op.load 26 (.tmp 81), 26, "law.go:86", #[⟨2, .data⟩], none⟩
def oLS154 : Oper := ⟨some 83, Op.move (.tmp 5), 30, "law.go:86", #[], none⟩
def oLS155 : Oper := ⟨some 84, Op.move (.tmp 7), 3, "law.go:86", #[], none⟩
def oLS156 : Oper := ⟨some 85, Op.indexAddr 30 (.tmp 83) (.tmp 84), 0, "law.go:86", #[⟨4, .data⟩, ⟨5, .data⟩], none⟩
def oLS157 : Oper := ⟨some 86, Op.load 26 (.tmp 85), 26, "law.go:86", #[⟨6, .data⟩], none⟩
def oLS158 : Oper := ⟨some 87, Op.call ⟨.value (.func 23), #[.tmp 82, .tmp 86], #[26, 26]⟩, 40, "law.go:86", #[⟨3, .data⟩, ⟨7, .data⟩], none⟩
def oLS159 : Oper := ⟨some 78, Op.move (.tmp 87), 40, "law.go:86", #[⟨8, .data⟩], none⟩
def oLS1510 : Oper := ⟨some 88, Op.extract (.tmp 78) 0, 26, "law.go:86", #[⟨9, .data⟩], none⟩
def oLS1511 : Oper := ⟨some 89, Op.extract (.tmp 78) 1, 37, "law.go:86", #[⟨9, .data⟩, ⟨13, .gcOnly .lateStores⟩], none⟩
def oLS1512 : Oper := ⟨some 16, Op.alloc 26, 0, "law.go:86", #[], none⟩
def oLS1513 : Oper := ⟨none, Op.store 26 (.tmp 16) (.tmp 88), 0, "law.go:86", #[⟨12, .data⟩, ⟨10, .data⟩, ⟨8, .chain⟩, ⟨0, .phase⟩, ⟨1, .phase⟩, ⟨2, .phase⟩, ⟨3, .phase⟩, ⟨4, .phase⟩, ⟨5, .phase⟩, ⟨6, .phase⟩, ⟨7, .phase⟩, ⟨8, .phase⟩, ⟨9, .phase⟩, ⟨10, .phase⟩, ⟨11, .textOnly .lateStores⟩, ⟨12, .phase⟩], none⟩
def oLS1514 : Oper := ⟨some 17, Op.assign (.tmp 89), 37, "law.go:86", #[⟨11, .data⟩, ⟨13, .chain⟩, ⟨0, .phase⟩, ⟨1, .phase⟩, ⟨2, .phase⟩, ⟨3, .phase⟩, ⟨4, .phase⟩, ⟨5, .phase⟩, ⟨6, .phase⟩, ⟨7, .phase⟩, ⟨8, .phase⟩, ⟨9, .phase⟩, ⟨10, .phase⟩, ⟨11, .phase⟩, ⟨12, .phase⟩, ⟨13, .phase⟩], none⟩
def opsLS15 : Array Oper := #[oLS150, oLS151, oLS152, oLS153, oLS154, oLS155, oLS156, oLS157, oLS158, oLS159, oLS1510, oLS1511, oLS1512, oLS1513, oLS1514]
set_option maxHeartbeats 8000000 in
theorem regLS15 {Q : Exit → Act → World → Prop} (hQ : ∀ c a d v w, Q (.panic c) (Act.put a d v) w → Q (.panic c) a w) {W0 : World} {dd : List Deferred} {u0 u1 u2 u3 u4 u8 u9 U8 V3 Vj V9 Uz Vh Yc Ya Vd Vx V4 U9 Us Va Um Vu Y7 V8 Up Y8 Ue Uq Ug Uv U5 Vi Uw Vn Y4 Vo Ua V1 U4 Vr Uc Vt Vm Uk V2 U2 Vs Jx Y9 Y5 Un Ye Ud Vk Vq Vg V0 Jz Vl Vw Ur Uh Vb Vp Vz V6 Ve Y3 Uu Ui Y6 Uf Vv Vy Yb Yd U7 Ut Uj U1 Vc Vf Jy Ub U3 V7 Ux V5 Ul U0 Y1 Uy U6 Y0 Uo Y2 Jr J9 G3 Jv Jj Gk Gm G0 Gj J0 Jn Gf G2 Ge Ga Jh Jk J7 G4 Gu G6 Gp Jf J6 Jc J1 Jb Gw Gn Jp G9 Gz Gx J8 G5 Gh Gq Jt G8 J2 Jl Jg G7 J3 Ja Jo Ji Gy Gd J4 Gc Gs Gg Gi Gb Gr Go Je Jw G1 Ju J5 Jq Gv Gl Jm Js Gt Jd : Value}  {bl ki kk : Nat} {sI tI sK tK : Bool} {aI dI aK dK : Option Addr} {mI iI cI jI mK iK cK jK : Nat} {R : Int × Int × Int} (HKi : ¬ ((4 : Int) ≤ ((ki : Nat) : Int))) (HKk : ¬ ((4 : Int) ≤ ((kk : Nat) : Int)))
  (LD : Hid (∀ X : World, Below W0.heap.size W0 X → X.cell? ⟨bl, ki * 4, none⟩ = some (.bool sI) ∧ X.cell? ⟨bl, ki * 4 + 1, none⟩ = some (.slice aI mI cI) ∧ X.cell? ⟨bl, ki * 4 + 2, none⟩ = some (.bool tI) ∧ X.cell? ⟨bl, ki * 4 + 3, none⟩ = some (.slice dI iI jI) ∧ X.cell? ⟨bl, kk * 4, none⟩ = some (.bool sK) ∧ X.cell? ⟨bl, kk * 4 + 1, none⟩ = some (.slice aK mK cK) ∧ X.cell? ⟨bl, kk * 4 + 2, none⟩ = some (.bool tK) ∧ X.cell? ⟨bl, kk * 4 + 3, none⟩ = some (.slice dK iK jK)))
  (C87 : Hid (∀ X, Below W0.heap.size W0 X → Calls Tryz.prog 23 #[.agg #[.bool sI, .slice aI mI cI, .bool tI, .slice dI iI jI], .agg #[.bool sK, .slice aK mK cK, .bool tK, .slice dK iK jK]] X (VEnd (KTR R) X)))
  (leaf : ∀ (X : World) (x87 : Value) (x78 : Value) (sv88 tv88 : Bool) (av88 dv88 : Option Addr) (mv88 iv88 cv88 jv88 : Nat) (t16 : Nat), Hid (Below W0.heap.size W0 X) → W0.heap.size ≤ t16 → Hid (RBox X t16 R.2.1 R.2.2) → Q .normal ⟨#[u0, u1, u2, u3, u4, .slice (some ⟨bl, 0, none⟩) 4 4, .int .i64 ((ki : Nat) : Int), .int .i64 ((kk : Nat) : Int), u8, u9, U8, V3, Vj, V9, Uz, Vh, .pointer (some ⟨t16, 0, none⟩), .int .i64 R.1, Vd, Vx, V4, U9, Us, Va, Um, Vu, Y7, V8, Up, Y8, Ue, Uq, Ug, Uv, U5, Vi, Uw, Vn, Y4, Vo, Ua, V1, U4, Vr, Uc, Vt, Vm, Uk, V2, U2, Vs, Jx, Y9, Y5, Un, Ye, Ud, Vk, Vq, Vg, V0, Jz, Vl, Vw, Ur, Uh, Vb, Vp, Vz, V6, Ve, Y3, Uu, Ui, Y6, Uf, Vv, Vy, x78, .slice (some ⟨bl, 0, none⟩) 4 4, .int .i64 ((ki : Nat) : Int), .pointer (some ⟨bl, ki * 4, none⟩), .agg #[.bool sI, .slice aI mI cI, .bool tI, .slice dI iI jI], .slice (some ⟨bl, 0, none⟩) 4 4, .int .i64 ((kk : Nat) : Int), .pointer (some ⟨bl, kk * 4, none⟩), .agg #[.bool sK, .slice aK mK cK, .bool tK, .slice dK iK jK], x87, .agg #[.bool sv88, .slice av88 mv88 cv88, .bool tv88, .slice dv88 iv88 jv88], .int .i64 R.1, Ux, V5, Ul, U0, Y1, Uy, U6, Y0, Uo, Y2, Jr, J9, G3, Jv, Jj, Gk, Gm, G0, Gj, J0, Jn, Gf, G2, Ge, Ga, Jh, Jk, J7, G4, Gu, G6, Gp, Jf, J6, Jc, J1, Jb, Gw, Gn, Jp, G9, Gz, Gx, J8, G5, Gh, Gq, Jt, G8, J2, Jl, Jg, G7, J3, Ja, Jo, Ji, Gy, Gd, J4, Gc, Gs, Gg, Gi, Gb, Gr, Go, Je, Jw, G1, Ju, J5, Jq, Gv, Gl, Jm, Js, Gt, Jd], dd⟩ X) :
  (Code.region 15 opsLS15 true).wp Tryz.prog Q ⟨#[u0, u1, u2, u3, u4, .slice (some ⟨bl, 0, none⟩) 4 4, .int .i64 ((ki : Nat) : Int), .int .i64 ((kk : Nat) : Int), u8, u9, U8, V3, Vj, V9, Uz, Vh, Yc, Ya, Vd, Vx, V4, U9, Us, Va, Um, Vu, Y7, V8, Up, Y8, Ue, Uq, Ug, Uv, U5, Vi, Uw, Vn, Y4, Vo, Ua, V1, U4, Vr, Uc, Vt, Vm, Uk, V2, U2, Vs, Jx, Y9, Y5, Un, Ye, Ud, Vk, Vq, Vg, V0, Jz, Vl, Vw, Ur, Uh, Vb, Vp, Vz, V6, Ve, Y3, Uu, Ui, Y6, Uf, Vv, Vy, Yb, Yd, U7, Ut, Uj, U1, Vc, Vf, Jy, Ub, U3, V7, Ux, V5, Ul, U0, Y1, Uy, U6, Y0, Uo, Y2, Jr, J9, G3, Jv, Jj, Gk, Gm, G0, Gj, J0, Jn, Gf, G2, Ge, Ga, Jh, Jk, J7, G4, Gu, G6, Gp, Jf, J6, Jc, J1, Jb, Gw, Gn, Jp, G9, Gz, Gx, J8, G5, Gh, Gq, Jt, G8, J2, Jl, Jg, G7, J3, Ja, Jo, Ji, Gy, Gd, J4, Gc, Gs, Gg, Gi, Gb, Gr, Go, Je, Jw, G1, Ju, J5, Jq, Gv, Gl, Jm, Js, Gt, Jd], dd⟩ W0 := by
 refine region_ops (P := Tryz.prog) (ops := opsLS15) (W0 := W0) (dd := dd) (k := 13) (T := 2) (E := [0, 1, 2, 4, 5, 6, 9, 10, 11]) (C := [3, 7, 8, 12]) (S := (fun _ => True)) (K := getK [KX (.slice (some ⟨bl, 0, none⟩) 4 4), KX (.int .i64 ((ki : Nat) : Int)), KX (.pointer (some ⟨bl, ki * 4, none⟩)), KX (.agg #[.bool sI, .slice aI mI cI, .bool tI, .slice dI iI jI]), KX (.slice (some ⟨bl, 0, none⟩) 4 4), KX (.int .i64 ((kk : Nat) : Int)), KX (.pointer (some ⟨bl, kk * 4, none⟩)), KX (.agg #[.bool sK, .slice aK mK cK, .bool tK, .slice dK iK jK]), KTR R, KTR R, KR R.2.1 R.2.2, KX (.int .i64 R.1), KA W0.heap.size 26 [.bool false, .slice none 0 0, .bool false, .slice none 0 0]]) (tm := (fun x => #[u0, u1, u2, u3, u4, .slice (some ⟨bl, 0, none⟩) 4 4, .int .i64 ((ki : Nat) : Int), .int .i64 ((kk : Nat) : Int), u8, u9, U8, V3, Vj, V9, Uz, Vh, x 12, Ya, Vd, Vx, V4, U9, Us, Va, Um, Vu, Y7, V8, Up, Y8, Ue, Uq, Ug, Uv, U5, Vi, Uw, Vn, Y4, Vo, Ua, V1, U4, Vr, Uc, Vt, Vm, Uk, V2, U2, Vs, Jx, Y9, Y5, Un, Ye, Ud, Vk, Vq, Vg, V0, Jz, Vl, Vw, Ur, Uh, Vb, Vp, Vz, V6, Ve, Y3, Uu, Ui, Y6, Uf, Vv, Vy, x 9, x 0, x 1, x 2, x 3, x 4, x 5, x 6, x 7, x 8, x 10, x 11, Ux, V5, Ul, U0, Y1, Uy, U6, Y0, Uo, Y2, Jr, J9, G3, Jv, Jj, Gk, Gm, G0, Gj, J0, Jn, Gf, G2, Ge, Ga, Jh, Jk, J7, G4, Gu, G6, Gp, Jf, J6, Jc, J1, Jb, Gw, Gn, Jp, G9, Gz, Gx, J8, G5, Gh, Gq, Jt, G8, J2, Jl, Jg, G7, J3, Ja, Jo, Ji, Gy, Gd, J4, Gc, Gs, Gg, Gi, Gb, Gr, Go, Je, Jw, G1, Ju, J5, Jq, Gv, Gl, Jm, Js, Gt, Jd])) (getV [Yd, U7, Ut, Uj, U1, Vc, Vf, Jy, Ub, Yb, U3, V7, Yc]) (by kernel_rfl) (by rfl) (by kernel_rfl) (by kernel_rfl) (by kernel_rfl) (by kernel_rfl) (by kernel_rfl) hQ (fun _ _ => trivial) (getK_mono ⟨m_x, m_x, m_x, m_x, m_x, m_x, m_x, m_x, m_tr, m_tr, m_r, m_x, m_a, trivial⟩) ?eager ?call ?fin
 case eager =>
  intro i hi
  simp only [List.mem_cons, List.not_mem_nil, or_false] at hi
  rcases hi with rfl | rfl | rfl | rfl | rfl | rfl | rfl | rfl | rfl
  ·intro x w hB hd
   clear hd
   refine ⟨oLS150, (.slice (some ⟨bl, 0, none⟩) 4 4), rfl, ?_, rfl, (by first | rfl | simp [Act.put, upd])⟩
   refine Or.inl ⟨by rfl, fun _ _ => ?_⟩
   unfold oLS150
   go_simp
   try with_reducible rfl
  ·intro x w hB hd
   clear hd
   refine ⟨oLS151, (.int .i64 ((ki : Nat) : Int)), rfl, ?_, rfl, (by first | rfl | simp [Act.put, upd])⟩
   refine Or.inl ⟨by rfl, fun _ _ => ?_⟩
   unfold oLS151
   go_simp
   try with_reducible rfl
  ·intro x w hB hd
   obtain ⟨k0, k1, -⟩ := deps_k (ds := [0, 1]) (by kernel_rfl) hd
   clear hd
   have e0 : x 0 = .slice (some ⟨bl, 0, none⟩) 4 4 := k0
   have e1 : x 1 = .int .i64 ((ki : Nat) : Int) := k1
   refine ⟨oLS152, (.pointer (some ⟨bl, ki * 4, none⟩)), rfl, ?_, rfl, (by first | rfl | simp [Act.put, upd])⟩
   rw [e0]
   rw [e1]
   refine Or.inl ⟨by rfl, fun _ _ => ?_⟩
   unfold oLS152
   go_simp
   try with_reducible rfl
  ·intro x w hB hd
   clear hd
   refine ⟨oLS154, (.slice (some ⟨bl, 0, none⟩) 4 4), rfl, ?_, rfl, (by first | rfl | simp [Act.put, upd])⟩
   refine Or.inl ⟨by rfl, fun _ _ => ?_⟩
   unfold oLS154
   go_simp
   try with_reducible rfl
  ·intro x w hB hd
   clear hd
   refine ⟨oLS155, (.int .i64 ((kk : Nat) : Int)), rfl, ?_, rfl, (by first | rfl | simp [Act.put, upd])⟩
   refine Or.inl ⟨by rfl, fun _ _ => ?_⟩
   unfold oLS155
   go_simp
   try with_reducible rfl
  ·intro x w hB hd
   obtain ⟨k4, k5, -⟩ := deps_k (ds := [4, 5]) (by kernel_rfl) hd
   clear hd
   have e4 : x 4 = .slice (some ⟨bl, 0, none⟩) 4 4 := k4
   have e5 : x 5 = .int .i64 ((kk : Nat) : Int) := k5
   refine ⟨oLS156, (.pointer (some ⟨bl, kk * 4, none⟩)), rfl, ?_, rfl, (by first | rfl | simp [Act.put, upd])⟩
   rw [e4]
   rw [e5]
   refine Or.inl ⟨by rfl, fun _ _ => ?_⟩
   unfold oLS156
   go_simp
   try with_reducible rfl
  ·intro x w hB hd
   obtain ⟨k8, -⟩ := deps_k (ds := [8]) (by kernel_rfl) hd
   clear hd
   refine ⟨oLS159, (x 8), rfl, ?_, k8, (by first | rfl | simp [Act.put, upd])⟩
   refine Or.inl ⟨by rfl, fun _ _ => ?_⟩
   unfold oLS159
   go_simp
   try with_reducible rfl
  ·intro x w hB hd
   obtain ⟨k9, -⟩ := deps_k (ds := [9]) (by kernel_rfl) hd
   clear hd
   obtain ⟨y9, e9, hy9⟩ : KTR R w (x 9) := k9
   refine ⟨oLS1510, y9, rfl, ?_, hy9, (by first | rfl | simp [Act.put, upd])⟩
   rw [e9]
   refine Or.inl ⟨by rfl, fun _ _ => ?_⟩
   unfold oLS1510
   go_simp
   try with_reducible rfl
  ·intro x w hB hd
   obtain ⟨k9, -⟩ := deps_k (ds := [9]) (by kernel_rfl) hd
   clear hd
   obtain ⟨y9, e9, hy9⟩ : KTR R w (x 9) := k9
   refine ⟨oLS1511, (.int .i64 R.1), rfl, ?_, rfl, (by first | rfl | simp [Act.put, upd])⟩
   rw [e9]
   refine Or.inl ⟨by rfl, fun _ _ => ?_⟩
   unfold oLS1511
   go_simp
   try with_reducible rfl
 case call =>
  intro i hi
  simp only [List.mem_cons, List.not_mem_nil, or_false] at hi
  rcases hi with rfl | rfl | rfl | rfl
  ·intro x w hB hd
   obtain ⟨k2, -⟩ := deps_k (ds := [2]) (by kernel_rfl) hd
   clear hd
   have e2 : x 2 = .pointer (some ⟨bl, ki * 4, none⟩) := k2
   have hLD := LD.out w hB
   obtain ⟨f0, f1, f2, f3, f4, f5, f6, f7⟩ := hLD
   refine wpOp_shut (o := oLS153) rfl (fun K' hK => ?_)
   unfold oLS153
   rw [e2]
   go_simp
   exact hK.out _ _ ⟨_, (by first | rfl | simp [upd, e2]), Below.refl _ _, rfl⟩
  ·intro x w hB hd
   obtain ⟨k6, -⟩ := deps_k (ds := [6]) (by kernel_rfl) hd
   clear hd
   have e6 : x 6 = .pointer (some ⟨bl, kk * 4, none⟩) := k6
   have hLD := LD.out w hB
   obtain ⟨f0, f1, f2, f3, f4, f5, f6, f7⟩ := hLD
   refine wpOp_shut (o := oLS157) rfl (fun K' hK => ?_)
   unfold oLS157
   rw [e6]
   go_simp
   exact hK.out _ _ ⟨_, (by first | rfl | simp [upd, e6]), Below.refl _ _, rfl⟩
  ·intro x w hB hd
   obtain ⟨k3, k7, -⟩ := deps_k (ds := [3, 7]) (by kernel_rfl) hd
   clear hd
   have e3 : x 3 = .agg #[.bool sI, .slice aI mI cI, .bool tI, .slice dI iI jI] := k3
   have e7 : x 7 = .agg #[.bool sK, .slice aK mK cK, .bool tK, .slice dK iK jK] := k7
   have HC := C87.out w hB
   unfold VEnd at HC
   have HC := Lib.hid HC
   refine wpOp_shut (o := oLS158) rfl (fun K' hK => ?_)
   unfold oLS158
   rw [e3]
   rw [e7]
   go_simp
   go_at_call 23
   refine HC.out.mono ?_
   rintro e w5 ⟨v5, rfl, hk5, hb5⟩
   clear HC
   go_wp2_with fail
   exact hK.out _ _ ⟨v5, (by first | rfl | simp [upd, e3, e7]), hb5, hk5⟩
  ·intro x w hB hd
   clear hd
   refine wpOp_shut (o := oLS1512) rfl (fun K' hK => ?_)
   unfold oLS1512
   go_simp
   exact hK.out _ _ ⟨_, (by first | rfl | simp [Act.put, upd]), below_one w (.cells #[.bool false, .slice none 0 0, .bool false, .slice none 0 0] 26), ka_new 26 [.bool false, .slice none 0 0, .bool false, .slice none 0 0] hB.size⟩
 case fin =>
  intro x w hB H
  have e0 : x 0 = .slice (some ⟨bl, 0, none⟩) 4 4 := H 0 (by decide)
  have e1 : x 1 = .int .i64 ((ki : Nat) : Int) := H 1 (by decide)
  have e2 : x 2 = .pointer (some ⟨bl, ki * 4, none⟩) := H 2 (by decide)
  have e3 : x 3 = .agg #[.bool sI, .slice aI mI cI, .bool tI, .slice dI iI jI] := H 3 (by decide)
  have e4 : x 4 = .slice (some ⟨bl, 0, none⟩) 4 4 := H 4 (by decide)
  have e5 : x 5 = .int .i64 ((kk : Nat) : Int) := H 5 (by decide)
  have e6 : x 6 = .pointer (some ⟨bl, kk * 4, none⟩) := H 6 (by decide)
  have e7 : x 7 = .agg #[.bool sK, .slice aK mK cK, .bool tK, .slice dK iK jK] := H 7 (by decide)
  have k87 : KTR R w (x 8) := H 8 (by decide)
  have k78 : KTR R w (x 9) := H 9 (by decide)
  have k88 : KR R.2.1 R.2.2 w (x 10) := H 10 (by decide)
  obtain ⟨sv88, tv88, av88, dv88, mv88, iv88, cv88, jv88, e10⟩ := rf_shape k88
  rw [e10] at k88
  have e11 : x 11 = .int .i64 R.1 := H 11 (by decide)
  obtain ⟨t16, e12, L16, l16⟩ : KA W0.heap.size 26 [.bool false, .slice none 0 0, .bool false, .slice none 0 0] w (x 12) := H 12 (by decide)
  clear H
  show wpAnyH _ _ _ _ _ 2 #[true, true, true, true, true, true, true, true, true, true, true, true, true, false, false] ⟨#[u0, u1, u2, u3, u4, .slice (some ⟨bl, 0, none⟩) 4 4, .int .i64 ((ki : Nat) : Int), .int .i64 ((kk : Nat) : Int), u8, u9, U8, V3, Vj, V9, Uz, Vh, x 12, Ya, Vd, Vx, V4, U9, Us, Va, Um, Vu, Y7, V8, Up, Y8, Ue, Uq, Ug, Uv, U5, Vi, Uw, Vn, Y4, Vo, Ua, V1, U4, Vr, Uc, Vt, Vm, Uk, V2, U2, Vs, Jx, Y9, Y5, Un, Ye, Ud, Vk, Vq, Vg, V0, Jz, Vl, Vw, Ur, Uh, Vb, Vp, Vz, V6, Ve, Y3, Uu, Ui, Y6, Uf, Vv, Vy, x 9, x 0, x 1, x 2, x 3, x 4, x 5, x 6, x 7, x 8, x 10, x 11, Ux, V5, Ul, U0, Y1, Uy, U6, Y0, Uo, Y2, Jr, J9, G3, Jv, Jj, Gk, Gm, G0, Gj, J0, Jn, Gf, G2, Ge, Ga, Jh, Jk, J7, G4, Gu, G6, Gp, Jf, J6, Jc, J1, Jb, Gw, Gn, Jp, G9, Gz, Gx, J8, G5, Gh, Gq, Jt, G8, J2, Jl, Jg, G7, J3, Ja, Jo, Ji, Gy, Gd, J4, Gc, Gs, Gg, Gi, Gb, Gr, Go, Je, Jw, G1, Ju, J5, Jq, Gv, Gl, Jm, Js, Gt, Jd], dd⟩ _
  rw [e0]
  clear e0
  rw [e1]
  clear e1
  rw [e2]
  clear e2
  rw [e3]
  clear e3
  rw [e4]
  clear e4
  rw [e5]
  clear e5
  rw [e6]
  clear e6
  rw [e7]
  clear e7
  generalize x 8 = x87 at *
  generalize x 9 = x78 at *
  rw [e10]
  clear e10
  rw [e11]
  clear e11
  rw [e12]
  clear e12
  obtain ⟨⟨r0, r1, r2, r3⟩, r4, r5, r6, r7⟩ := cellsF l16
  refine wpAnyH_ready (rs := [13]) (by kernel_rfl) (by simp) (AllReadyH.cons (o := oLS1513) rfl (fun K hK => ?_) AllReadyH.nil)
  unfold oLS1513
  go_simp
  refine hK.out _ _ trivial (fun hHeld => ?_)
  clear r0 r1 r2 r3 r4 r5 r6 r7
  clear hK K
  try simp only [List.setIfInBounds_toArray, List.set_cons_zero, List.set_cons_succ]
  refine wpAnyH_ready (rs := [14]) (by kernel_rfl) (by simp) (AllReadyH.cons (o := oLS1514) rfl (fun K hK => ?_) AllReadyH.nil)
  unfold oLS1514
  go_simp
  refine hK.out _ _ trivial (fun hHeld => ?_)
  clear hK K
  try simp only [List.setIfInBounds_toArray, List.set_cons_zero, List.set_cons_succ]
  refine wpAnyH_done (by kernel_rfl) ?_ _
  exact leaf _ _ _ _ _ _ _ _ _ _ _ _ (Lib.hid (below_set4 hB L16)) L16 (Lib.hid (RBox.store l16 k88))
def oLS170 : Oper := ⟨some 97, Op.move (.tmp 5), 30, "law.go:88", #[], none⟩
def oLS171 : Oper := ⟨some 98, Op.move (.tmp 6), 3, "law.go:88", #[], none⟩
def oLS172 : Oper := ⟨some 99, Op.indexAddr 30 (.tmp 97) (.tmp 98), 0, "law.go:88", #[⟨0, .data⟩, ⟨1, .data⟩], none⟩
def oLS173 : Oper := ⟨some 100, Op.load 26 (.tmp 99), 26, "law.go:88", #[⟨2, .data⟩], none⟩
def oLS174 : Oper := ⟨some 101, Op.move (.tmp 5), 30, "law.go:88", #[], none⟩
def oLS175 : Oper := ⟨some 102, Op.move (.tmp 7), 3, "law.go:88", #[], none⟩
def oLS176 : Oper := ⟨some 103, Op.indexAddr 30 (.tmp 101) (.tmp 102), 0, "law.go:88", #[⟨4, .data⟩, ⟨5, .data⟩], none⟩
def oLS177 : Oper := ⟨some 104, Op.load 26 (.tmp 103), 26, "law.go:88", #[⟨6, .data⟩], none⟩
def oLS178 : Oper := ⟨some 105, Op.call ⟨.value (.func 25), #[.tmp 100, .tmp 104], #[26, 26]⟩, 40, "law.go:88", #[⟨3, .data⟩, ⟨7, .data⟩], none⟩
def oLS179 : Oper := ⟨some 96, Op.move (.tmp 105), 40, "law.go:88", #[⟨8, .data⟩], none⟩
def oLS1710 : Oper := ⟨some 106, Op.extract (.tmp 96) 0, 26, "law.go:88", #[⟨9, .data⟩], none⟩
def oLS1711 : Oper := ⟨some 107, Op.extract (.tmp 96) 1, 37, "law.go:88", #[⟨9, .data⟩, ⟨13, .gcOnly .lateStores⟩], none⟩
def oLS1712 : Oper := ⟨some 20, Op.alloc 26, 0, "law.go:88", #[], none⟩
def oLS1713 : Oper := ⟨none, Op.store 26 (.tmp 20) (.tmp 106), 0, "law.go:88", #[⟨12, .data⟩, ⟨10, .data⟩, ⟨8, .chain⟩, ⟨0, .phase⟩, ⟨1, .phase⟩, ⟨2, .phase⟩, ⟨3, .phase⟩, ⟨4, .phase⟩, ⟨5, .phase⟩, ⟨6, .phase⟩, ⟨7, .phase⟩, ⟨8, .phase⟩, ⟨9, .phase⟩, ⟨10, .phase⟩, ⟨11, .textOnly .lateStores⟩, ⟨12, .phase⟩], none⟩
def oLS1714 : Oper := ⟨some 21, Op.assign (.tmp 107), 37, "law.go:88", #[⟨11, .data⟩, ⟨13, .chain⟩, ⟨0, .phase⟩, ⟨1, .phase⟩, ⟨2, .phase⟩, ⟨3, .phase⟩, ⟨4, .phase⟩, ⟨5, .phase⟩, ⟨6, .phase⟩, ⟨7, .phase⟩, ⟨8, .phase⟩, ⟨9, .phase⟩, ⟨10, .phase⟩, ⟨11, .phase⟩, ⟨12, .phase⟩, ⟨13, .phase⟩], none⟩
def opsLS17 : Array Oper := #[oLS170, oLS171, oLS172, oLS173, oLS174, oLS175, oLS176, oLS177, oLS178, oLS179, oLS1710, oLS1711, oLS1712, oLS1713, oLS1714]
set_option maxHeartbeats 8000000 in
theorem regLS17 {Q : Exit → Act → World → Prop} (hQ : ∀ c a d v w, Q (.panic c) (Act.put a d v) w → Q (.panic c) a w) {W0 : World} {dd : List Deferred} {u0 u1 u2 u3 u4 u8 u9 U8 V3 Vj V9 Uz Vh Yc Ya Vd Vx V4 U9 Us Va Um Vu Y7 V8 Up Y8 Ue Uq Ug Uv U5 Vi Uw Vn Y4 Vo Ua V1 U4 Vr Uc Vt Vm Uk V2 U2 Vs Jx Y9 Y5 Un Ye Ud Vk Vq Vg V0 Jz Vl Vw Ur Uh Vb Vp Vz V6 Ve Y3 Uu Ui Y6 Uf Vv Vy Yb Yd U7 Ut Uj U1 Vc Vf Jy Ub U3 V7 Ux V5 Ul U0 Y1 Uy U6 Y0 Uo Y2 Jr J9 G3 Jv Jj Gk Gm G0 Gj J0 Jn Gf G2 Ge Ga Jh Jk J7 G4 Gu G6 Gp Jf J6 Jc J1 Jb Gw Gn Jp G9 Gz Gx J8 G5 Gh Gq Jt G8 J2 Jl Jg G7 J3 Ja Jo Ji Gy Gd J4 Gc Gs Gg Gi Gb Gr Go Je Jw G1 Ju J5 Jq Gv Gl Jm Js Gt Jd : Value}  {bl ki kk : Nat} {sI tI sK tK : Bool} {aI dI aK dK : Option Addr} {mI iI cI jI mK iK cK jK : Nat} {R : Int × Int × Int} (HKi : ¬ ((4 : Int) ≤ ((ki : Nat) : Int))) (HKk : ¬ ((4 : Int) ≤ ((kk : Nat) : Int)))
  (LD : Hid (∀ X : World, Below W0.heap.size W0 X → X.cell? ⟨bl, ki * 4, none⟩ = some (.bool sI) ∧ X.cell? ⟨bl, ki * 4 + 1, none⟩ = some (.slice aI mI cI) ∧ X.cell? ⟨bl, ki * 4 + 2, none⟩ = some (.bool tI) ∧ X.cell? ⟨bl, ki * 4 + 3, none⟩ = some (.slice dI iI jI) ∧ X.cell? ⟨bl, kk * 4, none⟩ = some (.bool sK) ∧ X.cell? ⟨bl, kk * 4 + 1, none⟩ = some (.slice aK mK cK) ∧ X.cell? ⟨bl, kk * 4 + 2, none⟩ = some (.bool tK) ∧ X.cell? ⟨bl, kk * 4 + 3, none⟩ = some (.slice dK iK jK)))
  (C105 : Hid (∀ X, Below W0.heap.size W0 X → Calls Tryz.prog 25 #[.agg #[.bool sI, .slice aI mI cI, .bool tI, .slice dI iI jI], .agg #[.bool sK, .slice aK mK cK, .bool tK, .slice dK iK jK]] X (VEnd (KTR R) X)))
  (leaf : ∀ (X : World) (x105 : Value) (x96 : Value) (sv106 tv106 : Bool) (av106 dv106 : Option Addr) (mv106 iv106 cv106 jv106 : Nat) (t20 : Nat), Hid (Below W0.heap.size W0 X) → W0.heap.size ≤ t20 → Hid (RBox X t20 R.2.1 R.2.2) → Q .normal ⟨#[u0, u1, u2, u3, u4, .slice (some ⟨bl, 0, none⟩) 4 4, .int .i64 ((ki : Nat) : Int), .int .i64 ((kk : Nat) : Int), u8, u9, U8, V3, Vj, V9, Uz, Vh, Yc, Ya, Vd, Vx, .pointer (some ⟨t20, 0, none⟩), .int .i64 R.1, Us, Va, Um, Vu, Y7, V8, Up, Y8, Ue, Uq, Ug, Uv, U5, Vi, Uw, Vn, Y4, Vo, Ua, V1, U4, Vr, Uc, Vt, Vm, Uk, V2, U2, Vs, Jx, Y9, Y5, Un, Ye, Ud, Vk, Vq, Vg, V0, Jz, Vl, Vw, Ur, Uh, Vb, Vp, Vz, V6, Ve, Y3, Uu, Ui, Y6, Uf, Vv, Vy, Yb, Yd, U7, Ut, Uj, U1, Vc, Vf, Jy, Ub, U3, V7, Ux, V5, Ul, U0, Y1, Uy, x96, .slice (some ⟨bl, 0, none⟩) 4 4, .int .i64 ((ki : Nat) : Int), .pointer (some ⟨bl, ki * 4, none⟩), .agg #[.bool sI, .slice aI mI cI, .bool tI, .slice dI iI jI], .slice (some ⟨bl, 0, none⟩) 4 4, .int .i64 ((kk : Nat) : Int), .pointer (some ⟨bl, kk * 4, none⟩), .agg #[.bool sK, .slice aK mK cK, .bool tK, .slice dK iK jK], x105, .agg #[.bool sv106, .slice av106 mv106 cv106, .bool tv106, .slice dv106 iv106 jv106], .int .i64 R.1, Gj, J0, Jn, Gf, G2, Ge, Ga, Jh, Jk, J7, G4, Gu, G6, Gp, Jf, J6, Jc, J1, Jb, Gw, Gn, Jp, G9, Gz, Gx, J8, G5, Gh, Gq, Jt, G8, J2, Jl, Jg, G7, J3, Ja, Jo, Ji, Gy, Gd, J4, Gc, Gs, Gg, Gi, Gb, Gr, Go, Je, Jw, G1, Ju, J5, Jq, Gv, Gl, Jm, Js, Gt, Jd], dd⟩ X) :
  (Code.region 17 opsLS17 true).wp Tryz.prog Q ⟨#[u0, u1, u2, u3, u4, .slice (some ⟨bl, 0, none⟩) 4 4, .int .i64 ((ki : Nat) : Int), .int .i64 ((kk : Nat) : Int), u8, u9, U8, V3, Vj, V9, Uz, Vh, Yc, Ya, Vd, Vx, V4, U9, Us, Va, Um, Vu, Y7, V8, Up, Y8, Ue, Uq, Ug, Uv, U5, Vi, Uw, Vn, Y4, Vo, Ua, V1, U4, Vr, Uc, Vt, Vm, Uk, V2, U2, Vs, Jx, Y9, Y5, Un, Ye, Ud, Vk, Vq, Vg, V0, Jz, Vl, Vw, Ur, Uh, Vb, Vp, Vz, V6, Ve, Y3, Uu, Ui, Y6, Uf, Vv, Vy, Yb, Yd, U7, Ut, Uj, U1, Vc, Vf, Jy, Ub, U3, V7, Ux, V5, Ul, U0, Y1, Uy, U6, Y0, Uo, Y2, Jr, J9, G3, Jv, Jj, Gk, Gm, G0, Gj, J0, Jn, Gf, G2, Ge, Ga, Jh, Jk, J7, G4, Gu, G6, Gp, Jf, J6, Jc, J1, Jb, Gw, Gn, Jp, G9, Gz, Gx, J8, G5, Gh, Gq, Jt, G8, J2, Jl, Jg, G7, J3, Ja, Jo, Ji, Gy, Gd, J4, Gc, Gs, Gg, Gi, Gb, Gr, Go, Je, Jw, G1, Ju, J5, Jq, Gv, Gl, Jm, Js, Gt, Jd], dd⟩ W0 := by
 refine region_ops (P := Tryz.prog) (ops := opsLS17) (W0 := W0) (dd := dd) (k := 13) (T := 2) (E := [0, 1, 2, 4, 5, 6, 9, 10, 11]) (C := [3, 7, 8, 12]) (S := (fun _ => True)) (K := getK [KX (.slice (some ⟨bl, 0, none⟩) 4 4), KX (.int .i64 ((ki : Nat) : Int)), KX (.pointer (some ⟨bl, ki * 4, none⟩)), KX (.agg #[.bool sI, .slice aI mI cI, .bool tI, .slice dI iI jI]), KX (.slice (some ⟨bl, 0, none⟩) 4 4), KX (.int .i64 ((kk : Nat) : Int)), KX (.pointer (some ⟨bl, kk * 4, none⟩)), KX (.agg #[.bool sK, .slice aK mK cK, .bool tK, .slice dK iK jK]), KTR R, KTR R, KR R.2.1 R.2.2, KX (.int .i64 R.1), KA W0.heap.size 26 [.bool false, .slice none 0 0, .bool false, .slice none 0 0]]) (tm := (fun x => #[u0, u1, u2, u3, u4, .slice (some ⟨bl, 0, none⟩) 4 4, .int .i64 ((ki : Nat) : Int), .int .i64 ((kk : Nat) : Int), u8, u9, U8, V3, Vj, V9, Uz, Vh, Yc, Ya, Vd, Vx, x 12, U9, Us, Va, Um, Vu, Y7, V8, Up, Y8, Ue, Uq, Ug, Uv, U5, Vi, Uw, Vn, Y4, Vo, Ua, V1, U4, Vr, Uc, Vt, Vm, Uk, V2, U2, Vs, Jx, Y9, Y5, Un, Ye, Ud, Vk, Vq, Vg, V0, Jz, Vl, Vw, Ur, Uh, Vb, Vp, Vz, V6, Ve, Y3, Uu, Ui, Y6, Uf, Vv, Vy, Yb, Yd, U7, Ut, Uj, U1, Vc, Vf, Jy, Ub, U3, V7, Ux, V5, Ul, U0, Y1, Uy, x 9, x 0, x 1, x 2, x 3, x 4, x 5, x 6, x 7, x 8, x 10, x 11, Gj, J0, Jn, Gf, G2, Ge, Ga, Jh, Jk, J7, G4, Gu, G6, Gp, Jf, J6, Jc, J1, Jb, Gw, Gn, Jp, G9, Gz, Gx, J8, G5, Gh, Gq, Jt, G8, J2, Jl, Jg, G7, J3, Ja, Jo, Ji, Gy, Gd, J4, Gc, Gs, Gg, Gi, Gb, Gr, Go, Je, Jw, G1, Ju, J5, Jq, Gv, Gl, Jm, Js, Gt, Jd])) (getV [Y0, Uo, Y2, Jr, J9, G3, Jv, Jj, Gk, U6, Gm, G0, V4]) (by kernel_rfl) (by rfl) (by kernel_rfl) (by kernel_rfl) (by kernel_rfl) (by kernel_rfl) (by kernel_rfl) hQ (fun _ _ => trivial) (getK_mono ⟨m_x, m_x, m_x, m_x, m_x, m_x, m_x, m_x, m_tr, m_tr, m_r, m_x, m_a, trivial⟩) ?eager ?call ?fin
 case eager =>
  intro i hi
  simp only [List.mem_cons, List.not_mem_nil, or_false] at hi
  rcases hi with rfl | rfl | rfl | rfl | rfl | rfl | rfl | rfl | rfl
  ·intro x w hB hd
   clear hd
   refine ⟨oLS170, (.slice (some ⟨bl, 0, none⟩) 4 4), rfl, ?_, rfl, (by first | rfl | simp [Act.put, upd])⟩
   refine Or.inl ⟨by rfl, fun _ _ => ?_⟩
   unfold oLS170
   go_simp
   try with_reducible rfl
  ·intro x w hB hd
   clear hd
   refine ⟨oLS171, (.int .i64 ((ki : Nat) : Int)), rfl, ?_, rfl, (by first | rfl | simp [Act.put, upd])⟩
   refine Or.inl ⟨by rfl, fun _ _ => ?_⟩
   unfold oLS171
   go_simp
   try with_reducible rfl
  ·intro x w hB hd
   obtain ⟨k0, k1, -⟩ := deps_k (ds := [0, 1]) (by kernel_rfl) hd
   clear hd
   have e0 : x 0 = .slice (some ⟨bl, 0, none⟩) 4 4 := k0
   have e1 : x 1 = .int .i64 ((ki : Nat) : Int) := k1
   refine ⟨oLS172, (.pointer (some ⟨bl, ki * 4, none⟩)), rfl, ?_, rfl, (by first | rfl | simp [Act.put, upd])⟩
   rw [e0]
   rw [e1]
   refine Or.inl ⟨by rfl, fun _ _ => ?_⟩
   unfold oLS172
   go_simp
   try with_reducible rfl
  ·intro x w hB hd
   clear hd
   refine ⟨oLS174, (.slice (some ⟨bl, 0, none⟩) 4 4), rfl, ?_, rfl, (by first | rfl | simp [Act.put, upd])⟩
   refine Or.inl ⟨by rfl, fun _ _ => ?_⟩
   unfold oLS174
   go_simp
   try with_reducible rfl
  ·intro x w hB hd
   clear hd
   refine ⟨oLS175, (.int .i64 ((kk : Nat) : Int)), rfl, ?_, rfl, (by first | rfl | simp [Act.put, upd])⟩
   refine Or.inl ⟨by rfl, fun _ _ => ?_⟩
   unfold oLS175
   go_simp
   try with_reducible rfl
  ·intro x w hB hd
   obtain ⟨k4, k5, -⟩ := deps_k (ds := [4, 5]) (by kernel_rfl) hd
   clear hd
   have e4 : x 4 = .slice (some ⟨bl, 0, none⟩) 4 4 := k4
   have e5 : x 5 = .int .i64 ((kk : Nat) : Int) := k5
   refine ⟨oLS176, (.pointer (some ⟨bl, kk * 4, none⟩)), rfl, ?_, rfl, (by first | rfl | simp [Act.put, upd])⟩
   rw [e4]
   rw [e5]
   refine Or.inl ⟨by rfl, fun _ _ => ?_⟩
   unfold oLS176
   go_simp
   try with_reducible rfl
  ·intro x w hB hd
   obtain ⟨k8, -⟩ := deps_k (ds := [8]) (by kernel_rfl) hd
   clear hd
   refine ⟨oLS179, (x 8), rfl, ?_, k8, (by first | rfl | simp [Act.put, upd])⟩
   refine Or.inl ⟨by rfl, fun _ _ => ?_⟩
   unfold oLS179
   go_simp
   try with_reducible rfl
  ·intro x w hB hd
   obtain ⟨k9, -⟩ := deps_k (ds := [9]) (by kernel_rfl) hd
   clear hd
   obtain ⟨y9, e9, hy9⟩ : KTR R w (x 9) := k9
   refine ⟨oLS1710, y9, rfl, ?_, hy9, (by first | rfl | simp [Act.put, upd])⟩
   rw [e9]
   refine Or.inl ⟨by rfl, fun _ _ => ?_⟩
   unfold oLS1710
   go_simp
   try with_reducible rfl
  ·intro x w hB hd
   obtain ⟨k9, -⟩ := deps_k (ds := [9]) (by kernel_rfl) hd
   clear hd
   obtain ⟨y9, e9, hy9⟩ : KTR R w (x 9) := k9
   refine ⟨oLS1711, (.int .i64 R.1), rfl, ?_, rfl, (by first | rfl | simp [Act.put, upd])⟩
   rw [e9]
   refine Or.inl ⟨by rfl, fun _ _ => ?_⟩
   unfold oLS1711
   go_simp
   try with_reducible rfl
 case call =>
  intro i hi
  simp only [List.mem_cons, List.not_mem_nil, or_false] at hi
  rcases hi with rfl | rfl | rfl | rfl
  ·intro x w hB hd
   obtain ⟨k2, -⟩ := deps_k (ds := [2]) (by kernel_rfl) hd
   clear hd
   have e2 : x 2 = .pointer (some ⟨bl, ki * 4, none⟩) := k2
   have hLD := LD.out w hB
   obtain ⟨f0, f1, f2, f3, f4, f5, f6, f7⟩ := hLD
   refine wpOp_shut (o := oLS173) rfl (fun K' hK => ?_)
   unfold oLS173
   rw [e2]
   go_simp
   exact hK.out _ _ ⟨_, (by first | rfl | simp [upd, e2]), Below.refl _ _, rfl⟩
  ·intro x w hB hd
   obtain ⟨k6, -⟩ := deps_k (ds := [6]) (by kernel_rfl) hd
   clear hd
   have e6 : x 6 = .pointer (some ⟨bl, kk * 4, none⟩) := k6
   have hLD := LD.out w hB
   obtain ⟨f0, f1, f2, f3, f4, f5, f6, f7⟩ := hLD
   refine wpOp_shut (o := oLS177) rfl (fun K' hK => ?_)
   unfold oLS177
   rw [e6]
   go_simp
   exact hK.out _ _ ⟨_, (by first | rfl | simp [upd, e6]), Below.refl _ _, rfl⟩
  ·intro x w hB hd
   obtain ⟨k3, k7, -⟩ := deps_k (ds := [3, 7]) (by kernel_rfl) hd
   clear hd
   have e3 : x 3 = .agg #[.bool sI, .slice aI mI cI, .bool tI, .slice dI iI jI] := k3
   have e7 : x 7 = .agg #[.bool sK, .slice aK mK cK, .bool tK, .slice dK iK jK] := k7
   have HC := C105.out w hB
   unfold VEnd at HC
   have HC := Lib.hid HC
   refine wpOp_shut (o := oLS178) rfl (fun K' hK => ?_)
   unfold oLS178
   rw [e3]
   rw [e7]
   go_simp
   go_at_call 25
   refine HC.out.mono ?_
   rintro e w5 ⟨v5, rfl, hk5, hb5⟩
   clear HC
   go_wp2_with fail
   exact hK.out _ _ ⟨v5, (by first | rfl | simp [upd, e3, e7]), hb5, hk5⟩
  ·intro x w hB hd
   clear hd
   refine wpOp_shut (o := oLS1712) rfl (fun K' hK => ?_)
   unfold oLS1712
   go_simp
   exact hK.out _ _ ⟨_, (by first | rfl | simp [Act.put, upd]), below_one w (.cells #[.bool false, .slice none 0 0, .bool false, .slice none 0 0] 26), ka_new 26 [.bool false, .slice none 0 0, .bool false, .slice none 0 0] hB.size⟩
 case fin =>
  intro x w hB H
  have e0 : x 0 = .slice (some ⟨bl, 0, none⟩) 4 4 := H 0 (by decide)
  have e1 : x 1 = .int .i64 ((ki : Nat) : Int) := H 1 (by decide)
  have e2 : x 2 = .pointer (some ⟨bl, ki * 4, none⟩) := H 2 (by decide)
  have e3 : x 3 = .agg #[.bool sI, .slice aI mI cI, .bool tI, .slice dI iI jI] := H 3 (by decide)
  have e4 : x 4 = .slice (some ⟨bl, 0, none⟩) 4 4 := H 4 (by decide)
  have e5 : x 5 = .int .i64 ((kk : Nat) : Int) := H 5 (by decide)
  have e6 : x 6 = .pointer (some ⟨bl, kk * 4, none⟩) := H 6 (by decide)
  have e7 : x 7 = .agg #[.bool sK, .slice aK mK cK, .bool tK, .slice dK iK jK] := H 7 (by decide)
  have k105 : KTR R w (x 8) := H 8 (by decide)
  have k96 : KTR R w (x 9) := H 9 (by decide)
  have k106 : KR R.2.1 R.2.2 w (x 10) := H 10 (by decide)
  obtain ⟨sv106, tv106, av106, dv106, mv106, iv106, cv106, jv106, e10⟩ := rf_shape k106
  rw [e10] at k106
  have e11 : x 11 = .int .i64 R.1 := H 11 (by decide)
  obtain ⟨t20, e12, L20, l20⟩ : KA W0.heap.size 26 [.bool false, .slice none 0 0, .bool false, .slice none 0 0] w (x 12) := H 12 (by decide)
  clear H
  show wpAnyH _ _ _ _ _ 2 #[true, true, true, true, true, true, true, true, true, true, true, true, true, false, false] ⟨#[u0, u1, u2, u3, u4, .slice (some ⟨bl, 0, none⟩) 4 4, .int .i64 ((ki : Nat) : Int), .int .i64 ((kk : Nat) : Int), u8, u9, U8, V3, Vj, V9, Uz, Vh, Yc, Ya, Vd, Vx, x 12, U9, Us, Va, Um, Vu, Y7, V8, Up, Y8, Ue, Uq, Ug, Uv, U5, Vi, Uw, Vn, Y4, Vo, Ua, V1, U4, Vr, Uc, Vt, Vm, Uk, V2, U2, Vs, Jx, Y9, Y5, Un, Ye, Ud, Vk, Vq, Vg, V0, Jz, Vl, Vw, Ur, Uh, Vb, Vp, Vz, V6, Ve, Y3, Uu, Ui, Y6, Uf, Vv, Vy, Yb, Yd, U7, Ut, Uj, U1, Vc, Vf, Jy, Ub, U3, V7, Ux, V5, Ul, U0, Y1, Uy, x 9, x 0, x 1, x 2, x 3, x 4, x 5, x 6, x 7, x 8, x 10, x 11, Gj, J0, Jn, Gf, G2, Ge, Ga, Jh, Jk, J7, G4, Gu, G6, Gp, Jf, J6, Jc, J1, Jb, Gw, Gn, Jp, G9, Gz, Gx, J8, G5, Gh, Gq, Jt, G8, J2, Jl, Jg, G7, J3, Ja, Jo, Ji, Gy, Gd, J4, Gc, Gs, Gg, Gi, Gb, Gr, Go, Je, Jw, G1, Ju, J5, Jq, Gv, Gl, Jm, Js, Gt, Jd], dd⟩ _
  rw [e0]
  clear e0
  rw [e1]
  clear e1
  rw [e2]
  clear e2
  rw [e3]
  clear e3
  rw [e4]
  clear e4
  rw [e5]
  clear e5
  rw [e6]
  clear e6
  rw [e7]
  clear e7
  generalize x 8 = x105 at *
  generalize x 9 = x96 at *
  rw [e10]
  clear e10
  rw [e11]
  clear e11
  rw [e12]
  clear e12
  obtain ⟨⟨r0, r1, r2, r3⟩, r4, r5, r6, r7⟩ := cellsF l20
  refine wpAnyH_ready (rs := [13]) (by kernel_rfl) (by simp) (AllReadyH.cons (o := oLS1713) rfl (fun K hK => ?_) AllReadyH.nil)
  unfold oLS1713
  go_simp
  refine hK.out _ _ trivial (fun hHeld => ?_)
  clear r0 r1 r2 r3 r4 r5 r6 r7
  clear hK K
  try simp only [List.setIfInBounds_toArray, List.set_cons_zero, List.set_cons_succ]
  refine wpAnyH_ready (rs := [14]) (by kernel_rfl) (by simp) (AllReadyH.cons (o := oLS1714) rfl (fun K hK => ?_) AllReadyH.nil)
  unfold oLS1714
  go_simp
  refine hK.out _ _ trivial (fun hHeld => ?_)
  clear hK K
  try simp only [List.setIfInBounds_toArray, List.set_cons_zero, List.set_cons_succ]
  refine wpAnyH_done (by kernel_rfl) ?_ _
  exact leaf _ _ _ _ _ _ _ _ _ _ _ _ (Lib.hid (below_set4 hB L20)) L20 (Lib.hid (RBox.store l20 k106))
def oLS190 : Oper := ⟨some 115, Op.move (.tmp 5), 30, "law.go:90", #[], none⟩
def oLS191 : Oper := ⟨some 116, Op.move (.tmp 6), 3, "law.go:90", #[], none⟩
def oLS192 : Oper := ⟨some 117, Op.indexAddr 30 (.tmp 115) (.tmp 116), 0, "law.go:90", #[⟨0, .data⟩, ⟨1, .data⟩], none⟩
def oLS193 : Oper := ⟨some 118, Op.load 26 (.tmp 117), 26, "law.go:90", #[⟨2, .data⟩], none⟩
def oLS194 : Oper := ⟨some 119, Op.move (.tmp 5), 30, "law.go:90", #[], none⟩
def oLS195 : Oper := ⟨some 120, Op.move (.tmp 7), 3, "law.go:90", #[], none⟩
def oLS196 : Oper := ⟨some 121, Op.indexAddr 30 (.tmp 119) (.tmp 120), 0, "law.go:90", #[⟨4, .data⟩, ⟨5, .data⟩], none⟩
def oLS197 : Oper := ⟨some 122, Op.load 26 (.tmp 121), 26, "law.go:90", #[⟨6, .data⟩], none⟩
def oLS198 : Oper := ⟨some 123, Op.call ⟨.value (.func 27), #[.tmp 118, .tmp 122], #[26, 26]⟩, 40, "law.go:90", #[⟨3, .data⟩, ⟨7, .data⟩], none⟩
def oLS199 : Oper := ⟨some 114, Op.move (.tmp 123), 40, "law.go:90", #[⟨8, .data⟩], none⟩
def oLS1910 : Oper := ⟨some 124, Op.extract (.tmp 114) 0, 26, "law.go:90", #[⟨9, .data⟩], none⟩
def oLS1911 : Oper := ⟨some 125, Op.extract (.tmp 114) 1, 37, "law.go:90", #[⟨9, .data⟩, ⟨13, .gcOnly .lateStores⟩], none⟩
def oLS1912 : Oper := ⟨some 24, Op.alloc 26, 0, "law.go:90", #[], none⟩
def oLS1913 : Oper := ⟨none, Op.store 26 (.tmp 24) (.tmp 124), 0, "law.go:90", #[⟨12, .data⟩, ⟨10, .data⟩, ⟨8, .chain⟩, ⟨0, .phase⟩, ⟨1, .phase⟩, ⟨2, .phase⟩, ⟨3, .phase⟩, ⟨4, .phase⟩, ⟨5, .phase⟩, ⟨6, .phase⟩, ⟨7, .phase⟩, ⟨8, .phase⟩, ⟨9, .phase⟩, ⟨10, .phase⟩, ⟨11, .textOnly .lateStores⟩, ⟨12, .phase⟩], none⟩
def oLS1914 : Oper := ⟨some 25, Op.assign (.tmp 125), 37, "law.go:90", #[⟨11, .data⟩, ⟨13, .chain⟩, ⟨0, .phase⟩, ⟨1, .phase⟩, ⟨2, .phase⟩, ⟨3, .phase⟩, ⟨4, .phase⟩, ⟨5, .phase⟩, ⟨6, .phase⟩, ⟨7, .phase⟩, ⟨8, .phase⟩, ⟨9, .phase⟩, ⟨10, .phase⟩, ⟨11, .phase⟩, ⟨12, .phase⟩, ⟨13, .phase⟩], none⟩
def opsLS19 : Array Oper := #[oLS190, oLS191, oLS192, oLS193, oLS194, oLS195, oLS196, oLS197, oLS198, oLS199, oLS1910, oLS1911, oLS1912, oLS1913, oLS1914]
set_option maxHeartbeats 8000000 in
theorem regLS19 {Q : Exit → Act → World → Prop} (hQ : ∀ c a d v w, Q (.panic c) (Act.put a d v) w → Q (.panic c) a w) {W0 : World} {dd : List Deferred} {u0 u1 u2 u3 u4 u8 u9 U8 V3 Vj V9 Uz Vh Yc Ya Vd Vx V4 U9 Us Va Um Vu Y7 V8 Up Y8 Ue Uq Ug Uv U5 Vi Uw Vn Y4 Vo Ua V1 U4 Vr Uc Vt Vm Uk V2 U2 Vs Jx Y9 Y5 Un Ye Ud Vk Vq Vg V0 Jz Vl Vw Ur Uh Vb Vp Vz V6 Ve Y3 Uu Ui Y6 Uf Vv Vy Yb Yd U7 Ut Uj U1 Vc Vf Jy Ub U3 V7 Ux V5 Ul U0 Y1 Uy U6 Y0 Uo Y2 Jr J9 G3 Jv Jj Gk Gm G0 Gj J0 Jn Gf G2 Ge Ga Jh Jk J7 G4 Gu G6 Gp Jf J6 Jc J1 Jb Gw Gn Jp G9 Gz Gx J8 G5 Gh Gq Jt G8 J2 Jl Jg G7 J3 Ja Jo Ji Gy Gd J4 Gc Gs Gg Gi Gb Gr Go Je Jw G1 Ju J5 Jq Gv Gl Jm Js Gt Jd : Value}  {bl ki kk : Nat} {sI tI sK tK : Bool} {aI dI aK dK : Option Addr} {mI iI cI jI mK iK cK jK : Nat} {R : Int × Int × Int} (HKi : ¬ ((4 : Int) ≤ ((ki : Nat) : Int))) (HKk : ¬ ((4 : Int) ≤ ((kk : Nat) : Int)))
  (LD : Hid (∀ X : World, Below W0.heap.size W0 X → X.cell? ⟨bl, ki * 4, none⟩ = some (.bool sI) ∧ X.cell? ⟨bl, ki * 4 + 1, none⟩ = some (.slice aI mI cI) ∧ X.cell? ⟨bl, ki * 4 + 2, none⟩ = some (.bool tI) ∧ X.cell? ⟨bl, ki * 4 + 3, none⟩ = some (.slice dI iI jI) ∧ X.cell? ⟨bl, kk * 4, none⟩ = some (.bool sK) ∧ X.cell? ⟨bl, kk * 4 + 1, none⟩ = some (.slice aK mK cK) ∧ X.cell? ⟨bl, kk * 4 + 2, none⟩ = some (.bool tK) ∧ X.cell? ⟨bl, kk * 4 + 3, none⟩ = some (.slice dK iK jK)))
  (C123 : Hid (∀ X, Below W0.heap.size W0 X → Calls Tryz.prog 27 #[.agg #[.bool sI, .slice aI mI cI, .bool tI, .slice dI iI jI], .agg #[.bool sK, .slice aK mK cK, .bool tK, .slice dK iK jK]] X (VEnd (KTR R) X)))
  (leaf : ∀ (X : World) (x123 : Value) (x114 : Value) (sv124 tv124 : Bool) (av124 dv124 : Option Addr) (mv124 iv124 cv124 jv124 : Nat) (t24 : Nat), Hid (Below W0.heap.size W0 X) → W0.heap.size ≤ t24 → Hid (RBox X t24 R.2.1 R.2.2) → Q .normal ⟨#[u0, u1, u2, u3, u4, .slice (some ⟨bl, 0, none⟩) 4 4, .int .i64 ((ki : Nat) : Int), .int .i64 ((kk : Nat) : Int), u8, u9, U8, V3, Vj, V9, Uz, Vh, Yc, Ya, Vd, Vx, V4, U9, Us, Va, .pointer (some ⟨t24, 0, none⟩), .int .i64 R.1, Y7, V8, Up, Y8, Ue, Uq, Ug, Uv, U5, Vi, Uw, Vn, Y4, Vo, Ua, V1, U4, Vr, Uc, Vt, Vm, Uk, V2, U2, Vs, Jx, Y9, Y5, Un, Ye, Ud, Vk, Vq, Vg, V0, Jz, Vl, Vw, Ur, Uh, Vb, Vp, Vz, V6, Ve, Y3, Uu, Ui, Y6, Uf, Vv, Vy, Yb, Yd, U7, Ut, Uj, U1, Vc, Vf, Jy, Ub, U3, V7, Ux, V5, Ul, U0, Y1, Uy, U6, Y0, Uo, Y2, Jr, J9, G3, Jv, Jj, Gk, Gm, G0, Gj, J0, Jn, Gf, G2, Ge, x114, .slice (some ⟨bl, 0, none⟩) 4 4, .int .i64 ((ki : Nat) : Int), .pointer (some ⟨bl, ki * 4, none⟩), .agg #[.bool sI, .slice aI mI cI, .bool tI, .slice dI iI jI], .slice (some ⟨bl, 0, none⟩) 4 4, .int .i64 ((kk : Nat) : Int), .pointer (some ⟨bl, kk * 4, none⟩), .agg #[.bool sK, .slice aK mK cK, .bool tK, .slice dK iK jK], x123, .agg #[.bool sv124, .slice av124 mv124 cv124, .bool tv124, .slice dv124 iv124 jv124], .int .i64 R.1, Jb, Gw, Gn, Jp, G9, Gz, Gx, J8, G5, Gh, Gq, Jt, G8, J2, Jl, Jg, G7, J3, Ja, Jo, Ji, Gy, Gd, J4, Gc, Gs, Gg, Gi, Gb, Gr, Go, Je, Jw, G1, Ju, J5, Jq, Gv, Gl, Jm, Js, Gt, Jd], dd⟩ X) :
  (Code.region 19 opsLS19 true).wp Tryz.prog Q ⟨#[u0, u1, u2, u3, u4, .slice (some ⟨bl, 0, none⟩) 4 4, .int .i64 ((ki : Nat) : Int), .int .i64 ((kk : Nat) : Int), u8, u9, U8, V3, Vj, V9, Uz, Vh, Yc, Ya, Vd, Vx, V4, U9, Us, Va, Um, Vu, Y7, V8, Up, Y8, Ue, Uq, Ug, Uv, U5, Vi, Uw, Vn, Y4, Vo, Ua, V1, U4, Vr, Uc, Vt, Vm, Uk, V2, U2, Vs, Jx, Y9, Y5, Un, Ye, Ud, Vk, Vq, Vg, V0, Jz, Vl, Vw, Ur, Uh, Vb, Vp, Vz, V6, Ve, Y3, Uu, Ui, Y6, Uf, Vv, Vy, Yb, Yd, U7, Ut, Uj, U1, Vc, Vf, Jy, Ub, U3, V7, Ux, V5, Ul, U0, Y1, Uy, U6, Y0, Uo, Y2, Jr, J9, G3, Jv, Jj, Gk, Gm, G0, Gj, J0, Jn, Gf, G2, Ge, Ga, Jh, Jk, J7, G4, Gu, G6, Gp, Jf, J6, Jc, J1, Jb, Gw, Gn, Jp, G9, Gz, Gx, J8, G5, Gh, Gq, Jt, G8, J2, Jl, Jg, G7, J3, Ja, Jo, Ji, Gy, Gd, J4, Gc, Gs, Gg, Gi, Gb, Gr, Go, Je, Jw, G1, Ju, J5, Jq, Gv, Gl, Jm, Js, Gt, Jd], dd⟩ W0 := by
 refine region_ops (P := Tryz.prog) (ops := opsLS19) (W0 := W0) (dd := dd) (k := 13) (T := 2) (E := [0, 1, 2, 4, 5, 6, 9, 10, 11]) (C := [3, 7, 8, 12]) (S := (fun _ => True)) (K := getK [KX (.slice (some ⟨bl, 0, none⟩) 4 4), KX (.int .i64 ((ki : Nat) : Int)), KX (.pointer (some ⟨bl, ki * 4, none⟩)), KX (.agg #[.bool sI, .slice aI mI cI, .bool tI, .slice dI iI jI]), KX (.slice (some ⟨bl, 0, none⟩) 4 4), KX (.int .i64 ((kk : Nat) : Int)), KX (.pointer (some ⟨bl, kk * 4, none⟩)), KX (.agg #[.bool sK, .slice aK mK cK, .bool tK, .slice dK iK jK]), KTR R, KTR R, KR R.2.1 R.2.2, KX (.int .i64 R.1), KA W0.heap.size 26 [.bool false, .slice none 0 0, .bool false, .slice none 0 0]]) (tm := (fun x => #[u0, u1, u2, u3, u4, .slice (some ⟨bl, 0, none⟩) 4 4, .int .i64 ((ki : Nat) : Int), .int .i64 ((kk : Nat) : Int), u8, u9, U8, V3, Vj, V9, Uz, Vh, Yc, Ya, Vd, Vx, V4, U9, Us, Va, x 12, Vu, Y7, V8, Up, Y8, Ue, Uq, Ug, Uv, U5, Vi, Uw, Vn, Y4, Vo, Ua, V1, U4, Vr, Uc, Vt, Vm, Uk, V2, U2, Vs, Jx, Y9, Y5, Un, Ye, Ud, Vk, Vq, Vg, V0, Jz, Vl, Vw, Ur, Uh, Vb, Vp, Vz, V6, Ve, Y3, Uu, Ui, Y6, Uf, Vv, Vy, Yb, Yd, U7, Ut, Uj, U1, Vc, Vf, Jy, Ub, U3, V7, Ux, V5, Ul, U0, Y1, Uy, U6, Y0, Uo, Y2, Jr, J9, G3, Jv, Jj, Gk, Gm, G0, Gj, J0, Jn, Gf, G2, Ge, x 9, x 0, x 1, x 2, x 3, x 4, x 5, x 6, x 7, x 8, x 10, x 11, Jb, Gw, Gn, Jp, G9, Gz, Gx, J8, G5, Gh, Gq, Jt, G8, J2, Jl, Jg, G7, J3, Ja, Jo, Ji, Gy, Gd, J4, Gc, Gs, Gg, Gi, Gb, Gr, Go, Je, Jw, G1, Ju, J5, Jq, Gv, Gl, Jm, Js, Gt, Jd])) (getV [Jh, Jk, J7, G4, Gu, G6, Gp, Jf, J6, Ga, Jc, J1, Um]) (by kernel_rfl) (by rfl) (by kernel_rfl) (by kernel_rfl) (by kernel_rfl) (by kernel_rfl) (by kernel_rfl) hQ (fun _ _ => trivial) (getK_mono ⟨m_x, m_x, m_x, m_x, m_x, m_x, m_x, m_x, m_tr, m_tr, m_r, m_x, m_a, trivial⟩) ?eager ?call ?fin
 case eager =>
  intro i hi
  simp only [List.mem_cons, List.not_mem_nil, or_false] at hi
  rcases hi with rfl | rfl | rfl | rfl | rfl | rfl | rfl | rfl | rfl
  ·intro x w hB hd
   clear hd
   refine ⟨oLS190, (.slice (some ⟨bl, 0, none⟩) 4 4), rfl, ?_, rfl, (by first | rfl | simp [Act.put, upd])⟩
   refine Or.inl ⟨by rfl, fun _ _ => ?_⟩
   unfold oLS190
   go_simp
   try with_reducible rfl
  ·intro x w hB hd
   clear hd
   refine ⟨oLS191, (.int .i64 ((ki : Nat) : Int)), rfl, ?_, rfl, (by first | rfl | simp [Act.put, upd])⟩
   refine Or.inl ⟨by rfl, fun _ _ => ?_⟩
   unfold oLS191
   go_simp
   try with_reducible rfl
  ·intro x w hB hd
   obtain ⟨k0, k1, -⟩ := deps_k (ds := [0, 1]) (by kernel_rfl) hd
   clear hd
   have e0 : x 0 = .slice (some ⟨bl, 0, none⟩) 4 4 := k0
   have e1 : x 1 = .int .i64 ((ki : Nat) : Int) := k1
   refine ⟨oLS192, (.pointer (some ⟨bl, ki * 4, none⟩)), rfl, ?_, rfl, (by first | rfl | simp [Act.put, upd])⟩
   rw [e0]
   rw [e1]
   refine Or.inl ⟨by rfl, fun _ _ => ?_⟩
   unfold oLS192
   go_simp
   try with_reducible rfl
  ·intro x w hB hd
   clear hd
   refine ⟨oLS194, (.slice (some ⟨bl, 0, none⟩) 4 4), rfl, ?_, rfl, (by first | rfl | simp [Act.put, upd])⟩
   refine Or.inl ⟨by rfl, fun _ _ => ?_⟩
   unfold oLS194
   go_simp
   try with_reducible rfl
  ·intro x w hB hd
   clear hd
   refine ⟨oLS195, (.int .i64 ((kk : Nat) : Int)), rfl, ?_, rfl, (by first | rfl | simp [Act.put, upd])⟩
   refine Or.inl ⟨by rfl, fun _ _ => ?_⟩
   unfold oLS195
   go_simp
   try with_reducible rfl
  ·intro x w hB hd
   obtain ⟨k4, k5, -⟩ := deps_k (ds := [4, 5]) (by kernel_rfl) hd
   clear hd
   have e4 : x 4 = .slice (some ⟨bl, 0, none⟩) 4 4 := k4
   have e5 : x 5 = .int .i64 ((kk : Nat) : Int) := k5
   refine ⟨oLS196, (.pointer (some ⟨bl, kk * 4, none⟩)), rfl, ?_, rfl, (by first | rfl | simp [Act.put, upd])⟩
   rw [e4]
   rw [e5]
   refine Or.inl ⟨by rfl, fun _ _ => ?_⟩
   unfold oLS196
   go_simp
   try with_reducible rfl
  ·intro x w hB hd
   obtain ⟨k8, -⟩ := deps_k (ds := [8]) (by kernel_rfl) hd
   clear hd
   refine ⟨oLS199, (x 8), rfl, ?_, k8, (by first | rfl | simp [Act.put, upd])⟩
   refine Or.inl ⟨by rfl, fun _ _ => ?_⟩
   unfold oLS199
   go_simp
   try with_reducible rfl
  ·intro x w hB hd
   obtain ⟨k9, -⟩ := deps_k (ds := [9]) (by kernel_rfl) hd
   clear hd
   obtain ⟨y9, e9, hy9⟩ : KTR R w (x 9) := k9
   refine ⟨oLS1910, y9, rfl, ?_, hy9, (by first | rfl | simp [Act.put, upd])⟩
   rw [e9]
   refine Or.inl ⟨by rfl, fun _ _ => ?_⟩
   unfold oLS1910
   go_simp
   try with_reducible rfl
  ·intro x w hB hd
   obtain ⟨k9, -⟩ := deps_k (ds := [9]) (by kernel_rfl) hd
   clear hd
   obtain ⟨y9, e9, hy9⟩ : KTR R w (x 9) := k9
   refine ⟨oLS1911, (.int .i64 R.1), rfl, ?_, rfl, (by first | rfl | simp [Act.put, upd])⟩
   rw [e9]
   refine Or.inl ⟨by rfl, fun _ _ => ?_⟩
   unfold oLS1911
   go_simp
   try with_reducible rfl
 case call =>
  intro i hi
  simp only [List.mem_cons, List.not_mem_nil, or_false] at hi
  rcases hi with rfl | rfl | rfl | rfl
  ·intro x w hB hd
   obtain ⟨k2, -⟩ := deps_k (ds := [2]) (by kernel_rfl) hd
   clear hd
   have e2 : x 2 = .pointer (some ⟨bl, ki * 4, none⟩) := k2
   have hLD := LD.out w hB
   obtain ⟨f0, f1, f2, f3, f4, f5, f6, f7⟩ := hLD
   refine wpOp_shut (o := oLS193) rfl (fun K' hK => ?_)
   unfold oLS193
   rw [e2]
   go_simp
   exact hK.out _ _ ⟨_, (by first | rfl | simp [upd, e2]), Below.refl _ _, rfl⟩
  ·intro x w hB hd
   obtain ⟨k6, -⟩ := deps_k (ds := [6]) (by kernel_rfl) hd
   clear hd
   have e6 : x 6 = .pointer (some ⟨bl, kk * 4, none⟩) := k6
   have hLD := LD.out w hB
   obtain ⟨f0, f1, f2, f3, f4, f5, f6, f7⟩ := hLD
   refine wpOp_shut (o := oLS197) rfl (fun K' hK => ?_)
   unfold oLS197
   rw [e6]
   go_simp
   exact hK.out _ _ ⟨_, (by first | rfl | simp [upd, e6]), Below.refl _ _, rfl⟩
  ·intro x w hB hd
   obtain ⟨k3, k7, -⟩ := deps_k (ds := [3, 7]) (by kernel_rfl) hd
   clear hd
   have e3 : x 3 = .agg #[.bool sI, .slice aI mI cI, .bool tI, .slice dI iI jI] := k3
   have e7 : x 7 = .agg #[.bool sK, .slice aK mK cK, .bool tK, .slice dK iK jK] := k7
   have HC := C123.out w hB
   unfold VEnd at HC
   have HC := Lib.hid HC
   refine wpOp_shut (o := oLS198) rfl (fun K' hK => ?_)
   unfold oLS198
   rw [e3]
   rw [e7]
   go_simp
   go_at_call 27
   refine HC.out.mono ?_
   rintro e w5 ⟨v5, rfl, hk5, hb5⟩
   clear HC
   go_wp2_with fail
   exact hK.out _ _ ⟨v5, (by first | rfl | simp [upd, e3, e7]), hb5, hk5⟩
  ·intro x w hB hd
   clear hd
   refine wpOp_shut (o := oLS1912) rfl (fun K' hK => ?_)
   unfold oLS1912
   go_simp
   exact hK.out _ _ ⟨_, (by first | rfl | simp [Act.put, upd]), below_one w (.cells #[.bool false, .slice none 0 0, .bool false, .slice none 0 0] 26), ka_new 26 [.bool false, .slice none 0 0, .bool false, .slice none 0 0] hB.size⟩
 case fin =>
  intro x w hB H
  have e0 : x 0 = .slice (some ⟨bl, 0, none⟩) 4 4 := H 0 (by decide)
  have e1 : x 1 = .int .i64 ((ki : Nat) : Int) := H 1 (by decide)
  have e2 : x 2 = .pointer (some ⟨bl, ki * 4, none⟩) := H 2 (by decide)
  have e3 : x 3 = .agg #[.bool sI, .slice aI mI cI, .bool tI, .slice dI iI jI] := H 3 (by decide)
  have e4 : x 4 = .slice (some ⟨bl, 0, none⟩) 4 4 := H 4 (by decide)
  have e5 : x 5 = .int .i64 ((kk : Nat) : Int) := H 5 (by decide)
  have e6 : x 6 = .pointer (some ⟨bl, kk * 4, none⟩) := H 6 (by decide)
  have e7 : x 7 = .agg #[.bool sK, .slice aK mK cK, .bool tK, .slice dK iK jK] := H 7 (by decide)
  have k123 : KTR R w (x 8) := H 8 (by decide)
  have k114 : KTR R w (x 9) := H 9 (by decide)
  have k124 : KR R.2.1 R.2.2 w (x 10) := H 10 (by decide)
  obtain ⟨sv124, tv124, av124, dv124, mv124, iv124, cv124, jv124, e10⟩ := rf_shape k124
  rw [e10] at k124
  have e11 : x 11 = .int .i64 R.1 := H 11 (by decide)
  obtain ⟨t24, e12, L24, l24⟩ : KA W0.heap.size 26 [.bool false, .slice none 0 0, .bool false, .slice none 0 0] w (x 12) := H 12 (by decide)
  clear H
  show wpAnyH _ _ _ _ _ 2 #[true, true, true, true, true, true, true, true, true, true, true, true, true, false, false] ⟨#[u0, u1, u2, u3, u4, .slice (some ⟨bl, 0, none⟩) 4 4, .int .i64 ((ki : Nat) : Int), .int .i64 ((kk : Nat) : Int), u8, u9, U8, V3, Vj, V9, Uz, Vh, Yc, Ya, Vd, Vx, V4, U9, Us, Va, x 12, Vu, Y7, V8, Up, Y8, Ue, Uq, Ug, Uv, U5, Vi, Uw, Vn, Y4, Vo, Ua, V1, U4, Vr, Uc, Vt, Vm, Uk, V2, U2, Vs, Jx, Y9, Y5, Un, Ye, Ud, Vk, Vq, Vg, V0, Jz, Vl, Vw, Ur, Uh, Vb, Vp, Vz, V6, Ve, Y3, Uu, Ui, Y6, Uf, Vv, Vy, Yb, Yd, U7, Ut, Uj, U1, Vc, Vf, Jy, Ub, U3, V7, Ux, V5, Ul, U0, Y1, Uy, U6, Y0, Uo, Y2, Jr, J9, G3, Jv, Jj, Gk, Gm, G0, Gj, J0, Jn, Gf, G2, Ge, x 9, x 0, x 1, x 2, x 3, x 4, x 5, x 6, x 7, x 8, x 10, x 11, Jb, Gw, Gn, Jp, G9, Gz, Gx, J8, G5, Gh, Gq, Jt, G8, J2, Jl, Jg, G7, J3, Ja, Jo, Ji, Gy, Gd, J4, Gc, Gs, Gg, Gi, Gb, Gr, Go, Je, Jw, G1, Ju, J5, Jq, Gv, Gl, Jm, Js, Gt, Jd], dd⟩ _
  rw [e0]
  clear e0
  rw [e1]
  clear e1
  rw [e2]
  clear e2
  rw [e3]
  clear e3
  rw [e4]
  clear e4
  rw [e5]
  clear e5
  rw [e6]
  clear e6
  rw [e7]
  clear e7
  generalize x 8 = x123 at *
  generalize x 9 = x114 at *
  rw [e10]
  clear e10
  rw [e11]
  clear e11
  rw [e12]
  clear e12
  obtain ⟨⟨r0, r1, r2, r3⟩, r4, r5, r6, r7⟩ := cellsF l24
  refine wpAnyH_ready (rs := [13]) (by kernel_rfl) (by simp) (AllReadyH.cons (o := oLS1913) rfl (fun K hK => ?_) AllReadyH.nil)
  unfold oLS1913
  go_simp
  refine hK.out _ _ trivial (fun hHeld => ?_)
  clear r0 r1 r2 r3 r4 r5 r6 r7
  clear hK K
  try simp only [List.setIfInBounds_toArray, List.set_cons_zero, List.set_cons_succ]
  refine wpAnyH_ready (rs := [14]) (by kernel_rfl) (by simp) (AllReadyH.cons (o := oLS1914) rfl (fun K hK => ?_) AllReadyH.nil)
  unfold oLS1914
  go_simp
  refine hK.out _ _ trivial (fun hHeld => ?_)
  clear hK K
  try simp only [List.setIfInBounds_toArray, List.set_cons_zero, List.set_cons_succ]
  refine wpAnyH_done (by kernel_rfl) ?_ _
  exact leaf _ _ _ _ _ _ _ _ _ _ _ _ (Lib.hid (below_set4 hB L24)) L24 (Lib.hid (RBox.store l24 k124))
end Go.Proofs.YtajehlgclnocoaaGreatDoor
