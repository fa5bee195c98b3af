/-
 Laws of drawn regions: the laws of package frac (genRsb.py makes this text).
-/
import Derived.Test.YtajehlgclnocoaaGreatDoorRgAB
namespace Go.Proofs.YtajehlgclnocoaaGreatDoor
open Go.RowKit Go.Shelf
set_option linter.unusedVariables false
set_option maxRecDepth 100000
def oLB50 : Oper := ⟨some 52, Op.load 24 (.tmp 7), 24, "law.go:106", #[], none⟩
def oLB51 : Oper := ⟨some 53, Op.call ⟨.value (.func 32), #[.const (.int .i64 1)], #[3]⟩, 24, "law.go:106", #[], none⟩
def oLB52 : Oper := ⟨some 54, Op.call ⟨.value (.func 38), #[.tmp 52, .tmp 53], #[24, 24]⟩, 40, "law.go:106", #[⟨0, .data⟩, ⟨1, .data⟩, ⟨1, .chain⟩], none⟩
def oLB53 : Oper := ⟨some 51, Op.move (.tmp 54), 40, "law.go:106", #[⟨2, .data⟩], none⟩
def oLB54 : Oper := ⟨some 55, Op.extract (.tmp 51) 0, 26, "law.go:106", #[⟨3, .data⟩], none⟩
def oLB55 : Oper := ⟨some 56, Op.extract (.tmp 51) 1, 37, "law.go:106", #[⟨3, .data⟩, ⟨7, .gcOnly .lateStores⟩], none⟩
def oLB56 : Oper := ⟨some 10, Op.alloc 26, 0, "law.go:106", #[], none⟩
def oLB57 : Oper := ⟨none, Op.store 26 (.tmp 10) (.tmp 55), 0, "law.go:106", #[⟨6, .data⟩, ⟨4, .data⟩, ⟨2, .chain⟩, ⟨0, .phase⟩, ⟨1, .phase⟩, ⟨2, .phase⟩, ⟨3, .phase⟩, ⟨4, .phase⟩, ⟨5, .textOnly .lateStores⟩, ⟨6, .phase⟩], none⟩
def oLB58 : Oper := ⟨some 11, Op.assign (.tmp 56), 37, "law.go:106", #[⟨5, .data⟩, ⟨7, .chain⟩, ⟨0, .phase⟩, ⟨1, .phase⟩, ⟨2, .phase⟩, ⟨3, .phase⟩, ⟨4, .phase⟩, ⟨5, .phase⟩, ⟨6, .phase⟩, ⟨7, .phase⟩], none⟩
def opsLB5 : Array Oper := #[oLB50, oLB51, oLB52, oLB53, oLB54, oLB55, oLB56, oLB57, oLB58]
set_option maxHeartbeats 8000000 in
theorem regLB5 {Q : Exit → Act → World → Prop} (hQ : ∀ c a d v w, Q (.panic c) (Act.put a d v) w → Q (.panic c) a w) {W0 : World} {dd : List Deferred} {u0 u1 u2 u3 u4 u5 u6 u8 u9 Vg Vd Vv Z2 Ur V3 Yw Yj Yt Va Uo Yr V4 Ym V0 Vw Y5 Yo Vo V1 Ye Ys Vi Vl Uz Us Yq Vj Yk Yb Vq Yl Y4 Yz Ve Vp V2 Yn Y9 Vb Z5 Y6 Uu Yx Vc Vx Vs V5 Uv Uw Vn Uy Z3 Yd Ya Y3 Yh Y1 V8 Yc Vh Y2 V7 Z4 Yf Up Vf Y0 Vr V6 Vk Yy Yu Vu Ut Vy Yg Uq Z0 Yp Z1 Vz Y7 Vt Yi Yv Ux Y8 V9 Vm Ju Jk G7 Uj U4 U1 J3 Je Jw Jn Ge Jj Go Gk G5 Jf U3 Gj Jg G3 Jp Jy Uf Gu Jm J6 J7 G8 Ub J9 Gq Ul Jd Gn J8 G9 Gl Ja U9 Gx Gv Gy Jv U8 Jc G6 Jb G1 Jl Ga Ui Uc Gf J2 J1 Jt Jx Um J4 Ua Gt U2 Gg Gz Un Ue Gr U7 Uh Jh J0 J5 Ud Jz Gp Ji Jr Gh G4 Jq Gi Gm Js Ug Jo U5 Gb Gs U0 Gw Gc G0 G2 Gd Uk U6 : Value} {b7 : Nat} {s7 : Bool} {a7 : Option Addr} {m7 c7 : Nat} {z53 : Int} {R : Int × Int × Int}
  (LD : Hid (∀ X : World, Below W0.heap.size W0 X → X.cell? ⟨b7, 0, none⟩ = some (.bool s7) ∧ X.cell? ⟨b7, 1, none⟩ = some (.slice a7 m7 c7)))
  (C53 : Hid (∀ X, Below W0.heap.size W0 X → Calls Tryz.prog 32 #[.int .i64 1] X (VEnd (KN z53) X)))
  (C54 : Hid (∀ X x53, Below W0.heap.size W0 X → KN z53 X x53 → Calls Tryz.prog 38 #[.agg #[.bool s7, .slice a7 m7 c7], x53] X (VEnd (KTR R) X)))
  (leaf : ∀ (X : World) (x53 : Value) (x54 : Value) (x51 : Value) (sv55 tv55 : Bool) (av55 dv55 : Option Addr) (mv55 iv55 cv55 jv55 : Nat) (t10 : Nat), Hid (Below W0.heap.size W0 X) → W0.heap.size ≤ t10 → Hid (RBox X t10 R.2.1 R.2.2) → Q .normal ⟨#[u0, u1, u2, u3, u4, u5, u6, .pointer (some ⟨b7, 0, none⟩), u8, u9, .pointer (some ⟨t10, 0, none⟩), .int .i64 R.1, Vv, Z2, Ur, V3, Yw, Yj, Yt, Va, Uo, Yr, V4, Ym, V0, Vw, Y5, Yo, Vo, V1, Ye, Ys, Vi, Vl, Uz, Us, Yq, Vj, Yk, Yb, Vq, Yl, Y4, Yz, Ve, Vp, V2, Yn, Y9, Vb, Z5, x51, .agg #[.bool s7, .slice a7 m7 c7], x53, x54, .agg #[.bool sv55, .slice av55 mv55 cv55, .bool tv55, .slice dv55 iv55 jv55], .int .i64 R.1, V5, Uv, Uw, Vn, Uy, Z3, Yd, Ya, Y3, Yh, Y1, V8, Yc, Vh, Y2, V7, Z4, Yf, Up, Vf, Y0, Vr, V6, Vk, Yy, Yu, Vu, Ut, Vy, Yg, Uq, Z0, Yp, Z1, Vz, Y7, Vt, Yi, Yv, Ux, Y8, V9, Vm, Ju, Jk, G7, Uj, U4, U1, J3, Je, Jw, Jn, Ge, Jj, Go, Gk, G5, Jf, U3, Gj, Jg, G3, Jp, Jy, Uf, Gu, Jm, J6, J7, G8, Ub, J9, Gq, Ul, Jd, Gn, J8, G9, Gl, Ja, U9, Gx, Gv, Gy, Jv, U8, Jc, G6, Jb, G1, Jl, Ga, Ui, Uc, Gf, J2, J1, Jt, Jx, Um, J4, Ua, Gt, U2, Gg, Gz, Un, Ue, Gr, U7, Uh, Jh, J0, J5, Ud, Jz, Gp, Ji, Jr, Gh, G4, Jq, Gi, Gm, Js, Ug, Jo, U5, Gb, Gs, U0, Gw, Gc, G0, G2, Gd, Uk, U6], dd⟩ X) :
  (Code.region 5 opsLB5 true).wp Tryz.prog Q ⟨#[u0, u1, u2, u3, u4, u5, u6, .pointer (some ⟨b7, 0, none⟩), u8, u9, Vg, Vd, Vv, Z2, Ur, V3, Yw, Yj, Yt, Va, Uo, Yr, V4, Ym, V0, Vw, Y5, Yo, Vo, V1, Ye, Ys, Vi, Vl, Uz, Us, Yq, Vj, Yk, Yb, Vq, Yl, Y4, Yz, Ve, Vp, V2, Yn, Y9, Vb, Z5, Y6, Uu, Yx, Vc, Vx, Vs, V5, Uv, Uw, Vn, Uy, Z3, Yd, Ya, Y3, Yh, Y1, V8, Yc, Vh, Y2, V7, Z4, Yf, Up, Vf, Y0, Vr, V6, Vk, Yy, Yu, Vu, Ut, Vy, Yg, Uq, Z0, Yp, Z1, Vz, Y7, Vt, Yi, Yv, Ux, Y8, V9, Vm, Ju, Jk, G7, Uj, U4, U1, J3, Je, Jw, Jn, Ge, Jj, Go, Gk, G5, Jf, U3, Gj, Jg, G3, Jp, Jy, Uf, Gu, Jm, J6, J7, G8, Ub, J9, Gq, Ul, Jd, Gn, J8, G9, Gl, Ja, U9, Gx, Gv, Gy, Jv, U8, Jc, G6, Jb, G1, Jl, Ga, Ui, Uc, Gf, J2, J1, Jt, Jx, Um, J4, Ua, Gt, U2, Gg, Gz, Un, Ue, Gr, U7, Uh, Jh, J0, J5, Ud, Jz, Gp, Ji, Jr, Gh, G4, Jq, Gi, Gm, Js, Ug, Jo, U5, Gb, Gs, U0, Gw, Gc, G0, G2, Gd, Uk, U6], dd⟩ W0 := by
 refine region_ops (P := Tryz.prog) (ops := opsLB5) (W0 := W0) (dd := dd) (k := 7) (T := 2) (E := [3, 4, 5]) (C := [0, 1, 2, 6]) (S := (fun _ => True)) (K := getK [KX (.agg #[.bool s7, .slice a7 m7 c7]), KN z53, KTR R, KTR R, KR R.2.1 R.2.2, KX (.int .i64 R.1), KA W0.heap.size 26 [.bool false, .slice none 0 0, .bool false, .slice none 0 0]]) (tm := (fun x => #[u0, u1, u2, u3, u4, u5, u6, .pointer (some ⟨b7, 0, none⟩), u8, u9, x 6, Vd, Vv, Z2, Ur, V3, Yw, Yj, Yt, Va, Uo, Yr, V4, Ym, V0, Vw, Y5, Yo, Vo, V1, Ye, Ys, Vi, Vl, Uz, Us, Yq, Vj, Yk, Yb, Vq, Yl, Y4, Yz, Ve, Vp, V2, Yn, Y9, Vb, Z5, x 3, x 0, x 1, x 2, x 4, x 5, V5, Uv, Uw, Vn, Uy, Z3, Yd, Ya, Y3, Yh, Y1, V8, Yc, Vh, Y2, V7, Z4, Yf, Up, Vf, Y0, Vr, V6, Vk, Yy, Yu, Vu, Ut, Vy, Yg, Uq, Z0, Yp, Z1, Vz, Y7, Vt, Yi, Yv, Ux, Y8, V9, Vm, Ju, Jk, G7, Uj, U4, U1, J3, Je, Jw, Jn, Ge, Jj, Go, Gk, G5, Jf, U3, Gj, Jg, G3, Jp, Jy, Uf, Gu, Jm, J6, J7, G8, Ub, J9, Gq, Ul, Jd, Gn, J8, G9, Gl, Ja, U9, Gx, Gv, Gy, Jv, U8, Jc, G6, Jb, G1, Jl, Ga, Ui, Uc, Gf, J2, J1, Jt, Jx, Um, J4, Ua, Gt, U2, Gg, Gz, Un, Ue, Gr, U7, Uh, Jh, J0, J5, Ud, Jz, Gp, Ji, Jr, Gh, G4, Jq, Gi, Gm, Js, Ug, Jo, U5, Gb, Gs, U0, Gw, Gc, G0, G2, Gd, Uk, U6])) (getV [Uu, Yx, Vc, Y6, Vx, Vs, Vg]) (by kernel_rfl) (by rfl) (by kernel_rfl) (by kernel_rfl) (by kernel_rfl) (by kernel_rfl) (by kernel_rfl) hQ (fun _ _ => trivial) (getK_mono ⟨m_x, m_n, m_tr, m_tr, m_r, m_x, m_a, trivial⟩) ?eager ?call ?fin
 case eager =>
  intro i hi
  simp only [List.mem_cons, List.not_mem_nil, or_false] at hi
  rcases hi with rfl | rfl | rfl
  ·intro x w hB hd
   obtain ⟨k2, -⟩ := deps_k (ds := [2]) (by kernel_rfl) hd
   clear hd
   refine ⟨oLB53, (x 2), rfl, ?_, k2, (by first | rfl | simp [Act.put, upd])⟩
   refine Or.inl ⟨by rfl, fun _ _ => ?_⟩
   unfold oLB53
   go_simp
   try with_reducible rfl
  ·intro x w hB hd
   obtain ⟨k3, -⟩ := deps_k (ds := [3]) (by kernel_rfl) hd
   clear hd
   obtain ⟨y3, e3, hy3⟩ : KTR R w (x 3) := k3
   refine ⟨oLB54, y3, rfl, ?_, hy3, (by first | rfl | simp [Act.put, upd])⟩
   rw [e3]
   refine Or.inl ⟨by rfl, fun _ _ => ?_⟩
   unfold oLB54
   go_simp
   try with_reducible rfl
  ·intro x w hB hd
   obtain ⟨k3, -⟩ := deps_k (ds := [3]) (by kernel_rfl) hd
   clear hd
   obtain ⟨y3, e3, hy3⟩ : KTR R w (x 3) := k3
   refine ⟨oLB55, (.int .i64 R.1), rfl, ?_, rfl, (by first | rfl | simp [Act.put, upd])⟩
   rw [e3]
   refine Or.inl ⟨by rfl, fun _ _ => ?_⟩
   unfold oLB55
   go_simp
   try with_reducible rfl
 case call =>
  intro i hi
  simp only [List.mem_cons, List.not_mem_nil, or_false] at hi
  rcases hi with rfl | rfl | rfl | rfl
  ·intro x w hB hd
   clear hd
   have hLD := LD.out w hB
   obtain ⟨f0, f1⟩ := hLD
   refine wpOp_shut (o := oLB50) rfl (fun K' hK => ?_)
   unfold oLB50
   go_simp
   exact hK.out _ _ ⟨_, (by first | rfl | simp [upd]), Below.refl _ _, rfl⟩
  ·intro x w hB hd
   clear hd
   have HC := C53.out w hB
   unfold VEnd at HC
   have HC := Lib.hid HC
   refine wpOp_shut (o := oLB51) rfl (fun K' hK => ?_)
   unfold oLB51
   go_simp
   go_at_call 32
   refine HC.out.mono ?_
   rintro e w5 ⟨v5, rfl, hk5, hb5⟩
   clear HC
   go_wp2_with fail
   exact hK.out _ _ ⟨v5, (by first | rfl | simp [upd]), hb5, hk5⟩
  ·intro x w hB hd
   obtain ⟨k0, k1, k1, -⟩ := deps_k (ds := [0, 1, 1]) (by kernel_rfl) hd
   clear hd
   have e0 : x 0 = .agg #[.bool s7, .slice a7 m7 c7] := k0
   have HC := C54.out w _ hB k1
   unfold VEnd at HC
   have HC := Lib.hid HC
   refine wpOp_shut (o := oLB52) rfl (fun K' hK => ?_)
   unfold oLB52
   rw [e0]
   go_simp
   go_at_call 38
   refine HC.out.mono ?_
   rintro e w5 ⟨v5, rfl, hk5, hb5⟩
   clear HC
   go_wp2_with fail
   exact hK.out _ _ ⟨v5, (by first | rfl | simp [upd, e0]), hb5, hk5⟩
  ·intro x w hB hd
   clear hd
   refine wpOp_shut (o := oLB56) rfl (fun K' hK => ?_)
   unfold oLB56
   go_simp
   exact hK.out _ _ ⟨_, (by first | rfl | simp [Act.put, upd]), below_one w (.cells #[.bool false, .slice none 0 0, .bool false, .slice none 0 0] 26), ka_new 26 [.bool false, .slice none 0 0, .bool false, .slice none 0 0] hB.size⟩
 case fin =>
  intro x w hB H
  have e0 : x 0 = .agg #[.bool s7, .slice a7 m7 c7] := H 0 (by decide)
  have k53 : KN z53 w (x 1) := H 1 (by decide)
  have k54 : KTR R w (x 2) := H 2 (by decide)
  have k51 : KTR R w (x 3) := H 3 (by decide)
  have k55 : KR R.2.1 R.2.2 w (x 4) := H 4 (by decide)
  obtain ⟨sv55, tv55, av55, dv55, mv55, iv55, cv55, jv55, e4⟩ := rf_shape k55
  rw [e4] at k55
  have e5 : x 5 = .int .i64 R.1 := H 5 (by decide)
  obtain ⟨t10, e6, L10, l10⟩ : KA W0.heap.size 26 [.bool false, .slice none 0 0, .bool false, .slice none 0 0] w (x 6) := H 6 (by decide)
  clear H
  show wpAnyH _ _ _ _ _ 2 #[true, true, true, true, true, true, true, false, false] ⟨#[u0, u1, u2, u3, u4, u5, u6, .pointer (some ⟨b7, 0, none⟩), u8, u9, x 6, Vd, Vv, Z2, Ur, V3, Yw, Yj, Yt, Va, Uo, Yr, V4, Ym, V0, Vw, Y5, Yo, Vo, V1, Ye, Ys, Vi, Vl, Uz, Us, Yq, Vj, Yk, Yb, Vq, Yl, Y4, Yz, Ve, Vp, V2, Yn, Y9, Vb, Z5, x 3, x 0, x 1, x 2, x 4, x 5, V5, Uv, Uw, Vn, Uy, Z3, Yd, Ya, Y3, Yh, Y1, V8, Yc, Vh, Y2, V7, Z4, Yf, Up, Vf, Y0, Vr, V6, Vk, Yy, Yu, Vu, Ut, Vy, Yg, Uq, Z0, Yp, Z1, Vz, Y7, Vt, Yi, Yv, Ux, Y8, V9, Vm, Ju, Jk, G7, Uj, U4, U1, J3, Je, Jw, Jn, Ge, Jj, Go, Gk, G5, Jf, U3, Gj, Jg, G3, Jp, Jy, Uf, Gu, Jm, J6, J7, G8, Ub, J9, Gq, Ul, Jd, Gn, J8, G9, Gl, Ja, U9, Gx, Gv, Gy, Jv, U8, Jc, G6, Jb, G1, Jl, Ga, Ui, Uc, Gf, J2, J1, Jt, Jx, Um, J4, Ua, Gt, U2, Gg, Gz, Un, Ue, Gr, U7, Uh, Jh, J0, J5, Ud, Jz, Gp, Ji, Jr, Gh, G4, Jq, Gi, Gm, Js, Ug, Jo, U5, Gb, Gs, U0, Gw, Gc, G0, G2, Gd, Uk, U6], dd⟩ _
  rw [e0]
  clear e0
  generalize x 1 = x53 at *
  generalize x 2 = x54 at *
  generalize x 3 = x51 at *
  rw [e4]
  clear e4
  rw [e5]
  clear e5
  rw [e6]
  clear e6
  obtain ⟨⟨r0, r1, r2, r3⟩, r4, r5, r6, r7⟩ := cellsF l10
  refine wpAnyH_ready (rs := [7]) (by kernel_rfl) (by simp) (AllReadyH.cons (o := oLB57) rfl (fun K hK => ?_) AllReadyH.nil)
  unfold oLB57
  go_simp
  refine hK.out _ _ trivial (fun hHeld => ?_)
  clear r0 r1 r2 r3 r4 r5 r6 r7
  clear hK K
  try simp only [List.setIfInBounds_toArray, List.set_cons_zero, List.set_cons_succ]
  refine wpAnyH_ready (rs := [8]) (by kernel_rfl) (by simp) (AllReadyH.cons (o := oLB58) rfl (fun K hK => ?_) AllReadyH.nil)
  unfold oLB58
  go_simp
  refine hK.out _ _ trivial (fun hHeld => ?_)
  clear hK K
  try simp only [List.setIfInBounds_toArray, List.set_cons_zero, List.set_cons_succ]
  refine wpAnyH_done (by kernel_rfl) ?_ _
  exact leaf _ _ _ _ _ _ _ _ _ _ _ _ _ (Lib.hid (below_set4 hB L10)) L10 (Lib.hid (RBox.store l10 k55))
def oLB60 : Oper := ⟨some 58, Op.call ⟨.value (.func 37), #[.const (.int .i64 3)], #[3]⟩, 33, "law.go:107", #[], none⟩
def oLB61 : Oper := ⟨some 59, Op.load 24 (.tmp 7), 24, "law.go:107", #[], none⟩
def oLB62 : Oper := ⟨some 60, Op.call ⟨.value (.func 36), #[.tmp 59], #[24]⟩, 33, "law.go:107", #[⟨1, .data⟩, ⟨0, .chain⟩], none⟩
def oLB63 : Oper := ⟨some 61, Op.call ⟨.value (.func 35), #[.tmp 58, .tmp 60], #[33, 33]⟩, 38, "law.go:107", #[⟨0, .data⟩, ⟨2, .data⟩, ⟨2, .chain⟩], none⟩
def oLB64 : Oper := ⟨some 57, Op.move (.tmp 61), 38, "law.go:107", #[⟨3, .data⟩], none⟩
def oLB65 : Oper := ⟨some 62, Op.extract (.tmp 57) 0, 35, "law.go:107", #[⟨4, .data⟩], none⟩
def oLB66 : Oper := ⟨some 63, Op.extract (.tmp 57) 1, 37, "law.go:107", #[⟨4, .data⟩, ⟨8, .gcOnly .lateStores⟩], none⟩
def oLB67 : Oper := ⟨some 12, Op.alloc 35, 0, "law.go:107", #[], none⟩
def oLB68 : Oper := ⟨none, Op.store 35 (.tmp 12) (.tmp 62), 0, "law.go:107", #[⟨7, .data⟩, ⟨5, .data⟩, ⟨3, .chain⟩, ⟨0, .phase⟩, ⟨1, .phase⟩, ⟨2, .phase⟩, ⟨3, .phase⟩, ⟨4, .phase⟩, ⟨5, .phase⟩, ⟨6, .textOnly .lateStores⟩, ⟨7, .phase⟩], none⟩
def oLB69 : Oper := ⟨some 13, Op.assign (.tmp 63), 37, "law.go:107", #[⟨6, .data⟩, ⟨8, .chain⟩, ⟨0, .phase⟩, ⟨1, .phase⟩, ⟨2, .phase⟩, ⟨3, .phase⟩, ⟨4, .phase⟩, ⟨5, .phase⟩, ⟨6, .phase⟩, ⟨7, .phase⟩, ⟨8, .phase⟩], none⟩
def opsLB6 : Array Oper := #[oLB60, oLB61, oLB62, oLB63, oLB64, oLB65, oLB66, oLB67, oLB68, oLB69]
set_option maxHeartbeats 8000000 in
theorem regLB6 {Q : Exit → Act → World → Prop} (hQ : ∀ c a d v w, Q (.panic c) (Act.put a d v) w → Q (.panic c) a w) {W0 : World} {dd : List Deferred} {u0 u1 u2 u3 u4 u5 u6 u8 u9 Vg Vd Vv Z2 Ur V3 Yw Yj Yt Va Uo Yr V4 Ym V0 Vw Y5 Yo Vo V1 Ye Ys Vi Vl Uz Us Yq Vj Yk Yb Vq Yl Y4 Yz Ve Vp V2 Yn Y9 Vb Z5 Y6 Uu Yx Vc Vx Vs V5 Uv Uw Vn Uy Z3 Yd Ya Y3 Yh Y1 V8 Yc Vh Y2 V7 Z4 Yf Up Vf Y0 Vr V6 Vk Yy Yu Vu Ut Vy Yg Uq Z0 Yp Z1 Vz Y7 Vt Yi Yv Ux Y8 V9 Vm Ju Jk G7 Uj U4 U1 J3 Je Jw Jn Ge Jj Go Gk G5 Jf U3 Gj Jg G3 Jp Jy Uf Gu Jm J6 J7 G8 Ub J9 Gq Ul Jd Gn J8 G9 Gl Ja U9 Gx Gv Gy Jv U8 Jc G6 Jb G1 Jl Ga Ui Uc Gf J2 J1 Jt Jx Um J4 Ua Gt U2 Gg Gz Un Ue Gr U7 Uh Jh J0 J5 Ud Jz Gp Ji Jr Gh G4 Jq Gi Gm Js Ug Jo U5 Gb Gs U0 Gw Gc G0 G2 Gd Uk U6 : Value} {b7 : Nat} {s7 : Bool} {a7 : Option Addr} {m7 c7 : Nat} {z58 z60 : Int} {R : Int × Int × Int}
  (LD : Hid (∀ X : World, Below W0.heap.size W0 X → X.cell? ⟨b7, 0, none⟩ = some (.bool s7) ∧ X.cell? ⟨b7, 1, none⟩ = some (.slice a7 m7 c7)))
  (C58 : Hid (∀ X, Below W0.heap.size W0 X → Calls Tryz.prog 37 #[.int .i64 3] X (VEnd (KI z58) X)))
  (C60 : Hid (∀ X, Below W0.heap.size W0 X → Calls Tryz.prog 36 #[.agg #[.bool s7, .slice a7 m7 c7]] X (VEnd (KI z60) X)))
  (C61 : Hid (∀ X x58 x60, Below W0.heap.size W0 X → KI z58 X x58 → KI z60 X x60 → Calls Tryz.prog 35 #[x58, x60] X (VEnd (KTF R) X)))
  (leaf : ∀ (X : World) (x58 : Value) (x60 : Value) (x61 : Value) (x57 : Value) (sv62 tv62 : Bool) (av62 dv62 : Option Addr) (mv62 iv62 cv62 jv62 : Nat) (t12 : Nat), Hid (Below W0.heap.size W0 X) → W0.heap.size ≤ t12 → Hid (FBox X t12 R.2.1 R.2.2) → Q .normal ⟨#[u0, u1, u2, u3, u4, u5, u6, .pointer (some ⟨b7, 0, none⟩), u8, u9, Vg, Vd, .pointer (some ⟨t12, 0, none⟩), .int .i64 R.1, Ur, V3, Yw, Yj, Yt, Va, Uo, Yr, V4, Ym, V0, Vw, Y5, Yo, Vo, V1, Ye, Ys, Vi, Vl, Uz, Us, Yq, Vj, Yk, Yb, Vq, Yl, Y4, Yz, Ve, Vp, V2, Yn, Y9, Vb, Z5, Y6, Uu, Yx, Vc, Vx, Vs, x57, x58, .agg #[.bool s7, .slice a7 m7 c7], x60, x61, .agg #[.bool sv62, .slice av62 mv62 cv62, .bool tv62, .slice dv62 iv62 jv62], .int .i64 R.1, Ya, Y3, Yh, Y1, V8, Yc, Vh, Y2, V7, Z4, Yf, Up, Vf, Y0, Vr, V6, Vk, Yy, Yu, Vu, Ut, Vy, Yg, Uq, Z0, Yp, Z1, Vz, Y7, Vt, Yi, Yv, Ux, Y8, V9, Vm, Ju, Jk, G7, Uj, U4, U1, J3, Je, Jw, Jn, Ge, Jj, Go, Gk, G5, Jf, U3, Gj, Jg, G3, Jp, Jy, Uf, Gu, Jm, J6, J7, G8, Ub, J9, Gq, Ul, Jd, Gn, J8, G9, Gl, Ja, U9, Gx, Gv, Gy, Jv, U8, Jc, G6, Jb, G1, Jl, Ga, Ui, Uc, Gf, J2, J1, Jt, Jx, Um, J4, Ua, Gt, U2, Gg, Gz, Un, Ue, Gr, U7, Uh, Jh, J0, J5, Ud, Jz, Gp, Ji, Jr, Gh, G4, Jq, Gi, Gm, Js, Ug, Jo, U5, Gb, Gs, U0, Gw, Gc, G0, G2, Gd, Uk, U6], dd⟩ X) :
  (Code.region 6 opsLB6 true).wp Tryz.prog Q ⟨#[u0, u1, u2, u3, u4, u5, u6, .pointer (some ⟨b7, 0, none⟩), u8, u9, Vg, Vd, Vv, Z2, Ur, V3, Yw, Yj, Yt, Va, Uo, Yr, V4, Ym, V0, Vw, Y5, Yo, Vo, V1, Ye, Ys, Vi, Vl, Uz, Us, Yq, Vj, Yk, Yb, Vq, Yl, Y4, Yz, Ve, Vp, V2, Yn, Y9, Vb, Z5, Y6, Uu, Yx, Vc, Vx, Vs, V5, Uv, Uw, Vn, Uy, Z3, Yd, Ya, Y3, Yh, Y1, V8, Yc, Vh, Y2, V7, Z4, Yf, Up, Vf, Y0, Vr, V6, Vk, Yy, Yu, Vu, Ut, Vy, Yg, Uq, Z0, Yp, Z1, Vz, Y7, Vt, Yi, Yv, Ux, Y8, V9, Vm, Ju, Jk, G7, Uj, U4, U1, J3, Je, Jw, Jn, Ge, Jj, Go, Gk, G5, Jf, U3, Gj, Jg, G3, Jp, Jy, Uf, Gu, Jm, J6, J7, G8, Ub, J9, Gq, Ul, Jd, Gn, J8, G9, Gl, Ja, U9, Gx, Gv, Gy, Jv, U8, Jc, G6, Jb, G1, Jl, Ga, Ui, Uc, Gf, J2, J1, Jt, Jx, Um, J4, Ua, Gt, U2, Gg, Gz, Un, Ue, Gr, U7, Uh, Jh, J0, J5, Ud, Jz, Gp, Ji, Jr, Gh, G4, Jq, Gi, Gm, Js, Ug, Jo, U5, Gb, Gs, U0, Gw, Gc, G0, G2, Gd, Uk, U6], dd⟩ W0 := by
 refine region_ops (P := Tryz.prog) (ops := opsLB6) (W0 := W0) (dd := dd) (k := 8) (T := 2) (E := [4, 5, 6]) (C := [0, 1, 2, 3, 7]) (S := (fun _ => True)) (K := getK [KI z58, KX (.agg #[.bool s7, .slice a7 m7 c7]), KI z60, KTF R, KTF R, KF R.2.1 R.2.2, KX (.int .i64 R.1), KA W0.heap.size 35 [.bool false, .slice none 0 0, .bool false, .slice none 0 0]]) (tm := (fun x => #[u0, u1, u2, u3, u4, u5, u6, .pointer (some ⟨b7, 0, none⟩), u8, u9, Vg, Vd, x 7, Z2, Ur, V3, Yw, Yj, Yt, Va, Uo, Yr, V4, Ym, V0, Vw, Y5, Yo, Vo, V1, Ye, Ys, Vi, Vl, Uz, Us, Yq, Vj, Yk, Yb, Vq, Yl, Y4, Yz, Ve, Vp, V2, Yn, Y9, Vb, Z5, Y6, Uu, Yx, Vc, Vx, Vs, x 4, x 0, x 1, x 2, x 3, x 5, x 6, Ya, Y3, Yh, Y1, V8, Yc, Vh, Y2, V7, Z4, Yf, Up, Vf, Y0, Vr, V6, Vk, Yy, Yu, Vu, Ut, Vy, Yg, Uq, Z0, Yp, Z1, Vz, Y7, Vt, Yi, Yv, Ux, Y8, V9, Vm, Ju, Jk, G7, Uj, U4, U1, J3, Je, Jw, Jn, Ge, Jj, Go, Gk, G5, Jf, U3, Gj, Jg, G3, Jp, Jy, Uf, Gu, Jm, J6, J7, G8, Ub, J9, Gq, Ul, Jd, Gn, J8, G9, Gl, Ja, U9, Gx, Gv, Gy, Jv, U8, Jc, G6, Jb, G1, Jl, Ga, Ui, Uc, Gf, J2, J1, Jt, Jx, Um, J4, Ua, Gt, U2, Gg, Gz, Un, Ue, Gr, U7, Uh, Jh, J0, J5, Ud, Jz, Gp, Ji, Jr, Gh, G4, Jq, Gi, Gm, Js, Ug, Jo, U5, Gb, Gs, U0, Gw, Gc, G0, G2, Gd, Uk, U6])) (getV [Uv, Uw, Vn, Uy, V5, Z3, Yd, Vv]) (by kernel_rfl) (by rfl) (by kernel_rfl) (by kernel_rfl) (by kernel_rfl) (by kernel_rfl) (by kernel_rfl) hQ (fun _ _ => trivial) (getK_mono ⟨m_i, m_x, m_i, m_tf, m_tf, m_f, m_x, m_a, trivial⟩) ?eager ?call ?fin
 case eager =>
  intro i hi
  simp only [List.mem_cons, List.not_mem_nil, or_false] at hi
  rcases hi with rfl | rfl | rfl
  ·intro x w hB hd
   obtain ⟨k3, -⟩ := deps_k (ds := [3]) (by kernel_rfl) hd
   clear hd
   refine ⟨oLB64, (x 3), rfl, ?_, k3, (by first | rfl | simp [Act.put, upd])⟩
   refine Or.inl ⟨by rfl, fun _ _ => ?_⟩
   unfold oLB64
   go_simp
   try with_reducible rfl
  ·intro x w hB hd
   obtain ⟨k4, -⟩ := deps_k (ds := [4]) (by kernel_rfl) hd
   clear hd
   obtain ⟨y4, e4, hy4⟩ : KTF R w (x 4) := k4
   refine ⟨oLB65, y4, rfl, ?_, hy4, (by first | rfl | simp [Act.put, upd])⟩
   rw [e4]
   refine Or.inl ⟨by rfl, fun _ _ => ?_⟩
   unfold oLB65
   go_simp
   try with_reducible rfl
  ·intro x w hB hd
   obtain ⟨k4, -⟩ := deps_k (ds := [4]) (by kernel_rfl) hd
   clear hd
   obtain ⟨y4, e4, hy4⟩ : KTF R w (x 4) := k4
   refine ⟨oLB66, (.int .i64 R.1), rfl, ?_, rfl, (by first | rfl | simp [Act.put, upd])⟩
   rw [e4]
   refine Or.inl ⟨by rfl, fun _ _ => ?_⟩
   unfold oLB66
   go_simp
   try with_reducible rfl
 case call =>
  intro i hi
  simp only [List.mem_cons, List.not_mem_nil, or_false] at hi
  rcases hi with rfl | rfl | rfl | rfl | rfl
  ·intro x w hB hd
   clear hd
   have HC := C58.out w hB
   unfold VEnd at HC
   have HC := Lib.hid HC
   refine wpOp_shut (o := oLB60) rfl (fun K' hK => ?_)
   unfold oLB60
   go_simp
   go_at_call 37
   refine HC.out.mono ?_
   rintro e w5 ⟨v5, rfl, hk5, hb5⟩
   clear HC
   go_wp2_with fail
   exact hK.out _ _ ⟨v5, (by first | rfl | simp [upd]), hb5, hk5⟩
  ·intro x w hB hd
   clear hd
   have hLD := LD.out w hB
   obtain ⟨f0, f1⟩ := hLD
   refine wpOp_shut (o := oLB61) rfl (fun K' hK => ?_)
   unfold oLB61
   go_simp
   exact hK.out _ _ ⟨_, (by first | rfl | simp [upd]), Below.refl _ _, rfl⟩
  ·intro x w hB hd
   obtain ⟨k1, k0, -⟩ := deps_k (ds := [1, 0]) (by kernel_rfl) hd
   clear hd
   have e1 : x 1 = .agg #[.bool s7, .slice a7 m7 c7] := k1
   have HC := C60.out w hB
   unfold VEnd at HC
   have HC := Lib.hid HC
   refine wpOp_shut (o := oLB62) rfl (fun K' hK => ?_)
   unfold oLB62
   rw [e1]
   go_simp
   go_at_call 36
   refine HC.out.mono ?_
   rintro e w5 ⟨v5, rfl, hk5, hb5⟩
   clear HC
   go_wp2_with fail
   exact hK.out _ _ ⟨v5, (by first | rfl | simp [upd, e1]), hb5, hk5⟩
  ·intro x w hB hd
   obtain ⟨k0, k2, k2, -⟩ := deps_k (ds := [0, 2, 2]) (by kernel_rfl) hd
   clear hd
   have HC := C61.out w _ _ hB k0 k2
   unfold VEnd at HC
   have HC := Lib.hid HC
   refine wpOp_shut (o := oLB63) rfl (fun K' hK => ?_)
   unfold oLB63
   go_simp
   go_at_call 35
   refine HC.out.mono ?_
   rintro e w5 ⟨v5, rfl, hk5, hb5⟩
   clear HC
   go_wp2_with fail
   exact hK.out _ _ ⟨v5, (by first | rfl | simp [upd]), hb5, hk5⟩
  ·intro x w hB hd
   clear hd
   refine wpOp_shut (o := oLB67) rfl (fun K' hK => ?_)
   unfold oLB67
   go_simp
   exact hK.out _ _ ⟨_, (by first | rfl | simp [Act.put, upd]), below_one w (.cells #[.bool false, .slice none 0 0, .bool false, .slice none 0 0] 35), ka_new 35 [.bool false, .slice none 0 0, .bool false, .slice none 0 0] hB.size⟩
 case fin =>
  intro x w hB H
  have k58 : KI z58 w (x 0) := H 0 (by decide)
  have e1 : x 1 = .agg #[.bool s7, .slice a7 m7 c7] := H 1 (by decide)
  have k60 : KI z60 w (x 2) := H 2 (by decide)
  have k61 : KTF R w (x 3) := H 3 (by decide)
  have k57 : KTF R w (x 4) := H 4 (by decide)
  have k62 : KF R.2.1 R.2.2 w (x 5) := H 5 (by decide)
  obtain ⟨sv62, tv62, av62, dv62, mv62, iv62, cv62, jv62, e5⟩ := fat_shape k62
  rw [e5] at k62
  have e6 : x 6 = .int .i64 R.1 := H 6 (by decide)
  obtain ⟨t12, e7, L12, l12⟩ : KA W0.heap.size 35 [.bool false, .slice none 0 0, .bool false, .slice none 0 0] w (x 7) := H 7 (by decide)
  clear H
  show wpAnyH _ _ _ _ _ 2 #[true, true, true, true, true, true, true, true, false, false] ⟨#[u0, u1, u2, u3, u4, u5, u6, .pointer (some ⟨b7, 0, none⟩), u8, u9, Vg, Vd, x 7, Z2, Ur, V3, Yw, Yj, Yt, Va, Uo, Yr, V4, Ym, V0, Vw, Y5, Yo, Vo, V1, Ye, Ys, Vi, Vl, Uz, Us, Yq, Vj, Yk, Yb, Vq, Yl, Y4, Yz, Ve, Vp, V2, Yn, Y9, Vb, Z5, Y6, Uu, Yx, Vc, Vx, Vs, x 4, x 0, x 1, x 2, x 3, x 5, x 6, Ya, Y3, Yh, Y1, V8, Yc, Vh, Y2, V7, Z4, Yf, Up, Vf, Y0, Vr, V6, Vk, Yy, Yu, Vu, Ut, Vy, Yg, Uq, Z0, Yp, Z1, Vz, Y7, Vt, Yi, Yv, Ux, Y8, V9, Vm, Ju, Jk, G7, Uj, U4, U1, J3, Je, Jw, Jn, Ge, Jj, Go, Gk, G5, Jf, U3, Gj, Jg, G3, Jp, Jy, Uf, Gu, Jm, J6, J7, G8, Ub, J9, Gq, Ul, Jd, Gn, J8, G9, Gl, Ja, U9, Gx, Gv, Gy, Jv, U8, Jc, G6, Jb, G1, Jl, Ga, Ui, Uc, Gf, J2, J1, Jt, Jx, Um, J4, Ua, Gt, U2, Gg, Gz, Un, Ue, Gr, U7, Uh, Jh, J0, J5, Ud, Jz, Gp, Ji, Jr, Gh, G4, Jq, Gi, Gm, Js, Ug, Jo, U5, Gb, Gs, U0, Gw, Gc, G0, G2, Gd, Uk, U6], dd⟩ _
  generalize x 0 = x58 at *
  rw [e1]
  clear e1
  generalize x 2 = x60 at *
  generalize x 3 = x61 at *
  generalize x 4 = x57 at *
  rw [e5]
  clear e5
  rw [e6]
  clear e6
  rw [e7]
  clear e7
  obtain ⟨⟨r0, r1, r2, r3⟩, r4, r5, r6, r7⟩ := cellsF l12
  refine wpAnyH_ready (rs := [8]) (by kernel_rfl) (by simp) (AllReadyH.cons (o := oLB68) rfl (fun K hK => ?_) AllReadyH.nil)
  unfold oLB68
  go_simp
  refine hK.out _ _ trivial (fun hHeld => ?_)
  clear r0 r1 r2 r3 r4 r5 r6 r7
  clear hK K
  try simp only [List.setIfInBounds_toArray, List.set_cons_zero, List.set_cons_succ]
  refine wpAnyH_ready (rs := [9]) (by kernel_rfl) (by simp) (AllReadyH.cons (o := oLB69) rfl (fun K hK => ?_) AllReadyH.nil)
  unfold oLB69
  go_simp
  refine hK.out _ _ trivial (fun hHeld => ?_)
  clear hK K
  try simp only [List.setIfInBounds_toArray, List.set_cons_zero, List.set_cons_succ]
  refine wpAnyH_done (by kernel_rfl) ?_ _
  exact leaf _ _ _ _ _ _ _ _ _ _ _ _ _ _ (Lib.hid (below_set4 hB L12)) L12 (Lib.hid (FBox.store l12 k62))
def oLB70 : Oper := ⟨some 65, Op.call ⟨.value (.func 32), #[.const (.int .i64 3)], #[3]⟩, 24, "law.go:108", #[], none⟩
def oLB71 : Oper := ⟨some 66, Op.load 24 (.tmp 7), 24, "law.go:108", #[], none⟩
def oLB72 : Oper := ⟨some 67, Op.call ⟨.value (.func 38), #[.tmp 65, .tmp 66], #[24, 24]⟩, 40, "law.go:108", #[⟨0, .data⟩, ⟨1, .data⟩, ⟨0, .chain⟩], none⟩
def oLB73 : Oper := ⟨some 64, Op.move (.tmp 67), 40, "law.go:108", #[⟨2, .data⟩], none⟩
def oLB74 : Oper := ⟨some 68, Op.extract (.tmp 64) 0, 26, "law.go:108", #[⟨3, .data⟩], none⟩
def oLB75 : Oper := ⟨some 69, Op.extract (.tmp 64) 1, 37, "law.go:108", #[⟨3, .data⟩, ⟨7, .gcOnly .lateStores⟩], none⟩
def oLB76 : Oper := ⟨some 14, Op.alloc 26, 0, "law.go:108", #[], none⟩
def oLB77 : Oper := ⟨none, Op.store 26 (.tmp 14) (.tmp 68), 0, "law.go:108", #[⟨6, .data⟩, ⟨4, .data⟩, ⟨2, .chain⟩, ⟨0, .phase⟩, ⟨1, .phase⟩, ⟨2, .phase⟩, ⟨3, .phase⟩, ⟨4, .phase⟩, ⟨5, .textOnly .lateStores⟩, ⟨6, .phase⟩], none⟩
def oLB78 : Oper := ⟨some 15, Op.assign (.tmp 69), 37, "law.go:108", #[⟨5, .data⟩, ⟨7, .chain⟩, ⟨0, .phase⟩, ⟨1, .phase⟩, ⟨2, .phase⟩, ⟨3, .phase⟩, ⟨4, .phase⟩, ⟨5, .phase⟩, ⟨6, .phase⟩, ⟨7, .phase⟩], none⟩
def opsLB7 : Array Oper := #[oLB70, oLB71, oLB72, oLB73, oLB74, oLB75, oLB76, oLB77, oLB78]
set_option maxHeartbeats 8000000 in
theorem regLB7 {Q : Exit → Act → World → Prop} (hQ : ∀ c a d v w, Q (.panic c) (Act.put a d v) w → Q (.panic c) a w) {W0 : World} {dd : List Deferred} {u0 u1 u2 u3 u4 u5 u6 u8 u9 Vg Vd Vv Z2 Ur V3 Yw Yj Yt Va Uo Yr V4 Ym V0 Vw Y5 Yo Vo V1 Ye Ys Vi Vl Uz Us Yq Vj Yk Yb Vq Yl Y4 Yz Ve Vp V2 Yn Y9 Vb Z5 Y6 Uu Yx Vc Vx Vs V5 Uv Uw Vn Uy Z3 Yd Ya Y3 Yh Y1 V8 Yc Vh Y2 V7 Z4 Yf Up Vf Y0 Vr V6 Vk Yy Yu Vu Ut Vy Yg Uq Z0 Yp Z1 Vz Y7 Vt Yi Yv Ux Y8 V9 Vm Ju Jk G7 Uj U4 U1 J3 Je Jw Jn Ge Jj Go Gk G5 Jf U3 Gj Jg G3 Jp Jy Uf Gu Jm J6 J7 G8 Ub J9 Gq Ul Jd Gn J8 G9 Gl Ja U9 Gx Gv Gy Jv U8 Jc G6 Jb G1 Jl Ga Ui Uc Gf J2 J1 Jt Jx Um J4 Ua Gt U2 Gg Gz Un Ue Gr U7 Uh Jh J0 J5 Ud Jz Gp Ji Jr Gh G4 Jq Gi Gm Js Ug Jo U5 Gb Gs U0 Gw Gc G0 G2 Gd Uk U6 : Value} {b7 : Nat} {s7 : Bool} {a7 : Option Addr} {m7 c7 : Nat} {z65 : Int} {R : Int × Int × Int}
  (LD : Hid (∀ X : World, Below W0.heap.size W0 X → X.cell? ⟨b7, 0, none⟩ = some (.bool s7) ∧ X.cell? ⟨b7, 1, none⟩ = some (.slice a7 m7 c7)))
  (C65 : Hid (∀ X, Below W0.heap.size W0 X → Calls Tryz.prog 32 #[.int .i64 3] X (VEnd (KN z65) X)))
  (C67 : Hid (∀ X x65, Below W0.heap.size W0 X → KN z65 X x65 → Calls Tryz.prog 38 #[x65, .agg #[.bool s7, .slice a7 m7 c7]] X (VEnd (KTR R) X)))
  (leaf : ∀ (X : World) (x65 : Value) (x67 : Value) (x64 : Value) (sv68 tv68 : Bool) (av68 dv68 : Option Addr) (mv68 iv68 cv68 jv68 : Nat) (t14 : Nat), Hid (Below W0.heap.size W0 X) → W0.heap.size ≤ t14 → Hid (RBox X t14 R.2.1 R.2.2) → Q .normal ⟨#[u0, u1, u2, u3, u4, u5, u6, .pointer (some ⟨b7, 0, none⟩), u8, u9, Vg, Vd, Vv, Z2, .pointer (some ⟨t14, 0, none⟩), .int .i64 R.1, Yw, Yj, Yt, Va, Uo, Yr, V4, Ym, V0, Vw, Y5, Yo, Vo, V1, Ye, Ys, Vi, Vl, Uz, Us, Yq, Vj, Yk, Yb, Vq, Yl, Y4, Yz, Ve, Vp, V2, Yn, Y9, Vb, Z5, Y6, Uu, Yx, Vc, Vx, Vs, V5, Uv, Uw, Vn, Uy, Z3, Yd, x64, x65, .agg #[.bool s7, .slice a7 m7 c7], x67, .agg #[.bool sv68, .slice av68 mv68 cv68, .bool tv68, .slice dv68 iv68 jv68], .int .i64 R.1, Vh, Y2, V7, Z4, Yf, Up, Vf, Y0, Vr, V6, Vk, Yy, Yu, Vu, Ut, Vy, Yg, Uq, Z0, Yp, Z1, Vz, Y7, Vt, Yi, Yv, Ux, Y8, V9, Vm, Ju, Jk, G7, Uj, U4, U1, J3, Je, Jw, Jn, Ge, Jj, Go, Gk, G5, Jf, U3, Gj, Jg, G3, Jp, Jy, Uf, Gu, Jm, J6, J7, G8, Ub, J9, Gq, Ul, Jd, Gn, J8, G9, Gl, Ja, U9, Gx, Gv, Gy, Jv, U8, Jc, G6, Jb, G1, Jl, Ga, Ui, Uc, Gf, J2, J1, Jt, Jx, Um, J4, Ua, Gt, U2, Gg, Gz, Un, Ue, Gr, U7, Uh, Jh, J0, J5, Ud, Jz, Gp, Ji, Jr, Gh, G4, Jq, Gi, Gm, Js, Ug, Jo, U5, Gb, Gs, U0, Gw, Gc, G0, G2, Gd, Uk, U6], dd⟩ X) :
  (Code.region 7 opsLB7 true).wp Tryz.prog Q ⟨#[u0, u1, u2, u3, u4, u5, u6, .pointer (some ⟨b7, 0, none⟩), u8, u9, Vg, Vd, Vv, Z2, Ur, V3, Yw, Yj, Yt, Va, Uo, Yr, V4, Ym, V0, Vw, Y5, Yo, Vo, V1, Ye, Ys, Vi, Vl, Uz, Us, Yq, Vj, Yk, Yb, Vq, Yl, Y4, Yz, Ve, Vp, V2, Yn, Y9, Vb, Z5, Y6, Uu, Yx, Vc, Vx, Vs, V5, Uv, Uw, Vn, Uy, Z3, Yd, Ya, Y3, Yh, Y1, V8, Yc, Vh, Y2, V7, Z4, Yf, Up, Vf, Y0, Vr, V6, Vk, Yy, Yu, Vu, Ut, Vy, Yg, Uq, Z0, Yp, Z1, Vz, Y7, Vt, Yi, Yv, Ux, Y8, V9, Vm, Ju, Jk, G7, Uj, U4, U1, J3, Je, Jw, Jn, Ge, Jj, Go, Gk, G5, Jf, U3, Gj, Jg, G3, Jp, Jy, Uf, Gu, Jm, J6, J7, G8, Ub, J9, Gq, Ul, Jd, Gn, J8, G9, Gl, Ja, U9, Gx, Gv, Gy, Jv, U8, Jc, G6, Jb, G1, Jl, Ga, Ui, Uc, Gf, J2, J1, Jt, Jx, Um, J4, Ua, Gt, U2, Gg, Gz, Un, Ue, Gr, U7, Uh, Jh, J0, J5, Ud, Jz, Gp, Ji, Jr, Gh, G4, Jq, Gi, Gm, Js, Ug, Jo, U5, Gb, Gs, U0, Gw, Gc, G0, G2, Gd, Uk, U6], dd⟩ W0 := by
 refine region_ops (P := Tryz.prog) (ops := opsLB7) (W0 := W0) (dd := dd) (k := 7) (T := 2) (E := [3, 4, 5]) (C := [0, 1, 2, 6]) (S := (fun _ => True)) (K := getK [KN z65, KX (.agg #[.bool s7, .slice a7 m7 c7]), KTR R, KTR R, KR R.2.1 R.2.2, KX (.int .i64 R.1), KA W0.heap.size 26 [.bool false, .slice none 0 0, .bool false, .slice none 0 0]]) (tm := (fun x => #[u0, u1, u2, u3, u4, u5, u6, .pointer (some ⟨b7, 0, none⟩), u8, u9, Vg, Vd, Vv, Z2, x 6, V3, Yw, Yj, Yt, Va, Uo, Yr, V4, Ym, V0, Vw, Y5, Yo, Vo, V1, Ye, Ys, Vi, Vl, Uz, Us, Yq, Vj, Yk, Yb, Vq, Yl, Y4, Yz, Ve, Vp, V2, Yn, Y9, Vb, Z5, Y6, Uu, Yx, Vc, Vx, Vs, V5, Uv, Uw, Vn, Uy, Z3, Yd, x 3, x 0, x 1, x 2, x 4, x 5, Vh, Y2, V7, Z4, Yf, Up, Vf, Y0, Vr, V6, Vk, Yy, Yu, Vu, Ut, Vy, Yg, Uq, Z0, Yp, Z1, Vz, Y7, Vt, Yi, Yv, Ux, Y8, V9, Vm, Ju, Jk, G7, Uj, U4, U1, J3, Je, Jw, Jn, Ge, Jj, Go, Gk, G5, Jf, U3, Gj, Jg, G3, Jp, Jy, Uf, Gu, Jm, J6, J7, G8, Ub, J9, Gq, Ul, Jd, Gn, J8, G9, Gl, Ja, U9, Gx, Gv, Gy, Jv, U8, Jc, G6, Jb, G1, Jl, Ga, Ui, Uc, Gf, J2, J1, Jt, Jx, Um, J4, Ua, Gt, U2, Gg, Gz, Un, Ue, Gr, U7, Uh, Jh, J0, J5, Ud, Jz, Gp, Ji, Jr, Gh, G4, Jq, Gi, Gm, Js, Ug, Jo, U5, Gb, Gs, U0, Gw, Gc, G0, G2, Gd, Uk, U6])) (getV [Y3, Yh, Y1, Ya, V8, Yc, Ur]) (by kernel_rfl) (by rfl) (by kernel_rfl) (by kernel_rfl) (by kernel_rfl) (by kernel_rfl) (by kernel_rfl) hQ (fun _ _ => trivial) (getK_mono ⟨m_n, m_x, m_tr, m_tr, m_r, m_x, m_a, trivial⟩) ?eager ?call ?fin
 case eager =>
  intro i hi
  simp only [List.mem_cons, List.not_mem_nil, or_false] at hi
  rcases hi with rfl | rfl | rfl
  ·intro x w hB hd
   obtain ⟨k2, -⟩ := deps_k (ds := [2]) (by kernel_rfl) hd
   clear hd
   refine ⟨oLB73, (x 2), rfl, ?_, k2, (by first | rfl | simp [Act.put, upd])⟩
   refine Or.inl ⟨by rfl, fun _ _ => ?_⟩
   unfold oLB73
   go_simp
   try with_reducible rfl
  ·intro x w hB hd
   obtain ⟨k3, -⟩ := deps_k (ds := [3]) (by kernel_rfl) hd
   clear hd
   obtain ⟨y3, e3, hy3⟩ : KTR R w (x 3) := k3
   refine ⟨oLB74, y3, rfl, ?_, hy3, (by first | rfl | simp [Act.put, upd])⟩
   rw [e3]
   refine Or.inl ⟨by rfl, fun _ _ => ?_⟩
   unfold oLB74
   go_simp
   try with_reducible rfl
  ·intro x w hB hd
   obtain ⟨k3, -⟩ := deps_k (ds := [3]) (by kernel_rfl) hd
   clear hd
   obtain ⟨y3, e3, hy3⟩ : KTR R w (x 3) := k3
   refine ⟨oLB75, (.int .i64 R.1), rfl, ?_, rfl, (by first | rfl | simp [Act.put, upd])⟩
   rw [e3]
   refine Or.inl ⟨by rfl, fun _ _ => ?_⟩
   unfold oLB75
   go_simp
   try with_reducible rfl
 case call =>
  intro i hi
  simp only [List.mem_cons, List.not_mem_nil, or_false] at hi
  rcases hi with rfl | rfl | rfl | rfl
  ·intro x w hB hd
   clear hd
   have HC := C65.out w hB
   unfold VEnd at HC
   have HC := Lib.hid HC
   refine wpOp_shut (o := oLB70) rfl (fun K' hK => ?_)
   unfold oLB70
   go_simp
   go_at_call 32
   refine HC.out.mono ?_
   rintro e w5 ⟨v5, rfl, hk5, hb5⟩
   clear HC
   go_wp2_with fail
   exact hK.out _ _ ⟨v5, (by first | rfl | simp [upd]), hb5, hk5⟩
  ·intro x w hB hd
   clear hd
   have hLD := LD.out w hB
   obtain ⟨f0, f1⟩ := hLD
   refine wpOp_shut (o := oLB71) rfl (fun K' hK => ?_)
   unfold oLB71
   go_simp
   exact hK.out _ _ ⟨_, (by first | rfl | simp [upd]), Below.refl _ _, rfl⟩
  ·intro x w hB hd
   obtain ⟨k0, k1, k0, -⟩ := deps_k (ds := [0, 1, 0]) (by kernel_rfl) hd
   clear hd
   have e1 : x 1 = .agg #[.bool s7, .slice a7 m7 c7] := k1
   have HC := C67.out w _ hB k0
   unfold VEnd at HC
   have HC := Lib.hid HC
   refine wpOp_shut (o := oLB72) rfl (fun K' hK => ?_)
   unfold oLB72
   rw [e1]
   go_simp
   go_at_call 38
   refine HC.out.mono ?_
   rintro e w5 ⟨v5, rfl, hk5, hb5⟩
   clear HC
   go_wp2_with fail
   exact hK.out _ _ ⟨v5, (by first | rfl | simp [upd, e1]), hb5, hk5⟩
  ·intro x w hB hd
   clear hd
   refine wpOp_shut (o := oLB76) rfl (fun K' hK => ?_)
   unfold oLB76
   go_simp
   exact hK.out _ _ ⟨_, (by first | rfl | simp [Act.put, upd]), below_one w (.cells #[.bool false, .slice none 0 0, .bool false, .slice none 0 0] 26), ka_new 26 [.bool false, .slice none 0 0, .bool false, .slice none 0 0] hB.size⟩
 case fin =>
  intro x w hB H
  have k65 : KN z65 w (x 0) := H 0 (by decide)
  have e1 : x 1 = .agg #[.bool s7, .slice a7 m7 c7] := H 1 (by decide)
  have k67 : KTR R w (x 2) := H 2 (by decide)
  have k64 : KTR R w (x 3) := H 3 (by decide)
  have k68 : KR R.2.1 R.2.2 w (x 4) := H 4 (by decide)
  obtain ⟨sv68, tv68, av68, dv68, mv68, iv68, cv68, jv68, e4⟩ := rf_shape k68
  rw [e4] at k68
  have e5 : x 5 = .int .i64 R.1 := H 5 (by decide)
  obtain ⟨t14, e6, L14, l14⟩ : KA W0.heap.size 26 [.bool false, .slice none 0 0, .bool false, .slice none 0 0] w (x 6) := H 6 (by decide)
  clear H
  show wpAnyH _ _ _ _ _ 2 #[true, true, true, true, true, true, true, false, false] ⟨#[u0, u1, u2, u3, u4, u5, u6, .pointer (some ⟨b7, 0, none⟩), u8, u9, Vg, Vd, Vv, Z2, x 6, V3, Yw, Yj, Yt, Va, Uo, Yr, V4, Ym, V0, Vw, Y5, Yo, Vo, V1, Ye, Ys, Vi, Vl, Uz, Us, Yq, Vj, Yk, Yb, Vq, Yl, Y4, Yz, Ve, Vp, V2, Yn, Y9, Vb, Z5, Y6, Uu, Yx, Vc, Vx, Vs, V5, Uv, Uw, Vn, Uy, Z3, Yd, x 3, x 0, x 1, x 2, x 4, x 5, Vh, Y2, V7, Z4, Yf, Up, Vf, Y0, Vr, V6, Vk, Yy, Yu, Vu, Ut, Vy, Yg, Uq, Z0, Yp, Z1, Vz, Y7, Vt, Yi, Yv, Ux, Y8, V9, Vm, Ju, Jk, G7, Uj, U4, U1, J3, Je, Jw, Jn, Ge, Jj, Go, Gk, G5, Jf, U3, Gj, Jg, G3, Jp, Jy, Uf, Gu, Jm, J6, J7, G8, Ub, J9, Gq, Ul, Jd, Gn, J8, G9, Gl, Ja, U9, Gx, Gv, Gy, Jv, U8, Jc, G6, Jb, G1, Jl, Ga, Ui, Uc, Gf, J2, J1, Jt, Jx, Um, J4, Ua, Gt, U2, Gg, Gz, Un, Ue, Gr, U7, Uh, Jh, J0, J5, Ud, Jz, Gp, Ji, Jr, Gh, G4, Jq, Gi, Gm, Js, Ug, Jo, U5, Gb, Gs, U0, Gw, Gc, G0, G2, Gd, Uk, U6], dd⟩ _
  generalize x 0 = x65 at *
  rw [e1]
  clear e1
  generalize x 2 = x67 at *
  generalize x 3 = x64 at *
  rw [e4]
  clear e4
  rw [e5]
  clear e5
  rw [e6]
  clear e6
  obtain ⟨⟨r0, r1, r2, r3⟩, r4, r5, r6, r7⟩ := cellsF l14
  refine wpAnyH_ready (rs := [7]) (by kernel_rfl) (by simp) (AllReadyH.cons (o := oLB77) rfl (fun K hK => ?_) AllReadyH.nil)
  unfold oLB77
  go_simp
  refine hK.out _ _ trivial (fun hHeld => ?_)
  clear r0 r1 r2 r3 r4 r5 r6 r7
  clear hK K
  try simp only [List.setIfInBounds_toArray, List.set_cons_zero, List.set_cons_succ]
  refine wpAnyH_ready (rs := [8]) (by kernel_rfl) (by simp) (AllReadyH.cons (o := oLB78) rfl (fun K hK => ?_) AllReadyH.nil)
  unfold oLB78
  go_simp
  refine hK.out _ _ trivial (fun hHeld => ?_)
  clear hK K
  try simp only [List.setIfInBounds_toArray, List.set_cons_zero, List.set_cons_succ]
  refine wpAnyH_done (by kernel_rfl) ?_ _
  exact leaf _ _ _ _ _ _ _ _ _ _ _ _ _ (Lib.hid (below_set4 hB L14)) L14 (Lib.hid (RBox.store l14 k68))
def oLB110 : Oper := ⟨some 94, Op.load 35 (.tmp 8), 35, "law.go:113", #[], none⟩
def oLB111 : Oper := ⟨some 95, Op.move (.tmp 16), 3, "law.go:113", #[], none⟩
def oLB112 : Oper := ⟨some 96, Op.call ⟨.value (.func 39), #[.tmp 95], #[3]⟩, 35, "law.go:113", #[⟨1, .data⟩], none⟩
def oLB113 : Oper := ⟨some 97, Op.call ⟨.value (.func 20), #[.tmp 94, .tmp 96], #[35, 35]⟩, 38, "law.go:113", #[⟨0, .data⟩, ⟨2, .data⟩, ⟨2, .chain⟩], none⟩
def oLB114 : Oper := ⟨some 93, Op.move (.tmp 97), 38, "law.go:113", #[⟨3, .data⟩], none⟩
def oLB115 : Oper := ⟨some 98, Op.extract (.tmp 93) 0, 35, "law.go:113", #[⟨4, .data⟩], none⟩
def oLB116 : Oper := ⟨some 99, Op.extract (.tmp 93) 1, 37, "law.go:113", #[⟨4, .data⟩, ⟨8, .gcOnly .lateStores⟩], none⟩
def oLB117 : Oper := ⟨some 17, Op.alloc 35, 0, "law.go:113", #[], none⟩
def oLB118 : Oper := ⟨none, Op.store 35 (.tmp 17) (.tmp 98), 0, "law.go:113", #[⟨7, .data⟩, ⟨5, .data⟩, ⟨3, .chain⟩, ⟨0, .phase⟩, ⟨1, .phase⟩, ⟨2, .phase⟩, ⟨3, .phase⟩, ⟨4, .phase⟩, ⟨5, .phase⟩, ⟨6, .textOnly .lateStores⟩, ⟨7, .phase⟩], none⟩
def oLB119 : Oper := ⟨some 18, Op.assign (.tmp 99), 37, "law.go:113", #[⟨6, .data⟩, ⟨8, .chain⟩, ⟨0, .phase⟩, ⟨1, .phase⟩, ⟨2, .phase⟩, ⟨3, .phase⟩, ⟨4, .phase⟩, ⟨5, .phase⟩, ⟨6, .phase⟩, ⟨7, .phase⟩, ⟨8, .phase⟩], none⟩
def opsLB11 : Array Oper := #[oLB110, oLB111, oLB112, oLB113, oLB114, oLB115, oLB116, oLB117, oLB118, oLB119]
set_option maxHeartbeats 8000000 in
theorem regLB11 {Q : Exit → Act → World → Prop} (hQ : ∀ c a d v w, Q (.panic c) (Act.put a d v) w → Q (.panic c) a w) {W0 : World} {dd : List Deferred} {u0 u1 u2 u3 u4 u5 u6 u7 u9 Vg Vd Vv Z1 Ur V3 Yj Yt Va Uo Yr V4 Ym V0 Vw Y5 Yo Vo V1 Ye Ys Vi Vl Uz Us Yq Vj Yk Yb Vq Yl Y4 Yy Ve Vp V2 Yn Y9 Vb Z4 Y6 Uu Yw Vc Vx Vs V5 Uv Uw Vn Uy Z2 Yd Ya Y3 Yh Y1 V8 Yc Vh Y2 V7 Z3 Yf Up Vf Y0 Vr V6 Vk Yx Yu Vu Ut Vy Yg Uq Yz Yp Z0 Vz Y7 Vt Yi Yv Ux Y8 V9 Vm Ju Jk G7 Uj U4 U1 J3 Je Jw Jn Ge Jj Go Gk G5 Jf U3 Gj Jg G3 Jp Jy Uf Gu Jm J6 J7 G8 Ub J9 Gq Ul Jd Gn J8 G9 Gl Ja U9 Gx Gv Gy Jv U8 Jc G6 Jb G1 Jl Ga Ui Uc Gf J2 J1 Jt Jx Um J4 Ua Gt U2 Gg Gz Un Ue Gr U7 Uh Jh J0 J5 Ud Jz Gp Ji Jr Gh G4 Jq Gi Gm Js Ug Jo U5 Gb Gs U0 Gw Gc G0 G2 Gd Uk U6 : Value} {b8 : Nat} {s8 : Bool} {a8 : Option Addr} {m8 c8 : Nat} {s8x : Bool} {a8x : Option Addr} {m8x c8x : Nat} {n16 p96 q96 : Int} {R : Int × Int × Int}
  (LD : Hid (∀ X : World, Below W0.heap.size W0 X → X.cell? ⟨b8, 0, none⟩ = some (.bool s8) ∧ X.cell? ⟨b8, 1, none⟩ = some (.slice a8 m8 c8) ∧ X.cell? ⟨b8, 2, none⟩ = some (.bool s8x) ∧ X.cell? ⟨b8, 3, none⟩ = some (.slice a8x m8x c8x)))
  (C96 : Hid (∀ X, Below W0.heap.size W0 X → Calls Tryz.prog 39 #[.int .i64 n16] X (VEnd (KF p96 q96) X)))
  (C97 : Hid (∀ X x96, Below W0.heap.size W0 X → KF p96 q96 X x96 → Calls Tryz.prog 20 #[.agg #[.bool s8, .slice a8 m8 c8, .bool s8x, .slice a8x m8x c8x], x96] X (VEnd (KTF R) X)))
  (leaf : ∀ (X : World) (x96 : Value) (x97 : Value) (x93 : Value) (sv98 tv98 : Bool) (av98 dv98 : Option Addr) (mv98 iv98 cv98 jv98 : Nat) (t17 : Nat), Hid (Below W0.heap.size W0 X) → W0.heap.size ≤ t17 → Hid (FBox X t17 R.2.1 R.2.2) → Q .normal ⟨#[u0, u1, u2, u3, u4, u5, u6, u7, .pointer (some ⟨b8, 0, none⟩), u9, Vg, Vd, Vv, Z1, Ur, V3, .int .i64 n16, .pointer (some ⟨t17, 0, none⟩), .int .i64 R.1, Va, Uo, Yr, V4, Ym, V0, Vw, Y5, Yo, Vo, V1, Ye, Ys, Vi, Vl, Uz, Us, Yq, Vj, Yk, Yb, Vq, Yl, Y4, Yy, Ve, Vp, V2, Yn, Y9, Vb, Z4, Y6, Uu, Yw, Vc, Vx, Vs, V5, Uv, Uw, Vn, Uy, Z2, Yd, Ya, Y3, Yh, Y1, V8, Yc, Vh, Y2, V7, Z3, Yf, Up, Vf, Y0, Vr, V6, Vk, Yx, Yu, Vu, Ut, Vy, Yg, Uq, Yz, Yp, Z0, Vz, Y7, x93, .agg #[.bool s8, .slice a8 m8 c8, .bool s8x, .slice a8x m8x c8x], .int .i64 n16, x96, x97, .agg #[.bool sv98, .slice av98 mv98 cv98, .bool tv98, .slice dv98 iv98 jv98], .int .i64 R.1, Ju, Jk, G7, Uj, U4, U1, J3, Je, Jw, Jn, Ge, Jj, Go, Gk, G5, Jf, U3, Gj, Jg, G3, Jp, Jy, Uf, Gu, Jm, J6, J7, G8, Ub, J9, Gq, Ul, Jd, Gn, J8, G9, Gl, Ja, U9, Gx, Gv, Gy, Jv, U8, Jc, G6, Jb, G1, Jl, Ga, Ui, Uc, Gf, J2, J1, Jt, Jx, Um, J4, Ua, Gt, U2, Gg, Gz, Un, Ue, Gr, U7, Uh, Jh, J0, J5, Ud, Jz, Gp, Ji, Jr, Gh, G4, Jq, Gi, Gm, Js, Ug, Jo, U5, Gb, Gs, U0, Gw, Gc, G0, G2, Gd, Uk, U6], dd⟩ X) :
  (Code.region 11 opsLB11 true).wp Tryz.prog Q ⟨#[u0, u1, u2, u3, u4, u5, u6, u7, .pointer (some ⟨b8, 0, none⟩), u9, Vg, Vd, Vv, Z1, Ur, V3, .int .i64 n16, Yj, Yt, Va, Uo, Yr, V4, Ym, V0, Vw, Y5, Yo, Vo, V1, Ye, Ys, Vi, Vl, Uz, Us, Yq, Vj, Yk, Yb, Vq, Yl, Y4, Yy, Ve, Vp, V2, Yn, Y9, Vb, Z4, Y6, Uu, Yw, Vc, Vx, Vs, V5, Uv, Uw, Vn, Uy, Z2, Yd, Ya, Y3, Yh, Y1, V8, Yc, Vh, Y2, V7, Z3, Yf, Up, Vf, Y0, Vr, V6, Vk, Yx, Yu, Vu, Ut, Vy, Yg, Uq, Yz, Yp, Z0, Vz, Y7, Vt, Yi, Yv, Ux, Y8, V9, Vm, Ju, Jk, G7, Uj, U4, U1, J3, Je, Jw, Jn, Ge, Jj, Go, Gk, G5, Jf, U3, Gj, Jg, G3, Jp, Jy, Uf, Gu, Jm, J6, J7, G8, Ub, J9, Gq, Ul, Jd, Gn, J8, G9, Gl, Ja, U9, Gx, Gv, Gy, Jv, U8, Jc, G6, Jb, G1, Jl, Ga, Ui, Uc, Gf, J2, J1, Jt, Jx, Um, J4, Ua, Gt, U2, Gg, Gz, Un, Ue, Gr, U7, Uh, Jh, J0, J5, Ud, Jz, Gp, Ji, Jr, Gh, G4, Jq, Gi, Gm, Js, Ug, Jo, U5, Gb, Gs, U0, Gw, Gc, G0, G2, Gd, Uk, U6], dd⟩ W0 := by
 refine region_ops (P := Tryz.prog) (ops := opsLB11) (W0 := W0) (dd := dd) (k := 8) (T := 2) (E := [1, 4, 5, 6]) (C := [0, 2, 3, 7]) (S := (fun _ => True)) (K := getK [KX (.agg #[.bool s8, .slice a8 m8 c8, .bool s8x, .slice a8x m8x c8x]), KX (.int .i64 n16), KF p96 q96, KTF R, KTF R, KF R.2.1 R.2.2, KX (.int .i64 R.1), KA W0.heap.size 35 [.bool false, .slice none 0 0, .bool false, .slice none 0 0]]) (tm := (fun x => #[u0, u1, u2, u3, u4, u5, u6, u7, .pointer (some ⟨b8, 0, none⟩), u9, Vg, Vd, Vv, Z1, Ur, V3, .int .i64 n16, x 7, Yt, Va, Uo, Yr, V4, Ym, V0, Vw, Y5, Yo, Vo, V1, Ye, Ys, Vi, Vl, Uz, Us, Yq, Vj, Yk, Yb, Vq, Yl, Y4, Yy, Ve, Vp, V2, Yn, Y9, Vb, Z4, Y6, Uu, Yw, Vc, Vx, Vs, V5, Uv, Uw, Vn, Uy, Z2, Yd, Ya, Y3, Yh, Y1, V8, Yc, Vh, Y2, V7, Z3, Yf, Up, Vf, Y0, Vr, V6, Vk, Yx, Yu, Vu, Ut, Vy, Yg, Uq, Yz, Yp, Z0, Vz, Y7, x 4, x 0, x 1, x 2, x 3, x 5, x 6, Ju, Jk, G7, Uj, U4, U1, J3, Je, Jw, Jn, Ge, Jj, Go, Gk, G5, Jf, U3, Gj, Jg, G3, Jp, Jy, Uf, Gu, Jm, J6, J7, G8, Ub, J9, Gq, Ul, Jd, Gn, J8, G9, Gl, Ja, U9, Gx, Gv, Gy, Jv, U8, Jc, G6, Jb, G1, Jl, Ga, Ui, Uc, Gf, J2, J1, Jt, Jx, Um, J4, Ua, Gt, U2, Gg, Gz, Un, Ue, Gr, U7, Uh, Jh, J0, J5, Ud, Jz, Gp, Ji, Jr, Gh, G4, Jq, Gi, Gm, Js, Ug, Jo, U5, Gb, Gs, U0, Gw, Gc, G0, G2, Gd, Uk, U6])) (getV [Yi, Yv, Ux, Y8, Vt, V9, Vm, Yj]) (by kernel_rfl) (by rfl) (by kernel_rfl) (by kernel_rfl) (by kernel_rfl) (by kernel_rfl) (by kernel_rfl) hQ (fun _ _ => trivial) (getK_mono ⟨m_x, m_x, m_f, m_tf, m_tf, m_f, m_x, m_a, trivial⟩) ?eager ?call ?fin
 case eager =>
  intro i hi
  simp only [List.mem_cons, List.not_mem_nil, or_false] at hi
  rcases hi with rfl | rfl | rfl | rfl
  ·intro x w hB hd
   clear hd
   refine ⟨oLB111, (.int .i64 n16), rfl, ?_, rfl, (by first | rfl | simp [Act.put, upd])⟩
   refine Or.inl ⟨by rfl, fun _ _ => ?_⟩
   unfold oLB111
   go_simp
   try with_reducible rfl
  ·intro x w hB hd
   obtain ⟨k3, -⟩ := deps_k (ds := [3]) (by kernel_rfl) hd
   clear hd
   refine ⟨oLB114, (x 3), rfl, ?_, k3, (by first | rfl | simp [Act.put, upd])⟩
   refine Or.inl ⟨by rfl, fun _ _ => ?_⟩
   unfold oLB114
   go_simp
   try with_reducible rfl
  ·intro x w hB hd
   obtain ⟨k4, -⟩ := deps_k (ds := [4]) (by kernel_rfl) hd
   clear hd
   obtain ⟨y4, e4, hy4⟩ : KTF R w (x 4) := k4
   refine ⟨oLB115, y4, rfl, ?_, hy4, (by first | rfl | simp [Act.put, upd])⟩
   rw [e4]
   refine Or.inl ⟨by rfl, fun _ _ => ?_⟩
   unfold oLB115
   go_simp
   try with_reducible rfl
  ·intro x w hB hd
   obtain ⟨k4, -⟩ := deps_k (ds := [4]) (by kernel_rfl) hd
   clear hd
   obtain ⟨y4, e4, hy4⟩ : KTF R w (x 4) := k4
   refine ⟨oLB116, (.int .i64 R.1), rfl, ?_, rfl, (by first | rfl | simp [Act.put, upd])⟩
   rw [e4]
   refine Or.inl ⟨by rfl, fun _ _ => ?_⟩
   unfold oLB116
   go_simp
   try with_reducible rfl
 case call =>
  intro i hi
  simp only [List.mem_cons, List.not_mem_nil, or_false] at hi
  rcases hi with rfl | rfl | rfl | rfl
  ·intro x w hB hd
   clear hd
   have hLD := LD.out w hB
   obtain ⟨f0, f1, f2, f3⟩ := hLD
   refine wpOp_shut (o := oLB110) rfl (fun K' hK => ?_)
   unfold oLB110
   go_simp
   exact hK.out _ _ ⟨_, (by first | rfl | simp [upd]), Below.refl _ _, rfl⟩
  ·intro x w hB hd
   obtain ⟨k1, -⟩ := deps_k (ds := [1]) (by kernel_rfl) hd
   clear hd
   have e1 : x 1 = .int .i64 n16 := k1
   have HC := C96.out w hB
   unfold VEnd at HC
   have HC := Lib.hid HC
   refine wpOp_shut (o := oLB112) rfl (fun K' hK => ?_)
   unfold oLB112
   rw [e1]
   go_simp
   go_at_call 39
   refine HC.out.mono ?_
   rintro e w5 ⟨v5, rfl, hk5, hb5⟩
   clear HC
   go_wp2_with fail
   exact hK.out _ _ ⟨v5, (by first | rfl | simp [upd, e1]), hb5, hk5⟩
  ·intro x w hB hd
   obtain ⟨k0, k2, k2, -⟩ := deps_k (ds := [0, 2, 2]) (by kernel_rfl) hd
   clear hd
   have e0 : x 0 = .agg #[.bool s8, .slice a8 m8 c8, .bool s8x, .slice a8x m8x c8x] := k0
   have HC := C97.out w _ hB k2
   unfold VEnd at HC
   have HC := Lib.hid HC
   refine wpOp_shut (o := oLB113) rfl (fun K' hK => ?_)
   unfold oLB113
   rw [e0]
   go_simp
   go_at_call 20
   refine HC.out.mono ?_
   rintro e w5 ⟨v5, rfl, hk5, hb5⟩
   clear HC
   go_wp2_with fail
   exact hK.out _ _ ⟨v5, (by first | rfl | simp [upd, e0]), hb5, hk5⟩
  ·intro x w hB hd
   clear hd
   refine wpOp_shut (o := oLB117) rfl (fun K' hK => ?_)
   unfold oLB117
   go_simp
   exact hK.out _ _ ⟨_, (by first | rfl | simp [Act.put, upd]), below_one w (.cells #[.bool false, .slice none 0 0, .bool false, .slice none 0 0] 35), ka_new 35 [.bool false, .slice none 0 0, .bool false, .slice none 0 0] hB.size⟩
 case fin =>
  intro x w hB H
  have e0 : x 0 = .agg #[.bool s8, .slice a8 m8 c8, .bool s8x, .slice a8x m8x c8x] := H 0 (by decide)
  have e1 : x 1 = .int .i64 n16 := H 1 (by decide)
  have k96 : KF p96 q96 w (x 2) := H 2 (by decide)
  have k97 : KTF R w (x 3) := H 3 (by decide)
  have k93 : KTF R w (x 4) := H 4 (by decide)
  have k98 : KF R.2.1 R.2.2 w (x 5) := H 5 (by decide)
  obtain ⟨sv98, tv98, av98, dv98, mv98, iv98, cv98, jv98, e5⟩ := fat_shape k98
  rw [e5] at k98
  have e6 : x 6 = .int .i64 R.1 := H 6 (by decide)
  obtain ⟨t17, e7, L17, l17⟩ : KA W0.heap.size 35 [.bool false, .slice none 0 0, .bool false, .slice none 0 0] w (x 7) := H 7 (by decide)
  clear H
  show wpAnyH _ _ _ _ _ 2 #[true, true, true, true, true, true, true, true, false, false] ⟨#[u0, u1, u2, u3, u4, u5, u6, u7, .pointer (some ⟨b8, 0, none⟩), u9, Vg, Vd, Vv, Z1, Ur, V3, .int .i64 n16, x 7, Yt, Va, Uo, Yr, V4, Ym, V0, Vw, Y5, Yo, Vo, V1, Ye, Ys, Vi, Vl, Uz, Us, Yq, Vj, Yk, Yb, Vq, Yl, Y4, Yy, Ve, Vp, V2, Yn, Y9, Vb, Z4, Y6, Uu, Yw, Vc, Vx, Vs, V5, Uv, Uw, Vn, Uy, Z2, Yd, Ya, Y3, Yh, Y1, V8, Yc, Vh, Y2, V7, Z3, Yf, Up, Vf, Y0, Vr, V6, Vk, Yx, Yu, Vu, Ut, Vy, Yg, Uq, Yz, Yp, Z0, Vz, Y7, x 4, x 0, x 1, x 2, x 3, x 5, x 6, Ju, Jk, G7, Uj, U4, U1, J3, Je, Jw, Jn, Ge, Jj, Go, Gk, G5, Jf, U3, Gj, Jg, G3, Jp, Jy, Uf, Gu, Jm, J6, J7, G8, Ub, J9, Gq, Ul, Jd, Gn, J8, G9, Gl, Ja, U9, Gx, Gv, Gy, Jv, U8, Jc, G6, Jb, G1, Jl, Ga, Ui, Uc, Gf, J2, J1, Jt, Jx, Um, J4, Ua, Gt, U2, Gg, Gz, Un, Ue, Gr, U7, Uh, Jh, J0, J5, Ud, Jz, Gp, Ji, Jr, Gh, G4, Jq, Gi, Gm, Js, Ug, Jo, U5, Gb, Gs, U0, Gw, Gc, G0, G2, Gd, Uk, U6], dd⟩ _
  rw [e0]
  clear e0
  rw [e1]
  clear e1
  generalize x 2 = x96 at *
  generalize x 3 = x97 at *
  generalize x 4 = x93 at *
  rw [e5]
  clear e5
  rw [e6]
  clear e6
  rw [e7]
  clear e7
  obtain ⟨⟨r0, r1, r2, r3⟩, r4, r5, r6, r7⟩ := cellsF l17
  refine wpAnyH_ready (rs := [8]) (by kernel_rfl) (by simp) (AllReadyH.cons (o := oLB118) rfl (fun K hK => ?_) AllReadyH.nil)
  unfold oLB118
  go_simp
  refine hK.out _ _ trivial (fun hHeld => ?_)
  clear r0 r1 r2 r3 r4 r5 r6 r7
  clear hK K
  try simp only [List.setIfInBounds_toArray, List.set_cons_zero, List.set_cons_succ]
  refine wpAnyH_ready (rs := [9]) (by kernel_rfl) (by simp) (AllReadyH.cons (o := oLB119) rfl (fun K hK => ?_) AllReadyH.nil)
  unfold oLB119
  go_simp
  refine hK.out _ _ trivial (fun hHeld => ?_)
  clear hK K
  try simp only [List.setIfInBounds_toArray, List.set_cons_zero, List.set_cons_succ]
  refine wpAnyH_done (by kernel_rfl) ?_ _
  exact leaf _ _ _ _ _ _ _ _ _ _ _ _ _ (Lib.hid (below_set4 hB L17)) L17 (Lib.hid (FBox.store l17 k98))
def oLB120 : Oper := ⟨some 101, Op.load 26 (.tmp 10), 26, "law.go:114", #[], none⟩
def oLB121 : Oper := ⟨some 102, Op.move (.tmp 16), 3, "law.go:114", #[], none⟩
def oLB122 : Oper := ⟨some 103, Op.call ⟨.value (.func 18), #[.tmp 102], #[3]⟩, 26, "law.go:114", #[⟨1, .data⟩], none⟩
def oLB123 : Oper := ⟨some 104, Op.call ⟨.value (.func 21), #[.tmp 101, .tmp 103], #[26, 26]⟩, 40, "law.go:114", #[⟨0, .data⟩, ⟨2, .data⟩, ⟨2, .chain⟩], none⟩
def oLB124 : Oper := ⟨some 100, Op.move (.tmp 104), 40, "law.go:114", #[⟨3, .data⟩], none⟩
def oLB125 : Oper := ⟨some 105, Op.extract (.tmp 100) 0, 26, "law.go:114", #[⟨4, .data⟩], none⟩
def oLB126 : Oper := ⟨some 106, Op.extract (.tmp 100) 1, 37, "law.go:114", #[⟨4, .data⟩, ⟨8, .gcOnly .lateStores⟩], none⟩
def oLB127 : Oper := ⟨some 19, Op.alloc 26, 0, "law.go:114", #[], none⟩
def oLB128 : Oper := ⟨none, Op.store 26 (.tmp 19) (.tmp 105), 0, "law.go:114", #[⟨7, .data⟩, ⟨5, .data⟩, ⟨3, .chain⟩, ⟨0, .phase⟩, ⟨1, .phase⟩, ⟨2, .phase⟩, ⟨3, .phase⟩, ⟨4, .phase⟩, ⟨5, .phase⟩, ⟨6, .textOnly .lateStores⟩, ⟨7, .phase⟩], none⟩
def oLB129 : Oper := ⟨some 20, Op.assign (.tmp 106), 37, "law.go:114", #[⟨6, .data⟩, ⟨8, .chain⟩, ⟨0, .phase⟩, ⟨1, .phase⟩, ⟨2, .phase⟩, ⟨3, .phase⟩, ⟨4, .phase⟩, ⟨5, .phase⟩, ⟨6, .phase⟩, ⟨7, .phase⟩, ⟨8, .phase⟩], none⟩
def opsLB12 : Array Oper := #[oLB120, oLB121, oLB122, oLB123, oLB124, oLB125, oLB126, oLB127, oLB128, oLB129]
set_option maxHeartbeats 8000000 in
theorem regLB12 {Q : Exit → Act → World → Prop} (hQ : ∀ c a d v w, Q (.panic c) (Act.put a d v) w → Q (.panic c) a w) {W0 : World} {dd : List Deferred} {u0 u1 u2 u3 u4 u5 u6 u7 u8 u9 Vd Vu Z0 Ur V3 Yi Ys Va Uo Yq V4 Yl V0 Vv Y4 Yn Vn V1 Yd Yr Vh Vk Uz Us Yp Vi Yj Ya Vp Yk Y3 Yx Ve Vo V2 Ym Y8 Vb Z3 Y5 Uu Yv Vc Vw Vr V5 Uv Uw Vm Uy Z1 Yc Y9 Y2 Yg Y0 V8 Yb Vg Y1 V7 Z2 Ye Up Vf Vz Vq V6 Vj Yw Yt Vt Ut Vx Yf Uq Yy Yo Yz Vy Y6 Vs Yh Yu Ux Y7 V9 Vl Ju Jk G7 Uj U4 U1 J3 Je Jw Jn Ge Jj Go Gk G5 Jf U3 Gj Jg G3 Jp Jy Uf Gu Jm J6 J7 G8 Ub J9 Gq Ul Jd Gn J8 G9 Gl Ja U9 Gx Gv Gy Jv U8 Jc G6 Jb G1 Jl Ga Ui Uc Gf J2 J1 Jt Jx Um J4 Ua Gt U2 Gg Gz Un Ue Gr U7 Uh Jh J0 J5 Ud Jz Gp Ji Jr Gh G4 Jq Gi Gm Js Ug Jo U5 Gb Gs U0 Gw Gc G0 G2 Gd Uk U6 : Value} {b10 : Nat} {s10 : Bool} {a10 : Option Addr} {m10 c10 : Nat} {s10x : Bool} {a10x : Option Addr} {m10x c10x : Nat} {n16 p103 q103 : Int} {R : Int × Int × Int}
  (LD : Hid (∀ X : World, Below W0.heap.size W0 X → X.cell? ⟨b10, 0, none⟩ = some (.bool s10) ∧ X.cell? ⟨b10, 1, none⟩ = some (.slice a10 m10 c10) ∧ X.cell? ⟨b10, 2, none⟩ = some (.bool s10x) ∧ X.cell? ⟨b10, 3, none⟩ = some (.slice a10x m10x c10x)))
  (C103 : Hid (∀ X, Below W0.heap.size W0 X → Calls Tryz.prog 18 #[.int .i64 n16] X (VEnd (KR p103 q103) X)))
  (C104 : Hid (∀ X x103, Below W0.heap.size W0 X → KR p103 q103 X x103 → Calls Tryz.prog 21 #[.agg #[.bool s10, .slice a10 m10 c10, .bool s10x, .slice a10x m10x c10x], x103] X (VEnd (KTR R) X)))
  (leaf : ∀ (X : World) (x103 : Value) (x104 : Value) (x100 : Value) (sv105 tv105 : Bool) (av105 dv105 : Option Addr) (mv105 iv105 cv105 jv105 : Nat) (t19 : Nat), Hid (Below W0.heap.size W0 X) → W0.heap.size ≤ t19 → Hid (RBox X t19 R.2.1 R.2.2) → Q .normal ⟨#[u0, u1, u2, u3, u4, u5, u6, u7, u8, u9, .pointer (some ⟨b10, 0, none⟩), Vd, Vu, Z0, Ur, V3, .int .i64 n16, Yi, Ys, .pointer (some ⟨t19, 0, none⟩), .int .i64 R.1, Yq, V4, Yl, V0, Vv, Y4, Yn, Vn, V1, Yd, Yr, Vh, Vk, Uz, Us, Yp, Vi, Yj, Ya, Vp, Yk, Y3, Yx, Ve, Vo, V2, Ym, Y8, Vb, Z3, Y5, Uu, Yv, Vc, Vw, Vr, V5, Uv, Uw, Vm, Uy, Z1, Yc, Y9, Y2, Yg, Y0, V8, Yb, Vg, Y1, V7, Z2, Ye, Up, Vf, Vz, Vq, V6, Vj, Yw, Yt, Vt, Ut, Vx, Yf, Uq, Yy, Yo, Yz, Vy, Y6, Vs, Yh, Yu, Ux, Y7, V9, Vl, x100, .agg #[.bool s10, .slice a10 m10 c10, .bool s10x, .slice a10x m10x c10x], .int .i64 n16, x103, x104, .agg #[.bool sv105, .slice av105 mv105 cv105, .bool tv105, .slice dv105 iv105 jv105], .int .i64 R.1, Je, Jw, Jn, Ge, Jj, Go, Gk, G5, Jf, U3, Gj, Jg, G3, Jp, Jy, Uf, Gu, Jm, J6, J7, G8, Ub, J9, Gq, Ul, Jd, Gn, J8, G9, Gl, Ja, U9, Gx, Gv, Gy, Jv, U8, Jc, G6, Jb, G1, Jl, Ga, Ui, Uc, Gf, J2, J1, Jt, Jx, Um, J4, Ua, Gt, U2, Gg, Gz, Un, Ue, Gr, U7, Uh, Jh, J0, J5, Ud, Jz, Gp, Ji, Jr, Gh, G4, Jq, Gi, Gm, Js, Ug, Jo, U5, Gb, Gs, U0, Gw, Gc, G0, G2, Gd, Uk, U6], dd⟩ X) :
  (Code.region 12 opsLB12 true).wp Tryz.prog Q ⟨#[u0, u1, u2, u3, u4, u5, u6, u7, u8, u9, .pointer (some ⟨b10, 0, none⟩), Vd, Vu, Z0, Ur, V3, .int .i64 n16, Yi, Ys, Va, Uo, Yq, V4, Yl, V0, Vv, Y4, Yn, Vn, V1, Yd, Yr, Vh, Vk, Uz, Us, Yp, Vi, Yj, Ya, Vp, Yk, Y3, Yx, Ve, Vo, V2, Ym, Y8, Vb, Z3, Y5, Uu, Yv, Vc, Vw, Vr, V5, Uv, Uw, Vm, Uy, Z1, Yc, Y9, Y2, Yg, Y0, V8, Yb, Vg, Y1, V7, Z2, Ye, Up, Vf, Vz, Vq, V6, Vj, Yw, Yt, Vt, Ut, Vx, Yf, Uq, Yy, Yo, Yz, Vy, Y6, Vs, Yh, Yu, Ux, Y7, V9, Vl, Ju, Jk, G7, Uj, U4, U1, J3, Je, Jw, Jn, Ge, Jj, Go, Gk, G5, Jf, U3, Gj, Jg, G3, Jp, Jy, Uf, Gu, Jm, J6, J7, G8, Ub, J9, Gq, Ul, Jd, Gn, J8, G9, Gl, Ja, U9, Gx, Gv, Gy, Jv, U8, Jc, G6, Jb, G1, Jl, Ga, Ui, Uc, Gf, J2, J1, Jt, Jx, Um, J4, Ua, Gt, U2, Gg, Gz, Un, Ue, Gr, U7, Uh, Jh, J0, J5, Ud, Jz, Gp, Ji, Jr, Gh, G4, Jq, Gi, Gm, Js, Ug, Jo, U5, Gb, Gs, U0, Gw, Gc, G0, G2, Gd, Uk, U6], dd⟩ W0 := by
 refine region_ops (P := Tryz.prog) (ops := opsLB12) (W0 := W0) (dd := dd) (k := 8) (T := 2) (E := [1, 4, 5, 6]) (C := [0, 2, 3, 7]) (S := (fun _ => True)) (K := getK [KX (.agg #[.bool s10, .slice a10 m10 c10, .bool s10x, .slice a10x m10x c10x]), KX (.int .i64 n16), KR p103 q103, KTR R, KTR R, KR R.2.1 R.2.2, KX (.int .i64 R.1), KA W0.heap.size 26 [.bool false, .slice none 0 0, .bool false, .slice none 0 0]]) (tm := (fun x => #[u0, u1, u2, u3, u4, u5, u6, u7, u8, u9, .pointer (some ⟨b10, 0, none⟩), Vd, Vu, Z0, Ur, V3, .int .i64 n16, Yi, Ys, x 7, Uo, Yq, V4, Yl, V0, Vv, Y4, Yn, Vn, V1, Yd, Yr, Vh, Vk, Uz, Us, Yp, Vi, Yj, Ya, Vp, Yk, Y3, Yx, Ve, Vo, V2, Ym, Y8, Vb, Z3, Y5, Uu, Yv, Vc, Vw, Vr, V5, Uv, Uw, Vm, Uy, Z1, Yc, Y9, Y2, Yg, Y0, V8, Yb, Vg, Y1, V7, Z2, Ye, Up, Vf, Vz, Vq, V6, Vj, Yw, Yt, Vt, Ut, Vx, Yf, Uq, Yy, Yo, Yz, Vy, Y6, Vs, Yh, Yu, Ux, Y7, V9, Vl, x 4, x 0, x 1, x 2, x 3, x 5, x 6, Je, Jw, Jn, Ge, Jj, Go, Gk, G5, Jf, U3, Gj, Jg, G3, Jp, Jy, Uf, Gu, Jm, J6, J7, G8, Ub, J9, Gq, Ul, Jd, Gn, J8, G9, Gl, Ja, U9, Gx, Gv, Gy, Jv, U8, Jc, G6, Jb, G1, Jl, Ga, Ui, Uc, Gf, J2, J1, Jt, Jx, Um, J4, Ua, Gt, U2, Gg, Gz, Un, Ue, Gr, U7, Uh, Jh, J0, J5, Ud, Jz, Gp, Ji, Jr, Gh, G4, Jq, Gi, Gm, Js, Ug, Jo, U5, Gb, Gs, U0, Gw, Gc, G0, G2, Gd, Uk, U6])) (getV [Jk, G7, Uj, U4, Ju, U1, J3, Va]) (by kernel_rfl) (by rfl) (by kernel_rfl) (by kernel_rfl) (by kernel_rfl) (by kernel_rfl) (by kernel_rfl) hQ (fun _ _ => trivial) (getK_mono ⟨m_x, m_x, m_r, m_tr, m_tr, m_r, m_x, m_a, trivial⟩) ?eager ?call ?fin
 case eager =>
  intro i hi
  simp only [List.mem_cons, List.not_mem_nil, or_false] at hi
  rcases hi with rfl | rfl | rfl | rfl
  ·intro x w hB hd
   clear hd
   refine ⟨oLB121, (.int .i64 n16), rfl, ?_, rfl, (by first | rfl | simp [Act.put, upd])⟩
   refine Or.inl ⟨by rfl, fun _ _ => ?_⟩
   unfold oLB121
   go_simp
   try with_reducible rfl
  ·intro x w hB hd
   obtain ⟨k3, -⟩ := deps_k (ds := [3]) (by kernel_rfl) hd
   clear hd
   refine ⟨oLB124, (x 3), rfl, ?_, k3, (by first | rfl | simp [Act.put, upd])⟩
   refine Or.inl ⟨by rfl, fun _ _ => ?_⟩
   unfold oLB124
   go_simp
   try with_reducible rfl
  ·intro x w hB hd
   obtain ⟨k4, -⟩ := deps_k (ds := [4]) (by kernel_rfl) hd
   clear hd
   obtain ⟨y4, e4, hy4⟩ : KTR R w (x 4) := k4
   refine ⟨oLB125, y4, rfl, ?_, hy4, (by first | rfl | simp [Act.put, upd])⟩
   rw [e4]
   refine Or.inl ⟨by rfl, fun _ _ => ?_⟩
   unfold oLB125
   go_simp
   try with_reducible rfl
  ·intro x w hB hd
   obtain ⟨k4, -⟩ := deps_k (ds := [4]) (by kernel_rfl) hd
   clear hd
   obtain ⟨y4, e4, hy4⟩ : KTR R w (x 4) := k4
   refine ⟨oLB126, (.int .i64 R.1), rfl, ?_, rfl, (by first | rfl | simp [Act.put, upd])⟩
   rw [e4]
   refine Or.inl ⟨by rfl, fun _ _ => ?_⟩
   unfold oLB126
   go_simp
   try with_reducible rfl
 case call =>
  intro i hi
  simp only [List.mem_cons, List.not_mem_nil, or_false] at hi
  rcases hi with rfl | rfl | rfl | rfl
  ·intro x w hB hd
   clear hd
   have hLD := LD.out w hB
   obtain ⟨f0, f1, f2, f3⟩ := hLD
   refine wpOp_shut (o := oLB120) rfl (fun K' hK => ?_)
   unfold oLB120
   go_simp
   exact hK.out _ _ ⟨_, (by first | rfl | simp [upd]), Below.refl _ _, rfl⟩
  ·intro x w hB hd
   obtain ⟨k1, -⟩ := deps_k (ds := [1]) (by kernel_rfl) hd
   clear hd
   have e1 : x 1 = .int .i64 n16 := k1
   have HC := C103.out w hB
   unfold VEnd at HC
   have HC := Lib.hid HC
   refine wpOp_shut (o := oLB122) rfl (fun K' hK => ?_)
   unfold oLB122
   rw [e1]
   go_simp
   go_at_call 18
   refine HC.out.mono ?_
   rintro e w5 ⟨v5, rfl, hk5, hb5⟩
   clear HC
   go_wp2_with fail
   exact hK.out _ _ ⟨v5, (by first | rfl | simp [upd, e1]), hb5, hk5⟩
  ·intro x w hB hd
   obtain ⟨k0, k2, k2, -⟩ := deps_k (ds := [0, 2, 2]) (by kernel_rfl) hd
   clear hd
   have e0 : x 0 = .agg #[.bool s10, .slice a10 m10 c10, .bool s10x, .slice a10x m10x c10x] := k0
   have HC := C104.out w _ hB k2
   unfold VEnd at HC
   have HC := Lib.hid HC
   refine wpOp_shut (o := oLB123) rfl (fun K' hK => ?_)
   unfold oLB123
   rw [e0]
   go_simp
   go_at_call 21
   refine HC.out.mono ?_
   rintro e w5 ⟨v5, rfl, hk5, hb5⟩
   clear HC
   go_wp2_with fail
   exact hK.out _ _ ⟨v5, (by first | rfl | simp [upd, e0]), hb5, hk5⟩
  ·intro x w hB hd
   clear hd
   refine wpOp_shut (o := oLB127) rfl (fun K' hK => ?_)
   unfold oLB127
   go_simp
   exact hK.out _ _ ⟨_, (by first | rfl | simp [Act.put, upd]), below_one w (.cells #[.bool false, .slice none 0 0, .bool false, .slice none 0 0] 26), ka_new 26 [.bool false, .slice none 0 0, .bool false, .slice none 0 0] hB.size⟩
 case fin =>
  intro x w hB H
  have e0 : x 0 = .agg #[.bool s10, .slice a10 m10 c10, .bool s10x, .slice a10x m10x c10x] := H 0 (by decide)
  have e1 : x 1 = .int .i64 n16 := H 1 (by decide)
  have k103 : KR p103 q103 w (x 2) := H 2 (by decide)
  have k104 : KTR R w (x 3) := H 3 (by decide)
  have k100 : KTR R w (x 4) := H 4 (by decide)
  have k105 : KR R.2.1 R.2.2 w (x 5) := H 5 (by decide)
  obtain ⟨sv105, tv105, av105, dv105, mv105, iv105, cv105, jv105, e5⟩ := rf_shape k105
  rw [e5] at k105
  have e6 : x 6 = .int .i64 R.1 := H 6 (by decide)
  obtain ⟨t19, e7, L19, l19⟩ : KA W0.heap.size 26 [.bool false, .slice none 0 0, .bool false, .slice none 0 0] w (x 7) := H 7 (by decide)
  clear H
  show wpAnyH _ _ _ _ _ 2 #[true, true, true, true, true, true, true, true, false, false] ⟨#[u0, u1, u2, u3, u4, u5, u6, u7, u8, u9, .pointer (some ⟨b10, 0, none⟩), Vd, Vu, Z0, Ur, V3, .int .i64 n16, Yi, Ys, x 7, Uo, Yq, V4, Yl, V0, Vv, Y4, Yn, Vn, V1, Yd, Yr, Vh, Vk, Uz, Us, Yp, Vi, Yj, Ya, Vp, Yk, Y3, Yx, Ve, Vo, V2, Ym, Y8, Vb, Z3, Y5, Uu, Yv, Vc, Vw, Vr, V5, Uv, Uw, Vm, Uy, Z1, Yc, Y9, Y2, Yg, Y0, V8, Yb, Vg, Y1, V7, Z2, Ye, Up, Vf, Vz, Vq, V6, Vj, Yw, Yt, Vt, Ut, Vx, Yf, Uq, Yy, Yo, Yz, Vy, Y6, Vs, Yh, Yu, Ux, Y7, V9, Vl, x 4, x 0, x 1, x 2, x 3, x 5, x 6, Je, Jw, Jn, Ge, Jj, Go, Gk, G5, Jf, U3, Gj, Jg, G3, Jp, Jy, Uf, Gu, Jm, J6, J7, G8, Ub, J9, Gq, Ul, Jd, Gn, J8, G9, Gl, Ja, U9, Gx, Gv, Gy, Jv, U8, Jc, G6, Jb, G1, Jl, Ga, Ui, Uc, Gf, J2, J1, Jt, Jx, Um, J4, Ua, Gt, U2, Gg, Gz, Un, Ue, Gr, U7, Uh, Jh, J0, J5, Ud, Jz, Gp, Ji, Jr, Gh, G4, Jq, Gi, Gm, Js, Ug, Jo, U5, Gb, Gs, U0, Gw, Gc, G0, G2, Gd, Uk, U6], dd⟩ _
  rw [e0]
  clear e0
  rw [e1]
  clear e1
  generalize x 2 = x103 at *
  generalize x 3 = x104 at *
  generalize x 4 = x100 at *
  rw [e5]
  clear e5
  rw [e6]
  clear e6
  rw [e7]
  clear e7
  obtain ⟨⟨r0, r1, r2, r3⟩, r4, r5, r6, r7⟩ := cellsF l19
  refine wpAnyH_ready (rs := [8]) (by kernel_rfl) (by simp) (AllReadyH.cons (o := oLB128) rfl (fun K hK => ?_) AllReadyH.nil)
  unfold oLB128
  go_simp
  refine hK.out _ _ trivial (fun hHeld => ?_)
  clear r0 r1 r2 r3 r4 r5 r6 r7
  clear hK K
  try simp only [List.setIfInBounds_toArray, List.set_cons_zero, List.set_cons_succ]
  refine wpAnyH_ready (rs := [9]) (by kernel_rfl) (by simp) (AllReadyH.cons (o := oLB129) rfl (fun K hK => ?_) AllReadyH.nil)
  unfold oLB129
  go_simp
  refine hK.out _ _ trivial (fun hHeld => ?_)
  clear hK K
  try simp only [List.setIfInBounds_toArray, List.set_cons_zero, List.set_cons_succ]
  refine wpAnyH_done (by kernel_rfl) ?_ _
  exact leaf _ _ _ _ _ _ _ _ _ _ _ _ _ (Lib.hid (below_set4 hB L19)) L19 (Lib.hid (RBox.store l19 k105))
def oLB160 : Oper := ⟨some 128, Op.load 35 (.tmp 23), 35, "law.go:118", #[], none⟩
def oLB161 : Oper := ⟨some 129, Op.move (.tmp 16), 3, "law.go:118", #[], none⟩
def oLB162 : Oper := ⟨some 130, Op.call ⟨.value (.func 39), #[.tmp 129], #[3]⟩, 35, "law.go:118", #[⟨1, .data⟩], none⟩
def oLB163 : Oper := ⟨some 131, Op.call ⟨.value (.func 24), #[.tmp 128, .tmp 130], #[35, 35]⟩, 38, "law.go:118", #[⟨0, .data⟩, ⟨2, .data⟩, ⟨2, .chain⟩], none⟩
def oLB164 : Oper := ⟨some 127, Op.move (.tmp 131), 38, "law.go:118", #[⟨3, .data⟩], none⟩
def oLB165 : Oper := ⟨some 132, Op.extract (.tmp 127) 0, 35, "law.go:118", #[⟨4, .data⟩], none⟩
def oLB166 : Oper := ⟨some 133, Op.extract (.tmp 127) 1, 37, "law.go:118", #[⟨4, .data⟩, ⟨8, .gcOnly .lateStores⟩], none⟩
def oLB167 : Oper := ⟨some 27, Op.alloc 35, 0, "law.go:118", #[], none⟩
def oLB168 : Oper := ⟨none, Op.store 35 (.tmp 27) (.tmp 132), 0, "law.go:118", #[⟨7, .data⟩, ⟨5, .data⟩, ⟨3, .chain⟩, ⟨0, .phase⟩, ⟨1, .phase⟩, ⟨2, .phase⟩, ⟨3, .phase⟩, ⟨4, .phase⟩, ⟨5, .phase⟩, ⟨6, .textOnly .lateStores⟩, ⟨7, .phase⟩], none⟩
def oLB169 : Oper := ⟨some 28, Op.assign (.tmp 133), 37, "law.go:118", #[⟨6, .data⟩, ⟨8, .chain⟩, ⟨0, .phase⟩, ⟨1, .phase⟩, ⟨2, .phase⟩, ⟨3, .phase⟩, ⟨4, .phase⟩, ⟨5, .phase⟩, ⟨6, .phase⟩, ⟨7, .phase⟩, ⟨8, .phase⟩], none⟩
def opsLB16 : Array Oper := #[oLB160, oLB161, oLB162, oLB163, oLB164, oLB165, oLB166, oLB167, oLB168, oLB169]
set_option maxHeartbeats 8000000 in
theorem regLB16 {Q : Exit → Act → World → Prop} (hQ : ∀ c a d v w, Q (.panic c) (Act.put a d v) w → Q (.panic c) a w) {W0 : World} {dd : List Deferred} {u0 u1 u2 u3 u4 u5 u6 u7 u8 u9 Vg Vd Vv Z0 Ur V3 Yj Ys Va Uo Yq V4 V0 Vw Y5 Yn Vo V1 Ye Yr Vi Vl Uz Us Yp Vj Yk Yb Vq Yl Y4 Yx Ve Vp V2 Ym Y9 Vb Z3 Y6 Uu Yv Vc Vx Vs V5 Uv Uw Vn Uy Z1 Yd Ya Y3 Yh Y1 V8 Yc Vh Y2 V7 Z2 Yf Up Vf Y0 Vr V6 Vk Yw Yt Vu Ut Vy Yg Uq Yy Yo Yz Vz Y7 Vt Yi Yu Ux Y8 V9 Vm Ju Jk G7 Uj U4 U1 J3 Je Jw Jn Ge Jj Go Gk G5 Jf U3 Gj Jg G3 Jp Jy Uf Gu Jm J6 J7 G8 Ub J9 Gq Ul Jd Gn J8 G9 Gl Ja U9 Gx Gv Gy Jv U8 Jc G6 Jb G1 Jl Ga Ui Uc Gf J2 J1 Jt Jx Um J4 Ua Gt U2 Gg Gz Un Ue Gr U7 Uh Jh J0 J5 Ud Jz Gp Ji Jr Gh G4 Jq Gi Gm Js Ug Jo U5 Gb Gs U0 Gw Gc G0 G2 Gd Uk U6 : Value} {b23 : Nat} {s23 : Bool} {a23 : Option Addr} {m23 c23 : Nat} {s23x : Bool} {a23x : Option Addr} {m23x c23x : Nat} {n16 p130 q130 : Int} {R : Int × Int × Int}
  (LD : Hid (∀ X : World, Below W0.heap.size W0 X → X.cell? ⟨b23, 0, none⟩ = some (.bool s23) ∧ X.cell? ⟨b23, 1, none⟩ = some (.slice a23 m23 c23) ∧ X.cell? ⟨b23, 2, none⟩ = some (.bool s23x) ∧ X.cell? ⟨b23, 3, none⟩ = some (.slice a23x m23x c23x)))
  (C130 : Hid (∀ X, Below W0.heap.size W0 X → Calls Tryz.prog 39 #[.int .i64 n16] X (VEnd (KF p130 q130) X)))
  (C131 : Hid (∀ X x130, Below W0.heap.size W0 X → KF p130 q130 X x130 → Calls Tryz.prog 24 #[.agg #[.bool s23, .slice a23 m23 c23, .bool s23x, .slice a23x m23x c23x], x130] X (VEnd (KTF R) X)))
  (leaf : ∀ (X : World) (x130 : Value) (x131 : Value) (x127 : Value) (sv132 tv132 : Bool) (av132 dv132 : Option Addr) (mv132 iv132 cv132 jv132 : Nat) (t27 : Nat), Hid (Below W0.heap.size W0 X) → W0.heap.size ≤ t27 → Hid (FBox X t27 R.2.1 R.2.2) → Q .normal ⟨#[u0, u1, u2, u3, u4, u5, u6, u7, u8, u9, Vg, Vd, Vv, Z0, Ur, V3, .int .i64 n16, Yj, Ys, Va, Uo, Yq, V4, .pointer (some ⟨b23, 0, none⟩), V0, Vw, Y5, .pointer (some ⟨t27, 0, none⟩), .int .i64 R.1, V1, Ye, Yr, Vi, Vl, Uz, Us, Yp, Vj, Yk, Yb, Vq, Yl, Y4, Yx, Ve, Vp, V2, Ym, Y9, Vb, Z3, Y6, Uu, Yv, Vc, Vx, Vs, V5, Uv, Uw, Vn, Uy, Z1, Yd, Ya, Y3, Yh, Y1, V8, Yc, Vh, Y2, V7, Z2, Yf, Up, Vf, Y0, Vr, V6, Vk, Yw, Yt, Vu, Ut, Vy, Yg, Uq, Yy, Yo, Yz, Vz, Y7, Vt, Yi, Yu, Ux, Y8, V9, Vm, Ju, Jk, G7, Uj, U4, U1, J3, Je, Jw, Jn, Ge, Jj, Go, Gk, G5, Jf, U3, Gj, Jg, G3, Jp, Jy, Uf, Gu, Jm, J6, J7, x127, .agg #[.bool s23, .slice a23 m23 c23, .bool s23x, .slice a23x m23x c23x], .int .i64 n16, x130, x131, .agg #[.bool sv132, .slice av132 mv132 cv132, .bool tv132, .slice dv132 iv132 jv132], .int .i64 R.1, J8, G9, Gl, Ja, U9, Gx, Gv, Gy, Jv, U8, Jc, G6, Jb, G1, Jl, Ga, Ui, Uc, Gf, J2, J1, Jt, Jx, Um, J4, Ua, Gt, U2, Gg, Gz, Un, Ue, Gr, U7, Uh, Jh, J0, J5, Ud, Jz, Gp, Ji, Jr, Gh, G4, Jq, Gi, Gm, Js, Ug, Jo, U5, Gb, Gs, U0, Gw, Gc, G0, G2, Gd, Uk, U6], dd⟩ X) :
  (Code.region 16 opsLB16 true).wp Tryz.prog Q ⟨#[u0, u1, u2, u3, u4, u5, u6, u7, u8, u9, Vg, Vd, Vv, Z0, Ur, V3, .int .i64 n16, Yj, Ys, Va, Uo, Yq, V4, .pointer (some ⟨b23, 0, none⟩), V0, Vw, Y5, Yn, Vo, V1, Ye, Yr, Vi, Vl, Uz, Us, Yp, Vj, Yk, Yb, Vq, Yl, Y4, Yx, Ve, Vp, V2, Ym, Y9, Vb, Z3, Y6, Uu, Yv, Vc, Vx, Vs, V5, Uv, Uw, Vn, Uy, Z1, Yd, Ya, Y3, Yh, Y1, V8, Yc, Vh, Y2, V7, Z2, Yf, Up, Vf, Y0, Vr, V6, Vk, Yw, Yt, Vu, Ut, Vy, Yg, Uq, Yy, Yo, Yz, Vz, Y7, Vt, Yi, Yu, Ux, Y8, V9, Vm, Ju, Jk, G7, Uj, U4, U1, J3, Je, Jw, Jn, Ge, Jj, Go, Gk, G5, Jf, U3, Gj, Jg, G3, Jp, Jy, Uf, Gu, Jm, J6, J7, G8, Ub, J9, Gq, Ul, Jd, Gn, J8, G9, Gl, Ja, U9, Gx, Gv, Gy, Jv, U8, Jc, G6, Jb, G1, Jl, Ga, Ui, Uc, Gf, J2, J1, Jt, Jx, Um, J4, Ua, Gt, U2, Gg, Gz, Un, Ue, Gr, U7, Uh, Jh, J0, J5, Ud, Jz, Gp, Ji, Jr, Gh, G4, Jq, Gi, Gm, Js, Ug, Jo, U5, Gb, Gs, U0, Gw, Gc, G0, G2, Gd, Uk, U6], dd⟩ W0 := by
 refine region_ops (P := Tryz.prog) (ops := opsLB16) (W0 := W0) (dd := dd) (k := 8) (T := 2) (E := [1, 4, 5, 6]) (C := [0, 2, 3, 7]) (S := (fun _ => True)) (K := getK [KX (.agg #[.bool s23, .slice a23 m23 c23, .bool s23x, .slice a23x m23x c23x]), KX (.int .i64 n16), KF p130 q130, KTF R, KTF R, KF R.2.1 R.2.2, KX (.int .i64 R.1), KA W0.heap.size 35 [.bool false, .slice none 0 0, .bool false, .slice none 0 0]]) (tm := (fun x => #[u0, u1, u2, u3, u4, u5, u6, u7, u8, u9, Vg, Vd, Vv, Z0, Ur, V3, .int .i64 n16, Yj, Ys, Va, Uo, Yq, V4, .pointer (some ⟨b23, 0, none⟩), V0, Vw, Y5, x 7, Vo, V1, Ye, Yr, Vi, Vl, Uz, Us, Yp, Vj, Yk, Yb, Vq, Yl, Y4, Yx, Ve, Vp, V2, Ym, Y9, Vb, Z3, Y6, Uu, Yv, Vc, Vx, Vs, V5, Uv, Uw, Vn, Uy, Z1, Yd, Ya, Y3, Yh, Y1, V8, Yc, Vh, Y2, V7, Z2, Yf, Up, Vf, Y0, Vr, V6, Vk, Yw, Yt, Vu, Ut, Vy, Yg, Uq, Yy, Yo, Yz, Vz, Y7, Vt, Yi, Yu, Ux, Y8, V9, Vm, Ju, Jk, G7, Uj, U4, U1, J3, Je, Jw, Jn, Ge, Jj, Go, Gk, G5, Jf, U3, Gj, Jg, G3, Jp, Jy, Uf, Gu, Jm, J6, J7, x 4, x 0, x 1, x 2, x 3, x 5, x 6, J8, G9, Gl, Ja, U9, Gx, Gv, Gy, Jv, U8, Jc, G6, Jb, G1, Jl, Ga, Ui, Uc, Gf, J2, J1, Jt, Jx, Um, J4, Ua, Gt, U2, Gg, Gz, Un, Ue, Gr, U7, Uh, Jh, J0, J5, Ud, Jz, Gp, Ji, Jr, Gh, G4, Jq, Gi, Gm, Js, Ug, Jo, U5, Gb, Gs, U0, Gw, Gc, G0, G2, Gd, Uk, U6])) (getV [Ub, J9, Gq, Ul, G8, Jd, Gn, Yn]) (by kernel_rfl) (by rfl) (by kernel_rfl) (by kernel_rfl) (by kernel_rfl) (by kernel_rfl) (by kernel_rfl) hQ (fun _ _ => trivial) (getK_mono ⟨m_x, m_x, m_f, m_tf, m_tf, m_f, m_x, m_a, trivial⟩) ?eager ?call ?fin
 case eager =>
  intro i hi
  simp only [List.mem_cons, List.not_mem_nil, or_false] at hi
  rcases hi with rfl | rfl | rfl | rfl
  ·intro x w hB hd
   clear hd
   refine ⟨oLB161, (.int .i64 n16), rfl, ?_, rfl, (by first | rfl | simp [Act.put, upd])⟩
   refine Or.inl ⟨by rfl, fun _ _ => ?_⟩
   unfold oLB161
   go_simp
   try with_reducible rfl
  ·intro x w hB hd
   obtain ⟨k3, -⟩ := deps_k (ds := [3]) (by kernel_rfl) hd
   clear hd
   refine ⟨oLB164, (x 3), rfl, ?_, k3, (by first | rfl | simp [Act.put, upd])⟩
   refine Or.inl ⟨by rfl, fun _ _ => ?_⟩
   unfold oLB164
   go_simp
   try with_reducible rfl
  ·intro x w hB hd
   obtain ⟨k4, -⟩ := deps_k (ds := [4]) (by kernel_rfl) hd
   clear hd
   obtain ⟨y4, e4, hy4⟩ : KTF R w (x 4) := k4
   refine ⟨oLB165, y4, rfl, ?_, hy4, (by first | rfl | simp [Act.put, upd])⟩
   rw [e4]
   refine Or.inl ⟨by rfl, fun _ _ => ?_⟩
   unfold oLB165
   go_simp
   try with_reducible rfl
  ·intro x w hB hd
   obtain ⟨k4, -⟩ := deps_k (ds := [4]) (by kernel_rfl) hd
   clear hd
   obtain ⟨y4, e4, hy4⟩ : KTF R w (x 4) := k4
   refine ⟨oLB166, (.int .i64 R.1), rfl, ?_, rfl, (by first | rfl | simp [Act.put, upd])⟩
   rw [e4]
   refine Or.inl ⟨by rfl, fun _ _ => ?_⟩
   unfold oLB166
   go_simp
   try with_reducible rfl
 case call =>
  intro i hi
  simp only [List.mem_cons, List.not_mem_nil, or_false] at hi
  rcases hi with rfl | rfl | rfl | rfl
  ·intro x w hB hd
   clear hd
   have hLD := LD.out w hB
   obtain ⟨f0, f1, f2, f3⟩ := hLD
   refine wpOp_shut (o := oLB160) rfl (fun K' hK => ?_)
   unfold oLB160
   go_simp
   exact hK.out _ _ ⟨_, (by first | rfl | simp [upd]), Below.refl _ _, rfl⟩
  ·intro x w hB hd
   obtain ⟨k1, -⟩ := deps_k (ds := [1]) (by kernel_rfl) hd
   clear hd
   have e1 : x 1 = .int .i64 n16 := k1
   have HC := C130.out w hB
   unfold VEnd at HC
   have HC := Lib.hid HC
   refine wpOp_shut (o := oLB162) rfl (fun K' hK => ?_)
   unfold oLB162
   rw [e1]
   go_simp
   go_at_call 39
   refine HC.out.mono ?_
   rintro e w5 ⟨v5, rfl, hk5, hb5⟩
   clear HC
   go_wp2_with fail
   exact hK.out _ _ ⟨v5, (by first | rfl | simp [upd, e1]), hb5, hk5⟩
  ·intro x w hB hd
   obtain ⟨k0, k2, k2, -⟩ := deps_k (ds := [0, 2, 2]) (by kernel_rfl) hd
   clear hd
   have e0 : x 0 = .agg #[.bool s23, .slice a23 m23 c23, .bool s23x, .slice a23x m23x c23x] := k0
   have HC := C131.out w _ hB k2
   unfold VEnd at HC
   have HC := Lib.hid HC
   refine wpOp_shut (o := oLB163) rfl (fun K' hK => ?_)
   unfold oLB163
   rw [e0]
   go_simp
   go_at_call 24
   refine HC.out.mono ?_
   rintro e w5 ⟨v5, rfl, hk5, hb5⟩
   clear HC
   go_wp2_with fail
   exact hK.out _ _ ⟨v5, (by first | rfl | simp [upd, e0]), hb5, hk5⟩
  ·intro x w hB hd
   clear hd
   refine wpOp_shut (o := oLB167) rfl (fun K' hK => ?_)
   unfold oLB167
   go_simp
   exact hK.out _ _ ⟨_, (by first | rfl | simp [Act.put, upd]), below_one w (.cells #[.bool false, .slice none 0 0, .bool false, .slice none 0 0] 35), ka_new 35 [.bool false, .slice none 0 0, .bool false, .slice none 0 0] hB.size⟩
 case fin =>
  intro x w hB H
  have e0 : x 0 = .agg #[.bool s23, .slice a23 m23 c23, .bool s23x, .slice a23x m23x c23x] := H 0 (by decide)
  have e1 : x 1 = .int .i64 n16 := H 1 (by decide)
  have k130 : KF p130 q130 w (x 2) := H 2 (by decide)
  have k131 : KTF R w (x 3) := H 3 (by decide)
  have k127 : KTF R w (x 4) := H 4 (by decide)
  have k132 : KF R.2.1 R.2.2 w (x 5) := H 5 (by decide)
  obtain ⟨sv132, tv132, av132, dv132, mv132, iv132, cv132, jv132, e5⟩ := fat_shape k132
  rw [e5] at k132
  have e6 : x 6 = .int .i64 R.1 := H 6 (by decide)
  obtain ⟨t27, e7, L27, l27⟩ : KA W0.heap.size 35 [.bool false, .slice none 0 0, .bool false, .slice none 0 0] w (x 7) := H 7 (by decide)
  clear H
  show wpAnyH _ _ _ _ _ 2 #[true, true, true, true, true, true, true, true, false, false] ⟨#[u0, u1, u2, u3, u4, u5, u6, u7, u8, u9, Vg, Vd, Vv, Z0, Ur, V3, .int .i64 n16, Yj, Ys, Va, Uo, Yq, V4, .pointer (some ⟨b23, 0, none⟩), V0, Vw, Y5, x 7, Vo, V1, Ye, Yr, Vi, Vl, Uz, Us, Yp, Vj, Yk, Yb, Vq, Yl, Y4, Yx, Ve, Vp, V2, Ym, Y9, Vb, Z3, Y6, Uu, Yv, Vc, Vx, Vs, V5, Uv, Uw, Vn, Uy, Z1, Yd, Ya, Y3, Yh, Y1, V8, Yc, Vh, Y2, V7, Z2, Yf, Up, Vf, Y0, Vr, V6, Vk, Yw, Yt, Vu, Ut, Vy, Yg, Uq, Yy, Yo, Yz, Vz, Y7, Vt, Yi, Yu, Ux, Y8, V9, Vm, Ju, Jk, G7, Uj, U4, U1, J3, Je, Jw, Jn, Ge, Jj, Go, Gk, G5, Jf, U3, Gj, Jg, G3, Jp, Jy, Uf, Gu, Jm, J6, J7, x 4, x 0, x 1, x 2, x 3, x 5, x 6, J8, G9, Gl, Ja, U9, Gx, Gv, Gy, Jv, U8, Jc, G6, Jb, G1, Jl, Ga, Ui, Uc, Gf, J2, J1, Jt, Jx, Um, J4, Ua, Gt, U2, Gg, Gz, Un, Ue, Gr, U7, Uh, Jh, J0, J5, Ud, Jz, Gp, Ji, Jr, Gh, G4, Jq, Gi, Gm, Js, Ug, Jo, U5, Gb, Gs, U0, Gw, Gc, G0, G2, Gd, Uk, U6], dd⟩ _
  rw [e0]
  clear e0
  rw [e1]
  clear e1
  generalize x 2 = x130 at *
  generalize x 3 = x131 at *
  generalize x 4 = x127 at *
  rw [e5]
  clear e5
  rw [e6]
  clear e6
  rw [e7]
  clear e7
  obtain ⟨⟨r0, r1, r2, r3⟩, r4, r5, r6, r7⟩ := cellsF l27
  refine wpAnyH_ready (rs := [8]) (by kernel_rfl) (by simp) (AllReadyH.cons (o := oLB168) rfl (fun K hK => ?_) AllReadyH.nil)
  unfold oLB168
  go_simp
  refine hK.out _ _ trivial (fun hHeld => ?_)
  clear r0 r1 r2 r3 r4 r5 r6 r7
  clear hK K
  try simp only [List.setIfInBounds_toArray, List.set_cons_zero, List.set_cons_succ]
  refine wpAnyH_ready (rs := [9]) (by kernel_rfl) (by simp) (AllReadyH.cons (o := oLB169) rfl (fun K hK => ?_) AllReadyH.nil)
  unfold oLB169
  go_simp
  refine hK.out _ _ trivial (fun hHeld => ?_)
  clear hK K
  try simp only [List.setIfInBounds_toArray, List.set_cons_zero, List.set_cons_succ]
  refine wpAnyH_done (by kernel_rfl) ?_ _
  exact leaf _ _ _ _ _ _ _ _ _ _ _ _ _ (Lib.hid (below_set4 hB L27)) L27 (Lib.hid (FBox.store l27 k132))
def oLB170 : Oper := ⟨some 135, Op.load 26 (.tmp 25), 26, "law.go:119", #[], none⟩
def oLB171 : Oper := ⟨some 136, Op.move (.tmp 16), 3, "law.go:119", #[], none⟩
def oLB172 : Oper := ⟨some 137, Op.call ⟨.value (.func 18), #[.tmp 136], #[3]⟩, 26, "law.go:119", #[⟨1, .data⟩], none⟩
def oLB173 : Oper := ⟨some 138, Op.call ⟨.value (.func 25), #[.tmp 135, .tmp 137], #[26, 26]⟩, 40, "law.go:119", #[⟨0, .data⟩, ⟨2, .data⟩, ⟨2, .chain⟩], none⟩
def oLB174 : Oper := ⟨some 134, Op.move (.tmp 138), 40, "law.go:119", #[⟨3, .data⟩], none⟩
def oLB175 : Oper := ⟨some 139, Op.extract (.tmp 134) 0, 26, "law.go:119", #[⟨4, .data⟩], none⟩
def oLB176 : Oper := ⟨some 140, Op.extract (.tmp 134) 1, 37, "law.go:119", #[⟨4, .data⟩, ⟨8, .gcOnly .lateStores⟩], none⟩
def oLB177 : Oper := ⟨some 29, Op.alloc 26, 0, "law.go:119", #[], none⟩
def oLB178 : Oper := ⟨none, Op.store 26 (.tmp 29) (.tmp 139), 0, "law.go:119", #[⟨7, .data⟩, ⟨5, .data⟩, ⟨3, .chain⟩, ⟨0, .phase⟩, ⟨1, .phase⟩, ⟨2, .phase⟩, ⟨3, .phase⟩, ⟨4, .phase⟩, ⟨5, .phase⟩, ⟨6, .textOnly .lateStores⟩, ⟨7, .phase⟩], none⟩
def oLB179 : Oper := ⟨some 30, Op.assign (.tmp 140), 37, "law.go:119", #[⟨6, .data⟩, ⟨8, .chain⟩, ⟨0, .phase⟩, ⟨1, .phase⟩, ⟨2, .phase⟩, ⟨3, .phase⟩, ⟨4, .phase⟩, ⟨5, .phase⟩, ⟨6, .phase⟩, ⟨7, .phase⟩, ⟨8, .phase⟩], none⟩
def opsLB17 : Array Oper := #[oLB170, oLB171, oLB172, oLB173, oLB174, oLB175, oLB176, oLB177, oLB178, oLB179]
set_option maxHeartbeats 8000000 in
theorem regLB17 {Q : Exit → Act → World → Prop} (hQ : ∀ c a d v w, Q (.panic c) (Act.put a d v) w → Q (.panic c) a w) {W0 : World} {dd : List Deferred} {u0 u1 u2 u3 u4 u5 u6 u7 u8 u9 Vg Vd Vv Z0 Ur V3 Yi Ys Va Uo Yq V4 Yl V0 Y4 Yn Vo V1 Yd Yr Vi Vl Uz Us Yp Vj Yj Ya Vq Yk Y3 Yx Ve Vp V2 Ym Y8 Vb Z3 Y5 Uu Yv Vc Vw Vs V5 Uv Uw Vn Uy Z1 Yc Y9 Y2 Yg Y0 V8 Yb Vh Y1 V7 Z2 Ye Up Vf Vz Vr V6 Vk Yw Yt Vu Ut Vx Yf Uq Yy Yo Yz Vy Y6 Vt Yh Yu Ux Y7 V9 Vm Ju Jk G7 Uj U4 U1 J3 Je Jw Jn Ge Jj Go Gk G5 Jf U3 Gj Jg G3 Jp Jy Uf Gu Jm J6 J7 G8 Ub J9 Gq Ul Jd Gn J8 G9 Gl Ja U9 Gx Gv Gy Jv U8 Jc G6 Jb G1 Jl Ga Ui Uc Gf J2 J1 Jt Jx Um J4 Ua Gt U2 Gg Gz Un Ue Gr U7 Uh Jh J0 J5 Ud Jz Gp Ji Jr Gh G4 Jq Gi Gm Js Ug Jo U5 Gb Gs U0 Gw Gc G0 G2 Gd Uk U6 : Value} {b25 : Nat} {s25 : Bool} {a25 : Option Addr} {m25 c25 : Nat} {s25x : Bool} {a25x : Option Addr} {m25x c25x : Nat} {n16 p137 q137 : Int} {R : Int × Int × Int}
  (LD : Hid (∀ X : World, Below W0.heap.size W0 X → X.cell? ⟨b25, 0, none⟩ = some (.bool s25) ∧ X.cell? ⟨b25, 1, none⟩ = some (.slice a25 m25 c25) ∧ X.cell? ⟨b25, 2, none⟩ = some (.bool s25x) ∧ X.cell? ⟨b25, 3, none⟩ = some (.slice a25x m25x c25x)))
  (C137 : Hid (∀ X, Below W0.heap.size W0 X → Calls Tryz.prog 18 #[.int .i64 n16] X (VEnd (KR p137 q137) X)))
  (C138 : Hid (∀ X x137, Below W0.heap.size W0 X → KR p137 q137 X x137 → Calls Tryz.prog 25 #[.agg #[.bool s25, .slice a25 m25 c25, .bool s25x, .slice a25x m25x c25x], x137] X (VEnd (KTR R) X)))
  (leaf : ∀ (X : World) (x137 : Value) (x138 : Value) (x134 : Value) (sv139 tv139 : Bool) (av139 dv139 : Option Addr) (mv139 iv139 cv139 jv139 : Nat) (t29 : Nat), Hid (Below W0.heap.size W0 X) → W0.heap.size ≤ t29 → Hid (RBox X t29 R.2.1 R.2.2) → Q .normal ⟨#[u0, u1, u2, u3, u4, u5, u6, u7, u8, u9, Vg, Vd, Vv, Z0, Ur, V3, .int .i64 n16, Yi, Ys, Va, Uo, Yq, V4, Yl, V0, .pointer (some ⟨b25, 0, none⟩), Y4, Yn, Vo, .pointer (some ⟨t29, 0, none⟩), .int .i64 R.1, Yr, Vi, Vl, Uz, Us, Yp, Vj, Yj, Ya, Vq, Yk, Y3, Yx, Ve, Vp, V2, Ym, Y8, Vb, Z3, Y5, Uu, Yv, Vc, Vw, Vs, V5, Uv, Uw, Vn, Uy, Z1, Yc, Y9, Y2, Yg, Y0, V8, Yb, Vh, Y1, V7, Z2, Ye, Up, Vf, Vz, Vr, V6, Vk, Yw, Yt, Vu, Ut, Vx, Yf, Uq, Yy, Yo, Yz, Vy, Y6, Vt, Yh, Yu, Ux, Y7, V9, Vm, Ju, Jk, G7, Uj, U4, U1, J3, Je, Jw, Jn, Ge, Jj, Go, Gk, G5, Jf, U3, Gj, Jg, G3, Jp, Jy, Uf, Gu, Jm, J6, J7, G8, Ub, J9, Gq, Ul, Jd, Gn, x134, .agg #[.bool s25, .slice a25 m25 c25, .bool s25x, .slice a25x m25x c25x], .int .i64 n16, x137, x138, .agg #[.bool sv139, .slice av139 mv139 cv139, .bool tv139, .slice dv139 iv139 jv139], .int .i64 R.1, Gy, Jv, U8, Jc, G6, Jb, G1, Jl, Ga, Ui, Uc, Gf, J2, J1, Jt, Jx, Um, J4, Ua, Gt, U2, Gg, Gz, Un, Ue, Gr, U7, Uh, Jh, J0, J5, Ud, Jz, Gp, Ji, Jr, Gh, G4, Jq, Gi, Gm, Js, Ug, Jo, U5, Gb, Gs, U0, Gw, Gc, G0, G2, Gd, Uk, U6], dd⟩ X) :
  (Code.region 17 opsLB17 true).wp Tryz.prog Q ⟨#[u0, u1, u2, u3, u4, u5, u6, u7, u8, u9, Vg, Vd, Vv, Z0, Ur, V3, .int .i64 n16, Yi, Ys, Va, Uo, Yq, V4, Yl, V0, .pointer (some ⟨b25, 0, none⟩), Y4, Yn, Vo, V1, Yd, Yr, Vi, Vl, Uz, Us, Yp, Vj, Yj, Ya, Vq, Yk, Y3, Yx, Ve, Vp, V2, Ym, Y8, Vb, Z3, Y5, Uu, Yv, Vc, Vw, Vs, V5, Uv, Uw, Vn, Uy, Z1, Yc, Y9, Y2, Yg, Y0, V8, Yb, Vh, Y1, V7, Z2, Ye, Up, Vf, Vz, Vr, V6, Vk, Yw, Yt, Vu, Ut, Vx, Yf, Uq, Yy, Yo, Yz, Vy, Y6, Vt, Yh, Yu, Ux, Y7, V9, Vm, Ju, Jk, G7, Uj, U4, U1, J3, Je, Jw, Jn, Ge, Jj, Go, Gk, G5, Jf, U3, Gj, Jg, G3, Jp, Jy, Uf, Gu, Jm, J6, J7, G8, Ub, J9, Gq, Ul, Jd, Gn, J8, G9, Gl, Ja, U9, Gx, Gv, Gy, Jv, U8, Jc, G6, Jb, G1, Jl, Ga, Ui, Uc, Gf, J2, J1, Jt, Jx, Um, J4, Ua, Gt, U2, Gg, Gz, Un, Ue, Gr, U7, Uh, Jh, J0, J5, Ud, Jz, Gp, Ji, Jr, Gh, G4, Jq, Gi, Gm, Js, Ug, Jo, U5, Gb, Gs, U0, Gw, Gc, G0, G2, Gd, Uk, U6], dd⟩ W0 := by
 refine region_ops (P := Tryz.prog) (ops := opsLB17) (W0 := W0) (dd := dd) (k := 8) (T := 2) (E := [1, 4, 5, 6]) (C := [0, 2, 3, 7]) (S := (fun _ => True)) (K := getK [KX (.agg #[.bool s25, .slice a25 m25 c25, .bool s25x, .slice a25x m25x c25x]), KX (.int .i64 n16), KR p137 q137, KTR R, KTR R, KR R.2.1 R.2.2, KX (.int .i64 R.1), KA W0.heap.size 26 [.bool false, .slice none 0 0, .bool false, .slice none 0 0]]) (tm := (fun x => #[u0, u1, u2, u3, u4, u5, u6, u7, u8, u9, Vg, Vd, Vv, Z0, Ur, V3, .int .i64 n16, Yi, Ys, Va, Uo, Yq, V4, Yl, V0, .pointer (some ⟨b25, 0, none⟩), Y4, Yn, Vo, x 7, Yd, Yr, Vi, Vl, Uz, Us, Yp, Vj, Yj, Ya, Vq, Yk, Y3, Yx, Ve, Vp, V2, Ym, Y8, Vb, Z3, Y5, Uu, Yv, Vc, Vw, Vs, V5, Uv, Uw, Vn, Uy, Z1, Yc, Y9, Y2, Yg, Y0, V8, Yb, Vh, Y1, V7, Z2, Ye, Up, Vf, Vz, Vr, V6, Vk, Yw, Yt, Vu, Ut, Vx, Yf, Uq, Yy, Yo, Yz, Vy, Y6, Vt, Yh, Yu, Ux, Y7, V9, Vm, Ju, Jk, G7, Uj, U4, U1, J3, Je, Jw, Jn, Ge, Jj, Go, Gk, G5, Jf, U3, Gj, Jg, G3, Jp, Jy, Uf, Gu, Jm, J6, J7, G8, Ub, J9, Gq, Ul, Jd, Gn, x 4, x 0, x 1, x 2, x 3, x 5, x 6, Gy, Jv, U8, Jc, G6, Jb, G1, Jl, Ga, Ui, Uc, Gf, J2, J1, Jt, Jx, Um, J4, Ua, Gt, U2, Gg, Gz, Un, Ue, Gr, U7, Uh, Jh, J0, J5, Ud, Jz, Gp, Ji, Jr, Gh, G4, Jq, Gi, Gm, Js, Ug, Jo, U5, Gb, Gs, U0, Gw, Gc, G0, G2, Gd, Uk, U6])) (getV [G9, Gl, Ja, U9, J8, Gx, Gv, V1]) (by kernel_rfl) (by rfl) (by kernel_rfl) (by kernel_rfl) (by kernel_rfl) (by kernel_rfl) (by kernel_rfl) hQ (fun _ _ => trivial) (getK_mono ⟨m_x, m_x, m_r, m_tr, m_tr, m_r, m_x, m_a, trivial⟩) ?eager ?call ?fin
 case eager =>
  intro i hi
  simp only [List.mem_cons, List.not_mem_nil, or_false] at hi
  rcases hi with rfl | rfl | rfl | rfl
  ·intro x w hB hd
   clear hd
   refine ⟨oLB171, (.int .i64 n16), rfl, ?_, rfl, (by first | rfl | simp [Act.put, upd])⟩
   refine Or.inl ⟨by rfl, fun _ _ => ?_⟩
   unfold oLB171
   go_simp
   try with_reducible rfl
  ·intro x w hB hd
   obtain ⟨k3, -⟩ := deps_k (ds := [3]) (by kernel_rfl) hd
   clear hd
   refine ⟨oLB174, (x 3), rfl, ?_, k3, (by first | rfl | simp [Act.put, upd])⟩
   refine Or.inl ⟨by rfl, fun _ _ => ?_⟩
   unfold oLB174
   go_simp
   try with_reducible rfl
  ·intro x w hB hd
   obtain ⟨k4, -⟩ := deps_k (ds := [4]) (by kernel_rfl) hd
   clear hd
   obtain ⟨y4, e4, hy4⟩ : KTR R w (x 4) := k4
   refine ⟨oLB175, y4, rfl, ?_, hy4, (by first | rfl | simp [Act.put, upd])⟩
   rw [e4]
   refine Or.inl ⟨by rfl, fun _ _ => ?_⟩
   unfold oLB175
   go_simp
   try with_reducible rfl
  ·intro x w hB hd
   obtain ⟨k4, -⟩ := deps_k (ds := [4]) (by kernel_rfl) hd
   clear hd
   obtain ⟨y4, e4, hy4⟩ : KTR R w (x 4) := k4
   refine ⟨oLB176, (.int .i64 R.1), rfl, ?_, rfl, (by first | rfl | simp [Act.put, upd])⟩
   rw [e4]
   refine Or.inl ⟨by rfl, fun _ _ => ?_⟩
   unfold oLB176
   go_simp
   try with_reducible rfl
 case call =>
  intro i hi
  simp only [List.mem_cons, List.not_mem_nil, or_false] at hi
  rcases hi with rfl | rfl | rfl | rfl
  ·intro x w hB hd
   clear hd
   have hLD := LD.out w hB
   obtain ⟨f0, f1, f2, f3⟩ := hLD
   refine wpOp_shut (o := oLB170) rfl (fun K' hK => ?_)
   unfold oLB170
   go_simp
   exact hK.out _ _ ⟨_, (by first | rfl | simp [upd]), Below.refl _ _, rfl⟩
  ·intro x w hB hd
   obtain ⟨k1, -⟩ := deps_k (ds := [1]) (by kernel_rfl) hd
   clear hd
   have e1 : x 1 = .int .i64 n16 := k1
   have HC := C137.out w hB
   unfold VEnd at HC
   have HC := Lib.hid HC
   refine wpOp_shut (o := oLB172) rfl (fun K' hK => ?_)
   unfold oLB172
   rw [e1]
   go_simp
   go_at_call 18
   refine HC.out.mono ?_
   rintro e w5 ⟨v5, rfl, hk5, hb5⟩
   clear HC
   go_wp2_with fail
   exact hK.out _ _ ⟨v5, (by first | rfl | simp [upd, e1]), hb5, hk5⟩
  ·intro x w hB hd
   obtain ⟨k0, k2, k2, -⟩ := deps_k (ds := [0, 2, 2]) (by kernel_rfl) hd
   clear hd
   have e0 : x 0 = .agg #[.bool s25, .slice a25 m25 c25, .bool s25x, .slice a25x m25x c25x] := k0
   have HC := C138.out w _ hB k2
   unfold VEnd at HC
   have HC := Lib.hid HC
   refine wpOp_shut (o := oLB173) rfl (fun K' hK => ?_)
   unfold oLB173
   rw [e0]
   go_simp
   go_at_call 25
   refine HC.out.mono ?_
   rintro e w5 ⟨v5, rfl, hk5, hb5⟩
   clear HC
   go_wp2_with fail
   exact hK.out _ _ ⟨v5, (by first | rfl | simp [upd, e0]), hb5, hk5⟩
  ·intro x w hB hd
   clear hd
   refine wpOp_shut (o := oLB177) rfl (fun K' hK => ?_)
   unfold oLB177
   go_simp
   exact hK.out _ _ ⟨_, (by first | rfl | simp [Act.put, upd]), below_one w (.cells #[.bool false, .slice none 0 0, .bool false, .slice none 0 0] 26), ka_new 26 [.bool false, .slice none 0 0, .bool false, .slice none 0 0] hB.size⟩
 case fin =>
  intro x w hB H
  have e0 : x 0 = .agg #[.bool s25, .slice a25 m25 c25, .bool s25x, .slice a25x m25x c25x] := H 0 (by decide)
  have e1 : x 1 = .int .i64 n16 := H 1 (by decide)
  have k137 : KR p137 q137 w (x 2) := H 2 (by decide)
  have k138 : KTR R w (x 3) := H 3 (by decide)
  have k134 : KTR R w (x 4) := H 4 (by decide)
  have k139 : KR R.2.1 R.2.2 w (x 5) := H 5 (by decide)
  obtain ⟨sv139, tv139, av139, dv139, mv139, iv139, cv139, jv139, e5⟩ := rf_shape k139
  rw [e5] at k139
  have e6 : x 6 = .int .i64 R.1 := H 6 (by decide)
  obtain ⟨t29, e7, L29, l29⟩ : KA W0.heap.size 26 [.bool false, .slice none 0 0, .bool false, .slice none 0 0] w (x 7) := H 7 (by decide)
  clear H
  show wpAnyH _ _ _ _ _ 2 #[true, true, true, true, true, true, true, true, false, false] ⟨#[u0, u1, u2, u3, u4, u5, u6, u7, u8, u9, Vg, Vd, Vv, Z0, Ur, V3, .int .i64 n16, Yi, Ys, Va, Uo, Yq, V4, Yl, V0, .pointer (some ⟨b25, 0, none⟩), Y4, Yn, Vo, x 7, Yd, Yr, Vi, Vl, Uz, Us, Yp, Vj, Yj, Ya, Vq, Yk, Y3, Yx, Ve, Vp, V2, Ym, Y8, Vb, Z3, Y5, Uu, Yv, Vc, Vw, Vs, V5, Uv, Uw, Vn, Uy, Z1, Yc, Y9, Y2, Yg, Y0, V8, Yb, Vh, Y1, V7, Z2, Ye, Up, Vf, Vz, Vr, V6, Vk, Yw, Yt, Vu, Ut, Vx, Yf, Uq, Yy, Yo, Yz, Vy, Y6, Vt, Yh, Yu, Ux, Y7, V9, Vm, Ju, Jk, G7, Uj, U4, U1, J3, Je, Jw, Jn, Ge, Jj, Go, Gk, G5, Jf, U3, Gj, Jg, G3, Jp, Jy, Uf, Gu, Jm, J6, J7, G8, Ub, J9, Gq, Ul, Jd, Gn, x 4, x 0, x 1, x 2, x 3, x 5, x 6, Gy, Jv, U8, Jc, G6, Jb, G1, Jl, Ga, Ui, Uc, Gf, J2, J1, Jt, Jx, Um, J4, Ua, Gt, U2, Gg, Gz, Un, Ue, Gr, U7, Uh, Jh, J0, J5, Ud, Jz, Gp, Ji, Jr, Gh, G4, Jq, Gi, Gm, Js, Ug, Jo, U5, Gb, Gs, U0, Gw, Gc, G0, G2, Gd, Uk, U6], dd⟩ _
  rw [e0]
  clear e0
  rw [e1]
  clear e1
  generalize x 2 = x137 at *
  generalize x 3 = x138 at *
  generalize x 4 = x134 at *
  rw [e5]
  clear e5
  rw [e6]
  clear e6
  rw [e7]
  clear e7
  obtain ⟨⟨r0, r1, r2, r3⟩, r4, r5, r6, r7⟩ := cellsF l29
  refine wpAnyH_ready (rs := [8]) (by kernel_rfl) (by simp) (AllReadyH.cons (o := oLB178) rfl (fun K hK => ?_) AllReadyH.nil)
  unfold oLB178
  go_simp
  refine hK.out _ _ trivial (fun hHeld => ?_)
  clear r0 r1 r2 r3 r4 r5 r6 r7
  clear hK K
  try simp only [List.setIfInBounds_toArray, List.set_cons_zero, List.set_cons_succ]
  refine wpAnyH_ready (rs := [9]) (by kernel_rfl) (by simp) (AllReadyH.cons (o := oLB179) rfl (fun K hK => ?_) AllReadyH.nil)
  unfold oLB179
  go_simp
  refine hK.out _ _ trivial (fun hHeld => ?_)
  clear hK K
  try simp only [List.setIfInBounds_toArray, List.set_cons_zero, List.set_cons_succ]
  refine wpAnyH_done (by kernel_rfl) ?_ _
  exact leaf _ _ _ _ _ _ _ _ _ _ _ _ _ (Lib.hid (below_set4 hB L29)) L29 (Lib.hid (RBox.store l29 k139))
def oLB180 : Oper := ⟨some 142, Op.load 35 (.tmp 12), 35, "law.go:120", #[], none⟩
def oLB181 : Oper := ⟨some 143, Op.move (.tmp 16), 3, "law.go:120", #[], none⟩
def oLB182 : Oper := ⟨some 144, Op.call ⟨.value (.func 39), #[.tmp 143], #[3]⟩, 35, "law.go:120", #[⟨1, .data⟩], none⟩
def oLB183 : Oper := ⟨some 145, Op.call ⟨.value (.func 26), #[.tmp 142, .tmp 144], #[35, 35]⟩, 38, "law.go:120", #[⟨0, .data⟩, ⟨2, .data⟩, ⟨2, .chain⟩], none⟩
def oLB184 : Oper := ⟨some 141, Op.move (.tmp 145), 38, "law.go:120", #[⟨3, .data⟩], none⟩
def oLB185 : Oper := ⟨some 146, Op.extract (.tmp 141) 0, 35, "law.go:120", #[⟨4, .data⟩], none⟩
def oLB186 : Oper := ⟨some 147, Op.extract (.tmp 141) 1, 37, "law.go:120", #[⟨4, .data⟩, ⟨8, .gcOnly .lateStores⟩], none⟩
def oLB187 : Oper := ⟨some 31, Op.alloc 35, 0, "law.go:120", #[], none⟩
def oLB188 : Oper := ⟨none, Op.store 35 (.tmp 31) (.tmp 146), 0, "law.go:120", #[⟨7, .data⟩, ⟨5, .data⟩, ⟨3, .chain⟩, ⟨0, .phase⟩, ⟨1, .phase⟩, ⟨2, .phase⟩, ⟨3, .phase⟩, ⟨4, .phase⟩, ⟨5, .phase⟩, ⟨6, .textOnly .lateStores⟩, ⟨7, .phase⟩], none⟩
def oLB189 : Oper := ⟨some 32, Op.assign (.tmp 147), 37, "law.go:120", #[⟨6, .data⟩, ⟨8, .chain⟩, ⟨0, .phase⟩, ⟨1, .phase⟩, ⟨2, .phase⟩, ⟨3, .phase⟩, ⟨4, .phase⟩, ⟨5, .phase⟩, ⟨6, .phase⟩, ⟨7, .phase⟩, ⟨8, .phase⟩], none⟩
def opsLB18 : Array Oper := #[oLB180, oLB181, oLB182, oLB183, oLB184, oLB185, oLB186, oLB187, oLB188, oLB189]
set_option maxHeartbeats 8000000 in
theorem regLB18 {Q : Exit → Act → World → Prop} (hQ : ∀ c a d v w, Q (.panic c) (Act.put a d v) w → Q (.panic c) a w) {W0 : World} {dd : List Deferred} {u0 u1 u2 u3 u4 u5 u6 u7 u8 u9 Vg Vd Z0 Ur V3 Yi Ys Va Uo Yq V4 Yl V0 Vv Y4 Yn Vo V1 Yd Yr Vi Vl Uz Us Yp Vj Yj Ya Vq Yk Y3 Yx Ve Vp V2 Ym Y8 Vb Z3 Y5 Uu Yv Vc Vw Vs V5 Uv Uw Vn Uy Z1 Yc Y9 Y2 Yg Y0 V8 Yb Vh Y1 V7 Z2 Ye Up Vf Vz Vr V6 Vk Yw Yt Vu Ut Vx Yf Uq Yy Yo Yz Vy Y6 Vt Yh Yu Ux Y7 V9 Vm Ju Jk G7 Uj U4 U1 J3 Je Jw Jn Ge Jj Go Gk G5 Jf U3 Gj Jg G3 Jp Jy Uf Gu Jm J6 J7 G8 Ub J9 Gq Ul Jd Gn J8 G9 Gl Ja U9 Gx Gv Gy Jv U8 Jc G6 Jb G1 Jl Ga Ui Uc Gf J2 J1 Jt Jx Um J4 Ua Gt U2 Gg Gz Un Ue Gr U7 Uh Jh J0 J5 Ud Jz Gp Ji Jr Gh G4 Jq Gi Gm Js Ug Jo U5 Gb Gs U0 Gw Gc G0 G2 Gd Uk U6 : Value} {b12 : Nat} {s12 : Bool} {a12 : Option Addr} {m12 c12 : Nat} {s12x : Bool} {a12x : Option Addr} {m12x c12x : Nat} {n16 p144 q144 : Int} {R : Int × Int × Int}
  (LD : Hid (∀ X : World, Below W0.heap.size W0 X → X.cell? ⟨b12, 0, none⟩ = some (.bool s12) ∧ X.cell? ⟨b12, 1, none⟩ = some (.slice a12 m12 c12) ∧ X.cell? ⟨b12, 2, none⟩ = some (.bool s12x) ∧ X.cell? ⟨b12, 3, none⟩ = some (.slice a12x m12x c12x)))
  (C144 : Hid (∀ X, Below W0.heap.size W0 X → Calls Tryz.prog 39 #[.int .i64 n16] X (VEnd (KF p144 q144) X)))
  (C145 : Hid (∀ X x144, Below W0.heap.size W0 X → KF p144 q144 X x144 → Calls Tryz.prog 26 #[.agg #[.bool s12, .slice a12 m12 c12, .bool s12x, .slice a12x m12x c12x], x144] X (VEnd (KTF R) X)))
  (leaf : ∀ (X : World) (x144 : Value) (x145 : Value) (x141 : Value) (sv146 tv146 : Bool) (av146 dv146 : Option Addr) (mv146 iv146 cv146 jv146 : Nat) (t31 : Nat), Hid (Below W0.heap.size W0 X) → W0.heap.size ≤ t31 → Hid (FBox X t31 R.2.1 R.2.2) → Q .normal ⟨#[u0, u1, u2, u3, u4, u5, u6, u7, u8, u9, Vg, Vd, .pointer (some ⟨b12, 0, none⟩), Z0, Ur, V3, .int .i64 n16, Yi, Ys, Va, Uo, Yq, V4, Yl, V0, Vv, Y4, Yn, Vo, V1, Yd, .pointer (some ⟨t31, 0, none⟩), .int .i64 R.1, Vl, Uz, Us, Yp, Vj, Yj, Ya, Vq, Yk, Y3, Yx, Ve, Vp, V2, Ym, Y8, Vb, Z3, Y5, Uu, Yv, Vc, Vw, Vs, V5, Uv, Uw, Vn, Uy, Z1, Yc, Y9, Y2, Yg, Y0, V8, Yb, Vh, Y1, V7, Z2, Ye, Up, Vf, Vz, Vr, V6, Vk, Yw, Yt, Vu, Ut, Vx, Yf, Uq, Yy, Yo, Yz, Vy, Y6, Vt, Yh, Yu, Ux, Y7, V9, Vm, Ju, Jk, G7, Uj, U4, U1, J3, Je, Jw, Jn, Ge, Jj, Go, Gk, G5, Jf, U3, Gj, Jg, G3, Jp, Jy, Uf, Gu, Jm, J6, J7, G8, Ub, J9, Gq, Ul, Jd, Gn, J8, G9, Gl, Ja, U9, Gx, Gv, x141, .agg #[.bool s12, .slice a12 m12 c12, .bool s12x, .slice a12x m12x c12x], .int .i64 n16, x144, x145, .agg #[.bool sv146, .slice av146 mv146 cv146, .bool tv146, .slice dv146 iv146 jv146], .int .i64 R.1, Jl, Ga, Ui, Uc, Gf, J2, J1, Jt, Jx, Um, J4, Ua, Gt, U2, Gg, Gz, Un, Ue, Gr, U7, Uh, Jh, J0, J5, Ud, Jz, Gp, Ji, Jr, Gh, G4, Jq, Gi, Gm, Js, Ug, Jo, U5, Gb, Gs, U0, Gw, Gc, G0, G2, Gd, Uk, U6], dd⟩ X) :
  (Code.region 18 opsLB18 true).wp Tryz.prog Q ⟨#[u0, u1, u2, u3, u4, u5, u6, u7, u8, u9, Vg, Vd, .pointer (some ⟨b12, 0, none⟩), Z0, Ur, V3, .int .i64 n16, Yi, Ys, Va, Uo, Yq, V4, Yl, V0, Vv, Y4, Yn, Vo, V1, Yd, Yr, Vi, Vl, Uz, Us, Yp, Vj, Yj, Ya, Vq, Yk, Y3, Yx, Ve, Vp, V2, Ym, Y8, Vb, Z3, Y5, Uu, Yv, Vc, Vw, Vs, V5, Uv, Uw, Vn, Uy, Z1, Yc, Y9, Y2, Yg, Y0, V8, Yb, Vh, Y1, V7, Z2, Ye, Up, Vf, Vz, Vr, V6, Vk, Yw, Yt, Vu, Ut, Vx, Yf, Uq, Yy, Yo, Yz, Vy, Y6, Vt, Yh, Yu, Ux, Y7, V9, Vm, Ju, Jk, G7, Uj, U4, U1, J3, Je, Jw, Jn, Ge, Jj, Go, Gk, G5, Jf, U3, Gj, Jg, G3, Jp, Jy, Uf, Gu, Jm, J6, J7, G8, Ub, J9, Gq, Ul, Jd, Gn, J8, G9, Gl, Ja, U9, Gx, Gv, Gy, Jv, U8, Jc, G6, Jb, G1, Jl, Ga, Ui, Uc, Gf, J2, J1, Jt, Jx, Um, J4, Ua, Gt, U2, Gg, Gz, Un, Ue, Gr, U7, Uh, Jh, J0, J5, Ud, Jz, Gp, Ji, Jr, Gh, G4, Jq, Gi, Gm, Js, Ug, Jo, U5, Gb, Gs, U0, Gw, Gc, G0, G2, Gd, Uk, U6], dd⟩ W0 := by
 refine region_ops (P := Tryz.prog) (ops := opsLB18) (W0 := W0) (dd := dd) (k := 8) (T := 2) (E := [1, 4, 5, 6]) (C := [0, 2, 3, 7]) (S := (fun _ => True)) (K := getK [KX (.agg #[.bool s12, .slice a12 m12 c12, .bool s12x, .slice a12x m12x c12x]), KX (.int .i64 n16), KF p144 q144, KTF R, KTF R, KF R.2.1 R.2.2, KX (.int .i64 R.1), KA W0.heap.size 35 [.bool false, .slice none 0 0, .bool false, .slice none 0 0]]) (tm := (fun x => #[u0, u1, u2, u3, u4, u5, u6, u7, u8, u9, Vg, Vd, .pointer (some ⟨b12, 0, none⟩), Z0, Ur, V3, .int .i64 n16, Yi, Ys, Va, Uo, Yq, V4, Yl, V0, Vv, Y4, Yn, Vo, V1, Yd, x 7, Vi, Vl, Uz, Us, Yp, Vj, Yj, Ya, Vq, Yk, Y3, Yx, Ve, Vp, V2, Ym, Y8, Vb, Z3, Y5, Uu, Yv, Vc, Vw, Vs, V5, Uv, Uw, Vn, Uy, Z1, Yc, Y9, Y2, Yg, Y0, V8, Yb, Vh, Y1, V7, Z2, Ye, Up, Vf, Vz, Vr, V6, Vk, Yw, Yt, Vu, Ut, Vx, Yf, Uq, Yy, Yo, Yz, Vy, Y6, Vt, Yh, Yu, Ux, Y7, V9, Vm, Ju, Jk, G7, Uj, U4, U1, J3, Je, Jw, Jn, Ge, Jj, Go, Gk, G5, Jf, U3, Gj, Jg, G3, Jp, Jy, Uf, Gu, Jm, J6, J7, G8, Ub, J9, Gq, Ul, Jd, Gn, J8, G9, Gl, Ja, U9, Gx, Gv, x 4, x 0, x 1, x 2, x 3, x 5, x 6, Jl, Ga, Ui, Uc, Gf, J2, J1, Jt, Jx, Um, J4, Ua, Gt, U2, Gg, Gz, Un, Ue, Gr, U7, Uh, Jh, J0, J5, Ud, Jz, Gp, Ji, Jr, Gh, G4, Jq, Gi, Gm, Js, Ug, Jo, U5, Gb, Gs, U0, Gw, Gc, G0, G2, Gd, Uk, U6])) (getV [Jv, U8, Jc, G6, Gy, Jb, G1, Yr]) (by kernel_rfl) (by rfl) (by kernel_rfl) (by kernel_rfl) (by kernel_rfl) (by kernel_rfl) (by kernel_rfl) hQ (fun _ _ => trivial) (getK_mono ⟨m_x, m_x, m_f, m_tf, m_tf, m_f, m_x, m_a, trivial⟩) ?eager ?call ?fin
 case eager =>
  intro i hi
  simp only [List.mem_cons, List.not_mem_nil, or_false] at hi
  rcases hi with rfl | rfl | rfl | rfl
  ·intro x w hB hd
   clear hd
   refine ⟨oLB181, (.int .i64 n16), rfl, ?_, rfl, (by first | rfl | simp [Act.put, upd])⟩
   refine Or.inl ⟨by rfl, fun _ _ => ?_⟩
   unfold oLB181
   go_simp
   try with_reducible rfl
  ·intro x w hB hd
   obtain ⟨k3, -⟩ := deps_k (ds := [3]) (by kernel_rfl) hd
   clear hd
   refine ⟨oLB184, (x 3), rfl, ?_, k3, (by first | rfl | simp [Act.put, upd])⟩
   refine Or.inl ⟨by rfl, fun _ _ => ?_⟩
   unfold oLB184
   go_simp
   try with_reducible rfl
  ·intro x w hB hd
   obtain ⟨k4, -⟩ := deps_k (ds := [4]) (by kernel_rfl) hd
   clear hd
   obtain ⟨y4, e4, hy4⟩ : KTF R w (x 4) := k4
   refine ⟨oLB185, y4, rfl, ?_, hy4, (by first | rfl | simp [Act.put, upd])⟩
   rw [e4]
   refine Or.inl ⟨by rfl, fun _ _ => ?_⟩
   unfold oLB185
   go_simp
   try with_reducible rfl
  ·intro x w hB hd
   obtain ⟨k4, -⟩ := deps_k (ds := [4]) (by kernel_rfl) hd
   clear hd
   obtain ⟨y4, e4, hy4⟩ : KTF R w (x 4) := k4
   refine ⟨oLB186, (.int .i64 R.1), rfl, ?_, rfl, (by first | rfl | simp [Act.put, upd])⟩
   rw [e4]
   refine Or.inl ⟨by rfl, fun _ _ => ?_⟩
   unfold oLB186
   go_simp
   try with_reducible rfl
 case call =>
  intro i hi
  simp only [List.mem_cons, List.not_mem_nil, or_false] at hi
  rcases hi with rfl | rfl | rfl | rfl
  ·intro x w hB hd
   clear hd
   have hLD := LD.out w hB
   obtain ⟨f0, f1, f2, f3⟩ := hLD
   refine wpOp_shut (o := oLB180) rfl (fun K' hK => ?_)
   unfold oLB180
   go_simp
   exact hK.out _ _ ⟨_, (by first | rfl | simp [upd]), Below.refl _ _, rfl⟩
  ·intro x w hB hd
   obtain ⟨k1, -⟩ := deps_k (ds := [1]) (by kernel_rfl) hd
   clear hd
   have e1 : x 1 = .int .i64 n16 := k1
   have HC := C144.out w hB
   unfold VEnd at HC
   have HC := Lib.hid HC
   refine wpOp_shut (o := oLB182) rfl (fun K' hK => ?_)
   unfold oLB182
   rw [e1]
   go_simp
   go_at_call 39
   refine HC.out.mono ?_
   rintro e w5 ⟨v5, rfl, hk5, hb5⟩
   clear HC
   go_wp2_with fail
   exact hK.out _ _ ⟨v5, (by first | rfl | simp [upd, e1]), hb5, hk5⟩
  ·intro x w hB hd
   obtain ⟨k0, k2, k2, -⟩ := deps_k (ds := [0, 2, 2]) (by kernel_rfl) hd
   clear hd
   have e0 : x 0 = .agg #[.bool s12, .slice a12 m12 c12, .bool s12x, .slice a12x m12x c12x] := k0
   have HC := C145.out w _ hB k2
   unfold VEnd at HC
   have HC := Lib.hid HC
   refine wpOp_shut (o := oLB183) rfl (fun K' hK => ?_)
   unfold oLB183
   rw [e0]
   go_simp
   go_at_call 26
   refine HC.out.mono ?_
   rintro e w5 ⟨v5, rfl, hk5, hb5⟩
   clear HC
   go_wp2_with fail
   exact hK.out _ _ ⟨v5, (by first | rfl | simp [upd, e0]), hb5, hk5⟩
  ·intro x w hB hd
   clear hd
   refine wpOp_shut (o := oLB187) rfl (fun K' hK => ?_)
   unfold oLB187
   go_simp
   exact hK.out _ _ ⟨_, (by first | rfl | simp [Act.put, upd]), below_one w (.cells #[.bool false, .slice none 0 0, .bool false, .slice none 0 0] 35), ka_new 35 [.bool false, .slice none 0 0, .bool false, .slice none 0 0] hB.size⟩
 case fin =>
  intro x w hB H
  have e0 : x 0 = .agg #[.bool s12, .slice a12 m12 c12, .bool s12x, .slice a12x m12x c12x] := H 0 (by decide)
  have e1 : x 1 = .int .i64 n16 := H 1 (by decide)
  have k144 : KF p144 q144 w (x 2) := H 2 (by decide)
  have k145 : KTF R w (x 3) := H 3 (by decide)
  have k141 : KTF R w (x 4) := H 4 (by decide)
  have k146 : KF R.2.1 R.2.2 w (x 5) := H 5 (by decide)
  obtain ⟨sv146, tv146, av146, dv146, mv146, iv146, cv146, jv146, e5⟩ := fat_shape k146
  rw [e5] at k146
  have e6 : x 6 = .int .i64 R.1 := H 6 (by decide)
  obtain ⟨t31, e7, L31, l31⟩ : KA W0.heap.size 35 [.bool false, .slice none 0 0, .bool false, .slice none 0 0] w (x 7) := H 7 (by decide)
  clear H
  show wpAnyH _ _ _ _ _ 2 #[true, true, true, true, true, true, true, true, false, false] ⟨#[u0, u1, u2, u3, u4, u5, u6, u7, u8, u9, Vg, Vd, .pointer (some ⟨b12, 0, none⟩), Z0, Ur, V3, .int .i64 n16, Yi, Ys, Va, Uo, Yq, V4, Yl, V0, Vv, Y4, Yn, Vo, V1, Yd, x 7, Vi, Vl, Uz, Us, Yp, Vj, Yj, Ya, Vq, Yk, Y3, Yx, Ve, Vp, V2, Ym, Y8, Vb, Z3, Y5, Uu, Yv, Vc, Vw, Vs, V5, Uv, Uw, Vn, Uy, Z1, Yc, Y9, Y2, Yg, Y0, V8, Yb, Vh, Y1, V7, Z2, Ye, Up, Vf, Vz, Vr, V6, Vk, Yw, Yt, Vu, Ut, Vx, Yf, Uq, Yy, Yo, Yz, Vy, Y6, Vt, Yh, Yu, Ux, Y7, V9, Vm, Ju, Jk, G7, Uj, U4, U1, J3, Je, Jw, Jn, Ge, Jj, Go, Gk, G5, Jf, U3, Gj, Jg, G3, Jp, Jy, Uf, Gu, Jm, J6, J7, G8, Ub, J9, Gq, Ul, Jd, Gn, J8, G9, Gl, Ja, U9, Gx, Gv, x 4, x 0, x 1, x 2, x 3, x 5, x 6, Jl, Ga, Ui, Uc, Gf, J2, J1, Jt, Jx, Um, J4, Ua, Gt, U2, Gg, Gz, Un, Ue, Gr, U7, Uh, Jh, J0, J5, Ud, Jz, Gp, Ji, Jr, Gh, G4, Jq, Gi, Gm, Js, Ug, Jo, U5, Gb, Gs, U0, Gw, Gc, G0, G2, Gd, Uk, U6], dd⟩ _
  rw [e0]
  clear e0
  rw [e1]
  clear e1
  generalize x 2 = x144 at *
  generalize x 3 = x145 at *
  generalize x 4 = x141 at *
  rw [e5]
  clear e5
  rw [e6]
  clear e6
  rw [e7]
  clear e7
  obtain ⟨⟨r0, r1, r2, r3⟩, r4, r5, r6, r7⟩ := cellsF l31
  refine wpAnyH_ready (rs := [8]) (by kernel_rfl) (by simp) (AllReadyH.cons (o := oLB188) rfl (fun K hK => ?_) AllReadyH.nil)
  unfold oLB188
  go_simp
  refine hK.out _ _ trivial (fun hHeld => ?_)
  clear r0 r1 r2 r3 r4 r5 r6 r7
  clear hK K
  try simp only [List.setIfInBounds_toArray, List.set_cons_zero, List.set_cons_succ]
  refine wpAnyH_ready (rs := [9]) (by kernel_rfl) (by simp) (AllReadyH.cons (o := oLB189) rfl (fun K hK => ?_) AllReadyH.nil)
  unfold oLB189
  go_simp
  refine hK.out _ _ trivial (fun hHeld => ?_)
  clear hK K
  try simp only [List.setIfInBounds_toArray, List.set_cons_zero, List.set_cons_succ]
  refine wpAnyH_done (by kernel_rfl) ?_ _
  exact leaf _ _ _ _ _ _ _ _ _ _ _ _ _ (Lib.hid (below_set4 hB L31)) L31 (Lib.hid (FBox.store l31 k146))
def oLB190 : Oper := ⟨some 149, Op.load 26 (.tmp 14), 26, "law.go:121", #[], none⟩
def oLB191 : Oper := ⟨some 150, Op.move (.tmp 16), 3, "law.go:121", #[], none⟩
def oLB192 : Oper := ⟨some 151, Op.call ⟨.value (.func 18), #[.tmp 150], #[3]⟩, 26, "law.go:121", #[⟨1, .data⟩], none⟩
def oLB193 : Oper := ⟨some 152, Op.call ⟨.value (.func 27), #[.tmp 149, .tmp 151], #[26, 26]⟩, 40, "law.go:121", #[⟨0, .data⟩, ⟨2, .data⟩, ⟨2, .chain⟩], none⟩
def oLB194 : Oper := ⟨some 148, Op.move (.tmp 152), 40, "law.go:121", #[⟨3, .data⟩], none⟩
def oLB195 : Oper := ⟨some 153, Op.extract (.tmp 148) 0, 26, "law.go:121", #[⟨4, .data⟩], none⟩
def oLB196 : Oper := ⟨some 154, Op.extract (.tmp 148) 1, 37, "law.go:121", #[⟨4, .data⟩, ⟨8, .gcOnly .lateStores⟩], none⟩
def oLB197 : Oper := ⟨some 33, Op.alloc 26, 0, "law.go:121", #[], none⟩
def oLB198 : Oper := ⟨none, Op.store 26 (.tmp 33) (.tmp 153), 0, "law.go:121", #[⟨7, .data⟩, ⟨5, .data⟩, ⟨3, .chain⟩, ⟨0, .phase⟩, ⟨1, .phase⟩, ⟨2, .phase⟩, ⟨3, .phase⟩, ⟨4, .phase⟩, ⟨5, .phase⟩, ⟨6, .textOnly .lateStores⟩, ⟨7, .phase⟩], none⟩
def oLB199 : Oper := ⟨some 34, Op.assign (.tmp 154), 37, "law.go:121", #[⟨6, .data⟩, ⟨8, .chain⟩, ⟨0, .phase⟩, ⟨1, .phase⟩, ⟨2, .phase⟩, ⟨3, .phase⟩, ⟨4, .phase⟩, ⟨5, .phase⟩, ⟨6, .phase⟩, ⟨7, .phase⟩, ⟨8, .phase⟩], none⟩
def opsLB19 : Array Oper := #[oLB190, oLB191, oLB192, oLB193, oLB194, oLB195, oLB196, oLB197, oLB198, oLB199]
set_option maxHeartbeats 8000000 in
theorem regLB19 {Q : Exit → Act → World → Prop} (hQ : ∀ c a d v w, Q (.panic c) (Act.put a d v) w → Q (.panic c) a w) {W0 : World} {dd : List Deferred} {u0 u1 u2 u3 u4 u5 u6 u7 u8 u9 Vf Vc Vu Z0 V2 Yi Ys V9 Uo Yq V3 Yl Uz Vv Y4 Yn Vn V0 Yd Yr Vh Vk Uy Ur Yp Vi Yj Ya Vp Yk Y3 Yx Vd Vo V1 Ym Y8 Va Z3 Y5 Ut Yv Vb Vw Vr V4 Uu Uv Vm Ux Z1 Yc Y9 Y2 Yg Y0 V7 Yb Vg Y1 V6 Z2 Ye Up Ve Vz Vq V5 Vj Yw Yt Vt Us Vx Yf Uq Yy Yo Yz Vy Y6 Vs Yh Yu Uw Y7 V8 Vl Ju Jk G7 Uj U4 U1 J3 Je Jw Jn Ge Jj Go Gk G5 Jf U3 Gj Jg G3 Jp Jy Uf Gu Jm J6 J7 G8 Ub J9 Gq Ul Jd Gn J8 G9 Gl Ja U9 Gx Gv Gy Jv U8 Jc G6 Jb G1 Jl Ga Ui Uc Gf J2 J1 Jt Jx Um J4 Ua Gt U2 Gg Gz Un Ue Gr U7 Uh Jh J0 J5 Ud Jz Gp Ji Jr Gh G4 Jq Gi Gm Js Ug Jo U5 Gb Gs U0 Gw Gc G0 G2 Gd Uk U6 : Value} {b14 : Nat} {s14 : Bool} {a14 : Option Addr} {m14 c14 : Nat} {s14x : Bool} {a14x : Option Addr} {m14x c14x : Nat} {n16 p151 q151 : Int} {R : Int × Int × Int}
  (LD : Hid (∀ X : World, Below W0.heap.size W0 X → X.cell? ⟨b14, 0, none⟩ = some (.bool s14) ∧ X.cell? ⟨b14, 1, none⟩ = some (.slice a14 m14 c14) ∧ X.cell? ⟨b14, 2, none⟩ = some (.bool s14x) ∧ X.cell? ⟨b14, 3, none⟩ = some (.slice a14x m14x c14x)))
  (C151 : Hid (∀ X, Below W0.heap.size W0 X → Calls Tryz.prog 18 #[.int .i64 n16] X (VEnd (KR p151 q151) X)))
  (C152 : Hid (∀ X x151, Below W0.heap.size W0 X → KR p151 q151 X x151 → Calls Tryz.prog 27 #[.agg #[.bool s14, .slice a14 m14 c14, .bool s14x, .slice a14x m14x c14x], x151] X (VEnd (KTR R) X)))
  (leaf : ∀ (X : World) (x151 : Value) (x152 : Value) (x148 : Value) (sv153 tv153 : Bool) (av153 dv153 : Option Addr) (mv153 iv153 cv153 jv153 : Nat) (t33 : Nat), Hid (Below W0.heap.size W0 X) → W0.heap.size ≤ t33 → Hid (RBox X t33 R.2.1 R.2.2) → Q .normal ⟨#[u0, u1, u2, u3, u4, u5, u6, u7, u8, u9, Vf, Vc, Vu, Z0, .pointer (some ⟨b14, 0, none⟩), V2, .int .i64 n16, Yi, Ys, V9, Uo, Yq, V3, Yl, Uz, Vv, Y4, Yn, Vn, V0, Yd, Yr, Vh, .pointer (some ⟨t33, 0, none⟩), .int .i64 R.1, Ur, Yp, Vi, Yj, Ya, Vp, Yk, Y3, Yx, Vd, Vo, V1, Ym, Y8, Va, Z3, Y5, Ut, Yv, Vb, Vw, Vr, V4, Uu, Uv, Vm, Ux, Z1, Yc, Y9, Y2, Yg, Y0, V7, Yb, Vg, Y1, V6, Z2, Ye, Up, Ve, Vz, Vq, V5, Vj, Yw, Yt, Vt, Us, Vx, Yf, Uq, Yy, Yo, Yz, Vy, Y6, Vs, Yh, Yu, Uw, Y7, V8, Vl, Ju, Jk, G7, Uj, U4, U1, J3, Je, Jw, Jn, Ge, Jj, Go, Gk, G5, Jf, U3, Gj, Jg, G3, Jp, Jy, Uf, Gu, Jm, J6, J7, G8, Ub, J9, Gq, Ul, Jd, Gn, J8, G9, Gl, Ja, U9, Gx, Gv, Gy, Jv, U8, Jc, G6, Jb, G1, x148, .agg #[.bool s14, .slice a14 m14 c14, .bool s14x, .slice a14x m14x c14x], .int .i64 n16, x151, x152, .agg #[.bool sv153, .slice av153 mv153 cv153, .bool tv153, .slice dv153 iv153 jv153], .int .i64 R.1, Jt, Jx, Um, J4, Ua, Gt, U2, Gg, Gz, Un, Ue, Gr, U7, Uh, Jh, J0, J5, Ud, Jz, Gp, Ji, Jr, Gh, G4, Jq, Gi, Gm, Js, Ug, Jo, U5, Gb, Gs, U0, Gw, Gc, G0, G2, Gd, Uk, U6], dd⟩ X) :
  (Code.region 19 opsLB19 true).wp Tryz.prog Q ⟨#[u0, u1, u2, u3, u4, u5, u6, u7, u8, u9, Vf, Vc, Vu, Z0, .pointer (some ⟨b14, 0, none⟩), V2, .int .i64 n16, Yi, Ys, V9, Uo, Yq, V3, Yl, Uz, Vv, Y4, Yn, Vn, V0, Yd, Yr, Vh, Vk, Uy, Ur, Yp, Vi, Yj, Ya, Vp, Yk, Y3, Yx, Vd, Vo, V1, Ym, Y8, Va, Z3, Y5, Ut, Yv, Vb, Vw, Vr, V4, Uu, Uv, Vm, Ux, Z1, Yc, Y9, Y2, Yg, Y0, V7, Yb, Vg, Y1, V6, Z2, Ye, Up, Ve, Vz, Vq, V5, Vj, Yw, Yt, Vt, Us, Vx, Yf, Uq, Yy, Yo, Yz, Vy, Y6, Vs, Yh, Yu, Uw, Y7, V8, Vl, Ju, Jk, G7, Uj, U4, U1, J3, Je, Jw, Jn, Ge, Jj, Go, Gk, G5, Jf, U3, Gj, Jg, G3, Jp, Jy, Uf, Gu, Jm, J6, J7, G8, Ub, J9, Gq, Ul, Jd, Gn, J8, G9, Gl, Ja, U9, Gx, Gv, Gy, Jv, U8, Jc, G6, Jb, G1, Jl, Ga, Ui, Uc, Gf, J2, J1, Jt, Jx, Um, J4, Ua, Gt, U2, Gg, Gz, Un, Ue, Gr, U7, Uh, Jh, J0, J5, Ud, Jz, Gp, Ji, Jr, Gh, G4, Jq, Gi, Gm, Js, Ug, Jo, U5, Gb, Gs, U0, Gw, Gc, G0, G2, Gd, Uk, U6], dd⟩ W0 := by
 refine region_ops (P := Tryz.prog) (ops := opsLB19) (W0 := W0) (dd := dd) (k := 8) (T := 2) (E := [1, 4, 5, 6]) (C := [0, 2, 3, 7]) (S := (fun _ => True)) (K := getK [KX (.agg #[.bool s14, .slice a14 m14 c14, .bool s14x, .slice a14x m14x c14x]), KX (.int .i64 n16), KR p151 q151, KTR R, KTR R, KR R.2.1 R.2.2, KX (.int .i64 R.1), KA W0.heap.size 26 [.bool false, .slice none 0 0, .bool false, .slice none 0 0]]) (tm := (fun x => #[u0, u1, u2, u3, u4, u5, u6, u7, u8, u9, Vf, Vc, Vu, Z0, .pointer (some ⟨b14, 0, none⟩), V2, .int .i64 n16, Yi, Ys, V9, Uo, Yq, V3, Yl, Uz, Vv, Y4, Yn, Vn, V0, Yd, Yr, Vh, x 7, Uy, Ur, Yp, Vi, Yj, Ya, Vp, Yk, Y3, Yx, Vd, Vo, V1, Ym, Y8, Va, Z3, Y5, Ut, Yv, Vb, Vw, Vr, V4, Uu, Uv, Vm, Ux, Z1, Yc, Y9, Y2, Yg, Y0, V7, Yb, Vg, Y1, V6, Z2, Ye, Up, Ve, Vz, Vq, V5, Vj, Yw, Yt, Vt, Us, Vx, Yf, Uq, Yy, Yo, Yz, Vy, Y6, Vs, Yh, Yu, Uw, Y7, V8, Vl, Ju, Jk, G7, Uj, U4, U1, J3, Je, Jw, Jn, Ge, Jj, Go, Gk, G5, Jf, U3, Gj, Jg, G3, Jp, Jy, Uf, Gu, Jm, J6, J7, G8, Ub, J9, Gq, Ul, Jd, Gn, J8, G9, Gl, Ja, U9, Gx, Gv, Gy, Jv, U8, Jc, G6, Jb, G1, x 4, x 0, x 1, x 2, x 3, x 5, x 6, Jt, Jx, Um, J4, Ua, Gt, U2, Gg, Gz, Un, Ue, Gr, U7, Uh, Jh, J0, J5, Ud, Jz, Gp, Ji, Jr, Gh, G4, Jq, Gi, Gm, Js, Ug, Jo, U5, Gb, Gs, U0, Gw, Gc, G0, G2, Gd, Uk, U6])) (getV [Ga, Ui, Uc, Gf, Jl, J2, J1, Vk]) (by kernel_rfl) (by rfl) (by kernel_rfl) (by kernel_rfl) (by kernel_rfl) (by kernel_rfl) (by kernel_rfl) hQ (fun _ _ => trivial) (getK_mono ⟨m_x, m_x, m_r, m_tr, m_tr, m_r, m_x, m_a, trivial⟩) ?eager ?call ?fin
 case eager =>
  intro i hi
  simp only [List.mem_cons, List.not_mem_nil, or_false] at hi
  rcases hi with rfl | rfl | rfl | rfl
  ·intro x w hB hd
   clear hd
   refine ⟨oLB191, (.int .i64 n16), rfl, ?_, rfl, (by first | rfl | simp [Act.put, upd])⟩
   refine Or.inl ⟨by rfl, fun _ _ => ?_⟩
   unfold oLB191
   go_simp
   try with_reducible rfl
  ·intro x w hB hd
   obtain ⟨k3, -⟩ := deps_k (ds := [3]) (by kernel_rfl) hd
   clear hd
   refine ⟨oLB194, (x 3), rfl, ?_, k3, (by first | rfl | simp [Act.put, upd])⟩
   refine Or.inl ⟨by rfl, fun _ _ => ?_⟩
   unfold oLB194
   go_simp
   try with_reducible rfl
  ·intro x w hB hd
   obtain ⟨k4, -⟩ := deps_k (ds := [4]) (by kernel_rfl) hd
   clear hd
   obtain ⟨y4, e4, hy4⟩ : KTR R w (x 4) := k4
   refine ⟨oLB195, y4, rfl, ?_, hy4, (by first | rfl | simp [Act.put, upd])⟩
   rw [e4]
   refine Or.inl ⟨by rfl, fun _ _ => ?_⟩
   unfold oLB195
   go_simp
   try with_reducible rfl
  ·intro x w hB hd
   obtain ⟨k4, -⟩ := deps_k (ds := [4]) (by kernel_rfl) hd
   clear hd
   obtain ⟨y4, e4, hy4⟩ : KTR R w (x 4) := k4
   refine ⟨oLB196, (.int .i64 R.1), rfl, ?_, rfl, (by first | rfl | simp [Act.put, upd])⟩
   rw [e4]
   refine Or.inl ⟨by rfl, fun _ _ => ?_⟩
   unfold oLB196
   go_simp
   try with_reducible rfl
 case call =>
  intro i hi
  simp only [List.mem_cons, List.not_mem_nil, or_false] at hi
  rcases hi with rfl | rfl | rfl | rfl
  ·intro x w hB hd
   clear hd
   have hLD := LD.out w hB
   obtain ⟨f0, f1, f2, f3⟩ := hLD
   refine wpOp_shut (o := oLB190) rfl (fun K' hK => ?_)
   unfold oLB190
   go_simp
   exact hK.out _ _ ⟨_, (by first | rfl | simp [upd]), Below.refl _ _, rfl⟩
  ·intro x w hB hd
   obtain ⟨k1, -⟩ := deps_k (ds := [1]) (by kernel_rfl) hd
   clear hd
   have e1 : x 1 = .int .i64 n16 := k1
   have HC := C151.out w hB
   unfold VEnd at HC
   have HC := Lib.hid HC
   refine wpOp_shut (o := oLB192) rfl (fun K' hK => ?_)
   unfold oLB192
   rw [e1]
   go_simp
   go_at_call 18
   refine HC.out.mono ?_
   rintro e w5 ⟨v5, rfl, hk5, hb5⟩
   clear HC
   go_wp2_with fail
   exact hK.out _ _ ⟨v5, (by first | rfl | simp [upd, e1]), hb5, hk5⟩
  ·intro x w hB hd
   obtain ⟨k0, k2, k2, -⟩ := deps_k (ds := [0, 2, 2]) (by kernel_rfl) hd
   clear hd
   have e0 : x 0 = .agg #[.bool s14, .slice a14 m14 c14, .bool s14x, .slice a14x m14x c14x] := k0
   have HC := C152.out w _ hB k2
   unfold VEnd at HC
   have HC := Lib.hid HC
   refine wpOp_shut (o := oLB193) rfl (fun K' hK => ?_)
   unfold oLB193
   rw [e0]
   go_simp
   go_at_call 27
   refine HC.out.mono ?_
   rintro e w5 ⟨v5, rfl, hk5, hb5⟩
   clear HC
   go_wp2_with fail
   exact hK.out _ _ ⟨v5, (by first | rfl | simp [upd, e0]), hb5, hk5⟩
  ·intro x w hB hd
   clear hd
   refine wpOp_shut (o := oLB197) rfl (fun K' hK => ?_)
   unfold oLB197
   go_simp
   exact hK.out _ _ ⟨_, (by first | rfl | simp [Act.put, upd]), below_one w (.cells #[.bool false, .slice none 0 0, .bool false, .slice none 0 0] 26), ka_new 26 [.bool false, .slice none 0 0, .bool false, .slice none 0 0] hB.size⟩
 case fin =>
  intro x w hB H
  have e0 : x 0 = .agg #[.bool s14, .slice a14 m14 c14, .bool s14x, .slice a14x m14x c14x] := H 0 (by decide)
  have e1 : x 1 = .int .i64 n16 := H 1 (by decide)
  have k151 : KR p151 q151 w (x 2) := H 2 (by decide)
  have k152 : KTR R w (x 3) := H 3 (by decide)
  have k148 : KTR R w (x 4) := H 4 (by decide)
  have k153 : KR R.2.1 R.2.2 w (x 5) := H 5 (by decide)
  obtain ⟨sv153, tv153, av153, dv153, mv153, iv153, cv153, jv153, e5⟩ := rf_shape k153
  rw [e5] at k153
  have e6 : x 6 = .int .i64 R.1 := H 6 (by decide)
  obtain ⟨t33, e7, L33, l33⟩ : KA W0.heap.size 26 [.bool false, .slice none 0 0, .bool false, .slice none 0 0] w (x 7) := H 7 (by decide)
  clear H
  show wpAnyH _ _ _ _ _ 2 #[true, true, true, true, true, true, true, true, false, false] ⟨#[u0, u1, u2, u3, u4, u5, u6, u7, u8, u9, Vf, Vc, Vu, Z0, .pointer (some ⟨b14, 0, none⟩), V2, .int .i64 n16, Yi, Ys, V9, Uo, Yq, V3, Yl, Uz, Vv, Y4, Yn, Vn, V0, Yd, Yr, Vh, x 7, Uy, Ur, Yp, Vi, Yj, Ya, Vp, Yk, Y3, Yx, Vd, Vo, V1, Ym, Y8, Va, Z3, Y5, Ut, Yv, Vb, Vw, Vr, V4, Uu, Uv, Vm, Ux, Z1, Yc, Y9, Y2, Yg, Y0, V7, Yb, Vg, Y1, V6, Z2, Ye, Up, Ve, Vz, Vq, V5, Vj, Yw, Yt, Vt, Us, Vx, Yf, Uq, Yy, Yo, Yz, Vy, Y6, Vs, Yh, Yu, Uw, Y7, V8, Vl, Ju, Jk, G7, Uj, U4, U1, J3, Je, Jw, Jn, Ge, Jj, Go, Gk, G5, Jf, U3, Gj, Jg, G3, Jp, Jy, Uf, Gu, Jm, J6, J7, G8, Ub, J9, Gq, Ul, Jd, Gn, J8, G9, Gl, Ja, U9, Gx, Gv, Gy, Jv, U8, Jc, G6, Jb, G1, x 4, x 0, x 1, x 2, x 3, x 5, x 6, Jt, Jx, Um, J4, Ua, Gt, U2, Gg, Gz, Un, Ue, Gr, U7, Uh, Jh, J0, J5, Ud, Jz, Gp, Ji, Jr, Gh, G4, Jq, Gi, Gm, Js, Ug, Jo, U5, Gb, Gs, U0, Gw, Gc, G0, G2, Gd, Uk, U6], dd⟩ _
  rw [e0]
  clear e0
  rw [e1]
  clear e1
  generalize x 2 = x151 at *
  generalize x 3 = x152 at *
  generalize x 4 = x148 at *
  rw [e5]
  clear e5
  rw [e6]
  clear e6
  rw [e7]
  clear e7
  obtain ⟨⟨r0, r1, r2, r3⟩, r4, r5, r6, r7⟩ := cellsF l33
  refine wpAnyH_ready (rs := [8]) (by kernel_rfl) (by simp) (AllReadyH.cons (o := oLB198) rfl (fun K hK => ?_) AllReadyH.nil)
  unfold oLB198
  go_simp
  refine hK.out _ _ trivial (fun hHeld => ?_)
  clear r0 r1 r2 r3 r4 r5 r6 r7
  clear hK K
  try simp only [List.setIfInBounds_toArray, List.set_cons_zero, List.set_cons_succ]
  refine wpAnyH_ready (rs := [9]) (by kernel_rfl) (by simp) (AllReadyH.cons (o := oLB199) rfl (fun K hK => ?_) AllReadyH.nil)
  unfold oLB199
  go_simp
  refine hK.out _ _ trivial (fun hHeld => ?_)
  clear hK K
  try simp only [List.setIfInBounds_toArray, List.set_cons_zero, List.set_cons_succ]
  refine wpAnyH_done (by kernel_rfl) ?_ _
  exact leaf _ _ _ _ _ _ _ _ _ _ _ _ _ (Lib.hid (below_set4 hB L33)) L33 (Lib.hid (RBox.store l33 k153))
def oLB140 : Oper := ⟨some 114, Op.load 26 (.tmp 21), 26, "law.go:116", #[], none⟩
def oLB141 : Oper := ⟨some 115, Op.call ⟨.value (.func 19), #[.tmp 114], #[26]⟩, 35, "law.go:116", #[⟨0, .data⟩], none⟩
def oLB142 : Oper := ⟨some 116, Op.load 26 (.tmp 21), 26, "law.go:116", #[], none⟩
def oLB143 : Oper := ⟨some 117, Op.call ⟨.value (.func 19), #[.tmp 116], #[26]⟩, 35, "law.go:116", #[⟨2, .data⟩, ⟨1, .chain⟩], none⟩
def oLB144 : Oper := ⟨some 118, Op.call ⟨.value (.func 24), #[.tmp 115, .tmp 117], #[35, 35]⟩, 38, "law.go:116", #[⟨1, .data⟩, ⟨3, .data⟩, ⟨3, .chain⟩], none⟩
def oLB145 : Oper := ⟨some 113, Op.move (.tmp 118), 38, "law.go:116", #[⟨4, .data⟩], none⟩
def oLB146 : Oper := ⟨some 119, Op.extract (.tmp 113) 0, 35, "law.go:116", #[⟨5, .data⟩], none⟩
def oLB147 : Oper := ⟨some 120, Op.extract (.tmp 113) 1, 37, "law.go:116", #[⟨5, .data⟩, ⟨9, .gcOnly .lateStores⟩], none⟩
def oLB148 : Oper := ⟨some 23, Op.alloc 35, 0, "law.go:116", #[], none⟩
def oLB149 : Oper := ⟨none, Op.store 35 (.tmp 23) (.tmp 119), 0, "law.go:116", #[⟨8, .data⟩, ⟨6, .data⟩, ⟨4, .chain⟩, ⟨0, .phase⟩, ⟨1, .phase⟩, ⟨2, .phase⟩, ⟨3, .phase⟩, ⟨4, .phase⟩, ⟨5, .phase⟩, ⟨6, .phase⟩, ⟨7, .textOnly .lateStores⟩, ⟨8, .phase⟩], none⟩
def oLB1410 : Oper := ⟨some 24, Op.assign (.tmp 120), 37, "law.go:116", #[⟨7, .data⟩, ⟨9, .chain⟩, ⟨0, .phase⟩, ⟨1, .phase⟩, ⟨2, .phase⟩, ⟨3, .phase⟩, ⟨4, .phase⟩, ⟨5, .phase⟩, ⟨6, .phase⟩, ⟨7, .phase⟩, ⟨8, .phase⟩, ⟨9, .phase⟩], none⟩
def opsLB14 : Array Oper := #[oLB140, oLB141, oLB142, oLB143, oLB144, oLB145, oLB146, oLB147, oLB148, oLB149, oLB1410]
set_option maxHeartbeats 8000000 in
theorem regLB14 {Q : Exit → Act → World → Prop} (hQ : ∀ c a d v w, Q (.panic c) (Act.put a d v) w → Q (.panic c) a w) {W0 : World} {dd : List Deferred} {u0 u1 u2 u3 u4 u5 u6 u7 u8 u9 Vg Vd Vv Z1 Ur V3 Yv Yj Ys Va Uo V4 Ym V0 Vw Y5 Yo Vo V1 Ye Yr Vi Vl Uz Us Yq Vj Yk Yb Vq Yl Y4 Yy Ve Vp V2 Yn Y9 Vb Z4 Y6 Uu Yw Vc Vx Vs V5 Uv Uw Vn Uy Z2 Yd Ya Y3 Yh Y1 V8 Yc Vh Y2 V7 Z3 Yf Up Vf Y0 Vr V6 Vk Yx Yt Vu Ut Vy Yg Uq Yz Yp Z0 Vz Y7 Vt Yi Yu Ux Y8 V9 Vm Ju Jk G7 Uj U4 U1 J3 Je Jw Jn Ge Jj Go Gk G5 Jf U3 Gj Jg G3 Jp Jy Uf Gu Jm J6 J7 G8 Ub J9 Gq Ul Jd Gn J8 G9 Gl Ja U9 Gx Gv Gy Jv U8 Jc G6 Jb G1 Jl Ga Ui Uc Gf J2 J1 Jt Jx Um J4 Ua Gt U2 Gg Gz Un Ue Gr U7 Uh Jh J0 J5 Ud Jz Gp Ji Jr Gh G4 Jq Gi Gm Js Ug Jo U5 Gb Gs U0 Gw Gc G0 G2 Gd Uk U6 : Value} {b21 : Nat} {s21 : Bool} {a21 : Option Addr} {m21 c21 : Nat} {s21x : Bool} {a21x : Option Addr} {m21x c21x : Nat} {p115 q115 p117 q117 : Int} {R : Int × Int × Int}
  (LD : Hid (∀ X : World, Below W0.heap.size W0 X → X.cell? ⟨b21, 0, none⟩ = some (.bool s21) ∧ X.cell? ⟨b21, 1, none⟩ = some (.slice a21 m21 c21) ∧ X.cell? ⟨b21, 2, none⟩ = some (.bool s21x) ∧ X.cell? ⟨b21, 3, none⟩ = some (.slice a21x m21x c21x)))
  (C115 : Hid (∀ X, Below W0.heap.size W0 X → Calls Tryz.prog 19 #[.agg #[.bool s21, .slice a21 m21 c21, .bool s21x, .slice a21x m21x c21x]] X (VEnd (KF p115 q115) X)))
  (C117 : Hid (∀ X, Below W0.heap.size W0 X → Calls Tryz.prog 19 #[.agg #[.bool s21, .slice a21 m21 c21, .bool s21x, .slice a21x m21x c21x]] X (VEnd (KF p117 q117) X)))
  (C118 : Hid (∀ X x115 x117, Below W0.heap.size W0 X → KF p115 q115 X x115 → KF p117 q117 X x117 → Calls Tryz.prog 24 #[x115, x117] X (VEnd (KTF R) X)))
  (leaf : ∀ (X : World) (x115 : Value) (x117 : Value) (x118 : Value) (x113 : Value) (sv119 tv119 : Bool) (av119 dv119 : Option Addr) (mv119 iv119 cv119 jv119 : Nat) (t23 : Nat), Hid (Below W0.heap.size W0 X) → W0.heap.size ≤ t23 → Hid (FBox X t23 R.2.1 R.2.2) → Q .normal ⟨#[u0, u1, u2, u3, u4, u5, u6, u7, u8, u9, Vg, Vd, Vv, Z1, Ur, V3, Yv, Yj, Ys, Va, Uo, .pointer (some ⟨b21, 0, none⟩), V4, .pointer (some ⟨t23, 0, none⟩), .int .i64 R.1, Vw, Y5, Yo, Vo, V1, Ye, Yr, Vi, Vl, Uz, Us, Yq, Vj, Yk, Yb, Vq, Yl, Y4, Yy, Ve, Vp, V2, Yn, Y9, Vb, Z4, Y6, Uu, Yw, Vc, Vx, Vs, V5, Uv, Uw, Vn, Uy, Z2, Yd, Ya, Y3, Yh, Y1, V8, Yc, Vh, Y2, V7, Z3, Yf, Up, Vf, Y0, Vr, V6, Vk, Yx, Yt, Vu, Ut, Vy, Yg, Uq, Yz, Yp, Z0, Vz, Y7, Vt, Yi, Yu, Ux, Y8, V9, Vm, Ju, Jk, G7, Uj, U4, U1, J3, Je, Jw, Jn, Ge, Jj, Go, x113, .agg #[.bool s21, .slice a21 m21 c21, .bool s21x, .slice a21x m21x c21x], x115, .agg #[.bool s21, .slice a21 m21 c21, .bool s21x, .slice a21x m21x c21x], x117, x118, .agg #[.bool sv119, .slice av119 mv119 cv119, .bool tv119, .slice dv119 iv119 jv119], .int .i64 R.1, Jy, Uf, Gu, Jm, J6, J7, G8, Ub, J9, Gq, Ul, Jd, Gn, J8, G9, Gl, Ja, U9, Gx, Gv, Gy, Jv, U8, Jc, G6, Jb, G1, Jl, Ga, Ui, Uc, Gf, J2, J1, Jt, Jx, Um, J4, Ua, Gt, U2, Gg, Gz, Un, Ue, Gr, U7, Uh, Jh, J0, J5, Ud, Jz, Gp, Ji, Jr, Gh, G4, Jq, Gi, Gm, Js, Ug, Jo, U5, Gb, Gs, U0, Gw, Gc, G0, G2, Gd, Uk, U6], dd⟩ X) :
  (Code.region 14 opsLB14 true).wp Tryz.prog Q ⟨#[u0, u1, u2, u3, u4, u5, u6, u7, u8, u9, Vg, Vd, Vv, Z1, Ur, V3, Yv, Yj, Ys, Va, Uo, .pointer (some ⟨b21, 0, none⟩), V4, Ym, V0, Vw, Y5, Yo, Vo, V1, Ye, Yr, Vi, Vl, Uz, Us, Yq, Vj, Yk, Yb, Vq, Yl, Y4, Yy, Ve, Vp, V2, Yn, Y9, Vb, Z4, Y6, Uu, Yw, Vc, Vx, Vs, V5, Uv, Uw, Vn, Uy, Z2, Yd, Ya, Y3, Yh, Y1, V8, Yc, Vh, Y2, V7, Z3, Yf, Up, Vf, Y0, Vr, V6, Vk, Yx, Yt, Vu, Ut, Vy, Yg, Uq, Yz, Yp, Z0, Vz, Y7, Vt, Yi, Yu, Ux, Y8, V9, Vm, Ju, Jk, G7, Uj, U4, U1, J3, Je, Jw, Jn, Ge, Jj, Go, Gk, G5, Jf, U3, Gj, Jg, G3, Jp, Jy, Uf, Gu, Jm, J6, J7, G8, Ub, J9, Gq, Ul, Jd, Gn, J8, G9, Gl, Ja, U9, Gx, Gv, Gy, Jv, U8, Jc, G6, Jb, G1, Jl, Ga, Ui, Uc, Gf, J2, J1, Jt, Jx, Um, J4, Ua, Gt, U2, Gg, Gz, Un, Ue, Gr, U7, Uh, Jh, J0, J5, Ud, Jz, Gp, Ji, Jr, Gh, G4, Jq, Gi, Gm, Js, Ug, Jo, U5, Gb, Gs, U0, Gw, Gc, G0, G2, Gd, Uk, U6], dd⟩ W0 := by
 refine region_ops (P := Tryz.prog) (ops := opsLB14) (W0 := W0) (dd := dd) (k := 9) (T := 2) (E := [5, 6, 7]) (C := [0, 1, 2, 3, 4, 8]) (S := (fun _ => True)) (K := getK [KX (.agg #[.bool s21, .slice a21 m21 c21, .bool s21x, .slice a21x m21x c21x]), KF p115 q115, KX (.agg #[.bool s21, .slice a21 m21 c21, .bool s21x, .slice a21x m21x c21x]), KF p117 q117, KTF R, KTF R, KF R.2.1 R.2.2, KX (.int .i64 R.1), KA W0.heap.size 35 [.bool false, .slice none 0 0, .bool false, .slice none 0 0]]) (tm := (fun x => #[u0, u1, u2, u3, u4, u5, u6, u7, u8, u9, Vg, Vd, Vv, Z1, Ur, V3, Yv, Yj, Ys, Va, Uo, .pointer (some ⟨b21, 0, none⟩), V4, x 8, V0, Vw, Y5, Yo, Vo, V1, Ye, Yr, Vi, Vl, Uz, Us, Yq, Vj, Yk, Yb, Vq, Yl, Y4, Yy, Ve, Vp, V2, Yn, Y9, Vb, Z4, Y6, Uu, Yw, Vc, Vx, Vs, V5, Uv, Uw, Vn, Uy, Z2, Yd, Ya, Y3, Yh, Y1, V8, Yc, Vh, Y2, V7, Z3, Yf, Up, Vf, Y0, Vr, V6, Vk, Yx, Yt, Vu, Ut, Vy, Yg, Uq, Yz, Yp, Z0, Vz, Y7, Vt, Yi, Yu, Ux, Y8, V9, Vm, Ju, Jk, G7, Uj, U4, U1, J3, Je, Jw, Jn, Ge, Jj, Go, x 5, x 0, x 1, x 2, x 3, x 4, x 6, x 7, Jy, Uf, Gu, Jm, J6, J7, G8, Ub, J9, Gq, Ul, Jd, Gn, J8, G9, Gl, Ja, U9, Gx, Gv, Gy, Jv, U8, Jc, G6, Jb, G1, Jl, Ga, Ui, Uc, Gf, J2, J1, Jt, Jx, Um, J4, Ua, Gt, U2, Gg, Gz, Un, Ue, Gr, U7, Uh, Jh, J0, J5, Ud, Jz, Gp, Ji, Jr, Gh, G4, Jq, Gi, Gm, Js, Ug, Jo, U5, Gb, Gs, U0, Gw, Gc, G0, G2, Gd, Uk, U6])) (getV [G5, Jf, U3, Gj, Jg, Gk, G3, Jp, Ym]) (by kernel_rfl) (by rfl) (by kernel_rfl) (by kernel_rfl) (by kernel_rfl) (by kernel_rfl) (by kernel_rfl) hQ (fun _ _ => trivial) (getK_mono ⟨m_x, m_f, m_x, m_f, m_tf, m_tf, m_f, m_x, m_a, trivial⟩) ?eager ?call ?fin
 case eager =>
  intro i hi
  simp only [List.mem_cons, List.not_mem_nil, or_false] at hi
  rcases hi with rfl | rfl | rfl
  ·intro x w hB hd
   obtain ⟨k4, -⟩ := deps_k (ds := [4]) (by kernel_rfl) hd
   clear hd
   refine ⟨oLB145, (x 4), rfl, ?_, k4, (by first | rfl | simp [Act.put, upd])⟩
   refine Or.inl ⟨by rfl, fun _ _ => ?_⟩
   unfold oLB145
   go_simp
   try with_reducible rfl
  ·intro x w hB hd
   obtain ⟨k5, -⟩ := deps_k (ds := [5]) (by kernel_rfl) hd
   clear hd
   obtain ⟨y5, e5, hy5⟩ : KTF R w (x 5) := k5
   refine ⟨oLB146, y5, rfl, ?_, hy5, (by first | rfl | simp [Act.put, upd])⟩
   rw [e5]
   refine Or.inl ⟨by rfl, fun _ _ => ?_⟩
   unfold oLB146
   go_simp
   try with_reducible rfl
  ·intro x w hB hd
   obtain ⟨k5, -⟩ := deps_k (ds := [5]) (by kernel_rfl) hd
   clear hd
   obtain ⟨y5, e5, hy5⟩ : KTF R w (x 5) := k5
   refine ⟨oLB147, (.int .i64 R.1), rfl, ?_, rfl, (by first | rfl | simp [Act.put, upd])⟩
   rw [e5]
   refine Or.inl ⟨by rfl, fun _ _ => ?_⟩
   unfold oLB147
   go_simp
   try with_reducible rfl
 case call =>
  intro i hi
  simp only [List.mem_cons, List.not_mem_nil, or_false] at hi
  rcases hi with rfl | rfl | rfl | rfl | rfl | rfl
  ·intro x w hB hd
   clear hd
   have hLD := LD.out w hB
   obtain ⟨f0, f1, f2, f3⟩ := hLD
   refine wpOp_shut (o := oLB140) rfl (fun K' hK => ?_)
   unfold oLB140
   go_simp
   exact hK.out _ _ ⟨_, (by first | rfl | simp [upd]), Below.refl _ _, rfl⟩
  ·intro x w hB hd
   obtain ⟨k0, -⟩ := deps_k (ds := [0]) (by kernel_rfl) hd
   clear hd
   have e0 : x 0 = .agg #[.bool s21, .slice a21 m21 c21, .bool s21x, .slice a21x m21x c21x] := k0
   have HC := C115.out w hB
   unfold VEnd at HC
   have HC := Lib.hid HC
   refine wpOp_shut (o := oLB141) rfl (fun K' hK => ?_)
   unfold oLB141
   rw [e0]
   go_simp
   go_at_call 19
   refine HC.out.mono ?_
   rintro e w5 ⟨v5, rfl, hk5, hb5⟩
   clear HC
   go_wp2_with fail
   exact hK.out _ _ ⟨v5, (by first | rfl | simp [upd, e0]), hb5, hk5⟩
  ·intro x w hB hd
   clear hd
   have hLD := LD.out w hB
   obtain ⟨f0, f1, f2, f3⟩ := hLD
   refine wpOp_shut (o := oLB142) rfl (fun K' hK => ?_)
   unfold oLB142
   go_simp
   exact hK.out _ _ ⟨_, (by first | rfl | simp [upd]), Below.refl _ _, rfl⟩
  ·intro x w hB hd
   obtain ⟨k2, k1, -⟩ := deps_k (ds := [2, 1]) (by kernel_rfl) hd
   clear hd
   have e2 : x 2 = .agg #[.bool s21, .slice a21 m21 c21, .bool s21x, .slice a21x m21x c21x] := k2
   have HC := C117.out w hB
   unfold VEnd at HC
   have HC := Lib.hid HC
   refine wpOp_shut (o := oLB143) rfl (fun K' hK => ?_)
   unfold oLB143
   rw [e2]
   go_simp
   go_at_call 19
   refine HC.out.mono ?_
   rintro e w5 ⟨v5, rfl, hk5, hb5⟩
   clear HC
   go_wp2_with fail
   exact hK.out _ _ ⟨v5, (by first | rfl | simp [upd, e2]), hb5, hk5⟩
  ·intro x w hB hd
   obtain ⟨k1, k3, k3, -⟩ := deps_k (ds := [1, 3, 3]) (by kernel_rfl) hd
   clear hd
   have HC := C118.out w _ _ hB k1 k3
   unfold VEnd at HC
   have HC := Lib.hid HC
   refine wpOp_shut (o := oLB144) rfl (fun K' hK => ?_)
   unfold oLB144
   go_simp
   go_at_call 24
   refine HC.out.mono ?_
   rintro e w5 ⟨v5, rfl, hk5, hb5⟩
   clear HC
   go_wp2_with fail
   exact hK.out _ _ ⟨v5, (by first | rfl | simp [upd]), hb5, hk5⟩
  ·intro x w hB hd
   clear hd
   refine wpOp_shut (o := oLB148) rfl (fun K' hK => ?_)
   unfold oLB148
   go_simp
   exact hK.out _ _ ⟨_, (by first | rfl | simp [Act.put, upd]), below_one w (.cells #[.bool false, .slice none 0 0, .bool false, .slice none 0 0] 35), ka_new 35 [.bool false, .slice none 0 0, .bool false, .slice none 0 0] hB.size⟩
 case fin =>
  intro x w hB H
  have e0 : x 0 = .agg #[.bool s21, .slice a21 m21 c21, .bool s21x, .slice a21x m21x c21x] := H 0 (by decide)
  have k115 : KF p115 q115 w (x 1) := H 1 (by decide)
  have e2 : x 2 = .agg #[.bool s21, .slice a21 m21 c21, .bool s21x, .slice a21x m21x c21x] := H 2 (by decide)
  have k117 : KF p117 q117 w (x 3) := H 3 (by decide)
  have k118 : KTF R w (x 4) := H 4 (by decide)
  have k113 : KTF R w (x 5) := H 5 (by decide)
  have k119 : KF R.2.1 R.2.2 w (x 6) := H 6 (by decide)
  obtain ⟨sv119, tv119, av119, dv119, mv119, iv119, cv119, jv119, e6⟩ := fat_shape k119
  rw [e6] at k119
  have e7 : x 7 = .int .i64 R.1 := H 7 (by decide)
  obtain ⟨t23, e8, L23, l23⟩ : KA W0.heap.size 35 [.bool false, .slice none 0 0, .bool false, .slice none 0 0] w (x 8) := H 8 (by decide)
  clear H
  show wpAnyH _ _ _ _ _ 2 #[true, true, true, true, true, true, true, true, true, false, false] ⟨#[u0, u1, u2, u3, u4, u5, u6, u7, u8, u9, Vg, Vd, Vv, Z1, Ur, V3, Yv, Yj, Ys, Va, Uo, .pointer (some ⟨b21, 0, none⟩), V4, x 8, V0, Vw, Y5, Yo, Vo, V1, Ye, Yr, Vi, Vl, Uz, Us, Yq, Vj, Yk, Yb, Vq, Yl, Y4, Yy, Ve, Vp, V2, Yn, Y9, Vb, Z4, Y6, Uu, Yw, Vc, Vx, Vs, V5, Uv, Uw, Vn, Uy, Z2, Yd, Ya, Y3, Yh, Y1, V8, Yc, Vh, Y2, V7, Z3, Yf, Up, Vf, Y0, Vr, V6, Vk, Yx, Yt, Vu, Ut, Vy, Yg, Uq, Yz, Yp, Z0, Vz, Y7, Vt, Yi, Yu, Ux, Y8, V9, Vm, Ju, Jk, G7, Uj, U4, U1, J3, Je, Jw, Jn, Ge, Jj, Go, x 5, x 0, x 1, x 2, x 3, x 4, x 6, x 7, Jy, Uf, Gu, Jm, J6, J7, G8, Ub, J9, Gq, Ul, Jd, Gn, J8, G9, Gl, Ja, U9, Gx, Gv, Gy, Jv, U8, Jc, G6, Jb, G1, Jl, Ga, Ui, Uc, Gf, J2, J1, Jt, Jx, Um, J4, Ua, Gt, U2, Gg, Gz, Un, Ue, Gr, U7, Uh, Jh, J0, J5, Ud, Jz, Gp, Ji, Jr, Gh, G4, Jq, Gi, Gm, Js, Ug, Jo, U5, Gb, Gs, U0, Gw, Gc, G0, G2, Gd, Uk, U6], dd⟩ _
  rw [e0]
  clear e0
  generalize x 1 = x115 at *
  rw [e2]
  clear e2
  generalize x 3 = x117 at *
  generalize x 4 = x118 at *
  generalize x 5 = x113 at *
  rw [e6]
  clear e6
  rw [e7]
  clear e7
  rw [e8]
  clear e8
  obtain ⟨⟨r0, r1, r2, r3⟩, r4, r5, r6, r7⟩ := cellsF l23
  refine wpAnyH_ready (rs := [9]) (by kernel_rfl) (by simp) (AllReadyH.cons (o := oLB149) rfl (fun K hK => ?_) AllReadyH.nil)
  unfold oLB149
  go_simp
  refine hK.out _ _ trivial (fun hHeld => ?_)
  clear r0 r1 r2 r3 r4 r5 r6 r7
  clear hK K
  try simp only [List.setIfInBounds_toArray, List.set_cons_zero, List.set_cons_succ]
  refine wpAnyH_ready (rs := [10]) (by kernel_rfl) (by simp) (AllReadyH.cons (o := oLB1410) rfl (fun K hK => ?_) AllReadyH.nil)
  unfold oLB1410
  go_simp
  refine hK.out _ _ trivial (fun hHeld => ?_)
  clear hK K
  try simp only [List.setIfInBounds_toArray, List.set_cons_zero, List.set_cons_succ]
  refine wpAnyH_done (by kernel_rfl) ?_ _
  exact leaf _ _ _ _ _ _ _ _ _ _ _ _ _ _ (Lib.hid (below_set4 hB L23)) L23 (Lib.hid (FBox.store l23 k119))
end Go.Proofs.YtajehlgclnocoaaGreatDoor
