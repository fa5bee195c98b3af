/-
 Laws of drawn regions: package frac, its reference, the laws' helpers (genRgm.py makes this text).
-/
import Derived.Test.YtepakogbbomaoaaGreatDoorRgAO
namespace Go.Proofs.YtepakogbbomaoaaGreatDoor
open Go.RowKit Go.Shelf
set_option linter.unusedVariables false
set_option maxRecDepth 100000
def oFSu0 : Oper := ⟨some 6, Op.load 34 (.tmp 2), 34, "frac.go:54", #[], none⟩
def oFSu1 : Oper := ⟨some 7, Op.fieldAddr 34 (.tmp 3) 0, 0, "frac.go:54", #[], none⟩
def oFSu2 : Oper := ⟨some 8, Op.load 32 (.tmp 7), 32, "frac.go:54", #[⟨1, .data⟩], none⟩
def oFSu3 : Oper := ⟨some 9, Op.call ⟨.value (.func 51), #[.tmp 8], #[32]⟩, 32, "frac.go:54", #[⟨2, .data⟩], none⟩
def oFSu4 : Oper := ⟨some 10, Op.fieldAddr 34 (.tmp 3) 1, 0, "frac.go:54", #[], none⟩
def oFSu5 : Oper := ⟨some 11, Op.load 32 (.tmp 10), 32, "frac.go:54", #[⟨4, .data⟩], none⟩
def oFSu6 : Oper := ⟨some 12, Op.build 34 #[(0, .tmp 9), (1, .tmp 11)], 34, "frac.go:54", #[⟨3, .data⟩, ⟨5, .data⟩], none⟩
def oFSu7 : Oper := ⟨some 13, Op.call ⟨.value (.func 12), #[.tmp 6, .tmp 12], #[34, 34]⟩, 42, "frac.go:54", #[⟨0, .data⟩, ⟨6, .data⟩, ⟨3, .chain⟩], none⟩
def oFSu8 : Oper := ⟨some 14, Op.extract (.tmp 13) 0, 34, "frac.go:54", #[⟨7, .data⟩], none⟩
def oFSu9 : Oper := ⟨some 15, Op.extract (.tmp 13) 1, 41, "frac.go:54", #[⟨7, .data⟩], none⟩
def oFSu10 : Oper := ⟨none, Op.store 34 (.tmp 4) (.tmp 14), 0, "frac.go:54", #[⟨8, .data⟩, ⟨7, .chain⟩, ⟨0, .phase⟩, ⟨1, .phase⟩, ⟨2, .phase⟩, ⟨3, .phase⟩, ⟨4, .phase⟩, ⟨5, .phase⟩, ⟨6, .phase⟩, ⟨7, .phase⟩, ⟨8, .phase⟩, ⟨9, .phase⟩], none⟩
def oFSu11 : Oper := ⟨some 5, Op.assign (.tmp 15), 41, "frac.go:54", #[⟨9, .data⟩, ⟨10, .chain⟩, ⟨0, .phase⟩, ⟨1, .phase⟩, ⟨2, .phase⟩, ⟨3, .phase⟩, ⟨4, .phase⟩, ⟨5, .phase⟩, ⟨6, .phase⟩, ⟨7, .phase⟩, ⟨8, .phase⟩, ⟨9, .phase⟩, ⟨10, .phase⟩], none⟩
def opsFSu : Array Oper := #[oFSu0, oFSu1, oFSu2, oFSu3, oFSu4, oFSu5, oFSu6, oFSu7, oFSu8, oFSu9, oFSu10, oFSu11]
set_option maxHeartbeats 8000000 in
theorem regFSu {Q : Exit → Act → World → Prop} (hQ : ∀ c a d v w, Q (.panic c) (Act.put a d v) w → Q (.panic c) a w) {W0 : World} {dd : List Deferred} {u0 u1 u5 u6 u7 u8 u9 G0 G5 G1 G2 G4 G3 : Value} {b2 : Nat} {s2 : Bool} {a2 : Option Addr} {m2 c2 : Nat} {s2x : Bool} {a2x : Option Addr} {m2x c2x : Nat} {b3 : Nat} {s3 : Bool} {a3 : Option Addr} {m3 c3 : Nat} {s3x : Bool} {a3x : Option Addr} {m3x c3x : Nat} {b4 : Nat} {z9 q12 : Int} {R : Int × Int × Int}
  (LD : Hid (∀ X : World, Below W0.heap.size W0 X → X.cell? ⟨b2, 0, none⟩ = some (.bool s2) ∧ X.cell? ⟨b2, 1, none⟩ = some (.slice a2 m2 c2) ∧ X.cell? ⟨b2, 2, none⟩ = some (.bool s2x) ∧ X.cell? ⟨b2, 3, none⟩ = some (.slice a2x m2x c2x) ∧ X.cell? ⟨b3, 0, none⟩ = some (.bool s3) ∧ X.cell? ⟨b3, 1, none⟩ = some (.slice a3 m3 c3) ∧ X.cell? ⟨b3, 2, none⟩ = some (.bool s3x) ∧ X.cell? ⟨b3, 3, none⟩ = some (.slice a3x m3x c3x)))
  (HR4 : Hid (∀ X : World, Below W0.heap.size W0 X → Laid X b4 34 [.bool false, .slice none 0 0, .bool false, .slice none 0 0]))
  (ID : Hid (∀ X, Below W0.heap.size W0 X → IAt X (.agg #[.bool s3x, .slice a3x m3x c3x]) (denZ q12)))
  (C9 : Hid (∀ X, Below W0.heap.size W0 X → Calls Tryz.prog 51 #[.agg #[.bool s3, .slice a3 m3 c3]] X (VEnd (KI z9) X)))
  (C13 : Hid (∀ X x12, Below W0.heap.size W0 X → KF z9 q12 X x12 → Calls Tryz.prog 12 #[.agg #[.bool s2, .slice a2 m2 c2, .bool s2x, .slice a2x m2x c2x], x12] X (VEnd (KTF R) X)))
  (leaf : ∀ (X : World) (x9 : Value) (x12 : Value) (x13 : Value) (sv14 tv14 : Bool) (av14 dv14 : Option Addr) (mv14 iv14 cv14 jv14 : Nat), Hid (Below W0.heap.size W0 X) → Hid (KF R.2.1 R.2.2 X (.agg #[.bool sv14, .slice av14 mv14 cv14, .bool tv14, .slice dv14 iv14 jv14])) → Q .normal ⟨#[u0, u1, .pointer (some ⟨b2, 0, none⟩), .pointer (some ⟨b3, 0, none⟩), .pointer (some ⟨b4, 0, none⟩), .int .i64 R.1, .agg #[.bool s2, .slice a2 m2 c2, .bool s2x, .slice a2x m2x c2x], .pointer (some ⟨b3, 0, none⟩), .agg #[.bool s3, .slice a3 m3 c3], x9, .pointer (some ⟨b3, 2, none⟩), .agg #[.bool s3x, .slice a3x m3x c3x], x12, x13, .agg #[.bool sv14, .slice av14 mv14 cv14, .bool tv14, .slice dv14 iv14 jv14], .int .i64 R.1], dd⟩ ((((X.setCell ⟨b4, 0, none⟩ (.bool sv14)).setCell ⟨b4, 1, none⟩ (.slice av14 mv14 cv14)).setCell ⟨b4, 2, none⟩ (.bool tv14)).setCell ⟨b4, 3, none⟩ (.slice dv14 iv14 jv14))) :
  (Code.region 1 opsFSu true).wp Tryz.prog Q ⟨#[u0, u1, .pointer (some ⟨b2, 0, none⟩), .pointer (some ⟨b3, 0, none⟩), .pointer (some ⟨b4, 0, none⟩), u5, u6, u7, u8, u9, G0, G5, G1, G2, G4, G3], dd⟩ W0 := by
 refine region_ops (P := Tryz.prog) (ops := opsFSu) (W0 := W0) (dd := dd) (k := 10) (T := 2) (E := [1, 4, 6, 8, 9]) (C := [0, 2, 3, 5, 7]) (S := (fun _ => True)) (K := getK [KX (.agg #[.bool s2, .slice a2 m2 c2, .bool s2x, .slice a2x m2x c2x]), KX (.pointer (some ⟨b3, 0, none⟩)), KX (.agg #[.bool s3, .slice a3 m3 c3]), KI z9, KX (.pointer (some ⟨b3, 2, none⟩)), KX (.agg #[.bool s3x, .slice a3x m3x c3x]), KF z9 q12, KTF R, KF R.2.1 R.2.2, KX (.int .i64 R.1)]) (tm := (fun x => #[u0, u1, .pointer (some ⟨b2, 0, none⟩), .pointer (some ⟨b3, 0, none⟩), .pointer (some ⟨b4, 0, none⟩), u5, x 0, x 1, x 2, x 3, x 4, x 5, x 6, x 7, x 8, x 9])) (getV [u6, u7, u8, u9, G0, G5, G1, G2, G4, G3]) (by kernel_rfl) (by rfl) (by kernel_rfl) (by kernel_rfl) (by kernel_rfl) (by kernel_rfl) (by kernel_rfl) hQ (fun _ _ => trivial) (getK_mono ⟨m_x, m_x, m_x, m_i, m_x, m_x, m_f, m_tf, m_f, m_x, trivial⟩) ?eager ?call ?fin
 case eager =>
  intro i hi
  simp only [List.mem_cons, List.not_mem_nil, or_false] at hi
  rcases hi with rfl | rfl | rfl | rfl | rfl
  ·intro x w hB hd
   clear hd
   refine ⟨oFSu1, (.pointer (some ⟨b3, 0, none⟩)), rfl, ?_, rfl, (by first | rfl | simp [Act.put, upd])⟩
   refine Or.inl ⟨by rfl, fun _ _ => ?_⟩
   unfold oFSu1
   go_simp
   try with_reducible rfl
  ·intro x w hB hd
   clear hd
   refine ⟨oFSu4, (.pointer (some ⟨b3, 2, none⟩)), rfl, ?_, rfl, (by first | rfl | simp [Act.put, upd])⟩
   refine Or.inl ⟨by rfl, fun _ _ => ?_⟩
   unfold oFSu4
   go_simp
   try with_reducible rfl
  ·intro x w hB hd
   obtain ⟨k3, k5, -⟩ := deps_k (ds := [3, 5]) (by kernel_rfl) hd
   clear hd
   have hy3 : KI z9 w (x 3) := k3
   obtain ⟨o3a, o3b, o3c, o3d, e3⟩ := iat_shape hy3
   have e5 : x 5 = .agg #[.bool s3x, .slice a3x m3x c3x] := k5
   refine ⟨oFSu6, (.agg #[.bool o3a, .slice o3b o3c o3d, .bool s3x, .slice a3x m3x c3x]), rfl, ?_, fat_of (e3 ▸ hy3) (ID.out w hB), (by first | rfl | simp [Act.put, upd])⟩
   rw [e3]
   rw [e5]
   refine Or.inl ⟨by rfl, fun _ _ => ?_⟩
   unfold oFSu6
   go_simp
   try with_reducible rfl
  ·intro x w hB hd
   obtain ⟨k7, -⟩ := deps_k (ds := [7]) (by kernel_rfl) hd
   clear hd
   obtain ⟨y7, e7, hy7⟩ : KTF R w (x 7) := k7
   refine ⟨oFSu8, y7, rfl, ?_, hy7, (by first | rfl | simp [Act.put, upd])⟩
   rw [e7]
   refine Or.inl ⟨by rfl, fun _ _ => ?_⟩
   unfold oFSu8
   go_simp
   try with_reducible rfl
  ·intro x w hB hd
   obtain ⟨k7, -⟩ := deps_k (ds := [7]) (by kernel_rfl) hd
   clear hd
   obtain ⟨y7, e7, hy7⟩ : KTF R w (x 7) := k7
   refine ⟨oFSu9, (.int .i64 R.1), rfl, ?_, rfl, (by first | rfl | simp [Act.put, upd])⟩
   rw [e7]
   refine Or.inl ⟨by rfl, fun _ _ => ?_⟩
   unfold oFSu9
   go_simp
   try with_reducible rfl
 case call =>
  intro i hi
  simp only [List.mem_cons, List.not_mem_nil, or_false] at hi
  rcases hi with rfl | rfl | rfl | rfl | rfl
  ·intro x w hB hd
   clear hd
   have hLD := LD.out w hB
   obtain ⟨f0, f1, f2, f3, f4, f5, f6, f7⟩ := hLD
   refine wpOp_shut (o := oFSu0) rfl (fun K' hK => ?_)
   unfold oFSu0
   go_simp
   exact hK.out _ _ ⟨_, (by first | rfl | simp [upd]), Below.refl _ _, rfl⟩
  ·intro x w hB hd
   obtain ⟨k1, -⟩ := deps_k (ds := [1]) (by kernel_rfl) hd
   clear hd
   have e1 : x 1 = .pointer (some ⟨b3, 0, none⟩) := k1
   have hLD := LD.out w hB
   obtain ⟨f0, f1, f2, f3, f4, f5, f6, f7⟩ := hLD
   refine wpOp_shut (o := oFSu2) rfl (fun K' hK => ?_)
   unfold oFSu2
   rw [e1]
   go_simp
   exact hK.out _ _ ⟨_, (by first | rfl | simp [upd, e1]), Below.refl _ _, rfl⟩
  ·intro x w hB hd
   obtain ⟨k2, -⟩ := deps_k (ds := [2]) (by kernel_rfl) hd
   clear hd
   have e2 : x 2 = .agg #[.bool s3, .slice a3 m3 c3] := k2
   have HC := C9.out w hB
   unfold VEnd at HC
   have HC := Lib.hid HC
   refine wpOp_shut (o := oFSu3) rfl (fun K' hK => ?_)
   unfold oFSu3
   rw [e2]
   go_simp
   go_at_call 51
   refine HC.out.mono ?_
   rintro e w5 ⟨v5, rfl, hk5, hb5⟩
   clear HC
   go_wp2_with fail
   exact hK.out _ _ ⟨v5, (by first | rfl | simp [upd, e2]), hb5, hk5⟩
  ·intro x w hB hd
   obtain ⟨k4, -⟩ := deps_k (ds := [4]) (by kernel_rfl) hd
   clear hd
   have e4 : x 4 = .pointer (some ⟨b3, 2, none⟩) := k4
   have hLD := LD.out w hB
   obtain ⟨f0, f1, f2, f3, f4, f5, f6, f7⟩ := hLD
   refine wpOp_shut (o := oFSu5) rfl (fun K' hK => ?_)
   unfold oFSu5
   rw [e4]
   go_simp
   exact hK.out _ _ ⟨_, (by first | rfl | simp [upd, e4]), Below.refl _ _, rfl⟩
  ·intro x w hB hd
   obtain ⟨k0, k6, k3, -⟩ := deps_k (ds := [0, 6, 3]) (by kernel_rfl) hd
   clear hd
   have e0 : x 0 = .agg #[.bool s2, .slice a2 m2 c2, .bool s2x, .slice a2x m2x c2x] := k0
   have HC := C13.out w _ hB k6
   unfold VEnd at HC
   have HC := Lib.hid HC
   refine wpOp_shut (o := oFSu7) rfl (fun K' hK => ?_)
   unfold oFSu7
   rw [e0]
   go_simp
   go_at_call 12
   refine HC.out.mono ?_
   rintro e w5 ⟨v5, rfl, hk5, hb5⟩
   clear HC
   go_wp2_with fail
   exact hK.out _ _ ⟨v5, (by first | rfl | simp [upd, e0]), hb5, hk5⟩
 case fin =>
  intro x w hB H
  have e0 : x 0 = .agg #[.bool s2, .slice a2 m2 c2, .bool s2x, .slice a2x m2x c2x] := H 0 (by decide)
  have e1 : x 1 = .pointer (some ⟨b3, 0, none⟩) := H 1 (by decide)
  have e2 : x 2 = .agg #[.bool s3, .slice a3 m3 c3] := H 2 (by decide)
  have k9 : KI z9 w (x 3) := H 3 (by decide)
  have e4 : x 4 = .pointer (some ⟨b3, 2, none⟩) := H 4 (by decide)
  have e5 : x 5 = .agg #[.bool s3x, .slice a3x m3x c3x] := H 5 (by decide)
  have k12 : KF z9 q12 w (x 6) := H 6 (by decide)
  have k13 : KTF R w (x 7) := H 7 (by decide)
  have k14 : KF R.2.1 R.2.2 w (x 8) := H 8 (by decide)
  obtain ⟨sv14, tv14, av14, dv14, mv14, iv14, cv14, jv14, e8⟩ := fat_shape k14
  rw [e8] at k14
  have e9 : x 9 = .int .i64 R.1 := H 9 (by decide)
  clear H
  show wpAnyH _ _ _ _ _ 2 #[true, true, true, true, true, true, true, true, true, true, false, false] ⟨#[u0, u1, .pointer (some ⟨b2, 0, none⟩), .pointer (some ⟨b3, 0, none⟩), .pointer (some ⟨b4, 0, none⟩), u5, x 0, x 1, x 2, x 3, x 4, x 5, x 6, x 7, x 8, x 9], dd⟩ _
  rw [e0]
  clear e0
  rw [e1]
  clear e1
  rw [e2]
  clear e2
  generalize x 3 = x9 at *
  rw [e4]
  clear e4
  rw [e5]
  clear e5
  generalize x 6 = x12 at *
  generalize x 7 = x13 at *
  rw [e8]
  clear e8
  rw [e9]
  clear e9
  have l4 := HR4.out w hB
  obtain ⟨⟨r0, r1, r2, r3⟩, r4, r5, r6, r7⟩ := cellsF l4
  refine wpAnyH_ready (rs := [10]) (by kernel_rfl) (by simp) (AllReadyH.cons (o := oFSu10) rfl (fun K hK => ?_) AllReadyH.nil)
  unfold oFSu10
  go_simp
  refine hK.out _ _ trivial (fun hHeld => ?_)
  clear r0 r1 r2 r3 r4 r5 r6 r7
  clear hK K
  try simp only [List.setIfInBounds_toArray, List.set_cons_zero, List.set_cons_succ]
  refine wpAnyH_ready (rs := [11]) (by kernel_rfl) (by simp) (AllReadyH.cons (o := oFSu11) rfl (fun K hK => ?_) AllReadyH.nil)
  unfold oFSu11
  go_simp
  refine hK.out _ _ trivial (fun hHeld => ?_)
  clear hK K
  try simp only [List.setIfInBounds_toArray, List.set_cons_zero, List.set_cons_succ]
  refine wpAnyH_done (by kernel_rfl) ?_ _
  exact leaf _ _ _ _ _ _ _ _ _ _ _ _ (Lib.hid hB) (Lib.hid k14)
def oFD50 : Oper := ⟨some 19, Op.load 32 (.tmp 6), 32, "frac.go:69", #[], none⟩
def oFD51 : Oper := ⟨some 20, Op.call ⟨.value (.func 51), #[.tmp 19], #[32]⟩, 32, "frac.go:69", #[⟨0, .data⟩], none⟩
def oFD52 : Oper := ⟨some 21, Op.load 32 (.tmp 7), 32, "frac.go:69", #[], none⟩
def oFD53 : Oper := ⟨some 22, Op.call ⟨.value (.func 51), #[.tmp 21], #[32]⟩, 32, "frac.go:69", #[⟨2, .data⟩, ⟨1, .chain⟩], none⟩
def oFD54 : Oper := ⟨none, Op.store 32 (.tmp 6) (.tmp 20), 0, "frac.go:69", #[⟨1, .data⟩, ⟨3, .chain⟩, ⟨0, .phase⟩, ⟨1, .phase⟩, ⟨2, .textOnly .lateStores⟩, ⟨3, .textOnly .lateStoresUnsure⟩], none⟩
def oFD55 : Oper := ⟨none, Op.store 32 (.tmp 7) (.tmp 22), 0, "frac.go:69", #[⟨3, .data⟩, ⟨4, .chain⟩, ⟨0, .phase⟩, ⟨1, .phase⟩, ⟨2, .phase⟩, ⟨3, .phase⟩, ⟨4, .phase⟩], none⟩
def opsFD5 : Array Oper := #[oFD50, oFD51, oFD52, oFD53, oFD54, oFD55]
set_option maxHeartbeats 8000000 in
theorem regFD5 {Q : Exit → Act → World → Prop} (hQ : ∀ c a d v w, Q (.panic c) (Act.put a d v) w → Q (.panic c) a w) {W0 : World} {dd : List Deferred} {u0 u1 u2 u3 u4 u5 u8 u9 G0 G3 G5 Gi Gc G7 G1 Ga Gh G2 Gf Gd Gb Gk G4 G9 Gj G6 Ge G8 Gl Gg : Value} {b6 : Nat} {s6 : Bool} {a6 : Option Addr} {m6 c6 : Nat} {b7 : Nat} {s7 : Bool} {a7 : Option Addr} {m7 c7 : Nat} {z20 z22 : Int}
  (LD : Hid (∀ X : World, Below W0.heap.size W0 X → X.cell? ⟨b6, 0, none⟩ = some (.bool s6) ∧ X.cell? ⟨b6, 1, none⟩ = some (.slice a6 m6 c6) ∧ X.cell? ⟨b7, 0, none⟩ = some (.bool s7) ∧ X.cell? ⟨b7, 1, none⟩ = some (.slice a7 m7 c7)))
  (HR6 : Hid (∀ X : World, Below W0.heap.size W0 X → Laid X b6 32 [.bool s6, .slice a6 m6 c6]))
  (HR7 : Hid (∀ X : World, Below W0.heap.size W0 X → Laid X b7 32 [.bool s7, .slice a7 m7 c7]))
  (NE6_7 : Hid (b7 ≠ b6))
  (C20 : Hid (∀ X, Below W0.heap.size W0 X → Calls Tryz.prog 51 #[.agg #[.bool s6, .slice a6 m6 c6]] X (VEnd (KI z20) X)))
  (C22 : Hid (∀ X, Below W0.heap.size W0 X → Calls Tryz.prog 51 #[.agg #[.bool s7, .slice a7 m7 c7]] X (VEnd (KI z22) X)))
  (leaf : ∀ (X : World) (sv20 : Bool) (av20 : Option Addr) (mv20 cv20 : Nat) (sv22 : Bool) (av22 : Option Addr) (mv22 cv22 : Nat), Hid (Below W0.heap.size W0 X) → Hid (KI z20 X (.agg #[.bool sv20, .slice av20 mv20 cv20])) → Hid (KI z22 X (.agg #[.bool sv22, .slice av22 mv22 cv22])) → Q .normal ⟨#[u0, u1, u2, u3, u4, u5, .pointer (some ⟨b6, 0, none⟩), .pointer (some ⟨b7, 0, none⟩), u8, u9, G0, G3, G5, Gi, Gc, G7, G1, Ga, Gh, .agg #[.bool s6, .slice a6 m6 c6], .agg #[.bool sv20, .slice av20 mv20 cv20], .agg #[.bool s7, .slice a7 m7 c7], .agg #[.bool sv22, .slice av22 mv22 cv22], Gk, G4, G9, Gj, G6, Ge, G8, Gl, Gg], dd⟩ ((((X.setCell ⟨b6, 0, none⟩ (.bool sv20)).setCell ⟨b6, 1, none⟩ (.slice av20 mv20 cv20)).setCell ⟨b7, 0, none⟩ (.bool sv22)).setCell ⟨b7, 1, none⟩ (.slice av22 mv22 cv22))) :
  (Code.region 5 opsFD5 true).wp Tryz.prog Q ⟨#[u0, u1, u2, u3, u4, u5, .pointer (some ⟨b6, 0, none⟩), .pointer (some ⟨b7, 0, none⟩), u8, u9, G0, G3, G5, Gi, Gc, G7, G1, Ga, Gh, G2, Gf, Gd, Gb, Gk, G4, G9, Gj, G6, Ge, G8, Gl, Gg], dd⟩ W0 := by
 refine region_ops (P := Tryz.prog) (ops := opsFD5) (W0 := W0) (dd := dd) (k := 4) (T := 2) (E := []) (C := [0, 1, 2, 3]) (S := (fun _ => True)) (K := getK [KX (.agg #[.bool s6, .slice a6 m6 c6]), KI z20, KX (.agg #[.bool s7, .slice a7 m7 c7]), KI z22]) (tm := (fun x => #[u0, u1, u2, u3, u4, u5, .pointer (some ⟨b6, 0, none⟩), .pointer (some ⟨b7, 0, none⟩), u8, u9, G0, G3, G5, Gi, Gc, G7, G1, Ga, Gh, x 0, x 1, x 2, x 3, Gk, G4, G9, Gj, G6, Ge, G8, Gl, Gg])) (getV [G2, Gf, Gd, Gb]) (by kernel_rfl) (by rfl) (by kernel_rfl) (by kernel_rfl) (by kernel_rfl) (by kernel_rfl) (by kernel_rfl) hQ (fun _ _ => trivial) (getK_mono ⟨m_x, m_i, m_x, m_i, trivial⟩) ?eager ?call ?fin
 case eager =>
  intro i hi
  cases hi
 case call =>
  intro i hi
  simp only [List.mem_cons, List.not_mem_nil, or_false] at hi
  rcases hi with rfl | rfl | rfl | rfl
  ·intro x w hB hd
   clear hd
   have hLD := LD.out w hB
   obtain ⟨f0, f1, f2, f3⟩ := hLD
   refine wpOp_shut (o := oFD50) rfl (fun K' hK => ?_)
   unfold oFD50
   go_simp
   exact hK.out _ _ ⟨_, (by first | rfl | simp [upd]), Below.refl _ _, rfl⟩
  ·intro x w hB hd
   obtain ⟨k0, -⟩ := deps_k (ds := [0]) (by kernel_rfl) hd
   clear hd
   have e0 : x 0 = .agg #[.bool s6, .slice a6 m6 c6] := k0
   have HC := C20.out w hB
   unfold VEnd at HC
   have HC := Lib.hid HC
   refine wpOp_shut (o := oFD51) rfl (fun K' hK => ?_)
   unfold oFD51
   rw [e0]
   go_simp
   go_at_call 51
   refine HC.out.mono ?_
   rintro e w5 ⟨v5, rfl, hk5, hb5⟩
   clear HC
   go_wp2_with fail
   exact hK.out _ _ ⟨v5, (by first | rfl | simp [upd, e0]), hb5, hk5⟩
  ·intro x w hB hd
   clear hd
   have hLD := LD.out w hB
   obtain ⟨f0, f1, f2, f3⟩ := hLD
   refine wpOp_shut (o := oFD52) rfl (fun K' hK => ?_)
   unfold oFD52
   go_simp
   exact hK.out _ _ ⟨_, (by first | rfl | simp [upd]), Below.refl _ _, rfl⟩
  ·intro x w hB hd
   obtain ⟨k2, k1, -⟩ := deps_k (ds := [2, 1]) (by kernel_rfl) hd
   clear hd
   have e2 : x 2 = .agg #[.bool s7, .slice a7 m7 c7] := k2
   have HC := C22.out w hB
   unfold VEnd at HC
   have HC := Lib.hid HC
   refine wpOp_shut (o := oFD53) rfl (fun K' hK => ?_)
   unfold oFD53
   rw [e2]
   go_simp
   go_at_call 51
   refine HC.out.mono ?_
   rintro e w5 ⟨v5, rfl, hk5, hb5⟩
   clear HC
   go_wp2_with fail
   exact hK.out _ _ ⟨v5, (by first | rfl | simp [upd, e2]), hb5, hk5⟩
 case fin =>
  intro x w hB H
  have e0 : x 0 = .agg #[.bool s6, .slice a6 m6 c6] := H 0 (by decide)
  have k20 : KI z20 w (x 1) := H 1 (by decide)
  obtain ⟨sv20, av20, mv20, cv20, e1⟩ := iat_shape k20
  rw [e1] at k20
  have e2 : x 2 = .agg #[.bool s7, .slice a7 m7 c7] := H 2 (by decide)
  have k22 : KI z22 w (x 3) := H 3 (by decide)
  obtain ⟨sv22, av22, mv22, cv22, e3⟩ := iat_shape k22
  rw [e3] at k22
  clear H
  show wpAnyH _ _ _ _ _ 2 #[true, true, true, true, false, false] ⟨#[u0, u1, u2, u3, u4, u5, .pointer (some ⟨b6, 0, none⟩), .pointer (some ⟨b7, 0, none⟩), u8, u9, G0, G3, G5, Gi, Gc, G7, G1, Ga, Gh, x 0, x 1, x 2, x 3, Gk, G4, G9, Gj, G6, Ge, G8, Gl, Gg], dd⟩ _
  rw [e0]
  clear e0
  rw [e1]
  clear e1
  rw [e2]
  clear e2
  rw [e3]
  clear e3
  have l6 := HR6.out w hB
  have l7 := HR7.out w hB
  obtain ⟨r0, r1, r2, r3⟩ := cells2 l6
  refine wpAnyH_ready (rs := [4]) (by kernel_rfl) (by simp) (AllReadyH.cons (o := oFD54) rfl (fun K hK => ?_) AllReadyH.nil)
  unfold oFD54
  go_simp
  refine hK.out _ _ trivial (fun hHeld => ?_)
  clear r0 r1 r2 r3
  have l7 := l7.keeps ((keeps_set _ b6 0 (.bool sv20)).trans (keeps_set _ b6 1 (.slice av20 mv20 cv20))) NE6_7.out
  clear hK K
  try simp only [List.setIfInBounds_toArray, List.set_cons_zero, List.set_cons_succ]
  obtain ⟨r0, r1, r2, r3⟩ := cells2 l7
  refine wpAnyH_ready (rs := [5]) (by kernel_rfl) (by simp) (AllReadyH.cons (o := oFD55) rfl (fun K hK => ?_) AllReadyH.nil)
  unfold oFD55
  go_simp
  refine hK.out _ _ trivial (fun hHeld => ?_)
  clear r0 r1 r2 r3
  clear hK K
  try simp only [List.setIfInBounds_toArray, List.set_cons_zero, List.set_cons_succ]
  refine wpAnyH_done (by kernel_rfl) ?_ _
  exact leaf _ _ _ _ _ _ _ _ _ (Lib.hid hB) (Lib.hid k20) (Lib.hid k22)
def oFD60 : Oper := ⟨some 23, Op.fieldAddr 34 (.tmp 2) 0, 0, "frac.go:71", #[], none⟩
def oFD61 : Oper := ⟨some 24, Op.load 32 (.tmp 23), 32, "frac.go:71", #[⟨0, .data⟩], none⟩
def oFD62 : Oper := ⟨some 25, Op.load 34 (.tmp 2), 34, "frac.go:71", #[], none⟩
def oFD63 : Oper := ⟨some 26, Op.call ⟨.value (.func 34), #[.tmp 25], #[34]⟩, 32, "frac.go:71", #[⟨2, .data⟩], none⟩
def oFD64 : Oper := ⟨some 27, Op.load 32 (.tmp 6), 32, "frac.go:71", #[], none⟩
def oFD65 : Oper := ⟨some 28, Op.load 32 (.tmp 7), 32, "frac.go:71", #[], none⟩
def oFD66 : Oper := ⟨some 29, Op.call ⟨.value (.func 44), #[.tmp 24, .tmp 26, .tmp 27, .tmp 28], #[32, 32, 32, 32]⟩, 42, "frac.go:71", #[⟨1, .data⟩, ⟨3, .data⟩, ⟨4, .data⟩, ⟨5, .data⟩, ⟨3, .chain⟩], none⟩
def oFD67 : Oper := ⟨some 30, Op.extract (.tmp 29) 0, 34, "frac.go:71", #[⟨6, .data⟩], none⟩
def oFD68 : Oper := ⟨some 31, Op.extract (.tmp 29) 1, 41, "frac.go:71", #[⟨6, .data⟩], none⟩
def oFD69 : Oper := ⟨none, Op.store 34 (.tmp 4) (.tmp 30), 0, "frac.go:71", #[⟨7, .data⟩, ⟨6, .chain⟩, ⟨0, .phase⟩, ⟨1, .phase⟩, ⟨2, .phase⟩, ⟨3, .phase⟩, ⟨4, .phase⟩, ⟨5, .phase⟩, ⟨6, .phase⟩, ⟨7, .phase⟩, ⟨8, .phase⟩], none⟩
def oFD610 : Oper := ⟨some 5, Op.assign (.tmp 31), 41, "frac.go:71", #[⟨8, .data⟩, ⟨9, .chain⟩, ⟨0, .phase⟩, ⟨1, .phase⟩, ⟨2, .phase⟩, ⟨3, .phase⟩, ⟨4, .phase⟩, ⟨5, .phase⟩, ⟨6, .phase⟩, ⟨7, .phase⟩, ⟨8, .phase⟩, ⟨9, .phase⟩], none⟩
def opsFD6 : Array Oper := #[oFD60, oFD61, oFD62, oFD63, oFD64, oFD65, oFD66, oFD67, oFD68, oFD69, oFD610]
set_option maxHeartbeats 8000000 in
theorem regFD6 {Q : Exit → Act → World → Prop} (hQ : ∀ c a d v w, Q (.panic c) (Act.put a d v) w → Q (.panic c) a w) {W0 : World} {dd : List Deferred} {u0 u1 u3 u5 u8 u9 G0 G3 G5 Gi Gc G7 G1 Ga Gh G2 Gf Gd Gb Gk G4 G9 Gj G6 Ge G8 Gl Gg : Value} {b2 : Nat} {s2 : Bool} {a2 : Option Addr} {m2 c2 : Nat} {s2x : Bool} {a2x : Option Addr} {m2x c2x : Nat} {b6 : Nat} {s6 : Bool} {a6 : Option Addr} {m6 c6 : Nat} {b7 : Nat} {s7 : Bool} {a7 : Option Addr} {m7 c7 : Nat} {b4 : Nat} {z26 : Int} {R : Int × Int × Int}
  (LD : Hid (∀ X : World, Below W0.heap.size W0 X → X.cell? ⟨b2, 0, none⟩ = some (.bool s2) ∧ X.cell? ⟨b2, 1, none⟩ = some (.slice a2 m2 c2) ∧ X.cell? ⟨b2, 2, none⟩ = some (.bool s2x) ∧ X.cell? ⟨b2, 3, none⟩ = some (.slice a2x m2x c2x) ∧ X.cell? ⟨b6, 0, none⟩ = some (.bool s6) ∧ X.cell? ⟨b6, 1, none⟩ = some (.slice a6 m6 c6) ∧ X.cell? ⟨b7, 0, none⟩ = some (.bool s7) ∧ X.cell? ⟨b7, 1, none⟩ = some (.slice a7 m7 c7)))
  (HR4 : Hid (∀ X : World, Below W0.heap.size W0 X → Laid X b4 34 [.bool false, .slice none 0 0, .bool false, .slice none 0 0]))
  (C26 : Hid (∀ X, Below W0.heap.size W0 X → Calls Tryz.prog 34 #[.agg #[.bool s2, .slice a2 m2 c2, .bool s2x, .slice a2x m2x c2x]] X (VEnd (KI z26) X)))
  (C29 : Hid (∀ X x26, Below W0.heap.size W0 X → KI z26 X x26 → Calls Tryz.prog 44 #[.agg #[.bool s2, .slice a2 m2 c2], x26, .agg #[.bool s6, .slice a6 m6 c6], .agg #[.bool s7, .slice a7 m7 c7]] X (VEnd (KTF R) X)))
  (leaf : ∀ (X : World) (x26 : Value) (x29 : Value) (sv30 tv30 : Bool) (av30 dv30 : Option Addr) (mv30 iv30 cv30 jv30 : Nat), Hid (Below W0.heap.size W0 X) → Hid (KF R.2.1 R.2.2 X (.agg #[.bool sv30, .slice av30 mv30 cv30, .bool tv30, .slice dv30 iv30 jv30])) → Q .normal ⟨#[u0, u1, .pointer (some ⟨b2, 0, none⟩), u3, .pointer (some ⟨b4, 0, none⟩), .int .i64 R.1, .pointer (some ⟨b6, 0, none⟩), .pointer (some ⟨b7, 0, none⟩), u8, u9, G0, G3, G5, Gi, Gc, G7, G1, Ga, Gh, G2, Gf, Gd, Gb, .pointer (some ⟨b2, 0, none⟩), .agg #[.bool s2, .slice a2 m2 c2], .agg #[.bool s2, .slice a2 m2 c2, .bool s2x, .slice a2x m2x c2x], x26, .agg #[.bool s6, .slice a6 m6 c6], .agg #[.bool s7, .slice a7 m7 c7], x29, .agg #[.bool sv30, .slice av30 mv30 cv30, .bool tv30, .slice dv30 iv30 jv30], .int .i64 R.1], dd⟩ ((((X.setCell ⟨b4, 0, none⟩ (.bool sv30)).setCell ⟨b4, 1, none⟩ (.slice av30 mv30 cv30)).setCell ⟨b4, 2, none⟩ (.bool tv30)).setCell ⟨b4, 3, none⟩ (.slice dv30 iv30 jv30))) :
  (Code.region 6 opsFD6 true).wp Tryz.prog Q ⟨#[u0, u1, .pointer (some ⟨b2, 0, none⟩), u3, .pointer (some ⟨b4, 0, none⟩), u5, .pointer (some ⟨b6, 0, none⟩), .pointer (some ⟨b7, 0, none⟩), u8, u9, G0, G3, G5, Gi, Gc, G7, G1, Ga, Gh, G2, Gf, Gd, Gb, Gk, G4, G9, Gj, G6, Ge, G8, Gl, Gg], dd⟩ W0 := by
 refine region_ops (P := Tryz.prog) (ops := opsFD6) (W0 := W0) (dd := dd) (k := 9) (T := 2) (E := [0, 7, 8]) (C := [1, 2, 3, 4, 5, 6]) (S := (fun _ => True)) (K := getK [KX (.pointer (some ⟨b2, 0, none⟩)), KX (.agg #[.bool s2, .slice a2 m2 c2]), KX (.agg #[.bool s2, .slice a2 m2 c2, .bool s2x, .slice a2x m2x c2x]), KI z26, KX (.agg #[.bool s6, .slice a6 m6 c6]), KX (.agg #[.bool s7, .slice a7 m7 c7]), KTF R, KF R.2.1 R.2.2, KX (.int .i64 R.1)]) (tm := (fun x => #[u0, u1, .pointer (some ⟨b2, 0, none⟩), u3, .pointer (some ⟨b4, 0, none⟩), u5, .pointer (some ⟨b6, 0, none⟩), .pointer (some ⟨b7, 0, none⟩), u8, u9, G0, G3, G5, Gi, Gc, G7, G1, Ga, Gh, G2, Gf, Gd, Gb, x 0, x 1, x 2, x 3, x 4, x 5, x 6, x 7, x 8])) (getV [Gk, G4, G9, Gj, G6, Ge, G8, Gl, Gg]) (by kernel_rfl) (by rfl) (by kernel_rfl) (by kernel_rfl) (by kernel_rfl) (by kernel_rfl) (by kernel_rfl) hQ (fun _ _ => trivial) (getK_mono ⟨m_x, m_x, m_x, m_i, m_x, m_x, m_tf, m_f, m_x, trivial⟩) ?eager ?call ?fin
 case eager =>
  intro i hi
  simp only [List.mem_cons, List.not_mem_nil, or_false] at hi
  rcases hi with rfl | rfl | rfl
  ·intro x w hB hd
   clear hd
   refine ⟨oFD60, (.pointer (some ⟨b2, 0, none⟩)), rfl, ?_, rfl, (by first | rfl | simp [Act.put, upd])⟩
   refine Or.inl ⟨by rfl, fun _ _ => ?_⟩
   unfold oFD60
   go_simp
   try with_reducible rfl
  ·intro x w hB hd
   obtain ⟨k6, -⟩ := deps_k (ds := [6]) (by kernel_rfl) hd
   clear hd
   obtain ⟨y6, e6, hy6⟩ : KTF R w (x 6) := k6
   refine ⟨oFD67, y6, rfl, ?_, hy6, (by first | rfl | simp [Act.put, upd])⟩
   rw [e6]
   refine Or.inl ⟨by rfl, fun _ _ => ?_⟩
   unfold oFD67
   go_simp
   try with_reducible rfl
  ·intro x w hB hd
   obtain ⟨k6, -⟩ := deps_k (ds := [6]) (by kernel_rfl) hd
   clear hd
   obtain ⟨y6, e6, hy6⟩ : KTF R w (x 6) := k6
   refine ⟨oFD68, (.int .i64 R.1), rfl, ?_, rfl, (by first | rfl | simp [Act.put, upd])⟩
   rw [e6]
   refine Or.inl ⟨by rfl, fun _ _ => ?_⟩
   unfold oFD68
   go_simp
   try with_reducible rfl
 case call =>
  intro i hi
  simp only [List.mem_cons, List.not_mem_nil, or_false] at hi
  rcases hi with rfl | rfl | rfl | rfl | rfl | rfl
  ·intro x w hB hd
   obtain ⟨k0, -⟩ := deps_k (ds := [0]) (by kernel_rfl) hd
   clear hd
   have e0 : x 0 = .pointer (some ⟨b2, 0, none⟩) := k0
   have hLD := LD.out w hB
   obtain ⟨f0, f1, f2, f3, f4, f5, f6, f7⟩ := hLD
   refine wpOp_shut (o := oFD61) rfl (fun K' hK => ?_)
   unfold oFD61
   rw [e0]
   go_simp
   exact hK.out _ _ ⟨_, (by first | rfl | simp [upd, e0]), Below.refl _ _, rfl⟩
  ·intro x w hB hd
   clear hd
   have hLD := LD.out w hB
   obtain ⟨f0, f1, f2, f3, f4, f5, f6, f7⟩ := hLD
   refine wpOp_shut (o := oFD62) rfl (fun K' hK => ?_)
   unfold oFD62
   go_simp
   exact hK.out _ _ ⟨_, (by first | rfl | simp [upd]), Below.refl _ _, rfl⟩
  ·intro x w hB hd
   obtain ⟨k2, -⟩ := deps_k (ds := [2]) (by kernel_rfl) hd
   clear hd
   have e2 : x 2 = .agg #[.bool s2, .slice a2 m2 c2, .bool s2x, .slice a2x m2x c2x] := k2
   have HC := C26.out w hB
   unfold VEnd at HC
   have HC := Lib.hid HC
   refine wpOp_shut (o := oFD63) rfl (fun K' hK => ?_)
   unfold oFD63
   rw [e2]
   go_simp
   go_at_call 34
   refine HC.out.mono ?_
   rintro e w5 ⟨v5, rfl, hk5, hb5⟩
   clear HC
   go_wp2_with fail
   exact hK.out _ _ ⟨v5, (by first | rfl | simp [upd, e2]), hb5, hk5⟩
  ·intro x w hB hd
   clear hd
   have hLD := LD.out w hB
   obtain ⟨f0, f1, f2, f3, f4, f5, f6, f7⟩ := hLD
   refine wpOp_shut (o := oFD64) rfl (fun K' hK => ?_)
   unfold oFD64
   go_simp
   exact hK.out _ _ ⟨_, (by first | rfl | simp [upd]), Below.refl _ _, rfl⟩
  ·intro x w hB hd
   clear hd
   have hLD := LD.out w hB
   obtain ⟨f0, f1, f2, f3, f4, f5, f6, f7⟩ := hLD
   refine wpOp_shut (o := oFD65) rfl (fun K' hK => ?_)
   unfold oFD65
   go_simp
   exact hK.out _ _ ⟨_, (by first | rfl | simp [upd]), Below.refl _ _, rfl⟩
  ·intro x w hB hd
   obtain ⟨k1, k3, k4, k5, k3, -⟩ := deps_k (ds := [1, 3, 4, 5, 3]) (by kernel_rfl) hd
   clear hd
   have e1 : x 1 = .agg #[.bool s2, .slice a2 m2 c2] := k1
   have e4 : x 4 = .agg #[.bool s6, .slice a6 m6 c6] := k4
   have e5 : x 5 = .agg #[.bool s7, .slice a7 m7 c7] := k5
   have HC := C29.out w _ hB k3
   unfold VEnd at HC
   have HC := Lib.hid HC
   refine wpOp_shut (o := oFD66) rfl (fun K' hK => ?_)
   unfold oFD66
   rw [e1]
   rw [e4]
   rw [e5]
   go_simp
   go_at_call 44
   refine HC.out.mono ?_
   rintro e w5 ⟨v5, rfl, hk5, hb5⟩
   clear HC
   go_wp2_with fail
   exact hK.out _ _ ⟨v5, (by first | rfl | simp [upd, e1, e4, e5]), hb5, hk5⟩
 case fin =>
  intro x w hB H
  have e0 : x 0 = .pointer (some ⟨b2, 0, none⟩) := H 0 (by decide)
  have e1 : x 1 = .agg #[.bool s2, .slice a2 m2 c2] := H 1 (by decide)
  have e2 : x 2 = .agg #[.bool s2, .slice a2 m2 c2, .bool s2x, .slice a2x m2x c2x] := H 2 (by decide)
  have k26 : KI z26 w (x 3) := H 3 (by decide)
  have e4 : x 4 = .agg #[.bool s6, .slice a6 m6 c6] := H 4 (by decide)
  have e5 : x 5 = .agg #[.bool s7, .slice a7 m7 c7] := H 5 (by decide)
  have k29 : KTF R w (x 6) := H 6 (by decide)
  have k30 : KF R.2.1 R.2.2 w (x 7) := H 7 (by decide)
  obtain ⟨sv30, tv30, av30, dv30, mv30, iv30, cv30, jv30, e7⟩ := fat_shape k30
  rw [e7] at k30
  have e8 : x 8 = .int .i64 R.1 := H 8 (by decide)
  clear H
  show wpAnyH _ _ _ _ _ 2 #[true, true, true, true, true, true, true, true, true, false, false] ⟨#[u0, u1, .pointer (some ⟨b2, 0, none⟩), u3, .pointer (some ⟨b4, 0, none⟩), u5, .pointer (some ⟨b6, 0, none⟩), .pointer (some ⟨b7, 0, none⟩), u8, u9, G0, G3, G5, Gi, Gc, G7, G1, Ga, Gh, G2, Gf, Gd, Gb, x 0, x 1, x 2, x 3, x 4, x 5, x 6, x 7, x 8], dd⟩ _
  rw [e0]
  clear e0
  rw [e1]
  clear e1
  rw [e2]
  clear e2
  generalize x 3 = x26 at *
  rw [e4]
  clear e4
  rw [e5]
  clear e5
  generalize x 6 = x29 at *
  rw [e7]
  clear e7
  rw [e8]
  clear e8
  have l4 := HR4.out w hB
  obtain ⟨⟨r0, r1, r2, r3⟩, r4, r5, r6, r7⟩ := cellsF l4
  refine wpAnyH_ready (rs := [9]) (by kernel_rfl) (by simp) (AllReadyH.cons (o := oFD69) rfl (fun K hK => ?_) AllReadyH.nil)
  unfold oFD69
  go_simp
  refine hK.out _ _ trivial (fun hHeld => ?_)
  clear r0 r1 r2 r3 r4 r5 r6 r7
  clear hK K
  try simp only [List.setIfInBounds_toArray, List.set_cons_zero, List.set_cons_succ]
  refine wpAnyH_ready (rs := [10]) (by kernel_rfl) (by simp) (AllReadyH.cons (o := oFD610) rfl (fun K hK => ?_) AllReadyH.nil)
  unfold oFD610
  go_simp
  refine hK.out _ _ trivial (fun hHeld => ?_)
  clear hK K
  try simp only [List.setIfInBounds_toArray, List.set_cons_zero, List.set_cons_succ]
  refine wpAnyH_done (by kernel_rfl) ?_ _
  exact leaf _ _ _ _ _ _ _ _ _ _ _ (Lib.hid hB) (Lib.hid k30)
def oFP60 : Oper := ⟨some 27, Op.load 32 (.tmp 7), 32, "frac.go:177", #[], none⟩
def oFP61 : Oper := ⟨some 28, Op.call ⟨.value (.func 62), #[.const (.int .i64 1)], #[3]⟩, 32, "frac.go:177", #[], none⟩
def oFP62 : Oper := ⟨some 29, Op.call ⟨.value (.func 43), #[.tmp 27, .tmp 28], #[32, 32]⟩, 34, "frac.go:177", #[⟨0, .data⟩, ⟨1, .data⟩, ⟨1, .chain⟩], none⟩
def oFP63 : Oper := ⟨none, Op.store 34 (.tmp 2) (.tmp 29), 0, "frac.go:177", #[⟨2, .data⟩, ⟨2, .chain⟩, ⟨0, .phase⟩, ⟨1, .phase⟩, ⟨2, .phase⟩], none⟩
def oFP64 : Oper := ⟨some 3, Op.assign (.const (.int .i64 0)), 41, "frac.go:177", #[⟨3, .chain⟩, ⟨0, .phase⟩, ⟨1, .phase⟩, ⟨2, .phase⟩, ⟨3, .phase⟩], none⟩
def opsFP6 : Array Oper := #[oFP60, oFP61, oFP62, oFP63, oFP64]
set_option maxHeartbeats 8000000 in
theorem regFP6 {Q : Exit → Act → World → Prop} (hQ : ∀ c a d v w, Q (.panic c) (Act.put a d v) w → Q (.panic c) a w) {W0 : World} {dd : List Deferred} {u0 u1 u3 u4 u5 u6 u8 u9 G0 Ga Ge J2 Gu Gg G5 Gn J1 G6 Gy Gv Gp J6 Gb Gk J5 Gf Gw Gh J9 J0 Gr Gx Gd Gi J3 J8 G1 G8 Gm J7 G9 Gs G2 Gt G3 Gl Go G7 Gc Gq G4 J4 Gj Gz : Value} {b7 : Nat} {s7 : Bool} {a7 : Option Addr} {m7 c7 : Nat} {b2 : Nat} {z28 p29 q29 : Int}
  (LD : Hid (∀ X : World, Below W0.heap.size W0 X → X.cell? ⟨b7, 0, none⟩ = some (.bool s7) ∧ X.cell? ⟨b7, 1, none⟩ = some (.slice a7 m7 c7)))
  (HR2 : Hid (∀ X : World, Below W0.heap.size W0 X → Laid X b2 34 [.bool false, .slice none 0 0, .bool false, .slice none 0 0]))
  (C28 : Hid (∀ X, Below W0.heap.size W0 X → Calls Tryz.prog 62 #[.int .i64 1] X (VEnd (KI z28) X)))
  (C29 : Hid (∀ X x28, Below W0.heap.size W0 X → KI z28 X x28 → Calls Tryz.prog 43 #[.agg #[.bool s7, .slice a7 m7 c7], x28] X (VEnd (KF p29 q29) X)))
  (leaf : ∀ (X : World) (x28 : Value) (sv29 tv29 : Bool) (av29 dv29 : Option Addr) (mv29 iv29 cv29 jv29 : Nat), Hid (Below W0.heap.size W0 X) → Hid (KF p29 q29 X (.agg #[.bool sv29, .slice av29 mv29 cv29, .bool tv29, .slice dv29 iv29 jv29])) → Q .normal ⟨#[u0, u1, .pointer (some ⟨b2, 0, none⟩), .int .i64 0, u4, u5, u6, .pointer (some ⟨b7, 0, none⟩), u8, u9, G0, Ga, Ge, J2, Gu, Gg, G5, Gn, J1, G6, Gy, Gv, Gp, J6, Gb, Gk, J5, .agg #[.bool s7, .slice a7 m7 c7], x28, .agg #[.bool sv29, .slice av29 mv29 cv29, .bool tv29, .slice dv29 iv29 jv29], J9, J0, Gr, Gx, Gd, Gi, J3, J8, G1, G8, Gm, J7, G9, Gs, G2, Gt, G3, Gl, Go, G7, Gc, Gq, G4, J4, Gj, Gz], dd⟩ ((((X.setCell ⟨b2, 0, none⟩ (.bool sv29)).setCell ⟨b2, 1, none⟩ (.slice av29 mv29 cv29)).setCell ⟨b2, 2, none⟩ (.bool tv29)).setCell ⟨b2, 3, none⟩ (.slice dv29 iv29 jv29))) :
  (Code.region 6 opsFP6 true).wp Tryz.prog Q ⟨#[u0, u1, .pointer (some ⟨b2, 0, none⟩), u3, u4, u5, u6, .pointer (some ⟨b7, 0, none⟩), u8, u9, G0, Ga, Ge, J2, Gu, Gg, G5, Gn, J1, G6, Gy, Gv, Gp, J6, Gb, Gk, J5, Gf, Gw, Gh, J9, J0, Gr, Gx, Gd, Gi, J3, J8, G1, G8, Gm, J7, G9, Gs, G2, Gt, G3, Gl, Go, G7, Gc, Gq, G4, J4, Gj, Gz], dd⟩ W0 := by
 refine region_ops (P := Tryz.prog) (ops := opsFP6) (W0 := W0) (dd := dd) (k := 3) (T := 2) (E := []) (C := [0, 1, 2]) (S := (fun _ => True)) (K := getK [KX (.agg #[.bool s7, .slice a7 m7 c7]), KI z28, KF p29 q29]) (tm := (fun x => #[u0, u1, .pointer (some ⟨b2, 0, none⟩), u3, u4, u5, u6, .pointer (some ⟨b7, 0, none⟩), u8, u9, G0, Ga, Ge, J2, Gu, Gg, G5, Gn, J1, G6, Gy, Gv, Gp, J6, Gb, Gk, J5, x 0, x 1, x 2, J9, J0, Gr, Gx, Gd, Gi, J3, J8, G1, G8, Gm, J7, G9, Gs, G2, Gt, G3, Gl, Go, G7, Gc, Gq, G4, J4, Gj, Gz])) (getV [Gf, Gw, Gh]) (by kernel_rfl) (by rfl) (by kernel_rfl) (by kernel_rfl) (by kernel_rfl) (by kernel_rfl) (by kernel_rfl) hQ (fun _ _ => trivial) (getK_mono ⟨m_x, m_i, m_f, trivial⟩) ?eager ?call ?fin
 case eager =>
  intro i hi
  cases hi
 case call =>
  intro i hi
  simp only [List.mem_cons, List.not_mem_nil, or_false] at hi
  rcases hi with rfl | rfl | rfl
  ·intro x w hB hd
   clear hd
   have hLD := LD.out w hB
   obtain ⟨f0, f1⟩ := hLD
   refine wpOp_shut (o := oFP60) rfl (fun K' hK => ?_)
   unfold oFP60
   go_simp
   exact hK.out _ _ ⟨_, (by first | rfl | simp [upd]), Below.refl _ _, rfl⟩
  ·intro x w hB hd
   clear hd
   have HC := C28.out w hB
   unfold VEnd at HC
   have HC := Lib.hid HC
   refine wpOp_shut (o := oFP61) rfl (fun K' hK => ?_)
   unfold oFP61
   go_simp
   go_at_call 62
   refine HC.out.mono ?_
   rintro e w5 ⟨v5, rfl, hk5, hb5⟩
   clear HC
   go_wp2_with fail
   exact hK.out _ _ ⟨v5, (by first | rfl | simp [upd]), hb5, hk5⟩
  ·intro x w hB hd
   obtain ⟨k0, k1, k1, -⟩ := deps_k (ds := [0, 1, 1]) (by kernel_rfl) hd
   clear hd
   have e0 : x 0 = .agg #[.bool s7, .slice a7 m7 c7] := k0
   have HC := C29.out w _ hB k1
   unfold VEnd at HC
   have HC := Lib.hid HC
   refine wpOp_shut (o := oFP62) rfl (fun K' hK => ?_)
   unfold oFP62
   rw [e0]
   go_simp
   go_at_call 43
   refine HC.out.mono ?_
   rintro e w5 ⟨v5, rfl, hk5, hb5⟩
   clear HC
   go_wp2_with fail
   exact hK.out _ _ ⟨v5, (by first | rfl | simp [upd, e0]), hb5, hk5⟩
 case fin =>
  intro x w hB H
  have e0 : x 0 = .agg #[.bool s7, .slice a7 m7 c7] := H 0 (by decide)
  have k28 : KI z28 w (x 1) := H 1 (by decide)
  have k29 : KF p29 q29 w (x 2) := H 2 (by decide)
  obtain ⟨sv29, tv29, av29, dv29, mv29, iv29, cv29, jv29, e2⟩ := fat_shape k29
  rw [e2] at k29
  clear H
  show wpAnyH _ _ _ _ _ 2 #[true, true, true, false, false] ⟨#[u0, u1, .pointer (some ⟨b2, 0, none⟩), u3, u4, u5, u6, .pointer (some ⟨b7, 0, none⟩), u8, u9, G0, Ga, Ge, J2, Gu, Gg, G5, Gn, J1, G6, Gy, Gv, Gp, J6, Gb, Gk, J5, x 0, x 1, x 2, J9, J0, Gr, Gx, Gd, Gi, J3, J8, G1, G8, Gm, J7, G9, Gs, G2, Gt, G3, Gl, Go, G7, Gc, Gq, G4, J4, Gj, Gz], dd⟩ _
  rw [e0]
  clear e0
  generalize x 1 = x28 at *
  rw [e2]
  clear e2
  have l2 := HR2.out w hB
  obtain ⟨⟨r0, r1, r2, r3⟩, r4, r5, r6, r7⟩ := cellsF l2
  refine wpAnyH_ready (rs := [3]) (by kernel_rfl) (by simp) (AllReadyH.cons (o := oFP63) rfl (fun K hK => ?_) AllReadyH.nil)
  unfold oFP63
  go_simp
  refine hK.out _ _ trivial (fun hHeld => ?_)
  clear r0 r1 r2 r3 r4 r5 r6 r7
  clear hK K
  try simp only [List.setIfInBounds_toArray, List.set_cons_zero, List.set_cons_succ]
  refine wpAnyH_ready (rs := [4]) (by kernel_rfl) (by simp) (AllReadyH.cons (o := oFP64) rfl (fun K hK => ?_) AllReadyH.nil)
  unfold oFP64
  go_simp
  refine hK.out _ _ trivial (fun hHeld => ?_)
  clear hK K
  try simp only [List.setIfInBounds_toArray, List.set_cons_zero, List.set_cons_succ]
  refine wpAnyH_done (by kernel_rfl) ?_ _
  exact leaf _ _ _ _ _ _ _ _ _ _ (Lib.hid hB) (Lib.hid k29)
def oRNu0 : Oper := ⟨some 34, Op.load 24 (.tmp 6), 24, "ref.go:186", #[], none⟩
def oRNu1 : Oper := ⟨some 35, Op.call ⟨.value (.func 30), #[.const (.int .i64 1000000007)], #[3]⟩, 24, "ref.go:186", #[], none⟩
def oRNu2 : Oper := ⟨some 36, Op.call ⟨.value (.func 40), #[.tmp 34, .tmp 35], #[24, 24]⟩, 24, "ref.go:186", #[⟨0, .data⟩, ⟨1, .data⟩, ⟨1, .chain⟩], none⟩
def oRNu3 : Oper := ⟨none, Op.store 24 (.tmp 6) (.tmp 36), 0, "ref.go:186", #[⟨2, .data⟩, ⟨2, .chain⟩, ⟨0, .phase⟩, ⟨1, .phase⟩, ⟨2, .phase⟩], none⟩
def opsRNu : Array Oper := #[oRNu0, oRNu1, oRNu2, oRNu3]
set_option maxHeartbeats 8000000 in
theorem regRNu {Q : Exit → Act → World → Prop} (hQ : ∀ c a d v w, Q (.panic c) (Act.put a d v) w → Q (.panic c) a w) {W0 : World} {dd : List Deferred} {u0 u1 u2 u3 u4 u5 u7 u8 u9 G0 G3 G6 Gm Gf G8 G1 Gc Gl G2 Gj Gg Gd Gp G4 Gb Go G7 Gh G9 Gr Gk Ge Gi G5 Ga Gn Gq : Value} {b6 : Nat} {s6 : Bool} {a6 : Option Addr} {m6 c6 : Nat} {z35 z36 : Int}
  (LD : Hid (∀ X : World, Below W0.heap.size W0 X → X.cell? ⟨b6, 0, none⟩ = some (.bool s6) ∧ X.cell? ⟨b6, 1, none⟩ = some (.slice a6 m6 c6)))
  (HR6 : Hid (∀ X : World, Below W0.heap.size W0 X → Laid X b6 24 [.bool s6, .slice a6 m6 c6]))
  (C35 : Hid (∀ X, Below W0.heap.size W0 X → Calls Tryz.prog 30 #[.int .i64 1000000007] X (VEnd (KN z35) X)))
  (C36 : Hid (∀ X x35, Below W0.heap.size W0 X → KN z35 X x35 → Calls Tryz.prog 40 #[.agg #[.bool s6, .slice a6 m6 c6], x35] X (VEnd (KN z36) X)))
  (leaf : ∀ (X : World) (x35 : Value) (sv36 : Bool) (av36 : Option Addr) (mv36 cv36 : Nat), Hid (Below W0.heap.size W0 X) → Hid (KN z36 X (.agg #[.bool sv36, .slice av36 mv36 cv36])) → Q .normal ⟨#[u0, u1, u2, u3, u4, u5, .pointer (some ⟨b6, 0, none⟩), u7, u8, u9, G0, G3, G6, Gm, Gf, G8, G1, Gc, Gl, G2, Gj, Gg, Gd, Gp, G4, Gb, Go, G7, Gh, G9, Gr, Gk, Ge, Gi, .agg #[.bool s6, .slice a6 m6 c6], x35, .agg #[.bool sv36, .slice av36 mv36 cv36], Gq], dd⟩ ((X.setCell ⟨b6, 0, none⟩ (.bool sv36)).setCell ⟨b6, 1, none⟩ (.slice av36 mv36 cv36))) :
  (Code.region 12 opsRNu true).wp Tryz.prog Q ⟨#[u0, u1, u2, u3, u4, u5, .pointer (some ⟨b6, 0, none⟩), u7, u8, u9, G0, G3, G6, Gm, Gf, G8, G1, Gc, Gl, G2, Gj, Gg, Gd, Gp, G4, Gb, Go, G7, Gh, G9, Gr, Gk, Ge, Gi, G5, Ga, Gn, Gq], dd⟩ W0 := by
 refine region_ops (P := Tryz.prog) (ops := opsRNu) (W0 := W0) (dd := dd) (k := 3) (T := 1) (E := []) (C := [0, 1, 2]) (S := (fun _ => True)) (K := getK [KX (.agg #[.bool s6, .slice a6 m6 c6]), KN z35, KN z36]) (tm := (fun x => #[u0, u1, u2, u3, u4, u5, .pointer (some ⟨b6, 0, none⟩), u7, u8, u9, G0, G3, G6, Gm, Gf, G8, G1, Gc, Gl, G2, Gj, Gg, Gd, Gp, G4, Gb, Go, G7, Gh, G9, Gr, Gk, Ge, Gi, x 0, x 1, x 2, Gq])) (getV [G5, Ga, Gn]) (by kernel_rfl) (by rfl) (by kernel_rfl) (by kernel_rfl) (by kernel_rfl) (by kernel_rfl) (by kernel_rfl) hQ (fun _ _ => trivial) (getK_mono ⟨m_x, m_n, m_n, trivial⟩) ?eager ?call ?fin
 case eager =>
  intro i hi
  cases hi
 case call =>
  intro i hi
  simp only [List.mem_cons, List.not_mem_nil, or_false] at hi
  rcases hi with rfl | rfl | rfl
  ·intro x w hB hd
   clear hd
   have hLD := LD.out w hB
   obtain ⟨f0, f1⟩ := hLD
   refine wpOp_shut (o := oRNu0) rfl (fun K' hK => ?_)
   unfold oRNu0
   go_simp
   exact hK.out _ _ ⟨_, (by first | rfl | simp [upd]), Below.refl _ _, rfl⟩
  ·intro x w hB hd
   clear hd
   have HC := C35.out w hB
   unfold VEnd at HC
   have HC := Lib.hid HC
   refine wpOp_shut (o := oRNu1) rfl (fun K' hK => ?_)
   unfold oRNu1
   go_simp
   go_at_call 30
   refine HC.out.mono ?_
   rintro e w5 ⟨v5, rfl, hk5, hb5⟩
   clear HC
   go_wp2_with fail
   exact hK.out _ _ ⟨v5, (by first | rfl | simp [upd]), hb5, hk5⟩
  ·intro x w hB hd
   obtain ⟨k0, k1, k1, -⟩ := deps_k (ds := [0, 1, 1]) (by kernel_rfl) hd
   clear hd
   have e0 : x 0 = .agg #[.bool s6, .slice a6 m6 c6] := k0
   have HC := C36.out w _ hB k1
   unfold VEnd at HC
   have HC := Lib.hid HC
   refine wpOp_shut (o := oRNu2) rfl (fun K' hK => ?_)
   unfold oRNu2
   rw [e0]
   go_simp
   go_at_call 40
   refine HC.out.mono ?_
   rintro e w5 ⟨v5, rfl, hk5, hb5⟩
   clear HC
   go_wp2_with fail
   exact hK.out _ _ ⟨v5, (by first | rfl | simp [upd, e0]), hb5, hk5⟩
 case fin =>
  intro x w hB H
  have e0 : x 0 = .agg #[.bool s6, .slice a6 m6 c6] := H 0 (by decide)
  have k35 : KN z35 w (x 1) := H 1 (by decide)
  have k36 : KN z36 w (x 2) := H 2 (by decide)
  obtain ⟨sv36, av36, mv36, cv36, e2⟩ := nat_shape k36
  rw [e2] at k36
  clear H
  show wpAnyH _ _ _ _ _ 1 #[true, true, true, false] ⟨#[u0, u1, u2, u3, u4, u5, .pointer (some ⟨b6, 0, none⟩), u7, u8, u9, G0, G3, G6, Gm, Gf, G8, G1, Gc, Gl, G2, Gj, Gg, Gd, Gp, G4, Gb, Go, G7, Gh, G9, Gr, Gk, Ge, Gi, x 0, x 1, x 2, Gq], dd⟩ _
  rw [e0]
  clear e0
  generalize x 1 = x35 at *
  rw [e2]
  clear e2
  have l6 := HR6.out w hB
  obtain ⟨r0, r1, r2, r3⟩ := cells2 l6
  refine wpAnyH_ready (rs := [3]) (by kernel_rfl) (by simp) (AllReadyH.cons (o := oRNu3) rfl (fun K hK => ?_) AllReadyH.nil)
  unfold oRNu3
  go_simp
  refine hK.out _ _ trivial (fun hHeld => ?_)
  clear r0 r1 r2 r3
  clear hK K
  try simp only [List.setIfInBounds_toArray, List.set_cons_zero, List.set_cons_succ]
  refine wpAnyH_done (by kernel_rfl) ?_ _
  exact leaf _ _ _ _ _ _ (Lib.hid hB) (Lib.hid k36)
def oRFr0 : Oper := ⟨some 23, Op.move (.tmp 0), 22, "ref.go:197", #[], none⟩
def oRFr1 : Oper := ⟨some 24, Op.move (.tmp 1), 3, "ref.go:197", #[], none⟩
def oRFr2 : Oper := ⟨some 25, Op.call ⟨.value (.func 29), #[.tmp 23, .tmp 24], #[22, 3]⟩, 3, "ref.go:197", #[⟨0, .data⟩, ⟨1, .data⟩], none⟩
def oRFr3 : Oper := ⟨some 26, Op.move (.tmp 0), 22, "ref.go:197", #[], none⟩
def oRFr4 : Oper := ⟨some 27, Op.move (.tmp 1), 3, "ref.go:197", #[], none⟩
def oRFr5 : Oper := ⟨some 28, Op.binOp BinOp.add 3 (.tmp 27) (.const (.int .i64 1)) 3, 3, "ref.go:197", #[⟨4, .data⟩], none⟩
def oRFr6 : Oper := ⟨some 29, Op.call ⟨.value (.func 29), #[.tmp 26, .tmp 28], #[22, 3]⟩, 3, "ref.go:197", #[⟨3, .data⟩, ⟨5, .data⟩, ⟨2, .chain⟩], none⟩
def oRFr7 : Oper := ⟨some 30, Op.call ⟨.value (.func 28), #[.tmp 25, .tmp 29], #[3, 3]⟩, 24, "ref.go:197", #[⟨2, .data⟩, ⟨6, .data⟩, ⟨6, .chain⟩], none⟩
def oRFr8 : Oper := ⟨some 31, Op.load 24 (.tmp 5), 24, "ref.go:197", #[], none⟩
def oRFr9 : Oper := ⟨some 32, Op.call ⟨.value (.func 31), #[.tmp 30, .tmp 31], #[24, 24]⟩, 65, "ref.go:197", #[⟨7, .data⟩, ⟨8, .data⟩, ⟨7, .chain⟩], none⟩
def oRFr10 : Oper := ⟨some 22, Op.move (.tmp 32), 65, "ref.go:197", #[⟨9, .data⟩], none⟩
def oRFr11 : Oper := ⟨some 33, Op.extract (.tmp 22) 0, 26, "ref.go:197", #[⟨10, .data⟩], none⟩
def oRFr12 : Oper := ⟨some 34, Op.extract (.tmp 22) 1, 41, "ref.go:197", #[⟨10, .data⟩, ⟨14, .gcOnly .lateStores⟩], none⟩
def oRFr13 : Oper := ⟨some 6, Op.alloc 26, 0, "ref.go:197", #[], none⟩
def oRFr14 : Oper := ⟨none, Op.store 26 (.tmp 6) (.tmp 33), 0, "ref.go:197", #[⟨13, .data⟩, ⟨11, .data⟩, ⟨9, .chain⟩, ⟨0, .phase⟩, ⟨1, .phase⟩, ⟨2, .phase⟩, ⟨3, .phase⟩, ⟨4, .phase⟩, ⟨5, .phase⟩, ⟨6, .phase⟩, ⟨7, .phase⟩, ⟨8, .phase⟩, ⟨9, .phase⟩, ⟨10, .phase⟩, ⟨11, .phase⟩, ⟨12, .textOnly .lateStores⟩, ⟨13, .phase⟩], none⟩
def oRFr15 : Oper := ⟨some 7, Op.assign (.tmp 34), 41, "ref.go:197", #[⟨12, .data⟩, ⟨14, .chain⟩, ⟨0, .phase⟩, ⟨1, .phase⟩, ⟨2, .phase⟩, ⟨3, .phase⟩, ⟨4, .phase⟩, ⟨5, .phase⟩, ⟨6, .phase⟩, ⟨7, .phase⟩, ⟨8, .phase⟩, ⟨9, .phase⟩, ⟨10, .phase⟩, ⟨11, .phase⟩, ⟨12, .phase⟩, ⟨13, .phase⟩, ⟨14, .phase⟩], none⟩
def opsRFr : Array Oper := #[oRFr0, oRFr1, oRFr2, oRFr3, oRFr4, oRFr5, oRFr6, oRFr7, oRFr8, oRFr9, oRFr10, oRFr11, oRFr12, oRFr13, oRFr14, oRFr15]
set_option maxHeartbeats 8000000 in
theorem regRFr {Q : Exit → Act → World → Prop} (hQ : ∀ c a d v w, Q (.panic c) (Act.put a d v) w → Q (.panic c) a w) {W0 : World} {dd : List Deferred} {u2 u3 u4 u6 u7 u8 u9 G0 G3 G6 Gm Gf G8 G1 Gc Gl G2 Gj Gg Gd Go G4 Gb Gn G7 Gh G9 Gp Gk Ge Gi G5 Ga : Value} {b5 : Nat} {s5 : Bool} {a5 : Option Addr} {m5 c5 : Nat} {v0 : Value} {v1 v2 c25 c29 z30 : Int} {R : Int × Int × Int} (HV2 : IntKind.i64.wrap (v1 + 1) = v2)
  (LD : Hid (∀ X : World, Below W0.heap.size W0 X → X.cell? ⟨b5, 0, none⟩ = some (.bool s5) ∧ X.cell? ⟨b5, 1, none⟩ = some (.slice a5 m5 c5)))
  (C25 : Hid (∀ X, Below W0.heap.size W0 X → Calls Tryz.prog 29 #[v0, (.int .i64 v1)] X (VEnd (KX ((.int .i64 c25))) X)))
  (C29 : Hid (∀ X, Below W0.heap.size W0 X → Calls Tryz.prog 29 #[v0, (.int .i64 v2)] X (VEnd (KX ((.int .i64 c29))) X)))
  (C30 : Hid (∀ X, Below W0.heap.size W0 X → Calls Tryz.prog 28 #[(.int .i64 c25), (.int .i64 c29)] X (VEnd (KN z30) X)))
  (C32 : Hid (∀ X x30, Below W0.heap.size W0 X → KN z30 X x30 → Calls Tryz.prog 31 #[x30, .agg #[.bool s5, .slice a5 m5 c5]] X (VEnd (KTR R) X)))
  (leaf : ∀ (X : World) (x30 : Value) (x32 : Value) (x22 : Value) (sv33 tv33 : Bool) (av33 dv33 : Option Addr) (mv33 iv33 cv33 jv33 : Nat) (t6 : Nat), Hid (Below W0.heap.size W0 X) → W0.heap.size ≤ t6 → Hid (RBox X t6 R.2.1 R.2.2) → Q .normal ⟨#[v0, (.int .i64 v1), u2, u3, u4, .pointer (some ⟨b5, 0, none⟩), .pointer (some ⟨t6, 0, none⟩), .int .i64 R.1, u8, u9, G0, G3, G6, Gm, Gf, G8, G1, Gc, Gl, G2, Gj, Gg, x22, v0, (.int .i64 v1), (.int .i64 c25), v0, (.int .i64 v1), (.int .i64 v2), (.int .i64 c29), x30, .agg #[.bool s5, .slice a5 m5 c5], x32, .agg #[.bool sv33, .slice av33 mv33 cv33, .bool tv33, .slice dv33 iv33 jv33], .int .i64 R.1, Ga], dd⟩ X) :
  (Code.region 4 opsRFr true).wp Tryz.prog Q ⟨#[v0, (.int .i64 v1), u2, u3, u4, .pointer (some ⟨b5, 0, none⟩), u6, u7, u8, u9, G0, G3, G6, Gm, Gf, G8, G1, Gc, Gl, G2, Gj, Gg, Gd, Go, G4, Gb, Gn, G7, Gh, G9, Gp, Gk, Ge, Gi, G5, Ga], dd⟩ W0 := by
 refine region_ops (P := Tryz.prog) (ops := opsRFr) (W0 := W0) (dd := dd) (k := 14) (T := 2) (E := [0, 1, 3, 4, 5, 10, 11, 12]) (C := [2, 6, 7, 8, 9, 13]) (S := (fun _ => True)) (K := getK [KX (v0), KX ((.int .i64 v1)), KX ((.int .i64 c25)), KX (v0), KX ((.int .i64 v1)), KX ((.int .i64 v2)), KX ((.int .i64 c29)), KN z30, KX (.agg #[.bool s5, .slice a5 m5 c5]), KTR R, KTR R, KR R.2.1 R.2.2, KX (.int .i64 R.1), KA W0.heap.size 26 [.bool false, .slice none 0 0, .bool false, .slice none 0 0]]) (tm := (fun x => #[v0, (.int .i64 v1), u2, u3, u4, .pointer (some ⟨b5, 0, none⟩), x 13, u7, u8, u9, G0, G3, G6, Gm, Gf, G8, G1, Gc, Gl, G2, Gj, Gg, x 10, x 0, x 1, x 2, x 3, x 4, x 5, x 6, x 7, x 8, x 9, x 11, x 12, Ga])) (getV [Go, G4, Gb, Gn, G7, Gh, G9, Gp, Gk, Ge, Gd, Gi, G5, u6]) (by kernel_rfl) (by rfl) (by kernel_rfl) (by kernel_rfl) (by kernel_rfl) (by kernel_rfl) (by kernel_rfl) hQ (fun _ _ => trivial) (getK_mono ⟨m_x, m_x, m_x, m_x, m_x, m_x, m_x, m_n, m_x, m_tr, m_tr, m_r, m_x, m_a, trivial⟩) ?eager ?call ?fin
 case eager =>
  intro i hi
  simp only [List.mem_cons, List.not_mem_nil, or_false] at hi
  rcases hi with rfl | rfl | rfl | rfl | rfl | rfl | rfl | rfl
  ·intro x w hB hd
   clear hd
   refine ⟨oRFr0, (v0), rfl, ?_, rfl, (by first | rfl | simp [Act.put, upd])⟩
   refine Or.inl ⟨by rfl, fun _ _ => ?_⟩
   unfold oRFr0
   go_simp
   try with_reducible rfl
  ·intro x w hB hd
   clear hd
   refine ⟨oRFr1, ((.int .i64 v1)), rfl, ?_, rfl, (by first | rfl | simp [Act.put, upd])⟩
   refine Or.inl ⟨by rfl, fun _ _ => ?_⟩
   unfold oRFr1
   go_simp
   try with_reducible rfl
  ·intro x w hB hd
   clear hd
   refine ⟨oRFr3, (v0), rfl, ?_, rfl, (by first | rfl | simp [Act.put, upd])⟩
   refine Or.inl ⟨by rfl, fun _ _ => ?_⟩
   unfold oRFr3
   go_simp
   try with_reducible rfl
  ·intro x w hB hd
   clear hd
   refine ⟨oRFr4, ((.int .i64 v1)), rfl, ?_, rfl, (by first | rfl | simp [Act.put, upd])⟩
   refine Or.inl ⟨by rfl, fun _ _ => ?_⟩
   unfold oRFr4
   go_simp
   try with_reducible rfl
  ·intro x w hB hd
   obtain ⟨k4, -⟩ := deps_k (ds := [4]) (by kernel_rfl) hd
   clear hd
   have e4 : x 4 = (.int .i64 v1) := k4
   refine ⟨oRFr5, ((.int .i64 v2)), rfl, ?_, rfl, (by first | rfl | simp [Act.put, upd])⟩
   rw [e4]
   refine Or.inl ⟨by rfl, fun _ _ => ?_⟩
   unfold oRFr5
   go_simp
   try with_reducible rfl
  ·intro x w hB hd
   obtain ⟨k9, -⟩ := deps_k (ds := [9]) (by kernel_rfl) hd
   clear hd
   refine ⟨oRFr10, (x 9), rfl, ?_, k9, (by first | rfl | simp [Act.put, upd])⟩
   refine Or.inl ⟨by rfl, fun _ _ => ?_⟩
   unfold oRFr10
   go_simp
   try with_reducible rfl
  ·intro x w hB hd
   obtain ⟨k10, -⟩ := deps_k (ds := [10]) (by kernel_rfl) hd
   clear hd
   obtain ⟨y10, e10, hy10⟩ : KTR R w (x 10) := k10
   refine ⟨oRFr11, y10, rfl, ?_, hy10, (by first | rfl | simp [Act.put, upd])⟩
   rw [e10]
   refine Or.inl ⟨by rfl, fun _ _ => ?_⟩
   unfold oRFr11
   go_simp
   try with_reducible rfl
  ·intro x w hB hd
   obtain ⟨k10, -⟩ := deps_k (ds := [10]) (by kernel_rfl) hd
   clear hd
   obtain ⟨y10, e10, hy10⟩ : KTR R w (x 10) := k10
   refine ⟨oRFr12, (.int .i64 R.1), rfl, ?_, rfl, (by first | rfl | simp [Act.put, upd])⟩
   rw [e10]
   refine Or.inl ⟨by rfl, fun _ _ => ?_⟩
   unfold oRFr12
   go_simp
   try with_reducible rfl
 case call =>
  intro i hi
  simp only [List.mem_cons, List.not_mem_nil, or_false] at hi
  rcases hi with rfl | rfl | rfl | rfl | rfl | rfl
  ·intro x w hB hd
   obtain ⟨k0, k1, -⟩ := deps_k (ds := [0, 1]) (by kernel_rfl) hd
   clear hd
   have e0 : x 0 = v0 := k0
   have e1 : x 1 = (.int .i64 v1) := k1
   have HC := C25.out w hB
   unfold VEnd at HC
   have HC := Lib.hid HC
   refine wpOp_shut (o := oRFr2) rfl (fun K' hK => ?_)
   unfold oRFr2
   rw [e0]
   rw [e1]
   go_simp
   go_at_call 29
   refine HC.out.mono ?_
   rintro e w5 ⟨v5, rfl, hk5, hb5⟩
   clear HC
   go_wp2_with fail
   exact hK.out _ _ ⟨v5, (by first | rfl | simp [upd, e0, e1]), hb5, hk5⟩
  ·intro x w hB hd
   obtain ⟨k3, k5, k2, -⟩ := deps_k (ds := [3, 5, 2]) (by kernel_rfl) hd
   clear hd
   have e3 : x 3 = v0 := k3
   have e5 : x 5 = (.int .i64 v2) := k5
   have HC := C29.out w hB
   unfold VEnd at HC
   have HC := Lib.hid HC
   refine wpOp_shut (o := oRFr6) rfl (fun K' hK => ?_)
   unfold oRFr6
   rw [e3]
   rw [e5]
   go_simp
   go_at_call 29
   refine HC.out.mono ?_
   rintro e w5 ⟨v5, rfl, hk5, hb5⟩
   clear HC
   go_wp2_with fail
   exact hK.out _ _ ⟨v5, (by first | rfl | simp [upd, e3, e5]), hb5, hk5⟩
  ·intro x w hB hd
   obtain ⟨k2, k6, k6, -⟩ := deps_k (ds := [2, 6, 6]) (by kernel_rfl) hd
   clear hd
   have e2 : x 2 = (.int .i64 c25) := k2
   have e6 : x 6 = (.int .i64 c29) := k6
   have HC := C30.out w hB
   unfold VEnd at HC
   have HC := Lib.hid HC
   refine wpOp_shut (o := oRFr7) rfl (fun K' hK => ?_)
   unfold oRFr7
   rw [e2]
   rw [e6]
   go_simp
   go_at_call 28
   refine HC.out.mono ?_
   rintro e w5 ⟨v5, rfl, hk5, hb5⟩
   clear HC
   go_wp2_with fail
   exact hK.out _ _ ⟨v5, (by first | rfl | simp [upd, e2, e6]), hb5, hk5⟩
  ·intro x w hB hd
   clear hd
   have hLD := LD.out w hB
   obtain ⟨f0, f1⟩ := hLD
   refine wpOp_shut (o := oRFr8) rfl (fun K' hK => ?_)
   unfold oRFr8
   go_simp
   exact hK.out _ _ ⟨_, (by first | rfl | simp [upd]), Below.refl _ _, rfl⟩
  ·intro x w hB hd
   obtain ⟨k7, k8, k7, -⟩ := deps_k (ds := [7, 8, 7]) (by kernel_rfl) hd
   clear hd
   have e8 : x 8 = .agg #[.bool s5, .slice a5 m5 c5] := k8
   have HC := C32.out w _ hB k7
   unfold VEnd at HC
   have HC := Lib.hid HC
   refine wpOp_shut (o := oRFr9) rfl (fun K' hK => ?_)
   unfold oRFr9
   rw [e8]
   go_simp
   go_at_call 31
   refine HC.out.mono ?_
   rintro e w5 ⟨v5, rfl, hk5, hb5⟩
   clear HC
   go_wp2_with fail
   exact hK.out _ _ ⟨v5, (by first | rfl | simp [upd, e8]), hb5, hk5⟩
  ·intro x w hB hd
   clear hd
   refine wpOp_shut (o := oRFr13) rfl (fun K' hK => ?_)
   unfold oRFr13
   go_simp
   exact hK.out _ _ ⟨_, (by first | rfl | simp [Act.put, upd]), below_one w (.cells #[.bool false, .slice none 0 0, .bool false, .slice none 0 0] 26), ka_new 26 [.bool false, .slice none 0 0, .bool false, .slice none 0 0] hB.size⟩
 case fin =>
  intro x w hB H
  have e0 : x 0 = v0 := H 0 (by decide)
  have e1 : x 1 = (.int .i64 v1) := H 1 (by decide)
  have e2 : x 2 = (.int .i64 c25) := H 2 (by decide)
  have e3 : x 3 = v0 := H 3 (by decide)
  have e4 : x 4 = (.int .i64 v1) := H 4 (by decide)
  have e5 : x 5 = (.int .i64 v2) := H 5 (by decide)
  have e6 : x 6 = (.int .i64 c29) := H 6 (by decide)
  have k30 : KN z30 w (x 7) := H 7 (by decide)
  have e8 : x 8 = .agg #[.bool s5, .slice a5 m5 c5] := H 8 (by decide)
  have k32 : KTR R w (x 9) := H 9 (by decide)
  have k22 : KTR R w (x 10) := H 10 (by decide)
  have k33 : KR R.2.1 R.2.2 w (x 11) := H 11 (by decide)
  obtain ⟨sv33, tv33, av33, dv33, mv33, iv33, cv33, jv33, e11⟩ := rf_shape k33
  rw [e11] at k33
  have e12 : x 12 = .int .i64 R.1 := H 12 (by decide)
  obtain ⟨t6, e13, L6, l6⟩ : KA W0.heap.size 26 [.bool false, .slice none 0 0, .bool false, .slice none 0 0] w (x 13) := H 13 (by decide)
  clear H
  show wpAnyH _ _ _ _ _ 2 #[true, true, true, true, true, true, true, true, true, true, true, true, true, true, false, false] ⟨#[v0, (.int .i64 v1), u2, u3, u4, .pointer (some ⟨b5, 0, none⟩), x 13, u7, u8, u9, G0, G3, G6, Gm, Gf, G8, G1, Gc, Gl, G2, Gj, Gg, x 10, x 0, x 1, x 2, x 3, x 4, x 5, x 6, x 7, x 8, x 9, x 11, x 12, Ga], dd⟩ _
  rw [e0]
  clear e0
  rw [e1]
  clear e1
  rw [e2]
  clear e2
  rw [e3]
  clear e3
  rw [e4]
  clear e4
  rw [e5]
  clear e5
  rw [e6]
  clear e6
  generalize x 7 = x30 at *
  rw [e8]
  clear e8
  generalize x 9 = x32 at *
  generalize x 10 = x22 at *
  rw [e11]
  clear e11
  rw [e12]
  clear e12
  rw [e13]
  clear e13
  obtain ⟨⟨r0, r1, r2, r3⟩, r4, r5, r6, r7⟩ := cellsF l6
  refine wpAnyH_ready (rs := [14]) (by kernel_rfl) (by simp) (AllReadyH.cons (o := oRFr14) rfl (fun K hK => ?_) AllReadyH.nil)
  unfold oRFr14
  go_simp
  refine hK.out _ _ trivial (fun hHeld => ?_)
  clear r0 r1 r2 r3 r4 r5 r6 r7
  clear hK K
  try simp only [List.setIfInBounds_toArray, List.set_cons_zero, List.set_cons_succ]
  refine wpAnyH_ready (rs := [15]) (by kernel_rfl) (by simp) (AllReadyH.cons (o := oRFr15) rfl (fun K hK => ?_) AllReadyH.nil)
  unfold oRFr15
  go_simp
  refine hK.out _ _ trivial (fun hHeld => ?_)
  clear hK K
  try simp only [List.setIfInBounds_toArray, List.set_cons_zero, List.set_cons_succ]
  refine wpAnyH_done (by kernel_rfl) ?_ _
  exact leaf _ _ _ _ _ _ _ _ _ _ _ _ _ (Lib.hid (below_set4 hB L6)) L6 (Lib.hid (RBox.store l6 k33))
def oLOf0 : Oper := ⟨some 6, Op.fieldAddr 26 (.tmp 1) 0, 0, "law.go:22", #[], none⟩
def oLOf1 : Oper := ⟨some 7, Op.load 24 (.tmp 6), 24, "law.go:22", #[⟨0, .data⟩], none⟩
def oLOf2 : Oper := ⟨some 8, Op.call ⟨.value (.func 32), #[.tmp 7], #[24]⟩, 32, "law.go:22", #[⟨1, .data⟩], none⟩
def oLOf3 : Oper := ⟨some 9, Op.fieldAddr 26 (.tmp 1) 1, 0, "law.go:22", #[], none⟩
def oLOf4 : Oper := ⟨some 10, Op.load 24 (.tmp 9), 24, "law.go:22", #[⟨3, .data⟩], none⟩
def oLOf5 : Oper := ⟨some 11, Op.call ⟨.value (.func 32), #[.tmp 10], #[24]⟩, 32, "law.go:22", #[⟨4, .data⟩, ⟨2, .chain⟩], none⟩
def oLOf6 : Oper := ⟨some 12, Op.call ⟨.value (.func 17), #[.tmp 8, .tmp 11], #[32, 32]⟩, 42, "law.go:22", #[⟨2, .data⟩, ⟨5, .data⟩, ⟨5, .chain⟩], none⟩
def oLOf7 : Oper := ⟨some 5, Op.move (.tmp 12), 42, "law.go:22", #[⟨6, .data⟩], none⟩
def oLOf8 : Oper := ⟨some 13, Op.extract (.tmp 5) 0, 34, "law.go:22", #[⟨7, .data⟩], none⟩
def oLOf9 : Oper := ⟨some 14, Op.extract (.tmp 5) 1, 41, "law.go:22", #[⟨7, .data⟩, ⟨11, .gcOnly .lateStores⟩], none⟩
def oLOf10 : Oper := ⟨some 3, Op.alloc 34, 0, "law.go:22", #[], none⟩
def oLOf11 : Oper := ⟨none, Op.store 34 (.tmp 3) (.tmp 13), 0, "law.go:22", #[⟨10, .data⟩, ⟨8, .data⟩, ⟨6, .chain⟩, ⟨0, .phase⟩, ⟨1, .phase⟩, ⟨2, .phase⟩, ⟨3, .phase⟩, ⟨4, .phase⟩, ⟨5, .phase⟩, ⟨6, .phase⟩, ⟨7, .phase⟩, ⟨8, .phase⟩, ⟨9, .textOnly .lateStores⟩, ⟨10, .phase⟩], none⟩
def oLOf12 : Oper := ⟨some 4, Op.assign (.tmp 14), 41, "law.go:22", #[⟨9, .data⟩, ⟨11, .chain⟩, ⟨0, .phase⟩, ⟨1, .phase⟩, ⟨2, .phase⟩, ⟨3, .phase⟩, ⟨4, .phase⟩, ⟨5, .phase⟩, ⟨6, .phase⟩, ⟨7, .phase⟩, ⟨8, .phase⟩, ⟨9, .phase⟩, ⟨10, .phase⟩, ⟨11, .phase⟩], none⟩
def opsLOf : Array Oper := #[oLOf0, oLOf1, oLOf2, oLOf3, oLOf4, oLOf5, oLOf6, oLOf7, oLOf8, oLOf9, oLOf10, oLOf11, oLOf12]
set_option maxHeartbeats 8000000 in
theorem regLOf {Q : Exit → Act → World → Prop} (hQ : ∀ c a d v w, Q (.panic c) (Act.put a d v) w → Q (.panic c) a w) {W0 : World} {dd : List Deferred} {u0 u2 u3 u4 u5 u6 u7 u8 u9 G0 G5 G1 G2 G4 G3 : Value} {b1 : Nat} {s1 : Bool} {a1 : Option Addr} {m1 c1 : Nat} {s1x : Bool} {a1x : Option Addr} {m1x c1x : Nat} {z8 z11 : Int} {R : Int × Int × Int}
  (LD : Hid (∀ X : World, Below W0.heap.size W0 X → X.cell? ⟨b1, 0, none⟩ = some (.bool s1) ∧ X.cell? ⟨b1, 1, none⟩ = some (.slice a1 m1 c1) ∧ X.cell? ⟨b1, 2, none⟩ = some (.bool s1x) ∧ X.cell? ⟨b1, 3, none⟩ = some (.slice a1x m1x c1x)))
  (C8 : Hid (∀ X, Below W0.heap.size W0 X → Calls Tryz.prog 32 #[.agg #[.bool s1, .slice a1 m1 c1]] X (VEnd (KI z8) X)))
  (C11 : Hid (∀ X, Below W0.heap.size W0 X → Calls Tryz.prog 32 #[.agg #[.bool s1x, .slice a1x m1x c1x]] X (VEnd (KI z11) X)))
  (C12 : Hid (∀ X x8 x11, Below W0.heap.size W0 X → KI z8 X x8 → KI z11 X x11 → Calls Tryz.prog 17 #[x8, x11] X (VEnd (KTF R) X)))
  (leaf : ∀ (X : World) (x8 : Value) (x11 : Value) (x12 : Value) (x5 : Value) (sv13 tv13 : Bool) (av13 dv13 : Option Addr) (mv13 iv13 cv13 jv13 : Nat) (t3 : Nat), Hid (Below W0.heap.size W0 X) → W0.heap.size ≤ t3 → Hid (FBox X t3 R.2.1 R.2.2) → Q .normal ⟨#[u0, .pointer (some ⟨b1, 0, none⟩), u2, .pointer (some ⟨t3, 0, none⟩), .int .i64 R.1, x5, .pointer (some ⟨b1, 0, none⟩), .agg #[.bool s1, .slice a1 m1 c1], x8, .pointer (some ⟨b1, 2, none⟩), .agg #[.bool s1x, .slice a1x m1x c1x], x11, x12, .agg #[.bool sv13, .slice av13 mv13 cv13, .bool tv13, .slice dv13 iv13 jv13], .int .i64 R.1, G3], dd⟩ X) :
  (Code.region 1 opsLOf true).wp Tryz.prog Q ⟨#[u0, .pointer (some ⟨b1, 0, none⟩), u2, u3, u4, u5, u6, u7, u8, u9, G0, G5, G1, G2, G4, G3], dd⟩ W0 := by
 refine region_ops (P := Tryz.prog) (ops := opsLOf) (W0 := W0) (dd := dd) (k := 11) (T := 2) (E := [0, 3, 7, 8, 9]) (C := [1, 2, 4, 5, 6, 10]) (S := (fun _ => True)) (K := getK [KX (.pointer (some ⟨b1, 0, none⟩)), KX (.agg #[.bool s1, .slice a1 m1 c1]), KI z8, KX (.pointer (some ⟨b1, 2, none⟩)), KX (.agg #[.bool s1x, .slice a1x m1x c1x]), KI z11, KTF R, KTF R, KF R.2.1 R.2.2, KX (.int .i64 R.1), KA W0.heap.size 34 [.bool false, .slice none 0 0, .bool false, .slice none 0 0]]) (tm := (fun x => #[u0, .pointer (some ⟨b1, 0, none⟩), u2, x 10, u4, x 7, x 0, x 1, x 2, x 3, x 4, x 5, x 6, x 8, x 9, G3])) (getV [u6, u7, u8, u9, G0, G5, G1, u5, G2, G4, u3]) (by kernel_rfl) (by rfl) (by kernel_rfl) (by kernel_rfl) (by kernel_rfl) (by kernel_rfl) (by kernel_rfl) hQ (fun _ _ => trivial) (getK_mono ⟨m_x, m_x, m_i, m_x, m_x, m_i, m_tf, m_tf, m_f, m_x, m_a, trivial⟩) ?eager ?call ?fin
 case eager =>
  intro i hi
  simp only [List.mem_cons, List.not_mem_nil, or_false] at hi
  rcases hi with rfl | rfl | rfl | rfl | rfl
  ·intro x w hB hd
   clear hd
   refine ⟨oLOf0, (.pointer (some ⟨b1, 0, none⟩)), rfl, ?_, rfl, (by first | rfl | simp [Act.put, upd])⟩
   refine Or.inl ⟨by rfl, fun _ _ => ?_⟩
   unfold oLOf0
   go_simp
   try with_reducible rfl
  ·intro x w hB hd
   clear hd
   refine ⟨oLOf3, (.pointer (some ⟨b1, 2, none⟩)), rfl, ?_, rfl, (by first | rfl | simp [Act.put, upd])⟩
   refine Or.inl ⟨by rfl, fun _ _ => ?_⟩
   unfold oLOf3
   go_simp
   try with_reducible rfl
  ·intro x w hB hd
   obtain ⟨k6, -⟩ := deps_k (ds := [6]) (by kernel_rfl) hd
   clear hd
   refine ⟨oLOf7, (x 6), rfl, ?_, k6, (by first | rfl | simp [Act.put, upd])⟩
   refine Or.inl ⟨by rfl, fun _ _ => ?_⟩
   unfold oLOf7
   go_simp
   try with_reducible rfl
  ·intro x w hB hd
   obtain ⟨k7, -⟩ := deps_k (ds := [7]) (by kernel_rfl) hd
   clear hd
   obtain ⟨y7, e7, hy7⟩ : KTF R w (x 7) := k7
   refine ⟨oLOf8, y7, rfl, ?_, hy7, (by first | rfl | simp [Act.put, upd])⟩
   rw [e7]
   refine Or.inl ⟨by rfl, fun _ _ => ?_⟩
   unfold oLOf8
   go_simp
   try with_reducible rfl
  ·intro x w hB hd
   obtain ⟨k7, -⟩ := deps_k (ds := [7]) (by kernel_rfl) hd
   clear hd
   obtain ⟨y7, e7, hy7⟩ : KTF R w (x 7) := k7
   refine ⟨oLOf9, (.int .i64 R.1), rfl, ?_, rfl, (by first | rfl | simp [Act.put, upd])⟩
   rw [e7]
   refine Or.inl ⟨by rfl, fun _ _ => ?_⟩
   unfold oLOf9
   go_simp
   try with_reducible rfl
 case call =>
  intro i hi
  simp only [List.mem_cons, List.not_mem_nil, or_false] at hi
  rcases hi with rfl | rfl | rfl | rfl | rfl | rfl
  ·intro x w hB hd
   obtain ⟨k0, -⟩ := deps_k (ds := [0]) (by kernel_rfl) hd
   clear hd
   have e0 : x 0 = .pointer (some ⟨b1, 0, none⟩) := k0
   have hLD := LD.out w hB
   obtain ⟨f0, f1, f2, f3⟩ := hLD
   refine wpOp_shut (o := oLOf1) rfl (fun K' hK => ?_)
   unfold oLOf1
   rw [e0]
   go_simp
   exact hK.out _ _ ⟨_, (by first | rfl | simp [upd, e0]), Below.refl _ _, rfl⟩
  ·intro x w hB hd
   obtain ⟨k1, -⟩ := deps_k (ds := [1]) (by kernel_rfl) hd
   clear hd
   have e1 : x 1 = .agg #[.bool s1, .slice a1 m1 c1] := k1
   have HC := C8.out w hB
   unfold VEnd at HC
   have HC := Lib.hid HC
   refine wpOp_shut (o := oLOf2) rfl (fun K' hK => ?_)
   unfold oLOf2
   rw [e1]
   go_simp
   go_at_call 32
   refine HC.out.mono ?_
   rintro e w5 ⟨v5, rfl, hk5, hb5⟩
   clear HC
   go_wp2_with fail
   exact hK.out _ _ ⟨v5, (by first | rfl | simp [upd, e1]), hb5, hk5⟩
  ·intro x w hB hd
   obtain ⟨k3, -⟩ := deps_k (ds := [3]) (by kernel_rfl) hd
   clear hd
   have e3 : x 3 = .pointer (some ⟨b1, 2, none⟩) := k3
   have hLD := LD.out w hB
   obtain ⟨f0, f1, f2, f3⟩ := hLD
   refine wpOp_shut (o := oLOf4) rfl (fun K' hK => ?_)
   unfold oLOf4
   rw [e3]
   go_simp
   exact hK.out _ _ ⟨_, (by first | rfl | simp [upd, e3]), Below.refl _ _, rfl⟩
  ·intro x w hB hd
   obtain ⟨k4, k2, -⟩ := deps_k (ds := [4, 2]) (by kernel_rfl) hd
   clear hd
   have e4 : x 4 = .agg #[.bool s1x, .slice a1x m1x c1x] := k4
   have HC := C11.out w hB
   unfold VEnd at HC
   have HC := Lib.hid HC
   refine wpOp_shut (o := oLOf5) rfl (fun K' hK => ?_)
   unfold oLOf5
   rw [e4]
   go_simp
   go_at_call 32
   refine HC.out.mono ?_
   rintro e w5 ⟨v5, rfl, hk5, hb5⟩
   clear HC
   go_wp2_with fail
   exact hK.out _ _ ⟨v5, (by first | rfl | simp [upd, e4]), hb5, hk5⟩
  ·intro x w hB hd
   obtain ⟨k2, k5, k5, -⟩ := deps_k (ds := [2, 5, 5]) (by kernel_rfl) hd
   clear hd
   have HC := C12.out w _ _ hB k2 k5
   unfold VEnd at HC
   have HC := Lib.hid HC
   refine wpOp_shut (o := oLOf6) rfl (fun K' hK => ?_)
   unfold oLOf6
   go_simp
   go_at_call 17
   refine HC.out.mono ?_
   rintro e w5 ⟨v5, rfl, hk5, hb5⟩
   clear HC
   go_wp2_with fail
   exact hK.out _ _ ⟨v5, (by first | rfl | simp [upd]), hb5, hk5⟩
  ·intro x w hB hd
   clear hd
   refine wpOp_shut (o := oLOf10) rfl (fun K' hK => ?_)
   unfold oLOf10
   go_simp
   exact hK.out _ _ ⟨_, (by first | rfl | simp [Act.put, upd]), below_one w (.cells #[.bool false, .slice none 0 0, .bool false, .slice none 0 0] 34), ka_new 34 [.bool false, .slice none 0 0, .bool false, .slice none 0 0] hB.size⟩
 case fin =>
  intro x w hB H
  have e0 : x 0 = .pointer (some ⟨b1, 0, none⟩) := H 0 (by decide)
  have e1 : x 1 = .agg #[.bool s1, .slice a1 m1 c1] := H 1 (by decide)
  have k8 : KI z8 w (x 2) := H 2 (by decide)
  have e3 : x 3 = .pointer (some ⟨b1, 2, none⟩) := H 3 (by decide)
  have e4 : x 4 = .agg #[.bool s1x, .slice a1x m1x c1x] := H 4 (by decide)
  have k11 : KI z11 w (x 5) := H 5 (by decide)
  have k12 : KTF R w (x 6) := H 6 (by decide)
  have k5 : KTF R w (x 7) := H 7 (by decide)
  have k13 : KF R.2.1 R.2.2 w (x 8) := H 8 (by decide)
  obtain ⟨sv13, tv13, av13, dv13, mv13, iv13, cv13, jv13, e8⟩ := fat_shape k13
  rw [e8] at k13
  have e9 : x 9 = .int .i64 R.1 := H 9 (by decide)
  obtain ⟨t3, e10, L3, l3⟩ : KA W0.heap.size 34 [.bool false, .slice none 0 0, .bool false, .slice none 0 0] w (x 10) := H 10 (by decide)
  clear H
  show wpAnyH _ _ _ _ _ 2 #[true, true, true, true, true, true, true, true, true, true, true, false, false] ⟨#[u0, .pointer (some ⟨b1, 0, none⟩), u2, x 10, u4, x 7, x 0, x 1, x 2, x 3, x 4, x 5, x 6, x 8, x 9, G3], dd⟩ _
  rw [e0]
  clear e0
  rw [e1]
  clear e1
  generalize x 2 = x8 at *
  rw [e3]
  clear e3
  rw [e4]
  clear e4
  generalize x 5 = x11 at *
  generalize x 6 = x12 at *
  generalize x 7 = x5 at *
  rw [e8]
  clear e8
  rw [e9]
  clear e9
  rw [e10]
  clear e10
  obtain ⟨⟨r0, r1, r2, r3⟩, r4, r5, r6, r7⟩ := cellsF l3
  refine wpAnyH_ready (rs := [11]) (by kernel_rfl) (by simp) (AllReadyH.cons (o := oLOf11) rfl (fun K hK => ?_) AllReadyH.nil)
  unfold oLOf11
  go_simp
  refine hK.out _ _ trivial (fun hHeld => ?_)
  clear r0 r1 r2 r3 r4 r5 r6 r7
  clear hK K
  try simp only [List.setIfInBounds_toArray, List.set_cons_zero, List.set_cons_succ]
  refine wpAnyH_ready (rs := [12]) (by kernel_rfl) (by simp) (AllReadyH.cons (o := oLOf12) rfl (fun K hK => ?_) AllReadyH.nil)
  unfold oLOf12
  go_simp
  refine hK.out _ _ trivial (fun hHeld => ?_)
  clear hK K
  try simp only [List.setIfInBounds_toArray, List.set_cons_zero, List.set_cons_succ]
  refine wpAnyH_done (by kernel_rfl) ?_ _
  exact leaf _ _ _ _ _ _ _ _ _ _ _ _ _ _ (Lib.hid (below_set4 hB L3)) L3 (Lib.hid (FBox.store l3 k13))
def oLEq0 : Oper := ⟨some 5, Op.load 34 (.tmp 2), 34, "law.go:38", #[], none⟩
def oLEq1 : Oper := ⟨some 6, Op.call ⟨.value (.func 20), #[.tmp 5], #[34]⟩, 9, "law.go:38", #[⟨0, .data⟩], none⟩
def oLEq2 : Oper := ⟨some 7, Op.load 34 (.tmp 3), 34, "law.go:38", #[], none⟩
def oLEq3 : Oper := ⟨some 8, Op.call ⟨.value (.func 20), #[.tmp 7], #[34]⟩, 9, "law.go:38", #[⟨2, .data⟩, ⟨1, .chain⟩], none⟩
def oLEq4 : Oper := ⟨some 9, Op.binOp BinOp.eql 9 (.tmp 6) (.tmp 8) 9, 4, "law.go:38", #[⟨1, .data⟩, ⟨3, .data⟩], none⟩
def oLEq5 : Oper := ⟨some 4, Op.assign (.tmp 9), 4, "law.go:38", #[⟨4, .data⟩, ⟨3, .chain⟩, ⟨0, .phase⟩, ⟨1, .phase⟩, ⟨2, .phase⟩, ⟨3, .phase⟩, ⟨4, .phase⟩], none⟩
def opsLEq : Array Oper := #[oLEq0, oLEq1, oLEq2, oLEq3, oLEq4, oLEq5]
set_option maxHeartbeats 8000000 in
theorem regLEq {Q : Exit → Act → World → Prop} (hQ : ∀ c a d v w, Q (.panic c) (Act.put a d v) w → Q (.panic c) a w) {W0 : World} {dd : List Deferred} {u0 u1 u4 u5 u6 u7 u8 u9 : Value} {b2 : Nat} {s2 : Bool} {a2 : Option Addr} {m2 c2 : Nat} {s2x : Bool} {a2x : Option Addr} {m2x c2x : Nat} {b3 : Nat} {s3 : Bool} {a3 : Option Addr} {m3 c3 : Nat} {s3x : Bool} {a3x : Option Addr} {m3x c3x : Nat} {s6 s8 : ByteArray}
  (LD : Hid (∀ X : World, Below W0.heap.size W0 X → X.cell? ⟨b2, 0, none⟩ = some (.bool s2) ∧ X.cell? ⟨b2, 1, none⟩ = some (.slice a2 m2 c2) ∧ X.cell? ⟨b2, 2, none⟩ = some (.bool s2x) ∧ X.cell? ⟨b2, 3, none⟩ = some (.slice a2x m2x c2x) ∧ X.cell? ⟨b3, 0, none⟩ = some (.bool s3) ∧ X.cell? ⟨b3, 1, none⟩ = some (.slice a3 m3 c3) ∧ X.cell? ⟨b3, 2, none⟩ = some (.bool s3x) ∧ X.cell? ⟨b3, 3, none⟩ = some (.slice a3x m3x c3x)))
  (C6 : Hid (∀ X, Below W0.heap.size W0 X → Calls Tryz.prog 20 #[.agg #[.bool s2, .slice a2 m2 c2, .bool s2x, .slice a2x m2x c2x]] X (VEnd (KX (.string s6)) X)))
  (C8 : Hid (∀ X, Below W0.heap.size W0 X → Calls Tryz.prog 20 #[.agg #[.bool s3, .slice a3 m3 c3, .bool s3x, .slice a3x m3x c3x]] X (VEnd (KX (.string s8)) X)))
  (leaf : ∀ (X : World) , Hid (Below W0.heap.size W0 X) → Q .normal ⟨#[u0, u1, .pointer (some ⟨b2, 0, none⟩), .pointer (some ⟨b3, 0, none⟩), .bool (s6.toList == s8.toList), .agg #[.bool s2, .slice a2 m2 c2, .bool s2x, .slice a2x m2x c2x], .string s6, .agg #[.bool s3, .slice a3 m3 c3, .bool s3x, .slice a3x m3x c3x], .string s8, .bool (s6.toList == s8.toList)], dd⟩ X) :
  (Code.region 1 opsLEq true).wp Tryz.prog Q ⟨#[u0, u1, .pointer (some ⟨b2, 0, none⟩), .pointer (some ⟨b3, 0, none⟩), u4, u5, u6, u7, u8, u9], dd⟩ W0 := by
 refine region_ops (P := Tryz.prog) (ops := opsLEq) (W0 := W0) (dd := dd) (k := 5) (T := 1) (E := [4]) (C := [0, 1, 2, 3]) (S := (fun _ => True)) (K := getK [KX (.agg #[.bool s2, .slice a2 m2 c2, .bool s2x, .slice a2x m2x c2x]), KX (.string s6), KX (.agg #[.bool s3, .slice a3 m3 c3, .bool s3x, .slice a3x m3x c3x]), KX (.string s8), KX (.bool (s6.toList == s8.toList))]) (tm := (fun x => #[u0, u1, .pointer (some ⟨b2, 0, none⟩), .pointer (some ⟨b3, 0, none⟩), u4, x 0, x 1, x 2, x 3, x 4])) (getV [u5, u6, u7, u8, u9]) (by kernel_rfl) (by rfl) (by kernel_rfl) (by kernel_rfl) (by kernel_rfl) (by kernel_rfl) (by kernel_rfl) hQ (fun _ _ => trivial) (getK_mono ⟨m_x, m_x, m_x, m_x, m_x, trivial⟩) ?eager ?call ?fin
 case eager =>
  intro i hi
  simp only [List.mem_cons, List.not_mem_nil, or_false] at hi
  subst hi
  ·intro x w hB hd
   obtain ⟨k1, k3, -⟩ := deps_k (ds := [1, 3]) (by kernel_rfl) hd
   clear hd
   have e1 : x 1 = .string s6 := k1
   have e3 : x 3 = .string s8 := k3
   refine ⟨oLEq4, (.bool (s6.toList == s8.toList)), rfl, ?_, rfl, (by first | rfl | simp [Act.put, upd])⟩
   rw [e1]
   rw [e3]
   refine Or.inl ⟨by rfl, fun _ _ => ?_⟩
   unfold oLEq4
   go_simp
   try with_reducible rfl
 case call =>
  intro i hi
  simp only [List.mem_cons, List.not_mem_nil, or_false] at hi
  rcases hi with rfl | rfl | rfl | rfl
  ·intro x w hB hd
   clear hd
   have hLD := LD.out w hB
   obtain ⟨f0, f1, f2, f3, f4, f5, f6, f7⟩ := hLD
   refine wpOp_shut (o := oLEq0) rfl (fun K' hK => ?_)
   unfold oLEq0
   go_simp
   exact hK.out _ _ ⟨_, (by first | rfl | simp [upd]), Below.refl _ _, rfl⟩
  ·intro x w hB hd
   obtain ⟨k0, -⟩ := deps_k (ds := [0]) (by kernel_rfl) hd
   clear hd
   have e0 : x 0 = .agg #[.bool s2, .slice a2 m2 c2, .bool s2x, .slice a2x m2x c2x] := k0
   have HC := C6.out w hB
   unfold VEnd at HC
   have HC := Lib.hid HC
   refine wpOp_shut (o := oLEq1) rfl (fun K' hK => ?_)
   unfold oLEq1
   rw [e0]
   go_simp
   go_at_call 20
   refine HC.out.mono ?_
   rintro e w5 ⟨v5, rfl, hk5, hb5⟩
   clear HC
   go_wp2_with fail
   exact hK.out _ _ ⟨v5, (by first | rfl | simp [upd, e0]), hb5, hk5⟩
  ·intro x w hB hd
   clear hd
   have hLD := LD.out w hB
   obtain ⟨f0, f1, f2, f3, f4, f5, f6, f7⟩ := hLD
   refine wpOp_shut (o := oLEq2) rfl (fun K' hK => ?_)
   unfold oLEq2
   go_simp
   exact hK.out _ _ ⟨_, (by first | rfl | simp [upd]), Below.refl _ _, rfl⟩
  ·intro x w hB hd
   obtain ⟨k2, k1, -⟩ := deps_k (ds := [2, 1]) (by kernel_rfl) hd
   clear hd
   have e2 : x 2 = .agg #[.bool s3, .slice a3 m3 c3, .bool s3x, .slice a3x m3x c3x] := k2
   have HC := C8.out w hB
   unfold VEnd at HC
   have HC := Lib.hid HC
   refine wpOp_shut (o := oLEq3) rfl (fun K' hK => ?_)
   unfold oLEq3
   rw [e2]
   go_simp
   go_at_call 20
   refine HC.out.mono ?_
   rintro e w5 ⟨v5, rfl, hk5, hb5⟩
   clear HC
   go_wp2_with fail
   exact hK.out _ _ ⟨v5, (by first | rfl | simp [upd, e2]), hb5, hk5⟩
 case fin =>
  intro x w hB H
  have e0 : x 0 = .agg #[.bool s2, .slice a2 m2 c2, .bool s2x, .slice a2x m2x c2x] := H 0 (by decide)
  have e1 : x 1 = .string s6 := H 1 (by decide)
  have e2 : x 2 = .agg #[.bool s3, .slice a3 m3 c3, .bool s3x, .slice a3x m3x c3x] := H 2 (by decide)
  have e3 : x 3 = .string s8 := H 3 (by decide)
  have e4 : x 4 = .bool (s6.toList == s8.toList) := H 4 (by decide)
  clear H
  show wpAnyH _ _ _ _ _ 1 #[true, true, true, true, true, false] ⟨#[u0, u1, .pointer (some ⟨b2, 0, none⟩), .pointer (some ⟨b3, 0, none⟩), u4, x 0, x 1, x 2, x 3, x 4], dd⟩ _
  rw [e0]
  clear e0
  rw [e1]
  clear e1
  rw [e2]
  clear e2
  rw [e3]
  clear e3
  rw [e4]
  clear e4
  refine wpAnyH_ready (rs := [5]) (by kernel_rfl) (by simp) (AllReadyH.cons (o := oLEq5) rfl (fun K hK => ?_) AllReadyH.nil)
  unfold oLEq5
  go_simp
  refine hK.out _ _ trivial (fun hHeld => ?_)
  clear hK K
  try simp only [List.setIfInBounds_toArray, List.set_cons_zero, List.set_cons_succ]
  refine wpAnyH_done (by kernel_rfl) ?_ _
  exact leaf _  (Lib.hid hB) 
end Go.Proofs.YtepakogbbomaoaaGreatDoor
