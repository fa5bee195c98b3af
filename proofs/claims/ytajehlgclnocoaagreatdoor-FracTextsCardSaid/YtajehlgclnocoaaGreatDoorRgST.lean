/-
 Laws of drawn regions: package frac, its reference, the laws' helpers (genRgm.py makes this text).
-/
import Derived.Test.YtajehlgclnocoaaGreatDoorRgAT
namespace Go.Proofs.YtajehlgclnocoaaGreatDoor
open Go.RowKit Go.Shelf
set_option linter.unusedVariables false
set_option maxRecDepth 100000
def oLSa0 : Oper := ⟨some 5, Op.load 35 (.tmp 2), 35, "law.go:28", #[], none⟩
def oLSa1 : Oper := ⟨some 6, Op.call ⟨.value (.func 46), #[.tmp 5], #[35]⟩, 33, "law.go:28", #[⟨0, .data⟩], none⟩
def oLSa2 : Oper := ⟨some 7, Op.call ⟨.value (.func 111), #[.tmp 6], #[33]⟩, 9, "law.go:28", #[⟨1, .data⟩, ⟨1, .chain⟩], none⟩
def oLSa3 : Oper := ⟨some 8, Op.fieldAddr 26 (.tmp 3) 0, 0, "law.go:28", #[], none⟩
def oLSa4 : Oper := ⟨some 9, Op.load 24 (.tmp 8), 24, "law.go:28", #[⟨3, .data⟩], none⟩
def oLSa5 : Oper := ⟨some 10, Op.call ⟨.value (.func 112), #[.tmp 9], #[24]⟩, 9, "law.go:28", #[⟨4, .data⟩, ⟨2, .chain⟩], none⟩
def oLSa6 : Oper := ⟨some 11, Op.binOp BinOp.eql 9 (.tmp 7) (.tmp 10) 9, 4, "law.go:28", #[⟨2, .data⟩, ⟨5, .data⟩], none⟩
def oLSa7 : Oper := ⟨some 12, Op.move (.tmp 11), 4, "law.go:28", #[⟨6, .data⟩, ⟨5, .chain⟩], none⟩
def oLSa8 : Oper := ⟨some 13, Op.load 35 (.tmp 2), 35, "law.go:28", #[⟨7, .guard⟩], some (7, true)⟩
def oLSa9 : Oper := ⟨some 14, Op.call ⟨.value (.func 47), #[.tmp 13], #[35]⟩, 33, "law.go:28", #[⟨8, .data⟩, ⟨7, .chain⟩, ⟨7, .guard⟩], some (7, true)⟩
def oLSa10 : Oper := ⟨some 15, Op.call ⟨.value (.func 111), #[.tmp 14], #[33]⟩, 9, "law.go:28", #[⟨9, .data⟩, ⟨9, .chain⟩, ⟨7, .guard⟩], some (7, true)⟩
def oLSa11 : Oper := ⟨some 16, Op.fieldAddr 26 (.tmp 3) 1, 0, "law.go:28", #[⟨7, .guard⟩], some (7, true)⟩
def oLSa12 : Oper := ⟨some 17, Op.load 24 (.tmp 16), 24, "law.go:28", #[⟨11, .data⟩, ⟨7, .guard⟩], some (7, true)⟩
def oLSa13 : Oper := ⟨some 18, Op.call ⟨.value (.func 112), #[.tmp 17], #[24]⟩, 9, "law.go:28", #[⟨12, .data⟩, ⟨10, .chain⟩, ⟨7, .guard⟩], some (7, true)⟩
def oLSa14 : Oper := ⟨some 19, Op.binOp BinOp.eql 9 (.tmp 15) (.tmp 18) 9, 4, "law.go:28", #[⟨10, .data⟩, ⟨13, .data⟩, ⟨7, .guard⟩], some (7, true)⟩
def oLSa15 : Oper := ⟨some 20, Op.pick (.tmp 12) (.tmp 19) (.const (.bool false)), 4, "law.go:28", #[⟨7, .data⟩, ⟨14, .data⟩], none⟩
def oLSa16 : Oper := ⟨some 4, Op.assign (.tmp 20), 4, "law.go:28", #[⟨15, .data⟩, ⟨13, .chain⟩, ⟨0, .phase⟩, ⟨1, .phase⟩, ⟨2, .phase⟩, ⟨3, .phase⟩, ⟨4, .phase⟩, ⟨5, .phase⟩, ⟨6, .phase⟩, ⟨7, .phase⟩, ⟨8, .phase⟩, ⟨9, .phase⟩, ⟨10, .phase⟩, ⟨11, .phase⟩, ⟨12, .phase⟩, ⟨13, .phase⟩, ⟨14, .phase⟩, ⟨15, .phase⟩], none⟩
def opsLSa : Array Oper := #[oLSa0, oLSa1, oLSa2, oLSa3, oLSa4, oLSa5, oLSa6, oLSa7, oLSa8, oLSa9, oLSa10, oLSa11, oLSa12, oLSa13, oLSa14, oLSa15, oLSa16]
set_option maxHeartbeats 8000000 in
theorem regLSa {Q : Exit → Act → World → Prop} (hQ : ∀ c a d v w, Q (.panic c) (Act.put a d v) w → Q (.panic c) a w) {W0 : World} {dd : List Deferred} {u0 u1 u4 u5 u6 u7 u8 u9 G7 G9 G4 G8 G3 G1 G5 G0 G2 Ga G6 : Value} {b2 : Nat} {s2 : Bool} {a2 : Option Addr} {m2 c2 : Nat} {s2x : Bool} {a2x : Option Addr} {m2x c2x : Nat} {b3 : Nat} {s3 : Bool} {a3 : Option Addr} {m3 c3 : Nat} {s3x : Bool} {a3x : Option Addr} {m3x c3x : Nat} {s7 s15 : ByteArray} {z6 z14 : Int}
  (LD : Hid (∀ X : World, Below W0.heap.size W0 X → X.cell? ⟨b2, 0, none⟩ = some (.bool s2) ∧ X.cell? ⟨b2, 1, none⟩ = some (.slice a2 m2 c2) ∧ X.cell? ⟨b2, 2, none⟩ = some (.bool s2x) ∧ X.cell? ⟨b2, 3, none⟩ = some (.slice a2x m2x c2x) ∧ X.cell? ⟨b3, 0, none⟩ = some (.bool s3) ∧ X.cell? ⟨b3, 1, none⟩ = some (.slice a3 m3 c3) ∧ X.cell? ⟨b3, 2, none⟩ = some (.bool s3x) ∧ X.cell? ⟨b3, 3, none⟩ = some (.slice a3x m3x c3x)))
  (C6 : Hid (∀ X, Below W0.heap.size W0 X → Calls Tryz.prog 46 #[.agg #[.bool s2, .slice a2 m2 c2, .bool s2x, .slice a2x m2x c2x]] X (VEnd (KI z6) X)))
  (C7 : Hid (∀ X x6, Below W0.heap.size W0 X → KI z6 X x6 → Calls Tryz.prog 111 #[x6] X (VEnd (KX (.string s7)) X)))
  (C10 : Hid (∀ X, Below W0.heap.size W0 X → Calls Tryz.prog 112 #[.agg #[.bool s3, .slice a3 m3 c3]] X (VEnd (KX (.string s7)) X)))
  (C14 : Hid (∀ X, Below W0.heap.size W0 X → Calls Tryz.prog 47 #[.agg #[.bool s2, .slice a2 m2 c2, .bool s2x, .slice a2x m2x c2x]] X (VEnd (KI z14) X)))
  (C15 : Hid (∀ X x14, Below W0.heap.size W0 X → KI z14 X x14 → Calls Tryz.prog 111 #[x14] X (VEnd (KX (.string s15)) X)))
  (C18 : Hid (∀ X, Below W0.heap.size W0 X → Calls Tryz.prog 112 #[.agg #[.bool s3x, .slice a3x m3x c3x]] X (VEnd (KX (.string s15)) X)))
  (leaf : ∀ (X : World) (x6 : Value) (x14 : Value), Hid (Below W0.heap.size W0 X) → Hid (KI z6 X x6) → Hid (KI z14 X x14) → Q .normal ⟨#[u0, u1, .pointer (some ⟨b2, 0, none⟩), .pointer (some ⟨b3, 0, none⟩), .bool true, .agg #[.bool s2, .slice a2 m2 c2, .bool s2x, .slice a2x m2x c2x], x6, .string s7, .pointer (some ⟨b3, 0, none⟩), .agg #[.bool s3, .slice a3 m3 c3], .string s7, .bool true, .bool true, .agg #[.bool s2, .slice a2 m2 c2, .bool s2x, .slice a2x m2x c2x], x14, .string s15, .pointer (some ⟨b3, 2, none⟩), .agg #[.bool s3x, .slice a3x m3x c3x], .string s15, .bool true, .bool true], dd⟩ X) :
  (Code.region 1 opsLSa true).wp Tryz.prog Q ⟨#[u0, u1, .pointer (some ⟨b2, 0, none⟩), .pointer (some ⟨b3, 0, none⟩), u4, u5, u6, u7, u8, u9, G7, G9, G4, G8, G3, G1, G5, G0, G2, Ga, G6], dd⟩ W0 := by
 refine region_ops (P := Tryz.prog) (ops := opsLSa) (W0 := W0) (dd := dd) (k := 16) (T := 1) (E := [3, 6, 7, 11, 14, 15]) (C := [0, 1, 2, 4, 5, 8, 9, 10, 12, 13]) (S := (fun _ => True)) (K := getK [KX (.agg #[.bool s2, .slice a2 m2 c2, .bool s2x, .slice a2x m2x c2x]), KI z6, KX (.string s7), KX (.pointer (some ⟨b3, 0, none⟩)), KX (.agg #[.bool s3, .slice a3 m3 c3]), KX (.string s7), KX (.bool true), KX (.bool true), KX (.agg #[.bool s2, .slice a2 m2 c2, .bool s2x, .slice a2x m2x c2x]), KI z14, KX (.string s15), KX (.pointer (some ⟨b3, 2, none⟩)), KX (.agg #[.bool s3x, .slice a3x m3x c3x]), KX (.string s15), KX (.bool true), KX (.bool true)]) (tm := (fun x => #[u0, u1, .pointer (some ⟨b2, 0, none⟩), .pointer (some ⟨b3, 0, none⟩), u4, x 0, x 1, x 2, x 3, x 4, x 5, x 6, x 7, x 8, x 9, x 10, x 11, x 12, x 13, x 14, x 15])) (getV [u5, u6, u7, u8, u9, G7, G9, G4, G8, G3, G1, G5, G0, G2, Ga, G6]) (by kernel_rfl) (by rfl) (by kernel_rfl) (by kernel_rfl) (by kernel_rfl) (by kernel_rfl) (by kernel_rfl) hQ (fun _ _ => trivial) (getK_mono ⟨m_x, m_i, m_x, m_x, m_x, m_x, m_x, m_x, m_x, m_i, m_x, m_x, m_x, m_x, m_x, m_x, trivial⟩) ?eager ?call ?fin
 case eager =>
  intro i hi
  simp only [List.mem_cons, List.not_mem_nil, or_false] at hi
  rcases hi with rfl | rfl | rfl | rfl | rfl | rfl
  ·intro x w hB hd
   clear hd
   refine ⟨oLSa3, (.pointer (some ⟨b3, 0, none⟩)), rfl, ?_, rfl, (by first | rfl | simp [Act.put, upd])⟩
   refine Or.inl ⟨by rfl, fun _ _ => ?_⟩
   unfold oLSa3
   go_simp
   try with_reducible rfl
  ·intro x w hB hd
   obtain ⟨k2, k5, -⟩ := deps_k (ds := [2, 5]) (by kernel_rfl) hd
   clear hd
   have e2 : x 2 = .string s7 := k2
   have e5 : x 5 = .string s7 := k5
   refine ⟨oLSa6, (.bool true), rfl, ?_, rfl, (by first | rfl | simp [Act.put, upd])⟩
   rw [e2]
   rw [e5]
   refine Or.inl ⟨by rfl, fun _ _ => ?_⟩
   unfold oLSa6
   go_simp
   try with_reducible rfl
  ·intro x w hB hd
   obtain ⟨k6, k5, -⟩ := deps_k (ds := [6, 5]) (by kernel_rfl) hd
   clear hd
   have e6 : x 6 = .bool true := k6
   refine ⟨oLSa7, (.bool true), rfl, ?_, rfl, (by first | rfl | simp [Act.put, upd])⟩
   rw [e6]
   refine Or.inl ⟨by rfl, fun _ _ => ?_⟩
   unfold oLSa7
   go_simp
   try with_reducible rfl
  ·intro x w hB hd
   obtain ⟨k7, -⟩ := deps_k (ds := [7]) (by kernel_rfl) hd
   clear hd
   have e7 : x 7 = .bool true := k7
   refine ⟨oLSa11, (.pointer (some ⟨b3, 2, none⟩)), rfl, ?_, rfl, (by first | rfl | simp [Act.put, upd])⟩
   rw [e7]
   refine Or.inl ⟨by rfl, fun _ _ => ?_⟩
   unfold oLSa11
   go_simp
   try with_reducible rfl
  ·intro x w hB hd
   obtain ⟨k10, k13, k7, -⟩ := deps_k (ds := [10, 13, 7]) (by kernel_rfl) hd
   clear hd
   have e10 : x 10 = .string s15 := k10
   have e13 : x 13 = .string s15 := k13
   have e7 : x 7 = .bool true := k7
   refine ⟨oLSa14, (.bool true), rfl, ?_, rfl, (by first | rfl | simp [Act.put, upd])⟩
   rw [e10]
   rw [e13]
   rw [e7]
   refine Or.inl ⟨by rfl, fun _ _ => ?_⟩
   unfold oLSa14
   go_simp
   try with_reducible rfl
  ·intro x w hB hd
   obtain ⟨k7, k14, -⟩ := deps_k (ds := [7, 14]) (by kernel_rfl) hd
   clear hd
   have e7 : x 7 = .bool true := k7
   have e14 : x 14 = .bool true := k14
   refine ⟨oLSa15, (.bool true), rfl, ?_, rfl, (by first | rfl | simp [Act.put, upd])⟩
   rw [e7]
   rw [e14]
   refine Or.inl ⟨by rfl, fun _ _ => ?_⟩
   unfold oLSa15
   go_simp
   try with_reducible rfl
 case call =>
  intro i hi
  simp only [List.mem_cons, List.not_mem_nil, or_false] at hi
  rcases hi with rfl | rfl | rfl | rfl | rfl | rfl | rfl | rfl | rfl | rfl
  ·intro x w hB hd
   clear hd
   have hLD := LD.out w hB
   obtain ⟨f0, f1, f2, f3, f4, f5, f6, f7⟩ := hLD
   refine wpOp_shut (o := oLSa0) rfl (fun K' hK => ?_)
   unfold oLSa0
   go_simp
   exact hK.out _ _ ⟨_, (by first | rfl | simp [upd]), Below.refl _ _, rfl⟩
  ·intro x w hB hd
   obtain ⟨k0, -⟩ := deps_k (ds := [0]) (by kernel_rfl) hd
   clear hd
   have e0 : x 0 = .agg #[.bool s2, .slice a2 m2 c2, .bool s2x, .slice a2x m2x c2x] := k0
   have HC := C6.out w hB
   unfold VEnd at HC
   have HC := Lib.hid HC
   refine wpOp_shut (o := oLSa1) rfl (fun K' hK => ?_)
   unfold oLSa1
   rw [e0]
   go_simp
   go_at_call 46
   refine HC.out.mono ?_
   rintro e w5 ⟨v5, rfl, hk5, hb5⟩
   clear HC
   go_wp2_with fail
   exact hK.out _ _ ⟨v5, (by first | rfl | simp [upd, e0]), hb5, hk5⟩
  ·intro x w hB hd
   obtain ⟨k1, k1, -⟩ := deps_k (ds := [1, 1]) (by kernel_rfl) hd
   clear hd
   have HC := C7.out w _ hB k1
   unfold VEnd at HC
   have HC := Lib.hid HC
   refine wpOp_shut (o := oLSa2) rfl (fun K' hK => ?_)
   unfold oLSa2
   go_simp
   go_at_call 111
   refine HC.out.mono ?_
   rintro e w5 ⟨v5, rfl, hk5, hb5⟩
   clear HC
   go_wp2_with fail
   exact hK.out _ _ ⟨v5, (by first | rfl | simp [upd]), hb5, hk5⟩
  ·intro x w hB hd
   obtain ⟨k3, -⟩ := deps_k (ds := [3]) (by kernel_rfl) hd
   clear hd
   have e3 : x 3 = .pointer (some ⟨b3, 0, none⟩) := k3
   have hLD := LD.out w hB
   obtain ⟨f0, f1, f2, f3, f4, f5, f6, f7⟩ := hLD
   refine wpOp_shut (o := oLSa4) rfl (fun K' hK => ?_)
   unfold oLSa4
   rw [e3]
   go_simp
   exact hK.out _ _ ⟨_, (by first | rfl | simp [upd, e3]), Below.refl _ _, rfl⟩
  ·intro x w hB hd
   obtain ⟨k4, k2, -⟩ := deps_k (ds := [4, 2]) (by kernel_rfl) hd
   clear hd
   have e4 : x 4 = .agg #[.bool s3, .slice a3 m3 c3] := k4
   have HC := C10.out w hB
   unfold VEnd at HC
   have HC := Lib.hid HC
   refine wpOp_shut (o := oLSa5) rfl (fun K' hK => ?_)
   unfold oLSa5
   rw [e4]
   go_simp
   go_at_call 112
   refine HC.out.mono ?_
   rintro e w5 ⟨v5, rfl, hk5, hb5⟩
   clear HC
   go_wp2_with fail
   exact hK.out _ _ ⟨v5, (by first | rfl | simp [upd, e4]), hb5, hk5⟩
  ·intro x w hB hd
   obtain ⟨k7, -⟩ := deps_k (ds := [7]) (by kernel_rfl) hd
   clear hd
   have e7 : x 7 = .bool true := k7
   have hLD := LD.out w hB
   obtain ⟨f0, f1, f2, f3, f4, f5, f6, f7⟩ := hLD
   refine wpOp_shut (o := oLSa8) rfl (fun K' hK => ?_)
   unfold oLSa8
   rw [e7]
   rw [if_pos (by rfl)]
   go_simp
   exact hK.out _ _ ⟨_, (by first | rfl | simp [upd, e7]), Below.refl _ _, rfl⟩
  ·intro x w hB hd
   obtain ⟨k8, k7, k7, -⟩ := deps_k (ds := [8, 7, 7]) (by kernel_rfl) hd
   clear hd
   have e8 : x 8 = .agg #[.bool s2, .slice a2 m2 c2, .bool s2x, .slice a2x m2x c2x] := k8
   have e7 : x 7 = .bool true := k7
   have HC := C14.out w hB
   unfold VEnd at HC
   have HC := Lib.hid HC
   refine wpOp_shut (o := oLSa9) rfl (fun K' hK => ?_)
   unfold oLSa9
   rw [e8]
   rw [e7]
   rw [if_pos (by rfl)]
   go_simp
   go_at_call 47
   refine HC.out.mono ?_
   rintro e w5 ⟨v5, rfl, hk5, hb5⟩
   clear HC
   go_wp2_with fail
   exact hK.out _ _ ⟨v5, (by first | rfl | simp [upd, e8, e7]), hb5, hk5⟩
  ·intro x w hB hd
   obtain ⟨k9, k9, k7, -⟩ := deps_k (ds := [9, 9, 7]) (by kernel_rfl) hd
   clear hd
   have e7 : x 7 = .bool true := k7
   have HC := C15.out w _ hB k9
   unfold VEnd at HC
   have HC := Lib.hid HC
   refine wpOp_shut (o := oLSa10) rfl (fun K' hK => ?_)
   unfold oLSa10
   rw [e7]
   rw [if_pos (by rfl)]
   go_simp
   go_at_call 111
   refine HC.out.mono ?_
   rintro e w5 ⟨v5, rfl, hk5, hb5⟩
   clear HC
   go_wp2_with fail
   exact hK.out _ _ ⟨v5, (by first | rfl | simp [upd, e7]), hb5, hk5⟩
  ·intro x w hB hd
   obtain ⟨k11, k7, -⟩ := deps_k (ds := [11, 7]) (by kernel_rfl) hd
   clear hd
   have e11 : x 11 = .pointer (some ⟨b3, 2, none⟩) := k11
   have e7 : x 7 = .bool true := k7
   have hLD := LD.out w hB
   obtain ⟨f0, f1, f2, f3, f4, f5, f6, f7⟩ := hLD
   refine wpOp_shut (o := oLSa12) rfl (fun K' hK => ?_)
   unfold oLSa12
   rw [e11]
   rw [e7]
   rw [if_pos (by rfl)]
   go_simp
   exact hK.out _ _ ⟨_, (by first | rfl | simp [upd, e11, e7]), Below.refl _ _, rfl⟩
  ·intro x w hB hd
   obtain ⟨k12, k10, k7, -⟩ := deps_k (ds := [12, 10, 7]) (by kernel_rfl) hd
   clear hd
   have e12 : x 12 = .agg #[.bool s3x, .slice a3x m3x c3x] := k12
   have e7 : x 7 = .bool true := k7
   have HC := C18.out w hB
   unfold VEnd at HC
   have HC := Lib.hid HC
   refine wpOp_shut (o := oLSa13) rfl (fun K' hK => ?_)
   unfold oLSa13
   rw [e12]
   rw [e7]
   rw [if_pos (by rfl)]
   go_simp
   go_at_call 112
   refine HC.out.mono ?_
   rintro e w5 ⟨v5, rfl, hk5, hb5⟩
   clear HC
   go_wp2_with fail
   exact hK.out _ _ ⟨v5, (by first | rfl | simp [upd, e12, e7]), hb5, hk5⟩
 case fin =>
  intro x w hB H
  have e0 : x 0 = .agg #[.bool s2, .slice a2 m2 c2, .bool s2x, .slice a2x m2x c2x] := H 0 (by decide)
  have k6 : KI z6 w (x 1) := H 1 (by decide)
  have e2 : x 2 = .string s7 := H 2 (by decide)
  have e3 : x 3 = .pointer (some ⟨b3, 0, none⟩) := H 3 (by decide)
  have e4 : x 4 = .agg #[.bool s3, .slice a3 m3 c3] := H 4 (by decide)
  have e5 : x 5 = .string s7 := H 5 (by decide)
  have e6 : x 6 = .bool true := H 6 (by decide)
  have e7 : x 7 = .bool true := H 7 (by decide)
  have e8 : x 8 = .agg #[.bool s2, .slice a2 m2 c2, .bool s2x, .slice a2x m2x c2x] := H 8 (by decide)
  have k14 : KI z14 w (x 9) := H 9 (by decide)
  have e10 : x 10 = .string s15 := H 10 (by decide)
  have e11 : x 11 = .pointer (some ⟨b3, 2, none⟩) := H 11 (by decide)
  have e12 : x 12 = .agg #[.bool s3x, .slice a3x m3x c3x] := H 12 (by decide)
  have e13 : x 13 = .string s15 := H 13 (by decide)
  have e14 : x 14 = .bool true := H 14 (by decide)
  have e15 : x 15 = .bool true := H 15 (by decide)
  clear H
  show wpAnyH _ _ _ _ _ 1 #[true, true, true, true, true, true, true, true, true, true, true, true, true, true, true, true, false] ⟨#[u0, u1, .pointer (some ⟨b2, 0, none⟩), .pointer (some ⟨b3, 0, none⟩), u4, x 0, x 1, x 2, x 3, x 4, x 5, x 6, x 7, x 8, x 9, x 10, x 11, x 12, x 13, x 14, x 15], dd⟩ _
  rw [e0]
  clear e0
  generalize x 1 = x6 at *
  rw [e2]
  clear e2
  rw [e3]
  clear e3
  rw [e4]
  clear e4
  rw [e5]
  clear e5
  rw [e6]
  clear e6
  rw [e7]
  clear e7
  rw [e8]
  clear e8
  generalize x 9 = x14 at *
  rw [e10]
  clear e10
  rw [e11]
  clear e11
  rw [e12]
  clear e12
  rw [e13]
  clear e13
  rw [e14]
  clear e14
  rw [e15]
  clear e15
  refine wpAnyH_ready (rs := [16]) (by kernel_rfl) (by simp) (AllReadyH.cons (o := oLSa16) rfl (fun K hK => ?_) AllReadyH.nil)
  unfold oLSa16
  go_simp
  refine hK.out _ _ trivial (fun hHeld => ?_)
  clear hK K
  try simp only [List.setIfInBounds_toArray, List.set_cons_zero, List.set_cons_succ]
  refine wpAnyH_done (by kernel_rfl) ?_ _
  exact leaf _ _ _ (Lib.hid hB) (Lib.hid k6) (Lib.hid k14)
end Go.Proofs.YtajehlgclnocoaaGreatDoor
