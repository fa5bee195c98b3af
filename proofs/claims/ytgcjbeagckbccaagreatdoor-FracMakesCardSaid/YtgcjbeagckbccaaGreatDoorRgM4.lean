/-
  Laws of drawn regions: package frac, its reference, the laws' helpers (genRgm.py makes this text).
-/
import Derived.Test.YtgcjbeagckbccaaGreatDoorRgA
namespace Go.Proofs.YtgcjbeagckbccaaGreatDoor
open Go.RowKit Go.Shelf
set_option linter.unusedVariables false
set_option maxRecDepth 100000

def oLM110 : Oper := { dst := some 54, op := Op.move (Operand.tmp 10), type := 30, pos := "law.go:62", after := #[], guard := none }
def oLM111 : Oper := { dst := some 55, op := Op.move (Operand.tmp 11), type := 3, pos := "law.go:62", after := #[], guard := none }
def oLM112 : Oper := { dst := some 56, op := Op.indexAddr 30 (Operand.tmp 54) (Operand.tmp 55), type := 0, pos := "law.go:62", after := #[{ on := 0, ground := Ground.data }, { on := 1, ground := Ground.data }], guard := none }
def oLM113 : Oper := { dst := some 57, op := Op.load 24 (Operand.tmp 56), type := 24, pos := "law.go:62", after := #[{ on := 2, ground := Ground.data }], guard := none }
def oLM114 : Oper := { dst := some 58, op := Op.call { callee := Callee.value (Operand.func 17), args := #[Operand.tmp 57], argTypes := #[24] }, type := 33, pos := "law.go:62", after := #[{ on := 3, ground := Ground.data }], guard := none }
def oLM115 : Oper := { dst := some 59, op := Op.move (Operand.tmp 10), type := 30, pos := "law.go:62", after := #[], guard := none }
def oLM116 : Oper := { dst := some 60, op := Op.move (Operand.tmp 12), type := 3, pos := "law.go:62", after := #[], guard := none }
def oLM117 : Oper := { dst := some 61, op := Op.indexAddr 30 (Operand.tmp 59) (Operand.tmp 60), type := 0, pos := "law.go:62", after := #[{ on := 5, ground := Ground.data }, { on := 6, ground := Ground.data }], guard := none }
def oLM118 : Oper := { dst := some 62, op := Op.load 24 (Operand.tmp 61), type := 24, pos := "law.go:62", after := #[{ on := 7, ground := Ground.data }], guard := none }
def oLM119 : Oper := { dst := some 63, op := Op.call { callee := Callee.value (Operand.func 17), args := #[Operand.tmp 62], argTypes := #[24] }, type := 33, pos := "law.go:62", after := #[{ on := 8, ground := Ground.data }, { on := 4, ground := Ground.chain }], guard := none }
def oLM1110 : Oper := { dst := some 64, op := Op.call { callee := Callee.value (Operand.func 16), args := #[Operand.tmp 58, Operand.tmp 63], argTypes := #[33, 33] }, type := 37, pos := "law.go:62", after := #[{ on := 4, ground := Ground.data }, { on := 9, ground := Ground.data }, { on := 9, ground := Ground.chain }], guard := none }
def oLM1111 : Oper := { dst := some 53, op := Op.move (Operand.tmp 64), type := 37, pos := "law.go:62", after := #[{ on := 10, ground := Ground.data }], guard := none }
def oLM1112 : Oper := { dst := some 65, op := Op.extract (Operand.tmp 53) 0, type := 35, pos := "law.go:62", after := #[{ on := 11, ground := Ground.data }], guard := none }
def oLM1113 : Oper := { dst := some 66, op := Op.extract (Operand.tmp 53) 1, type := 36, pos := "law.go:62", after := #[{ on := 11, ground := Ground.data }, { on := 15, ground := Ground.gcOnly Departure.lateStores }], guard := none }
def oLM1114 : Oper := { dst := some 13, op := Op.alloc 35, type := 0, pos := "law.go:62", after := #[], guard := none }
def oLM1115 : Oper := { dst := none, op := Op.store 35 (Operand.tmp 13) (Operand.tmp 65), type := 0, pos := "law.go:62", after := #[{ on := 14, ground := Ground.data }, { on := 12, ground := Ground.data }, { on := 10, ground := Ground.chain }, { on := 0, ground := Ground.phase }, { on := 1, ground := Ground.phase }, { on := 2, ground := Ground.phase }, { on := 3, ground := Ground.phase }, { on := 4, ground := Ground.phase }, { on := 5, ground := Ground.phase }, { on := 6, ground := Ground.phase }, { on := 7, ground := Ground.phase }, { on := 8, ground := Ground.phase }, { on := 9, ground := Ground.phase }, { on := 10, ground := Ground.phase }, { on := 11, ground := Ground.phase }, { on := 12, ground := Ground.phase }, { on := 13, ground := Ground.textOnly Departure.lateStores }, { on := 14, ground := Ground.phase }], guard := none }
def oLM1116 : Oper := { dst := some 14, op := Op.assign (Operand.tmp 66), type := 36, pos := "law.go:62", after := #[{ on := 13, ground := Ground.data }, { on := 15, ground := Ground.chain }, { on := 0, ground := Ground.phase }, { on := 1, ground := Ground.phase }, { on := 2, ground := Ground.phase }, { on := 3, ground := Ground.phase }, { on := 4, ground := Ground.phase }, { on := 5, ground := Ground.phase }, { on := 6, ground := Ground.phase }, { on := 7, ground := Ground.phase }, { on := 8, ground := Ground.phase }, { on := 9, ground := Ground.phase }, { on := 10, ground := Ground.phase }, { on := 11, ground := Ground.phase }, { on := 12, ground := Ground.phase }, { on := 13, ground := Ground.phase }, { on := 14, ground := Ground.phase }, { on := 15, ground := Ground.phase }], guard := none }
def KS6 (L : Nat) (z0 z1 z2 z3 z4 z5 : Int) (w : World) (x : Value) : Prop := ∃ g : Nat, x = .slice (some ⟨g, 0, none⟩) 6 6 ∧ L ≤ g ∧ NRow w g [z0, z1, z2, z3, z4, z5]
theorem m_s6 {L : Nat} {z0 z1 z2 z3 z4 z5 : Int} : MonoK (KS6 L z0 z1 z2 z3 z4 z5) := fun _ _ _ h hb => by
  obtain ⟨g, e, h1, h2⟩ := h
  exact ⟨g, e, h1, nrow_keeps h2 hb⟩
theorem ks6_new {L : Nat} {w : World} {z0 z1 z2 z3 z4 z5 : Int} {s0 s1 s2 s3 s4 s5 : Bool} {a0 a1 a2 a3 a4 a5 : Option Addr} {m0 c0 m1 c1 m2 c2 m3 c3 m4 c4 m5 c5 : Nat} (hL : L ≤ w.heap.size) (h0 : NAt w (.agg #[.bool s0, .slice a0 m0 c0]) z0) (h1 : NAt w (.agg #[.bool s1, .slice a1 m1 c1]) z1) (h2 : NAt w (.agg #[.bool s2, .slice a2 m2 c2]) z2) (h3 : NAt w (.agg #[.bool s3, .slice a3 m3 c3]) z3) (h4 : NAt w (.agg #[.bool s4, .slice a4 m4 c4]) z4) (h5 : NAt w (.agg #[.bool s5, .slice a5 m5 c5]) z5) :
    KS6 L z0 z1 z2 z3 z4 z5 (w.alloc (.cells #[.bool s0, .slice a0 m0 c0, .bool s1, .slice a1 m1 c1, .bool s2, .slice a2 m2 c2, .bool s3, .slice a3 m3 c3, .bool s4, .slice a4 m4 c4, .bool s5, .slice a5 m5 c5] 24)) (.slice (some ⟨w.heap.size, 0, none⟩) 6 6) := by
  have hl := Laid.new w 24 [.bool s0, .slice a0 m0 c0, .bool s1, .slice a1 m1 c1, .bool s2, .slice a2 m2 c2, .bool s3, .slice a3 m3 c3, .bool s4, .slice a4 m4 c4, .bool s5, .slice a5 m5 c5]
  have hb := below_one w (.cells #[.bool s0, .slice a0 m0 c0, .bool s1, .slice a1 m1 c1, .bool s2, .slice a2 m2 c2, .bool s3, .slice a3 m3 c3, .bool s4, .slice a4 m4 c4, .bool s5, .slice a5 m5 c5] 24)
  refine ⟨_, rfl, hL, hl.lt, fun k z hz => ?_⟩
  match k, hz with
  | 0, hz => cases hz; exact ⟨s0, a0, m0, c0, ⟨hl.cell 0, hl.cell 1⟩, nat_keeps h0 hb⟩
  | 1, hz => cases hz; exact ⟨s1, a1, m1, c1, ⟨hl.cell 2, hl.cell 3⟩, nat_keeps h1 hb⟩
  | 2, hz => cases hz; exact ⟨s2, a2, m2, c2, ⟨hl.cell 4, hl.cell 5⟩, nat_keeps h2 hb⟩
  | 3, hz => cases hz; exact ⟨s3, a3, m3, c3, ⟨hl.cell 6, hl.cell 7⟩, nat_keeps h3 hb⟩
  | 4, hz => cases hz; exact ⟨s4, a4, m4, c4, ⟨hl.cell 8, hl.cell 9⟩, nat_keeps h4 hb⟩
  | 5, hz => cases hz; exact ⟨s5, a5, m5, c5, ⟨hl.cell 10, hl.cell 11⟩, nat_keeps h5 hb⟩

def opsLM11 : Array Oper := #[oLM110, oLM111, oLM112, oLM113, oLM114, oLM115, oLM116, oLM117, oLM118, oLM119, oLM1110, oLM1111, oLM1112, oLM1113, oLM1114, oLM1115, oLM1116]
set_option maxHeartbeats 8000000 in
theorem regLM11 {Q : Exit → Act → World → Prop} (hQ : ∀ c a d v w, Q (.panic c) (Act.put a d v) w → Q (.panic c) a w) {W0 : World} {dd : List Deferred} {u0 u1 u2 u3 u4 u5 u6 u7 u8 u9 u13 u14 u15 u16 u17 u18 u19 u20 u21 u22 u23 u24 u25 u26 u27 u28 u29 u30 u31 u32 u33 u34 u35 u36 u37 u38 u39 u40 u41 u42 u43 u44 u45 u46 u47 u48 u49 u50 u51 u52 u53 u54 u55 u56 u57 u58 u59 u60 u61 u62 u63 u64 u65 u66 u67 u68 u69 u70 u71 u72 u73 u74 u75 u76 u77 u78 u79 u80 u81 u82 u83 u84 u85 u86 u87 u88 u89 u90 u91 u92 u93 u94 u95 u96 u97 u98 u99 u100 u101 u102 u103 u104 u105 u106 u107 u108 u109 u110 u111 u112 u113 u114 u115 u116 u117 u118 u119 : Value}  {bl ki kk : Nat} {sI sK : Bool} {aI aK : Option Addr} {mI cI mK cK : Nat} {z58 z63 : Int} {R : Int × Int × Int} (HKi : ¬ ((6 : Int) ≤ ((ki : Nat) : Int))) (HKk : ¬ ((6 : Int) ≤ ((kk : Nat) : Int)))
    (LD : Hid (∀ X : World, Below W0.heap.size W0 X → X.cell? ⟨bl, ki * 2, none⟩ = some (.bool sI) ∧ X.cell? ⟨bl, ki * 2 + 1, none⟩ = some (.slice aI mI cI) ∧ X.cell? ⟨bl, kk * 2, none⟩ = some (.bool sK) ∧ X.cell? ⟨bl, kk * 2 + 1, none⟩ = some (.slice aK mK cK)))
    (C58 : Hid (∀ X, Below W0.heap.size W0 X → Calls Tryz.prog 17 #[.agg #[.bool sI, .slice aI mI cI]] X (VEnd (KI z58) X)))
    (C63 : Hid (∀ X, Below W0.heap.size W0 X → Calls Tryz.prog 17 #[.agg #[.bool sK, .slice aK mK cK]] X (VEnd (KI z63) X)))
    (C64 : Hid (∀ X x58 x63, Below W0.heap.size W0 X → KI z58 X x58 → KI z63 X x63 → Calls Tryz.prog 16 #[x58, x63] X (VEnd (KTF R) X)))
    (leaf : ∀ (X : World) (x58 : Value) (x63 : Value) (x64 : Value) (x53 : Value) (sv65 tv65 : Bool) (av65 dv65 : Option Addr) (mv65 iv65 cv65 jv65 : Nat) (t13 : Nat), Hid (Below W0.heap.size W0 X) → W0.heap.size ≤ t13 → Hid (FBox X t13 R.2.1 R.2.2) → Q .normal ⟨#[u0, u1, u2, u3, u4, u5, u6, u7, u8, u9, .slice (some ⟨bl, 0, none⟩) 6 6, .int .i64 ((ki : Nat) : Int), .int .i64 ((kk : Nat) : Int), .pointer (some ⟨t13, 0, none⟩), .int .i64 R.1, u15, u16, u17, u18, u19, u20, u21, u22, u23, u24, u25, u26, u27, u28, u29, u30, u31, u32, u33, u34, u35, u36, u37, u38, u39, u40, u41, u42, u43, u44, u45, u46, u47, u48, u49, u50, u51, u52, x53, .slice (some ⟨bl, 0, none⟩) 6 6, .int .i64 ((ki : Nat) : Int), .pointer (some ⟨bl, ki * 2, none⟩), .agg #[.bool sI, .slice aI mI cI], x58, .slice (some ⟨bl, 0, none⟩) 6 6, .int .i64 ((kk : Nat) : Int), .pointer (some ⟨bl, kk * 2, none⟩), .agg #[.bool sK, .slice aK mK cK], x63, x64, .agg #[.bool sv65, .slice av65 mv65 cv65, .bool tv65, .slice dv65 iv65 jv65], .int .i64 R.1, u67, u68, u69, u70, u71, u72, u73, u74, u75, u76, u77, u78, u79, u80, u81, u82, u83, u84, u85, u86, u87, u88, u89, u90, u91, u92, u93, u94, u95, u96, u97, u98, u99, u100, u101, u102, u103, u104, u105, u106, u107, u108, u109, u110, u111, u112, u113, u114, u115, u116, u117, u118, u119], dd⟩ X) :
    (Code.region 11 opsLM11 true).wp Tryz.prog Q ⟨#[u0, u1, u2, u3, u4, u5, u6, u7, u8, u9, .slice (some ⟨bl, 0, none⟩) 6 6, .int .i64 ((ki : Nat) : Int), .int .i64 ((kk : Nat) : Int), u13, u14, u15, u16, u17, u18, u19, u20, u21, u22, u23, u24, u25, u26, u27, u28, u29, u30, u31, u32, u33, u34, u35, u36, u37, u38, u39, u40, u41, u42, u43, u44, u45, u46, u47, u48, u49, u50, u51, u52, u53, u54, u55, u56, u57, u58, u59, u60, u61, u62, u63, u64, u65, u66, u67, u68, u69, u70, u71, u72, u73, u74, u75, u76, u77, u78, u79, u80, u81, u82, u83, u84, u85, u86, u87, u88, u89, u90, u91, u92, u93, u94, u95, u96, u97, u98, u99, u100, u101, u102, u103, u104, u105, u106, u107, u108, u109, u110, u111, u112, u113, u114, u115, u116, u117, u118, u119], dd⟩ W0 := by
  refine region_ops (P := Tryz.prog) (ops := opsLM11) (W0 := W0) (dd := dd) (k := 15) (T := 2) (E := [0, 1, 2, 5, 6, 7, 11, 12, 13]) (C := [3, 4, 8, 9, 10, 14]) (S := (fun _ => True)) (K := getK [KX (.slice (some ⟨bl, 0, none⟩) 6 6), KX (.int .i64 ((ki : Nat) : Int)), KX (.pointer (some ⟨bl, ki * 2, none⟩)), KX (.agg #[.bool sI, .slice aI mI cI]), KI z58, KX (.slice (some ⟨bl, 0, none⟩) 6 6), KX (.int .i64 ((kk : Nat) : Int)), KX (.pointer (some ⟨bl, kk * 2, none⟩)), KX (.agg #[.bool sK, .slice aK mK cK]), KI z63, KTF R, KTF R, KF R.2.1 R.2.2, KX (.int .i64 R.1), KA W0.heap.size 35 [.bool false, .slice none 0 0, .bool false, .slice none 0 0]]) (tm := (fun x => #[u0, u1, u2, u3, u4, u5, u6, u7, u8, u9, .slice (some ⟨bl, 0, none⟩) 6 6, .int .i64 ((ki : Nat) : Int), .int .i64 ((kk : Nat) : Int), x 14, u14, u15, u16, u17, u18, u19, u20, u21, u22, u23, u24, u25, u26, u27, u28, u29, u30, u31, u32, u33, u34, u35, u36, u37, u38, u39, u40, u41, u42, u43, u44, u45, u46, u47, u48, u49, u50, u51, u52, x 11, x 0, x 1, x 2, x 3, x 4, x 5, x 6, x 7, x 8, x 9, x 10, x 12, x 13, u67, u68, u69, u70, u71, u72, u73, u74, u75, u76, u77, u78, u79, u80, u81, u82, u83, u84, u85, u86, u87, u88, u89, u90, u91, u92, u93, u94, u95, u96, u97, u98, u99, u100, u101, u102, u103, u104, u105, u106, u107, u108, u109, u110, u111, u112, u113, u114, u115, u116, u117, u118, u119])) (getV [u54, u55, u56, u57, u58, u59, u60, u61, u62, u63, u64, u53, u65, u66, u13]) (by kernel_rfl) (by rfl) (by kernel_rfl) (by kernel_rfl) (by kernel_rfl) (by kernel_rfl) (by kernel_rfl) hQ (fun _ _ => trivial) (getK_mono ⟨m_x, m_x, m_x, m_x, m_i, m_x, m_x, m_x, m_x, m_i, m_tf, m_tf, m_f, m_x, m_a, trivial⟩) ?eager ?call ?fin
  case eager =>
    intro i hi
    simp only [List.mem_cons, List.not_mem_nil, or_false] at hi
    rcases hi with rfl | rfl | rfl | rfl | rfl | rfl | rfl | rfl | rfl
    · intro x w hB hd
      clear hd
      refine ⟨oLM110, (.slice (some ⟨bl, 0, none⟩) 6 6), rfl, ?_, rfl, (by first | rfl | simp [Act.put, upd])⟩
      refine Or.inl ⟨by rfl, fun wq hSw => ?_⟩
      clear hSw
      unfold oLM110
      go_simp
      try with_reducible rfl
    · intro x w hB hd
      clear hd
      refine ⟨oLM111, (.int .i64 ((ki : Nat) : Int)), rfl, ?_, rfl, (by first | rfl | simp [Act.put, upd])⟩
      refine Or.inl ⟨by rfl, fun wq hSw => ?_⟩
      clear hSw
      unfold oLM111
      go_simp
      try with_reducible rfl
    · intro x w hB hd
      obtain ⟨k0, k1, -⟩ := deps_k (ds := [0, 1]) (by kernel_rfl) hd
      clear hd
      have e0 : x 0 = .slice (some ⟨bl, 0, none⟩) 6 6 := k0
      have e1 : x 1 = .int .i64 ((ki : Nat) : Int) := k1
      refine ⟨oLM112, (.pointer (some ⟨bl, ki * 2, none⟩)), rfl, ?_, rfl, (by first | rfl | simp [Act.put, upd])⟩
      rw [e0]
      rw [e1]
      refine Or.inl ⟨by rfl, fun wq hSw => ?_⟩
      clear hSw
      unfold oLM112
      go_simp
      try with_reducible rfl
    · intro x w hB hd
      clear hd
      refine ⟨oLM115, (.slice (some ⟨bl, 0, none⟩) 6 6), rfl, ?_, rfl, (by first | rfl | simp [Act.put, upd])⟩
      refine Or.inl ⟨by rfl, fun wq hSw => ?_⟩
      clear hSw
      unfold oLM115
      go_simp
      try with_reducible rfl
    · intro x w hB hd
      clear hd
      refine ⟨oLM116, (.int .i64 ((kk : Nat) : Int)), rfl, ?_, rfl, (by first | rfl | simp [Act.put, upd])⟩
      refine Or.inl ⟨by rfl, fun wq hSw => ?_⟩
      clear hSw
      unfold oLM116
      go_simp
      try with_reducible rfl
    · intro x w hB hd
      obtain ⟨k5, k6, -⟩ := deps_k (ds := [5, 6]) (by kernel_rfl) hd
      clear hd
      have e5 : x 5 = .slice (some ⟨bl, 0, none⟩) 6 6 := k5
      have e6 : x 6 = .int .i64 ((kk : Nat) : Int) := k6
      refine ⟨oLM117, (.pointer (some ⟨bl, kk * 2, none⟩)), rfl, ?_, rfl, (by first | rfl | simp [Act.put, upd])⟩
      rw [e5]
      rw [e6]
      refine Or.inl ⟨by rfl, fun wq hSw => ?_⟩
      clear hSw
      unfold oLM117
      go_simp
      try with_reducible rfl
    · intro x w hB hd
      obtain ⟨k10, -⟩ := deps_k (ds := [10]) (by kernel_rfl) hd
      clear hd
      refine ⟨oLM1111, (x 10), rfl, ?_, k10, (by first | rfl | simp [Act.put, upd])⟩
      refine Or.inl ⟨by rfl, fun wq hSw => ?_⟩
      clear hSw
      unfold oLM1111
      go_simp
      try with_reducible rfl
    · intro x w hB hd
      obtain ⟨k11, -⟩ := deps_k (ds := [11]) (by kernel_rfl) hd
      clear hd
      obtain ⟨y11, e11, hy11⟩ : KTF R w (x 11) := k11
      refine ⟨oLM1112, y11, rfl, ?_, hy11, (by first | rfl | simp [Act.put, upd])⟩
      rw [e11]
      refine Or.inl ⟨by rfl, fun wq hSw => ?_⟩
      clear hSw
      unfold oLM1112
      go_simp
      try with_reducible rfl
    · intro x w hB hd
      obtain ⟨k11, -⟩ := deps_k (ds := [11]) (by kernel_rfl) hd
      clear hd
      obtain ⟨y11, e11, hy11⟩ : KTF R w (x 11) := k11
      refine ⟨oLM1113, (.int .i64 R.1), rfl, ?_, rfl, (by first | rfl | simp [Act.put, upd])⟩
      rw [e11]
      refine Or.inl ⟨by rfl, fun wq hSw => ?_⟩
      clear hSw
      unfold oLM1113
      go_simp
      try with_reducible rfl
  case call =>
    intro i hi
    simp only [List.mem_cons, List.not_mem_nil, or_false] at hi
    rcases hi with rfl | rfl | rfl | rfl | rfl | rfl
    · intro x w hB hd
      obtain ⟨k2, -⟩ := deps_k (ds := [2]) (by kernel_rfl) hd
      clear hd
      have e2 : x 2 = .pointer (some ⟨bl, ki * 2, none⟩) := k2
      have hLD := LD.out w hB
      obtain ⟨f0, f1, f2, f3⟩ := hLD
      refine wpOp_shut (o := oLM113) rfl (fun K' hK => ?_)
      unfold oLM113
      rw [e2]
      go_simp
      exact hK.out _ _ ⟨_, (by first | rfl | simp [upd, e2]), Below.refl _ _, rfl⟩
    · intro x w hB hd
      obtain ⟨k3, -⟩ := deps_k (ds := [3]) (by kernel_rfl) hd
      clear hd
      have e3 : x 3 = .agg #[.bool sI, .slice aI mI cI] := k3
      have HC := C58.out w hB
      unfold VEnd at HC
      have HC := Lib.hid HC
      refine wpOp_shut (o := oLM114) rfl (fun K' hK => ?_)
      unfold oLM114
      rw [e3]
      go_simp
      go_at_call 17
      refine HC.out.mono ?_
      rintro e w5 ⟨v5, rfl, hk5, hb5⟩
      clear HC
      go_wp2_with fail
      exact hK.out _ _ ⟨v5, (by first | rfl | simp [upd, e3]), hb5, hk5⟩
    · intro x w hB hd
      obtain ⟨k7, -⟩ := deps_k (ds := [7]) (by kernel_rfl) hd
      clear hd
      have e7 : x 7 = .pointer (some ⟨bl, kk * 2, none⟩) := k7
      have hLD := LD.out w hB
      obtain ⟨f0, f1, f2, f3⟩ := hLD
      refine wpOp_shut (o := oLM118) rfl (fun K' hK => ?_)
      unfold oLM118
      rw [e7]
      go_simp
      exact hK.out _ _ ⟨_, (by first | rfl | simp [upd, e7]), Below.refl _ _, rfl⟩
    · intro x w hB hd
      obtain ⟨k8, k4, -⟩ := deps_k (ds := [8, 4]) (by kernel_rfl) hd
      clear hd
      have e8 : x 8 = .agg #[.bool sK, .slice aK mK cK] := k8
      have HC := C63.out w hB
      unfold VEnd at HC
      have HC := Lib.hid HC
      refine wpOp_shut (o := oLM119) rfl (fun K' hK => ?_)
      unfold oLM119
      rw [e8]
      go_simp
      go_at_call 17
      refine HC.out.mono ?_
      rintro e w5 ⟨v5, rfl, hk5, hb5⟩
      clear HC
      go_wp2_with fail
      exact hK.out _ _ ⟨v5, (by first | rfl | simp [upd, e8]), hb5, hk5⟩
    · intro x w hB hd
      obtain ⟨k4, k9, k9, -⟩ := deps_k (ds := [4, 9, 9]) (by kernel_rfl) hd
      clear hd
      have HC := C64.out w _ _ hB k4 k9
      unfold VEnd at HC
      have HC := Lib.hid HC
      refine wpOp_shut (o := oLM1110) rfl (fun K' hK => ?_)
      unfold oLM1110
      go_simp
      go_at_call 16
      refine HC.out.mono ?_
      rintro e w5 ⟨v5, rfl, hk5, hb5⟩
      clear HC
      go_wp2_with fail
      exact hK.out _ _ ⟨v5, (by first | rfl | simp [upd]), hb5, hk5⟩
    · intro x w hB hd
      clear hd
      refine wpOp_shut (o := oLM1114) rfl (fun K' hK => ?_)
      unfold oLM1114
      go_simp
      exact hK.out _ _ ⟨_, (by first | rfl | simp [Act.put, upd]), below_one w (.cells #[.bool false, .slice none 0 0, .bool false, .slice none 0 0] 35), ka_new 35 [.bool false, .slice none 0 0, .bool false, .slice none 0 0] hB.size⟩
  case fin =>
    intro x w hB H
    have e0 : x 0 = .slice (some ⟨bl, 0, none⟩) 6 6 := H 0 (by decide)
    have e1 : x 1 = .int .i64 ((ki : Nat) : Int) := H 1 (by decide)
    have e2 : x 2 = .pointer (some ⟨bl, ki * 2, none⟩) := H 2 (by decide)
    have e3 : x 3 = .agg #[.bool sI, .slice aI mI cI] := H 3 (by decide)
    have k58 : KI z58 w (x 4) := H 4 (by decide)
    have e5 : x 5 = .slice (some ⟨bl, 0, none⟩) 6 6 := H 5 (by decide)
    have e6 : x 6 = .int .i64 ((kk : Nat) : Int) := H 6 (by decide)
    have e7 : x 7 = .pointer (some ⟨bl, kk * 2, none⟩) := H 7 (by decide)
    have e8 : x 8 = .agg #[.bool sK, .slice aK mK cK] := H 8 (by decide)
    have k63 : KI z63 w (x 9) := H 9 (by decide)
    have k64 : KTF R w (x 10) := H 10 (by decide)
    have k53 : KTF R w (x 11) := H 11 (by decide)
    have k65 : KF R.2.1 R.2.2 w (x 12) := H 12 (by decide)
    obtain ⟨sv65, tv65, av65, dv65, mv65, iv65, cv65, jv65, e12⟩ := fat_shape k65
    rw [e12] at k65
    have e13 : x 13 = .int .i64 R.1 := H 13 (by decide)
    obtain ⟨t13, e14, L13, l13⟩ : KA W0.heap.size 35 [.bool false, .slice none 0 0, .bool false, .slice none 0 0] w (x 14) := H 14 (by decide)
    clear H
    show wpAnyH _ _ _ _ _ 2 #[true, true, true, true, true, true, true, true, true, true, true, true, true, true, true, false, false] ⟨#[u0, u1, u2, u3, u4, u5, u6, u7, u8, u9, .slice (some ⟨bl, 0, none⟩) 6 6, .int .i64 ((ki : Nat) : Int), .int .i64 ((kk : Nat) : Int), x 14, u14, u15, u16, u17, u18, u19, u20, u21, u22, u23, u24, u25, u26, u27, u28, u29, u30, u31, u32, u33, u34, u35, u36, u37, u38, u39, u40, u41, u42, u43, u44, u45, u46, u47, u48, u49, u50, u51, u52, x 11, x 0, x 1, x 2, x 3, x 4, x 5, x 6, x 7, x 8, x 9, x 10, x 12, x 13, u67, u68, u69, u70, u71, u72, u73, u74, u75, u76, u77, u78, u79, u80, u81, u82, u83, u84, u85, u86, u87, u88, u89, u90, u91, u92, u93, u94, u95, u96, u97, u98, u99, u100, u101, u102, u103, u104, u105, u106, u107, u108, u109, u110, u111, u112, u113, u114, u115, u116, u117, u118, u119], dd⟩ _
    rw [e0]
    clear e0
    rw [e1]
    clear e1
    rw [e2]
    clear e2
    rw [e3]
    clear e3
    generalize x 4 = x58 at *
    rw [e5]
    clear e5
    rw [e6]
    clear e6
    rw [e7]
    clear e7
    rw [e8]
    clear e8
    generalize x 9 = x63 at *
    generalize x 10 = x64 at *
    generalize x 11 = x53 at *
    rw [e12]
    clear e12
    rw [e13]
    clear e13
    rw [e14]
    clear e14
    obtain ⟨⟨r0, r1, r2, r3⟩, r4, r5, r6, r7⟩ := cellsF l13
    refine wpAnyH_ready (rs := [15]) (by kernel_rfl) (by simp) (AllReadyH.cons (o := oLM1115) rfl (fun K hK => ?_) AllReadyH.nil)
    unfold oLM1115
    go_simp
    refine hK.out _ _ trivial (fun hHeld => ?_)
    clear r0 r1 r2 r3 r4 r5 r6 r7
    clear hK K
    try simp only [List.setIfInBounds_toArray, List.set_cons_zero, List.set_cons_succ]
    refine wpAnyH_ready (rs := [16]) (by kernel_rfl) (by simp) (AllReadyH.cons (o := oLM1116) rfl (fun K hK => ?_) AllReadyH.nil)
    unfold oLM1116
    go_simp
    refine hK.out _ _ trivial (fun hHeld => ?_)
    clear hK K
    try simp only [List.setIfInBounds_toArray, List.set_cons_zero, List.set_cons_succ]
    refine wpAnyH_done (by kernel_rfl) ?_ _
    exact leaf _ _ _ _ _ _ _ _ _ _ _ _ _ _ (Lib.hid (below_set4 hB L13)) L13 (Lib.hid (FBox.store l13 k65))
def oLM120 : Oper := { dst := some 68, op := Op.move (Operand.tmp 10), type := 30, pos := "law.go:63", after := #[], guard := none }
def oLM121 : Oper := { dst := some 69, op := Op.move (Operand.tmp 11), type := 3, pos := "law.go:63", after := #[], guard := none }
def oLM122 : Oper := { dst := some 70, op := Op.indexAddr 30 (Operand.tmp 68) (Operand.tmp 69), type := 0, pos := "law.go:63", after := #[{ on := 0, ground := Ground.data }, { on := 1, ground := Ground.data }], guard := none }
def oLM123 : Oper := { dst := some 71, op := Op.load 24 (Operand.tmp 70), type := 24, pos := "law.go:63", after := #[{ on := 2, ground := Ground.data }], guard := none }
def oLM124 : Oper := { dst := some 72, op := Op.move (Operand.tmp 10), type := 30, pos := "law.go:63", after := #[], guard := none }
def oLM125 : Oper := { dst := some 73, op := Op.move (Operand.tmp 12), type := 3, pos := "law.go:63", after := #[], guard := none }
def oLM126 : Oper := { dst := some 74, op := Op.indexAddr 30 (Operand.tmp 72) (Operand.tmp 73), type := 0, pos := "law.go:63", after := #[{ on := 4, ground := Ground.data }, { on := 5, ground := Ground.data }], guard := none }
def oLM127 : Oper := { dst := some 75, op := Op.load 24 (Operand.tmp 74), type := 24, pos := "law.go:63", after := #[{ on := 6, ground := Ground.data }], guard := none }
def oLM128 : Oper := { dst := some 76, op := Op.call { callee := Callee.value (Operand.func 18), args := #[Operand.tmp 71, Operand.tmp 75], argTypes := #[24, 24] }, type := 42, pos := "law.go:63", after := #[{ on := 3, ground := Ground.data }, { on := 7, ground := Ground.data }], guard := none }
def oLM129 : Oper := { dst := some 67, op := Op.move (Operand.tmp 76), type := 42, pos := "law.go:63", after := #[{ on := 8, ground := Ground.data }], guard := none }
def oLM1210 : Oper := { dst := some 77, op := Op.extract (Operand.tmp 67) 0, type := 41, pos := "law.go:63", after := #[{ on := 9, ground := Ground.data }], guard := none }
def oLM1211 : Oper := { dst := some 78, op := Op.extract (Operand.tmp 67) 1, type := 36, pos := "law.go:63", after := #[{ on := 9, ground := Ground.data }, { on := 13, ground := Ground.gcOnly Departure.lateStores }], guard := none }
def oLM1212 : Oper := { dst := some 15, op := Op.alloc 41, type := 0, pos := "law.go:63", after := #[], guard := none }
def oLM1213 : Oper := { dst := none, op := Op.store 41 (Operand.tmp 15) (Operand.tmp 77), type := 0, pos := "law.go:63", after := #[{ on := 12, ground := Ground.data }, { on := 10, ground := Ground.data }, { on := 8, ground := Ground.chain }, { on := 0, ground := Ground.phase }, { on := 1, ground := Ground.phase }, { on := 2, ground := Ground.phase }, { on := 3, ground := Ground.phase }, { on := 4, ground := Ground.phase }, { on := 5, ground := Ground.phase }, { on := 6, ground := Ground.phase }, { on := 7, ground := Ground.phase }, { on := 8, ground := Ground.phase }, { on := 9, ground := Ground.phase }, { on := 10, ground := Ground.phase }, { on := 11, ground := Ground.textOnly Departure.lateStores }, { on := 12, ground := Ground.phase }], guard := none }
def oLM1214 : Oper := { dst := some 16, op := Op.assign (Operand.tmp 78), type := 36, pos := "law.go:63", after := #[{ on := 11, ground := Ground.data }, { on := 13, ground := Ground.chain }, { on := 0, ground := Ground.phase }, { on := 1, ground := Ground.phase }, { on := 2, ground := Ground.phase }, { on := 3, ground := Ground.phase }, { on := 4, ground := Ground.phase }, { on := 5, ground := Ground.phase }, { on := 6, ground := Ground.phase }, { on := 7, ground := Ground.phase }, { on := 8, ground := Ground.phase }, { on := 9, ground := Ground.phase }, { on := 10, ground := Ground.phase }, { on := 11, ground := Ground.phase }, { on := 12, ground := Ground.phase }, { on := 13, ground := Ground.phase }], guard := none }
def opsLM12 : Array Oper := #[oLM120, oLM121, oLM122, oLM123, oLM124, oLM125, oLM126, oLM127, oLM128, oLM129, oLM1210, oLM1211, oLM1212, oLM1213, oLM1214]
set_option maxHeartbeats 8000000 in
theorem regLM12 {Q : Exit → Act → World → Prop} (hQ : ∀ c a d v w, Q (.panic c) (Act.put a d v) w → Q (.panic c) a w) {W0 : World} {dd : List Deferred} {u0 u1 u2 u3 u4 u5 u6 u7 u8 u9 u13 u14 u15 u16 u17 u18 u19 u20 u21 u22 u23 u24 u25 u26 u27 u28 u29 u30 u31 u32 u33 u34 u35 u36 u37 u38 u39 u40 u41 u42 u43 u44 u45 u46 u47 u48 u49 u50 u51 u52 u53 u54 u55 u56 u57 u58 u59 u60 u61 u62 u63 u64 u65 u66 u67 u68 u69 u70 u71 u72 u73 u74 u75 u76 u77 u78 u79 u80 u81 u82 u83 u84 u85 u86 u87 u88 u89 u90 u91 u92 u93 u94 u95 u96 u97 u98 u99 u100 u101 u102 u103 u104 u105 u106 u107 u108 u109 u110 u111 u112 u113 u114 u115 u116 u117 u118 u119 : Value}  {bl ki kk : Nat} {sI sK : Bool} {aI aK : Option Addr} {mI cI mK cK : Nat} {R : Int × Int × Int} (HKi : ¬ ((6 : Int) ≤ ((ki : Nat) : Int))) (HKk : ¬ ((6 : Int) ≤ ((kk : Nat) : Int)))
    (LD : Hid (∀ X : World, Below W0.heap.size W0 X → X.cell? ⟨bl, ki * 2, none⟩ = some (.bool sI) ∧ X.cell? ⟨bl, ki * 2 + 1, none⟩ = some (.slice aI mI cI) ∧ X.cell? ⟨bl, kk * 2, none⟩ = some (.bool sK) ∧ X.cell? ⟨bl, kk * 2 + 1, none⟩ = some (.slice aK mK cK)))
    (C76 : Hid (∀ X, Below W0.heap.size W0 X → Calls Tryz.prog 18 #[.agg #[.bool sI, .slice aI mI cI], .agg #[.bool sK, .slice aK mK cK]] X (VEnd (KTR R) X)))
    (leaf : ∀ (X : World) (x76 : Value) (x67 : Value) (sv77 tv77 : Bool) (av77 dv77 : Option Addr) (mv77 iv77 cv77 jv77 : Nat) (t15 : Nat), Hid (Below W0.heap.size W0 X) → W0.heap.size ≤ t15 → Hid (RBox X t15 R.2.1 R.2.2) → Q .normal ⟨#[u0, u1, u2, u3, u4, u5, u6, u7, u8, u9, .slice (some ⟨bl, 0, none⟩) 6 6, .int .i64 ((ki : Nat) : Int), .int .i64 ((kk : Nat) : Int), u13, u14, .pointer (some ⟨t15, 0, none⟩), .int .i64 R.1, u17, u18, u19, u20, u21, u22, u23, u24, u25, u26, u27, u28, u29, u30, u31, u32, u33, u34, u35, u36, u37, u38, u39, u40, u41, u42, u43, u44, u45, u46, u47, u48, u49, u50, u51, u52, u53, u54, u55, u56, u57, u58, u59, u60, u61, u62, u63, u64, u65, u66, x67, .slice (some ⟨bl, 0, none⟩) 6 6, .int .i64 ((ki : Nat) : Int), .pointer (some ⟨bl, ki * 2, none⟩), .agg #[.bool sI, .slice aI mI cI], .slice (some ⟨bl, 0, none⟩) 6 6, .int .i64 ((kk : Nat) : Int), .pointer (some ⟨bl, kk * 2, none⟩), .agg #[.bool sK, .slice aK mK cK], x76, .agg #[.bool sv77, .slice av77 mv77 cv77, .bool tv77, .slice dv77 iv77 jv77], .int .i64 R.1, u79, u80, u81, u82, u83, u84, u85, u86, u87, u88, u89, u90, u91, u92, u93, u94, u95, u96, u97, u98, u99, u100, u101, u102, u103, u104, u105, u106, u107, u108, u109, u110, u111, u112, u113, u114, u115, u116, u117, u118, u119], dd⟩ X) :
    (Code.region 12 opsLM12 true).wp Tryz.prog Q ⟨#[u0, u1, u2, u3, u4, u5, u6, u7, u8, u9, .slice (some ⟨bl, 0, none⟩) 6 6, .int .i64 ((ki : Nat) : Int), .int .i64 ((kk : Nat) : Int), u13, u14, u15, u16, u17, u18, u19, u20, u21, u22, u23, u24, u25, u26, u27, u28, u29, u30, u31, u32, u33, u34, u35, u36, u37, u38, u39, u40, u41, u42, u43, u44, u45, u46, u47, u48, u49, u50, u51, u52, u53, u54, u55, u56, u57, u58, u59, u60, u61, u62, u63, u64, u65, u66, u67, u68, u69, u70, u71, u72, u73, u74, u75, u76, u77, u78, u79, u80, u81, u82, u83, u84, u85, u86, u87, u88, u89, u90, u91, u92, u93, u94, u95, u96, u97, u98, u99, u100, u101, u102, u103, u104, u105, u106, u107, u108, u109, u110, u111, u112, u113, u114, u115, u116, u117, u118, u119], dd⟩ W0 := by
  refine region_ops (P := Tryz.prog) (ops := opsLM12) (W0 := W0) (dd := dd) (k := 13) (T := 2) (E := [0, 1, 2, 4, 5, 6, 9, 10, 11]) (C := [3, 7, 8, 12]) (S := (fun _ => True)) (K := getK [KX (.slice (some ⟨bl, 0, none⟩) 6 6), KX (.int .i64 ((ki : Nat) : Int)), KX (.pointer (some ⟨bl, ki * 2, none⟩)), KX (.agg #[.bool sI, .slice aI mI cI]), KX (.slice (some ⟨bl, 0, none⟩) 6 6), KX (.int .i64 ((kk : Nat) : Int)), KX (.pointer (some ⟨bl, kk * 2, none⟩)), KX (.agg #[.bool sK, .slice aK mK cK]), KTR R, KTR R, KR R.2.1 R.2.2, KX (.int .i64 R.1), KA W0.heap.size 41 [.bool false, .slice none 0 0, .bool false, .slice none 0 0]]) (tm := (fun x => #[u0, u1, u2, u3, u4, u5, u6, u7, u8, u9, .slice (some ⟨bl, 0, none⟩) 6 6, .int .i64 ((ki : Nat) : Int), .int .i64 ((kk : Nat) : Int), u13, u14, x 12, u16, u17, u18, u19, u20, u21, u22, u23, u24, u25, u26, u27, u28, u29, u30, u31, u32, u33, u34, u35, u36, u37, u38, u39, u40, u41, u42, u43, u44, u45, u46, u47, u48, u49, u50, u51, u52, u53, u54, u55, u56, u57, u58, u59, u60, u61, u62, u63, u64, u65, u66, x 9, x 0, x 1, x 2, x 3, x 4, x 5, x 6, x 7, x 8, x 10, x 11, u79, u80, u81, u82, u83, u84, u85, u86, u87, u88, u89, u90, u91, u92, u93, u94, u95, u96, u97, u98, u99, u100, u101, u102, u103, u104, u105, u106, u107, u108, u109, u110, u111, u112, u113, u114, u115, u116, u117, u118, u119])) (getV [u68, u69, u70, u71, u72, u73, u74, u75, u76, u67, u77, u78, u15]) (by kernel_rfl) (by rfl) (by kernel_rfl) (by kernel_rfl) (by kernel_rfl) (by kernel_rfl) (by kernel_rfl) hQ (fun _ _ => trivial) (getK_mono ⟨m_x, m_x, m_x, m_x, m_x, m_x, m_x, m_x, m_tr, m_tr, m_r, m_x, m_a, trivial⟩) ?eager ?call ?fin
  case eager =>
    intro i hi
    simp only [List.mem_cons, List.not_mem_nil, or_false] at hi
    rcases hi with rfl | rfl | rfl | rfl | rfl | rfl | rfl | rfl | rfl
    · intro x w hB hd
      clear hd
      refine ⟨oLM120, (.slice (some ⟨bl, 0, none⟩) 6 6), rfl, ?_, rfl, (by first | rfl | simp [Act.put, upd])⟩
      refine Or.inl ⟨by rfl, fun wq hSw => ?_⟩
      clear hSw
      unfold oLM120
      go_simp
      try with_reducible rfl
    · intro x w hB hd
      clear hd
      refine ⟨oLM121, (.int .i64 ((ki : Nat) : Int)), rfl, ?_, rfl, (by first | rfl | simp [Act.put, upd])⟩
      refine Or.inl ⟨by rfl, fun wq hSw => ?_⟩
      clear hSw
      unfold oLM121
      go_simp
      try with_reducible rfl
    · intro x w hB hd
      obtain ⟨k0, k1, -⟩ := deps_k (ds := [0, 1]) (by kernel_rfl) hd
      clear hd
      have e0 : x 0 = .slice (some ⟨bl, 0, none⟩) 6 6 := k0
      have e1 : x 1 = .int .i64 ((ki : Nat) : Int) := k1
      refine ⟨oLM122, (.pointer (some ⟨bl, ki * 2, none⟩)), rfl, ?_, rfl, (by first | rfl | simp [Act.put, upd])⟩
      rw [e0]
      rw [e1]
      refine Or.inl ⟨by rfl, fun wq hSw => ?_⟩
      clear hSw
      unfold oLM122
      go_simp
      try with_reducible rfl
    · intro x w hB hd
      clear hd
      refine ⟨oLM124, (.slice (some ⟨bl, 0, none⟩) 6 6), rfl, ?_, rfl, (by first | rfl | simp [Act.put, upd])⟩
      refine Or.inl ⟨by rfl, fun wq hSw => ?_⟩
      clear hSw
      unfold oLM124
      go_simp
      try with_reducible rfl
    · intro x w hB hd
      clear hd
      refine ⟨oLM125, (.int .i64 ((kk : Nat) : Int)), rfl, ?_, rfl, (by first | rfl | simp [Act.put, upd])⟩
      refine Or.inl ⟨by rfl, fun wq hSw => ?_⟩
      clear hSw
      unfold oLM125
      go_simp
      try with_reducible rfl
    · intro x w hB hd
      obtain ⟨k4, k5, -⟩ := deps_k (ds := [4, 5]) (by kernel_rfl) hd
      clear hd
      have e4 : x 4 = .slice (some ⟨bl, 0, none⟩) 6 6 := k4
      have e5 : x 5 = .int .i64 ((kk : Nat) : Int) := k5
      refine ⟨oLM126, (.pointer (some ⟨bl, kk * 2, none⟩)), rfl, ?_, rfl, (by first | rfl | simp [Act.put, upd])⟩
      rw [e4]
      rw [e5]
      refine Or.inl ⟨by rfl, fun wq hSw => ?_⟩
      clear hSw
      unfold oLM126
      go_simp
      try with_reducible rfl
    · intro x w hB hd
      obtain ⟨k8, -⟩ := deps_k (ds := [8]) (by kernel_rfl) hd
      clear hd
      refine ⟨oLM129, (x 8), rfl, ?_, k8, (by first | rfl | simp [Act.put, upd])⟩
      refine Or.inl ⟨by rfl, fun wq hSw => ?_⟩
      clear hSw
      unfold oLM129
      go_simp
      try with_reducible rfl
    · intro x w hB hd
      obtain ⟨k9, -⟩ := deps_k (ds := [9]) (by kernel_rfl) hd
      clear hd
      obtain ⟨y9, e9, hy9⟩ : KTR R w (x 9) := k9
      refine ⟨oLM1210, y9, rfl, ?_, hy9, (by first | rfl | simp [Act.put, upd])⟩
      rw [e9]
      refine Or.inl ⟨by rfl, fun wq hSw => ?_⟩
      clear hSw
      unfold oLM1210
      go_simp
      try with_reducible rfl
    · intro x w hB hd
      obtain ⟨k9, -⟩ := deps_k (ds := [9]) (by kernel_rfl) hd
      clear hd
      obtain ⟨y9, e9, hy9⟩ : KTR R w (x 9) := k9
      refine ⟨oLM1211, (.int .i64 R.1), rfl, ?_, rfl, (by first | rfl | simp [Act.put, upd])⟩
      rw [e9]
      refine Or.inl ⟨by rfl, fun wq hSw => ?_⟩
      clear hSw
      unfold oLM1211
      go_simp
      try with_reducible rfl
  case call =>
    intro i hi
    simp only [List.mem_cons, List.not_mem_nil, or_false] at hi
    rcases hi with rfl | rfl | rfl | rfl
    · intro x w hB hd
      obtain ⟨k2, -⟩ := deps_k (ds := [2]) (by kernel_rfl) hd
      clear hd
      have e2 : x 2 = .pointer (some ⟨bl, ki * 2, none⟩) := k2
      have hLD := LD.out w hB
      obtain ⟨f0, f1, f2, f3⟩ := hLD
      refine wpOp_shut (o := oLM123) rfl (fun K' hK => ?_)
      unfold oLM123
      rw [e2]
      go_simp
      exact hK.out _ _ ⟨_, (by first | rfl | simp [upd, e2]), Below.refl _ _, rfl⟩
    · intro x w hB hd
      obtain ⟨k6, -⟩ := deps_k (ds := [6]) (by kernel_rfl) hd
      clear hd
      have e6 : x 6 = .pointer (some ⟨bl, kk * 2, none⟩) := k6
      have hLD := LD.out w hB
      obtain ⟨f0, f1, f2, f3⟩ := hLD
      refine wpOp_shut (o := oLM127) rfl (fun K' hK => ?_)
      unfold oLM127
      rw [e6]
      go_simp
      exact hK.out _ _ ⟨_, (by first | rfl | simp [upd, e6]), Below.refl _ _, rfl⟩
    · intro x w hB hd
      obtain ⟨k3, k7, -⟩ := deps_k (ds := [3, 7]) (by kernel_rfl) hd
      clear hd
      have e3 : x 3 = .agg #[.bool sI, .slice aI mI cI] := k3
      have e7 : x 7 = .agg #[.bool sK, .slice aK mK cK] := k7
      have HC := C76.out w hB
      unfold VEnd at HC
      have HC := Lib.hid HC
      refine wpOp_shut (o := oLM128) rfl (fun K' hK => ?_)
      unfold oLM128
      rw [e3]
      rw [e7]
      go_simp
      go_at_call 18
      refine HC.out.mono ?_
      rintro e w5 ⟨v5, rfl, hk5, hb5⟩
      clear HC
      go_wp2_with fail
      exact hK.out _ _ ⟨v5, (by first | rfl | simp [upd, e3, e7]), hb5, hk5⟩
    · intro x w hB hd
      clear hd
      refine wpOp_shut (o := oLM1212) rfl (fun K' hK => ?_)
      unfold oLM1212
      go_simp
      exact hK.out _ _ ⟨_, (by first | rfl | simp [Act.put, upd]), below_one w (.cells #[.bool false, .slice none 0 0, .bool false, .slice none 0 0] 41), ka_new 41 [.bool false, .slice none 0 0, .bool false, .slice none 0 0] hB.size⟩
  case fin =>
    intro x w hB H
    have e0 : x 0 = .slice (some ⟨bl, 0, none⟩) 6 6 := H 0 (by decide)
    have e1 : x 1 = .int .i64 ((ki : Nat) : Int) := H 1 (by decide)
    have e2 : x 2 = .pointer (some ⟨bl, ki * 2, none⟩) := H 2 (by decide)
    have e3 : x 3 = .agg #[.bool sI, .slice aI mI cI] := H 3 (by decide)
    have e4 : x 4 = .slice (some ⟨bl, 0, none⟩) 6 6 := H 4 (by decide)
    have e5 : x 5 = .int .i64 ((kk : Nat) : Int) := H 5 (by decide)
    have e6 : x 6 = .pointer (some ⟨bl, kk * 2, none⟩) := H 6 (by decide)
    have e7 : x 7 = .agg #[.bool sK, .slice aK mK cK] := H 7 (by decide)
    have k76 : KTR R w (x 8) := H 8 (by decide)
    have k67 : KTR R w (x 9) := H 9 (by decide)
    have k77 : KR R.2.1 R.2.2 w (x 10) := H 10 (by decide)
    obtain ⟨sv77, tv77, av77, dv77, mv77, iv77, cv77, jv77, e10⟩ := rf_shape k77
    rw [e10] at k77
    have e11 : x 11 = .int .i64 R.1 := H 11 (by decide)
    obtain ⟨t15, e12, L15, l15⟩ : KA W0.heap.size 41 [.bool false, .slice none 0 0, .bool false, .slice none 0 0] w (x 12) := H 12 (by decide)
    clear H
    show wpAnyH _ _ _ _ _ 2 #[true, true, true, true, true, true, true, true, true, true, true, true, true, false, false] ⟨#[u0, u1, u2, u3, u4, u5, u6, u7, u8, u9, .slice (some ⟨bl, 0, none⟩) 6 6, .int .i64 ((ki : Nat) : Int), .int .i64 ((kk : Nat) : Int), u13, u14, x 12, u16, u17, u18, u19, u20, u21, u22, u23, u24, u25, u26, u27, u28, u29, u30, u31, u32, u33, u34, u35, u36, u37, u38, u39, u40, u41, u42, u43, u44, u45, u46, u47, u48, u49, u50, u51, u52, u53, u54, u55, u56, u57, u58, u59, u60, u61, u62, u63, u64, u65, u66, x 9, x 0, x 1, x 2, x 3, x 4, x 5, x 6, x 7, x 8, x 10, x 11, u79, u80, u81, u82, u83, u84, u85, u86, u87, u88, u89, u90, u91, u92, u93, u94, u95, u96, u97, u98, u99, u100, u101, u102, u103, u104, u105, u106, u107, u108, u109, u110, u111, u112, u113, u114, u115, u116, u117, u118, u119], dd⟩ _
    rw [e0]
    clear e0
    rw [e1]
    clear e1
    rw [e2]
    clear e2
    rw [e3]
    clear e3
    rw [e4]
    clear e4
    rw [e5]
    clear e5
    rw [e6]
    clear e6
    rw [e7]
    clear e7
    generalize x 8 = x76 at *
    generalize x 9 = x67 at *
    rw [e10]
    clear e10
    rw [e11]
    clear e11
    rw [e12]
    clear e12
    obtain ⟨⟨r0, r1, r2, r3⟩, r4, r5, r6, r7⟩ := cellsF l15
    refine wpAnyH_ready (rs := [13]) (by kernel_rfl) (by simp) (AllReadyH.cons (o := oLM1213) rfl (fun K hK => ?_) AllReadyH.nil)
    unfold oLM1213
    go_simp
    refine hK.out _ _ trivial (fun hHeld => ?_)
    clear r0 r1 r2 r3 r4 r5 r6 r7
    clear hK K
    try simp only [List.setIfInBounds_toArray, List.set_cons_zero, List.set_cons_succ]
    refine wpAnyH_ready (rs := [14]) (by kernel_rfl) (by simp) (AllReadyH.cons (o := oLM1214) rfl (fun K hK => ?_) AllReadyH.nil)
    unfold oLM1214
    go_simp
    refine hK.out _ _ trivial (fun hHeld => ?_)
    clear hK K
    try simp only [List.setIfInBounds_toArray, List.set_cons_zero, List.set_cons_succ]
    refine wpAnyH_done (by kernel_rfl) ?_ _
    exact leaf _ _ _ _ _ _ _ _ _ _ _ _ (Lib.hid (below_set4 hB L15)) L15 (Lib.hid (RBox.store l15 k77))
def oLM30 : Oper := { dst := some 31, op := Op.load 24 (Operand.tmp 7), type := 24, pos := "law.go:58", after := #[], guard := none }
def oLM31 : Oper := { dst := some 32, op := Op.call { callee := Callee.value (Operand.func 13), args := #[Operand.const (Value.int IntKind.i64 9000)], argTypes := #[3] }, type := 24, pos := "law.go:58", after := #[], guard := none }
def oLM32 : Oper := { dst := some 33, op := Op.call { callee := Callee.value (Operand.func 12), args := #[Operand.tmp 31, Operand.tmp 32], argTypes := #[24, 24] }, type := 24, pos := "law.go:58", after := #[{ on := 0, ground := Ground.data }, { on := 1, ground := Ground.data }, { on := 1, ground := Ground.chain }], guard := none }
def oLM33 : Oper := { dst := some 9, op := Op.alloc 24, type := 0, pos := "law.go:58", after := #[], guard := none }
def oLM34 : Oper := { dst := none, op := Op.store 24 (Operand.tmp 9) (Operand.tmp 33), type := 0, pos := "law.go:58", after := #[{ on := 3, ground := Ground.data }, { on := 2, ground := Ground.data }, { on := 2, ground := Ground.chain }, { on := 0, ground := Ground.phase }, { on := 1, ground := Ground.phase }, { on := 2, ground := Ground.phase }, { on := 3, ground := Ground.phase }], guard := none }
def opsLM3 : Array Oper := #[oLM30, oLM31, oLM32, oLM33, oLM34]
set_option maxHeartbeats 8000000 in
theorem regLM3 {Q : Exit → Act → World → Prop} (hQ : ∀ c a d v w, Q (.panic c) (Act.put a d v) w → Q (.panic c) a w) {W0 : World} {dd : List Deferred} {u0 u1 u2 u3 u4 u5 u6 u8 u9 u10 u11 u12 u13 u14 u15 u16 u17 u18 u19 u20 u21 u22 u23 u24 u25 u26 u27 u28 u29 u30 u31 u32 u33 u34 u35 u36 u37 u38 u39 u40 u41 u42 u43 u44 u45 u46 u47 u48 u49 u50 u51 u52 u53 u54 u55 u56 u57 u58 u59 u60 u61 u62 u63 u64 u65 u66 u67 u68 u69 u70 u71 u72 u73 u74 u75 u76 u77 u78 u79 u80 u81 u82 u83 u84 u85 u86 u87 u88 u89 u90 u91 u92 u93 u94 u95 u96 u97 u98 u99 u100 u101 u102 u103 u104 u105 u106 u107 u108 u109 u110 u111 u112 u113 u114 u115 u116 u117 u118 u119 : Value} {b7 : Nat} {s7 : Bool} {a7 : Option Addr} {m7 c7 : Nat} {z32 z33 : Int}
    (LD : Hid (∀ X : World, Below W0.heap.size W0 X → X.cell? ⟨b7, 0, none⟩ = some (.bool s7) ∧ X.cell? ⟨b7, 1, none⟩ = some (.slice a7 m7 c7)))
    (C32 : Hid (∀ X, Below W0.heap.size W0 X → Calls Tryz.prog 13 #[.int .i64 9000] X (VEnd (KN z32) X)))
    (C33 : Hid (∀ X x32, Below W0.heap.size W0 X → KN z32 X x32 → Calls Tryz.prog 12 #[.agg #[.bool s7, .slice a7 m7 c7], x32] X (VEnd (KN z33) X)))
    (leaf : ∀ (X : World) (x32 : Value) (sv33 : Bool) (av33 : Option Addr) (mv33 cv33 : Nat) (t9 : Nat), Hid (Below W0.heap.size W0 X) → W0.heap.size ≤ t9 → Hid (NBox X t9 z33) → Q .normal ⟨#[u0, u1, u2, u3, u4, u5, u6, .pointer (some ⟨b7, 0, none⟩), u8, .pointer (some ⟨t9, 0, none⟩), u10, u11, u12, u13, u14, u15, u16, u17, u18, u19, u20, u21, u22, u23, u24, u25, u26, u27, u28, u29, u30, .agg #[.bool s7, .slice a7 m7 c7], x32, .agg #[.bool sv33, .slice av33 mv33 cv33], u34, u35, u36, u37, u38, u39, u40, u41, u42, u43, u44, u45, u46, u47, u48, u49, u50, u51, u52, u53, u54, u55, u56, u57, u58, u59, u60, u61, u62, u63, u64, u65, u66, u67, u68, u69, u70, u71, u72, u73, u74, u75, u76, u77, u78, u79, u80, u81, u82, u83, u84, u85, u86, u87, u88, u89, u90, u91, u92, u93, u94, u95, u96, u97, u98, u99, u100, u101, u102, u103, u104, u105, u106, u107, u108, u109, u110, u111, u112, u113, u114, u115, u116, u117, u118, u119], dd⟩ X) :
    (Code.region 3 opsLM3 true).wp Tryz.prog Q ⟨#[u0, u1, u2, u3, u4, u5, u6, .pointer (some ⟨b7, 0, none⟩), u8, u9, u10, u11, u12, u13, u14, u15, u16, u17, u18, u19, u20, u21, u22, u23, u24, u25, u26, u27, u28, u29, u30, u31, u32, u33, u34, u35, u36, u37, u38, u39, u40, u41, u42, u43, u44, u45, u46, u47, u48, u49, u50, u51, u52, u53, u54, u55, u56, u57, u58, u59, u60, u61, u62, u63, u64, u65, u66, u67, u68, u69, u70, u71, u72, u73, u74, u75, u76, u77, u78, u79, u80, u81, u82, u83, u84, u85, u86, u87, u88, u89, u90, u91, u92, u93, u94, u95, u96, u97, u98, u99, u100, u101, u102, u103, u104, u105, u106, u107, u108, u109, u110, u111, u112, u113, u114, u115, u116, u117, u118, u119], dd⟩ W0 := by
  refine region_ops (P := Tryz.prog) (ops := opsLM3) (W0 := W0) (dd := dd) (k := 4) (T := 1) (E := []) (C := [0, 1, 2, 3]) (S := (fun _ => True)) (K := getK [KX (.agg #[.bool s7, .slice a7 m7 c7]), KN z32, KN z33, KA W0.heap.size 24 [.bool false, .slice none 0 0]]) (tm := (fun x => #[u0, u1, u2, u3, u4, u5, u6, .pointer (some ⟨b7, 0, none⟩), u8, x 3, u10, u11, u12, u13, u14, u15, u16, u17, u18, u19, u20, u21, u22, u23, u24, u25, u26, u27, u28, u29, u30, x 0, x 1, x 2, u34, u35, u36, u37, u38, u39, u40, u41, u42, u43, u44, u45, u46, u47, u48, u49, u50, u51, u52, u53, u54, u55, u56, u57, u58, u59, u60, u61, u62, u63, u64, u65, u66, u67, u68, u69, u70, u71, u72, u73, u74, u75, u76, u77, u78, u79, u80, u81, u82, u83, u84, u85, u86, u87, u88, u89, u90, u91, u92, u93, u94, u95, u96, u97, u98, u99, u100, u101, u102, u103, u104, u105, u106, u107, u108, u109, u110, u111, u112, u113, u114, u115, u116, u117, u118, u119])) (getV [u31, u32, u33, u9]) (by kernel_rfl) (by rfl) (by kernel_rfl) (by kernel_rfl) (by kernel_rfl) (by kernel_rfl) (by kernel_rfl) hQ (fun _ _ => trivial) (getK_mono ⟨m_x, m_n, m_n, m_a, trivial⟩) ?eager ?call ?fin
  case eager =>
    intro i hi
    cases hi
  case call =>
    intro i hi
    simp only [List.mem_cons, List.not_mem_nil, or_false] at hi
    rcases hi with rfl | rfl | rfl | rfl
    · intro x w hB hd
      clear hd
      have hLD := LD.out w hB
      obtain ⟨f0, f1⟩ := hLD
      refine wpOp_shut (o := oLM30) rfl (fun K' hK => ?_)
      unfold oLM30
      go_simp
      exact hK.out _ _ ⟨_, (by first | rfl | simp [upd]), Below.refl _ _, rfl⟩
    · intro x w hB hd
      clear hd
      have HC := C32.out w hB
      unfold VEnd at HC
      have HC := Lib.hid HC
      refine wpOp_shut (o := oLM31) rfl (fun K' hK => ?_)
      unfold oLM31
      go_simp
      go_at_call 13
      refine HC.out.mono ?_
      rintro e w5 ⟨v5, rfl, hk5, hb5⟩
      clear HC
      go_wp2_with fail
      exact hK.out _ _ ⟨v5, (by first | rfl | simp [upd]), hb5, hk5⟩
    · intro x w hB hd
      obtain ⟨k0, k1, k1, -⟩ := deps_k (ds := [0, 1, 1]) (by kernel_rfl) hd
      clear hd
      have e0 : x 0 = .agg #[.bool s7, .slice a7 m7 c7] := k0
      have HC := C33.out w _ hB k1
      unfold VEnd at HC
      have HC := Lib.hid HC
      refine wpOp_shut (o := oLM32) rfl (fun K' hK => ?_)
      unfold oLM32
      rw [e0]
      go_simp
      go_at_call 12
      refine HC.out.mono ?_
      rintro e w5 ⟨v5, rfl, hk5, hb5⟩
      clear HC
      go_wp2_with fail
      exact hK.out _ _ ⟨v5, (by first | rfl | simp [upd, e0]), hb5, hk5⟩
    · intro x w hB hd
      clear hd
      refine wpOp_shut (o := oLM33) rfl (fun K' hK => ?_)
      unfold oLM33
      go_simp
      exact hK.out _ _ ⟨_, (by first | rfl | simp [Act.put, upd]), below_one w (.cells #[.bool false, .slice none 0 0] 24), ka_new 24 [.bool false, .slice none 0 0] hB.size⟩
  case fin =>
    intro x w hB H
    have e0 : x 0 = .agg #[.bool s7, .slice a7 m7 c7] := H 0 (by decide)
    have k32 : KN z32 w (x 1) := H 1 (by decide)
    have k33 : KN z33 w (x 2) := H 2 (by decide)
    obtain ⟨sv33, av33, mv33, cv33, e2⟩ := nat_shape k33
    rw [e2] at k33
    obtain ⟨t9, e3, L9, l9⟩ : KA W0.heap.size 24 [.bool false, .slice none 0 0] w (x 3) := H 3 (by decide)
    clear H
    show wpAnyH _ _ _ _ _ 1 #[true, true, true, true, false] ⟨#[u0, u1, u2, u3, u4, u5, u6, .pointer (some ⟨b7, 0, none⟩), u8, x 3, u10, u11, u12, u13, u14, u15, u16, u17, u18, u19, u20, u21, u22, u23, u24, u25, u26, u27, u28, u29, u30, x 0, x 1, x 2, u34, u35, u36, u37, u38, u39, u40, u41, u42, u43, u44, u45, u46, u47, u48, u49, u50, u51, u52, u53, u54, u55, u56, u57, u58, u59, u60, u61, u62, u63, u64, u65, u66, u67, u68, u69, u70, u71, u72, u73, u74, u75, u76, u77, u78, u79, u80, u81, u82, u83, u84, u85, u86, u87, u88, u89, u90, u91, u92, u93, u94, u95, u96, u97, u98, u99, u100, u101, u102, u103, u104, u105, u106, u107, u108, u109, u110, u111, u112, u113, u114, u115, u116, u117, u118, u119], dd⟩ _
    rw [e0]
    clear e0
    generalize x 1 = x32 at *
    rw [e2]
    clear e2
    rw [e3]
    clear e3
    obtain ⟨r0, r1, r2, r3⟩ := cells2 l9
    refine wpAnyH_ready (rs := [4]) (by kernel_rfl) (by simp) (AllReadyH.cons (o := oLM34) rfl (fun K hK => ?_) AllReadyH.nil)
    unfold oLM34
    go_simp
    refine hK.out _ _ trivial (fun hHeld => ?_)
    clear r0 r1 r2 r3
    clear hK K
    try simp only [List.setIfInBounds_toArray, List.set_cons_zero, List.set_cons_succ]
    refine wpAnyH_done (by kernel_rfl) ?_ _
    exact leaf _ _ _ _ _ _ _ (Lib.hid (below_set2 hB L9)) L9 (Lib.hid (nbox_store l9 k33))
def oLM40 : Oper := { dst := some 34, op := Op.load 24 (Operand.tmp 7), type := 24, pos := "law.go:59", after := #[], guard := none }
def oLM41 : Oper := { dst := some 35, op := Op.load 24 (Operand.tmp 8), type := 24, pos := "law.go:59", after := #[], guard := none }
def oLM42 : Oper := { dst := some 36, op := Op.load 24 (Operand.tmp 8), type := 24, pos := "law.go:59", after := #[], guard := none }
def oLM43 : Oper := { dst := some 37, op := Op.call { callee := Callee.value (Operand.func 14), args := #[Operand.tmp 36], argTypes := #[24] }, type := 24, pos := "law.go:59", after := #[{ on := 2, ground := Ground.data }], guard := none }
def oLM44 : Oper := { dst := some 38, op := Op.call { callee := Callee.value (Operand.func 15), args := #[Operand.const (Value.int IntKind.i64 0)], argTypes := #[3] }, type := 24, pos := "law.go:59", after := #[{ on := 3, ground := Ground.chain }], guard := none }
def oLM45 : Oper := { dst := some 39, op := Op.move (Operand.tmp 0), type := 3, pos := "law.go:59", after := #[], guard := none }
def oLM46 : Oper := { dst := some 40, op := Op.call { callee := Callee.value (Operand.func 15), args := #[Operand.tmp 39], argTypes := #[3] }, type := 24, pos := "law.go:59", after := #[{ on := 5, ground := Ground.data }, { on := 4, ground := Ground.chain }], guard := none }
def oLM47 : Oper := { dst := some 41, op := Op.load 24 (Operand.tmp 9), type := 24, pos := "law.go:59", after := #[], guard := none }
def oLM48 : Oper := { dst := some 42, op := Op.buildSlice 30 6 #[(0, Operand.tmp 34), (1, Operand.tmp 35), (2, Operand.tmp 37), (3, Operand.tmp 38), (4, Operand.tmp 40), (5, Operand.tmp 41)], type := 30, pos := "law.go:59", after := #[{ on := 0, ground := Ground.data }, { on := 1, ground := Ground.data }, { on := 3, ground := Ground.data }, { on := 4, ground := Ground.data }, { on := 6, ground := Ground.data }, { on := 7, ground := Ground.data }], guard := none }
def oLM49 : Oper := { dst := some 10, op := Op.assign (Operand.tmp 42), type := 30, pos := "law.go:59", after := #[{ on := 8, ground := Ground.data }, { on := 6, ground := Ground.chain }, { on := 0, ground := Ground.phase }, { on := 1, ground := Ground.phase }, { on := 2, ground := Ground.phase }, { on := 3, ground := Ground.phase }, { on := 4, ground := Ground.phase }, { on := 5, ground := Ground.phase }, { on := 6, ground := Ground.phase }, { on := 7, ground := Ground.phase }, { on := 8, ground := Ground.phase }], guard := none }
def opsLM4 : Array Oper := #[oLM40, oLM41, oLM42, oLM43, oLM44, oLM45, oLM46, oLM47, oLM48, oLM49]
set_option maxHeartbeats 8000000 in
theorem regLM4 {Q : Exit → Act → World → Prop} (hQ : ∀ c a d v w, Q (.panic c) (Act.put a d v) w → Q (.panic c) a w) {W0 : World} {dd : List Deferred} {u1 u2 u3 u4 u5 u6 u10 u11 u12 u13 u14 u15 u16 u17 u18 u19 u20 u21 u22 u23 u24 u25 u26 u27 u28 u29 u30 u31 u32 u33 u34 u35 u36 u37 u38 u39 u40 u41 u42 u43 u44 u45 u46 u47 u48 u49 u50 u51 u52 u53 u54 u55 u56 u57 u58 u59 u60 u61 u62 u63 u64 u65 u66 u67 u68 u69 u70 u71 u72 u73 u74 u75 u76 u77 u78 u79 u80 u81 u82 u83 u84 u85 u86 u87 u88 u89 u90 u91 u92 u93 u94 u95 u96 u97 u98 u99 u100 u101 u102 u103 u104 u105 u106 u107 u108 u109 u110 u111 u112 u113 u114 u115 u116 u117 u118 u119 : Value} {b7 : Nat} {s7 : Bool} {a7 : Option Addr} {m7 c7 : Nat} {b8 : Nat} {s8 : Bool} {a8 : Option Addr} {m8 c8 : Nat} {b9 : Nat} {s9 : Bool} {a9 : Option Addr} {m9 c9 : Nat} {n0 z7 z8 z9 z37 z38 z40 : Int}
    (LD : Hid (∀ X : World, Below W0.heap.size W0 X → X.cell? ⟨b7, 0, none⟩ = some (.bool s7) ∧ X.cell? ⟨b7, 1, none⟩ = some (.slice a7 m7 c7) ∧ X.cell? ⟨b8, 0, none⟩ = some (.bool s8) ∧ X.cell? ⟨b8, 1, none⟩ = some (.slice a8 m8 c8) ∧ X.cell? ⟨b9, 0, none⟩ = some (.bool s9) ∧ X.cell? ⟨b9, 1, none⟩ = some (.slice a9 m9 c9)))
    (I7 : Hid (∀ X, Below W0.heap.size W0 X → NAt X (.agg #[.bool s7, .slice a7 m7 c7]) z7))
    (I8 : Hid (∀ X, Below W0.heap.size W0 X → NAt X (.agg #[.bool s8, .slice a8 m8 c8]) z8))
    (I9 : Hid (∀ X, Below W0.heap.size W0 X → NAt X (.agg #[.bool s9, .slice a9 m9 c9]) z9))
    (C37 : Hid (∀ X, Below W0.heap.size W0 X → Calls Tryz.prog 14 #[.agg #[.bool s8, .slice a8 m8 c8]] X (VEnd (KN z37) X)))
    (C38 : Hid (∀ X, Below W0.heap.size W0 X → Calls Tryz.prog 15 #[.int .i64 0] X (VEnd (KN z38) X)))
    (C40 : Hid (∀ X, Below W0.heap.size W0 X → Calls Tryz.prog 15 #[.int .i64 n0] X (VEnd (KN z40) X)))
    (leaf : ∀ (X : World) (x37 : Value) (x38 : Value) (x40 : Value) (x42 : Value), Hid (Below W0.heap.size W0 X) → Hid (KN z37 X x37) → Hid (KN z38 X x38) → Hid (KN z40 X x40) → Hid (KS6 W0.heap.size z7 z8 z37 z38 z40 z9 X x42) → Q .normal ⟨#[.int .i64 n0, u1, u2, u3, u4, u5, u6, .pointer (some ⟨b7, 0, none⟩), .pointer (some ⟨b8, 0, none⟩), .pointer (some ⟨b9, 0, none⟩), x42, u11, u12, u13, u14, u15, u16, u17, u18, u19, u20, u21, u22, u23, u24, u25, u26, u27, u28, u29, u30, u31, u32, u33, .agg #[.bool s7, .slice a7 m7 c7], .agg #[.bool s8, .slice a8 m8 c8], .agg #[.bool s8, .slice a8 m8 c8], x37, x38, .int .i64 n0, x40, .agg #[.bool s9, .slice a9 m9 c9], x42, u43, u44, u45, u46, u47, u48, u49, u50, u51, u52, u53, u54, u55, u56, u57, u58, u59, u60, u61, u62, u63, u64, u65, u66, u67, u68, u69, u70, u71, u72, u73, u74, u75, u76, u77, u78, u79, u80, u81, u82, u83, u84, u85, u86, u87, u88, u89, u90, u91, u92, u93, u94, u95, u96, u97, u98, u99, u100, u101, u102, u103, u104, u105, u106, u107, u108, u109, u110, u111, u112, u113, u114, u115, u116, u117, u118, u119], dd⟩ X) :
    (Code.region 4 opsLM4 true).wp Tryz.prog Q ⟨#[.int .i64 n0, u1, u2, u3, u4, u5, u6, .pointer (some ⟨b7, 0, none⟩), .pointer (some ⟨b8, 0, none⟩), .pointer (some ⟨b9, 0, none⟩), u10, u11, u12, u13, u14, u15, u16, u17, u18, u19, u20, u21, u22, u23, u24, u25, u26, u27, u28, u29, u30, u31, u32, u33, u34, u35, u36, u37, u38, u39, u40, u41, u42, u43, u44, u45, u46, u47, u48, u49, u50, u51, u52, u53, u54, u55, u56, u57, u58, u59, u60, u61, u62, u63, u64, u65, u66, u67, u68, u69, u70, u71, u72, u73, u74, u75, u76, u77, u78, u79, u80, u81, u82, u83, u84, u85, u86, u87, u88, u89, u90, u91, u92, u93, u94, u95, u96, u97, u98, u99, u100, u101, u102, u103, u104, u105, u106, u107, u108, u109, u110, u111, u112, u113, u114, u115, u116, u117, u118, u119], dd⟩ W0 := by
  refine region_ops (P := Tryz.prog) (ops := opsLM4) (W0 := W0) (dd := dd) (k := 9) (T := 1) (E := [5]) (C := [0, 1, 2, 3, 4, 6, 7, 8]) (S := (fun _ => True)) (K := getK [KX (.agg #[.bool s7, .slice a7 m7 c7]), KX (.agg #[.bool s8, .slice a8 m8 c8]), KX (.agg #[.bool s8, .slice a8 m8 c8]), KN z37, KN z38, KX (.int .i64 n0), KN z40, KX (.agg #[.bool s9, .slice a9 m9 c9]), KS6 W0.heap.size z7 z8 z37 z38 z40 z9]) (tm := (fun x => #[.int .i64 n0, u1, u2, u3, u4, u5, u6, .pointer (some ⟨b7, 0, none⟩), .pointer (some ⟨b8, 0, none⟩), .pointer (some ⟨b9, 0, none⟩), u10, u11, u12, u13, u14, u15, u16, u17, u18, u19, u20, u21, u22, u23, u24, u25, u26, u27, u28, u29, u30, u31, u32, u33, x 0, x 1, x 2, x 3, x 4, x 5, x 6, x 7, x 8, u43, u44, u45, u46, u47, u48, u49, u50, u51, u52, u53, u54, u55, u56, u57, u58, u59, u60, u61, u62, u63, u64, u65, u66, u67, u68, u69, u70, u71, u72, u73, u74, u75, u76, u77, u78, u79, u80, u81, u82, u83, u84, u85, u86, u87, u88, u89, u90, u91, u92, u93, u94, u95, u96, u97, u98, u99, u100, u101, u102, u103, u104, u105, u106, u107, u108, u109, u110, u111, u112, u113, u114, u115, u116, u117, u118, u119])) (getV [u34, u35, u36, u37, u38, u39, u40, u41, u42]) (by kernel_rfl) (by rfl) (by kernel_rfl) (by kernel_rfl) (by kernel_rfl) (by kernel_rfl) (by kernel_rfl) hQ (fun _ _ => trivial) (getK_mono ⟨m_x, m_x, m_x, m_n, m_n, m_x, m_n, m_x, m_s6, trivial⟩) ?eager ?call ?fin
  case eager =>
    intro i hi
    simp only [List.mem_cons, List.not_mem_nil, or_false] at hi
    subst hi
    · intro x w hB hd
      clear hd
      refine ⟨oLM45, (.int .i64 n0), rfl, ?_, rfl, (by first | rfl | simp [Act.put, upd])⟩
      refine Or.inl ⟨by rfl, fun wq hSw => ?_⟩
      clear hSw
      unfold oLM45
      go_simp
      try with_reducible rfl
  case call =>
    intro i hi
    simp only [List.mem_cons, List.not_mem_nil, or_false] at hi
    rcases hi with rfl | rfl | rfl | rfl | rfl | rfl | rfl | rfl
    · intro x w hB hd
      clear hd
      have hLD := LD.out w hB
      obtain ⟨f0, f1, f2, f3, f4, f5⟩ := hLD
      refine wpOp_shut (o := oLM40) rfl (fun K' hK => ?_)
      unfold oLM40
      go_simp
      exact hK.out _ _ ⟨_, (by first | rfl | simp [upd]), Below.refl _ _, rfl⟩
    · intro x w hB hd
      clear hd
      have hLD := LD.out w hB
      obtain ⟨f0, f1, f2, f3, f4, f5⟩ := hLD
      refine wpOp_shut (o := oLM41) rfl (fun K' hK => ?_)
      unfold oLM41
      go_simp
      exact hK.out _ _ ⟨_, (by first | rfl | simp [upd]), Below.refl _ _, rfl⟩
    · intro x w hB hd
      clear hd
      have hLD := LD.out w hB
      obtain ⟨f0, f1, f2, f3, f4, f5⟩ := hLD
      refine wpOp_shut (o := oLM42) rfl (fun K' hK => ?_)
      unfold oLM42
      go_simp
      exact hK.out _ _ ⟨_, (by first | rfl | simp [upd]), Below.refl _ _, rfl⟩
    · intro x w hB hd
      obtain ⟨k2, -⟩ := deps_k (ds := [2]) (by kernel_rfl) hd
      clear hd
      have e2 : x 2 = .agg #[.bool s8, .slice a8 m8 c8] := k2
      have HC := C37.out w hB
      unfold VEnd at HC
      have HC := Lib.hid HC
      refine wpOp_shut (o := oLM43) rfl (fun K' hK => ?_)
      unfold oLM43
      rw [e2]
      go_simp
      go_at_call 14
      refine HC.out.mono ?_
      rintro e w5 ⟨v5, rfl, hk5, hb5⟩
      clear HC
      go_wp2_with fail
      exact hK.out _ _ ⟨v5, (by first | rfl | simp [upd, e2]), hb5, hk5⟩
    · intro x w hB hd
      obtain ⟨k3, -⟩ := deps_k (ds := [3]) (by kernel_rfl) hd
      clear hd
      have HC := C38.out w hB
      unfold VEnd at HC
      have HC := Lib.hid HC
      refine wpOp_shut (o := oLM44) rfl (fun K' hK => ?_)
      unfold oLM44
      go_simp
      go_at_call 15
      refine HC.out.mono ?_
      rintro e w5 ⟨v5, rfl, hk5, hb5⟩
      clear HC
      go_wp2_with fail
      exact hK.out _ _ ⟨v5, (by first | rfl | simp [upd]), hb5, hk5⟩
    · intro x w hB hd
      obtain ⟨k5, k4, -⟩ := deps_k (ds := [5, 4]) (by kernel_rfl) hd
      clear hd
      have e5 : x 5 = .int .i64 n0 := k5
      have HC := C40.out w hB
      unfold VEnd at HC
      have HC := Lib.hid HC
      refine wpOp_shut (o := oLM46) rfl (fun K' hK => ?_)
      unfold oLM46
      rw [e5]
      go_simp
      go_at_call 15
      refine HC.out.mono ?_
      rintro e w5 ⟨v5, rfl, hk5, hb5⟩
      clear HC
      go_wp2_with fail
      exact hK.out _ _ ⟨v5, (by first | rfl | simp [upd, e5]), hb5, hk5⟩
    · intro x w hB hd
      clear hd
      have hLD := LD.out w hB
      obtain ⟨f0, f1, f2, f3, f4, f5⟩ := hLD
      refine wpOp_shut (o := oLM47) rfl (fun K' hK => ?_)
      unfold oLM47
      go_simp
      exact hK.out _ _ ⟨_, (by first | rfl | simp [upd]), Below.refl _ _, rfl⟩
    · intro x w hB hd
      obtain ⟨k0, k1, k3, k4, k6, k7, -⟩ := deps_k (ds := [0, 1, 3, 4, 6, 7]) (by kernel_rfl) hd
      clear hd
      have e0 : x 0 = .agg #[.bool s7, .slice a7 m7 c7] := k0
      have e1 : x 1 = .agg #[.bool s8, .slice a8 m8 c8] := k1
      have hy3 : KN z37 w (x 3) := k3
      obtain ⟨o3a, o3b, o3c, o3d, e3⟩ := nat_shape hy3
      have hy4 : KN z38 w (x 4) := k4
      obtain ⟨o4a, o4b, o4c, o4d, e4⟩ := nat_shape hy4
      have hy6 : KN z40 w (x 6) := k6
      obtain ⟨o6a, o6b, o6c, o6d, e6⟩ := nat_shape hy6
      have e7 : x 7 = .agg #[.bool s9, .slice a9 m9 c9] := k7
      refine wpOp_shut (o := oLM48) rfl (fun K' hK => ?_)
      unfold oLM48
      rw [e0]
      rw [e1]
      rw [e3]
      rw [e4]
      rw [e6]
      rw [e7]
      go_simp
      exact hK.out _ _ ⟨_, (by first | rfl | simp [upd, e0, e1, e3, e4, e6, e7]), below_one w _, ks6_new hB.size (I7.out w hB) (I8.out w hB) (e3 ▸ hy3) (e4 ▸ hy4) (e6 ▸ hy6) (I9.out w hB)⟩
  case fin =>
    intro x w hB H
    have e0 : x 0 = .agg #[.bool s7, .slice a7 m7 c7] := H 0 (by decide)
    have e1 : x 1 = .agg #[.bool s8, .slice a8 m8 c8] := H 1 (by decide)
    have e2 : x 2 = .agg #[.bool s8, .slice a8 m8 c8] := H 2 (by decide)
    have k37 : KN z37 w (x 3) := H 3 (by decide)
    have k38 : KN z38 w (x 4) := H 4 (by decide)
    have e5 : x 5 = .int .i64 n0 := H 5 (by decide)
    have k40 : KN z40 w (x 6) := H 6 (by decide)
    have e7 : x 7 = .agg #[.bool s9, .slice a9 m9 c9] := H 7 (by decide)
    have k42 : KS6 W0.heap.size z7 z8 z37 z38 z40 z9 w (x 8) := H 8 (by decide)
    clear H
    show wpAnyH _ _ _ _ _ 1 #[true, true, true, true, true, true, true, true, true, false] ⟨#[.int .i64 n0, u1, u2, u3, u4, u5, u6, .pointer (some ⟨b7, 0, none⟩), .pointer (some ⟨b8, 0, none⟩), .pointer (some ⟨b9, 0, none⟩), u10, u11, u12, u13, u14, u15, u16, u17, u18, u19, u20, u21, u22, u23, u24, u25, u26, u27, u28, u29, u30, u31, u32, u33, x 0, x 1, x 2, x 3, x 4, x 5, x 6, x 7, x 8, u43, u44, u45, u46, u47, u48, u49, u50, u51, u52, u53, u54, u55, u56, u57, u58, u59, u60, u61, u62, u63, u64, u65, u66, u67, u68, u69, u70, u71, u72, u73, u74, u75, u76, u77, u78, u79, u80, u81, u82, u83, u84, u85, u86, u87, u88, u89, u90, u91, u92, u93, u94, u95, u96, u97, u98, u99, u100, u101, u102, u103, u104, u105, u106, u107, u108, u109, u110, u111, u112, u113, u114, u115, u116, u117, u118, u119], dd⟩ _
    rw [e0]
    clear e0
    rw [e1]
    clear e1
    rw [e2]
    clear e2
    generalize x 3 = x37 at *
    generalize x 4 = x38 at *
    rw [e5]
    clear e5
    generalize x 6 = x40 at *
    rw [e7]
    clear e7
    generalize x 8 = x42 at *
    refine wpAnyH_ready (rs := [9]) (by kernel_rfl) (by simp) (AllReadyH.cons (o := oLM49) rfl (fun K hK => ?_) AllReadyH.nil)
    unfold oLM49
    go_simp
    refine hK.out _ _ trivial (fun hHeld => ?_)
    clear hK K
    try simp only [List.setIfInBounds_toArray, List.set_cons_zero, List.set_cons_succ]
    refine wpAnyH_done (by kernel_rfl) ?_ _
    exact leaf _ _ _ _ _ (Lib.hid hB) (Lib.hid k37) (Lib.hid k38) (Lib.hid k40) (Lib.hid k42)
end Go.Proofs.YtgcjbeagckbccaaGreatDoor
