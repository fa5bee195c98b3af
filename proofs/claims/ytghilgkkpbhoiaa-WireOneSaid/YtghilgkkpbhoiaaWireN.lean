/-
  The reference's values: compared, read.
-/
import Derived.Test.YtghilgkkpbhoiaaWireM
namespace Go.Proofs.Ytghilgkkpbhoiaa
open Go.RowKit Go.Shelf
set_option linter.unusedVariables false

/-- A value of the reference, plainly. -/
structure VV where
  kind : Int
  u : Nat
  n : Int
  b : List Nat
  l : List Int
  deriving DecidableEq

def ValAt (W : World) (x : Value) (v : VV) : Prop :=
  ∃ vb vl, x = .agg #[.int .i64 v.kind, .int .u64 (v.u : Int), .int .i64 v.n, vb, vl] ∧ Row .u8 W vb (natI v.b) ∧ Row .i64 W vl v.l

theorem Elems.of_row {k : IntKind} {w : World} {v : Value} {zs : List Int} (h : Row k w v zs) : Elems k w v zs := by
  obtain ⟨a, cap, h1, h2, h3, h4, h5⟩ := h
  exact ⟨a, cap, h1, h4⟩

set_option maxRecDepth 100000 in
set_option maxHeartbeats 4000000 in
theorem refSame_any (x y : Value) (p q : VV) (w : World) (hx : ValAt w x p) (hy : ValAt w y q) (hpb : p.b.length ≤ 1000000) (hpl : p.l.length ≤ 1000000) (hqb : q.b.length ≤ 1000000) (hql : q.l.length ≤ 1000000) :
    Calls Try.prog 21 #[x, y] w fun e w' => e = .returned (.bool (decide (p = q))) ∧ Below w.heap.size w w' := by
  obtain ⟨pb, pl, rfl, hpb1, hpl1⟩ := hx
  obtain ⟨qb, ql, rfl, hqb1, hql1⟩ := hy
  have SB := Lib.hid (fun (W : World) h1 h2 => sameBytes_any pb qb (natI p.b) (natI q.b) W h1 h2 (by rw [natI_length]; exact hpb) (by rw [natI_length]; exact hqb))
  have SI := Lib.hid (fun (W : World) h1 h2 => sameInts_any pl ql p.l q.l W h1 h2 hpl hql)
  have HPB := Lib.hid hpb1
  have HPL := Lib.hid hpl1
  have HQB := Lib.hid hqb1
  have HQL := Lib.hid hql1
  clear hpb1 hpl1 hqb1 hql1 hpb hpl hqb hql
  unfold SameEnd at SB SI
  have hb : decide (natI p.b = natI q.b) = decide (p.b = q.b) := by
    apply decide_eq_decide.2
    exact ⟨fun h => by rw [← toNats_natI p.b, ← toNats_natI q.b, h], fun h => by rw [h]⟩
  have HD : Hid (decide (p = q) = (p.kind == q.kind && ((p.u : Int) == (q.u : Int)) && p.n == q.n && decide (natI p.b = natI q.b) && decide (p.l = q.l))) := by
    rw [hb]
    obtain ⟨k1, u1, n1, b1, l1⟩ := p
    obtain ⟨k2, u2, n2, b2, l2⟩ := q
    refine Lib.hid ?_
    rw [Bool.eq_iff_iff]
    simp [and_assoc]
    intros
    omega
  obtain ⟨k1, u1, n1, b1, l1⟩ := p
  obtain ⟨k2, u2, n2, b2, l2⟩ := q
  simp only at *
  clear hb
  go_enter Try.func21, Try.ntmps21
  go_wp2_with fail
  have hA := (Laid.new w 28 [.int .i64 k1, .int .u64 (u1 : Int), .int .i64 n1, pb, pl]).below ((Below.refl _ _).alloc (Nat.le_refl _) (.cells #[.int .i64 k2, .int .u64 (u2 : Int), .int .i64 n2, qb, ql] 28))
  have hB := Laid.new (w.alloc (.cells #[.int .i64 k1, .int .u64 (u1 : Int), .int .i64 n1, pb, pl] 28)) 28 [.int .i64 k2, .int .u64 (u2 : Int), .int .i64 n2, qb, ql]
  rw [World.size_alloc] at hB
  have hbel : Below w.heap.size w ((w.alloc (.cells #[.int .i64 k1, .int .u64 (u1 : Int), .int .i64 n1, pb, pl] 28)).alloc (.cells #[.int .i64 k2, .int .u64 (u2 : Int), .int .i64 n2, qb, ql] 28)) :=
    ((Below.refl _ w).alloc (Nat.le_refl _) _).alloc (by simp) _
  replace hA : Laid ((w.alloc (.cells #[.int .i64 k1, .int .u64 (u1 : Int), .int .i64 n1, pb, pl] 28)).alloc (.cells #[.int .i64 k2, .int .u64 (u2 : Int), .int .i64 n2, qb, ql] 28)) w.heap.size 28 [.int .i64 k1, .int .u64 (u1 : Int), .int .i64 n1, pb, pl] := hA
  replace hB : Laid ((w.alloc (.cells #[.int .i64 k1, .int .u64 (u1 : Int), .int .i64 n1, pb, pl] 28)).alloc (.cells #[.int .i64 k2, .int .u64 (u2 : Int), .int .i64 n2, qb, ql] 28)) (w.heap.size + 1) 28 [.int .i64 k2, .int .u64 (u2 : Int), .int .i64 n2, qb, ql] := hB
  generalize (w.alloc (.cells #[.int .i64 k1, .int .u64 (u1 : Int), .int .i64 n1, pb, pl] 28)).alloc (.cells #[.int .i64 k2, .int .u64 (u2 : Int), .int .i64 n2, qb, ql] 28) = W0 at *
  refine (SB.out W0 (Elems.of_row (row_keeps HPB.out hbel)) (Elems.of_row (row_keeps HQB.out hbel))).mono ?_
  rintro e W1 ⟨rfl, hb1⟩
  have hbel1 := below_then hbel hb1
  have hA1 := hA.below hb1
  have hB1 := hB.below hb1
  have cA := hA1.cell 4
  have cB := hB1.cell 4
  simp only [List.getElem?_cons_zero, List.getElem?_cons_succ] at cA cB
  have HA := Lib.hid hA1
  have HB := Lib.hid hB1
  clear hA hB hA1 hB1 hbel hb1
  go_wp2_with fail
  refine (SI.out W1 (Elems.of_row (row_keeps HPL.out hbel1)) (Elems.of_row (row_keeps HQL.out hbel1))).mono ?_
  rintro e W2 ⟨rfl, hb2⟩
  have hbel2 := below_then hbel1 hb2
  have hA2 := HA.out.below hb2
  have hB2 := HB.out.below hb2
  have cA0 := hA2.cell 0
  have cA1 := hA2.cell 1
  have cA2 := hA2.cell 2
  have cB0 := hB2.cell 0
  have cB1 := hB2.cell 1
  have cB2 := hB2.cell 2
  simp only [List.getElem?_cons_zero, List.getElem?_cons_succ] at cA0 cA1 cA2 cB0 cB1 cB2
  clear HA HB hA2 hB2 hbel1 hb2 cA cB SB SI HPB HPL HQB HQL
  generalize decide (natI b1 = natI b2) = tb at *
  generalize decide (l1 = l2) = tl at *
  generalize h1 : (k1 == k2) = t1 at *
  generalize h2 : ((u1 : Int) == (u2 : Int)) = t2 at *
  generalize h3 : (n1 == n2) = t3 at *
  cases t1 <;> cases t2 <;> cases t3 <;> cases tb <;> cases tl
  all_goals
    go_wp2_with fail
    go_ret
    exact ⟨by rw [HD.out]; rfl, hbel2⟩
end Go.Proofs.Ytghilgkkpbhoiaa
