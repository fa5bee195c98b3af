/-
 FracOrder: what is known of the three fractions and of what is made of them; two operations on a variable of wide.Int in a region.
-/
import Derived.Test.YtepakogbbomaoaaGreatDoorOrdO
import Derived.Test.YtepakogbbomaoaaGreatDoorAbpO
namespace Go.Proofs.YtepakogbbomaoaaGreatDoor
open Go.RowKit Go.Shelf
set_option linter.unusedVariables false
set_option maxRecDepth 100000
theorem vx_end {v : Value} {w w' : World} {e : Ending} (h : VEnd (KX v) w e w') : e = .returned v ∧ Below w.heap.size w w' := by
 obtain ⟨x, h1, h2, h3⟩ := h
 obtain rfl := h2
 exact ⟨h1, h3⟩
def SgnO (n d z : Int) : Prop := ∀ (X : World) (u : Value), FAt X u n d → Calls Tryz.prog 7 #[u] X (VEnd (KX (.int .i64 z)) X)
def NumO (n d : Int) : Prop := ∀ (X : World) (u : Value), FAt X u n d → Calls Tryz.prog 15 #[u] X (VEnd (KI n) X)
def DenO (n d : Int) : Prop := ∀ (X : World) (u : Value), FAt X u n d → Calls Tryz.prog 16 #[u] X (VEnd (KI d) X)
def AddO (a b z : Int) : Prop := ∀ (X : World) (u v : Value), IAt X u a → IAt X v b → Calls Tryz.prog 14 #[u, v] X (VEnd (KTI z) X)
def MakeO (a b n d : Int) : Prop := ∀ (X : World) (u v : Value), IAt X u a → IAt X v b → Calls Tryz.prog 17 #[u, v] X (VEnd (KTF (0, n, d)) X)
structure OrdF (p1 q1 p2 q2 p3 q3 nP dP nQ dQ nR dR nS dS nM dM ab bc ac sg e y z : Int) : Prop where
 cab : CmpC p1 q1 p2 q2 ab
 cbc : CmpC p2 q2 p3 q3 bc
 cac : CmpC p1 q1 p3 q3 ac
 trans : ab ≤ 0 → bc ≤ 0 → ¬ 0 < ac
 addP : BinC 12 p1 q1 p3 q3 (0, nP, dP)
 addQ : BinC 12 p2 q2 p3 q3 (0, nQ, dQ)
 cpq : CmpC nP dP nQ dQ ab
 mulR : BinC 13 p1 q1 p3 q3 (0, nR, dR)
 mulS : BinC 13 p2 q2 p3 q3 (0, nS, dS)
 crs : CmpC nR dR nS dS e
 sgn : SgnO p3 q3 sg
 wrp : IntKind.i64.wrap (ab * sg) = e
 num1 : NumO p1 q1
 num2 : NumO p2 q2
 den1 : DenO p1 q1
 den2 : DenO p2 q2
 addN : AddO p1 p2 y
 addD : AddO q1 q2 z
 lims : ecF y = 0 ∧ limF y = y ∧ ecF z = 0 ∧ limF z = z
 make : MakeO y z nM dM
 cam : CmpC p1 q1 nM dM ab
 cmb : CmpC nM dM p2 q2 ab
theorem ec_lim {a : Int} (h : Small a) : ecF a = 0 ∧ limF a = a := by
 unfold ecF limF
 rw [if_neg h.notBig, if_neg h.notBig]
 exact ⟨rfl, rfl⟩
theorem ord_facts {p1 q1 p2 q2 p3 q3 : Int} (h1 : FV 1240 p1 q1 p1 q1) (h2 : FV 1240 p2 q2 p2 q2) (h3 : FV 1240 p3 q3 p3 q3) :
  ∃ nP dP nQ dQ nR dR nS dS nM dM ab bc ac sg e y z, OrdF p1 q1 p2 q2 p3 q3 nP dP nQ dQ nR dR nS dS nM dM ab bc ac sg e y z := by
 have l1 := h1.is.low.pos
 have l2 := h2.is.low.pos
 have l3 := h3.is.low.pos
 obtain ⟨nP, dP, vP, aP⟩ := fadd_v h1 h3 (by decide) (by decide)
 obtain ⟨nQ, dQ, vQ, aQ⟩ := fadd_v h2 h3 (by decide) (by decide)
 obtain ⟨nR, dR, vR, mR⟩ := fmul_v h1 h3 (by decide) (by decide)
 obtain ⟨nS, dS, vS, mS⟩ := fmul_v h2 h3 (by decide) (by decide)
 have m13 := Int.mul_pos l1 l3
 have m23 := Int.mul_pos l2 l3
 have cPQ := cmp_fv vP vQ (by decide) m13 m23
 have cRS := cmp_fv vR vS (by decide) m13 m23
 rw [ord_add l3] at cPQ
 rw [ord_mul l3] at cRS
 have hM0 : q1 + q2 ≠ 0 := by omega
 have iM := is_mk (p := p1 + p2) hM0
 have sN := h1.p.add h2.p
 have sD := h1.q.add h2.q
 have vM : FV 1241 (mkN (p1 + p2) (q1 + q2)) (mkD (p1 + p2) (q1 + q2)) (p1 + p2) (q1 + q2) := ⟨iM, sN, sD⟩
 have cAM := cmp_fv h1 vM (by decide) l1 (by omega)
 have cMB := cmp_fv vM h2 (by decide) (by omega) l2
 rw [ord_low] at cAM
 rw [ord_high] at cMB
 have r1 := cmp_range (p1 * q2) (p2 * q1)
 have r2 := cmp_range p3 0
 have w1 : IntKind.i64.wrap (cmpF (p1 * q2) (p2 * q1) * cmpF p3 0) = cmpF (p1 * q2) (p2 * q1) * cmpF p3 0 := by
  generalize cmpF (p1 * q2) (p2 * q1) = x at r1 ⊢
  generalize cmpF p3 0 = u at r2 ⊢
  have hx : x = -1 ∨ x = 0 ∨ x = 1 := by omega
  refine IntWalk.i64_in _ ?_
  rcases hx with rfl | rfl | rfl <;> omega
 have eN := ec_lim (sN.small (by decide))
 have eD := ec_lim (sD.small (by decide))
 have f1 := h1.fine (by decide)
 have f2 := h2.fine (by decide)
 refine ⟨nP, dP, nQ, dQ, nR, dR, nS, dS, mkN (p1 + p2) (q1 + q2), mkD (p1 + p2) (q1 + q2), cmpF (p1 * q2) (p2 * q1), cmpF (p2 * q3) (p3 * q2), cmpF (p1 * q3) (p3 * q1), cmpF p3 0, cmpF (p1 * q2) (p2 * q1) * cmpF p3 0, p1 + p2, q1 + q2, ?_⟩
 exact {
  cab := cmp_fv h1 h2 (by decide) l1 l2
  cbc := cmp_fv h2 h3 (by decide) l2 l3
  cac := cmp_fv h1 h3 (by decide) l1 l3
  trans := fun a b => by have := ord_trans l1 l2 l3 a b; omega
  addP := aP
  addQ := aQ
  cpq := cPQ
  mulR := mR
  mulS := mS
  crs := cRS
  sgn := fun X u hu => (fSign_any u p3 q3 X hu (h3.fine (by decide)).len).mono (fun _ _ => v_c)
  wrp := w1
  num1 := fun X u hu => (num_any u p1 q1 X hu (by omega) f1.len f1.wide).mono (fun _ _ => v_i)
  num2 := fun X u hu => (num_any u p2 q2 X hu (by omega) f2.len f2.wide).mono (fun _ _ => v_i)
  den1 := fun X u hu => (den_any u p1 q1 X hu (by omega) f1.len f1.wide).mono (fun _ _ => v_i)
  den2 := fun X u hu => (den_any u p2 q2 X hu (by omega) f2.len f2.wide).mono (fun _ _ => v_i)
  addN := fun X u v hu hv => (wAdd_any u v p1 p2 X hu hv f1.len f2.len).mono (fun _ _ => v_ti)
  addD := fun X u v hu hv => (wAdd_any u v q1 q2 X hu hv f1.wide f2.wide).mono (fun _ _ => v_ti)
  lims := ⟨eN.1, eN.2, eD.1, eD.2⟩
  make := fun X u v hu hv => by
   have := (make_any u v _ _ X hu hv (sN.small (by decide)).words (sD.small (by decide)).words).mono (fun _ _ h => v_tf (make_end h))
   rwa [show rMake (p1 + p2) (q1 + q2) = (0, mkN (p1 + p2) (q1 + q2), mkD (p1 + p2) (q1 + q2)) by unfold rMake; rw [if_neg hM0]] at this
  cam := cAM
  cmb := cMB }
section
variable {ev : Operand → Value} {o : Oper} {W : World}
theorem x_allocI (h : o.op = .alloc 32) : (execOp ev o).run Tryz.prog W = .ok (.value (.pointer (some ⟨W.heap.size, 0, none⟩))) (W.alloc (.cells #[.bool false, .slice none 0 0] 32)) := by
 unfold execOp
 rw [h]
 dsimp only
 go_simp
theorem x_stI {s t : Operand} {b : Nat} {u0 : Bool} {a : Option Addr} {m c : Nat} {y0 y1 : Value} (h : o.op = .store 32 s t) (hs : ev s = .pointer (some ⟨b, 0, none⟩)) (ht : ev t = .agg #[.bool u0, .slice a m c])
  (hl : W.cell? ⟨b, 0, none⟩ = some y0 ∧ W.cell? ⟨b, 1, none⟩ = some y1 ∧ W.frozen? ⟨b, 0, none⟩ = false ∧ W.frozen? ⟨b, 1, none⟩ = false) :
  (execOp ev o).run Tryz.prog W = .ok .skip ((W.setCell ⟨b, 0, none⟩ (.bool u0)).setCell ⟨b, 1, none⟩ (.slice a m c)) := by
 obtain ⟨r0, r1, r4, r5⟩ := hl
 unfold execOp
 rw [h]
 dsimp only
 rw [hs, ht]
 go_simp
end
end Go.Proofs.YtepakogbbomaoaaGreatDoor
