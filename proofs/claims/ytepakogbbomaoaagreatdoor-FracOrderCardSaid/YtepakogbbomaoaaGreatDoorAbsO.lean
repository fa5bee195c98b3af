/-
 A drawn region over an abstract frame: F with the slots ds of the region's own operations set to x 0, x 1, .. (the frame is never written out). The beginning of 'reg_abs' (NOTES).
-/
import Derived.Test.YtepakogbbomaoaaGreatDoorRgAO
namespace Go.Proofs.YtepakogbbomaoaaGreatDoor
open Go.RowKit Go.Shelf
set_option linter.unusedVariables false
set_option maxRecDepth 100000
def frm : Array Value → List Nat → Nat → (Nat → Value) → Array Value
 | F, [], _, _ => F
 | F, d :: ds, i, x => frm (F.setIfInBounds d (x i)) ds (i + 1) x
theorem frm_out : ∀ (ds : List Nat) (F : Array Value) (i : Nat) (x : Nat → Value) (d : Nat), ds.contains d = false → (frm F ds i x)[d]? = F[d]?
 | [], _, _, _, _, _ => rfl
 | e :: ds, F, i, x, d, h => by
  rw [List.contains_cons, Bool.or_eq_false_iff] at h
  rw [frm, frm_out ds _ _ _ _ h.2, Array.getElem?_setIfInBounds, if_neg (fun e2 => by rw [e2] at h; simp at h)]
theorem frm_in : ∀ (ds : List Nat) (F : Array Value) (i : Nat) (x : Nat → Value) (k d : Nat), ds.Nodup → ds[k]? = some d → d < F.size → (frm F ds i x)[d]? = some (x (i + k))
 | [], _, _, _, _, _, _, h, _ => by cases h
 | e :: ds, F, i, x, 0, d, hn, h, hd => by
  have h1 : e = d := by simpa using h
  subst h1
  rw [frm, frm_out ds _ _ _ _ (by simpa using (List.nodup_cons.1 hn).1), Array.getElem?_setIfInBounds, if_pos rfl, if_pos hd]
  rfl
 | e :: ds, F, i, x, k + 1, d, hn, h, hd => by
  rw [frm, frm_in ds _ (i + 1) x k d (List.nodup_cons.1 hn).2 (by simpa using h) (by rw [Array.size_setIfInBounds]; exact hd)]
  rw [Nat.add_assoc, Nat.add_comm 1 k]
theorem frm_congr : ∀ (ds : List Nat) (F : Array Value) (i : Nat) (x y : Nat → Value), (∀ j, i ≤ j → x j = y j) → frm F ds i x = frm F ds i y
 | [], _, _, _, _, _ => rfl
 | d :: ds, F, i, x, y, h => by rw [frm, frm, h i (Nat.le_refl _)]; exact frm_congr ds _ _ _ _ (fun j hj => h j (by omega))
theorem frm_comm : ∀ (ds : List Nat) (F : Array Value) (i : Nat) (x : Nat → Value) (d : Nat) (v : Value), ds.contains d = false → (frm F ds i x).setIfInBounds d v = frm (F.setIfInBounds d v) ds i x
 | [], _, _, _, _, _, _ => rfl
 | e :: ds, F, i, x, d, v, h => by
  rw [List.contains_cons, Bool.or_eq_false_iff] at h
  rw [frm, frm_comm ds _ _ _ _ _ h.2, frm]
  congr 1
  have hne : e ≠ d := fun e2 => by rw [e2] at h; simp at h
  apply Array.ext_getElem?
  intro j
  simp only [Array.getElem?_setIfInBounds, Array.size_setIfInBounds]
  split <;> split <;> simp_all
theorem frm_put : ∀ (ds : List Nat) (F : Array Value) (i : Nat) (x : Nat → Value) (k d : Nat) (v : Value), ds.Nodup → ds[k]? = some d → (frm F ds i x).setIfInBounds d v = frm F ds i (upd x (i + k) v)
 | [], _, _, _, _, _, _, _, h => by cases h
 | e :: ds, F, i, x, 0, d, v, hn, h => by
  have h1 : e = d := by simpa using h
  subst h1
  rw [frm, frm_comm ds _ _ _ _ _ (by simpa using (List.nodup_cons.1 hn).1), frm]
  have e1 : (F.setIfInBounds e (x i)).setIfInBounds e v = F.setIfInBounds e (upd x (i + 0) v i) := by
   apply Array.ext_getElem?
   intro j
   simp only [Array.getElem?_setIfInBounds, Array.size_setIfInBounds, upd]
   split <;> simp_all
  rw [e1]
  exact frm_congr ds _ _ _ _ (fun j hj => by unfold upd; rw [if_neg (by omega)])
 | e :: ds, F, i, x, k + 1, d, v, hn, h => by
  rw [frm, frm_put ds _ (i + 1) x k d v (List.nodup_cons.1 hn).2 (by simpa using h), frm]
  have e1 : upd x (i + (k + 1)) v i = x i := by unfold upd; rw [if_neg (by omega)]
  rw [e1, Nat.add_assoc, Nat.add_comm 1 k]
theorem frm_self (ds : List Nat) (F : Array Value) : frm F ds 0 (fun i => (ds[i]?.bind (F[·]?)).getD undef) = F := by
 have h : ∀ (l : List Nat) (pre : List Nat), ds = pre ++ l → frm F l pre.length (fun i => (ds[i]?.bind (F[·]?)).getD undef) = F := by
  intro l
  induction l with
  | nil => intro pre _; rfl
  | cons d l ih =>
   intro pre hp
   rw [frm]
   have hd : ds[pre.length]? = some d := by rw [hp]; simp
   have e : F.setIfInBounds d ((ds[pre.length]?.bind (F[·]?)).getD undef) = F := by
    rw [hd]
    apply Array.ext_getElem?
    intro j
    rw [Array.getElem?_setIfInBounds]
    split
    ·rename_i hj
     subst hj
     split
     ·rename_i hlt
      rw [Array.getElem?_eq_getElem hlt]
      simp [hlt]
     ·rename_i hge
      rw [Array.getElem?_eq_none (by omega)]
    ·rfl
   rw [e]
   have := ih (pre ++ [d]) (by rw [hp]; simp)
   rwa [List.length_append, List.length_singleton] at this
 exact h ds [] rfl
section
variable {P : Program}
theorem eval_in {F : Array Value} {ds : List Nat} {x : Nat → Value} {dd : List Deferred} {k d : Nat} (hn : ds.Nodup) (h : ds[k]? = some d) (hd : d < F.size) : (⟨frm F ds 0 x, dd⟩ : Act).eval (.tmp d) = x k := by
 show (frm F ds 0 x).getD d undef = _
 rw [Array.getD_eq_getD_getElem?, frm_in ds F 0 x k d hn h hd, Nat.zero_add]
 rfl
theorem eval_out {F : Array Value} {ds : List Nat} {x : Nat → Value} {dd : List Deferred} {d : Nat} {v : Value} (h : ds.contains d = false) (hv : F[d]? = some v) : (⟨frm F ds 0 x, dd⟩ : Act).eval (.tmp d) = v := by
 show (frm F ds 0 x).getD d undef = _
 rw [Array.getD_eq_getD_getElem?, frm_out ds F 0 x d h, hv]
 rfl
def EagerA (ops : Array Oper) (F : Array Value) (dd : List Deferred) (ds : List Nat) (W0 : World) (K : Nat → World → Value → Prop) (P : Program) (i : Nat) : Prop :=
 ∀ x w, Below W0.heap.size W0 w → (∀ j ∈ depsOf .any ops i, K j w (x j)) → ∃ o v, ops[i]? = some o ∧ YieldsIf P ops (fun _ => True) o v ⟨frm F ds 0 x, dd⟩ ∧ K i w v ∧ Act.put ⟨frm F ds 0 x, dd⟩ o.dst v = ⟨frm F ds 0 (upd x i v), dd⟩
def StepA (ops : Array Oper) (Q : Exit → Act → World → Prop) (F : Array Value) (dd : List Deferred) (ds : List Nat) (W0 : World) (K : Nat → World → Value → Prop) (P : Program) (i : Nat) : Prop :=
 ∀ x w, Below W0.heap.size W0 w → (∀ j ∈ depsOf .any ops i, K j w (x j)) → wpOp P ops Q i (fun a' w' => ∃ v, a' = ⟨frm F ds 0 (upd x i v), dd⟩ ∧ Below w.heap.size w w' ∧ K i w' v) ⟨frm F ds 0 x, dd⟩ w
def allL (p : Nat → Prop) : List Nat → Prop
 | [] => True
 | i :: l => p i ∧ allL p l
theorem allL_mem {p : Nat → Prop} : ∀ {l : List Nat}, allL p l → ∀ i ∈ l, p i
 | [], _, _, h => by cases h
 | a :: l, h, i, hi => by
  rcases List.mem_cons.1 hi with e | e
  ·exact e ▸ h.1
  ·exact allL_mem h.2 i e
theorem region_abs {ops : Array Oper} {Q : Exit → Act → World → Prop} {F : Array Value} {dd : List Deferred} {W0 : World} {id : Nat} (ds : List Nat) (K : Nat → World → Value → Prop) (k T : Nat) (E C : List Nat)
  (hm : P.follows .mixedOrders = true) (hn : k + T = ops.size) (hdep : depsR .any ops = true) (hsel : Region.noSelect ops = true)
  (hfree : (E.all fun e => decide (e < k) && Region.free .any ops (lstR .any ops e) e) = true) (htail : tailR .any ops k E = true) (hall : ((List.range k).all fun i => E.contains i || C.contains i) = true)
  (hQ : ∀ c a d v w, Q (.panic c) (Act.put a d v) w → Q (.panic c) a w) (hmono : ∀ i v w w', K i w v → Below w.heap.size w w' → K i w' v)
  (hE : allL (EagerA ops F dd ds W0 K P) E) (hC : allL (StepA ops Q F dd ds W0 K P) C)
  (hend : ∀ x w, Below W0.heap.size W0 w → (∀ i, i < k → K i w (x i)) → wpAnyH P .any ops Q (fun _ => True) T (bitsR T (List.replicate k true)) ⟨frm F ds 0 x, dd⟩ w) :
  (Code.region id ops true).wp P Q ⟨F, dd⟩ W0 := by
 have h := region_ops (P := P) (ops := ops) (Q := Q) (W0 := W0) (dd := dd) (id := id) (k := k) (T := T) (E := E) (C := C) (S := fun _ => True) (K := K) (tm := frm F ds 0) (fun i => (ds[i]?.bind (F[·]?)).getD undef)
  hm hn hdep hsel hfree htail hall hQ (fun _ _ => trivial) hmono (fun e he => allL_mem hE e he) (fun i hi => allL_mem hC i hi) hend
 rwa [frm_self] at h
theorem st_eager {ops : Array Oper} {F : Array Value} {dd : List Deferred} {ds : List Nat} {K : Nat → World → Value → Prop} {i d : Nat} {o : Oper} {v : Value} {x : Nat → Value} {w : World}
  (ho : ops[i]? = some o) (hw : Region.wanted o (yielded ops (frm F ds 0 x)) = true) (hd : o.dst = some d) (hk : ds[i]? = some d) (hnd : ds.Nodup)
  (hrun : ∀ W, (execOp (⟨frm F ds 0 x, dd⟩ : Act).eval o).run P W = .ok (.value v) W) (hK : K i w v) :
  ∃ o v, ops[i]? = some o ∧ YieldsIf P ops (fun _ => True) o v ⟨frm F ds 0 x, dd⟩ ∧ K i w v ∧ Act.put ⟨frm F ds 0 x, dd⟩ o.dst v = ⟨frm F ds 0 (upd x i v), dd⟩ := by
 refine ⟨o, v, ho, Or.inl ⟨hw, fun W _ => hrun W⟩, hK, ?_⟩
 rw [hd]
 show (⟨(frm F ds 0 x).setIfInBounds d v, dd⟩ : Act) = _
 rw [frm_put ds F 0 x i d v hnd hk, Nat.zero_add]
theorem st_val {ops : Array Oper} {Q : Exit → Act → World → Prop} {F : Array Value} {dd : List Deferred} {ds : List Nat} {K : Nat → World → Value → Prop} {i d : Nat} {o : Oper} {v : Value} {x : Nat → Value} {w w' : World}
  (ho : ops[i]? = some o) (hw : Region.wanted o (yielded ops (frm F ds 0 x)) = true) (hd : o.dst = some d) (hk : ds[i]? = some d) (hnd : ds.Nodup)
  (hrun : (execOp (⟨frm F ds 0 x, dd⟩ : Act).eval o).run P w = .ok (.value v) w') (hb : Below w.heap.size w w') (hK : K i w' v) :
  wpOp P ops Q i (fun a' w' => ∃ v, a' = ⟨frm F ds 0 (upd x i v), dd⟩ ∧ Below w.heap.size w w' ∧ K i w' v) ⟨frm F ds 0 x, dd⟩ w := by
 refine wpOp_shut ho (fun K' hK' => ?_)
 rw [if_pos hw]
 unfold Oper.wp
 rw [hrun, Oper.upon_value, hd]
 refine hK'.out _ _ ⟨v, ?_, hb, hK⟩
 show (⟨(frm F ds 0 x).setIfInBounds d v, dd⟩ : Act) = _
 rw [frm_put ds F 0 x i d v hnd hk, Nat.zero_add]
theorem st_shut {ops : Array Oper} {Q : Exit → Act → World → Prop} {F : Array Value} {dd : List Deferred} {ds : List Nat} {K : Nat → World → Value → Prop} {i d : Nat} {o : Oper} {x : Nat → Value} {w : World}
  (ho : ops[i]? = some o) (hw : Region.wanted o (yielded ops (frm F ds 0 x)) = false) (hd : o.dst = some d) (hk : ds[i]? = some d) (hnd : ds.Nodup) (hK : K i w undef) :
  wpOp P ops Q i (fun a' w' => ∃ v, a' = ⟨frm F ds 0 (upd x i v), dd⟩ ∧ Below w.heap.size w w' ∧ K i w' v) ⟨frm F ds 0 x, dd⟩ w := by
 refine wpOp_shut ho (fun K' hK' => ?_)
 rw [if_neg (by rw [hw]; decide), hd]
 refine hK'.out _ _ ⟨undef, ?_, Below.refl _ _, hK⟩
 show (⟨(frm F ds 0 x).setIfInBounds d undef, dd⟩ : Act) = _
 rw [frm_put ds F 0 x i d undef hnd hk, Nat.zero_add]
theorem st_call {ops : Array Oper} {Q : Exit → Act → World → Prop} {F : Array Value} {dd : List Deferred} {ds : List Nat} {K : Nat → World → Value → Prop} {i d : Nat} {o : Oper} {f : FuncId} {av : Array Value} {x : Nat → Value} {w : World}
  (ho : ops[i]? = some o) (hw : Region.wanted o (yielded ops (frm F ds 0 x)) = true) (hd : o.dst = some d) (hk : ds[i]? = some d) (hnd : ds.Nodup)
  (hrun : (execOp (⟨frm F ds 0 x, dd⟩ : Act).eval o).run P w = .ok (.enter f av) w) (hc : Calls P f av w (VEnd (K i) w)) :
  wpOp P ops Q i (fun a' w' => ∃ v, a' = ⟨frm F ds 0 (upd x i v), dd⟩ ∧ Below w.heap.size w w' ∧ K i w' v) ⟨frm F ds 0 x, dd⟩ w := by
 refine wpOp_shut ho (fun K' hK' => ?_)
 rw [if_pos hw]
 unfold Oper.wp
 rw [hrun, Oper.upon_enter]
 refine hc.mono ?_
 rintro e w' ⟨v, rfl, h1, h2⟩
 show K' (Act.put _ o.dst v) w'
 rw [hd]
 refine hK'.out _ _ ⟨v, ?_, h2, h1⟩
 show (⟨(frm F ds 0 x).setIfInBounds d v, dd⟩ : Act) = _
 rw [frm_put ds F 0 x i d v hnd hk, Nat.zero_add]
theorem tail_store {ops : Array Oper} {Q : Exit → Act → World → Prop} {T i : Nat} {bits : Array Bool} {o : Oper} {a : Act} {w w' : World} (hr : Region.ready .any ops bits = [i]) (ho : ops[i]? = some o) (hw : Region.wanted o (yielded ops a.tmps) = true) (hd : o.dst = none)
  (hrun : (execOp a.eval o).run P w = .ok .skip w') (h : wpAnyH P .any ops Q (fun _ => True) T (bits.setIfInBounds i true) a w') : wpAnyH P .any ops Q (fun _ => True) (T + 1) bits a w := by
 refine wpAnyH_ready hr (by simp) (AllReadyH.cons ho (fun K hK => ?_) AllReadyH.nil)
 rw [if_pos hw]
 unfold Oper.wp
 rw [hrun, Oper.upon_skip, hd]
 exact hK.out _ _ trivial (fun _ => h)
theorem tail_assign {ops : Array Oper} {Q : Exit → Act → World → Prop} {T i d : Nat} {bits : Array Bool} {o : Oper} {a : Act} {w : World} {v : Value} (hr : Region.ready .any ops bits = [i]) (ho : ops[i]? = some o) (hw : Region.wanted o (yielded ops a.tmps) = true) (hd : o.dst = some d)
  (hrun : (execOp a.eval o).run P w = .ok (.value v) w) (h : wpAnyH P .any ops Q (fun _ => True) T (bits.setIfInBounds i true) ⟨a.tmps.setIfInBounds d v, a.defers⟩ w) : wpAnyH P .any ops Q (fun _ => True) (T + 1) bits a w := by
 refine wpAnyH_ready hr (by simp) (AllReadyH.cons ho (fun K hK => ?_) AllReadyH.nil)
 rw [if_pos hw]
 unfold Oper.wp
 rw [hrun, Oper.upon_value, hd]
 exact hK.out _ _ trivial (fun _ => h)
theorem want_none {o : Oper} {y : Nat → Option Bool} (h : o.guard = none) : Region.wanted o y = true := by simp [Region.wanted, h]
end
end Go.Proofs.YtepakogbbomaoaaGreatDoor
