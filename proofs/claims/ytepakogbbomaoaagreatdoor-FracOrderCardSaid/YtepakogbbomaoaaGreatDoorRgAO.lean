/-
 Regions that draw their order: an invariant over any set of operations that have come up (wpAnyH_inv). What slots of a region hold (K..), results of calls (VEnd), boxes of fractions.
-/
import Derived.Test.YtepakogbbomaoaaGreatDoorFcAO
import Derived.Test.YtepakogbbomaoaaGreatDoorFcBO
import Derived.Deep.RegionHeld3
namespace Go.Proofs.YtepakogbbomaoaaGreatDoor
open Go.RowKit Go.Shelf
set_option linter.unusedVariables false
set_option maxRecDepth 100000
section
variable {P : Program} {ops : Array Oper} {Q : Exit → Act → World → Prop} {md : Region.Mode} {S : World → Prop}
def getB : List Bool → Nat → Bool → Bool
 | [], _, d => d
 | b :: _, 0, _ => b
 | _ :: bs, n + 1, d => getB bs n d
theorem getB_eq : ∀ (bs : List Bool) (i : Nat) (d : Bool), bs.toArray.getD i d = getB bs i d
 | [], i, d => by simp [getB]
 | b :: bs, 0, d => by simp [getB]
 | b :: bs, i + 1, d => by rw [getB, ← getB_eq bs i d]; simp
def bitsR (T : Nat) (bs : List Bool) : Array Bool := (bs ++ List.replicate T false).toArray
theorem bitsR_lo {T : Nat} {bs : List Bool} {i : Nat} {d : Bool} (h : i < bs.length) : (bitsR T bs).getD i d = bs[i] := by
 unfold bitsR
 simp [List.getElem?_append_left h, h]
theorem bitsR_set {T : Nat} {bs : List Bool} {i : Nat} (h : i < bs.length) : (bitsR T bs).setIfInBounds i true = bitsR T (bs.set i true) := by
 unfold bitsR
 rw [List.setIfInBounds_toArray, List.set_append_left _ _ h]
theorem count_setR {bs : List Bool} {i d : Nat} (h : i < bs.length) (hb : bs[i] = false) (hd : bs.count false = d + 1) : (bs.set i true).count false = d := by
 rw [List.count_set h, hd, hb]
 simp
theorem all_trueR {bs : List Bool} (h : bs.count false = 0) : bs = List.replicate bs.length true := by
 rw [List.eq_replicate_iff]
 refine ⟨rfl, fun b hb => ?_⟩
 cases b with
 | true => rfl
 | false => exact absurd hb (List.count_eq_zero.1 h)
def depsR (md : Region.Mode) (ops : Array Oper) : Bool := (List.range ops.size).all fun i => match ops[i]? with
 | none => true
 | some o => o.after.all fun e => !Region.binds md e || decide (e.on < i)
theorem depsR_spec (h : depsR md ops = true) {i : Nat} {o : Oper} (ho : ops[i]? = some o) : ∀ e ∈ o.after, Region.binds md e = true → e.on < i := by
 unfold depsR at h
 have h1 := List.all_eq_true.1 h i (List.mem_range.2 (Array.getElem?_eq_some_iff.1 ho).1)
 rw [ho] at h1
 intro e he hb
 have h2 := Array.all_eq_true_iff_forall_mem.1 h1 e he
 simp only [hb, Bool.not_true, Bool.false_or, decide_eq_true_eq] at h2
 exact h2
theorem firstR {bs : List Bool} (h : bs.count false ≠ 0) : ∃ i, ∃ h : i < bs.length, bs[i] = false ∧ ∀ j, ∀ hj : j < i, bs[j]'(Nat.lt_trans hj h) = true := by
 induction bs with
 | nil => simp at h
 | cons b bs ih =>
  cases b with
  | false => exact ⟨0, by simp, rfl, fun j hj => absurd hj (Nat.not_lt_zero _)⟩
  | true =>
   rw [List.count_cons_of_ne (by decide)] at h
   obtain ⟨i, hi, h1, h2⟩ := ih h
   refine ⟨i + 1, by simpa using hi, by simpa using h1, fun j hj => ?_⟩
   cases j with
   | zero => rfl
   | succ j => simpa using h2 j (by omega)
theorem readyR {T : Nat} {bs : List Bool} (hn : bs.length + T = ops.size) (hd : depsR md ops = true) (h : bs.count false ≠ 0) : ∃ i, i ∈ Region.ready md ops (bitsR T bs) := by
 obtain ⟨i, hi, h1, h2⟩ := firstR h
 have hin : i < ops.size := by omega
 refine ⟨i, mem_ready.2 ⟨by rw [bitsR_lo hi]; exact h1, ops[i], Array.getElem?_eq_getElem hin, fun e he hb => ?_⟩⟩
 have hlt := depsR_spec hd (Array.getElem?_eq_getElem hin) e he hb
 rw [bitsR_lo (Nat.lt_trans hlt hi)]
 exact h2 _ hlt
def depsOf (md : Region.Mode) (ops : Array Oper) (i : Nat) : List Nat := match ops[i]? with
 | none => []
 | some o => (o.after.toList.filter fun e => Region.binds md e).map (·.on)
def lstR (md : Region.Mode) (ops : Array Oper) (e : Nat) : Array Bool := ((List.range ops.size).map fun j => (depsOf md ops e).contains j).toArray
theorem mem_depsOf {i : Nat} {o : Oper} (ho : ops[i]? = some o) {j : Nat} (h : j ∈ depsOf md ops i) : ∃ e ∈ o.after, Region.binds md e = true ∧ e.on = j := by
 unfold depsOf at h
 rw [ho] at h
 obtain ⟨e, he, rfl⟩ := List.mem_map.1 h
 rw [List.mem_filter] at he
 exact ⟨e, by simpa using he.1, he.2, rfl⟩
theorem wpAnyH_inv {k T : Nat} {E : List Nat} {Inv : List Bool → Act → World → Prop} (hn : k + T = ops.size) (hdep : depsR md ops = true) (hsel : Region.noSelect ops = true)
  (hfree : (E.all fun e => decide (e < k) && Region.free md ops (lstR md ops e) e) = true)
  (hQ : ∀ c a d v w, Q (.panic c) (Act.put a d v) w → Q (.panic c) a w)
  (hlen : ∀ bs a w, Inv bs a w → bs.length = k ∧ S w)
  (heager : ∀ e ∈ E, ∀ bs a w, Inv bs a w → e ∈ Region.ready md ops (bitsR T bs) → ∃ o v, ops[e]? = some o ∧ YieldsIf P ops S o v a ∧ Inv (bs.set e true) (a.put o.dst v) w)
  (hstep : ∀ bs a w i, Inv bs a w → (∀ e ∈ E, e ∉ Region.ready md ops (bitsR T bs)) → bs.count false ≠ 0 → i ∈ Region.ready md ops (bitsR T bs) → i < k ∧ wpOp P ops Q i (fun a' w' => Inv (bs.set i true) a' w') a w)
  (hend : ∀ a w, Inv (List.replicate k true) a w → wpAnyH P md ops Q S T (bitsR T (List.replicate k true)) a w) :
  ∀ d bs a w, bs.count false = d → Inv bs a w → wpAnyH P md ops Q S (d + T) (bitsR T bs) a w := by
 intro d
 induction d with
 | zero =>
  intro bs a w hc hI
  have hl := (hlen _ _ _ hI).1
  have := all_trueR hc
  rw [hl] at this
  subst this
  rw [Nat.zero_add]
  exact hend a w hI
 | succ d ih =>
  intro bs a w hc hI
  obtain ⟨hl, hS⟩ := hlen _ _ _ hI
  have hc0 : bs.count false ≠ 0 := by omega
  rw [show d + 1 + T = (d + T) + 1 by omega]
  rcases Classical.em (∃ e ∈ E, e ∈ Region.ready md ops (bitsR T bs)) with ⟨e, heE, her⟩ | hno
  ·obtain ⟨o, v, ho, hy, hI2⟩ := heager e heE bs a w hI her
   have hf := List.all_eq_true.1 hfree e heE
   rw [Bool.and_eq_true, decide_eq_true_eq] at hf
   obtain ⟨hek, hf⟩ := hf
   have hlt : e < bs.length := by omega
   have hb : bs[e] = false := by
    have := (mem_ready.1 her).1
    rwa [bitsR_lo hlt] at this
   refine wpAnyH_first ho (Region.noSelect_spec hsel) (fun c a w => hQ c a _ _ w) (d + T) (bitsR T bs) a w ?_ her hy hS ?_
   ·intro j oj hj hne hun hw
    refine Region.free_spec ho hf j oj hj hne ?_ hw
    have hjn := (Array.getElem?_eq_some_iff.1 hj).1
    have hnc : (depsOf md ops e).contains j = false := by
     cases hcn : (depsOf md ops e).contains j with
     | false => rfl
     | true =>
      obtain ⟨_, o', ho', hall⟩ := mem_ready.1 her
      obtain ⟨ed, he1, he2, rfl⟩ := mem_depsOf ho' (List.contains_iff_mem.1 hcn)
      have := hall ed he1 he2
      rcases Nat.lt_or_ge ed.on (bitsR T bs).size with h' | h'
      ·simp [h'] at hun this; rw [hun] at this; cases this
      ·simp [Array.getElem?_eq_none h'] at this
    unfold lstR
    rw [← hnc]
    generalize depsOf md ops e = l
    simp [hjn]
   ·rw [bitsR_set hlt]
    exact ih _ _ _ (count_setR hlt hb hc) hI2
  ·have hno' : ∀ e ∈ E, e ∉ Region.ready md ops (bitsR T bs) := fun e he h => hno ⟨e, he, h⟩
   obtain ⟨i0, hi0⟩ := readyR (T := T) (by omega) hdep hc0
   refine ⟨fun h => (by rw [h] at hi0; cases hi0), fun i hi => ?_⟩
   obtain ⟨hik, hst⟩ := hstep bs a w i hI hno' hc0 hi
   have hlt : i < bs.length := by omega
   have hb : bs[i] = false := by
    have := (mem_ready.1 hi).1
    rwa [bitsR_lo hlt] at this
   refine wpOp_mono (fun a' w' h' => ⟨(hlen _ _ _ h').2, ?_⟩) hst
   rw [bitsR_set hlt]
   exact ih _ _ _ (count_setR hlt hb hc) h'
def upd (x : Nat → Value) (i : Nat) (v : Value) : Nat → Value := fun n => if n = i then v else x n
theorem getB_rep {T j : Nat} : getB (List.replicate T false) j false = false := by
 induction T generalizing j with
 | zero => rfl
 | succ T ih => cases j with
  | zero => rfl
  | succ j => exact ih (j := j)
theorem getB_app {T : Nat} {bs : List Bool} {j : Nat} (h : getB (bs ++ List.replicate T false) j false = true) : getB bs j false = true := by
 induction bs generalizing j with
 | nil => rw [List.nil_append, getB_rep] at h; cases h
 | cons b bs ih => cases j with
  | zero => exact h
  | succ j => exact ih (j := j) h
theorem getB_set {bs : List Bool} {i j : Nat} (h : getB (bs.set i true) j false = true) (hne : j ≠ i) : getB bs j false = true := by
 induction bs generalizing i j with
 | nil => exact h
 | cons b bs ih =>
  cases i with
  | zero => cases j with
   | zero => exact absurd rfl hne
   | succ j => exact h
  | succ i => cases j with
   | zero => exact h
   | succ j => exact ih (i := i) (j := j) h (by omega)
theorem getB_more {bs : List Bool} {i j : Nat} (h : getB bs j false = true) : getB (bs.set i true) j false = true := by
 induction bs generalizing i j with
 | nil => exact h
 | cons b bs ih =>
  cases i with
  | zero => cases j with
   | zero => rfl
   | succ j => exact h
  | succ i => cases j with
   | zero => exact h
   | succ j => exact ih (i := i) (j := j) h
theorem getB_true {bs : List Bool} {j : Nat} (h : getB bs j false = true) : ∃ h : j < bs.length, bs[j] = true := by
 induction bs generalizing j with
 | nil => cases h
 | cons b bs ih => cases j with
  | zero => exact ⟨by simp, h⟩
  | succ j => obtain ⟨h1, h2⟩ := ih (j := j) h; exact ⟨by simpa using h1, by simpa using h2⟩
theorem getB_all {k j : Nat} (h : j < k) : getB (List.replicate k true) j false = true := by
 induction k generalizing j with
 | zero => omega
 | succ k ih => cases j with
  | zero => rfl
  | succ j => exact ih (j := j) (by omega)
theorem deps_listed {i T : Nat} {bs : List Bool} (h : i ∈ Region.ready md ops (bitsR T bs)) {j : Nat} (hj : j ∈ depsOf md ops i) : getB bs j false = true := by
 obtain ⟨_, o, ho, hall⟩ := mem_ready.1 h
 obtain ⟨e, he, hb, rfl⟩ := mem_depsOf ho hj
 have := hall e he hb
 unfold bitsR at this
 rw [getB_eq] at this
 exact getB_app this
def closR (md : Region.Mode) (ops : Array Oper) : Nat → List Nat → List Nat
 | 0, l => l
 | n + 1, l => closR md ops n ((l ++ l.flatMap (depsOf md ops)).eraseDups)
theorem closR_all {p : Nat → Prop} (hp : ∀ i, p i → ∀ j ∈ depsOf md ops i, p j) : ∀ {n : Nat} {l : List Nat}, (∀ j ∈ l, p j) → ∀ j ∈ closR md ops n l, p j
 | 0, _, h => h
 | n + 1, l, h => closR_all (n := n) hp (fun j hj => by
   rw [List.mem_eraseDups, List.mem_append, List.mem_flatMap] at hj
   rcases hj with hj | ⟨a, ha, hj⟩
   ·exact h j hj
   ·exact hp a (h a ha) j hj)
def tailR (md : Region.Mode) (ops : Array Oper) (k : Nat) (E : List Nat) : Bool := (List.range ops.size).all fun i => decide (i < k) || ((depsOf md ops i).any fun j => decide (k ≤ j)) ||
 (List.range k).all fun j => (closR md ops 5 (depsOf md ops i)).contains j || (E.contains j && (depsOf md ops j).all fun d => (closR md ops 5 (depsOf md ops i)).contains d)
theorem region_ops {k T id : Nat} {E C : List Nat} {K : Nat → World → Value → Prop} {tm : (Nat → Value) → Array Value} {dd : List Deferred} {W0 : World} (x0 : Nat → Value)
  (hm : P.follows .mixedOrders = true) (hn : k + T = ops.size) (hdep : depsR .any ops = true) (hsel : Region.noSelect ops = true)
  (hfree : (E.all fun e => decide (e < k) && Region.free .any ops (lstR .any ops e) e) = true) (htail : tailR .any ops k E = true)
  (hall : ((List.range k).all fun i => E.contains i || C.contains i) = true)
  (hQ : ∀ c a d v w, Q (.panic c) (Act.put a d v) w → Q (.panic c) a w)
  (hS : ∀ w, Below W0.heap.size W0 w → S w)
  (hmono : ∀ i v w w', K i w v → Below w.heap.size w w' → K i w' v)
  (heager : ∀ e ∈ E, ∀ x w, Below W0.heap.size W0 w → (∀ j ∈ depsOf .any ops e, K j w (x j)) → ∃ o v, ops[e]? = some o ∧ YieldsIf P ops S o v ⟨tm x, dd⟩ ∧ K e w v ∧ Act.put ⟨tm x, dd⟩ o.dst v = ⟨tm (upd x e v), dd⟩)
  (hcall : ∀ i ∈ C, ∀ x w, Below W0.heap.size W0 w → (∀ j ∈ depsOf .any ops i, K j w (x j)) → wpOp P ops Q i (fun a' w' => ∃ v, a' = ⟨tm (upd x i v), dd⟩ ∧ Below w.heap.size w w' ∧ K i w' v) ⟨tm x, dd⟩ w)
  (hend : ∀ x w, Below W0.heap.size W0 w → (∀ i, i < k → K i w (x i)) → wpAnyH P .any ops Q S T (bitsR T (List.replicate k true)) ⟨tm x, dd⟩ w) :
  (Code.region id ops true).wp P Q ⟨tm x0, dd⟩ W0 := by
 have h0 : Below W0.heap.size W0 W0.drew := (Below.refl _ _).drew
 refine wp_region_held_drew (S := S) hm (hS _ h0) (fun _ => ?_)
 have key := wpAnyH_inv (P := P) (Q := Q) (S := S) (T := T) (md := .any) (E := E) (Inv := fun bs a w => bs.length = k ∧ ∃ x : Nat → Value, a = ⟨tm x, dd⟩ ∧ Below W0.heap.size W0 w ∧ ∀ i, getB bs i false = true → K i w (x i) ∧ ∀ j ∈ depsOf .any ops i, getB bs j false = true) hn hdep hsel hfree hQ
  (fun bs a w ⟨hl, x, _, hb, _⟩ => ⟨hl, hS _ hb⟩) ?_ ?_ ?_ k (List.replicate k false) ⟨tm x0, dd⟩ W0.drew (by simp) ⟨by simp, x0, rfl, h0, fun i hi => by
   obtain ⟨h1, h2⟩ := getB_true hi
   rw [List.getElem_replicate] at h2
   cases h2⟩
 ·have e : bitsR T (List.replicate k false) = Array.replicate ops.size false := by
   unfold bitsR
   rw [List.replicate_append_replicate, hn]
   simp
  rw [e, hn] at key
  exact key
 ·rintro e he bs a w ⟨hl, x, rfl, hb, hK⟩ her
  obtain ⟨o, v, h1, h2, h3, h4⟩ := heager e he x w hb (fun j hj => (hK j (deps_listed her hj)).1)
  refine ⟨o, v, h1, h2, by simpa using hl, _, h4, hb, fun i hi => ⟨?_, fun j hj => ?_⟩⟩
  ·unfold upd
   split
   ·rename_i hie; rw [hie]; exact h3
   ·rename_i hie; exact (hK i (getB_set hi hie)).1
  ·rcases Classical.em (i = e) with rfl | hie
   ·exact getB_more (deps_listed her hj)
   ·exact getB_more ((hK i (getB_set hi hie)).2 j hj)
 ·rintro bs a w i ⟨hl, x, rfl, hb, hK⟩ hE hc hi
  have hin : i < ops.size := by
   obtain ⟨_, o, ho, _⟩ := mem_ready.1 hi
   exact (Array.getElem?_eq_some_iff.1 ho).1
  rcases Nat.lt_or_ge i k with hik | hik
  ·refine ⟨hik, ?_⟩
   have h1 := List.all_eq_true.1 hall i (List.mem_range.2 hik)
   rw [Bool.or_eq_true] at h1
   rcases h1 with h1 | h1
   ·exact absurd hi (hE i (List.contains_iff_mem.1 h1))
   ·refine wpOp_mono ?_ (hcall i (List.contains_iff_mem.1 h1) x w hb (fun j hj => (hK j (deps_listed hi hj)).1))
    rintro a' w' ⟨v, rfl, hb', hk'⟩
    refine ⟨by simpa using hl, _, rfl, (hb.trans (hb'.mono hb.size)), fun j hj => ⟨?_, fun l hl => ?_⟩⟩
    ·unfold upd
     split
     ·rename_i hji; rw [hji]; exact hk'
     ·rename_i hji; exact hmono j _ _ _ (hK j (getB_set hj hji)).1 hb'
    ·rcases Classical.em (j = i) with rfl | hji
     ·exact getB_more (deps_listed hi hl)
     ·exact getB_more ((hK j (getB_set hj hji)).2 l hl)
  ·exfalso
   have hclos := closR_all (n := 5) (fun a ha b hb => (hK a ha).2 b hb) (fun j hj => deps_listed hi hj)
   have h1 := List.all_eq_true.1 htail i (List.mem_range.2 hin)
   rw [Bool.or_eq_true, Bool.or_eq_true, decide_eq_true_eq] at h1
   rcases h1 with (h1 | h1) | h1
   ·omega
   ·obtain ⟨j, hj, hjk⟩ := List.any_eq_true.1 h1
    obtain ⟨h2, _⟩ := getB_true (deps_listed hi hj)
    have := of_decide_eq_true hjk
    omega
   ·refine hc (List.count_eq_zero.2 (fun hmem => ?_))
    obtain ⟨j, hj, hjf⟩ := List.getElem_of_mem hmem
    have h2 := List.all_eq_true.1 h1 j (List.mem_range.2 (by omega))
    rw [Bool.or_eq_true, Bool.and_eq_true] at h2
    rcases h2 with h2 | ⟨h2, h3⟩
    ·obtain ⟨_, h4⟩ := getB_true (hclos j (List.contains_iff_mem.1 h2))
     rw [hjf] at h4
     cases h4
    ·refine hE j (List.contains_iff_mem.1 h2) (mem_ready.2 ⟨by rw [bitsR_lo hj]; exact hjf, ops[j]'(by omega), Array.getElem?_eq_getElem (by omega), fun e he hbe => ?_⟩)
     have hmem2 : e.on ∈ depsOf .any ops j := by
      unfold depsOf
      rw [Array.getElem?_eq_getElem (by omega)]
      exact List.mem_map.2 ⟨e, List.mem_filter.2 ⟨by simpa using he, hbe⟩, rfl⟩
     have h5 := List.all_eq_true.1 h3 _ hmem2
     obtain ⟨h6, h7⟩ := getB_true (hclos _ (List.contains_iff_mem.1 h5))
     rw [bitsR_lo h6]
     exact h7
 ·rintro a w ⟨_, x, rfl, hb, hK⟩
  exact hend x w hb (fun i hi => (hK i (getB_all hi)).1)
theorem wpOp_shut {i : Nat} {o : Oper} {K : Act → World → Prop} {a : Act} {w : World} (ho : ops[i]? = some o)
  (h : ∀ K' : Act → World → Prop, Shut (∀ a w, K a w → K' a w) → if Region.wanted o (yielded ops a.tmps) = true then Oper.wp P o a w K' Q else K' (a.put o.dst undef) w) : wpOp P ops Q i K a w :=
 wpOp_step ho h
def allP (p : Nat → Prop) : List Nat → Prop
 | [] => True
 | j :: ds => p j ∧ allP p ds
theorem deps_k {p : Nat → Prop} {i : Nat} {ds : List Nat} (hds : depsOf md ops i = ds) (h : ∀ j ∈ depsOf md ops i, p j) : allP p ds := by
 rw [hds] at h
 clear hds
 induction ds with
 | nil => trivial
 | cons a l ih => exact ⟨h a (List.mem_cons_self ..), ih (fun j hj => h j (List.mem_cons_of_mem _ hj))⟩
def getV : List Value → Nat → Value
 | [], _ => undef
 | v :: _, 0 => v
 | _ :: vs, n + 1 => getV vs n
def getK : List (World → Value → Prop) → Nat → World → Value → Prop
 | [], _ => fun _ _ => True
 | k :: _, 0 => k
 | _ :: ks, n + 1 => getK ks n
def MonoK (k : World → Value → Prop) : Prop := ∀ v w w', k w v → Below w.heap.size w w' → k w' v
def allM : List (World → Value → Prop) → Prop
 | [] => True
 | k :: ks => MonoK k ∧ allM ks
theorem getK_mono : ∀ {ks : List (World → Value → Prop)}, allM ks → ∀ i v w w', getK ks i w v → Below w.heap.size w w' → getK ks i w' v
 | [], _, _, _, _, _, _, _ => trivial
 | k :: ks, h, 0, v, w, w', h1, hb => h.1 v w w' h1 hb
 | k :: ks, h, i + 1, v, w, w', h1, hb => getK_mono h.2 i v w w' h1 hb
end
def KX (v : Value) (_ : World) (x : Value) : Prop := x = v
def KI (z : Int) (w : World) (x : Value) : Prop := IAt w x z
def KN (z : Int) (w : World) (x : Value) : Prop := NAt w x z
def KF (p q : Int) (w : World) (x : Value) : Prop := FAt w x p q
def KR (p q : Int) (w : World) (x : Value) : Prop := RFAt w x p q
def KTF (R : Int × Int × Int) (w : World) (x : Value) : Prop := ∃ y, x = .tuple #[y, .int .i64 R.1] ∧ FAt w y R.2.1 R.2.2
def KTR (R : Int × Int × Int) (w : World) (x : Value) : Prop := ∃ y, x = .tuple #[y, .int .i64 R.1] ∧ RFAt w y R.2.1 R.2.2
def KTI (z : Int) (w : World) (x : Value) : Prop := ∃ y, x = .tuple #[y, .int .i64 (ecF z)] ∧ IAt w y (limF z)
def KA (L : Nat) (T : TypeId) (zs : List Value) (w : World) (x : Value) : Prop := ∃ t : Nat, x = .pointer (some ⟨t, 0, none⟩) ∧ L ≤ t ∧ Laid w t T zs
theorem kx_b {v x : Value} {w w' : World} (h : KX v w x) (_ : Below w.heap.size w w') : KX v w' x := h
theorem ki_b {z : Int} {x : Value} {w w' : World} (h : KI z w x) (hb : Below w.heap.size w w') : KI z w' x := iat_keeps h hb
theorem kn_b {z : Int} {x : Value} {w w' : World} (h : KN z w x) (hb : Below w.heap.size w w') : KN z w' x := nat_keeps h hb
theorem kf_b {p q : Int} {x : Value} {w w' : World} (h : KF p q w x) (hb : Below w.heap.size w w') : KF p q w' x := fat_keeps h hb
theorem kr_b {p q : Int} {x : Value} {w w' : World} (h : KR p q w x) (hb : Below w.heap.size w w') : KR p q w' x := rf_keeps h hb
theorem ktf_b {R : Int × Int × Int} {x : Value} {w w' : World} (h : KTF R w x) (hb : Below w.heap.size w w') : KTF R w' x := by obtain ⟨y, e, h⟩ := h; exact ⟨y, e, fat_keeps h hb⟩
theorem ktr_b {R : Int × Int × Int} {x : Value} {w w' : World} (h : KTR R w x) (hb : Below w.heap.size w w') : KTR R w' x := by obtain ⟨y, e, h⟩ := h; exact ⟨y, e, rf_keeps h hb⟩
theorem kti_b {z : Int} {x : Value} {w w' : World} (h : KTI z w x) (hb : Below w.heap.size w w') : KTI z w' x := by obtain ⟨y, e, h⟩ := h; exact ⟨y, e, iat_keeps h hb⟩
theorem ka_b {L : Nat} {T : TypeId} {zs : List Value} {x : Value} {w w' : World} (h : KA L T zs w x) (hb : Below w.heap.size w w') : KA L T zs w' x := by obtain ⟨t, e, h1, h2⟩ := h; exact ⟨t, e, h1, h2.below hb⟩
theorem ka_new {L : Nat} (T : TypeId) (zs : List Value) {w : World} (h : L ≤ w.heap.size) : KA L T zs (w.alloc (.cells zs.toArray T)) (.pointer (some ⟨w.heap.size, 0, none⟩)) := ⟨_, rfl, h, Laid.new _ _ _⟩
theorem m_x {v : Value} : MonoK (KX v) := fun _ _ _ h hb => kx_b h hb
theorem m_i {z : Int} : MonoK (KI z) := fun _ _ _ h hb => ki_b h hb
theorem m_n {z : Int} : MonoK (KN z) := fun _ _ _ h hb => kn_b h hb
theorem m_f {p q : Int} : MonoK (KF p q) := fun _ _ _ h hb => kf_b h hb
theorem m_r {p q : Int} : MonoK (KR p q) := fun _ _ _ h hb => kr_b h hb
theorem m_tf {R : Int × Int × Int} : MonoK (KTF R) := fun _ _ _ h hb => ktf_b h hb
theorem m_tr {R : Int × Int × Int} : MonoK (KTR R) := fun _ _ _ h hb => ktr_b h hb
theorem m_ti {z : Int} : MonoK (KTI z) := fun _ _ _ h hb => kti_b h hb
theorem m_a {L : Nat} {T : TypeId} {zs : List Value} : MonoK (KA L T zs) := fun _ _ _ h hb => ka_b h hb
theorem ibox_store {W : World} {b : Nat} {z : Int} {s s0 : Bool} {a e : Option Addr} {m c i k : Nat} (hl : Laid W b 32 [.bool s0, .slice e i k]) (h : IAt W (.agg #[.bool s, .slice a m c]) z) : IBox ((W.setCell ⟨b, 0, none⟩ (.bool s)).setCell ⟨b, 1, none⟩ (.slice a m c)) b z :=
 ⟨s, a, m, c, (hl.set 0 _).set 1 _, iat_store hl h⟩
theorem nbox_store {W : World} {b : Nat} {z : Int} {s s0 : Bool} {a e : Option Addr} {m c i k : Nat} (hl : Laid W b 24 [.bool s0, .slice e i k]) (h : NAt W (.agg #[.bool s, .slice a m c]) z) : NBox ((W.setCell ⟨b, 0, none⟩ (.bool s)).setCell ⟨b, 1, none⟩ (.slice a m c)) b z := by
 have l1 : Laid (W.setCell ⟨b, 0, none⟩ (.bool s)) b 24 [.bool s, .slice e i k] := hl.set 0 _
 exact ⟨s, a, m, c, l1.set 1 _, nat_set (nat_set h hl 0 _) l1 1 _⟩
def VEnd (K : World → Value → Prop) (w : World) (e : Ending) (w' : World) : Prop := ∃ v, e = .returned v ∧ K w' v ∧ Below w.heap.size w w'
theorem v_i {z : Int} {w w' : World} {e : Ending} (h : IEnd z w e w') : VEnd (KI z) w e w' := by obtain ⟨b, a, m, k, h1, h2, h3⟩ := h; exact ⟨_, h1, h2, h3⟩
theorem v_n {z : Int} {w w' : World} {e : Ending} (h : NEnd z w e w') : VEnd (KN z) w e w' := h
theorem v_f {p q : Int} {w w' : World} {e : Ending} (h : FEnd p q w e w') : VEnd (KF p q) w e w' := h
theorem v_r {p q : Int} {w w' : World} {e : Ending} (h : RFEnd p q w e w') : VEnd (KR p q) w e w' := h
theorem v_tf {R : Int × Int × Int} {w w' : World} {e : Ending} (h : FREnd R w e w') : VEnd (KTF R) w e w' := by obtain ⟨s, t, a, b, m, i, c, j, h1, h2, h3⟩ := h; exact ⟨_, h1, ⟨_, rfl, h2⟩, h3⟩
theorem v_ti {z : Int} {w w' : World} {e : Ending} (h : REndW z w e w') : VEnd (KTI z) w e w' := by
 obtain ⟨b, a, m, k, c, rfl, hr, hb⟩ := rend_form h
 obtain ⟨rfl, hx⟩ := rend_limF hr
 exact ⟨_, rfl, ⟨_, rfl, hx⟩, hb⟩
theorem v_c {c : Int} {w w' : World} {e : Ending} (h : CmpEnd c w e w') : VEnd (KX (.int .i64 c)) w e w' := ⟨_, h.1, rfl, h.2⟩
def RREnd (R : Int × Int × Int) (w : World) (e : Ending) (w' : World) : Prop := VEnd (KTR R) w e w'
theorem rf_shape {W : World} {x : Value} {p q : Int} (h : RFAt W x p q) : ∃ (s t : Bool) (a b : Option Addr) (m n c d : Nat), x = .agg #[.bool s, .slice a m c, .bool t, .slice b n d] := by
 obtain ⟨s, t, a, b, m, n, c, d, e, _⟩ := h
 exact ⟨s, t, a, b, m, n, c, d, e⟩
def FBox (W : World) (b : Nat) (p q : Int) : Prop := ∃ (s t : Bool) (a a' : Option Addr) (m n c d : Nat), Laid W b 34 [.bool s, .slice a m c, .bool t, .slice a' n d] ∧ FAt W (.agg #[.bool s, .slice a m c, .bool t, .slice a' n d]) p q
theorem FBox.below {W W2 : World} {b : Nat} {p q : Int} (h : FBox W b p q) (hb : Below W.heap.size W W2) : FBox W2 b p q := by
 obtain ⟨s, t, a, a', m, n, c, d, h1, h2⟩ := h
 exact ⟨s, t, a, a', m, n, c, d, h1.below hb, fat_keeps h2 hb⟩
theorem FBox.lt {W : World} {b : Nat} {p q : Int} (h : FBox W b p q) : b < W.heap.size := by obtain ⟨_, _, _, _, _, _, _, _, h, _⟩ := h; exact h.lt
theorem FBox.new {W : World} {p q : Int} {s t : Bool} {a a' : Option Addr} {m n c d : Nat} (h : FAt W (.agg #[.bool s, .slice a m c, .bool t, .slice a' n d]) p q) : FBox (W.alloc (.cells #[.bool s, .slice a m c, .bool t, .slice a' n d] 34)) W.heap.size p q :=
 ⟨s, t, a, a', m, n, c, d, Laid.new W _ _, fat_keeps h (below_one _ _)⟩
theorem FBox.store {W : World} {b : Nat} {p q : Int} {s t s0 t0 : Bool} {a a' e e' : Option Addr} {m n c d i j k l : Nat} (hl : Laid W b 34 [.bool s0, .slice e i k, .bool t0, .slice e' j l]) (h : FAt W (.agg #[.bool s, .slice a m c, .bool t, .slice a' n d]) p q) :
  FBox ((((W.setCell ⟨b, 0, none⟩ (.bool s)).setCell ⟨b, 1, none⟩ (.slice a m c)).setCell ⟨b, 2, none⟩ (.bool t)).setCell ⟨b, 3, none⟩ (.slice a' n d)) b p q :=
 ⟨s, t, a, a', m, n, c, d, (((hl.set 0 _).set 1 _).set 2 _).set 3 _, fat_store h hl⟩
theorem FBox.open {W : World} {b : Nat} {p q : Int} (h : FBox W b p q) : ∃ (s t : Bool) (a a' : Option Addr) (m n c d : Nat), (W.cell? ⟨b, 0, none⟩ = some (.bool s) ∧ W.cell? ⟨b, 1, none⟩ = some (.slice a m c) ∧ W.cell? ⟨b, 2, none⟩ = some (.bool t) ∧ W.cell? ⟨b, 3, none⟩ = some (.slice a' n d)) ∧ (W.frozen? ⟨b, 0, none⟩ = false ∧ W.frozen? ⟨b, 1, none⟩ = false ∧ W.frozen? ⟨b, 2, none⟩ = false ∧ W.frozen? ⟨b, 3, none⟩ = false) ∧ FAt W (.agg #[.bool s, .slice a m c, .bool t, .slice a' n d]) p q := by
 obtain ⟨s, t, a, a', m, n, c, d, h1, h2⟩ := h
 exact ⟨s, t, a, a', m, n, c, d, (cellsF h1).1, (cellsF h1).2, h2⟩
def RBox (W : World) (b : Nat) (p q : Int) : Prop := ∃ (s t : Bool) (a a' : Option Addr) (m n c d : Nat), Laid W b 26 [.bool s, .slice a m c, .bool t, .slice a' n d] ∧ RFAt W (.agg #[.bool s, .slice a m c, .bool t, .slice a' n d]) p q
theorem rf_parts {W : World} {s t : Bool} {a b : Option Addr} {m n c d : Nat} {p q : Int} (h : RFAt W (.agg #[.bool s, .slice a m c, .bool t, .slice b n d]) p q) : NAt W (.agg #[.bool s, .slice a m c]) p ∧ NAt W (.agg #[.bool t, .slice b n d]) q := by
 obtain ⟨s', t', a', b', m', n', c', d', e, h1, h2⟩ := h
 have e0 : Value.bool s = .bool s' := by injection e with e; simpa using congrArg (fun t => t[0]!) e
 have e1 : Value.slice a m c = .slice a' m' c' := by injection e with e; simpa using congrArg (fun t => t[1]!) e
 have e2 : Value.bool t = .bool t' := by injection e with e; simpa using congrArg (fun t => t[2]!) e
 have e3 : Value.slice b n d = .slice b' n' d' := by injection e with e; simpa using congrArg (fun t => t[3]!) e
 rw [← e0, ← e1] at h1
 rw [← e2, ← e3] at h2
 exact ⟨h1, h2⟩
theorem RBox.store {W : World} {b : Nat} {p q : Int} {s t s0 t0 : Bool} {a a' e e' : Option Addr} {m n c d i j k l : Nat} (hl : Laid W b 26 [.bool s0, .slice e i k, .bool t0, .slice e' j l]) (h : RFAt W (.agg #[.bool s, .slice a m c, .bool t, .slice a' n d]) p q) :
  RBox ((((W.setCell ⟨b, 0, none⟩ (.bool s)).setCell ⟨b, 1, none⟩ (.slice a m c)).setCell ⟨b, 2, none⟩ (.bool t)).setCell ⟨b, 3, none⟩ (.slice a' n d)) b p q :=
 ⟨s, t, a, a', m, n, c, d, (((hl.set 0 _).set 1 _).set 2 _).set 3 _, rf_store (rf_parts h).1 (rf_parts h).2 hl⟩
theorem RBox.open {W : World} {b : Nat} {p q : Int} (h : RBox W b p q) : ∃ (s t : Bool) (a a' : Option Addr) (m n c d : Nat), (W.cell? ⟨b, 0, none⟩ = some (.bool s) ∧ W.cell? ⟨b, 1, none⟩ = some (.slice a m c) ∧ W.cell? ⟨b, 2, none⟩ = some (.bool t) ∧ W.cell? ⟨b, 3, none⟩ = some (.slice a' n d)) ∧ (W.frozen? ⟨b, 0, none⟩ = false ∧ W.frozen? ⟨b, 1, none⟩ = false ∧ W.frozen? ⟨b, 2, none⟩ = false ∧ W.frozen? ⟨b, 3, none⟩ = false) ∧ RFAt W (.agg #[.bool s, .slice a m c, .bool t, .slice a' n d]) p q := by
 obtain ⟨s, t, a, a', m, n, c, d, h1, h2⟩ := h
 exact ⟨s, t, a, a', m, n, c, d, (cellsF h1).1, (cellsF h1).2, h2⟩
end Go.Proofs.YtepakogbbomaoaaGreatDoor
