/-
 A range over a function, by footprints (as Foot has it): what a caller owes, what an iterator gives.
 The library's slices.Chunk at []byte, nine at a time: its iterator gives the groups of a slice, one after the other.
-/
import Derived.Test.YtepakogbbomaoaaGreatDoorBaseO
import Derived.RangeFuncNested
import Derived.RangeFuncBound
import Derived.Shelf.Abstract
import Derived.Shelf.RegionOpen
import Derived.OwnWalkIn
import Derived.TacticsInMore
import Derived.LoopNIn
import Derived.LoopIn
namespace Go.Proofs.YtepakogbbomaoaaGreatDoor
open Go.RowKit Go.Shelf
set_option linter.unusedVariables false
set_option maxRecDepth 100000
open Go.RowKit
structure Inv {β : Type} (B : Nat) (J : β → Foot → World → Prop) : Prop where
 abide : ∀ s A W W2, J s A W → Keeps (fun k => B ≤ k ∧ ¬ A k) W W2 → J s A W2
 bound : ∀ s A W, J s A W → ∀ k, A k → k < W.heap.size
theorem Round.more {A B C : Foot} {a b : World} (h : Round A B a b) : Round (fun k => A k ∨ C k) (fun k => B k ∨ C k) a b :=
 ⟨h.keeps.mono fun _ _ hk => .inl hk, fun k hk => by
  rcases hk with hk | hk
  ·rcases h.foot k hk with h1 | h1
   ·exact .inl (.inl h1)
   ·exact .inr h1
  ·exact .inl (.inr hk)⟩
theorem Round.not {A B : Foot} {a b : World} (h : Round A B a b) {k : Nat} (hn : ¬ A k) (hk : k < a.heap.size) : ¬ B k := fun hb => by
 rcases h.foot k hb with h1 | h1
 ·exact hn h1
 ·omega
def Gives {α : Type} (P : Program) (g : Nat) (lb : Array Value) (encs : α → Array Value) (Q : Foot) (xs : List α) (w : World) : Prop :=
 ∀ (l : Nat) (J Jx : List α → Foot → World → Prop) (A : Foot) (W : World),
  (∀ k, Q k → W.heap[k]? = w.heap[k]? ∧ ¬ A k ∧ k < W.heap.size) → Inv W.heap.size J → Inv W.heap.size Jx →
  (∀ pre x A1 W1, pre ++ [x] <+: xs → J pre A1 W1 → YieldAt Fence.wide 0 P l (encs x) W1 fun e W2 =>
   ∃ A2, Round A1 A2 W1 W2 ∧ ((e = .returned (.bool true) ∧ J (pre ++ [x]) A2 W2) ∨ (e = .returned (.bool false) ∧ Jx (pre ++ [x]) A2 W2))) →
  J [] A W →
  CallsIn Fence.wide 0 P g (#[.func (.yield l) #[] #[]] ++ lb) W fun e W2 => (∃ v, e = .returned v) ∧ ∃ A2, (J xs A2 W2 ∨ ∃ pre, pre <+: xs ∧ Jx pre A2 W2)
def bodyEnd {α : Type} (I : List α → Foot → World → Prop) (Ix : Code → List α → Foot → World → Prop) (xs : List α) (A : Foot) (W : World) : Exit → Act → World → Prop
 | .normal, _, W2 => ∃ A2, Round A A2 W W2 ∧ I xs A2 W2
 | .ret, _, W2 => ∃ A2, Round A A2 W W2 ∧ Ix .ret xs A2 W2
 | .exit id, _, W2 => ∃ A2, Round A A2 W W2 ∧ Ix (.exit id) xs A2 W2
 | .goto t, _, W2 => ∃ A2, Round A A2 W W2 ∧ Ix (.goto t) xs A2 W2
 | .panic _, _, _ => False
 | .outgrown, _, _ => False
theorem callsIn_n {n m : Nat} {P : Program} {f : FuncId} {args : Array Value} {w : World} {R : Ending → World → Prop} (h : CallsIn Fence.wide n P f args w R) : CallsIn Fence.wide m P f args w R :=
 callsIn_wide.2 (callsIn_wide.1 h)
theorem wp_n {F : Fence} (hd : F.depth = none) {c : Code} {n m : Nat} {P : Program} {Q : Exit → Act → World → Prop} {a : Act} {w : World} (h : c.wpIn F n P Q a w) : c.wpIn F m P Q a w :=
 fun b k cs hro hb _ => h b k cs hro hb (fun d h => by simp [hd] at h)
section
variable {α : Type} {P : Program} {g : Operand} {ps : Array Tmp} {assign body : Code} {Q : Exit → Act → World → Prop} {a : Act} {w : World} {n : Nat}
theorem wp_range {gf : Nat} {lb : Array Value} (hg : a.eval g = .func (.func gf) #[] lb) (eg : ∀ args w, (callFunc gf args).run P w = .ok (.enter gf args) w)
  {encs : α → Array Value} {Qf : Foot} {xs : List α} {w0 : World} (hseq : Gives P gf lb encs Qf xs w0) (A : Foot)
  (hQ : ∀ k, Qf k → w.heap[k]? = w0.heap[k]? ∧ ¬ A k ∧ k < w.heap.size) (hps : ∀ x, (encs x).size = ps.size)
  (I : List α → Foot → World → Prop) (Ix : Code → List α → Foot → World → Prop) (hI : Inv w.heap.size I) (hIx : ∀ c, Inv w.heap.size (Ix c)) (h0 : I [] A w)
  (Ax : List α → α → Act → Foot → World → Prop) (hAx : ∀ pre x a1, Inv w.heap.size (fun (_ : Unit) => Ax pre x a1))
  (hassign : ∀ (l : Nat) (pre : List α) (x : α) (A1 : Foot) (W1 : World) (K : Act → World → Prop), pre ++ [x] <+: xs → I pre A1 W1 →
   (∀ a2 A2 W2, Round A1 A2 W1 W2 → Ax pre x a2 A2 W2 → K a2 W2) →
   assign.wpIn (Fence.wide.inRound l) (n - 1 - 1) P (Exit.then K (fun _ _ _ => False)) { tmps := (ps.zip (encs x)).foldl (fun t (p, v) => t.setIfInBounds p v) a.tmps, defers := [] } W1)
  (hbody : ∀ (l : Nat) (pre : List α) (x : α) (a1 : Act) (A1 : Foot) (W1 : World), w.heap.size ≤ l → ¬ A1 l → (∃ r, W1.heap[l]? = some (.loop r)) → pre ++ [x] <+: xs → Ax pre x a1 A1 W1 →
   body.wpIn (Fence.wide.inRound l) (n - 1 - 1) P (bodyEnd I Ix (pre ++ [x]) A1 W1) a1 W1)
  (hdone : ∀ (D : Nat) (A2 : Foot) (W2 : World), w.heap.size ≤ D → ¬ A2 D → I xs A2 W2 → W2.heap[D]? = some (.deferred (some [])) → Q .normal { a with defers := { target := .collected D, args := #[] } :: a.defers } W2)
  (hstop : ∀ (D : Nat) (c : Code) (pre : List α) (A2 : Foot) (W2 : World), w.heap.size ≤ D → ¬ A2 D → pre <+: xs → Ix c pre A2 W2 → W2.heap[D]? = some (.deferred (some [])) →
   c.wpIn Fence.wide n P Q { a with defers := { target := .collected D, args := #[] } :: a.defers } W2) :
  (Code.rangeFunc g ps assign body).wpIn Fence.wide n P Q a w := by
 refine wpIn_rangeFunc ?_
 intro fn hfn
 generalize hD : w.heap.size = D at *
 -- the loop's record in its three states
 obtain ⟨rc, hrc⟩ : ∃ rc : LoopState → Option Code → Loop, rc = fun st pe => { state := st, pending := pe, fn, tmps := a.tmps, params := ps, assign, body, defers := D } := ⟨_, rfl⟩
 obtain ⟨W0, hW0⟩ : ∃ W0, (w.alloc (.deferred (some []))).alloc (.loop (rc .ready none)) = W0 := ⟨_, rfl⟩
 have hz0 : W0.heap.size = D + 2 := by rw [← hW0]; simp [hD]
 have hkD : W0.heap[D]? = some (.deferred (some [])) := by
  rw [← hW0, ← hD]; exact (Below.heap_alloc _ _ _ (by simp)).trans (World.alloc_heap_new w _)
 have hkL : W0.heap[D + 1]? = some (.loop (rc .ready none)) := by
  rw [← hW0, ← hD]; have := World.alloc_heap_new (w.alloc (.deferred (some []))) (.loop (rc .ready none)); rwa [World.size_alloc] at this
 have hk0 : ∀ B : Foot, Keeps B w W0 := fun B => by rw [← hW0]; exact ((Keeps.refl B w).alloc _).alloc _
 have hA0 : ∀ k, A k → k < D := fun k hk => hD ▸ hI.bound _ _ _ h0 k hk
 -- what lies between two rounds
 let J : List α → Foot → World → Prop := fun pre B W => ∃ A1, (∀ k, B k ↔ A1 k ∨ k = D ∨ k = D + 1) ∧ ¬ A1 D ∧ ¬ A1 (D + 1) ∧ I pre A1 W ∧ W.heap[D]? = some (.deferred (some [])) ∧ W.heap[D + 1]? = some (.loop (rc .ready none))
 let Jx : List α → Foot → World → Prop := fun pre B W => ∃ A1 c, (∀ k, B k ↔ A1 k ∨ k = D ∨ k = D + 1) ∧ ¬ A1 D ∧ ¬ A1 (D + 1) ∧ Ix c pre A1 W ∧ W.heap[D]? = some (.deferred (some [])) ∧ W.heap[D + 1]? = some (.loop (rc .done (some c)))
 have hJ : Inv (D + 2) J := by
  refine ⟨?_, ?_⟩
  ·rintro s B W W2 ⟨A1, hB, h1, h2, hi, hd, hl⟩ hk
   refine ⟨A1, hB, h1, h2, hI.abide _ _ _ _ hi (hk.mono fun k _ ⟨hk1, hk2⟩ => ⟨by omega, fun ha => hk2 ((hB k).2 (.inl ha))⟩), hk.obj hd (by simp only [not_and]; intro hh; omega), hk.obj hl (by simp only [not_and]; intro hh; omega)⟩
  ·rintro s B W ⟨A1, hB, h1, h2, hi, hd, hl⟩ k hk
   rcases (hB k).1 hk with h | rfl | rfl
   ·exact hI.bound _ _ _ hi k h
   ·exact (Array.getElem?_eq_some_iff.1 hd).1
   ·exact (Array.getElem?_eq_some_iff.1 hl).1
 have hJx : Inv (D + 2) Jx := by
  refine ⟨?_, ?_⟩
  ·rintro s B W W2 ⟨A1, c, hB, h1, h2, hi, hd, hl⟩ hk
   refine ⟨A1, c, hB, h1, h2, (hIx c).abide _ _ _ _ hi (hk.mono fun k _ ⟨hk1, hk2⟩ => ⟨by omega, fun ha => hk2 ((hB k).2 (.inl ha))⟩), hk.obj hd (by simp only [not_and]; intro hh; omega), hk.obj hl (by simp only [not_and]; intro hh; omega)⟩
  ·rintro s B W ⟨A1, c, hB, h1, h2, hi, hd, hl⟩ k hk
   rcases (hB k).1 hk with h | rfl | rfl
   ·exact (hIx c).bound _ _ _ hi k h
   ·exact (Array.getElem?_eq_some_iff.1 hd).1
   ·exact (Array.getElem?_eq_some_iff.1 hl).1
 refine ⟨D + 1, [{ target := .collected D, args := #[] }], W0, { target := .fn (.func gf) lb, args := #[.func (.yield (D + 1)) #[] #[]] }, W0, gf, #[.func (.yield (D + 1)) #[] #[]] ++ lb, W0, ?_, ?_, ?_, ?_, fun h => (by simp [Fence.wide] at h), ?_⟩
 ·rw [← hW0, hrc, ← hD]; exact run_enterLoop_outer _ _ _ _ _
 ·simp only [resolve, hg]
  simp [go_sem]
 ·intro _ _; trivial
 ·simp [invoke, go_sem, eg]
 have wd : ∀ l, (Fence.wide.inRound l).depth = none := fun _ => rfl
 refine (callsIn_n (hseq (D + 1) J Jx (fun k => A k ∨ k = D ∨ k = D + 1) W0 ?_ (hz0 ▸ hJ) (hz0 ▸ hJx) ?_ ?_)).mono ?_
 ·intro k hk
  obtain ⟨e1, e2, e3⟩ := hQ k hk
  refine ⟨((hk0 (fun _ => False)).same k (by omega) (fun h => h)).trans e1, ?_, by omega⟩
  rintro (h | rfl | rfl)
  ·exact e2 h
  ·omega
  ·omega
 ·-- one round
  rintro pre x B1 W1 hpre ⟨A1, hB1, n1, n2, hi, hd, hl⟩
  obtain rfl : B1 = fun k => A1 k ∨ k = D ∨ k = D + 1 := funext fun k => propext (hB1 k)
  clear hB1
  have hy := run_yield (P := P) (args := encs x) hl (by rw [hrc]; exact hps x)
  rw [hrc] at hy
  refine ⟨fn, _, assign, body, hy, roundIn_of_wpIn trivial (wp_n (n := n - 1 - 1) (wd _) ?_)⟩
  clear hy
  have hld : D + 1 < W1.heap.size := (Array.getElem?_eq_some_iff.1 hl).1
  refine hassign (D + 1) pre x A1 W1 _ hpre hi ?_
  intro a2 A2 W2 hr2 hax
  have hd2 := hr2.keeps.obj hd n1
  have hl2 := hr2.keeps.obj hl n2
  have m1 : ¬ A2 D := hr2.not n1 (by omega)
  have m2 : ¬ A2 (D + 1) := hr2.not n2 (by omega)
  have hsz2 := hr2.keeps.size
  refine ⟨_, run_beginRound hl2 (by rw [hrc]), ?_⟩
  obtain ⟨W3, hW3⟩ : ∃ W3, W2.putObj (D + 1) (.loop { rc .ready none with state := .busy }) = W3 := ⟨_, rfl⟩
  rw [hW3]
  have hl3 : W3.heap[D + 1]? = some (.loop { rc .ready none with state := .busy }) := by rw [← hW3]; exact World.putObj_heap_same (by omega)
  have hd3 : W3.heap[D]? = some (.deferred (some [])) := by rw [← hW3]; exact (World.putObj_heap_other (by omega)).trans hd2
  have hk23 : ∀ B : Foot, B (D + 1) → Keeps B W2 W3 := fun B hB => by rw [← hW3]; exact (Keeps.refl B W2).putObj _ _ hB
  have hax3 : Ax pre x a2 A2 W3 := (hAx pre x a2).abide () _ _ _ hax (hk23 _ ⟨by omega, m2⟩)
  have hsz3 : W3.heap.size = W2.heap.size := by rw [← hW3]; simp
  refine wp_n (n := n - 1 - 1) (wd _) (wpIn_mono (hbody (D + 1) pre x a2 A2 W3 (by omega) m2 ⟨_, hl3⟩ hpre hax3) ?_)
  have r1 : Round (fun k => A1 k ∨ k = D ∨ k = D + 1) (fun k => A2 k ∨ k = D ∨ k = D + 1) W1 W3 :=
   hr2.more.trans (Round.same (hk23 _ (.inr (.inr rfl))))
  -- the round's end, whatever the jump
  have fin : ∀ (jump : Option Code) (A4 : Foot) (W4 : World), Round A2 A4 W3 W4 → ∃ W5,
    (Instr.endRound (D + 1) jump).run P W4 = .ok (.bool jump.isNone) W5 ∧ ¬ A4 D ∧ ¬ A4 (D + 1) ∧ W5.heap[D]? = some (.deferred (some [])) ∧
    W5.heap[D + 1]? = some (.loop (rc (if jump.isNone then .ready else .done) jump)) ∧ Keeps (fun k => D ≤ k ∧ ¬ A4 k) W4 W5 ∧
    Round (fun k => A1 k ∨ k = D ∨ k = D + 1) (fun k => A4 k ∨ k = D ∨ k = D + 1) W1 W5 := by
   intro jump A4 W4 hr
   have hl4 := hr.keeps.obj hl3 m2
   have hd4 := hr.keeps.obj hd3 m1
   have hsz4 := hr.keeps.size
   have q1 : ¬ A4 D := hr.not m1 (by omega)
   have q2 : ¬ A4 (D + 1) := hr.not m2 (by omega)
   have he := run_endRound (P := P) jump hl4
   rw [hrc] at he ⊢
   exact ⟨_, he, q1, q2, (World.putObj_heap_other (by omega)).trans hd4, World.putObj_heap_same (by omega), (Keeps.refl _ _).putObj _ _ ⟨by omega, q2⟩,
    (r1.trans hr.more).trans (Round.same ((Keeps.refl _ _).putObj _ _ (.inr (.inr rfl))))⟩
  rintro e a4 W4 hp
  cases e with
  | normal =>
   obtain ⟨A4, hr, hi4⟩ := hp
   obtain ⟨W5, he, q1, q2, hd5, hl5, hk, hr5⟩ := fin none A4 W4 hr
   exact ⟨_, _, he, _, hr5, .inl ⟨rfl, A4, fun _ => Iff.rfl, q1, q2, hI.abide _ _ _ _ hi4 hk, hd5, hl5⟩⟩
  | ret =>
   obtain ⟨A4, hr, hi4⟩ := hp
   obtain ⟨W5, he, q1, q2, hd5, hl5, hk, hr5⟩ := fin (some .ret) A4 W4 hr
   exact ⟨_, _, he, _, hr5, .inr ⟨rfl, A4, _, fun _ => Iff.rfl, q1, q2, (hIx _).abide _ _ _ _ hi4 hk, hd5, hl5⟩⟩
  | exit id =>
   obtain ⟨A4, hr, hi4⟩ := hp
   obtain ⟨W5, he, q1, q2, hd5, hl5, hk, hr5⟩ := fin (some (.exit id)) A4 W4 hr
   exact ⟨_, _, he, _, hr5, .inr ⟨rfl, A4, _, fun _ => Iff.rfl, q1, q2, (hIx _).abide _ _ _ _ hi4 hk, hd5, hl5⟩⟩
  | goto t =>
   obtain ⟨A4, hr, hi4⟩ := hp
   obtain ⟨W5, he, q1, q2, hd5, hl5, hk, hr5⟩ := fin (some (.goto t)) A4 W4 hr
   exact ⟨_, _, he, _, hr5, .inr ⟨rfl, A4, _, fun _ => Iff.rfl, q1, q2, (hIx _).abide _ _ _ _ hi4 hk, hd5, hl5⟩⟩
  | panic ch => exact hp.elim
  | outgrown => exact hp.elim
 ·refine ⟨A, fun _ => Iff.rfl, fun h => ?_, fun h => ?_, hI.abide _ _ _ _ h0 (hk0 _), hkD, hkL⟩
  ·have := hA0 _ h; omega
  ·have := hA0 _ h; omega
 ·-- behind the iterator
  rintro e W2 ⟨⟨v, rfl⟩, B2, (⟨A2, hB2, q1, q2, hi, hd, hl⟩ | ⟨pre, hpre, A2, c, hB2, q1, q2, hi, hd, hl⟩)⟩
  ·have he := run_endLoop (P := P) hl (by rw [hrc]; simp)
   rw [hrc] at he
   exact ⟨none, _, he, hdone D A2 _ (Nat.le_refl _) q1 (hI.abide _ _ _ _ hi ((Keeps.refl _ _).putObj _ _ ⟨by omega, q2⟩)) ((World.putObj_heap_other (by omega)).trans hd)⟩
  ·have he := run_endLoop (P := P) hl (by rw [hrc]; simp)
   rw [hrc] at he
   exact ⟨some c, _, he, hstop D c pre A2 _ (Nat.le_refl _) q1 hpre ((hIx c).abide _ _ _ _ hi ((Keeps.refl _ _).putObj _ _ ⟨by omega, q2⟩)) ((World.putObj_heap_other (by omega)).trans hd)⟩
end
attribute [local go_sem] Oper.semAt_some
theorem range_prefix {k n : Nat} (h : k ≤ n) : List.range k <+: List.range n := by
 obtain ⟨m, rfl⟩ := Nat.exists_eq_add_of_le h
 exact ⟨_, (List.range_add (n := k) (m := m)).symm⟩
set_option maxHeartbeats 400000 in
theorem chunk9_any (a : Option Addr) (len cap : Nat) (w : World) :
  Calls Tryz.prog 91 #[.slice a len cap, .int .i64 9] w fun e w' =>
   e = .returned (.func (.func 122) #[] #[.pointer (some ⟨w.heap.size, 0, none⟩), .pointer (some ⟨w.heap.size + 1, 0, none⟩)]) ∧
   w' = (w.alloc (.cells #[.slice a len cap] 50)).alloc (.cells #[.int .i64 9] 3) := by
 go_enter Tryz.func91, Tryz.ntmps91
 go_wp2
 go_ret
 exact ⟨rfl, rfl⟩
def chunk9V (b off len k : Nat) : Array Value := #[.slice (some ⟨b, off + 9 * k, none⟩) (min 9 (len - 9 * k)) (min 9 (len - 9 * k))]
set_option maxRecDepth 100000 in
set_option maxHeartbeats 2000000 in
theorem chunk9_gives (b off len cap Bs Bn : Nat) (w : World) (hlen : len ≤ cap) (hcap : len ≤ 4611686018427387904)
  (hs : w.cell? ⟨Bs, 0, none⟩ = some (.slice (some ⟨b, off, none⟩) len cap)) (hn : w.cell? ⟨Bn, 0, none⟩ = some (.int .i64 9)) :
  Gives Tryz.prog 122 #[.pointer (some ⟨Bs, 0, none⟩), .pointer (some ⟨Bn, 0, none⟩)] (chunk9V b off len) (fun k => k = Bs ∨ k = Bn) (List.range ((len + 8) / 9)) w := by
 intro l J Jx A W hQ hJ hJx hY h0
 have hQs := hQ Bs (.inl rfl)
 have hQn := hQ Bn (.inr rfl)
 refine callsIn_of_wp Tryz.func122 rfl trivial ?_ rfl
 simp only [Tryz.ntmps122, List.size_toArray, List.length_cons, List.length_nil, Nat.reduceAdd, Nat.reduceSub, Array.replicate_succ, Array.replicate_zero, List.push_toArray, List.append_toArray, List.nil_append, List.cons_append]
 gi_wp2
 gi_loopw [4] (fun i wr => ∃ (k : Nat) (A1 : Foot), k ≤ (len + 8) / 9 ∧ i = .int .i64 ((9 * k : Nat) : Int) ∧ J (List.range k) A1 wr ∧ ¬ A1 Bs ∧ ¬ A1 Bn ∧
   wr.cell? ⟨Bs, 0, none⟩ = some (.slice (some ⟨b, off, none⟩) len cap) ∧ wr.cell? ⟨Bn, 0, none⟩ = some (.int .i64 9) ∧ W.heap.size ≤ wr.heap.size)
  (fun i _ => len + 9 - (intOf i).toNat)
 case atStart =>
  exact ⟨0, A, Nat.zero_le _, rfl, h0, hQs.2.1, hQn.2.1, (World.cell?_of_block hQs.1).trans hs, (World.cell?_of_block hQn.1).trans hn, Nat.le_refl _⟩
 case round =>
  obtain ⟨k, A1, hk, rfl, hJ1, ns, nn, cs, cn, hsz⟩ := hrel
  clear hs hn hQ hQs hQn
  by_cases hlt : 9 * k < len
  ·have hpk : List.range k ++ [k] <+: List.range ((len + 8) / 9) := by rw [← List.range_succ]; exact range_prefix (by omega)
   have hJd : J (List.range k) A1 wr.drew := hJ.abide _ _ _ _ hJ1 (Keeps.refl _ _).drew
   have hyy := hY (List.range k) k A1 wr.drew hpk hJd
   by_cases h8 : len - 9 * k < 9
   ·have hv : chunk9V b off len k = #[.slice (some ⟨b, off + 9 * k, none⟩) (len - 9 * k) (len - 9 * k)] := by
     unfold chunk9V; rw [Nat.min_eq_right (by omega)]
    rw [hv] at hyy
    obtain ⟨fn, tmps, assign, body, hy, hR⟩ := hyy
    clear hv
    gi_wp2
    gi_region
    gi_wp2
    refine ⟨rfl, hR.mono ?_⟩
    clear hy hR
    rintro e W2 ⟨A2, hr, (⟨rfl, hJ2⟩ | ⟨rfl, hJ2⟩)⟩
    ·have ds : wr.drew.cell? ⟨Bs, 0, none⟩ = some (.slice (some ⟨b, off, none⟩) len cap) := cs
     have dn : wr.drew.cell? ⟨Bn, 0, none⟩ = some (.int .i64 9) := cn
     have cs2 := hr.keeps.cell ds ns
     have cn2 := hr.keeps.cell dn nn
     have ns2 := hr.not ns (World.block_lt_of_cell? _ _ ds)
     have nn2 := hr.not nn (World.block_lt_of_cell? _ _ dn)
     have hsz2 : W.heap.size ≤ W2.heap.size := Nat.le_trans hsz hr.keeps.size
     have hJ3 : J (List.range (k + 1)) A2 W2 := by rw [List.range_succ]; exact hJ2
     clear hr ds dn hJ2
     gi_wp2
     go_roundw
     case rel => exact ⟨k + 1, A2, by omega, by go_num, hJ3, ns2, nn2, cs2, cn2, hsz2⟩
     case measure => simp [intOf]; omega
    ·gi_wp2
     refine bodyPost_ret (results_none rfl _ _ _) rfl ?_
     exact ⟨⟨_, rfl⟩, A2, .inr ⟨_, hpk, hJ2⟩⟩
   ·have hv : chunk9V b off len k = #[.slice (some ⟨b, off + 9 * k, none⟩) 9 9] := by
     unfold chunk9V; rw [Nat.min_eq_left (by omega)]
    rw [hv] at hyy
    obtain ⟨fn, tmps, assign, body, hy, hR⟩ := hyy
    clear hv
    gi_wp2
    gi_region
    gi_wp2
    refine ⟨rfl, hR.mono ?_⟩
    clear hy hR
    rintro e W2 ⟨A2, hr, (⟨rfl, hJ2⟩ | ⟨rfl, hJ2⟩)⟩
    ·have ds : wr.drew.cell? ⟨Bs, 0, none⟩ = some (.slice (some ⟨b, off, none⟩) len cap) := cs
     have dn : wr.drew.cell? ⟨Bn, 0, none⟩ = some (.int .i64 9) := cn
     have cs2 := hr.keeps.cell ds ns
     have cn2 := hr.keeps.cell dn nn
     have ns2 := hr.not ns (World.block_lt_of_cell? _ _ ds)
     have nn2 := hr.not nn (World.block_lt_of_cell? _ _ dn)
     have hsz2 : W.heap.size ≤ W2.heap.size := Nat.le_trans hsz hr.keeps.size
     have hJ3 : J (List.range (k + 1)) A2 W2 := by rw [List.range_succ]; exact hJ2
     clear hr ds dn hJ2
     gi_wp2
     go_roundw
     case rel => exact ⟨k + 1, A2, by omega, by go_num, hJ3, ns2, nn2, cs2, cn2, hsz2⟩
     case measure => simp [intOf]; omega
    ·gi_wp2
     refine bodyPost_ret (results_none rfl _ _ _) rfl ?_
     exact ⟨⟨_, rfl⟩, A2, .inr ⟨_, hpk, hJ2⟩⟩
  ·obtain rfl : k = (len + 8) / 9 := by omega
   gi_wp2
   go_end0
   exact ⟨⟨_, rfl⟩, A1, .inl hJ1⟩
end Go.Proofs.YtepakogbbomaoaaGreatDoor
