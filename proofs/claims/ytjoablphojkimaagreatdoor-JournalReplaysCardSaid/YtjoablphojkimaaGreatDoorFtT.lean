/-
  A range over a function whose iterator hands blocks over: what the yielded values lie in belongs to the loop's body from then on. No program is named here.
-/
import Derived.Test.YtjoablphojkimaaGreatDoorFoot
namespace Go.Proofs.YtjoablphojkimaaGreatDoor
open Go.RowKit
set_option linter.unusedVariables false

/-- A step of the owner that also takes over the blocks T. -/
structure RoundT (T A A2 : Foot) (W W2 : World) : Prop where
  keeps : Keeps (fun k => A k ∨ T k) W W2
  foot : ∀ k, A2 k → A k ∨ T k ∨ W.heap.size ≤ k

theorem RoundT.of {T A A2 : Foot} {W W2 : World} (h : Round A A2 W W2) : RoundT T A A2 W W2 :=
  ⟨h.keeps.mono fun _ _ hk => .inl hk, fun k hk => by rcases h.foot k hk with h1 | h1; exact .inl h1; exact .inr (.inr h1)⟩
theorem RoundT.take {T A : Foot} {W W2 : World} (h : Keeps A W W2) : RoundT T A (fun k => A k ∨ T k) W W2 :=
  ⟨h.mono fun _ _ hk => .inl hk, fun k hk => by rcases hk with h1 | h1; exact .inl h1; exact .inr (.inl h1)⟩
theorem RoundT.then {T A B C : Foot} {a b c : World} (h : RoundT T A B a b) (k : Round B C b c) : RoundT T A C a c where
  keeps := ⟨k.keeps.os.trans h.keeps.os, k.keeps.tape.trans h.keeps.tape, k.keeps.output.trans h.keeps.output, Nat.le_trans h.keeps.size k.keeps.size, fun i hi hn => by
    refine (k.keeps.same i (Nat.lt_of_lt_of_le hi h.keeps.size) (fun hb => ?_)).trans (h.keeps.same i hi hn)
    rcases h.foot i hb with h1 | h1 | h1
    · exact hn (.inl h1)
    · exact hn (.inr h1)
    · omega⟩
  foot := fun i hi => by
    rcases k.foot i hi with h1 | h1
    · exact h.foot i h1
    · have := h.keeps.size; right; right; omega
theorem RoundT.more {T A B C : Foot} {a b : World} (h : RoundT T A B a b) : RoundT T (fun k => A k ∨ C k) (fun k => B k ∨ C k) a b :=
  ⟨h.keeps.mono fun _ _ hk => by rcases hk with h1 | h1; exact .inl (.inl h1); exact .inr h1, fun k hk => by
    rcases hk with hk | hk
    · rcases h.foot k hk with h1 | h1 | h1
      · exact .inl (.inl h1)
      · exact .inr (.inl h1)
      · exact .inr (.inr h1)
    · exact .inl (.inr hk)⟩
theorem RoundT.not {T A B : Foot} {a b : World} (h : RoundT T A B a b) {k : Nat} (hn : ¬ A k) (ht : ¬ T k) (hk : k < a.heap.size) : ¬ B k := fun hb => by
  rcases h.foot k hb with h1 | h1 | h1
  · exact hn h1
  · exact ht h1
  · omega

/-- The contract of an iterator value that gives the elements xs, in order, and may be stopped; an element x is yielded by any values vs with E x vs W, whose blocks tr vs belong to the body from then on. Q: the blocks that it reads. -/
def GivesT {α : Type} (P : Program) (g : Nat) (lb : Array Value) (E : α → Array Value → World → Prop) (tr : Array Value → Foot) (Q : Foot) (xs : List α) (w : World) : Prop :=
  ∀ (l : Nat) (J Jx : List α → Foot → World → Prop) (A : Foot) (W : World),
    (∀ k, Q k → W.heap[k]? = w.heap[k]? ∧ ¬ A k ∧ k < W.heap.size) → Inv W.heap.size J → Inv W.heap.size Jx →
    (∀ pre x vs A1 W1, pre ++ [x] <+: xs → E x vs W1 → (∀ k, tr vs k → ¬ A1 k ∧ k < W1.heap.size ∧ W.heap.size ≤ k) → J pre A1 W1 → YieldAt Fence.wide 0 P l vs W1 fun e W2 =>
      ∃ A2, RoundT (tr vs) A1 A2 W1 W2 ∧ ((e = .returned (.bool true) ∧ J (pre ++ [x]) A2 W2) ∨ (e = .returned (.bool false) ∧ Jx (pre ++ [x]) A2 W2))) →
    J [] A W →
    CallsIn Fence.wide 0 P g (#[.func (.yield l) #[] #[]] ++ lb) W fun e W2 => (∃ v, e = .returned v) ∧ ∃ A2, (J xs A2 W2 ∨ ∃ pre, pre <+: xs ∧ Jx pre A2 W2)

section
variable {α : Type} {P : Program} {g : Operand} {ps : Array Tmp} {assign body : Code} {Q : Exit → Act → World → Prop} {a : Act} {w : World} {n : Nat}

/-- The statement 'for .. := range g { body }', outside every such loop, over an iterator that has its contract. -/
theorem wp_rangeT {gf : Nat} {lb : Array Value} (hg : a.eval g = .func (.func gf) #[] lb) (eg : ∀ args w, (callFunc gf args).run P w = .ok (.enter gf args) w)
    {E : α → Array Value → World → Prop} {tr : Array Value → Foot} {Qf : Foot} {xs : List α} {w0 : World} (hseq : GivesT P gf lb E tr Qf xs w0) (A : Foot)
    (hQ : ∀ k, Qf k → w.heap[k]? = w0.heap[k]? ∧ ¬ A k ∧ k < w.heap.size) (hps : ∀ x vs W1, E x vs W1 → vs.size = ps.size)
    (I : List α → Foot → World → Prop) (Ix : Code → List α → Foot → World → Prop) (hI : Inv w.heap.size I) (hIx : ∀ c, Inv w.heap.size (Ix c)) (h0 : I [] A w)
    (Ax : List α → α → Act → Foot → World → Prop) (hAx : ∀ pre x a1, Inv w.heap.size (fun (_ : Unit) => Ax pre x a1))
    (hassign : ∀ (l : Nat) (pre : List α) (x : α) (vs : Array Value) (A1 : Foot) (W1 : World) (K : Act → World → Prop), pre ++ [x] <+: xs → E x vs W1 → (∀ k, tr vs k → ¬ A1 k ∧ k < W1.heap.size ∧ w.heap.size ≤ k) → I pre A1 W1 →
      (∀ a2 A2 W2, RoundT (tr vs) A1 A2 W1 W2 → Ax pre x a2 A2 W2 → K a2 W2) →
      assign.wpIn (Fence.wide.inRound l) (n - 1 - 1) P (Exit.then K (fun _ _ _ => False)) { tmps := (ps.zip vs).foldl (fun t (p, v) => t.setIfInBounds p v) a.tmps, defers := [] } W1)
    (hbody : ∀ (l : Nat) (pre : List α) (x : α) (a1 : Act) (A1 : Foot) (W1 : World), w.heap.size ≤ l → ¬ A1 l → (∃ r, W1.heap[l]? = some (.loop r)) → pre ++ [x] <+: xs → Ax pre x a1 A1 W1 →
      body.wpIn (Fence.wide.inRound l) (n - 1 - 1) P (bodyEnd I Ix (pre ++ [x]) A1 W1) a1 W1)
    (hdone : ∀ (D : Nat) (A2 : Foot) (W2 : World), w.heap.size ≤ D → ¬ A2 D → I xs A2 W2 → W2.heap[D]? = some (.deferred (some [])) → Q .normal { a with defers := { target := .collected D, args := #[] } :: a.defers } W2)
    (hstop : ∀ (D : Nat) (c : Code) (pre : List α) (A2 : Foot) (W2 : World), w.heap.size ≤ D → ¬ A2 D → pre <+: xs → Ix c pre A2 W2 → W2.heap[D]? = some (.deferred (some [])) →
      c.wpIn Fence.wide n P Q { a with defers := { target := .collected D, args := #[] } :: a.defers } W2) :
    (Code.rangeFunc g ps assign body).wpIn Fence.wide n P Q a w := by
  refine wpIn_rangeFunc ?_
  intro fn hfn
  generalize hD : w.heap.size = D at *
  -- the loop's record in its three states
  obtain ⟨rc, hrc⟩ : ∃ rc : LoopState → Option Code → Loop, rc = fun st pe => { state := st, pending := pe, fn, tmps := a.tmps, params := ps, assign, body, defers := D } := ⟨_, rfl⟩
  obtain ⟨W0, hW0⟩ : ∃ W0, (w.alloc (.deferred (some []))).alloc (.loop (rc .ready none)) = W0 := ⟨_, rfl⟩
  have hz0 : W0.heap.size = D + 2 := by rw [← hW0]; simp [hD]
  have hkD : W0.heap[D]? = some (.deferred (some [])) := by
    rw [← hW0, ← hD]; exact (Below.heap_alloc _ _ _ (by simp)).trans (World.alloc_heap_new w _)
  have hkL : W0.heap[D + 1]? = some (.loop (rc .ready none)) := by
    rw [← hW0, ← hD]; have := World.alloc_heap_new (w.alloc (.deferred (some []))) (.loop (rc .ready none)); rwa [World.size_alloc] at this
  have hk0 : ∀ B : Foot, Keeps B w W0 := fun B => by rw [← hW0]; exact ((Keeps.refl B w).alloc _).alloc _
  have hA0 : ∀ k, A k → k < D := fun k hk => hD ▸ hI.bound _ _ _ h0 k hk
  -- what lies between two rounds
  let J : List α → Foot → World → Prop := fun pre B W => ∃ A1, (∀ k, B k ↔ A1 k ∨ k = D ∨ k = D + 1) ∧ ¬ A1 D ∧ ¬ A1 (D + 1) ∧ I pre A1 W ∧ W.heap[D]? = some (.deferred (some [])) ∧ W.heap[D + 1]? = some (.loop (rc .ready none))
  let Jx : List α → Foot → World → Prop := fun pre B W => ∃ A1 c, (∀ k, B k ↔ A1 k ∨ k = D ∨ k = D + 1) ∧ ¬ A1 D ∧ ¬ A1 (D + 1) ∧ Ix c pre A1 W ∧ W.heap[D]? = some (.deferred (some [])) ∧ W.heap[D + 1]? = some (.loop (rc .done (some c)))
  have hJ : Inv (D + 2) J := by
    refine ⟨?_, ?_⟩
    · rintro s B W W2 ⟨A1, hB, h1, h2, hi, hd, hl⟩ hk
      refine ⟨A1, hB, h1, h2, hI.abide _ _ _ _ hi (hk.mono fun k _ ⟨hk1, hk2⟩ => ⟨by omega, fun ha => hk2 ((hB k).2 (.inl ha))⟩), hk.obj hd (by simp only [not_and]; intro hh; omega), hk.obj hl (by simp only [not_and]; intro hh; omega)⟩
    · rintro s B W ⟨A1, hB, h1, h2, hi, hd, hl⟩ k hk
      rcases (hB k).1 hk with h | rfl | rfl
      · exact hI.bound _ _ _ hi k h
      · exact (Array.getElem?_eq_some_iff.1 hd).1
      · exact (Array.getElem?_eq_some_iff.1 hl).1
  have hJx : Inv (D + 2) Jx := by
    refine ⟨?_, ?_⟩
    · rintro s B W W2 ⟨A1, c, hB, h1, h2, hi, hd, hl⟩ hk
      refine ⟨A1, c, hB, h1, h2, (hIx c).abide _ _ _ _ hi (hk.mono fun k _ ⟨hk1, hk2⟩ => ⟨by omega, fun ha => hk2 ((hB k).2 (.inl ha))⟩), hk.obj hd (by simp only [not_and]; intro hh; omega), hk.obj hl (by simp only [not_and]; intro hh; omega)⟩
    · rintro s B W ⟨A1, c, hB, h1, h2, hi, hd, hl⟩ k hk
      rcases (hB k).1 hk with h | rfl | rfl
      · exact (hIx c).bound _ _ _ hi k h
      · exact (Array.getElem?_eq_some_iff.1 hd).1
      · exact (Array.getElem?_eq_some_iff.1 hl).1
  refine ⟨D + 1, [{ target := .collected D, args := #[] }], W0, { target := .fn (.func gf) lb, args := #[.func (.yield (D + 1)) #[] #[]] }, W0, gf, #[.func (.yield (D + 1)) #[] #[]] ++ lb, W0, ?_, ?_, ?_, ?_, fun h => (by simp [Fence.wide] at h), ?_⟩
  · rw [← hW0, hrc, ← hD]; exact run_enterLoop_outer _ _ _ _ _
  · simp only [resolve, hg]
    simp [go_sem]
  · intro _ _; trivial
  · simp [invoke, go_sem, eg]
  have wd : ∀ l, (Fence.wide.inRound l).depth = none := fun _ => rfl
  refine (callsIn_n (hseq (D + 1) J Jx (fun k => A k ∨ k = D ∨ k = D + 1) W0 ?_ (hz0 ▸ hJ) (hz0 ▸ hJx) ?_ ?_)).mono ?_
  · intro k hk
    obtain ⟨e1, e2, e3⟩ := hQ k hk
    refine ⟨((hk0 (fun _ => False)).same k (by omega) (fun h => h)).trans e1, ?_, by omega⟩
    rintro (h | rfl | rfl)
    · exact e2 h
    · omega
    · omega
  · -- one round
    rintro pre x vs B1 W1 hpre hE htr ⟨A1, hB1, n1, n2, hi, hd, hl⟩
    obtain rfl : B1 = fun k => A1 k ∨ k = D ∨ k = D + 1 := funext fun k => propext (hB1 k)
    clear hB1
    have hy := run_yield (P := P) (args := vs) hl (by rw [hrc]; exact hps x vs W1 hE)
    have t1 : ¬ tr vs D := fun h => (htr D h).1 (.inr (.inl rfl))
    have t2 : ¬ tr vs (D + 1) := fun h => (htr (D + 1) h).1 (.inr (.inr rfl))
    rw [hrc] at hy
    refine ⟨fn, _, assign, body, hy, roundIn_of_wpIn trivial (wp_n (n := n - 1 - 1) (wd _) ?_)⟩
    clear hy
    have hld : D + 1 < W1.heap.size := (Array.getElem?_eq_some_iff.1 hl).1
    refine hassign (D + 1) pre x vs A1 W1 _ hpre hE (fun k hk => ⟨fun h => (htr k hk).1 (.inl h), (htr k hk).2.1, by have := (htr k hk).2.2; omega⟩) hi ?_
    intro a2 A2 W2 hr2 hax
    have hd2 := hr2.keeps.obj hd (fun h => h.elim n1 t1)
    have hl2 := hr2.keeps.obj hl (fun h => h.elim n2 t2)
    have m1 : ¬ A2 D := hr2.not n1 t1 (by omega)
    have m2 : ¬ A2 (D + 1) := hr2.not n2 t2 (by omega)
    have hsz2 := hr2.keeps.size
    refine ⟨_, run_beginRound hl2 (by rw [hrc]), ?_⟩
    obtain ⟨W3, hW3⟩ : ∃ W3, W2.putObj (D + 1) (.loop { rc .ready none with state := .busy }) = W3 := ⟨_, rfl⟩
    rw [hW3]
    have hl3 : W3.heap[D + 1]? = some (.loop { rc .ready none with state := .busy }) := by rw [← hW3]; exact World.putObj_heap_same (by omega)
    have hd3 : W3.heap[D]? = some (.deferred (some [])) := by rw [← hW3]; exact (World.putObj_heap_other (by omega)).trans hd2
    have hk23 : ∀ B : Foot, B (D + 1) → Keeps B W2 W3 := fun B hB => by rw [← hW3]; exact (Keeps.refl B W2).putObj _ _ hB
    have hax3 : Ax pre x a2 A2 W3 := (hAx pre x a2).abide () _ _ _ hax (hk23 _ ⟨by omega, m2⟩)
    have hsz3 : W3.heap.size = W2.heap.size := by rw [← hW3]; simp
    refine wp_n (n := n - 1 - 1) (wd _) (wpIn_mono (hbody (D + 1) pre x a2 A2 W3 (by omega) m2 ⟨_, hl3⟩ hpre hax3) ?_)
    have r1 : RoundT (tr vs) (fun k => A1 k ∨ k = D ∨ k = D + 1) (fun k => A2 k ∨ k = D ∨ k = D + 1) W1 W3 :=
      hr2.more.then (Round.same (hk23 _ (.inr (.inr rfl))))
    -- the round's end, whatever the jump
    have fin : ∀ (jump : Option Code) (A4 : Foot) (W4 : World), Round A2 A4 W3 W4 → ∃ W5,
        (Instr.endRound (D + 1) jump).run P W4 = .ok (.bool jump.isNone) W5 ∧ ¬ A4 D ∧ ¬ A4 (D + 1) ∧ W5.heap[D]? = some (.deferred (some [])) ∧
        W5.heap[D + 1]? = some (.loop (rc (if jump.isNone then .ready else .done) jump)) ∧ Keeps (fun k => D ≤ k ∧ ¬ A4 k) W4 W5 ∧
        RoundT (tr vs) (fun k => A1 k ∨ k = D ∨ k = D + 1) (fun k => A4 k ∨ k = D ∨ k = D + 1) W1 W5 := by
      intro jump A4 W4 hr
      have hl4 := hr.keeps.obj hl3 m2
      have hd4 := hr.keeps.obj hd3 m1
      have hsz4 := hr.keeps.size
      have q1 : ¬ A4 D := hr.not m1 (by omega)
      have q2 : ¬ A4 (D + 1) := hr.not m2 (by omega)
      have he := run_endRound (P := P) jump hl4
      rw [hrc] at he ⊢
      exact ⟨_, he, q1, q2, (World.putObj_heap_other (by omega)).trans hd4, World.putObj_heap_same (by omega), (Keeps.refl _ _).putObj _ _ ⟨by omega, q2⟩,
        (r1.then hr.more).then (Round.same ((Keeps.refl _ _).putObj _ _ (.inr (.inr rfl))))⟩
    rintro e a4 W4 hp
    cases e with
    | normal =>
      obtain ⟨A4, hr, hi4⟩ := hp
      obtain ⟨W5, he, q1, q2, hd5, hl5, hk, hr5⟩ := fin none A4 W4 hr
      exact ⟨_, _, he, _, hr5, .inl ⟨rfl, A4, fun _ => Iff.rfl, q1, q2, hI.abide _ _ _ _ hi4 hk, hd5, hl5⟩⟩
    | ret =>
      obtain ⟨A4, hr, hi4⟩ := hp
      obtain ⟨W5, he, q1, q2, hd5, hl5, hk, hr5⟩ := fin (some .ret) A4 W4 hr
      exact ⟨_, _, he, _, hr5, .inr ⟨rfl, A4, _, fun _ => Iff.rfl, q1, q2, (hIx _).abide _ _ _ _ hi4 hk, hd5, hl5⟩⟩
    | exit id =>
      obtain ⟨A4, hr, hi4⟩ := hp
      obtain ⟨W5, he, q1, q2, hd5, hl5, hk, hr5⟩ := fin (some (.exit id)) A4 W4 hr
      exact ⟨_, _, he, _, hr5, .inr ⟨rfl, A4, _, fun _ => Iff.rfl, q1, q2, (hIx _).abide _ _ _ _ hi4 hk, hd5, hl5⟩⟩
    | goto t =>
      obtain ⟨A4, hr, hi4⟩ := hp
      obtain ⟨W5, he, q1, q2, hd5, hl5, hk, hr5⟩ := fin (some (.goto t)) A4 W4 hr
      exact ⟨_, _, he, _, hr5, .inr ⟨rfl, A4, _, fun _ => Iff.rfl, q1, q2, (hIx _).abide _ _ _ _ hi4 hk, hd5, hl5⟩⟩
    | panic ch => exact hp.elim
    | outgrown => exact hp.elim
  · refine ⟨A, fun _ => Iff.rfl, fun h => ?_, fun h => ?_, hI.abide _ _ _ _ h0 (hk0 _), hkD, hkL⟩
    · have := hA0 _ h; omega
    · have := hA0 _ h; omega
  · -- behind the iterator
    rintro e W2 ⟨⟨v, rfl⟩, B2, (⟨A2, hB2, q1, q2, hi, hd, hl⟩ | ⟨pre, hpre, A2, c, hB2, q1, q2, hi, hd, hl⟩)⟩
    · have he := run_endLoop (P := P) hl (by rw [hrc]; simp)
      rw [hrc] at he
      exact ⟨none, _, he, hdone D A2 _ (Nat.le_refl _) q1 (hI.abide _ _ _ _ hi ((Keeps.refl _ _).putObj _ _ ⟨by omega, q2⟩)) ((World.putObj_heap_other (by omega)).trans hd)⟩
    · have he := run_endLoop (P := P) hl (by rw [hrc]; simp)
      rw [hrc] at he
      exact ⟨some c, _, he, hstop D c pre A2 _ (Nat.le_refl _) q1 hpre ((hIx c).abide _ _ _ _ hi ((Keeps.refl _ _).putObj _ _ ⟨by omega, q2⟩)) ((World.putObj_heap_other (by omega)).trans hd)⟩
end
end Go.Proofs.YtjoablphojkimaaGreatDoor
