/-
  Numbers in memory away from a disk: what a disk's steps leave of them. Two results of a drawn region into two variables.
-/
import Derived.Test.YtjoablphojkimaaGreatDoorDnA
import Derived.Test.YtjoablphojkimaaGreatDoorCmn
import Derived.Deep.RegionHeld3
namespace Go.Proofs.YtjoablphojkimaaGreatDoor
open Go.RowKit Go.Shelf
set_option linter.unusedVariables false
set_option maxRecDepth 100000

/-- No words lie in the blocks A. -/
def FarN (W : World) (A : Foot) : Prop := ∀ v z zs, Row .u32 W v (z :: zs) → ∀ k, blockOf v k → ¬ A k
theorem row_here {W : World} {v : Value} {z : Int} {zs : List Int} (h : Row .u32 W v (z :: zs)) {k : Nat} (hk : blockOf v k) : ∃ off u, W.cell? ⟨k, off, none⟩ = some (.int .u32 u) := by
  obtain ⟨a, cap, rfl, _, _, hne, _⟩ := h
  obtain ⟨b, off, rfl, hc⟩ := hne (by simp)
  obtain rfl : k = b := hk
  exact ⟨off + 0, _, hc 0 (by simp)⟩
theorem new_far (w : World) : Calls Tryz.prog 5 #[.int .i64 20000] w fun e w' =>
    ∃ d A, e = .returned (.tuple #[.pointer (some ⟨d, 0, none⟩), .int .i64 0]) ∧ Dsk w.heap.size w' A d 20000 pNew ∧ Below w.heap.size w w' ∧ ∀ W, Below w'.heap.size w' W → FarN W A := by
  refine (new_any 20000 w).mono ?_
  rintro e w' ⟨_, h2⟩
  obtain ⟨d, b, he, hd, hd1, hb1, hb⟩ := h2 (by decide)
  have hdl := hd.dk.lt
  have hbl : b < w'.heap.size := by
    obtain ⟨es, clock, hm, _⟩ := hd.mp
    exact (Array.getElem?_eq_some_iff.1 hm).1
  refine ⟨d, fun k => k = d ∨ k = b, he, ⟨dks_of hd (fun k => rfl) (fun k => rfl) (fun k hk => ?_), fun k hk => by omega, fun k hk => by omega⟩, hb, fun W hW v z zs hr k hk hA => ?_⟩
  · rcases hk with h | h | ⟨f, hf, _⟩
    · exact .inl h
    · exact .inr h
    · simp at hf
  · obtain ⟨off, u, hc⟩ := row_here hr hk
    rcases hA with rfl | rfl
    · have h1 := (hd.dk.below hW).cell off
      rw [hc] at h1
      rcases off with _ | _ | _ | _ | off
      · simp at h1
      · simp at h1
      · simp at h1
      · simp at h1
      · simp at h1
    · obtain ⟨es, clock, hm, _⟩ := hd.mp
      have h1 := (Keeps.of_below hW).obj hm (by omega)
      unfold World.cell? at hc
      simp [h1] at hc
/-- A number in a variable, none of it in the blocks A. -/
def NumFar (W : World) (A : Foot) (t : Nat) (n : Int) : Prop := ∃ s a m c, Laid W t 29 [.bool s, .slice a m c] ∧ IAt W (.agg #[.bool s, .slice a m c]) n ∧ ¬ A t ∧ (digsW n.natAbs = [] ∨ ∀ k, blockOf (.slice a m c) k → ¬ A k)
section
variable {W W2 : World} {A A2 : Foot} {t : Nat} {n : Int}
theorem NumFar.of (h : IBox W t n) (hf : FarN W A) (ht : ¬ A t) : NumFar W A t n := by
  obtain ⟨s, a, m, c, h1, h2⟩ := h
  refine ⟨s, a, m, c, h1, h2, ht, ?_⟩
  obtain ⟨v, e, hr⟩ := h2
  injection e with e
  obtain rfl : v = .slice a m c := (by have e2 := congrArg Array.toList e; simp at e2; exact e2.2.symm)
  cases hz : natI (digsW n.natAbs) with
  | nil =>
    refine .inl ?_
    unfold natI at hz
    exact List.map_eq_nil_iff.1 hz
  | cons z zs =>
    rw [hz] at hr
    exact .inr (hf _ _ _ hr)
theorem NumFar.box (h : NumFar W A t n) : IBox W t n := by
  obtain ⟨s, a, m, c, h1, h2, _⟩ := h
  exact ⟨s, a, m, c, h1, h2⟩
theorem row_nil {k : IntKind} {v : Value} (h : Row k W v []) : Row k W2 v [] := by
  obtain ⟨a, cap, h1, h2, h3, _, h5⟩ := h
  exact ⟨a, cap, h1, h2, h3, fun h => absurd rfl h, h5⟩
theorem NumFar.step (h : NumFar W A t n) (hk : Keeps A W W2) (hf : ∀ k, A2 k → A k ∨ W.heap.size ≤ k) : NumFar W2 A2 t n := by
  obtain ⟨s, a, m, c, h1, ⟨v, e, hr⟩, ht, hb⟩ := h
  injection e with e
  obtain rfl : v = .slice a m c := (by have e2 := congrArg Array.toList e; simp at e2; exact e2.2.symm)
  have hr2 : Row .u32 W2 (.slice a m c) (natI (digsW n.natAbs)) := by
    rcases hb with hb | hb
    · rw [hb] at hr ⊢
      exact row_nil hr
    · exact row_foot hr hk hb
  refine ⟨s, a, m, c, h1.keeps hk ht, ⟨_, congrArg Value.agg e, hr2⟩, fun h => (hf t h).elim ht (fun h3 => by have := h1.lt; omega), ?_⟩
  rcases hb with hb | hb
  · exact .inl hb
  · cases hz : natI (digsW n.natAbs) with
    | nil =>
      refine .inl ?_
      unfold natI at hz
      exact List.map_eq_nil_iff.1 hz
    | cons z zs =>
      rw [hz] at hr
      refine .inr (fun k hk h => (hf k h).elim (hb k hk) (fun h3 => ?_))
      obtain ⟨off, u, hc⟩ := row_here hr hk
      have := World.block_lt_of_cell? _ _ hc
      have h4 : k < W.heap.size := this
      omega
theorem NumFar.below (h : NumFar W A t n) (hb : Below W.heap.size W W2) : NumFar W2 A t n := by
  obtain ⟨s, a, m, c, h1, h2, h3, h4⟩ := h
  exact ⟨s, a, m, c, h1.below hb, iat_keeps h2 hb, h3, h4⟩
/-- Bytes of one's own away from A. -/
structure FarB (W : World) (A : Foot) (v : Value) (l : List Int) : Prop where
  row : Fresh 0 5 .u8 W v l
  away : ∀ j, v.ownBlock = some j → ¬ A j
theorem FarB.below {v : Value} {l : List Int} (h : FarB W A v l) (hb : Below W.heap.size W W2) : FarB W2 A v l := ⟨own_foot2 h.row (Keeps.of_below hb) (fun j hj hn => by have := (h.row.lt j hj).2; omega), h.away⟩
theorem FarB.keeps {v : Value} {l : List Int} (h : FarB W A v l) (hk : Keeps A W W2) (hf : ∀ k, A2 k → A k ∨ W.heap.size ≤ k) : FarB W2 A2 v l := ⟨own_foot2 h.row hk h.away, fun j hj h2 => (hf j h2).elim (h.away j hj) (fun h3 => by have := (h.row.lt j hj).2; omega)⟩
end
/-- A disk and two numbers away from it. -/
structure DN (n : Nat) (W : World) (A : Foot) (d : Nat) (s : St) (ta tp : Nat) (a p : Int) : Prop where
  dk : Dsk n W A d 20000 s
  na : NumFar W A ta a
  np : NumFar W A tp p
section
variable {n : Nat} {W W2 : World} {A A2 : Foot} {d ta tp : Nat} {s s2 : St} {a p : Int}
theorem DN.below (h : DN n W A d s ta tp a p) (hb : Below W.heap.size W W2) : DN n W2 A d s ta tp a p := ⟨h.dk.below hb, h.na.below hb, h.np.below hb⟩
theorem DN.step (h : DN n W A d s ta tp a p) (hu : UpS W A d 20000 s2 W2) (hn : n ≤ W.heap.size) : ∃ A2, DN n W2 A2 d s2 ta tp a p ∧ Keeps A W W2 ∧ (∀ k, A2 k → A k ∨ W.heap.size ≤ k) ∧ Below n W W2 := by
  obtain ⟨A2, hd, hk, hf, hb⟩ := h.dk.up hu hn
  exact ⟨A2, ⟨hd, h.na.step hk hf, h.np.step hk hf⟩, hk, hf, hb⟩
end
theorem below_cutN {a b c : World} (h : Below a.heap.size a b) (k : Below b.heap.size b c) : Below a.heap.size a c := h.trans (k.mono h.size)

/-- Two variables of new integers, and all else as it was. -/
def TwoI (W F : World) (p q : Nat) (a b : Int) : Prop := IBox F p a ∧ IBox F q b ∧ Below W.heap.size W F
theorem twoi_end {W F : World} {p q : Nat} {a b : Int} (h : TwoI W F p q a b) : ∃ p2 q2 : Nat, Value.pointer (some ⟨p, 0, none⟩) = .pointer (some ⟨p2, 0, none⟩) ∧ Value.pointer (some ⟨q, 0, none⟩) = .pointer (some ⟨q2, 0, none⟩) ∧ Hid (IBox F p2 a) ∧ Hid (IBox F q2 b) ∧ Hid (Below W.heap.size W F) := ⟨p, q, rfl, rfl, Lib.hid h.1, Lib.hid h.2.1, Lib.hid h.2.2⟩
theorem twoi_end2 {W F : World} {p q : Nat} {a b : Int} (h : TwoI W F q p b a) : ∃ p2 q2 : Nat, Value.pointer (some ⟨p, 0, none⟩) = .pointer (some ⟨p2, 0, none⟩) ∧ Value.pointer (some ⟨q, 0, none⟩) = .pointer (some ⟨q2, 0, none⟩) ∧ Hid (IBox F p2 a) ∧ Hid (IBox F q2 b) ∧ Hid (Below W.heap.size W F) := ⟨p, q, rfl, rfl, Lib.hid h.2.1, Lib.hid h.1, Lib.hid h.2.2⟩
theorem below_setI {W X : World} {p : Nat} {u v : Value} (h : Below W.heap.size W X) (hp : W.heap.size ≤ p) : Below W.heap.size W ((X.setCell ⟨p, 0, none⟩ u).setCell ⟨p, 1, none⟩ v) := (h.setCell (p := ⟨p, 0, none⟩) hp _).setCell (p := ⟨p, 1, none⟩) hp _
theorem ibox_zero2 (W : World) : IBox ((W.alloc (.cells #[.bool false, .slice none 0 0] 29)).alloc (.cells #[.bool false, .slice none 0 0] 29)) W.heap.size 0 ∧ IBox ((W.alloc (.cells #[.bool false, .slice none 0 0] 29)).alloc (.cells #[.bool false, .slice none 0 0] 29)) (W.heap.size + 1) 0 :=
  ⟨(ibox_two (iat_zero W) (iat_zero W)).1, (ibox_two (iat_zero W) (iat_zero W)).2.1⟩
section
variable {W w10 : World} {a b : Int} {s t : Bool} {x y : Option Addr} {i j c d : Nat}
theorem twoi_two (hx : IAt w10 (.agg #[.bool s, .slice x i c]) a) (hy : IAt w10 (.agg #[.bool t, .slice y j d]) b) (hb : Below W.heap.size W w10) :
    TwoI W ((w10.alloc (.cells #[.bool s, .slice x i c] 29)).alloc (.cells #[.bool t, .slice y j d] 29)) w10.heap.size (w10.heap.size + 1) a b :=
  ⟨(ibox_two hx hy).1, (ibox_two hx hy).2.1, below_then (below_then hb (below_one _ _)) (below_one _ _)⟩
theorem twoi_pre1 {p : Nat} (h0 : IBox w10 p 0) (hp : W.heap.size ≤ p) (hx : IAt w10 (.agg #[.bool s, .slice x i c]) a) (hy : IAt w10 (.agg #[.bool t, .slice y j d]) b) (hb : Below W.heap.size W w10) :
    TwoI W (((w10.setCell ⟨p, 0, none⟩ (.bool s)).setCell ⟨p, 1, none⟩ (.slice x i c)).alloc (.cells #[.bool t, .slice y j d] 29)) p w10.heap.size a b := by
  have k0 := h0.store hx
  obtain ⟨_, _, _, _, l0, _⟩ := h0
  have hy2 : IAt ((w10.setCell ⟨p, 0, none⟩ (.bool s)).setCell ⟨p, 1, none⟩ (.slice x i c)) (.agg #[.bool t, .slice y j d]) b := iat_set (iat_set hy l0 0 _) (l0.set 0 _) 1 _
  have k1 := IBox.new hy2
  simp only [World.size_setCell] at k1
  exact ⟨k0.below (below_one _ _), k1, below_then (below_setI hb hp) (below_one _ _)⟩
theorem twoi_pre2 {p q : Nat} (h0 : IBox w10 p 0) (h1 : IBox w10 q 0) (hp : W.heap.size ≤ p) (hq : W.heap.size ≤ q) (hx : IAt w10 (.agg #[.bool s, .slice x i c]) a) (hy : IAt w10 (.agg #[.bool t, .slice y j d]) b) (hb : Below W.heap.size W w10) (hne : p ≠ q) :
    TwoI W ((((w10.setCell ⟨p, 0, none⟩ (.bool s)).setCell ⟨p, 1, none⟩ (.slice x i c)).setCell ⟨q, 0, none⟩ (.bool t)).setCell ⟨q, 1, none⟩ (.slice y j d)) p q a b := by
  have k0 := h0.store hx
  have k1 := h0.other h1 (Ne.symm hne) (s := s) (a := x) (m := i) (c := c)
  obtain ⟨_, _, _, _, l0, _⟩ := h0
  have hy2 : IAt ((w10.setCell ⟨p, 0, none⟩ (.bool s)).setCell ⟨p, 1, none⟩ (.slice x i c)) (.agg #[.bool t, .slice y j d]) b := iat_set (iat_set hy l0 0 _) (l0.set 0 _) 1 _
  exact ⟨k1.other k0 hne, k1.store hy2, (((hb.setCell (p := ⟨p, 0, none⟩) hp _).setCell (p := ⟨p, 1, none⟩) hp _).setCell (p := ⟨q, 0, none⟩) hq _).setCell (p := ⟨q, 1, none⟩) hq _⟩
end
end Go.Proofs.YtjoablphojkimaaGreatDoor
