/-
 The laws of package wide: an integer of the package for one of the reference (wider), and that both have one text (equal).
 The laws of package wide: the examples of the chapter (lives).
-/
import Derived.Test.YtepakogbbomaoaaGreatDoorTxHO
import Derived.Test.YtepakogbbomaoaaGreatDoorTxAO
import Derived.Test.YtepakogbbomaoaaGreatDoorNmQO
import Derived.Test.YtepakogbbomaoaaGreatDoorBgIO
import Derived.Test.YtepakogbbomaoaaGreatDoorBgOO
namespace Go.Proofs.YtepakogbbomaoaaGreatDoor
open Go.RowKit Go.Shelf
set_option linter.unusedVariables false
set_option maxRecDepth 100000
structure Small (n : Int) : Prop where
 notBig : ¬ big n
 digs : (digs n.natAbs).length ≤ 400000
 text : (txtN n).length ≤ 5000
theorem Small.words {n : Int} (h : Small n) : (digsW n.natAbs).length ≤ 400000 := by
 have := h.notBig
 unfold big at this
 omega
theorem two_ten {k m : Nat} (hk : k = 16384) (hm : m = 4950) : 2 ^ k < 10 ^ m := by subst hk; subst hm; decide +kernel
theorem two_four {k m : Nat} (hk : k = 16384) (hm : m = 5000) : 2 ^ k < 10000 ^ m := by subst hk; subst hm; decide +kernel
theorem small_lt {n : Int} {k : Nat} (hk : k = 16384) (h : n.natAbs < 2 ^ k) : Small n := by
 refine ⟨fun hb => ?_, ?_, ?_⟩
 ·have := (big_pow (n := n) (k := k) (m := 512) rfl (by rw [hk])).1 hb
  omega
 ·obtain ⟨m, hm⟩ : ∃ m, m = 5000 := ⟨_, rfl⟩
  have := digs_len_le (Nat.lt_trans h (two_four hk hm))
  omega
 ·obtain ⟨m, hm⟩ : ∃ m, m = 4950 := ⟨_, rfl⟩
  have := txtN_len (n := n) (Nat.lt_trans h (two_ten hk hm)) (by omega)
  omega
theorem small_of {n : Int} {K : Nat} (h : n.natAbs ≤ 2 ^ K) (hK : K ≤ 16000) : Small n := by
 obtain ⟨k, hk⟩ : ∃ k, k = 16384 := ⟨_, rfl⟩
 exact small_lt hk (Nat.lt_of_le_of_lt h (Nat.pow_lt_pow_right (by decide) (by omega)))
def IBox (W : World) (b : Nat) (n : Int) : Prop := ∃ (s : Bool) (a : Option Addr) (m c : Nat), Laid W b 32 [.bool s, .slice a m c] ∧ IAt W (.agg #[.bool s, .slice a m c]) n
theorem IBox.below {W W2 : World} {b : Nat} {n : Int} (h : IBox W b n) (hb : Below W.heap.size W W2) : IBox W2 b n := by
 obtain ⟨s, a, m, c, h1, h2⟩ := h
 exact ⟨s, a, m, c, h1.below hb, iat_keeps h2 hb⟩
theorem IBox.lt {W : World} {b : Nat} {n : Int} (h : IBox W b n) : b < W.heap.size := by obtain ⟨_, _, _, _, h, _⟩ := h; exact h.lt
theorem IBox.new {W : World} {n : Int} {s : Bool} {a : Option Addr} {m c : Nat} (hx : IAt W (.agg #[.bool s, .slice a m c]) n) : IBox (W.alloc (.cells #[.bool s, .slice a m c] 32)) W.heap.size n :=
 ⟨s, a, m, c, Laid.new _ _ _, iat_keeps hx ((Below.refl _ _).alloc (Nat.le_refl _) _)⟩
theorem IBox.open {W : World} {b : Nat} {n : Int} (h : IBox W b n) : ∃ (s : Bool) (a : Option Addr) (m c : Nat), (W.cell? ⟨b, 0, none⟩ = some (.bool s) ∧ W.cell? ⟨b, 1, none⟩ = some (.slice a m c)) ∧ IAt W (.agg #[.bool s, .slice a m c]) n := by
 obtain ⟨s, a, m, c, h1, h2⟩ := h
 obtain ⟨e1, e2, _, _⟩ := cells2 h1
 exact ⟨s, a, m, c, ⟨e1, e2⟩, h2⟩
theorem below_one (W : World) (o : Obj) : Below W.heap.size W (W.alloc o) := (Below.refl _ W).alloc (Nat.le_refl _) _
theorem ibox_two {W : World} {n m : Int} {s t : Bool} {a b : Option Addr} {i j c d : Nat} (hx : IAt W (.agg #[.bool s, .slice a i c]) n) (hy : IAt W (.agg #[.bool t, .slice b j d]) m) :
  IBox ((W.alloc (.cells #[.bool s, .slice a i c] 32)).alloc (.cells #[.bool t, .slice b j d] 32)) W.heap.size n ∧ IBox ((W.alloc (.cells #[.bool s, .slice a i c] 32)).alloc (.cells #[.bool t, .slice b j d] 32)) (W.heap.size + 1) m ∧ Below W.heap.size W ((W.alloc (.cells #[.bool s, .slice a i c] 32)).alloc (.cells #[.bool t, .slice b j d] 32)) := by
 refine ⟨(IBox.new hx).below (below_one _ _), ?_, below_then (below_one _ _) (below_one _ _)⟩
 have := IBox.new (iat_keeps hy (below_one W (.cells #[.bool s, .slice a i c] 32)))
 simpa using this
theorem numT_ok {c : Nat} {l : List Nat} (h : ∀ x ∈ c :: l, 48 ≤ x ∧ x ≤ 57) (h0 : c = 48 → l = []) : numT (c :: l) := by
 refine ⟨by simp, fun x hx => h x hx, fun e => ?_⟩
 have : c = 48 := by simpa using e
 rw [h0 this]; rfl
theorem small_big {n : Int} {K : Nat} (h : n.natAbs ≤ 2 ^ K) (hK : K ≤ 16000) : ¬ big n := (small_of h hK).notBig
end Go.Proofs.YtepakogbbomaoaaGreatDoor
