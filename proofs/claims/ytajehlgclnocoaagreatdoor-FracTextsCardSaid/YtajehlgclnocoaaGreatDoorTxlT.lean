/-
 What the law FracTexts needs: bytes that a string was converted to (BA), strings in a slice (SRow), both packages' Parse side by side.
-/
import Derived.Test.YtajehlgclnocoaaGreatDoorRpaT
import Derived.Test.YtajehlgclnocoaaGreatDoorLfbT
namespace Go.Proofs.YtajehlgclnocoaaGreatDoor
open Go.RowKit Go.Shelf
set_option linter.unusedVariables false
set_option maxRecDepth 100000
def BA (W : World) (g n cap : Nat) : Prop := ∃ cs : Array Value, W.heap[g]? = some (.cells cs 5 (cap, cap + 1)) ∧ cs.size = cap ∧ n ≤ cap ∧ cap ≤ 9223372036854775807 ∧ ∀ j, j < n → ∃ x : Int, cs[j]? = some (.int .u8 x)
theorem ba_new (W : World) (s : ByteArray) (hs : s.size ≤ maxLen) : BA (Lib.bytesWorld W 5 s) W.heap.size s.size (grownCap W s.size 0 5) := by
 have h1 := grownCap_ge W s.size 0 5
 have h2 := grownCap_le_maxLen W s.size 0 5 hs
 have hsz : (Lib.bytesCells W 5 s).size = grownCap W s.size 0 5 := by
  have : s.data.size = s.size := rfl
  simp [Lib.bytesCells, this]
  omega
 unfold maxLen at h2
 refine ⟨Lib.bytesCells W 5 s, ?_, hsz, h1, h2, fun j hj => ?_⟩
 ·rw [← hsz]
  exact Lib.bytesWorld_at_new W 5 s
 ·have hc := Lib.bytesWorld_cell W 5 s j hj
  have hb := Lib.bytesWorld_at_new W 5 s
  rw [cell_of_row _ _ _ _ _ _ hb] at hc
  exact ⟨_, hc⟩
theorem BA.lt {W : World} {g n cap : Nat} (h : BA W g n cap) : g < W.heap.size := by obtain ⟨cs, h, _⟩ := h; exact (Array.getElem?_eq_some_iff.1 h).1
theorem BA.below {W W2 : World} {g n cap : Nat} (h : BA W g n cap) (hb : Below W.heap.size W W2) : BA W2 g n cap := by
 have hl := h.lt
 obtain ⟨cs, h1, h2⟩ := h
 exact ⟨cs, (hb.block g hl).trans h1, h2⟩
theorem BA.cell {W : World} {g n cap k : Nat} (h : BA W g n cap) (hk : k < n) : (∃ x : Int, W.cell? ⟨g, k, none⟩ = some (.int .u8 x)) ∧ W.frozen? ⟨g, k, none⟩ = false := by
 obtain ⟨cs, h1, h2, h3, _, h4⟩ := h
 obtain ⟨x, hx⟩ := h4 k hk
 refine ⟨⟨x, (cell_of_row _ _ _ _ _ _ h1).trans hx⟩, ?_⟩
 simp [World.frozen?, h1]
 omega
theorem BA.set {W : World} {g n cap k : Nat} (h : BA W g n cap) (hk : k < n) (b : Int) : BA (W.setCell ⟨g, k, none⟩ (.int .u8 b)) g n cap := by
 obtain ⟨cs, h1, h2, h3, h5, h4⟩ := h
 refine ⟨cs.setIfInBounds k (.int .u8 b), ?_, by rw [Array.size_setIfInBounds]; exact h2, h3, h5, fun j hj => ?_⟩
 ·rw [setCell_eq_setRow W g k cs _ _ _ h1]
  exact setRow_heap W g cs _ _ _ h1
 ·rcases Classical.em (k = j) with e | e
  ·subst e
   exact ⟨b, by rw [Array.getElem?_setIfInBounds, if_pos rfl, if_pos (by omega)]⟩
  ·rw [Array.getElem?_setIfInBounds, if_neg e]
   exact h4 j hj
theorem BA.far {W : World} {g n cap b k : Nat} (h : BA W g n cap) (hne : g ≠ b) (u : Value) : BA (W.setCell ⟨b, k, none⟩ u) g n cap := by
 obtain ⟨cs, h1, h2⟩ := h
 exact ⟨cs, (heap_setCell_other W ⟨b, k, none⟩ g u hne).trans h1, h2⟩
theorem BA.conv {W : World} {g n cap m : Nat} (h : BA W g n cap) (hm : m ≤ n) : ∃ C : ByteArray, C.size = m ∧ (convert 67 9 (.slice (some ⟨g, 0, none⟩) m cap)).run Tryz.prog W = .ok (.string C) W := by
 obtain ⟨cs, h1, h2, h3, h5, h4⟩ := h
 have hx : ∃ xs : List Int, xs.length = m ∧ ∀ j, j < m → W.cell? ⟨g, j, none⟩ = some (.int .u8 (xs[j]?.getD 0)) := by
  refine ⟨(List.range m).map (fun j => intOf (cs[j]?.getD undef)), by simp, fun j hj => ?_⟩
  obtain ⟨x, hx⟩ := h4 j (by omega)
  rw [cell_of_row _ _ _ _ _ _ h1, hx]
  simp [hj, hx, intOf]
 obtain ⟨xs, hl, hc⟩ := hx
 refine ⟨strOfNums xs, by rw [strOfNums_size]; exact hl, ?_⟩
 have hr : Row .u8 W (.slice (some ⟨g, 0, none⟩) m cap) xs := by
  subst hl
  exact ⟨_, _, rfl, by omega, h5, fun _ => ⟨g, 0, rfl, fun j hj => by rw [Nat.zero_add]; exact hc j hj⟩, fun h => by cases h⟩
 exact conv_string hr
def SRow (W : World) (b : Nat) (S : List ByteArray) : Prop := b < W.heap.size ∧ ∀ k z, S[k]? = some z → W.cell? ⟨b, k, none⟩ = some (.string z)
theorem srow_keeps {W W2 : World} {b : Nat} {S : List ByteArray} (h : SRow W b S) (hb : Below W.heap.size W W2) : SRow W2 b S :=
 ⟨Nat.lt_of_lt_of_le h.1 hb.size, fun k z hz => (hb.cell (p := ⟨b, k, none⟩) h.1).trans (h.2 k z hz)⟩
theorem srow_six (W : World) (s0 s1 s2 s3 s4 s5 : ByteArray) (t : TypeId) : SRow (W.alloc (.cells #[.string s0, .string s1, .string s2, .string s3, .string s4, .string s5] t)) W.heap.size [s0, s1, s2, s3, s4, s5] := by
 have hl := Laid.new W t [.string s0, .string s1, .string s2, .string s3, .string s4, .string s5]
 refine ⟨hl.lt, fun k z hz => ?_⟩
 match k, hz with
 | 0, hz => cases hz; exact hl.cell 0
 | 1, hz => cases hz; exact hl.cell 1
 | 2, hz => cases hz; exact hl.cell 2
 | 3, hz => cases hz; exact hl.cell 3
 | 4, hz => cases hz; exact hl.cell 4
 | 5, hz => cases hz; exact hl.cell 5
theorem strs6 {z0 z1 z2 z3 z4 z5 : ByteArray} {Q : ByteArray → Prop} (h0 : Q z0) (h1 : Q z1) (h2 : Q z2) (h3 : Q z3) (h4 : Q z4) (h5 : Q z5) : ∀ k, k < 6 → ∃ z, [z0, z1, z2, z3, z4, z5][k]? = some z ∧ Q z := by
 intro k hk
 match k, hk with
 | 0, _ => exact ⟨z0, rfl, h0⟩
 | 1, _ => exact ⟨z1, rfl, h1⟩
 | 2, _ => exact ⟨z2, rfl, h2⟩
 | 3, _ => exact ⟨z3, rfl, h3⟩
 | 4, _ => exact ⟨z4, rfl, h4⟩
 | 5, _ => exact ⟨z5, rfl, h5⟩
def PP (S : ByteArray) (R : Int × Int × Int) : Prop := (∀ X : World, Calls Tryz.prog 49 #[.string S] X (VEnd (KTF R) X)) ∧ (∀ X : World, Calls Tryz.prog 51 #[.string S] X (VEnd (KTR R) X)) ∧ SameC R.2.1 R.2.2
theorem parse_both (S : ByteArray) (hs : S.size ≤ 5000) : ∃ R, PP S R ∧ ∀ p q, FText S p q → R = (0, p, q) := by
 rcases Classical.em (∃ p q, FText S p q) with ⟨p, q, h⟩ | hno
 ·refine ⟨(0, p, q), ⟨fun X => ?_, fun X => ?_, same_nb ⟨h.1, h.2.1, h.2.2.1⟩⟩, fun p' q' h' => ?_⟩
  ·refine (fParse_any S X hs).mono (fun e w' k => ?_)
   rcases k with ⟨p', q', h', k⟩ | ⟨h', _⟩
   ·obtain ⟨rfl, rfl⟩ := ftext_uniq h h'
    exact k
   ·exact absurd h (h' p q)
  ·refine (rParse_any S X hs).mono (fun e w' k => ?_)
   rcases k with ⟨p', q', h', k⟩ | ⟨h', _⟩
   ·obtain ⟨rfl, rfl⟩ := ftext_uniq h h'
    exact k
   ·exact absurd h (h' p q)
  ·obtain ⟨rfl, rfl⟩ := ftext_uniq h h'
   rfl
 ·refine ⟨(2, 0, 1), ⟨fun X => ?_, fun X => ?_, same_nb nb_zero⟩, fun p q h => absurd ⟨p, q, h⟩ hno⟩
  ·refine (fParse_any S X hs).mono (fun e w' k => ?_)
   rcases k with ⟨p', q', h', k⟩ | ⟨_, k⟩
   ·exact absurd ⟨p', q', h'⟩ hno
   ·exact k
  ·refine (rParse_any S X hs).mono (fun e w' k => ?_)
   rcases k with ⟨p', q', h', k⟩ | ⟨_, k⟩
   ·exact absurd ⟨p', q', h'⟩ hno
   ·exact k
theorem ftxt_size {p q : Int} {K : Nat} (hp : Lo K p) (hq : Lo K q) (hK : K ≤ 2000) : 1 ≤ (fTxt p q).size ∧ (fTxt p q).size ≤ 2000 := by
 have h1 := lo_dg2 hp
 have h2 := lo_dg2 hq
 have h3 := txt_dg (L := 160) (n := p) (by omega) (by decide)
 have h4 := txt_dg (L := 160) (n := q) (by omega) (by decide)
 have h5 : 1 ≤ (txtS p).size := by
  rw [← strB_length, strB_txt]
  rcases txt_good p with ⟨_, h, _⟩ | ⟨_, h, _⟩
  ·rw [h]; simp
  ·rw [h]; exact List.length_pos_iff.2 (decN_ne _)
 unfold fTxt
 split
 ·omega
 ·have h6 : (txtS p ++ slashS ++ txtS q).size = (txtS p).size + 1 + (txtS q).size := by
   rw [ByteArray.size_append, ByteArray.size_append]; rfl
  omega
theorem ftext_of {p q : Int} (h : Nb p q) : FText (fTxt p q) p q := ⟨h.low, h.n, h.d, strB_fTxt p q⟩
end Go.Proofs.YtajehlgclnocoaaGreatDoor
