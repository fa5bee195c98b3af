/-
 FracWritten: its facts: two texts behind one another, Parse of a text, equality by the comparison, what Sub returns.
-/
import Derived.Test.YtepakogbbomaoaaGreatDoorOrdW
import Derived.Test.YtepakogbbomaoaaGreatDoorDvBW
namespace Go.Proofs.YtepakogbbomaoaaGreatDoor
open Go.RowKit Go.Shelf
set_option linter.unusedVariables false
set_option maxRecDepth 100000
theorem str_back (s : ByteArray) : strOfNums (natI (strB s)) = s := strB_inj (strB_nums (strB_lt s))
structure TwoTexts (S T : ByteArray) (L M : List Nat) : Prop where
 lt : ∀ c ∈ L, c < 256
 len : L.length ≤ 5000
 pos : 1 ≤ L.length
 one : rRaw (L, 0) = (strB S, (M, 0))
 two : rRaw (M, 0) = (strB T, ([], 0))
 m8 : ∀ c ∈ M, c < 256
theorem two_texts (S T : ByteArray) (hs : S.size ≤ 2000) (ht : T.size ≤ 2000) : TwoTexts S T (([] ++ (varN S.size ++ strB S)) ++ (varN T.size ++ strB T)) (varN T.size ++ strB T) := by
 have h1 := varN_len10 (n := S.size) (by omega)
 have h2 := varN_len10 (n := T.size) (by omega)
 have h3 := varN_pos S.size
 have h4 := strB_length S
 have h5 := strB_length T
 have m8 : ∀ c ∈ varN T.size ++ strB T, c < 256 := fun c hc => by
  rcases List.mem_append.1 hc with hc | hc
  ·exact varN_lt _ c hc
  ·exact strB_lt T c hc
 refine ⟨fun c hc => ?_, ?_, ?_, ?_, ?_, m8⟩
 ·rw [List.nil_append] at hc
  rcases List.mem_append.1 hc with hc | hc
  ·rcases List.mem_append.1 hc with hc | hc
   ·exact varN_lt _ c hc
   ·exact strB_lt S c hc
  ·exact m8 c hc
 ·simp only [List.length_append, List.length_nil]; omega
 ·simp only [List.length_append, List.length_nil]; omega
 ·have := rRaw_round (l := strB S) (by omega) (varN T.size ++ strB T)
  rw [h4] at this
  rw [List.nil_append]
  exact this
 ·have := rRaw_round (l := strB T) (by omega) []
  rw [h5, List.append_nil] at this
  exact this
theorem parse_ftxt {p q : Int} (h : Nb p q) (hs : (fTxt p q).size ≤ 5000) (X : World) : Calls Tryz.prog 23 #[.string (fTxt p q)] X (VEnd (KTF (0, p, q)) X) :=
 (fParse_any _ X hs).mono (fun e w' k => by
  rcases k with ⟨p', q', h', k⟩ | ⟨h', _⟩
  ·obtain ⟨rfl, rfl⟩ := ftext_uniq (ftext_of h) h'
   exact k
  ·exact absurd (ftext_of h) (h' _ _))
theorem eq_ftxt {p q r s : Int} (h : Nb p q) (k : Nb r s) {b : Bool} (hb : (cmpF (p * s) (r * q) == 0) = b) (X : World) (u v : Value) (hu : FAt X u p q) (hv : FAt X v r s) : Calls Tryz.prog 11 #[u, v] X (VEnd (KX (.bool b)) X) := by
 have := lEqual_any u v p q r s X hu hv h.fine k.fine
 rwa [txt_cmp h k, hb] at this
structure DifIs (p q r s n c z : Int) : Prop where
 same : c = 0 → z = 0 ∧ p = r ∧ q = s
 diff : c ≠ 0 → z ≠ 0
def SgnC (n d z : Int) : Prop := ∀ (X : World) (u : Value), FAt X u n d → Calls Tryz.prog 7 #[u] X (VEnd (KX (.int .i64 z)) X)
theorem dif_is {K : Nat} {p q r s : Int} (h : FV K p q p q) (k : FV K r s r s) (hK : K ≤ 7000) : ∃ n d c z, DifIs p q r s n c z ∧ BinC 26 p q r s (0, n, d) ∧ SgnC n d z ∧ CmpC p q r s c ∧ cmpF (p * s) (r * q) = c := by
 obtain ⟨n, d, hv, hs⟩ := fsub_v h k hK hK
 have hz := is_zero hv.is
 refine ⟨n, d, cmpF (p * s) (r * q), cmpZ n 0, ⟨fun hc => ?_, fun hc hz2 => hc ?_⟩, hs, fun X u hu => ?_, cmp_fv h k (by omega) h.is.low.pos k.is.low.pos, rfl⟩
 ·have e := cmpF_nil.1 hc
  obtain ⟨e1, e2⟩ := is_eq h.is k.is e
  have : n = 0 := hz.2 (by omega)
  exact ⟨by rw [cmpZF]; exact cmpF_nil.2 this, e1, e2⟩
 ·rw [cmpZF] at hz2
  have := hz.1 (cmpF_nil.1 hz2)
  exact cmpF_nil.2 (by omega)
 ·exact (fSign_any u n d X hu (hv.fine (by omega)).len).mono (fun _ _ => v_c)
def FarW (W : World) (A : Foot) : Prop := ∀ v z zs, Row .u32 W v (z :: zs) → ∀ k, blockOf v k → ¬ A k
theorem rx_farW {W : World} {r b : Nat} {s : RS} (h : Rx W r b s) : FarW W (fun k => k = r) := by
 obtain ⟨l', ⟨v, hl, _, _, _, _, hp⟩, _⟩ := h
 intro v2 z zs hr k hk e
 subst e
 obtain ⟨off, u, hc⟩ : ∃ off u, W.cell? ⟨k, off, none⟩ = some (.int .u32 u) := by
  obtain ⟨a, cap, rfl, _, _, hne, _⟩ := hr
  obtain ⟨b, off, rfl, hc⟩ := hne (by simp)
  obtain rfl : k = b := hk
  exact ⟨off + 0, _, hc 0 (by simp)⟩
 have h1 := hl.cell off
 rw [hc] at h1
 rcases off with _ | _ | off
 ·rcases hp with rfl | ⟨_, _, _, _, rfl⟩ <;> simp at h1
 ·simp at h1
 ·simp at h1
theorem iat_farW {W W2 : World} {A : Foot} {x : Value} {n : Int} (h : IAt W x n) (hf : FarW W A) (hk : Keeps A W W2) : IAt W2 x n := by
 obtain ⟨v, e, hr⟩ := h
 refine ⟨v, e, ?_⟩
 cases hz : natI (digsW n.natAbs) with
 | nil =>
  rw [hz] at hr
  obtain ⟨a, cap, h1, h2, h3, _, h5⟩ := hr
  exact ⟨a, cap, h1, h2, h3, fun h => absurd rfl h, h5⟩
 | cons z zs =>
  rw [hz] at hr
  exact row_foot hr hk (hf _ _ _ hr)
theorem fbox_farW {W W2 : World} {A : Foot} {t : Nat} {p q : Int} (h : FBox W t p q) (hf : FarW W A) (hk : Keeps A W W2) (ht : ¬ A t) : FBox W2 t p q := by
 obtain ⟨s, t0, a, a', m, n, c, d, hl, s2, t2, a2, b2, m2, n2, c2, d2, e, h1, h2⟩ := h
 exact ⟨s, t0, a, a', m, n, c, d, hl.keeps hk ht, s2, t2, a2, b2, m2, n2, c2, d2, e, iat_farW h1 hf hk, iat_farW h2 hf hk⟩
end Go.Proofs.YtepakogbbomaoaaGreatDoor
