/-
  The numbers of the reference's Crash: what is cut file by file, and the bit that is turned, byte by byte.
-/
import Derived.Test.YtadnbakniibmfaaRda
namespace Go.Proofs.Ytadnbakniibmfaa
open Go.RowKit Go.Shelf
set_option linter.unusedVariables false
set_option maxRecDepth 100000

theorem files_nodup (B : Nat → List Nat) : (filesB B).Nodup := List.Nodup.sublist List.filter_sublist List.nodup_range
theorem files_mem {B : Nat → List Nat} {k : Nat} : k ∈ filesB B ↔ k < 64 ∧ B k ≠ [] := by
  unfold filesB
  rw [List.mem_filter, List.mem_range]
  constructor
  · rintro ⟨h1, h2⟩
    exact ⟨h1, fun e => by rw [e] at h2; simp at h2⟩
  · rintro ⟨h1, h2⟩
    exact ⟨h1, by simpa using h2⟩
theorem files_len (B : Nat → List Nat) : (filesB B).length ≤ 64 := by
  unfold filesB
  exact Nat.le_trans (List.length_filter_le _ _) (by simp)
theorem idx_at {l : List Nat} (h : l.Nodup) {i : Nat} (hi : i < l.length) : l.idxOf l[i] = i := List.Nodup.idxOf_getElem h i hi

/-- The files' bytes behind i of the files. -/
def cutB (B : Nat → List Nat) (D : Nat → Nat) (keep : List Int) (i : Nat) : Nat → List Nat := fun k => if (filesB B).idxOf k < i then keepB B D keep k else B k
def lostAt (B : Nat → List Nat) (D : Nat → Nat) (keep : List Int) (j : Nat) : Nat := lostN (keepAt keep j) ((B ((filesB B).getD j 0)).length - D ((filesB B).getD j 0))
def lostTo (B : Nat → List Nat) (D : Nat → Nat) (keep : List Int) (i : Nat) : Nat := ((List.range i).map (lostAt B D keep)).sum
theorem lostTo_zero (B : Nat → List Nat) (D : Nat → Nat) (keep : List Int) : lostTo B D keep 0 = 0 := rfl
theorem lostTo_succ (B : Nat → List Nat) (D : Nat → Nat) (keep : List Int) (i : Nat) : lostTo B D keep (i + 1) = lostTo B D keep i + lostAt B D keep i := by
  unfold lostTo
  rw [List.range_succ, List.map_append, List.sum_append, List.map_singleton, List.sum_singleton]
theorem lostN_le (q : Int) (n : Nat) : lostN q n ≤ n := by unfold lostN; omega
theorem cutB_zero (B : Nat → List Nat) (D : Nat → Nat) (keep : List Int) : cutB B D keep 0 = B := by
  funext k; unfold cutB; rw [if_neg (Nat.not_lt_zero _)]
theorem cutB_at {B : Nat → List Nat} {D : Nat → Nat} {keep : List Int} {i : Nat} (hi : i < (filesB B).length) : cutB B D keep i (filesB B)[i] = B (filesB B)[i] := by
  unfold cutB; rw [idx_at (files_nodup B) hi, if_neg (Nat.lt_irrefl _)]
theorem cutB_succ {B : Nat → List Nat} {D : Nat → Nat} {keep : List Int} {i : Nat} (hi : i < (filesB B).length) :
    cutB B D keep (i + 1) = setB (cutB B D keep i) (filesB B)[i] ((B (filesB B)[i]).take (D (filesB B)[i] + lostAt B D keep i)) := by
  have hat : lostAt B D keep i = lostN (keepAt keep i) ((B (filesB B)[i]).length - D (filesB B)[i]) := by
    unfold lostAt; rw [List.getD_eq_getElem?_getD, List.getElem?_eq_getElem hi]; rfl
  funext k
  unfold setB cutB
  by_cases hk : k = (filesB B)[i]
  · rw [if_pos hk, hk, idx_at (files_nodup B) hi, if_pos (Nat.lt_succ_self i), hat]
    unfold keepB
    rw [idx_at (files_nodup B) hi]
  · rw [if_neg hk]
    have hne : (filesB B).idxOf k ≠ i := fun e => by
      apply hk
      have : (filesB B).idxOf k < (filesB B).length := by omega
      have h2 := List.getElem_idxOf this
      simp only [e] at h2
      exact h2.symm
    by_cases h1 : (filesB B).idxOf k < i
    · rw [if_pos h1, if_pos (by omega)]
    · rw [if_neg h1, if_neg (by omega)]
theorem cutB_end {B : Nat → List Nat} {D : Nat → Nat} {keep : List Int} (hfar : ∀ k, 64 ≤ k → B k = []) : cutB B D keep (filesB B).length = keepB B D keep := by
  funext k
  unfold cutB
  by_cases h : (filesB B).idxOf k < (filesB B).length
  · rw [if_pos h]
  · rw [if_neg h]
    have hn : k ∉ filesB B := fun hm => h (List.idxOf_lt_length_iff.2 hm)
    have hB : B k = [] := by
      by_cases hk : k < 64
      · exact Classical.byContradiction fun hne => hn (files_mem.2 ⟨hk, hne⟩)
      · exact hfar k (by omega)
    unfold keepB
    rw [hB, List.take_nil]
theorem keepB_len {B : Nat → List Nat} {D : Nat → Nat} {keep : List Int} {k : Nat} (hd : D k ≤ (B k).length) : (keepB B D keep k).length = D k + lostN (keepAt keep ((filesB B).idxOf k)) ((B k).length - D k) := by
  unfold keepB
  rw [List.length_take]
  have := lostN_le (keepAt keep ((filesB B).idxOf k)) ((B k).length - D k)
  omega
theorem keepB_nil {B : Nat → List Nat} {D : Nat → Nat} {keep : List Int} {k : Nat} (h : B k = []) : keepB B D keep k = [] := by
  unfold keepB; rw [h, List.take_nil]
theorem sum_filter0 (g : Nat → Nat) (p : Nat → Bool) : ∀ (l : List Nat), (∀ k ∈ l, p k = false → g k = 0) → (l.map g).sum = ((l.filter p).map g).sum
  | [], _ => rfl
  | k :: t, h => by
    have ih := sum_filter0 g p t (fun j hj => h j (List.mem_cons_of_mem _ hj))
    rw [List.map_cons, List.sum_cons, ih]
    cases hp : p k with
    | true => rw [List.filter_cons_of_pos hp, List.map_cons, List.sum_cons]
    | false => rw [List.filter_cons_of_neg (by rw [hp]; decide), h k (by simp) hp, Nat.zero_add]
theorem sum_index (g : Nat → Nat) (l : List Nat) : (l.map g).sum = ((List.range l.length).map fun j => g (l.getD j 0)).sum := by
  congr 1
  apply List.ext_getElem
  · simp
  · intro j h1 h2
    simp only [List.length_map] at h1
    simp [List.getD_eq_getElem?_getD, List.getElem?_eq_getElem h1]
theorem lost_loose {room : Nat} {s : St} {keep : List Int} (h : StOk room s) : lostTo s.B s.D keep (filesB s.B).length = looseS (keepB s.B s.D keep) s.D := by
  unfold looseS
  rw [sum_filter0 _ (fun k => !(s.B k).isEmpty) (List.range 64) (fun k _ hp => by
    have : s.B k = [] := by simpa using hp
    rw [keepB_nil this]; simp)]
  show _ = ((filesB s.B).map _).sum
  rw [sum_index]
  unfold lostTo
  congr 1
  apply List.map_congr_left
  intro j hj
  have hj2 : j < (filesB s.B).length := List.mem_range.1 hj
  have hg : (filesB s.B).getD j 0 = (filesB s.B)[j] := by rw [List.getD_eq_getElem?_getD, List.getElem?_eq_getElem hj2]; rfl
  unfold lostAt
  rw [hg]
  show _ = (keepB s.B s.D keep (filesB s.B)[j]).length - s.D (filesB s.B)[j]
  rw [keepB_len (h.dur _), idx_at (files_nodup _) hj2]
  omega
theorem lostTo_le {room : Nat} {s : St} {keep : List Int} (h : StOk room s) (i : Nat) : lostTo s.B s.D keep i ≤ i * 16777216 := by
  induction i with
  | zero => rw [lostTo_zero]; exact Nat.zero_le _
  | succ i ih =>
    rw [lostTo_succ]
    have h2 : lostAt s.B s.D keep i ≤ 16777216 := Nat.le_trans (lostN_le _ _) (Nat.le_trans (Nat.sub_le _ _) (Nat.le_trans (h.len _) h.room))
    omega

theorem flipK_filter {B : Nat → List Nat} {D : Nat → Nat} (p : Nat → Bool) : ∀ (l : List Nat) (bit : Nat), (∀ k ∈ l, p k = false → B k = []) → flipK B D (l.filter p) bit = flipK B D l bit
  | [], _, _ => rfl
  | k :: t, bit, h => by
    have ih := fun b => flipK_filter (D := D) p t b (fun j hj => h j (List.mem_cons_of_mem _ hj))
    cases hp : p k with
    | true =>
      rw [List.filter_cons_of_pos hp]
      show (if bit < 8 * ((B k).length - D k) then _ else flipK B D (t.filter p) _) = if bit < 8 * ((B k).length - D k) then _ else flipK B D t _
      rw [ih]
    | false =>
      rw [List.filter_cons_of_neg (by rw [hp]; decide), ih]
      have hb := h k (by simp) hp
      show _ = if bit < 8 * ((B k).length - D k) then _ else flipK B D t _
      rw [if_neg (by rw [hb]; simp), show bit - 8 * ((B k).length - D k) = bit by rw [hb]; simp]

/-- What is turned: the bit found, or none. -/
def finB (B : Nat → List Nat) : Option (Nat × Nat) → Nat → List Nat
  | some (k, p) => turnB B k p
  | none => B
/-- Ahead of the file ks[i]: the bit is still to come, or it was turned. -/
def AtI (B : Nat → List Nat) (D : Nat → Nat) (ks : List Nat) (R : Option (Nat × Nat)) (i : Nat) (at_ : Int) (Bc : Nat → List Nat) : Prop :=
  at_ ≤ 8589934592 ∧ -8 - 134217728 * (i : Int) ≤ at_ ∧ ((0 ≤ at_ ∧ Bc = B ∧ R = flipK B D (ks.drop i) at_.toNat) ∨ (at_ < 0 ∧ Bc = finB B R))
/-- Ahead of byte k of the file ks[i]. -/
def AtK (B : Nat → List Nat) (D : Nat → Nat) (ks : List Nat) (R : Option (Nat × Nat)) (i f k : Nat) (at_ : Int) (Bc : Nat → List Nat) : Prop :=
  at_ ≤ 8589934592 ∧ -8 - 134217728 * (i : Int) - 8 * (k : Int) ≤ at_ ∧ ((0 ≤ at_ ∧ Bc = B ∧ R = if at_.toNat < 8 * ((B f).length - k) then some (f, 8 * k + at_.toNat) else flipK B D (ks.drop (i + 1)) (at_.toNat - 8 * ((B f).length - k))) ∨ (at_ < 0 ∧ Bc = finB B R))
theorem atk_start {B : Nat → List Nat} {D : Nat → Nat} {ks : List Nat} {R : Option (Nat × Nat)} {i : Nat} {at_ : Int} {Bc : Nat → List Nat} (hi : i < ks.length) (h : AtI B D ks R i at_ Bc) : AtK B D ks R i ks[i] (D ks[i]) at_ Bc := by
  obtain ⟨h0, h1, h2⟩ := h
  refine ⟨h0, by omega, h2.imp (fun h => ⟨h.1, h.2.1, ?_⟩) id⟩
  rw [h.2.2, List.drop_eq_getElem_cons hi]
  rfl
theorem atk_end {B : Nat → List Nat} {D : Nat → Nat} {ks : List Nat} {R : Option (Nat × Nat)} {i f k : Nat} {at_ : Int} {Bc : Nat → List Nat} (hk : k = (B f).length) (hl : k ≤ 16777216) (h : AtK B D ks R i f k at_ Bc) : AtI B D ks R (i + 1) at_ Bc := by
  obtain ⟨h0, h1, h2⟩ := h
  refine ⟨h0, by omega, h2.imp (fun h => ⟨h.1, h.2.1, ?_⟩) id⟩
  rw [h.2.2, if_neg (by omega), show (B f).length - k = 0 by omega]
  simp
theorem atk_next {B : Nat → List Nat} {D : Nat → Nat} {ks : List Nat} {R : Option (Nat × Nat)} {i f k : Nat} {at_ : Int} {Bc : Nat → List Nat} (hk : k < (B f).length) (hn : ¬ (0 ≤ at_ ∧ at_ < 8)) (h : AtK B D ks R i f k at_ Bc) : AtK B D ks R i f (k + 1) (at_ - 8) Bc := by
  obtain ⟨h0, h1, h2⟩ := h
  refine ⟨by omega, by omega, ?_⟩
  rcases h2 with ⟨h3, h4, h5⟩ | ⟨h3, h4⟩
  · refine .inl ⟨by omega, h4, ?_⟩
    obtain ⟨a, rfl⟩ := Int.eq_ofNat_of_zero_le h3
    have e : ((a : Int) - 8).toNat = a - 8 := by omega
    rw [h5, e, Int.toNat_natCast]
    by_cases hc : a < 8 * ((B f).length - k)
    · rw [if_pos hc, if_pos (by omega), show 8 * k + a = 8 * (k + 1) + (a - 8) by omega]
    · rw [if_neg hc, if_neg (by omega), show a - 8 * ((B f).length - k) = a - 8 - 8 * ((B f).length - (k + 1)) by omega]
  · exact .inr ⟨by omega, h4⟩
theorem atk_turn {B : Nat → List Nat} {D : Nat → Nat} {ks : List Nat} {R : Option (Nat × Nat)} {i f k a : Nat} {Bc : Nat → List Nat} (hk : k < (B f).length) (ha : a < 8) (h : AtK B D ks R i f k (a : Int) Bc) :
    AtK B D ks R i f (k + 1) ((a : Int) - 8) (setB Bc f ((Bc f).set k (flipN (((Bc f)[k]?).getD 0) a))) := by
  obtain ⟨h0, h1, h2⟩ := h
  refine ⟨by omega, by omega, .inr ⟨by omega, ?_⟩⟩
  rcases h2 with ⟨h3, h4, h5⟩ | ⟨h3, h4⟩
  · rw [Int.toNat_natCast, if_pos (by omega)] at h5
    rw [h5, h4]
    show _ = turnB B f (8 * k + a)
    unfold turnB flipN
    rw [show (8 * k + a) / 8 = k by omega, show (8 * k + a) % 8 = a % 8 by omega]
  · omega
theorem atk_len {B : Nat → List Nat} {D : Nat → Nat} {ks : List Nat} {R : Option (Nat × Nat)} {i : Nat} {at_ : Int} {Bc : Nat → List Nat} (h : (at_ : Int) < 0 ∧ Bc = finB B R ∨ Bc = B) (k : Nat) : (Bc k).length = (B k).length := by
  have ht : ∀ R k, (finB B R k).length = (B k).length := by
    intro R k
    cases R with
    | none => rfl
    | some x =>
      obtain ⟨j, p⟩ := x
      show (turnB B j p k).length = _
      unfold turnB setB
      by_cases hk : k = j
      · rw [if_pos hk, List.length_set, hk]
      · rw [if_neg hk]
  rcases h with ⟨_, h⟩ | h
  · rw [h]; exact ht _ _
  · rw [h]
theorem ati_len {B : Nat → List Nat} {D : Nat → Nat} {ks : List Nat} {R : Option (Nat × Nat)} {i : Nat} {at_ : Int} {Bc : Nat → List Nat} (h : AtI B D ks R i at_ Bc) (k : Nat) : (Bc k).length = (B k).length :=
  atk_len (D := D) (ks := ks) (R := R) (i := i) (at_ := at_) (h.2.2.elim (fun h => .inr h.2.1) (fun h => .inl ⟨h.1, h.2⟩)) k
theorem atkk_len {B : Nat → List Nat} {D : Nat → Nat} {ks : List Nat} {R : Option (Nat × Nat)} {i f j : Nat} {at_ : Int} {Bc : Nat → List Nat} (h : AtK B D ks R i f j at_ Bc) (k : Nat) : (Bc k).length = (B k).length :=
  atk_len (D := D) (ks := ks) (R := R) (i := i) (at_ := at_) (h.2.2.elim (fun h => .inr h.2.1) (fun h => .inl ⟨h.1, h.2⟩)) k
theorem fin_b8 {B : Nat → List Nat} (h : ∀ k, ∀ c ∈ B k, c < 256) (R : Option (Nat × Nat)) : ∀ k, ∀ c ∈ finB B R k, c < 256 := by
  intro k c hc
  cases R with
  | none => exact h k c hc
  | some x =>
    obtain ⟨j, p⟩ := x
    have hc2 : c ∈ turnB B j p k := hc
    unfold turnB setB at hc2
    by_cases hk : k = j
    · rw [if_pos hk] at hc2
      rcases List.mem_or_eq_of_mem_set hc2 with h1 | h1
      · exact h j c h1
      · rw [h1]
        refine (flip_bits p ?_).2.1
        cases hq : (B j)[p / 8]? with
        | none => decide
        | some y => exact h j y (List.mem_of_getElem? hq)
    · rw [if_neg hk] at hc2; exact h k c hc2
theorem atk_b8 {B : Nat → List Nat} {D : Nat → Nat} {ks : List Nat} {R : Option (Nat × Nat)} {i f k : Nat} {at_ : Int} {Bc : Nat → List Nat} (h : AtK B D ks R i f k at_ Bc) (h8 : ∀ k, ∀ c ∈ B k, c < 256) : ∀ j, ∀ c ∈ Bc j, c < 256 := by
  rcases h.2.2 with ⟨_, h2, _⟩ | ⟨_, h2⟩
  · rw [h2]; exact h8
  · rw [h2]; exact fin_b8 h8 R
/-- The bit that is to be turned, as the loop begins. -/
def atR (many : Nat) (flip : Int) : Int := if 0 ≤ flip ∧ 0 < many then ((flip.toNat % (8 * many) : Nat) : Int) else -1
def optR (B : Nat → List Nat) (D : Nat → Nat) (ks : List Nat) (many : Nat) (flip : Int) : Option (Nat × Nat) := if 0 ≤ flip ∧ 0 < many then flipK B D ks (flip.toNat % (8 * many)) else none
theorem ati_start (B : Nat → List Nat) (D : Nat → Nat) (ks : List Nat) (many : Nat) (flip : Int) (hm : many ≤ 1073741824) : AtI B D ks (optR B D ks many flip) 0 (atR many flip) B := by
  unfold atR optR
  by_cases h : 0 ≤ flip ∧ 0 < many
  · rw [if_pos h, if_pos h]
    have := Nat.mod_lt flip.toNat (show 0 < 8 * many by omega)
    exact ⟨by omega, by omega, .inl ⟨by omega, rfl, by rw [Int.toNat_natCast, List.drop_zero]⟩⟩
  · rw [if_neg h, if_neg h]
    exact ⟨by omega, by omega, .inr ⟨by omega, rfl⟩⟩
theorem ati_end {B : Nat → List Nat} {D : Nat → Nat} {ks : List Nat} {R : Option (Nat × Nat)} {at_ : Int} {Bc : Nat → List Nat} (h : AtI B D ks R ks.length at_ Bc) : Bc = finB B R := by
  rcases h.2.2 with ⟨_, h2, h3⟩ | ⟨_, h2⟩
  · rw [List.drop_length] at h3
    rw [h3, h2]; rfl
  · exact h2
theorem crash_fin {room : Nat} {s : St} (h : StOk room s) (keep : List Int) (flip : Int) :
    finB (keepB s.B s.D keep) (optR (keepB s.B s.D keep) s.D (filesB s.B) (lostTo s.B s.D keep (filesB s.B).length) flip) = (pCrash s keep flip).B := by
  show _ = flipB (keepB s.B s.D keep) s.D flip
  rw [lost_loose h]
  unfold flipB optR
  by_cases hc : 0 ≤ flip ∧ 0 < looseS (keepB s.B s.D keep) s.D
  · rw [if_pos hc, if_pos hc]
    show finB _ (flipK _ _ ((List.range 64).filter fun k => !(s.B k).isEmpty) _) = _
    rw [flipK_filter _ _ _ (fun k _ hp => keepB_nil (by simpa using hp))]
    cases flipK (keepB s.B s.D keep) s.D (List.range 64) (flip.toNat % (8 * looseS (keepB s.B s.D keep) s.D)) <;> rfl
  · rw [if_neg hc, if_neg hc]; rfl
theorem crash_dur {s : St} {keep : List Int} {flip : Int} : (pCrash s keep flip).D = fun k => ((pCrash s keep flip).B k).length := rfl
end Go.Proofs.Ytadnbakniibmfaa
