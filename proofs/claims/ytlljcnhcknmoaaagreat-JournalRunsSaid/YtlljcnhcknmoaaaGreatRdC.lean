/-
  The numbers of the reference's Crash: what is cut file by file, and the bit that is turned, byte by byte. The reference's disk: Crash.
-/
import Derived.Test.YtlljcnhcknmoaaaGreatRdA
import Derived.Test.YtlljcnhcknmoaaaGreatRdB
import Derived.Deep.DeepCutAuto
namespace Go.Proofs.YtlljcnhcknmoaaaGreat
open Go.RowKit Go.Shelf
set_option linter.unusedVariables false
set_option maxRecDepth 100000

theorem files_nodup (B : Nat → List Nat) : (filesB B).Nodup := List.Nodup.sublist List.filter_sublist List.nodup_range
theorem files_mem {B : Nat → List Nat} {k : Nat} : k ∈ filesB B ↔ k < 64 ∧ B k ≠ [] := by
  unfold filesB
  rw [List.mem_filter, List.mem_range]
  constructor
  · rintro ⟨h1, h2⟩
    exact ⟨h1, fun e => by rw [e] at h2; simp at h2⟩
  · rintro ⟨h1, h2⟩
    exact ⟨h1, by simpa using h2⟩
theorem files_len (B : Nat → List Nat) : (filesB B).length ≤ 64 := by
  unfold filesB
  exact Nat.le_trans (List.length_filter_le _ _) (by simp)
theorem idx_at {l : List Nat} (h : l.Nodup) {i : Nat} (hi : i < l.length) : l.idxOf l[i] = i := List.Nodup.idxOf_getElem h i hi

/-- The files' bytes behind i of the files. -/
def cutB (B : Nat → List Nat) (D : Nat → Nat) (keep : List Int) (i : Nat) : Nat → List Nat := fun k => if (filesB B).idxOf k < i then keepB B D keep k else B k
def lostAt (B : Nat → List Nat) (D : Nat → Nat) (keep : List Int) (j : Nat) : Nat := lostN (keepAt keep j) ((B ((filesB B).getD j 0)).length - D ((filesB B).getD j 0))
def lostTo (B : Nat → List Nat) (D : Nat → Nat) (keep : List Int) (i : Nat) : Nat := ((List.range i).map (lostAt B D keep)).sum
theorem lostTo_zero (B : Nat → List Nat) (D : Nat → Nat) (keep : List Int) : lostTo B D keep 0 = 0 := rfl
theorem lostTo_succ (B : Nat → List Nat) (D : Nat → Nat) (keep : List Int) (i : Nat) : lostTo B D keep (i + 1) = lostTo B D keep i + lostAt B D keep i := by
  unfold lostTo
  rw [List.range_succ, List.map_append, List.sum_append, List.map_singleton, List.sum_singleton]
theorem lostN_le (q : Int) (n : Nat) : lostN q n ≤ n := by unfold lostN; omega
theorem cutB_zero (B : Nat → List Nat) (D : Nat → Nat) (keep : List Int) : cutB B D keep 0 = B := by
  funext k; unfold cutB; rw [if_neg (Nat.not_lt_zero _)]
theorem cutB_at {B : Nat → List Nat} {D : Nat → Nat} {keep : List Int} {i : Nat} (hi : i < (filesB B).length) : cutB B D keep i (filesB B)[i] = B (filesB B)[i] := by
  unfold cutB; rw [idx_at (files_nodup B) hi, if_neg (Nat.lt_irrefl _)]
theorem cutB_succ {B : Nat → List Nat} {D : Nat → Nat} {keep : List Int} {i : Nat} (hi : i < (filesB B).length) :
    cutB B D keep (i + 1) = setB (cutB B D keep i) (filesB B)[i] ((B (filesB B)[i]).take (D (filesB B)[i] + lostAt B D keep i)) := by
  have hat : lostAt B D keep i = lostN (keepAt keep i) ((B (filesB B)[i]).length - D (filesB B)[i]) := by
    unfold lostAt; rw [List.getD_eq_getElem?_getD, List.getElem?_eq_getElem hi]; rfl
  funext k
  unfold setB cutB
  by_cases hk : k = (filesB B)[i]
  · rw [if_pos hk, hk, idx_at (files_nodup B) hi, if_pos (Nat.lt_succ_self i), hat]
    unfold keepB
    rw [idx_at (files_nodup B) hi]
  · rw [if_neg hk]
    have hne : (filesB B).idxOf k ≠ i := fun e => by
      apply hk
      have : (filesB B).idxOf k < (filesB B).length := by omega
      have h2 := List.getElem_idxOf this
      simp only [e] at h2
      exact h2.symm
    by_cases h1 : (filesB B).idxOf k < i
    · rw [if_pos h1, if_pos (by omega)]
    · rw [if_neg h1, if_neg (by omega)]
theorem cutB_end {B : Nat → List Nat} {D : Nat → Nat} {keep : List Int} (hfar : ∀ k, 64 ≤ k → B k = []) : cutB B D keep (filesB B).length = keepB B D keep := by
  funext k
  unfold cutB
  by_cases h : (filesB B).idxOf k < (filesB B).length
  · rw [if_pos h]
  · rw [if_neg h]
    have hn : k ∉ filesB B := fun hm => h (List.idxOf_lt_length_iff.2 hm)
    have hB : B k = [] := by
      by_cases hk : k < 64
      · exact Classical.byContradiction fun hne => hn (files_mem.2 ⟨hk, hne⟩)
      · exact hfar k (by omega)
    unfold keepB
    rw [hB, List.take_nil]
theorem keepB_len {B : Nat → List Nat} {D : Nat → Nat} {keep : List Int} {k : Nat} (hd : D k ≤ (B k).length) : (keepB B D keep k).length = D k + lostN (keepAt keep ((filesB B).idxOf k)) ((B k).length - D k) := by
  unfold keepB
  rw [List.length_take]
  have := lostN_le (keepAt keep ((filesB B).idxOf k)) ((B k).length - D k)
  omega
theorem keepB_nil {B : Nat → List Nat} {D : Nat → Nat} {keep : List Int} {k : Nat} (h : B k = []) : keepB B D keep k = [] := by
  unfold keepB; rw [h, List.take_nil]
theorem sum_filter0 (g : Nat → Nat) (p : Nat → Bool) : ∀ (l : List Nat), (∀ k ∈ l, p k = false → g k = 0) → (l.map g).sum = ((l.filter p).map g).sum
  | [], _ => rfl
  | k :: t, h => by
    have ih := sum_filter0 g p t (fun j hj => h j (List.mem_cons_of_mem _ hj))
    rw [List.map_cons, List.sum_cons, ih]
    cases hp : p k with
    | true => rw [List.filter_cons_of_pos hp, List.map_cons, List.sum_cons]
    | false => rw [List.filter_cons_of_neg (by rw [hp]; decide), h k (by simp) hp, Nat.zero_add]
theorem sum_index (g : Nat → Nat) (l : List Nat) : (l.map g).sum = ((List.range l.length).map fun j => g (l.getD j 0)).sum := by
  congr 1
  apply List.ext_getElem
  · simp
  · intro j h1 h2
    simp only [List.length_map] at h1
    simp [List.getD_eq_getElem?_getD, List.getElem?_eq_getElem h1]
theorem lost_loose {room : Nat} {s : St} {keep : List Int} (h : StOk room s) : lostTo s.B s.D keep (filesB s.B).length = looseS (keepB s.B s.D keep) s.D := by
  unfold looseS
  rw [sum_filter0 _ (fun k => !(s.B k).isEmpty) (List.range 64) (fun k _ hp => by
    have : s.B k = [] := by simpa using hp
    rw [keepB_nil this]; simp)]
  show _ = ((filesB s.B).map _).sum
  rw [sum_index]
  unfold lostTo
  congr 1
  apply List.map_congr_left
  intro j hj
  have hj2 : j < (filesB s.B).length := List.mem_range.1 hj
  have hg : (filesB s.B).getD j 0 = (filesB s.B)[j] := by rw [List.getD_eq_getElem?_getD, List.getElem?_eq_getElem hj2]; rfl
  unfold lostAt
  rw [hg]
  show _ = (keepB s.B s.D keep (filesB s.B)[j]).length - s.D (filesB s.B)[j]
  rw [keepB_len (h.dur _), idx_at (files_nodup _) hj2]
  omega
theorem lostTo_le {room : Nat} {s : St} {keep : List Int} (h : StOk room s) (i : Nat) : lostTo s.B s.D keep i ≤ i * 16777216 := by
  induction i with
  | zero => rw [lostTo_zero]; exact Nat.zero_le _
  | succ i ih =>
    rw [lostTo_succ]
    have h2 : lostAt s.B s.D keep i ≤ 16777216 := Nat.le_trans (lostN_le _ _) (Nat.le_trans (Nat.sub_le _ _) (Nat.le_trans (h.len _) h.room))
    omega

theorem flipK_filter {B : Nat → List Nat} {D : Nat → Nat} (p : Nat → Bool) : ∀ (l : List Nat) (bit : Nat), (∀ k ∈ l, p k = false → B k = []) → flipK B D (l.filter p) bit = flipK B D l bit
  | [], _, _ => rfl
  | k :: t, bit, h => by
    have ih := fun b => flipK_filter (D := D) p t b (fun j hj => h j (List.mem_cons_of_mem _ hj))
    cases hp : p k with
    | true =>
      rw [List.filter_cons_of_pos hp]
      show (if bit < 8 * ((B k).length - D k) then _ else flipK B D (t.filter p) _) = if bit < 8 * ((B k).length - D k) then _ else flipK B D t _
      rw [ih]
    | false =>
      rw [List.filter_cons_of_neg (by rw [hp]; decide), ih]
      have hb := h k (by simp) hp
      show _ = if bit < 8 * ((B k).length - D k) then _ else flipK B D t _
      rw [if_neg (by rw [hb]; simp), show bit - 8 * ((B k).length - D k) = bit by rw [hb]; simp]

/-- What is turned: the bit found, or none. -/
def finB (B : Nat → List Nat) : Option (Nat × Nat) → Nat → List Nat
  | some (k, p) => turnB B k p
  | none => B
/-- Ahead of the file ks[i]: the bit is still to come, or it was turned. -/
def AtI (B : Nat → List Nat) (D : Nat → Nat) (ks : List Nat) (R : Option (Nat × Nat)) (i : Nat) (at_ : Int) (Bc : Nat → List Nat) : Prop :=
  at_ ≤ 8589934592 ∧ -8 - 134217728 * (i : Int) ≤ at_ ∧ ((0 ≤ at_ ∧ Bc = B ∧ R = flipK B D (ks.drop i) at_.toNat) ∨ (at_ < 0 ∧ Bc = finB B R))
/-- Ahead of byte k of the file ks[i]. -/
def AtK (B : Nat → List Nat) (D : Nat → Nat) (ks : List Nat) (R : Option (Nat × Nat)) (i f k : Nat) (at_ : Int) (Bc : Nat → List Nat) : Prop :=
  at_ ≤ 8589934592 ∧ -8 - 134217728 * (i : Int) - 8 * (k : Int) ≤ at_ ∧ ((0 ≤ at_ ∧ Bc = B ∧ R = if at_.toNat < 8 * ((B f).length - k) then some (f, 8 * k + at_.toNat) else flipK B D (ks.drop (i + 1)) (at_.toNat - 8 * ((B f).length - k))) ∨ (at_ < 0 ∧ Bc = finB B R))
theorem atk_start {B : Nat → List Nat} {D : Nat → Nat} {ks : List Nat} {R : Option (Nat × Nat)} {i : Nat} {at_ : Int} {Bc : Nat → List Nat} (hi : i < ks.length) (h : AtI B D ks R i at_ Bc) : AtK B D ks R i ks[i] (D ks[i]) at_ Bc := by
  obtain ⟨h0, h1, h2⟩ := h
  refine ⟨h0, by omega, h2.imp (fun h => ⟨h.1, h.2.1, ?_⟩) id⟩
  rw [h.2.2, List.drop_eq_getElem_cons hi]
  rfl
theorem atk_end {B : Nat → List Nat} {D : Nat → Nat} {ks : List Nat} {R : Option (Nat × Nat)} {i f k : Nat} {at_ : Int} {Bc : Nat → List Nat} (hk : k = (B f).length) (hl : k ≤ 16777216) (h : AtK B D ks R i f k at_ Bc) : AtI B D ks R (i + 1) at_ Bc := by
  obtain ⟨h0, h1, h2⟩ := h
  refine ⟨h0, by omega, h2.imp (fun h => ⟨h.1, h.2.1, ?_⟩) id⟩
  rw [h.2.2, if_neg (by omega), show (B f).length - k = 0 by omega]
  simp
theorem atk_next {B : Nat → List Nat} {D : Nat → Nat} {ks : List Nat} {R : Option (Nat × Nat)} {i f k : Nat} {at_ : Int} {Bc : Nat → List Nat} (hk : k < (B f).length) (hn : ¬ (0 ≤ at_ ∧ at_ < 8)) (h : AtK B D ks R i f k at_ Bc) : AtK B D ks R i f (k + 1) (at_ - 8) Bc := by
  obtain ⟨h0, h1, h2⟩ := h
  refine ⟨by omega, by omega, ?_⟩
  rcases h2 with ⟨h3, h4, h5⟩ | ⟨h3, h4⟩
  · refine .inl ⟨by omega, h4, ?_⟩
    obtain ⟨a, rfl⟩ := Int.eq_ofNat_of_zero_le h3
    have e : ((a : Int) - 8).toNat = a - 8 := by omega
    rw [h5, e, Int.toNat_natCast]
    by_cases hc : a < 8 * ((B f).length - k)
    · rw [if_pos hc, if_pos (by omega), show 8 * k + a = 8 * (k + 1) + (a - 8) by omega]
    · rw [if_neg hc, if_neg (by omega), show a - 8 * ((B f).length - k) = a - 8 - 8 * ((B f).length - (k + 1)) by omega]
  · exact .inr ⟨by omega, h4⟩
theorem atk_turn {B : Nat → List Nat} {D : Nat → Nat} {ks : List Nat} {R : Option (Nat × Nat)} {i f k a : Nat} {Bc : Nat → List Nat} (hk : k < (B f).length) (ha : a < 8) (h : AtK B D ks R i f k (a : Int) Bc) :
    AtK B D ks R i f (k + 1) ((a : Int) - 8) (setB Bc f ((Bc f).set k (flipN (((Bc f)[k]?).getD 0) a))) := by
  obtain ⟨h0, h1, h2⟩ := h
  refine ⟨by omega, by omega, .inr ⟨by omega, ?_⟩⟩
  rcases h2 with ⟨h3, h4, h5⟩ | ⟨h3, h4⟩
  · rw [Int.toNat_natCast, if_pos (by omega)] at h5
    rw [h5, h4]
    show _ = turnB B f (8 * k + a)
    unfold turnB flipN
    rw [show (8 * k + a) / 8 = k by omega, show (8 * k + a) % 8 = a % 8 by omega]
  · omega
theorem atk_len {B : Nat → List Nat} {D : Nat → Nat} {ks : List Nat} {R : Option (Nat × Nat)} {i : Nat} {at_ : Int} {Bc : Nat → List Nat} (h : (at_ : Int) < 0 ∧ Bc = finB B R ∨ Bc = B) (k : Nat) : (Bc k).length = (B k).length := by
  have ht : ∀ R k, (finB B R k).length = (B k).length := by
    intro R k
    cases R with
    | none => rfl
    | some x =>
      obtain ⟨j, p⟩ := x
      show (turnB B j p k).length = _
      unfold turnB setB
      by_cases hk : k = j
      · rw [if_pos hk, List.length_set, hk]
      · rw [if_neg hk]
  rcases h with ⟨_, h⟩ | h
  · rw [h]; exact ht _ _
  · rw [h]
theorem ati_len {B : Nat → List Nat} {D : Nat → Nat} {ks : List Nat} {R : Option (Nat × Nat)} {i : Nat} {at_ : Int} {Bc : Nat → List Nat} (h : AtI B D ks R i at_ Bc) (k : Nat) : (Bc k).length = (B k).length :=
  atk_len (D := D) (ks := ks) (R := R) (i := i) (at_ := at_) (h.2.2.elim (fun h => .inr h.2.1) (fun h => .inl ⟨h.1, h.2⟩)) k
theorem atkk_len {B : Nat → List Nat} {D : Nat → Nat} {ks : List Nat} {R : Option (Nat × Nat)} {i f j : Nat} {at_ : Int} {Bc : Nat → List Nat} (h : AtK B D ks R i f j at_ Bc) (k : Nat) : (Bc k).length = (B k).length :=
  atk_len (D := D) (ks := ks) (R := R) (i := i) (at_ := at_) (h.2.2.elim (fun h => .inr h.2.1) (fun h => .inl ⟨h.1, h.2⟩)) k
theorem fin_b8 {B : Nat → List Nat} (h : ∀ k, ∀ c ∈ B k, c < 256) (R : Option (Nat × Nat)) : ∀ k, ∀ c ∈ finB B R k, c < 256 := by
  intro k c hc
  cases R with
  | none => exact h k c hc
  | some x =>
    obtain ⟨j, p⟩ := x
    have hc2 : c ∈ turnB B j p k := hc
    unfold turnB setB at hc2
    by_cases hk : k = j
    · rw [if_pos hk] at hc2
      rcases List.mem_or_eq_of_mem_set hc2 with h1 | h1
      · exact h j c h1
      · rw [h1]
        refine (flip_bits p ?_).2.1
        cases hq : (B j)[p / 8]? with
        | none => decide
        | some y => exact h j y (List.mem_of_getElem? hq)
    · rw [if_neg hk] at hc2; exact h k c hc2
theorem atk_b8 {B : Nat → List Nat} {D : Nat → Nat} {ks : List Nat} {R : Option (Nat × Nat)} {i f k : Nat} {at_ : Int} {Bc : Nat → List Nat} (h : AtK B D ks R i f k at_ Bc) (h8 : ∀ k, ∀ c ∈ B k, c < 256) : ∀ j, ∀ c ∈ Bc j, c < 256 := by
  rcases h.2.2 with ⟨_, h2, _⟩ | ⟨_, h2⟩
  · rw [h2]; exact h8
  · rw [h2]; exact fin_b8 h8 R
/-- The bit that is to be turned, as the loop begins. -/
def atR (many : Nat) (flip : Int) : Int := if 0 ≤ flip ∧ 0 < many then ((flip.toNat % (8 * many) : Nat) : Int) else -1
def optR (B : Nat → List Nat) (D : Nat → Nat) (ks : List Nat) (many : Nat) (flip : Int) : Option (Nat × Nat) := if 0 ≤ flip ∧ 0 < many then flipK B D ks (flip.toNat % (8 * many)) else none
theorem ati_start (B : Nat → List Nat) (D : Nat → Nat) (ks : List Nat) (many : Nat) (flip : Int) (hm : many ≤ 1073741824) : AtI B D ks (optR B D ks many flip) 0 (atR many flip) B := by
  unfold atR optR
  by_cases h : 0 ≤ flip ∧ 0 < many
  · rw [if_pos h, if_pos h]
    have := Nat.mod_lt flip.toNat (show 0 < 8 * many by omega)
    exact ⟨by omega, by omega, .inl ⟨by omega, rfl, by rw [Int.toNat_natCast, List.drop_zero]⟩⟩
  · rw [if_neg h, if_neg h]
    exact ⟨by omega, by omega, .inr ⟨by omega, rfl⟩⟩
theorem ati_end {B : Nat → List Nat} {D : Nat → Nat} {ks : List Nat} {R : Option (Nat × Nat)} {at_ : Int} {Bc : Nat → List Nat} (h : AtI B D ks R ks.length at_ Bc) : Bc = finB B R := by
  rcases h.2.2 with ⟨_, h2, h3⟩ | ⟨_, h2⟩
  · rw [List.drop_length] at h3
    rw [h3, h2]; rfl
  · exact h2
theorem crash_fin {room : Nat} {s : St} (h : StOk room s) (keep : List Int) (flip : Int) :
    finB (keepB s.B s.D keep) (optR (keepB s.B s.D keep) s.D (filesB s.B) (lostTo s.B s.D keep (filesB s.B).length) flip) = (pCrash s keep flip).B := by
  show _ = flipB (keepB s.B s.D keep) s.D flip
  rw [lost_loose h]
  unfold flipB optR
  by_cases hc : 0 ≤ flip ∧ 0 < looseS (keepB s.B s.D keep) s.D
  · rw [if_pos hc, if_pos hc]
    show finB _ (flipK _ _ ((List.range 64).filter fun k => !(s.B k).isEmpty) _) = _
    rw [flipK_filter _ _ _ (fun k _ hp => keepB_nil (by simpa using hp))]
    cases flipK (keepB s.B s.D keep) s.D (List.range 64) (flip.toNat % (8 * looseS (keepB s.B s.D keep) s.D)) <;> rfl
  · rw [if_neg hc, if_neg hc]; rfl
theorem crash_dur {s : St} {keep : List Int} {flip : Int} : (pCrash s keep flip).D = fun k => ((pCrash s keep flip).B k).length := rfl

/-- An append, shut: the walk doesn't look into it, but goes by an equation of the context. -/
noncomputable def appS (ats : Array TypeId) (ty : TypeId) (args : Array Value) : Sem Value := Builtin.append_ ats ty args
theorem app_shut (ats : Array TypeId) (ty : TypeId) (args : Array Value) : Builtin.append_ ats ty args = appS ats ty args := rfl
attribute [local go_sem ↓] app_shut

/-- The numbers of a Crash, in letters. -/
structure CrF (room : Nat) (s : St) (keep : List Int) (flip : Int) (fs : List Nat) (C : Nat → Nat → List Nat) (L LT : Nat → Nat) : Prop where
  lt : ∀ i (h : i < fs.length), fs[i] < 64
  ne : ∀ i (h : i < fs.length), s.B fs[i] ≠ []
  db : ∀ k, s.D k ≤ (s.B k).length
  bl : ∀ k, (s.B k).length ≤ 16777216
  len : fs.length ≤ 64
  c0 : C 0 = s.B
  cat : ∀ i (h : i < fs.length), C i fs[i] = s.B fs[i]
  cs : ∀ i (h : i < fs.length), C (i + 1) = setB (C i) fs[i] ((s.B fs[i]).take (s.D fs[i] + L i))
  l : ∀ i (h : i < fs.length), L i = lostN (keepAt keep i) ((s.B fs[i]).length - s.D fs[i])
  t0 : LT 0 = 0
  ts : ∀ i, LT (i + 1) = LT i + L i
  tle : ∀ i, i ≤ 64 → LT i ≤ 1073741824
  clen : ∀ k, (C fs.length k).length ≤ 16777216
  cdur : ∀ k, s.D k ≤ 16777216
  cge : ∀ i (h : i < fs.length), s.D fs[i] ≤ (C fs.length fs[i]).length
  c8 : ∀ k, ∀ c ∈ C fs.length k, c < 256
  fin : finB (C fs.length) (optR (C fs.length) s.D fs (LT fs.length) flip) = (pCrash s keep flip).B
theorem crf {room : Nat} {s : St} (h : StOk room s) (keep : List Int) (flip : Int) : ∃ C L LT, CrF room s keep flip (filesB s.B) C L LT := by
  have hend := cutB_end (B := s.B) (D := s.D) (keep := keep) h.far
  refine ⟨cutB s.B s.D keep, lostAt s.B s.D keep, lostTo s.B s.D keep, fun i hi => (files_mem.1 (List.getElem_mem hi)).1, fun i hi => (files_mem.1 (List.getElem_mem hi)).2, h.dur, fun k => Nat.le_trans (h.len k) h.room, files_len _, cutB_zero _ _ _, fun i hi => cutB_at hi, fun i hi => cutB_succ hi, fun i hi => ?_, rfl, fun i => lostTo_succ _ _ _ i, fun i hi => ?_, fun k => ?_, fun k => ?_, fun i hi => ?_, fun k c hc => ?_, ?_⟩
  · unfold lostAt
    rw [List.getD_eq_getElem?_getD, List.getElem?_eq_getElem hi]; rfl
  · have := lostTo_le (keep := keep) h i
    have h2 : i * 16777216 ≤ 64 * 16777216 := Nat.mul_le_mul_right _ hi
    omega
  · rw [hend]
    unfold keepB
    rw [List.length_take]
    have := h.len k; have := h.room
    omega
  · have := h.dur k; have := h.len k; have := h.room
    omega
  · rw [hend, keepB_len (h.dur _)]
    exact Nat.le_add_right _ _
  · rw [hend] at hc
    exact h.b8 k c (List.mem_of_mem_take hc)
  · rw [hend]
    exact crash_fin h keep flip
theorem natI_atR {l : List Nat} {i : Nat} (h : i < l.length) : (natI l)[i]?.getD 0 = (l[i] : Int) := by
  unfold natI
  rw [List.getElem?_map, List.getElem?_eq_getElem h]
  rfl
/-- The files that a Crash goes through. -/
structure FlsIs (W : World) (lo : Nat) (fa : Option Addr) (fc : Nat) (fs : List Nat) : Prop where
  own : Fresh lo 3 .i64 W (.slice fa fs.length fc) (natI fs)
theorem FlsIs.at {W : World} {lo : Nat} {fa : Option Addr} {fc : Nat} {fs : List Nat} (h : FlsIs W lo fa fc fs) {i : Nat} (hi : i < fs.length) : ∃ g, fa = some ⟨g, 0, none⟩ ∧ W.cell? ⟨g, i, none⟩ = some (.int .i64 (fs[i] : Int)) := by
  rcases fresh_form h.own with ⟨_, h0⟩ | ⟨g, cap, hv, _⟩
  · have := congrArg List.length h0
    rw [natI_length] at this
    have h1 : fs.length = 0 := this
    omega
  · injection hv with h1 h2 h3
    refine ⟨g, h1, ?_⟩
    have h2 := h.own
    rw [h1] at h2
    have := fresh_cell h2 (j := i) (by rw [natI_length]; exact hi)
    rw [natI_atR hi] at this
    exact this
theorem FlsIs.keeps {A : Foot} {W W2 : World} {lo : Nat} {fa : Option Addr} {fc : Nat} {fs : List Nat} (h : FlsIs W lo fa fc fs) (hk : Keeps A W W2) (hA : ∀ g, A g → g < lo ∨ W.heap.size ≤ g) : FlsIs W2 lo fa fc fs :=
  ⟨own_foot2 h.own hk (fun g hg hAg => by have := h.own.lt g hg; have := hA g hAg; omega)⟩
theorem lost_int {q : Int} {len dur : Nat} (h : dur ≤ len) : max 0 (min q ((len : Int) - (dur : Int))) = ((lostN q (len - dur) : Nat) : Int) := by
  unfold lostN
  omega
theorem lost_none (n : Nat) : lostN 0 n = 0 := by unfold lostN; omega
theorem keep_at {keep : List Int} {i : Nat} (h : i < keep.length) : keepAt keep i = keep[i] := by unfold keepAt; rw [List.getElem?_eq_getElem h]; rfl
theorem keep_out {keep : List Int} {i : Nat} (h : ¬ i < keep.length) : keepAt keep i = 0 := by unfold keepAt; rw [List.getElem?_eq_none (by omega)]; rfl

theorem keeps_two {A : Foot} {a b c : World} (h : Keeps A a b) (k : Keeps (fun g => A g ∨ b.heap.size ≤ g) b c) : Keeps A a c :=
  ⟨k.os.trans h.os, k.tape.trans h.tape, k.output.trans h.output, Nat.le_trans h.size k.size, fun i hi hn => (k.same i (Nat.lt_of_lt_of_le hi h.size) (fun hb => hb.elim hn (fun h2 => by have := h.size; omega))).trans (h.same i hi hn)⟩
set_option maxHeartbeats 16000000 in
theorem crashR_any {w : World} {A : Foot} {m room : Nat} {s : St} (h : RfS w A m room s) (ok : StOk room s) (ka : Option Addr) (kc : Nat) (keep : List Int) (flip : Int) (hv : Row .i64 w (.slice ka keep.length kc) keep) (hvb : ∀ j, blockOf (.slice ka keep.length kc) j → ¬ A j)
    (hkr : ∀ x ∈ keep, -9223372036854775808 ≤ x ∧ x ≤ 9223372036854775807) (hfl : -9223372036854775808 ≤ flip ∧ flip ≤ 9223372036854775807) (hkl : keep.length ≤ 1000000) :
    Calls Tryz.prog 12 #[.pointer (some ⟨m, 0, none⟩), .slice ka keep.length kc, .int .i64 flip] w (TupR w A m room (pCrash s keep flip)) := by
  obtain ⟨bb, fb, ad, cp, hr, hA⟩ := h
  obtain ⟨C, L, LT, hcr⟩ := crf ok keep flip
  have hfi := rFiles_any hr
  unfold FilesR at hfi
  generalize filesB s.B = fs at hcr hfi
  have HA := Lib.hid hA
  have HR := Lib.hid hr
  have HOK := Lib.hid ok
  have HC := Lib.hid hcr
  have HFI := Lib.hid hfi
  have HV := Lib.hid hv
  have HVB : Hid (∀ j, blockOf (.slice ka keep.length kc) j → ¬ rfFoot m bb fb ad j) := Lib.hid (fun j hj hn => hvb j hj (hA j hn))
  have HKR := Lib.hid hkr
  have HFL := Lib.hid hfl
  have HLT := Lib.hid hr.lt
  generalize hoff : (!s.on) = off at HR
  generalize hplan : planS s = plan at HR
  clear hoff hplan hr hA ok hcr hfi hv hvb hkr
  go_enter Tryz.func12, Tryz.ntmps12
  go_wp2_with fail
  refine HFI.out.mono ?_
  rintro e w1 ⟨v, rfl, hf1, hb1⟩
  obtain ⟨fa, fc, rfl, -⟩ := fresh_elems hf1
  rw [natI_length] at hf1 ⊢
  have HF1 : Hid (FlsIs w1 w.heap.size fa fc fs) := Lib.hid ⟨hf1⟩
  have HR1 := Lib.hid (HR.out.below hb1)
  have HB1 := Lib.hid hb1
  have hfl64 : fs.length ≤ 64 := HC.out.len
  clear hf1 hb1 HFI HR
  go_wp2_with fail
  go_loopw [7, 8] (fun s7 s8 wr => ∃ (i t : Nat) (ad2 : Nat → Option Addr) (cp2 : Nat → Nat), s7 = .int .i64 (t : Int) ∧ s8 = .int .i64 (i : Int) ∧ i ≤ fs.length ∧ t ≤ 1073741824 ∧ Hid (t = LT i) ∧ Hid (Rf wr m bb fb room off plan (C i) s.D ad2 cp2) ∧ Hid (Keeps (fun g => rfFoot m bb fb ad g ∨ w1.heap.size ≤ g) w1 wr) ∧ Hid (∀ g, rfFoot m bb fb ad2 g → rfFoot m bb fb ad g ∨ w1.heap.size ≤ g)) (fun _ s8 _ => fs.length - (intOf s8).toNat)
  case atStart => exact ⟨0, 0, ad, cp, rfl, rfl, Nat.zero_le _, Nat.zero_le _, Lib.hid HC.out.t0.symm, Lib.hid (by rw [HC.out.c0]; exact HR1.out), Lib.hid (Keeps.refl _ _), Lib.hid (fun g hg => .inl hg)⟩
  case round =>
    obtain ⟨i, t, ad2, cp2, rfl, rfl, hi, ht, HT, HB, HK, HG⟩ := hrel
    clear HR1
    by_cases hlt : i < fs.length
    · obtain ⟨g, hg, hcf⟩ := (HF1.out.keeps HK.out (fun g hg => hg.elim (fun h => .inl (HLT.out g h)) .inr)).at hlt
      subst hg
      have hf64 := HC.out.lt i hlt
      have HCAT := Lib.hid (HC.out.cat i hlt)
      have HCS := Lib.hid (HC.out.cs i hlt)
      have HL := Lib.hid (HC.out.l i hlt)
      have HNE := Lib.hid (HC.out.ne i hlt)
      generalize fs[i] = f at *
      have HDB := Lib.hid (HC.out.db f)
      have HBL := Lib.hid (HC.out.bl f)
      have HF64 := Lib.hid hf64
      have hcf1 : (f : Int) < 64 := by omega
      have hcf0 : (0 : Int) ≤ (f : Int) := by omega
      have hrow := HB.out.row f hf64
      unfold slV at hrow
      rw [HCAT.out] at hrow
      obtain ⟨g2, had, hcap⟩ : ∃ g2, ad2 f = some ⟨g2, 0, none⟩ ∧ (s.B f).length ≤ cp2 f := by
        rcases fresh_form hrow with ⟨_, h0⟩ | ⟨g2, cap, hv, _, _, hc, _⟩
        · have := congrArg List.length h0
          rw [natI_length] at this
          exact absurd (List.eq_nil_of_length_eq_zero this) HNE.out
        · injection hv with h1 h2 h3
          rw [natI_length] at hc
          exact ⟨g2, h1, by omega⟩
      rw [had] at hrow
      have HROW := Lib.hid hrow
      have HAD := Lib.hid had
      have hat := HB.out.drew.at hf64
      rw [HCAT.out, had] at hat
      have HAT := Lib.hid hat
      have hdb := HC.out.db f
      have hbl := HC.out.bl f
      clear hrow hat had hf64
      generalize hn : (s.B f).length = n at *
      generalize hd : s.D f = d at *
      have HN : Hid ((s.B f).length = n) := Lib.hid hn
      have HD : Hid (s.D f = d) := Lib.hid hd
      clear hn hd
      generalize hcc : cp2 f = cc at *
      have HCC : Hid (cp2 f = cc) := Lib.hid hcc
      clear hcc
      go_upto_if 32 with fail
      go_cut [10, 32] (fun s10 s32 wx => ∃ x : Nat, s10 = .int .i64 (x : Int) ∧ Hid (L i = x) ∧ Hid (Below wr.heap.size wr wx))
      case first =>
        by_cases hik : i < keep.length
        · obtain ⟨kb, ko, rfl, hck⟩ : ∃ b off, ka = some ⟨b, off, none⟩ ∧ wr.drew.cell? ⟨b, off + i, none⟩ = some (.int .i64 keep[i]) := by
            obtain ⟨a, cap, h1, _, _, h4, _⟩ := row_keeps HV.out HB1.out
            injection h1 with h1 _ _
            obtain ⟨b, off, h5, h6⟩ := h4 (fun e => by rw [e] at hik; simp at hik)
            refine ⟨b, off, h1.trans h5, ?_⟩
            have h7 := h6 i hik
            rw [List.getElem?_eq_getElem hik] at h7
            exact HK.out.cell h7 (fun hn => hn.elim (HVB.out b (by rw [h1, h5]; rfl)) (fun h => by have := World.block_lt_of_cell? _ _ h7; exact Nat.lt_irrefl _ (Nat.lt_of_lt_of_le this h)))
          have hqr := HKR.out keep[i] (List.getElem_mem hik)
          have HKA := Lib.hid (keep_at hik)
          generalize keep[i] = q at *
          have HL2 : Hid (max 0 (min q ((n : Int) - (d : Int))) = (L i : Int)) := Lib.hid (by rw [HL.out, HKA.out]; exact lost_int hdb)
          have hik1 : (i : Int) < (keep.length : Int) := by omega
          have hik0 : (0 : Int) ≤ (i : Int) := by omega
          obtain ⟨c1, c2, cb, cf, zb, zf⟩ := HAT.out
          go_wp2_with fail
          go_region
          all_goals
            simp only [HL2.out]
            go_wp2_with fail
            go_meet
            case rel => exact ⟨L i, rfl, Lib.hid rfl, Lib.hid (below_drew' _)⟩
        · have hL0 : L i = 0 := by rw [HL.out, keep_out hik]; exact lost_none _
          have HL0 := Lib.hid hL0
          clear hL0
          go_wp2_with fail
          go_meet
          case rel => exact ⟨0, rfl, HL0, Lib.hid (Below.refl _ _)⟩
      obtain ⟨x, rfl, HX, HBE⟩ := hcut
      have HBW := Lib.hid (HB.out.below HBE.out)
      have HKW : Hid (Keeps (fun g => rfFoot m bb fb ad g ∨ w1.heap.size ≤ g) w1 wc) := Lib.hid (HK.out.trans (Keeps.of_below_size HBE.out))
      have HROWW := Lib.hid (fresh_keeps HROW.out HBE.out)
      have hatw := HBW.out.drew.at HF64.out
      rw [HCAT.out, HN.out, HD.out, HAD.out, HCC.out] at hatw
      have hxn : d + x ≤ n := by rw [← HX.out, HL.out]; have := lostN_le (keepAt keep i) (n - d); omega
      have HTX : Hid (t + x = LT (i + 1)) := Lib.hid (by rw [HC.out.ts i, HX.out, HT.out])
      have htx : t + x ≤ 1073741824 := by have h1 := HTX.out; have h2 := HC.out.tle (i + 1) (by have := hfl64; omega); omega
      obtain ⟨c1, c2, cb, cf, zb, zf⟩ := hatw
      have hsf := fresh_first (g := g2) (cap := cc) (zs := natI (s.B f)) (by rw [natI_length, HN.out]; exact HROWW.out) (m := d + x) (by rw [natI_length, HN.out]; exact hxn)
      rw [← natI_first] at hsf
      have hlt2 : ((s.B f).take (d + x)).length = d + x := by rw [List.length_take, HN.out]; omega
      have hsr : Row .u8 wc.drew (.slice (some ⟨g2, 0, none⟩) (d + x) cc) (natI ((s.B f).take (d + x))) := row_of_fresh (fresh_keeps hsf (below_drew' wc))
      obtain ⟨b3, c3, w3, hr3, hf3, hg3, ha3⟩ := run_append_buf (W := wc.drew) (B := wc.heap.size) (v := .slice none 0 0) (zs := []) (fresh_nil _ _ _ _) (tx := 39) (ty := 39) (u := .slice (some ⟨g2, 0, none⟩) (d + x) cc) (ys := natI ((s.B f).take (d + x))) (.inl ⟨rfl, hsr⟩) (by rw [natI_length, hlt2]; simp; omega) (Nat.le_refl _)
      rw [List.nil_append, natI_length, hlt2] at hr3 hf3
      rw [app_shut] at hr3
      have hb3 : Below wc.heap.size wc w3 := (below_drew' wc).trans ((Below.refl _ _).grown hg3 (Nat.le_refl _) (fun k h => by cases h))
      have HR3 := Lib.hid (HBW.out.below hb3)
      have h4 := HR3.out.newRow HF64.out (k := f) (a := b3) (c := c3) (ys := (s.B f).take (d + x)) (by rw [hlt2]; exact hf3) HBW.out.lt
      rw [hlt2, show setB (C i) f ((s.B f).take (d + x)) = C (i + 1) by rw [HCS.out, HX.out]] at h4
      have HR4 : Hid (Rf (w3.setCell ⟨bb, f, none⟩ (.slice b3 (d + x) c3)) m bb fb room off plan (C (i + 1)) s.D (setA ad2 f b3) (setA cp2 f c3)) := Lib.hid h4
      have HK4 : Hid (Keeps (fun g => rfFoot m bb fb ad g ∨ w1.heap.size ≤ g) w1 (w3.setCell ⟨bb, f, none⟩ (.slice b3 (d + x) c3))) := Lib.hid ((HKW.out.trans (Keeps.of_below_size hb3)).trans ((keeps_set w3 bb f _).mono (fun g _ hg => .inl (.inr (.inl hg)))))
      have HG4 : Hid (∀ g, rfFoot m bb fb (setA ad2 f b3) g → rfFoot m bb fb ad g ∨ w1.heap.size ≤ g) := Lib.hid (fun g hg => (foot_row hg).elim (HG.out g) (fun h => by have := (hf3.lt g ((ownB_any _ _ _ _ _).trans h)).1; have := HKW.out.size; exact .inr (by omega)))
      have hat3 := HR3.out.at HF64.out
      rw [HCAT.out, HN.out, HD.out, HAD.out, HCC.out] at hat3
      obtain ⟨d1, d2, d3, d4, y1, y2⟩ := hat3
      have hl1 : d + x ≤ cc := by omega
      have hl2 : (d : Int) + (x : Int) ≤ (cc : Int) := by omega
      have hl0 : (0 : Int) ≤ (d : Int) + (x : Int) := by omega
      clear hsf hsr hf3 hg3 ha3 hb3 h4 hxn hlt2 HROWW HR3 HBW HKW HB HK HG HROW HAT HL HNE HCAT HCS HAD HN HD HX HCC
      go_wp2_with fail
      go_region
      all_goals
        clear c1 c2 cb cf zb zf d1 d2 d3 d4 y1 y2 hr3 hl0 hl1 hl2 hdb hbl hcap hcf
        go_wp2_with fail
        go_roundw
        case rel => exact ⟨i + 1, t + x, setA ad2 f b3, setA cp2 f c3, by go_num, by go_num, by omega, htx, HTX, HR4, HK4, HG4⟩
        case measure => simp [intOf]; omega
    · obtain rfl : i = fs.length := by omega
      have hA0 := ati_start (C fs.length) s.D fs t flip ht
      have hfn := HC.out.fin
      rw [← HT.out] at hfn
      have HFN := Lib.hid hfn
      have HCG := Lib.hid HC.out.cge
      have HCL := Lib.hid HC.out.clen
      have HC8 := Lib.hid HC.out.c8
      have HCD := Lib.hid HC.out.cdur
      have HFS := Lib.hid HC.out.lt
      generalize C fs.length = B2 at *
      generalize hR : optR B2 s.D fs t flip = R at *
      clear hR hfn hi
      have HA0 := Lib.hid hA0
      clear hA0
      have hcase : (¬ 0 ≤ flip ∧ atR t flip = -1) ∨ (0 ≤ flip ∧ t = 0 ∧ atR t flip = -1) ∨ ∃ fl : Nat, flip = (fl : Int) ∧ 0 < t ∧ atR t flip = ((fl % (8 * t) : Nat) : Int) := by
        unfold atR
        by_cases h1 : 0 ≤ flip
        · by_cases h2 : 0 < t
          · right; right
            obtain ⟨fl, rfl⟩ := Int.eq_ofNat_of_zero_le h1
            exact ⟨fl, rfl, h2, by rw [if_pos ⟨h1, h2⟩, Int.toNat_natCast]⟩
          · right; left
            exact ⟨h1, by omega, by rw [if_neg (fun h => h2 h.2)]⟩
        · left
          exact ⟨h1, by rw [if_neg (fun h => h1 h.1)]⟩
      clear HT
      go_upto_region 12 with fail
      go_cut [12] (fun s12 wx => s12 = .int .i64 (-1) ∧ wr = wx)
      case first =>
        go_wp2_with fail
        go_meet
        case rel => exact ⟨rfl, rfl⟩
      obtain ⟨rfl, rfl⟩ := hcut
      apply_assumption
      refine wp_seq_k (fun K5 hK5 => ?_)
      go_cut [12] (fun s12 wx => ∃ a : Int, s12 = .int .i64 a ∧ Hid (AtI B2 s.D fs R 0 a B2) ∧ Hid (Below wr.heap.size wr wx))
      case first =>
        rcases hcase with ⟨h1, h2⟩ | ⟨h1, h2, h3⟩ | ⟨fl, h1, h2, h3⟩
        · have HST : Hid (AtI B2 s.D fs R 0 (-1) B2) := Lib.hid (by rw [← h2]; exact HA0.out)
          clear h2
          go_wp2_with fail
          go_meet
          case rel => exact ⟨_, rfl, HST, Lib.hid (Below.refl _ _)⟩
        · have HST : Hid (AtI B2 s.D fs R 0 (-1) B2) := Lib.hid (by rw [← h3]; exact HA0.out)
          clear h3
          subst h2
          go_wp2_with fail
          go_meet
          case rel => exact ⟨_, rfl, HST, Lib.hid (Below.refl _ _)⟩
        · have HST : Hid (AtI B2 s.D fs R 0 ((fl % (8 * t) : Nat) : Int) B2) := Lib.hid (by rw [← h3]; exact HA0.out)
          clear h3
          subst h1
          have htm : ((fl : Int)).tmod (8 * (t : Int)) = ((fl % (8 * t) : Nat) : Int) := by
            have : (8 * (t : Int)) = ((8 * t : Nat) : Int) := by omega
            rw [this]
            rfl
          have hne : ¬ 8 * (t : Int) = 0 := by omega
          have hne2 : ¬ 8 * t = 0 := by omega
          go_wp2_with fail
          go_meet
          case rel => exact ⟨_, rfl, HST, Lib.hid (Below.refl _ _)⟩
      obtain ⟨a0, rfl, HST, HBE⟩ := hcut
      have HBC := Lib.hid (HB.out.below HBE.out)
      have HKC : Hid (Keeps (fun g => rfFoot m bb fb ad g ∨ w1.heap.size ≤ g) w1 wc) := Lib.hid (HK.out.trans (Keeps.of_below_size HBE.out))
      clear HA0 HB HK HBE hcase
      go_wp2_with fail
      go_loopw [12, 13] (fun s12 s13 wr2 => ∃ (i : Nat) (a : Int) (Bc : Nat → List Nat), s12 = .int .i64 a ∧ s13 = .int .i64 (i : Int) ∧ i ≤ fs.length ∧ a ≤ 8589934592 ∧ -8 - 134217728 * (i : Int) ≤ a ∧ Hid (AtI B2 s.D fs R i a Bc) ∧ Hid (Rf wr2 m bb fb room off plan Bc s.D ad2 cp2) ∧ Hid (Keeps (fun g => rfFoot m bb fb ad g ∨ w1.heap.size ≤ g) w1 wr2)) (fun _ s13 _ => fs.length - (intOf s13).toNat)
      case atStart => exact ⟨0, _, B2, rfl, rfl, Nat.zero_le _, HST.out.1, HST.out.2.1, HST, HBC, HKC⟩
      case round =>
        obtain ⟨i, a, Bc, rfl, rfl, hi, ha1, ha2, HT2, HB2, HK2⟩ := hrel
        clear HST HBC HKC
        by_cases hlt : i < fs.length
        · obtain ⟨g, hg, hcf⟩ := (HF1.out.keeps HK2.out (fun g hg => hg.elim (fun h => .inl (HLT.out g h)) .inr)).at hlt
          subst hg
          have hf64 := HFS.out i hlt
          have HTK := Lib.hid (atk_start hlt HT2.out)
          have hge := HCG.out i hlt
          generalize fs[i] = f at *
          have HF64 := Lib.hid hf64
          have hcf1 : (f : Int) < 64 := by omega
          have hcf0 : (0 : Int) ≤ (f : Int) := by omega
          have hlen := ati_len HT2.out f
          have hat := HB2.out.at hf64
          rw [hlen] at hat
          have hcl := HCL.out f
          have hcd := HCD.out f
          have HBF : Hid (∀ (at_ : Int) (k : Nat) (Bd : Nat → List Nat), AtK B2 s.D fs R i f k at_ Bd → (Bd f).length = (B2 f).length) := Lib.hid (fun at_ k Bd h => atkk_len h f)
          clear hlen HT2 hf64
          have HAT := Lib.hid hat
          obtain ⟨c1, c2, cb, cf, zb, zf⟩ := hat
          generalize hn : (B2 f).length = n at *
          have HN : Hid ((B2 f).length = n) := Lib.hid hn
          clear hn
          generalize hd : s.D f = d at *
          clear hd
          have ha3 : -8 - 134217728 * (i : Int) - 8 * (d : Int) ≤ a := by omega
          go_wp2_with fail
          clear c1 c2 cb cf zb zf
          go_loopw [12, 15] (fun s12 s15 wr3 => ∃ (k : Nat) (a : Int) (Bc : Nat → List Nat), s12 = .int .i64 a ∧ s15 = .int .i64 (k : Int) ∧ k ≤ n ∧ a ≤ 8589934592 ∧ -8 - 134217728 * (i : Int) - 8 * (k : Int) ≤ a ∧ Hid (AtK B2 s.D fs R i f k a Bc) ∧ Hid (Rf wr3 m bb fb room off plan Bc s.D ad2 cp2) ∧ Hid (Keeps (fun g => rfFoot m bb fb ad g ∨ w1.heap.size ≤ g) w1 wr3)) (fun _ s15 _ => n - (intOf s15).toNat)
          case atStart => exact ⟨d, a, Bc, rfl, rfl, hge, ha1, ha3, HTK, HB2, HK2⟩
          case round =>
            obtain ⟨k, a, Bc, rfl, rfl, hk, ha1, ha2, HTK, HB2, HK2⟩ := hrel
            have hlb := HBF.out a k Bc HTK.out
            have HC9 : Hid (∀ c ∈ Bc f, c < 256) := Lib.hid (atk_b8 HTK.out (fun j => HC8.out j) f)
            have hat := HB2.out.at HF64.out
            rw [hlb] at hat
            by_cases hkn : k < n
            · have hrow := HB2.out.row f HF64.out
              unfold slV at hrow
              rw [hlb] at hrow
              obtain ⟨g2, had, hcap⟩ : ∃ g2, ad2 f = some ⟨g2, 0, none⟩ ∧ n ≤ cp2 f := by
                rcases fresh_form hrow with ⟨_, h0⟩ | ⟨g2, cap, hv, _, _, hc, _⟩
                · have := congrArg List.length h0
                  rw [natI_length] at this
                  have h1 : (Bc f).length = 0 := this
                  omega
                · injection hv with h1 h2 h3
                  rw [natI_length] at hc
                  exact ⟨g2, h1, by omega⟩
              rw [had] at hrow hat
              have hkb : k < (Bc f).length := by omega
              have hcell : wr.cell? ⟨g2, k, none⟩ = some (.int .u8 (((Bc f)[k] : Nat) : Int)) := by
                have := fresh_cell hrow (j := k) (by rw [natI_length]; exact hkb)
                rw [natI_atR hkb] at this
                exact this
              have hfz : wr.frozen? ⟨g2, k, none⟩ = false := fresh_frozen2 hrow (by rw [natI_length, hlb]) k
              have HAD := Lib.hid had
              obtain ⟨c1, c2, cb, cf, zb, zf⟩ := hat
              have hkn0 : (0 : Int) ≤ (k : Int) := by omega
              have hkn1 : (k : Int) < (n : Int) := by omega
              have HKB := Lib.hid hkb
              by_cases hab : 0 ≤ a ∧ a < 8
              · obtain ⟨b, rfl⟩ := Int.eq_ofNat_of_zero_le hab.1
                have hb8 : b < 8 := by omega
                have h8 : (Bc f)[k] < 256 := HC9.out (Bc f)[k] (List.getElem_mem hkb)
                have HFB := Lib.hid (flip_bits b h8).1
                have hbm : b % 8 = b := by omega
                obtain ⟨mm, hmm⟩ : ∃ mm, 7 - b % 8 = mm := ⟨_, rfl⟩
                have hs7 : (7 : Int) - (b : Int) = (mm : Int) := by omega
                have HTK2 := Lib.hid (atk_turn (by rw [HN.out]; exact hkn) hb8 HTK.out)
                have hst := HB2.out.setByte (c := flipN (((Bc f)[k]?).getD 0) b) (j := k) HF64.out had
                rw [List.getElem?_eq_getElem hkb] at hst HTK2
                simp only [Option.getD_some] at hst HTK2
                have HST2 := Lib.hid hst
                have HKT : Hid (Keeps (fun g => rfFoot m bb fb ad g ∨ w1.heap.size ≤ g) w1 (wr.setCell ⟨g2, k, none⟩ (.int .u8 (flipN (Bc f)[k] b : Int)))) := Lib.hid (HK2.out.trans ((keeps_set wr g2 k _).mono (fun g _ hg => by
                  rw [hg]; exact HG.out g2 (.inr (.inr (.inr ⟨f, HF64.out, by rw [had]; rfl⟩))))))
                generalize (Bc f)[k] = cv at *
                clear hst hab HTK hrow hlb hkb had hbm
                go_wp2_with fail
                go_region
                all_goals
                  subst hmm
                  rw [HFB.out]
                  go_wp2_with fail
                  go_roundw
                  case rel => exact ⟨k + 1, (b : Int) - 8, _, by go_num, by go_num, by omega, by omega, by omega, HTK2, Lib.hid HST2.out.drew, Lib.hid HKT.out.drew⟩
                  case measure => simp [intOf]; omega
              · have hab2 : ¬ 0 ≤ a ∨ ¬ a < 8 := by omega
                have HTK2 := Lib.hid (atk_next (by rw [HN.out]; exact hkn) hab HTK.out)
                clear hab HTK hrow hlb hcell hfz hkb
                rcases hab2 with hab2 | hab2
                all_goals
                  go_wp2_with fail
                  go_roundw
                  case rel => exact ⟨k + 1, a - 8, Bc, by go_num, by go_num, by omega, by omega, by omega, HTK2, HB2, HK2⟩
                  case measure => simp [intOf]; omega
            · obtain rfl : k = n := by omega
              have HT3 := Lib.hid (atk_end HN.out.symm (by omega) HTK.out)
              obtain ⟨c1, c2, cb, cf, zb, zf⟩ := hat
              clear hlb HTK
              go_wp2_with fail
              go_roundw
              case rel => exact ⟨i + 1, a, Bc, by go_num, by go_num, by omega, ha1, HT3.out.2.1, HT3, HB2, HK2⟩
              case measure => simp [intOf]; omega
        · obtain rfl : i = fs.length := by omega
          have hbe := ati_end HT2.out
          rw [HFN.out] at hbe
          subst hbe
          have HBL4 : Hid (∀ k, ((pCrash s keep flip).B k).length ≤ 16777216) := Lib.hid (fun k => by rw [ati_len HT2.out k]; exact HCL.out k)
          clear HT2
          have HEND : Hid (∀ wz : World, Rf wz m bb fb room false (-1) (pCrash s keep flip).B (fun k => ((pCrash s keep flip).B k).length) ad2 cp2 → Keeps (fun g => rfFoot m bb fb ad g ∨ w1.heap.size ≤ g) w1 wz → UpR w A m room (pCrash s keep flip) wz) := Lib.hid (fun wz hz hkz =>
            upr_of (s := pCrash s keep flip) (ad2 := ad2) (cp2 := cp2) HA.out (keeps_two (Keeps.of_below_size HB1.out) hkz) hz (fun g hg => (HG.out g hg).imp id (fun h => Nat.le_trans HB1.out.size h)))
          generalize (pCrash s keep flip).B = B4 at *
          go_wp2_with fail
          go_loopw [16] (fun s16 wr4 => ∃ j : Nat, s16 = .int .i64 (j : Int) ∧ j ≤ 64 ∧ Hid (Rf wr4 m bb fb room off plan B4 (firmTo B4 s.D j) ad2 cp2) ∧ Hid (Keeps (fun g => rfFoot m bb fb ad g ∨ w1.heap.size ≤ g) w1 wr4)) (fun s16 _ => 64 - (intOf s16).toNat)
          case atStart => exact ⟨0, rfl, Nat.zero_le _, Lib.hid (HB2.out.durs (fun k _ => by unfold firmTo; rw [if_neg (Nat.not_lt_zero _)])), HK2⟩
          case round =>
            obtain ⟨j, rfl, hj, HB5, HK5⟩ := hrel
            clear HB2 HK2
            by_cases hlt4 : j < 64
            · obtain ⟨c1, c2, cb, cf, zb, zf⟩ := HB5.out.drew.at hlt4
              have HN4 : Hid (Rf (wr.drew.setCell ⟨fb, j, none⟩ (.int .i64 ((B4 j).length : Int))) m bb fb room off plan B4 (firmTo B4 s.D (j + 1)) ad2 cp2) := Lib.hid (by rw [← firmTo_succ]; exact HB5.out.drew.setFirm j _)
              have HKN : Hid (Keeps (fun g => rfFoot m bb fb ad g ∨ w1.heap.size ≤ g) w1 (wr.drew.setCell ⟨fb, j, none⟩ (.int .i64 ((B4 j).length : Int)))) := Lib.hid ((HK5.out.drew).trans ((keeps_set _ fb j _).mono (fun g _ hg => .inl (.inr (.inr (.inl hg))))))
              have hln := HBL4.out j
              generalize (B4 j).length = nn at *
              have hj0 : (0 : Int) ≤ (j : Int) := by omega
              have hj1 : (j : Int) < 64 := by omega
              go_wp2_with fail
              go_region
              all_goals
                go_wp2_with fail
                go_roundw
                case rel => exact ⟨j + 1, by go_num, by omega, HN4, HKN⟩
                case measure => simp [intOf]; omega
            · obtain rfl : j = 64 := by omega
              have h1 := HB5.out.setOff false
              have h2 := h1.setPlan (-1)
              have HZ := Lib.hid (h2.durs (D2 := fun k => (B4 k).length) (fun k hk => by unfold firmTo; rw [if_pos hk]))
              have c3 := HB5.out.dk.cell 3
              have f3 := HB5.out.dk.frozen 3
              have c4 := h1.dk.cell 4
              have f4 := h1.dk.frozen 4
              simp only [List.getElem?_cons_succ, List.getElem?_cons_zero] at c3 c4
              have HKZ := Lib.hid ((HK5.out.trans ((keeps_set wr m 3 (.bool false)).mono (fun g _ hg => .inl (.inl hg)))).trans ((keeps_set _ m 4 (.int .i64 (-1))).mono (fun g _ hg => .inl (.inl hg))))
              clear h1 h2
              go_wp2_with fail
              go_end0
              exact ⟨rfl, HEND.out _ HZ.out HKZ.out⟩
end Go.Proofs.YtlljcnhcknmoaaaGreat
