/-
  The walks of the laws HashSum and HashBytes: Sum, Bytes and Pair agree with the reference. Plain facts: sums and hashes of lists that differ at one place, or within one group. The walk of the law HashOneGroup: changes within one group of a byte slice change its hash. The walk of the law HashOneWord: one word that is another changes the sum. Plain facts: the sums of two labels that differ in one byte. The walk of the law HashOneLabel: a label that is another in one byte changes the sum.
-/
import Derived.Test.YtjoablphojkimaaGreatDoorWkA
import Derived.Deep.RegionWith
import Derived.Laws.BytesArg
import Derived.Laws.BitsAllLaws
import Derived.Lib.ConvBytes
namespace Go.Proofs.YtjoablphojkimaaGreatDoor
open Go.RowKit Go.Shelf
set_option linter.unusedVariables false
set_option maxRecDepth 100000

theorem ints_nil (k : IntKind) (w : World) : Ints k w (.slice none 0 0) [] := ⟨none, 0, rfl, Nat.le_refl _, by decide, fun h => (h rfl).elim⟩

open Go.RowKit

theorem list_split {α : Type} (l : List α) {k : Nat} (hk : k < l.length) : l = l.take k ++ l[k] :: l.drop (k + 1) := by
  rw [List.getElem_cons_drop hk, List.take_append_drop]

theorem sumN_at (label : List Nat) {us ws : List Int} (hl : us.length = ws.length) {k : Nat} (hk : k < us.length) (he : ∀ i, i ≠ k → us[i]? = ws[i]?) (h : sumN label us = sumN label ws) :
    ofInt us[k] = ofInt (ws[k]'(hl ▸ hk)) := by
  have hk2 : k < ws.length := hl ▸ hk
  have e1 : us.take k = ws.take k := by
    apply List.ext_getElem?
    intro i
    rw [List.getElem?_take, List.getElem?_take]
    split
    · exact he i (by omega)
    · rfl
  have e2 : us.drop (k + 1) = ws.drop (k + 1) := by
    apply List.ext_getElem?
    intro i
    rw [List.getElem?_drop, List.getElem?_drop]
    exact he _ (by omega)
  rw [list_split us hk, list_split ws hk2, e1, e2] at h
  exact sumN_word label _ _ h

theorem grp_getElem? (l : List Nat) (q j : Nat) : (grp l q)[j]? = if j < 8 then l[8 * q + j]? else none := by
  unfold grp
  rw [List.getElem?_take, List.getElem?_drop]

theorem grp_congr {x y : List Nat} {q : Nat} (h : ∀ i, i / 8 = q → x[i]? = y[i]?) : grp x q = grp y q := by
  apply List.ext_getElem?
  intro j
  rw [grp_getElem?, grp_getElem?]
  split
  · exact h _ (by omega)
  · rfl

theorem group_inj (label : List Nat) {x y : List Nat} (hl : x.length = y.length) (hx : ∀ c ∈ x, c < 256) (hy : ∀ c ∈ y, c < 256) {q : Nat} (he : ∀ i, i / 8 ≠ q → x[i]? = y[i]?)
    (h : bytesN label x = bytesN label y) : x = y := by
  have hgr : grp x q = grp y q := by
    by_cases hq : q < (x.length + 7) / 8
    · have hw : (wordsN x).length = (wordsN y).length := by rw [words_length, words_length, hl]
      unfold bytesN at h
      rw [hl] at h
      have hlen : ((wordsN x).map toInt ++ [(y.length : Int)]).length = ((wordsN y).map toInt ++ [(y.length : Int)]).length := by simp [hw]
      have hqx : q < (wordsN x).length := by rw [words_length]; exact hq
      have hqy : q < (wordsN y).length := hw ▸ hqx
      have hk : q < ((wordsN x).map toInt ++ [(y.length : Int)]).length := by simp; omega
      have hoth : ∀ i, i ≠ q → ((wordsN x).map toInt ++ [(y.length : Int)])[i]? = ((wordsN y).map toInt ++ [(y.length : Int)])[i]? := by
        intro i hi
        rw [List.getElem?_append, List.getElem?_append, List.length_map, List.length_map, hw]
        split
        · rename_i hlt
          have : (wordsN x)[i]? = (wordsN y)[i]? := by
            unfold wordsN
            rw [List.getElem?_map, List.getElem?_map, hl]
            by_cases hir : i < (y.length + 7) / 8
            · rw [List.getElem?_range hir]
              simp only [Option.map_some]
              rw [grp_congr (fun j hj => he j (by omega))]
            · rw [List.getElem?_eq_none (by simp; omega)]; rfl
          rw [List.getElem?_map, List.getElem?_map, this]
        · rfl
      have := sumN_at label hlen hk hoth h
      rw [List.getElem_append_left (by simp; exact hqx), List.getElem_append_left (by simp; exact hqy), List.getElem_map, List.getElem_map,
        ofInt_toInt (words_lt hx _ (List.getElem_mem _)), ofInt_toInt (words_lt hy _ (List.getElem_mem _))] at this
      have g1 : (wordsN x)[q] = leN (grp x q) := by simp [wordsN]
      have g2 : (wordsN y)[q] = leN (grp y q) := by simp [wordsN]
      rw [g1, g2] at this
      exact leN_inj (by rw [grp_length, grp_length, hl]) (fun c hc => hx c (grp_mem hc)) (fun c hc => hy c (grp_mem hc)) this
    · have z1 : grp x q = [] := by apply List.eq_nil_of_length_eq_zero; rw [grp_length]; omega
      have z2 : grp y q = [] := by apply List.eq_nil_of_length_eq_zero; rw [grp_length, ← hl]; omega
      rw [z1, z2]
  apply List.ext_getElem?
  intro i
  by_cases hi : i / 8 = q
  · have h1 := grp_getElem? x q (i % 8)
    have h2 := grp_getElem? y q (i % 8)
    rw [if_pos (by omega), show 8 * q + i % 8 = i by omega] at h1 h2
    rw [← h1, ← h2, hgr]
  · exact he i hi

def AroundEnd (m : Nat) (w : World) (e : Ending) (w' : World) : Prop := ∃ k : Nat, k < m ∧ e = .returned (.int .i64 (k : Int)) ∧ w = w'
theorem around_nat (n : Int) (m : Nat) (w : World) (hn : -9223372036854775808 ≤ n ∧ n ≤ 9223372036854775807) (hm : 1 ≤ m) (hm2 : m ≤ 4611686018427387904) :
    Calls Tryz.prog 11 #[.int .i64 n, .int .i64 (m : Int)] w (AroundEnd m w) := by
  refine (around_any n m w hn hm hm2).mono ?_
  rintro e w' ⟨rfl, rfl⟩
  have h1 : 0 ≤ aroundI n m := Int.emod_nonneg _ (by omega)
  have h2 : aroundI n m < m := Int.emod_lt_of_pos _ (by omega)
  obtain ⟨k, hk⟩ := Int.eq_ofNat_of_zero_le h1
  exact ⟨k, by omega, by rw [hk], rfl⟩

theorem row_of_fresh {B : Nat} {e : TypeId} {k : IntKind} {w : World} {v : Value} {zs : List Int} (h : Fresh B e k w v zs) : Row k w v zs := by
  obtain ⟨a, cap, h1, h2, h3⟩ := fresh_elems h
  refine ⟨a, cap, h1, h2, ?_, h3, ?_⟩
  · rcases h.2 with ⟨rfl, _⟩ | ⟨g, cap', cur, rfl, _, _, _, hm, _⟩
    · injection h1 with e1 e2 e3; omega
    · injection h1 with e1 e2 e3; unfold maxLen at hm; omega
  · rintro rfl
    rcases h.2 with ⟨rfl, h0⟩ | ⟨g, cap', cur, rfl, _⟩
    · injection h1 with e1 e2 e3
      exact ⟨List.eq_nil_of_length_eq_zero h0, e3.symm⟩
    · injection h1 with e1; cases e1

/-- A slice of the call's own that is not empty, written out. -/
theorem fresh_some {B : Nat} {e : TypeId} {k : IntKind} {w : World} {v : Value} {zs : List Int} (h : Fresh B e k w v zs) (hz : zs ≠ []) :
    ∃ g cap, v = .slice (some ⟨g, 0, none⟩) zs.length cap ∧ B ≤ g ∧ g < w.heap.size ∧ zs.length ≤ cap := by
  rcases h.2 with ⟨_, h0⟩ | ⟨g, cap, cur, rfl, h1, h2, h3, _⟩
  · exact (hz (List.eq_nil_of_length_eq_zero h0)).elim
  · exact ⟨g, cap, rfl, h1, (Array.getElem?_eq_some_iff.1 h2).1, h3⟩

theorem fresh_grown {B : Nat} {e : TypeId} {k : IntKind} {w w' : World} {g cap n : Nat} {zs : List Int} {row : Nat} (h : Fresh B e k w (.slice (some ⟨g, 0, none⟩) n cap) zs) (hg : w.grownBy w' (some row)) (hne : g ≠ row) : Fresh B e k w' (.slice (some ⟨g, 0, none⟩) n cap) zs :=
  World.ownsRow.kept h hg (.inr (by simpa [Value.ownBlock] using hne))

theorem fresh_store {B : Nat} {e : TypeId} {k : IntKind} {w : World} {g cap : Nat} {zs : List Int} (h : Fresh B e k w (.slice (some ⟨g, 0, none⟩) zs.length cap) zs) (j : Nat) (c : Int) :
    Fresh B e k (w.setCell ⟨g, j, none⟩ (.int k c)) (.slice (some ⟨g, 0, none⟩) zs.length cap) (zs.set j c) ∧ w.grownBy (w.setCell ⟨g, j, none⟩ (.int k c)) (some g) := by
  have := World.ownsRow.stored h j (.int k c)
  unfold Fresh
  rw [List.length_set, List.map_set]
  exact this

theorem fresh_store2 {B : Nat} {e : TypeId} {k : IntKind} {w : World} {g cap n : Nat} {zs : List Int} (h : Fresh B e k w (.slice (some ⟨g, 0, none⟩) n cap) zs) (hn : n = zs.length) (j : Nat) (c : Int) :
    Fresh B e k (w.setCell ⟨g, j, none⟩ (.int k c)) (.slice (some ⟨g, 0, none⟩) n cap) (zs.set j c) ∧ w.grownBy (w.setCell ⟨g, j, none⟩ (.int k c)) (some g) := by
  subst hn; exact fresh_store h j c

theorem fresh_cell {B : Nat} {e : TypeId} {k : IntKind} {w : World} {g cap n : Nat} {zs : List Int} (h : Fresh B e k w (.slice (some ⟨g, 0, none⟩) n cap) zs) {j : Nat} (hj : j < zs.length) : w.cell? ⟨g, j, none⟩ = some (.int k (zs[j]?.getD 0)) := by
  obtain ⟨a, c, h1, h2, h3⟩ := fresh_elems h
  obtain ⟨b, off, h4, h5⟩ := h3 (fun e => by rw [e] at hj; simp at hj)
  cases h1
  cases h4
  have := h5 j hj
  rwa [Nat.zero_add] at this

theorem fresh_frozen {B : Nat} {e : TypeId} {k : IntKind} {w : World} {g cap : Nat} {zs : List Int} (h : Fresh B e k w (.slice (some ⟨g, 0, none⟩) zs.length cap) zs) (j : Nat) : w.frozen? ⟨g, j, none⟩ = false :=
  World.ownsRow.frozenAt h j

theorem bytes_range_set {zs : List Int} (h : ∀ n ∈ zs, 0 ≤ n ∧ n ≤ 255) (j : Nat) {c : Int} (hc : 0 ≤ c ∧ c ≤ 255) : ∀ n ∈ zs.set j c, 0 ≤ n ∧ n ≤ 255 := by
  intro n hn
  rcases List.mem_or_eq_of_mem_set hn with h1 | h1
  · exact h n h1
  · rw [h1]; exact hc

theorem toNats_mem {zs : List Int} (h : ∀ n ∈ zs, 0 ≤ n ∧ n ≤ 255) : ∀ c ∈ toNats zs, c < 256 := by
  intro c hc
  obtain ⟨n, hn, rfl⟩ := List.mem_map.1 hc
  have := h n hn
  omega

theorem toNats_inj {x y : List Int} (hx : ∀ n ∈ x, 0 ≤ n ∧ n ≤ 255) (hy : ∀ n ∈ y, 0 ≤ n ∧ n ≤ 255) (h : toNats x = toNats y) : x = y := by
  induction x generalizing y with
  | nil => cases y with
    | nil => rfl
    | cons _ _ => simp [toNats] at h
  | cons a l ih =>
    cases y with
    | nil => simp [toNats] at h
    | cons b m =>
      have h1 : a.toNat = b.toNat ∧ toNats l = toNats m := by simpa [toNats] using h
      have h2 := hx a (by simp)
      have h3 := hy b (by simp)
      rw [ih (fun n hn => hx n (by simp [hn])) (fun n hn => hy n (by simp [hn])) h1.2, show a = b by omega]

/-- The hashes of two byte lists that differ within one group are equal just where the lists are. -/
theorem group_eq (label : List Nat) {x y : List Int} (hl : x.length = y.length) (hx : ∀ n ∈ x, 0 ≤ n ∧ n ≤ 255) (hy : ∀ n ∈ y, 0 ≤ n ∧ n ≤ 255) {q : Nat} (he : ∀ i, i / 8 ≠ q → x[i]? = y[i]?) (h : x ≠ y) :
    bytesN label (toNats x) ≠ bytesN label (toNats y) := fun e =>
  h (toNats_inj hx hy (group_inj label (by rw [toNats_length, toNats_length, hl]) (toNats_mem hx) (toNats_mem hy) (q := q) (fun i hi => by
    unfold toNats; rw [List.getElem?_map, List.getElem?_map, he i hi]) e))

/-- Two slices of the call's own hold xs and ys; nothing that lay before the call has changed. -/
def Two (B1 B2 : Nat) (e : TypeId) (k : IntKind) (w : World) (u v : Value) (xs ys : List Int) (W : World) : Prop :=
  Fresh B1 e k W u xs ∧ Fresh B2 e k W v ys ∧ Below w.heap.size w W

theorem Two.step {B1 B2 : Nat} {e : TypeId} {k : IntKind} {w : World} {u v : Value} {xs ys : List Int} {W W2 : World} (h : Two B1 B2 e k w u v xs ys W) (hb : Below W.heap.size W W2) : Two B1 B2 e k w u v xs ys W2 :=
  ⟨fresh_keeps h.1 hb, fresh_keeps h.2.1 hb, below_then h.2.2 hb⟩

theorem word_eq (label : List Nat) {xs : List Int} (hx : ∀ n ∈ xs, -9223372036854775808 ≤ n ∧ n ≤ 9223372036854775807) {k : Nat} (hk : k < xs.length) {v : Int} (hv : -9223372036854775808 ≤ v ∧ v ≤ 9223372036854775807) :
    ((sumN label xs : Int) == (sumN label (xs.set k v) : Int)) = (xs[k] == v) := by
  by_cases h : xs[k] = v
  · have : xs.set k v = xs := by rw [← h]; exact List.set_getElem_self hk
    rw [this, h]; simp
  · rw [show (xs[k] == v) = false by simp [h]]
    refine eq_false (fun e => h ?_)
    have := sumN_at label (by simp) hk (fun i hi => (List.getElem?_set_ne (Ne.symm hi)).symm) e
    rw [List.getElem_set_self] at this
    exact ofInt_inj (hx _ (List.getElem_mem hk)) hv this

open Go.RowKit

theorem label_inj {x y : List Nat} (ws : List Int) (hw : ws.length < T64) (hx8 : x.length < T64) (hl : x.length = y.length) (hx : ∀ c ∈ x, c < 256) (hy : ∀ c ∈ y, c < 256) {q : Nat} (he : ∀ i, i / 8 ≠ q → x[i]? = y[i]?)
    (h : sumN x ws = sumN y ws) : x = y := by
  have hgr : grp x q = grp y q := by
    by_cases hq : q < (x.length + 7) / 8
    · have hwl : (wordsN x).length = (wordsN y).length := by rw [words_length, words_length, hl]
      have hqx : q < (wordsN x).length := by rw [words_length]; exact hq
      have hqy : q < (wordsN y).length := hwl ▸ hqx
      unfold sumN at h
      have h2 := mixN_state (by decide) (fold_lt (mixN_lt _ _) _) (fold_lt (mixN_lt _ _) _) h
      have h3 := fold_state (mixN_lt _ _) (mixN_lt _ _) _ (map_ofInt_lt ws) h2
      have h4 := mixN_state hw (mixN_lt _ _) (mixN_lt _ _) h3
      rw [← hl] at h4
      have h5 := mixN_state hx8 (fold_lt (by decide) _) (fold_lt (by decide) _) h4
      have hoth : ∀ i, i ≠ q → (wordsN x)[i]? = (wordsN y)[i]? := by
        intro i hi
        unfold wordsN
        rw [List.getElem?_map, List.getElem?_map, hl]
        by_cases hir : i < (y.length + 7) / 8
        · rw [List.getElem?_range hir]
          simp only [Option.map_some]
          rw [grp_congr (fun j hj => he j (by omega))]
        · rw [List.getElem?_eq_none (by simp; omega)]; rfl
      have e1 : (wordsN x).take q = (wordsN y).take q := by
        apply List.ext_getElem?
        intro i
        rw [List.getElem?_take, List.getElem?_take]
        split
        · exact hoth i (by omega)
        · rfl
      have e2 : (wordsN x).drop (q + 1) = (wordsN y).drop (q + 1) := by
        apply List.ext_getElem?
        intro i
        rw [List.getElem?_drop, List.getElem?_drop]
        exact hoth _ (by omega)
      rw [list_split (wordsN x) hqx, list_split (wordsN y) hqy, e1, e2] at h5
      have h6 := fold_word (by decide) _ _ (words_lt hx _ (List.getElem_mem hqx)) (words_lt hy _ (List.getElem_mem hqy)) (fun w hw => words_lt hy w (List.mem_of_mem_drop hw)) h5
      have g1 : (wordsN x)[q] = leN (grp x q) := by simp [wordsN]
      have g2 : (wordsN y)[q] = leN (grp y q) := by simp [wordsN]
      rw [g1, g2] at h6
      exact leN_inj (by rw [grp_length, grp_length, hl]) (fun c hc => hx c (grp_mem hc)) (fun c hc => hy c (grp_mem hc)) h6
    · have z1 : grp x q = [] := by apply List.eq_nil_of_length_eq_zero; rw [grp_length]; omega
      have z2 : grp y q = [] := by apply List.eq_nil_of_length_eq_zero; rw [grp_length, ← hl]; omega
      rw [z1, z2]
  apply List.ext_getElem?
  intro i
  by_cases hi : i / 8 = q
  · have h1 := grp_getElem? x q (i % 8)
    have h2 := grp_getElem? y q (i % 8)
    rw [if_pos (by omega), show 8 * q + i % 8 = i by omega] at h1 h2
    rw [← h1, ← h2, hgr]
  · exact he i hi

theorem strN_ofNums {zs : List Int} (h : ∀ n ∈ zs, 0 ≤ n ∧ n ≤ 255) : strN (strOfNums zs) = toNats zs := by
  unfold strN toNats
  rw [strOfNums_data, List.map_map]
  refine List.map_congr_left fun n hn => ?_
  have := h n hn
  simp only [Function.comp, UInt8.toNat_ofNat']
  omega

theorem toNats_natI (l : List Nat) : toNats (natI l) = l := by
  unfold toNats natI
  rw [List.map_map]
  conv => rhs; rw [← List.map_id l]
  exact List.map_congr_left fun n _ => rfl

theorem natI_range {l : List Nat} (h : ∀ c ∈ l, c < 256) : ∀ n ∈ natI l, 0 ≤ n ∧ n ≤ 255 := by
  intro n hn
  obtain ⟨c, hc, rfl⟩ := List.mem_map.1 hn
  have := h c hc
  omega

/-- One byte of a label xored: the sum is the same just where it is xored with nothing. -/
theorem label_eq (ws : List Int) (hw : ws.length ≤ 1000000) {xs : List Int} (hl : xs.length ≤ 1000000) (hx : ∀ n ∈ xs, 0 ≤ n ∧ n ≤ 255) {k : Nat} (hk : k < xs.length) {c : Int} (hc : 0 ≤ c ∧ c ≤ 255) :
    ((sumN (strN (strOfNums xs)) ws : Int) == (sumN (strN (strOfNums (xs.set k (bits .xor .u8 xs[k] c)))) ws : Int)) = (c == 0) := by
  have hk2 := hx _ (List.getElem_mem hk)
  have e := u8_xor xs[k] c hk2.1 (by omega) hc.1 (by omega)
  by_cases h : c = 0
  · subst h
    have e2 : bits .xor .u8 xs[k] 0 = xs[k] := by
      rw [e]; show ((xs[k].toNat ^^^ 0 : Nat) : Int) = xs[k]
      rw [Nat.xor_zero]; omega
    rw [e2, List.set_getElem_self]
    simp
  · rw [show (c == 0) = false by simp [h]]
    have hc1 : 0 ≤ bits .xor .u8 xs[k] c ∧ bits .xor .u8 xs[k] c ≤ 255 := ⟨bits_lo_u8 _ _ _, bits_hi_u8 _ _ _⟩
    have hys := bytes_range_set hx k hc1
    rw [strN_ofNums hx, strN_ofNums hys]
    refine eq_false (fun e3 => h ?_)
    have e4 := label_inj ws (by unfold T64; omega) (by rw [toNats_length]; unfold T64; omega) (by rw [toNats_length, toNats_length, List.length_set]) (toNats_mem hx) (toNats_mem hys) (q := k / 8)
      (fun i hi => by unfold toNats; rw [List.getElem?_map, List.getElem?_map, List.getElem?_set_ne (fun e => hi (by rw [e]))]) e3
    have e5 := toNats_inj hx hys e4
    have e6 : xs[k]? = (xs.set k (bits .xor .u8 xs[k] c))[k]? := congrArg (fun l => l[k]?) e5
    rw [List.getElem?_set_self hk, List.getElem?_eq_getElem hk] at e6
    injection e6 with e7
    rw [e] at e7
    have e8 : xs[k].toNat ^^^ 0 = xs[k].toNat ^^^ c.toNat := by rw [Nat.xor_zero]; omega
    have := xor_cancel e8
    omega

theorem size_x (s : ByteArray) : (s ++ (⟨#[120]⟩ : ByteArray)).size = s.size + 1 := ByteArray.size_append

theorem Ints.of_row {k : IntKind} {w : World} {v : Value} {zs : List Int} (h : Row k w v zs) (hz : zs.length ≤ 4611686018427387904) : Ints k w v zs := by
  obtain ⟨a, cap, h1, h2, h3, h4, h5⟩ := h
  exact ⟨a, cap, h1, h2, hz, h4⟩

theorem row_below {B : Nat} {k : IntKind} {w w' : World} {v : Value} {zs : List Int} (h : Row k w v zs) (hB : ∀ j, blockOf v j → j < B) (hb : Below B w w') : Row k w' v zs := by
  obtain ⟨a, cap, rfl, h2, h3, h4, h5⟩ := h
  refine ⟨a, cap, rfl, h2, h3, fun hne => ?_, h5⟩
  obtain ⟨b, off, rfl, hc⟩ := h4 hne
  exact ⟨b, off, rfl, fun j hj => (hb.cell (p := ⟨b, off + j, none⟩) (hB b rfl)).trans (hc j hj)⟩

/-- A string as a byte slice, as a row of integers. -/
theorem row_of_string (w : World) (s : ByteArray) (hs : s.size ≤ maxLen) (h1 : 1 ≤ s.size) :
    Row .u8 (Lib.bytesWorld w 5 s) (.slice (some ⟨w.heap.size, 0, none⟩) (natI (strN s)).length (grownCap w s.size 0 5)) (natI (strN s)) := by
  have hl : (natI (strN s)).length = s.size := by unfold natI; rw [List.length_map, strN_length]
  refine ⟨_, _, rfl, by rw [hl]; exact grownCap_ge _ _ _ _, ?_, fun _ => ⟨_, _, rfl, fun j hj => ?_⟩, fun h => by cases h⟩
  · have := grownCap_le_maxLen w s.size 0 5 hs
    unfold maxLen at this; omega
  · rw [hl] at hj
    rw [Nat.zero_add, Lib.bytesWorld_cell w _ s j hj]
    have : (natI (strN s))[j]?.getD 0 = (((strN s)[j]?.getD 0 : Nat) : Int) := by
      have hj2 : j < (strN s).length := by rw [strN_length]; exact hj
      unfold natI
      rw [List.getElem?_map, List.getElem?_eq_getElem hj2]; rfl
    rw [this, strN_get s j hj]

/-- The three slices of the law. -/
def Three (w : World) (u v x : Value) (ws xs ys : List Int) (W : World) : Prop :=
  Row .i64 W u ws ∧ Row .u8 W v xs ∧ Row .u8 W x ys ∧ Below w.heap.size w W

theorem Three.step {w : World} {u v x : Value} {ws xs ys : List Int} {W W2 : World} (h : Three w u v x ws xs ys W) (hb : Below W.heap.size W W2) : Three w u v x ws xs ys W2 :=
  ⟨row_keeps h.1 hb, row_keeps h.2.1 hb, row_keeps h.2.2.1 hb, below_then h.2.2.2 hb⟩

/-- A byte slice as a string. -/
theorem row_string {W : World} {g len cap : Nat} {xs : List Int} (h : Row .u8 W (.slice (some ⟨g, 0, none⟩) len cap) xs) (hl : len = xs.length) :
    (convert 33 9 (.slice (some ⟨g, 0, none⟩) len cap)).run Tryz.prog W = .ok (.string (strOfNums xs)) W := by
  obtain ⟨a, c, h1, h2, h3, h4, h5⟩ := h
  refine run_convert_bytes_arg (P := Tryz.prog) W 33 5 Tryz.underlying33 Tryz.underlying5 g 0 len cap xs hl.symm (fun i hi => ?_) _ Tryz.underlying9
  obtain ⟨b, off, e, hc⟩ := h4 (fun e => by rw [e] at hl; simp at hl; omega)
  cases h1
  cases e
  rw [hc i (by omega), List.getD_eq_getElem?_getD]

end Go.Proofs.YtjoablphojkimaaGreatDoor
