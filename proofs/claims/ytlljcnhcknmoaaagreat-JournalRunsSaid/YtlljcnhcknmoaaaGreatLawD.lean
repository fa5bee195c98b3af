/-
  The walk of the law HashOneGroup: changes within one group of a byte slice change its hash.
-/
import Derived.Test.YtlljcnhcknmoaaaGreatPlainB
import Derived.Test.YtlljcnhcknmoaaaGreatLawC
namespace Go.Proofs.YtlljcnhcknmoaaaGreat
open Go.RowKit Go.Shelf
set_option linter.unusedVariables false

def AroundEnd (m : Nat) (w : World) (e : Ending) (w' : World) : Prop := ∃ k : Nat, k < m ∧ e = .returned (.int .i64 (k : Int)) ∧ w = w'
theorem around_nat (n : Int) (m : Nat) (w : World) (hn : -9223372036854775808 ≤ n ∧ n ≤ 9223372036854775807) (hm : 1 ≤ m) (hm2 : m ≤ 4611686018427387904) :
    Calls Tryz.prog 4 #[.int .i64 n, .int .i64 (m : Int)] w (AroundEnd m w) := by
  refine (around_any n m w hn hm hm2).mono ?_
  rintro e w' ⟨rfl, rfl⟩
  have h1 : 0 ≤ aroundI n m := Int.emod_nonneg _ (by omega)
  have h2 : aroundI n m < m := Int.emod_lt_of_pos _ (by omega)
  obtain ⟨k, hk⟩ := Int.eq_ofNat_of_zero_le h1
  exact ⟨k, by omega, by rw [hk], rfl⟩

theorem row_of_fresh {B : Nat} {e : TypeId} {k : IntKind} {w : World} {v : Value} {zs : List Int} (h : Fresh B e k w v zs) : Row k w v zs := by
  obtain ⟨a, cap, h1, h2, h3⟩ := fresh_elems h
  refine ⟨a, cap, h1, h2, ?_, h3, ?_⟩
  · rcases h.2 with ⟨rfl, _⟩ | ⟨g, cap', cur, rfl, _, _, _, hm, _⟩
    · injection h1 with e1 e2 e3; omega
    · injection h1 with e1 e2 e3; unfold maxLen at hm; omega
  · rintro rfl
    rcases h.2 with ⟨rfl, h0⟩ | ⟨g, cap', cur, rfl, _⟩
    · injection h1 with e1 e2 e3
      exact ⟨List.eq_nil_of_length_eq_zero h0, e3.symm⟩
    · injection h1 with e1; cases e1

/-- A slice of the call's own that is not empty, written out. -/
theorem fresh_some {B : Nat} {e : TypeId} {k : IntKind} {w : World} {v : Value} {zs : List Int} (h : Fresh B e k w v zs) (hz : zs ≠ []) :
    ∃ g cap, v = .slice (some ⟨g, 0, none⟩) zs.length cap ∧ B ≤ g ∧ g < w.heap.size ∧ zs.length ≤ cap := by
  rcases h.2 with ⟨_, h0⟩ | ⟨g, cap, cur, rfl, h1, h2, h3, _⟩
  · exact (hz (List.eq_nil_of_length_eq_zero h0)).elim
  · exact ⟨g, cap, rfl, h1, (Array.getElem?_eq_some_iff.1 h2).1, h3⟩

theorem fresh_grown {B : Nat} {e : TypeId} {k : IntKind} {w w' : World} {g cap n : Nat} {zs : List Int} {row : Nat} (h : Fresh B e k w (.slice (some ⟨g, 0, none⟩) n cap) zs) (hg : w.grownBy w' (some row)) (hne : g ≠ row) : Fresh B e k w' (.slice (some ⟨g, 0, none⟩) n cap) zs :=
  World.ownsRow.kept h hg (.inr (by simpa [Value.ownBlock] using hne))

theorem fresh_store {B : Nat} {e : TypeId} {k : IntKind} {w : World} {g cap : Nat} {zs : List Int} (h : Fresh B e k w (.slice (some ⟨g, 0, none⟩) zs.length cap) zs) (j : Nat) (c : Int) :
    Fresh B e k (w.setCell ⟨g, j, none⟩ (.int k c)) (.slice (some ⟨g, 0, none⟩) zs.length cap) (zs.set j c) ∧ w.grownBy (w.setCell ⟨g, j, none⟩ (.int k c)) (some g) := by
  have := World.ownsRow.stored h j (.int k c)
  unfold Fresh
  rw [List.length_set, List.map_set]
  exact this

theorem fresh_store2 {B : Nat} {e : TypeId} {k : IntKind} {w : World} {g cap n : Nat} {zs : List Int} (h : Fresh B e k w (.slice (some ⟨g, 0, none⟩) n cap) zs) (hn : n = zs.length) (j : Nat) (c : Int) :
    Fresh B e k (w.setCell ⟨g, j, none⟩ (.int k c)) (.slice (some ⟨g, 0, none⟩) n cap) (zs.set j c) ∧ w.grownBy (w.setCell ⟨g, j, none⟩ (.int k c)) (some g) := by
  subst hn; exact fresh_store h j c

theorem fresh_cell {B : Nat} {e : TypeId} {k : IntKind} {w : World} {g cap n : Nat} {zs : List Int} (h : Fresh B e k w (.slice (some ⟨g, 0, none⟩) n cap) zs) {j : Nat} (hj : j < zs.length) : w.cell? ⟨g, j, none⟩ = some (.int k (zs[j]?.getD 0)) := by
  obtain ⟨a, c, h1, h2, h3⟩ := fresh_elems h
  obtain ⟨b, off, h4, h5⟩ := h3 (fun e => by rw [e] at hj; simp at hj)
  cases h1
  cases h4
  have := h5 j hj
  rwa [Nat.zero_add] at this

theorem fresh_frozen {B : Nat} {e : TypeId} {k : IntKind} {w : World} {g cap : Nat} {zs : List Int} (h : Fresh B e k w (.slice (some ⟨g, 0, none⟩) zs.length cap) zs) (j : Nat) : w.frozen? ⟨g, j, none⟩ = false :=
  World.ownsRow.frozenAt h j

theorem bytes_range_set {zs : List Int} (h : ∀ n ∈ zs, 0 ≤ n ∧ n ≤ 255) (j : Nat) {c : Int} (hc : 0 ≤ c ∧ c ≤ 255) : ∀ n ∈ zs.set j c, 0 ≤ n ∧ n ≤ 255 := by
  intro n hn
  rcases List.mem_or_eq_of_mem_set hn with h1 | h1
  · exact h n h1
  · rw [h1]; exact hc

theorem toNats_mem {zs : List Int} (h : ∀ n ∈ zs, 0 ≤ n ∧ n ≤ 255) : ∀ c ∈ toNats zs, c < 256 := by
  intro c hc
  obtain ⟨n, hn, rfl⟩ := List.mem_map.1 hc
  have := h n hn
  omega

theorem toNats_inj {x y : List Int} (hx : ∀ n ∈ x, 0 ≤ n ∧ n ≤ 255) (hy : ∀ n ∈ y, 0 ≤ n ∧ n ≤ 255) (h : toNats x = toNats y) : x = y := by
  induction x generalizing y with
  | nil => cases y with
    | nil => rfl
    | cons _ _ => simp [toNats] at h
  | cons a l ih =>
    cases y with
    | nil => simp [toNats] at h
    | cons b m =>
      have h1 : a.toNat = b.toNat ∧ toNats l = toNats m := by simpa [toNats] using h
      have h2 := hx a (by simp)
      have h3 := hy b (by simp)
      rw [ih (fun n hn => hx n (by simp [hn])) (fun n hn => hy n (by simp [hn])) h1.2, show a = b by omega]

/-- The hashes of two byte lists that differ within one group are equal just where the lists are. -/
theorem group_eq (label : List Nat) {x y : List Int} (hl : x.length = y.length) (hx : ∀ n ∈ x, 0 ≤ n ∧ n ≤ 255) (hy : ∀ n ∈ y, 0 ≤ n ∧ n ≤ 255) {q : Nat} (he : ∀ i, i / 8 ≠ q → x[i]? = y[i]?) (h : x ≠ y) :
    bytesN label (toNats x) ≠ bytesN label (toNats y) := fun e =>
  h (toNats_inj hx hy (group_inj label (by rw [toNats_length, toNats_length, hl]) (toNats_mem hx) (toNats_mem hy) (q := q) (fun i hi => by
    unfold toNats; rw [List.getElem?_map, List.getElem?_map, he i hi]) e))

end Go.Proofs.YtlljcnhcknmoaaaGreat
