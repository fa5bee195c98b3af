/-
  The law DiskArguments.
-/
import Derived.Deep.DeepCutAuto
import Derived.Test.YtjoablphojkimaaGreatDoorDkC
namespace Go.Proofs.YtjoablphojkimaaGreatDoor
open Go.RowKit Go.Shelf
set_option linter.unusedVariables false
set_option maxRecDepth 100000

theorem natI_toNats2 {zs : List Int} (h : ∀ n ∈ zs, 0 ≤ n ∧ n ≤ 255) : natI (toNats zs) = zs ∧ ∀ c ∈ toNats zs, c < 256 := by
  constructor
  · unfold natI toNats
    rw [List.map_map]
    conv => rhs; rw [← List.map_id zs]
    refine List.map_congr_left fun n hn => ?_
    have := h n hn
    show ((n.toNat : Nat) : Int) = n
    omega
  · intro c hc
    obtain ⟨n, hn, rfl⟩ := List.mem_map.1 hc
    have := h n hn
    omega
theorem elems_take {k : IntKind} {w : World} {a : Option Addr} {n cap : Nat} {zs : List Int} (h : Elems k w (.slice a n cap) zs) (hn : n = zs.length) {m : Nat} (hm : m ≤ n) : Elems k w (.slice a m cap) (zs.take m) := by
  obtain ⟨a2, cap2, h1, h2⟩ := h
  injection h1 with h3 h4 h5
  subst h3 h5
  have hl : (zs.take m).length = m := by rw [List.length_take]; omega
  refine ⟨a, cap, by rw [hl], fun hne => ?_⟩
  obtain ⟨b, off, h6, h7⟩ := h2 (fun e => hne (by rw [e, List.take_nil]))
  refine ⟨b, off, h6, fun j hj => ?_⟩
  rw [hl] at hj
  rw [h7 j (by omega), List.getElem?_take_of_lt hj]
theorem sum_new : sumB pNew.B = 0 := by decide
theorem sum_one {k : Nat} (hk : k < 64) (x : List Nat) : sumB (setB (fun _ => []) k x) = x.length := by
  have h := sum_put (fun _ => 0) k x.length rfl 64
  rw [if_pos hk] at h
  have e : (fun j => (setB (fun _ => []) k x j).length) = fun j => if j = k then x.length else 0 := by
    funext j
    unfold setB
    split <;> rfl
  have h0 : ((List.range 64).map fun _ => 0).sum = 0 := by decide
  unfold sumB
  rw [e, h, h0]
  rfl

def DaFacts (s1 : St) (file size : Int) (bs : List Nat) : Prop :=
  sumB s1.B = bs.length ∧
  (0 ≤ size → size ≤ (bs.length : Int) → (pTrunc s1 file size).1 = 0 ∧ (pRead (pTrunc s1 file size).2 file).2 = bs.take size.toNat) ∧
  (¬ (0 ≤ size ∧ size ≤ (bs.length : Int)) → (pTrunc s1 file size).1 = 1 ∧ (pTrunc s1 file size).2 = s1)
theorem da_fits {R k : Nat} {bs : List Nat} (hk : k < 64) (hfit : bs.length ≤ R) (size : Int) : ∃ s1 : St, (pApp R pNew (k : Int) bs).1 = 0 ∧ (pApp R pNew (k : Int) bs).2 = s1 ∧ (pRead s1 (k : Int)).1 = 0 ∧ (pRead s1 (k : Int)).2 = bs ∧ DaFacts s1 (k : Int) size bs := by
  have hft : isF (k : Int) = true := isF_true (by omega)
  have hsk : setB (fun _ => []) k bs (k : Int).toNat = bs := by unfold setB; rw [Int.toNat_natCast, if_pos rfl]
  have hap : pApp R pNew (k : Int) bs = (0, ⟨true, -1, setB (fun _ => []) k bs, fun _ => 0⟩) := by
    unfold pApp
    rw [hft, if_neg (fun h => by cases h), if_neg (fun h => by cases h), if_neg (by rw [sum_new]; omega)]
    rfl
  refine ⟨⟨true, -1, setB (fun _ => []) k bs, fun _ => 0⟩, by rw [hap], by rw [hap], ?_, ?_, sum_one hk bs, fun h1 h2 => ?_, fun h1 => ?_⟩
  · unfold pRead
    rw [hft, if_neg (fun h => by cases h), if_neg (fun h => by cases h)]
  · unfold pRead
    rw [hft, if_neg (fun h => by cases h), if_neg (fun h => by cases h)]
    exact hsk
  · have ht : pTrunc ⟨true, -1, setB (fun _ => []) k bs, fun _ => 0⟩ (k : Int) size = (0, ⟨true, max (-1 - 1) (-1), setB (setB (fun _ => []) k bs) (k : Int).toNat ((setB (fun _ => []) k bs (k : Int).toNat).take size.toNat), setD (fun _ => 0) (k : Int).toNat (min 0 size.toNat)⟩) := by
      unfold pTrunc
      have hc : isF (k : Int) = true ∧ 0 ≤ size ∧ size ≤ ((setB (fun _ => []) k bs (k : Int).toNat).length : Int) := ⟨hft, h1, by rw [hsk]; exact h2⟩
      rw [if_neg (fun h => h hc)]
      rfl
    rw [ht]
    refine ⟨rfl, ?_⟩
    unfold pRead
    rw [hft, if_neg (fun h => by cases h), if_neg (fun h => by cases h)]
    show setB _ _ _ (k : Int).toNat = _
    rw [hsk]
    unfold setB
    rw [if_pos rfl]
  · have ht : pTrunc ⟨true, -1, setB (fun _ => []) k bs, fun _ => 0⟩ (k : Int) size = (1, ⟨true, -1, setB (fun _ => []) k bs, fun _ => 0⟩) := by
      unfold pTrunc
      rw [if_pos]
      rintro ⟨_, h3, h4⟩
      have h5 : size ≤ ((setB (fun _ => []) k bs (k : Int).toNat).length : Int) := h4
      rw [hsk] at h5
      exact h1 ⟨h3, h5⟩
    rw [ht]
    exact ⟨rfl, rfl⟩
theorem da_full {R k : Nat} {bs : List Nat} (hk : k < 64) (hfit : ¬ bs.length ≤ R) : (pApp R pNew (k : Int) bs).1 = 22 ∧ (pApp R pNew (k : Int) bs).2 = pNew ∧ (pRead pNew (k : Int)).1 = 0 ∧ (pRead pNew (k : Int)).2 = [] := by
  have hft : isF (k : Int) = true := isF_true (by omega)
  unfold pApp pRead
  rw [hft, if_neg (fun h => by cases h), if_neg (fun h => by cases h), if_pos (by rw [sum_new]; omega), if_neg (fun h => by cases h), if_neg (fun h => by cases h)]
  exact ⟨rfl, rfl, rfl, rfl⟩
theorem da_bad {R : Nat} {file : Int} {bs : List Nat} (hf : ¬ (0 ≤ file ∧ file < 64)) : (pApp R pNew file bs).1 = 1 ∧ (pApp R pNew file bs).2 = pNew ∧ (pRead pNew file).1 = 1 ∧ (pRead pNew file).2 = [] ∧ (pTrunc pNew file 0).1 = 1 ∧ (pTrunc pNew file 0).2 = pNew := by
  have hff := isF_false hf
  have ht : pTrunc pNew file 0 = (1, pNew) := by
    unfold pTrunc
    rw [if_pos (fun h => by have := h.1; rw [hff] at this; cases this)]
  unfold pApp pRead
  rw [hff, if_pos rfl, if_pos rfl, ht]
  exact ⟨rfl, rfl, rfl, rfl, rfl, rfl⟩

end Go.Proofs.YtjoablphojkimaaGreatDoor
