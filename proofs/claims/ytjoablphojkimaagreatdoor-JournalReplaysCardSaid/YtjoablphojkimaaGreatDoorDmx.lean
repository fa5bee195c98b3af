/-
  The law DiskHash.
-/
import Derived.Test.YtjoablphojkimaaGreatDoorDmw
namespace Go.Proofs.YtjoablphojkimaaGreatDoor
open Go.RowKit Go.Shelf
set_option linter.unusedVariables false
set_option maxRecDepth 100000

theorem new_one (k : Nat) : pNew.B = oneB k [] := by
  funext j
  unfold oneB setB
  by_cases hj : j = k
  · rw [if_pos hj]; rfl
  · rw [if_neg hj]; rfl
def DhFacts (s1 s3 : St) (ys x : List Nat) (same : Bool) : Prop :=
  (pRead s3 0).1 = 0 ∧ (pRead s3 0).2 = x ∧ x.length = ys.length ∧ (∀ c ∈ x, c < 256) ∧ ((same = true → x = ys) ∧ (same = false → bytesN (strN ⟨#[102]⟩) x ≠ bytesN (strN ⟨#[102]⟩) ys))
theorem dh_facts {ys : List Nat} (h1 : 1 ≤ ys.length) (h2 : ys.length ≤ 8) (h8 : ∀ c ∈ ys, c < 256) (flip : Int) (synced : Bool) :
    (pApp 100 pNew 0 ys).1 = 0 ∧ (pSync (pApp 100 pNew 0 ys).2).1 = 0 ∧ ∃ x, DhFacts (pApp 100 pNew 0 ys).2 (pCrash (if synced then (pSync (pApp 100 pNew 0 ys).2).2 else (pApp 100 pNew 0 ys).2) [8] flip) ys x (synced || decide (flip < 0)) := by
  have ha := app_one (room := 100) (k := 0) (by decide) (s := pNew) (ys := []) rfl rfl (new_one 0) (zs := ys) (by simp; omega)
  rw [List.nil_append] at ha
  have ha2 : pApp 100 pNew 0 ys = (0, ⟨true, -1, oneB 0 ys, pNew.D⟩) := ha
  have hs := sync_one (s := ⟨true, -1, oneB 0 ys, pNew.D⟩) rfl rfl
  rw [ha2]
  refine ⟨rfl, by rw [hs], ?_⟩
  have hk8 : keepAt [8] 0 = 8 := rfl
  cases synced
  · have hc := crash_one (k := 0) (by decide) ys true (-1) pNew.D [8] flip
    have hz : ys.take (pNew.D 0 + lostN 8 (ys.length - pNew.D 0)) = ys := by
      show ys.take (0 + lostN 8 (ys.length - 0)) = ys
      refine List.take_of_length_le ?_
      unfold lostN
      omega
    rw [hk8] at hc
    refine ⟨crashL ys (pNew.D 0) 8 flip, (read_one (k := 0) (by decide) rfl hc).1, (read_one (k := 0) (by decide) rfl hc).2, ?_⟩
    unfold crashL
    rw [hz]
    show ((if 0 ≤ flip ∧ 0 < ys.length - 0 then turn ys (8 * 0 + flip.toNat % (8 * (ys.length - 0))) else ys).length = ys.length ∧ (∀ c ∈ (if 0 ≤ flip ∧ 0 < ys.length - 0 then turn ys (8 * 0 + flip.toNat % (8 * (ys.length - 0))) else ys), c < 256) ∧ (((false || decide (flip < 0)) = true → (if 0 ≤ flip ∧ 0 < ys.length - 0 then turn ys (8 * 0 + flip.toNat % (8 * (ys.length - 0))) else ys) = ys) ∧ ((false || decide (flip < 0)) = false → bytesN (strN ⟨#[102]⟩) (if 0 ≤ flip ∧ 0 < ys.length - 0 then turn ys (8 * 0 + flip.toNat % (8 * (ys.length - 0))) else ys) ≠ bytesN (strN ⟨#[102]⟩) ys)))
    by_cases hf : flip < 0
    · rw [if_neg (by omega)]
      exact ⟨rfl, h8, fun _ => rfl, fun h => by rw [decide_eq_true hf] at h; cases h⟩
    · rw [if_pos (by omega)]
      have hp : (8 * 0 + flip.toNat % (8 * (ys.length - 0))) / 8 < ys.length := by have := Nat.mod_lt flip.toNat (show 0 < 8 * (ys.length - 0) by omega); omega
      generalize 8 * 0 + flip.toNat % (8 * (ys.length - 0)) = p at *
      refine ⟨turn_len ys p, turn_lt h8 hp, fun h => ?_, fun _ he => ?_⟩
      · rw [decide_eq_false hf] at h; cases h
      · refine turn_ne h8 hp (group_inj (q := 0) (strN ⟨#[102]⟩) (turn_len ys p) (turn_lt h8 hp) h8 (fun i hi => ?_) he)
        unfold turn
        rw [List.getElem?_set_ne (by omega)]
  · show ∃ x, DhFacts _ (pCrash (pSync ⟨true, -1, oneB 0 ys, pNew.D⟩).2 [8] flip) ys x _
    rw [hs]
    have hc := crash_one (k := 0) (by decide) ys true (-1) (fun k => (oneB 0 ys k).length) [8] flip
    rw [hk8] at hc
    have hz : crashL ys ys.length 8 flip = ys := by
      unfold crashL
      have : ys.take (ys.length + lostN 8 (ys.length - ys.length)) = ys := List.take_of_length_le (by omega)
      rw [this, if_neg (by omega)]
    have hl : (oneB 0 ys 0).length = ys.length := by rw [oneB_at]
    rw [hl, hz] at hc
    exact ⟨ys, (read_one (k := 0) (by decide) rfl hc).1, (read_one (k := 0) (by decide) rfl hc).2, rfl, h8, fun _ => rfl, fun h => by cases h⟩

/-- Blocks that lie outside a stretch. -/
def Gap (n m : Nat) (A : Foot) : Prop := ∀ k, A k → k < n ∨ m ≤ k
theorem gap_up {n m s : Nat} {A A2 : Foot} (hg : Gap n m A) (hf : ∀ k, A2 k → A k ∨ s ≤ k) (hm : m ≤ s) : Gap n m A2 := fun k hk => by
  rcases hf k hk with h | h
  · exact hg k h
  · exact .inr (by omega)
theorem own_gap {n m : Nat} {A : Foot} {e : TypeId} {k : IntKind} {W W2 : World} {v : Value} {zs : List Int} (h : Fresh n e k W v zs) (hm : ∀ j, v.ownBlock = some j → j < m) (hg : Gap n m A) (hk : Keeps A W W2) : Fresh n e k W2 v zs :=
  own_foot2 h hk (fun j hj hA => by
    have h1 := (h.lt j hj).1
    have h2 := hm j hj
    rcases hg j hA with h3 | h3 <;> omega)

end Go.Proofs.YtjoablphojkimaaGreatDoor
