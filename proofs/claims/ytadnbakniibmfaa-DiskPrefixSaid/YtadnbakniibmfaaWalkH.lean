/-
  The walks of the reference's small functions: a string cut short, copies of integers and bytes, a number around a size, slices compared.
-/
import Derived.Test.YtadnbakniibmfaaWalkG
import Derived.Laws.AppendOwnNone
namespace Go.Proofs.Ytadnbakniibmfaa
open Go.RowKit Go.Shelf
set_option linter.unusedVariables false

/-- A slice value as an argument may come: its elements are the integers zs. -/
def Row (k : IntKind) (w : World) (v : Value) (zs : List Int) : Prop :=
  ∃ a cap, v = .slice a zs.length cap ∧ zs.length ≤ cap ∧ cap ≤ 9223372036854775807 ∧
    (zs ≠ [] → ∃ b off, a = some ⟨b, off, none⟩ ∧ ∀ j, j < zs.length → w.cell? ⟨b, off + j, none⟩ = some (.int k (zs[j]?.getD 0))) ∧ (a = none → zs = [] ∧ cap = 0)

/-- A slice that the call has made: v holds the integers zs, in a row of its own from block B on; or it is nil and there are none. -/
def Fresh (B : Nat) (e : TypeId) (k : IntKind) (w : World) (v : Value) (zs : List Int) : Prop := w.ownsRow B e 1 v zs.length (zs.map (Value.int k))

def natI (l : List Nat) : List Int := l.map fun c : Nat => (c : Int)

def CutTo (m : Nat) (w : World) (e : Ending) (w' : World) : Prop := ∃ t : ByteArray, e = .returned (.string t) ∧ t.size ≤ m ∧ w = w'

/-- n brought to the range from 0 on below m. -/
def aroundI (n : Int) (m : Int) : Int := (if n < 0 then -(n + 1) else n) % m

set_option maxHeartbeats 400000 in
theorem around_any (n : Int) (m : Nat) (w : World) (hn : -9223372036854775808 ≤ n ∧ n ≤ 9223372036854775807) (hm : 1 ≤ m) (hm2 : m ≤ 4611686018427387904) :
    Calls Try.prog 8 #[.int .i64 n, .int .i64 (m : Int)] w fun e w' => e = .returned (.int .i64 (aroundI n m)) ∧ w = w' := by
  by_cases h : n < 0
  · go_enter Try.func8, Try.ntmps8
    go_wp2
    go_ret
    exact ⟨ret_int (by unfold aroundI; rw [if_pos h, ← Int.neg_tmod, Int.tmod_eq_emod_of_nonneg (by omega)]), rfl⟩
  · have h0 : 0 ≤ n := by omega
    clear h
    go_enter Try.func8, Try.ntmps8
    go_wp2
    go_ret
    exact ⟨ret_int (by unfold aroundI; rw [if_neg (by omega)]), rfl⟩

def Copies (e : TypeId) (k : IntKind) (zs : List Int) (w : World) (en : Ending) (w' : World) : Prop :=
  ∃ v, en = .returned v ∧ Fresh w.heap.size e k w' v zs ∧ Below w.heap.size w w'

theorem fresh_nil (B : Nat) (e : TypeId) (k : IntKind) (w : World) : Fresh B e k w (.slice none 0 0) [] := World.ownsRow_nil w B e 1

theorem copies_mk {e : TypeId} {k : IntKind} {zs : List Int} {w w' : World} {v : Value} (h1 : Fresh w.heap.size e k w' v zs) (h2 : Below w.heap.size w w') : Copies e k zs w (.returned v) w' :=
  ⟨v, rfl, h1, h2⟩

-- BEGIN COPY
set_option maxHeartbeats 1000000 in
theorem refInts_any (v : Value) (zs : List Int) (m : Nat) (w : World) (hv : Row .i64 w v zs) (hm : m ≤ 1000000) :
    Calls Try.prog 21 #[v, .int .i64 (m : Int)] w (Copies 3 .i64 (zs.take m) w) := by
  obtain ⟨i0, hi, hz0, hz1, hz2⟩ := info_parts info_int
  obtain ⟨a, cap, rfl, hcap, hcm, hne, hnil⟩ := hv
  rcases a with _ | x
  · obtain ⟨rfl, rfl⟩ := hnil rfl
    clear hne hnil
    go_enter Try.func21, Try.ntmps21
    go_wp2
    go_ret
    rw [List.take_nil]
    exact copies_mk (fresh_nil _ _ _ _) (Below.refl _ _)
  · clear hnil
    by_cases hz : zs = []
    · subst hz
      clear hne
      rw [List.take_nil]
      go_enter Try.func21, Try.ntmps21
      go_wp2_with (at_builtin; refine wpList_append_own _ rfl _ _ 22 rfl w.heap.size 3 i0 (.int .i64 0) 1 8 Try.underlying22 hi hz0 hz1 hz2 rfl (by decide) _ _ _ rfl (World.ownsRow_nil _ _ _ _) x 0 cap [] rfl rfl (by simp) (by simp) (by decide) (by decide) (Nat.le_refl _) ?_; intro v' w1 hown hgrow _)
      go_ret
      exact copies_mk (by simpa [Fresh] using hown) ((Below.refl _ w).grown hgrow (Nat.le_refl _) (fun k h => by cases h))
    · obtain ⟨b, off, hx, hc⟩ := hne hz
      obtain rfl : x = ⟨b, off, none⟩ := by simpa using hx
      clear hne hx hz
      have hnews : ∀ (n : Nat) (j : Nat) (u : Value), ((zs.take n).map (Value.int .i64))[j]? = some u → w.cell? ((⟨b, off, none⟩ : Addr).add j) = some u := by
        intro n j u hu
        have hj : j < zs.length := by
          rcases Nat.lt_or_ge j zs.length with h | h
          · exact h
          · rw [List.getElem?_eq_none (by simp; omega)] at hu; cases hu
        have e : (⟨b, off, none⟩ : Addr).add j = ⟨b, off + j, none⟩ := by unfold Addr.add; split <;> simp_all
        rw [e, hc j hj, ← hu]
        rw [List.getElem?_map, List.getElem?_take]
        split
        · simp [hj]
        · rename_i hjn
          rw [List.getElem?_eq_none (by simp; omega)] at hu; cases hu
      have hone : ∀ (n : Nat), ∀ u ∈ (zs.take n).map (Value.int .i64), u.oneCell' = true := by
        intro n u hu
        obtain ⟨z, _, rfl⟩ := List.mem_map.1 hu
        rfl
      by_cases h : ¬ m < zs.length
      · have hl : ((zs.take m).map (Value.int .i64)).length = zs.length * 1 := by simp; omega
        have hN := hnews m
        have hO := hone m
        have HL := Lib.hid hl
        have HN := Lib.hid hN
        have HO := Lib.hid hO
        clear hnews hone hc hl hN hO
        go_enter Try.func21, Try.ntmps21
        go_wp2_with (at_builtin; refine wpList_append_own _ rfl _ _ 22 rfl w.heap.size 3 i0 (.int .i64 0) 1 8 Try.underlying22 hi hz0 hz1 hz2 rfl (by decide) _ _ _ rfl (World.ownsRow_nil _ _ _ _) ⟨b, off, none⟩ zs.length cap ((zs.take m).map (Value.int .i64)) rfl HL.out HN.out HO.out (by unfold maxLen; omega) (by omega) (Nat.le_refl _) ?_; intro v' w1 hown hgrow _)
        go_ret
        refine copies_mk ?_ ((Below.refl _ w).grown hgrow (Nat.le_refl _) (fun k h => by cases h))
        have hlen : (zs.take m).length = 0 + zs.length := by simp; omega
        unfold Fresh
        rw [hlen]
        simpa using hown
      · have h : m < zs.length := by omega
        have hl : ((zs.take m).map (Value.int .i64)).length = m * 1 := by simp; omega
        have hN := hnews m
        have hO := hone m
        have HL := Lib.hid hl
        have HN := Lib.hid hN
        have HO := Lib.hid hO
        clear hnews hone hc hl hN hO
        go_enter Try.func21, Try.ntmps21
        go_wp2_with (at_builtin; refine wpList_append_own _ rfl _ _ 22 rfl w.heap.size 3 i0 (.int .i64 0) 1 8 Try.underlying22 hi hz0 hz1 hz2 rfl (by decide) _ _ _ rfl (World.ownsRow_nil _ _ _ _) ⟨b, off, none⟩ m cap ((zs.take m).map (Value.int .i64)) rfl HL.out HN.out HO.out (by unfold maxLen; omega) (by omega) (Nat.le_refl _) ?_; intro v' w1 hown hgrow _)
        go_ret
        refine copies_mk ?_ ((Below.refl _ w).grown hgrow (Nat.le_refl _) (fun k h => by cases h))
        have hlen : (zs.take m).length = 0 + m := by simp; omega
        unfold Fresh
        rw [hlen]
        simpa using hown
-- END COPY
end Go.Proofs.Ytadnbakniibmfaa
