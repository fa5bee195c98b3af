/-
  Package disk: the numbers of the files in order; a file of the map written anew.
-/
import Derived.Test.YtjoablphojkimaaGreatDoorDlay
import Derived.Test.YtjoablphojkimaaGreatDoorDkA
namespace Go.Proofs.YtjoablphojkimaaGreatDoor
open Go.RowKit Go.Shelf Go.Maps Go.Sort
set_option linter.unusedVariables false
set_option maxRecDepth 100000

def keysF (es : List Fl) : List Int := es.map fun f => (f.key : Int)
theorem keys_sorted {es : List Fl} (hs : es.Pairwise (fun f g => f.key < g.key)) {ss : List Int} (hp : ss.Perm (keysF es)) : ss.mergeSort (fun x y => decide (x ≤ y)) = keysF es := by
  refine List.Perm.eq_of_pairwise (le := fun x y : Int => x ≤ y) (fun a b _ _ h1 h2 => Int.le_antisymm h1 h2) ?_ ?_ ((List.mergeSort_perm _ _).trans hp)
  · have := List.pairwise_mergeSort (le := fun x y : Int => decide (x ≤ y)) (fun a b c h1 h2 => by simp only [decide_eq_true_eq] at *; omega) (fun a b => by simp only [Bool.or_eq_true, decide_eq_true_eq]; omega) ss
    exact this.imp (fun h => by simpa using h)
  · unfold keysF
    rw [List.pairwise_map]
    exact hs.imp (fun h => by omega)

theorem sortsA (m : Nat) : AnyZI.SortsIn Tryz.prog sortedA_ren Fence.wide m :=
  ⟨fun blk off cap ss W hH hblk hsz => callsIn_wide.2 (AnyM.slices_Sort_int sortA blk off cap ss W hH hblk hsz),
   fun p cap W => callsIn_wide.2 (AnyM.slices_Sort_int_none sortA p cap W)⟩

def FilesEnd (es : List Fl) (w : World) (e : Ending) (w' : World) : Prop := ∃ v : Value, e = .returned v ∧ Fresh w.heap.size 3 .i64 w' v (keysF es) ∧ Below w.heap.size w w'

set_option maxHeartbeats 1000000 in
theorem files_any (d b room : Nat) (on : Bool) (left : Int) (es : List Fl) (w : World) (h : Dk w d b room on left es) :
    Calls Tryz.prog 45 #[.pointer (some ⟨d, 0, none⟩)] w (FilesEnd es w) := by
  refine (callsIn_wide (n := 6)).1 ?_
  have hown := h.mp
  have c1 := h.dk.cell 1
  simp only [List.getElem?_cons_succ, List.getElem?_cons_zero] at c1
  have hbl := hown.lt
  have hlen := dk_len h
  have hsz : Maps.size (dm (mdOf es)) = es.length := by rw [dm_size, mdOf, List.length_map]
  have hmax : Maps.size (dm (mdOf es)) ≤ maxLen := by rw [hsz]; exact Nat.le_trans hlen (by decide)
  have hbytes : Maps.size (dm (mdOf es)) * 8 ≤ 140737488355328 := by omega
  have hkeys : intKeys (dm (mdOf es)) = keysF es := by rw [dm_keys, mdOf, List.map_map]; rfl
  have HS := Lib.hid h.sorted
  have HK := Lib.hid hkeys
  clear h hlen hsz hkeys
  have hseq : SeqGives Fence.wide 2 Tryz.prog 103 #[.pointer (some ⟨w.heap.size, 0, none⟩)] encZ (fun ss => ss.Perm (intKeys (dm (mdOf es)))) (Maps.size (dm (mdOf es))) (w.alloc (.cells #[.map (some b)] 64)) :=
    AnyZI.keys_gives (ρ := keysA_ren) { keysA with } Fence.wide _ trivial rfl (by omega) w.heap.size b es.length (dm (mdOf es)) _ (by simp) (by simp) (by
      obtain ⟨es', clock, hb, Ft, hs, hD⟩ := hown
      exact ⟨es', clock, (Below.heap_alloc _ _ b hbl).trans hb, Ft, hs, hD⟩)
  have cK : ∀ mb W, CallsIn Fence.wide 5 Tryz.prog 76 #[.map mb] W fun e w' => e = .returned (.func (.func 103) #[] #[.pointer (some ⟨W.heap.size, 0, none⟩)]) ∧ w' = W.alloc (.cells #[.map mb] 64) := fun mb W => AnyZI.keys_in keysA Fence.wide 5 trivial rfl mb W
  have cS := AnyZI.sorted_in sortedA Fence.wide 5 trivial trivial trivial trivial rfl (by omega) (sortsA _) (enters_of Tryz.func102 (by kernel_rfl) rfl) 103 #[.pointer (some ⟨w.heap.size, 0, none⟩)] trivial (enters_of Tryz.func103 (by kernel_rfl) rfl) _ _ hmax hbytes _ hseq
  change CallsIn _ _ Tryz.prog 75 _ _ _ at cS
  have hfK : Fence.wide.fn 76 := trivial
  have hfS : Fence.wide.fn 75 := trivial
  refine callsIn_of_wp Tryz.func45 rfl trivial ?_ rfl
  simp only [Tryz.ntmps45, List.size_toArray, List.length_cons, List.length_nil, Nat.reduceAdd, Nat.reduceSub, Array.replicate_succ, Array.replicate_zero, List.push_toArray, List.append_toArray, List.nil_append, List.cons_append]
  gi_wp2_with (first
    | (gi_at_call 76; refine (cK _ _).mono ?_; rintro e w' ⟨rfl, rfl⟩)
    | (gi_at_call 75; refine cS.mono ?_; rintro e w' ⟨v, ss, rfl, hS, hrow, hnil, hb⟩))
  go_ret
  have hrow2 := ownsRow_base_a (base' := w.heap.size) hrow (by simp)
  have hks : ss.mergeSort (fun x y => decide (x ≤ y)) = keysF es := keys_sorted HS.out (HK.out ▸ hS)
  have hl : ss.length = (keysF es).length := by rw [← hks, List.length_mergeSort]
  rw [hks, hl] at hrow2
  exact ⟨v, rfl, hrow2, ((Below.refl _ w).alloc (Nat.le_refl _) _).trans (hb.mono (by simp))⟩
end Go.Proofs.YtjoablphojkimaaGreatDoor
