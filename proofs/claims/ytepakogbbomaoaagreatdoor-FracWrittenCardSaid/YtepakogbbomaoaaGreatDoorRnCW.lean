/-
 A range over a function, by footprints (as Foot has it): what a caller owes, what an iterator gives.
 The library's slices.Chunk at []byte, nine at a time: its iterator gives the groups of a slice, one after the other.
-/
import Derived.Test.YtepakogbbomaoaaGreatDoorFootW
import Derived.Test.YtepakogbbomaoaaGreatDoorWkAW
import Derived.Test.YtepakogbbomaoaaGreatDoorBaseW
import Derived.RangeFuncNested
import Derived.RangeFuncBound
import Derived.Shelf.Abstract
import Derived.Shelf.RegionOpen
import Derived.OwnWalkIn
import Derived.TacticsInMore
import Derived.LoopNIn
import Derived.LoopIn
namespace Go.Proofs.YtepakogbbomaoaaGreatDoor
open Go.RowKit Go.Shelf
set_option linter.unusedVariables false
set_option maxRecDepth 100000
open Go.RowKit
section
variable {α : Type} {P : Program} {g : Operand} {ps : Array Tmp} {assign body : Code} {Q : Exit → Act → World → Prop} {a : Act} {w : World} {n : Nat}
end
attribute [local go_sem] Oper.semAt_some
set_option maxHeartbeats 400000 in
theorem chunk9_any (a : Option Addr) (len cap : Nat) (w : World) :
  Calls Tryz.prog 91 #[.slice a len cap, .int .i64 9] w fun e w' =>
   e = .returned (.func (.func 122) #[] #[.pointer (some ⟨w.heap.size, 0, none⟩), .pointer (some ⟨w.heap.size + 1, 0, none⟩)]) ∧
   w' = (w.alloc (.cells #[.slice a len cap] 50)).alloc (.cells #[.int .i64 9] 3) := by
 go_enter Tryz.func91, Tryz.ntmps91
 go_wp2
 go_ret
 exact ⟨rfl, rfl⟩
def chunk9V (b off len k : Nat) : Array Value := #[.slice (some ⟨b, off + 9 * k, none⟩) (min 9 (len - 9 * k)) (min 9 (len - 9 * k))]
set_option maxRecDepth 100000 in
set_option maxHeartbeats 2000000 in
theorem chunk9_gives (b off len cap Bs Bn : Nat) (w : World) (hlen : len ≤ cap) (hcap : len ≤ 4611686018427387904)
  (hs : w.cell? ⟨Bs, 0, none⟩ = some (.slice (some ⟨b, off, none⟩) len cap)) (hn : w.cell? ⟨Bn, 0, none⟩ = some (.int .i64 9)) :
  Gives Tryz.prog 122 #[.pointer (some ⟨Bs, 0, none⟩), .pointer (some ⟨Bn, 0, none⟩)] (chunk9V b off len) (fun k => k = Bs ∨ k = Bn) (List.range ((len + 8) / 9)) w := by
 intro l J Jx A W hQ hJ hJx hY h0
 have hQs := hQ Bs (.inl rfl)
 have hQn := hQ Bn (.inr rfl)
 refine callsIn_of_wp Tryz.func122 rfl trivial ?_ rfl
 simp only [Tryz.ntmps122, List.size_toArray, List.length_cons, List.length_nil, Nat.reduceAdd, Nat.reduceSub, Array.replicate_succ, Array.replicate_zero, List.push_toArray, List.append_toArray, List.nil_append, List.cons_append]
 gi_wp2
 gi_loopw [4] (fun i wr => ∃ (k : Nat) (A1 : Foot), k ≤ (len + 8) / 9 ∧ i = .int .i64 ((9 * k : Nat) : Int) ∧ J (List.range k) A1 wr ∧ ¬ A1 Bs ∧ ¬ A1 Bn ∧
   wr.cell? ⟨Bs, 0, none⟩ = some (.slice (some ⟨b, off, none⟩) len cap) ∧ wr.cell? ⟨Bn, 0, none⟩ = some (.int .i64 9) ∧ W.heap.size ≤ wr.heap.size)
  (fun i _ => len + 9 - (intOf i).toNat)
 case atStart =>
  exact ⟨0, A, Nat.zero_le _, rfl, h0, hQs.2.1, hQn.2.1, (World.cell?_of_block hQs.1).trans hs, (World.cell?_of_block hQn.1).trans hn, Nat.le_refl _⟩
 case round =>
  obtain ⟨k, A1, hk, rfl, hJ1, ns, nn, cs, cn, hsz⟩ := hrel
  clear hs hn hQ hQs hQn
  by_cases hlt : 9 * k < len
  ·have hpk : List.range k ++ [k] <+: List.range ((len + 8) / 9) := by rw [← List.range_succ]; exact range_prefix (by omega)
   have hJd : J (List.range k) A1 wr.drew := hJ.abide _ _ _ _ hJ1 (Keeps.refl _ _).drew
   have hyy := hY (List.range k) k A1 wr.drew hpk hJd
   by_cases h8 : len - 9 * k < 9
   ·have hv : chunk9V b off len k = #[.slice (some ⟨b, off + 9 * k, none⟩) (len - 9 * k) (len - 9 * k)] := by
     unfold chunk9V; rw [Nat.min_eq_right (by omega)]
    rw [hv] at hyy
    obtain ⟨fn, tmps, assign, body, hy, hR⟩ := hyy
    clear hv
    gi_wp2
    gi_region
    gi_wp2
    refine ⟨rfl, hR.mono ?_⟩
    clear hy hR
    rintro e W2 ⟨A2, hr, (⟨rfl, hJ2⟩ | ⟨rfl, hJ2⟩)⟩
    ·have ds : wr.drew.cell? ⟨Bs, 0, none⟩ = some (.slice (some ⟨b, off, none⟩) len cap) := cs
     have dn : wr.drew.cell? ⟨Bn, 0, none⟩ = some (.int .i64 9) := cn
     have cs2 := hr.keeps.cell ds ns
     have cn2 := hr.keeps.cell dn nn
     have ns2 := hr.not ns (World.block_lt_of_cell? _ _ ds)
     have nn2 := hr.not nn (World.block_lt_of_cell? _ _ dn)
     have hsz2 : W.heap.size ≤ W2.heap.size := Nat.le_trans hsz hr.keeps.size
     have hJ3 : J (List.range (k + 1)) A2 W2 := by rw [List.range_succ]; exact hJ2
     clear hr ds dn hJ2
     gi_wp2
     go_roundw
     case rel => exact ⟨k + 1, A2, by omega, by go_num, hJ3, ns2, nn2, cs2, cn2, hsz2⟩
     case measure => simp [intOf]; omega
    ·gi_wp2
     refine bodyPost_ret (results_none rfl _ _ _) rfl ?_
     exact ⟨⟨_, rfl⟩, A2, .inr ⟨_, hpk, hJ2⟩⟩
   ·have hv : chunk9V b off len k = #[.slice (some ⟨b, off + 9 * k, none⟩) 9 9] := by
     unfold chunk9V; rw [Nat.min_eq_left (by omega)]
    rw [hv] at hyy
    obtain ⟨fn, tmps, assign, body, hy, hR⟩ := hyy
    clear hv
    gi_wp2
    gi_region
    gi_wp2
    refine ⟨rfl, hR.mono ?_⟩
    clear hy hR
    rintro e W2 ⟨A2, hr, (⟨rfl, hJ2⟩ | ⟨rfl, hJ2⟩)⟩
    ·have ds : wr.drew.cell? ⟨Bs, 0, none⟩ = some (.slice (some ⟨b, off, none⟩) len cap) := cs
     have dn : wr.drew.cell? ⟨Bn, 0, none⟩ = some (.int .i64 9) := cn
     have cs2 := hr.keeps.cell ds ns
     have cn2 := hr.keeps.cell dn nn
     have ns2 := hr.not ns (World.block_lt_of_cell? _ _ ds)
     have nn2 := hr.not nn (World.block_lt_of_cell? _ _ dn)
     have hsz2 : W.heap.size ≤ W2.heap.size := Nat.le_trans hsz hr.keeps.size
     have hJ3 : J (List.range (k + 1)) A2 W2 := by rw [List.range_succ]; exact hJ2
     clear hr ds dn hJ2
     gi_wp2
     go_roundw
     case rel => exact ⟨k + 1, A2, by omega, by go_num, hJ3, ns2, nn2, cs2, cn2, hsz2⟩
     case measure => simp [intOf]; omega
    ·gi_wp2
     refine bodyPost_ret (results_none rfl _ _ _) rfl ?_
     exact ⟨⟨_, rfl⟩, A2, .inr ⟨_, hpk, hJ2⟩⟩
  ·obtain rfl : k = (len + 8) / 9 := by omega
   gi_wp2
   go_end0
   exact ⟨⟨_, rfl⟩, A1, .inl hJ1⟩
end Go.Proofs.YtepakogbbomaoaaGreatDoor
