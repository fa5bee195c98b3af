/-
  The reference's pairs and hashes of bytes.
-/
import Derived.Test.YtlljcnhcknmoaaaGreatWalkK
namespace Go.Proofs.YtlljcnhcknmoaaaGreat
open Go.RowKit Go.Shelf
set_option linter.unusedVariables false

set_option maxRecDepth 100000 in
set_option maxHeartbeats 4000000 in
theorem refBytes_any (s : ByteArray) (v : Value) (l : List Nat) (w : World) (hs : s.size ≤ 1000000) (hl : Bytes w v l) (hlen : l.length ≤ 1000000) :
    Calls Tryz.prog 60 #[.string s, v] w fun e w' => e = .returned (.int .u64 (bytesN (strN s) l)) ∧ Below w.heap.size w w' := by
  obtain ⟨i0, hi, hz0, hz1, hz2⟩ := info_parts info_int
  obtain ⟨a, cap, rfl⟩ : ∃ a cap, v = .slice a l.length cap := by obtain ⟨_, a, cap, h, _⟩ := hl; exact ⟨a, cap, h⟩
  have hl8 := hl.1
  have HL := Lib.hid hl
  have HL8 := Lib.hid hl8
  clear hl hl8
  go_enter Tryz.func60, Tryz.ntmps60
  go_wp2_with fail
  refine (refWords_any _ _ _ HL.out hlen).mono ?_
  rintro e w1 ⟨v1, rfl, hf, bel⟩
  obtain ⟨pa, pc, rfl, hpc, hpe⟩ := fresh_elems hf
  have hwl : ∀ x ∈ wordsN l, x < T64 := words_lt HL8.out
  have HF : Hid (bytesN (strN s) l = sumN (strN s) ((wordsN l).map toInt ++ [(l.length : Int)])) := rfl
  clear hf
  rw [natI_length] at hpc hpe ⊢
  have hwb : (wordsN l).length ≤ 1000000 := by rw [words_length]; omega
  generalize wordsN l = ws at *
  have hpe2 : ∀ k, (hk : k < ws.length) → ∃ b off, pa = some ⟨b, off, none⟩ ∧ b < w1.heap.size ∧ w1.cell? ⟨b, off + k, none⟩ = some (.int .u64 ((ws[k] : Nat) : Int)) := by
    intro k hk
    obtain ⟨b, off, h1, h2⟩ := hpe (fun e => by have h0 := natI_length ws; rw [e] at h0; simp at h0; omega)
    have h3 := h2 k hk
    exact ⟨b, off, h1, World.block_lt_of_cell? _ _ h3, by rw [h3, natI_get ws hk]⟩
  have HPE := Lib.hid hpe2
  have HWL := Lib.hid hwl
  clear hpe hpe2 hwl
  go_wp2_with fail
  go_loopw [6, 7] (fun out i wr => ∃ k : Nat, k ≤ ws.length ∧ i = .int .i64 k ∧ wr.ownsRow w1.heap.size 3 1 out k (((ws.take k).map toInt).map (Value.int .i64)) ∧ Below w1.heap.size w1 wr) (fun _ i _ => ws.length - (intOf i).toNat)
  case atStart => exact ⟨0, Nat.zero_le _, rfl, World.ownsRow_nil _ _ _ _, Below.refl _ _⟩
  case round =>
    obtain ⟨k, hk, rfl, hrow, hbel⟩ := hrel
    have HR := Lib.hid hrow
    clear hrow
    by_cases hlt : k < ws.length
    · obtain ⟨b1, o1, rfl, hb1, hc⟩ := HPE.out k hlt
      have hcell : wr.cell? ⟨b1, o1 + k, none⟩ = some (.int .u64 ((ws[k] : Nat) : Int)) := (hbel.cell (p := ⟨b1, o1 + k, none⟩) hb1).trans hc
      have HT := Lib.hid (wrap_toInt (HWL.out _ (List.getElem_mem hlt)))
      have HTS : Hid (((ws.take (k + 1)).map toInt).map (Value.int .i64) = ((ws.take k).map toInt).map (Value.int .i64) ++ [.int .i64 (wrap64 ((ws[k] : Nat) : Int))]) := by
        rw [HT.out, List.take_succ_eq_append_getElem hlt, List.map_append, List.map_append, List.map_singleton, List.map_singleton]; rfl
      clear hc
      generalize ws[k] = x at *
      go_wp2_with (at_builtin; refine wpList_append_own _ rfl _ _ 22 rfl w1.heap.size 3 i0 (.int .i64 0) 1 8 Tryz.underlying22 hi hz0 hz1 hz2 rfl (by decide) _ _ _ rfl (HR.out.alloc _) ⟨wr.heap.size, 0, none⟩ 1 1 [.int .i64 (wrap64 (x : Int))] rfl rfl (cell_one_new _ _ _) (by simp [Value.oneCell']) (by unfold maxLen; omega) (by omega) (by have := hbel.size; simp; omega) ?_; intro v' w2 hown hgrow _; have hbel2 : Below w1.heap.size w1 w2 := ((hbel.alloc hbel.size _).grown hgrow (by have := hbel.size; simp; omega) (fun k hk => (HR.out.lt k hk).1)); have HO := Lib.hid hown; clear hown hgrow)
      go_roundw
      case rel => exact ⟨k + 1, by omega, by go_num, by rw [HTS.out]; exact HO.out, hbel2⟩
      case measure => simp [intOf]; omega
    · obtain rfl : k = ws.length := by omega
      clear HPE
      go_wp2_with (at_builtin; refine wpList_append_own _ rfl _ _ 22 rfl w1.heap.size 3 i0 (.int .i64 0) 1 8 Tryz.underlying22 hi hz0 hz1 hz2 rfl (by decide) _ _ _ rfl (HR.out.alloc _) ⟨wr.heap.size, 0, none⟩ 1 1 [.int .i64 (l.length : Int)] rfl rfl (cell_one_new _ _ _) (by simp [Value.oneCell']) (by unfold maxLen; omega) (by omega) (by have := hbel.size; simp; omega) ?_; intro v' w2 hown hgrow _; have hbel2 : Below w1.heap.size w1 w2 := ((hbel.alloc hbel.size _).grown hgrow (by have := hbel.size; simp; omega) (fun k hk => (HR.out.lt k hk).1)); have HO := Lib.hid hown; clear hown hgrow)
      have hfr : Fresh w1.heap.size 3 .i64 w2 v' (ws.map toInt ++ [(l.length : Int)]) := by
        have h0 := HO.out
        rw [List.take_length] at h0
        unfold Fresh
        rw [show (ws.map toInt ++ [(l.length : Int)]).length = ws.length + 1 by simp, List.map_append]
        exact h0
      refine (refSum_any s v' _ w2 hs (Ints.of_fresh hfr (by simp; omega))).mono ?_
      clear hfr HO
      rintro e w3 ⟨rfl, hb3⟩
      rw [← HF.out]
      go_wp2_with fail
      go_ret
      exact ⟨rfl, below_then (below_then bel hbel2) hb3⟩
end Go.Proofs.YtlljcnhcknmoaaaGreat
