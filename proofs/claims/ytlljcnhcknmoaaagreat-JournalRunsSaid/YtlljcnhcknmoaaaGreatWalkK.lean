/-
  The reference's sums, hashes of bytes, and pairs.
-/
import Derived.Test.YtlljcnhcknmoaaaGreatWalkJ
namespace Go.Proofs.YtlljcnhcknmoaaaGreat
open Go.RowKit Go.Shelf
set_option linter.unusedVariables false

theorem natI_get (l : List Nat) {k : Nat} (hk : k < l.length) : (natI l)[k]?.getD 0 = ((l[k]'hk : Nat) : Int) := by simp [natI, hk]
theorem natI_length (l : List Nat) : (natI l).length = l.length := by simp [natI]
theorem fold_take_nat (s : Nat) (ws : List Nat) {k : Nat} (hk : k < ws.length) : fold s (ws.take (k + 1)) = mixN (fold s (ws.take k)) ws[k] := by
  rw [List.take_succ_eq_append_getElem hk, fold_snoc]
theorem refMix_int (a : Nat) (n : Int) (w : World) (ha : a < T64) :
    Calls Tryz.prog 92 #[.int .u64 a, .int .u64 (IntKind.u64.wrap n)] w fun e w' => e = .returned (.int .u64 (mixN a (ofInt n))) ∧ w = w' := by
  rw [wrap_ofInt]; exact refMix_any a _ w ha (ofInt_lt n)

set_option maxRecDepth 100000 in
set_option maxHeartbeats 4000000 in
theorem refSum_any (s : ByteArray) (v : Value) (zs : List Int) (w : World) (hs : s.size ≤ 1000000) (hz : Ints .i64 w v zs) :
    Calls Tryz.prog 76 #[.string s, v] w fun e w' => e = .returned (.int .u64 (sumN (strN s) zs)) ∧ Below w.heap.size w w' := by
  obtain ⟨a, cap, rfl, hcap, hcm, hne⟩ := hz
  have hcv := fun (w : World) => Lib.run_convert_string_bytes (P := Tryz.prog) w 9 39 5 s Tryz.underlying9 Tryz.underlying39 Tryz.underlying5
  go_enter Tryz.func76, Tryz.ntmps76
  go_wp2_with fail
  clear hcv
  have hby := bytes_of_string w s (by omega)
  have bel1 := below_bytesWorld w.heap.size w s 5 (Nat.le_refl _)
  refine (refWords_any _ _ _ hby (by rw [strN_length]; exact hs)).mono ?_
  rintro e w1 ⟨v1, rfl, hf, hb1⟩
  have bel : Below w.heap.size w w1 := bel1.trans (hb1.mono bel1.size)
  clear hby hb1 bel1
  obtain ⟨pa, pc, rfl, hpc, hpe⟩ := fresh_elems hf
  have hwl : ∀ x ∈ wordsN (strN s), x < T64 := words_lt (strN_lt s)
  have HF : Hid (sumN (strN s) zs = mixN (fold (mixN (mixN (fold 0 (wordsN (strN s))) s.size) zs.length) (zs.map ofInt)) 0) := by rw [← strN_length]; rfl
  clear hf
  rw [natI_length] at hpc hpe ⊢
  have hwb : (wordsN (strN s)).length ≤ 1000000 := by rw [words_length, strN_length]; omega
  generalize wordsN (strN s) = ws at *
  have hpe2 : ∀ k, (hk : k < ws.length) → ∃ b off, pa = some ⟨b, off, none⟩ ∧ w1.cell? ⟨b, off + k, none⟩ = some (.int .u64 ((ws[k] : Nat) : Int)) := by
    intro k hk
    obtain ⟨b, off, h1, h2⟩ := hpe (fun e => by have h0 := natI_length ws; rw [e] at h0; simp at h0; omega)
    exact ⟨b, off, h1, by rw [h2 k hk, natI_get ws hk]⟩
  have HPE := Lib.hid hpe2
  have HWL := Lib.hid hwl
  clear hpe hpe2 hwl
  go_wp2_with fail
  go_loopw [5, 7] (fun st i wr => ∃ k : Nat, k ≤ ws.length ∧ i = .int .i64 k ∧ st = .int .u64 (fold 0 (ws.take k) : Nat) ∧ wr = w1) (fun _ i _ => ws.length - (intOf i).toNat)
  case atStart => exact ⟨0, Nat.zero_le _, rfl, rfl, rfl⟩
  case round =>
    obtain ⟨k, hk, rfl, rfl, rfl⟩ := hrel
    by_cases hlt : k < ws.length
    · obtain ⟨b1, o1, rfl, hc⟩ := HPE.out k hlt
      have HS := Lib.hid (fold_take_nat 0 ws hlt)
      have hm := refMix_any (fold 0 (ws.take k)) ws[k] wr (fold_lt (by decide) _) (HWL.out _ (List.getElem_mem hlt))
      generalize fold 0 (ws.take k) = ft at *
      go_wp2_with fail
      refine hm.mono ?_
      clear hm
      rintro e w' ⟨rfl, rfl⟩
      go_wp2_with fail
      go_roundw
      case rel => exact ⟨k + 1, by omega, by go_num, by rw [HS.out], trivial⟩
      case measure => simp [intOf]; omega
    · obtain rfl : k = ws.length := by omega
      clear HPE
      have hm := refMix_any (fold 0 (ws.take ws.length)) s.size wr (fold_lt (by decide) _) (by unfold T64; omega)
      rw [List.take_length] at hm
      have hs1 : mixN (fold 0 ws) s.size < T64 := mixN_lt _ _
      go_wp2_with fail
      refine hm.mono ?_
      clear hm
      rintro e w' ⟨rfl, rfl⟩
      go_wp2_with fail
      generalize hst : mixN (fold 0 ws) s.size = st at *
      have Hst := Lib.hid hst
      clear hst
      have hm := refMix_any st zs.length wr hs1 (by unfold T64; omega)
      refine hm.mono ?_
      clear hm
      rintro e w' ⟨rfl, rfl⟩
      have hs2 : mixN st zs.length < T64 := mixN_lt _ _
      go_wp2_with fail
      generalize hsu : mixN st zs.length = su at *
      have Hsu := Lib.hid hsu
      clear hsu
      go_loopw [5, 8] (fun st i w2 => ∃ k : Nat, k ≤ zs.length ∧ i = .int .i64 k ∧ st = .int .u64 (fold su ((zs.take k).map ofInt) : Nat) ∧ w2 = wr) (fun _ i _ => zs.length - (intOf i).toNat)
      case atStart => exact ⟨0, Nat.zero_le _, rfl, rfl, rfl⟩
      case round =>
        obtain ⟨k, hk2, rfl, rfl, rfl⟩ := hrel
        by_cases hlt2 : k < zs.length
        · obtain ⟨b2, o2, rfl, hcs⟩ := hne (fun h => by simp [h] at hlt2)
          have hck : wr.cell? ⟨b2, o2 + k, none⟩ = some (.int .i64 (zs[k]?.getD 0)) := by
            have h0 := hcs k hlt2
            exact (bel.cell (p := ⟨b2, o2 + k, none⟩) (World.block_lt_of_cell? _ _ h0)).trans h0
          clear hne hcs
          have hm := refMix_int (fold su ((zs.take k).map ofInt)) zs[k] wr (fold_lt hs2 _)
          have HS := Lib.hid (fold_take_succ su zs hlt2)
          generalize hft : fold su ((zs.take k).map ofInt) = ft at *
          clear hft
          go_wp2_with fail
          refine hm.mono ?_
          clear hm
          rintro e w' ⟨rfl, rfl⟩
          go_wp2_with fail
          go_roundw
          case rel => exact ⟨k + 1, by omega, by go_num, by rw [HS.out], trivial⟩
          case measure => simp [intOf]; omega
        · obtain rfl : k = zs.length := by omega
          clear hne
          have hm := refMix_any (fold su ((zs.take zs.length).map ofInt)) 0 wr (fold_lt hs2 _) (by decide)
          have HF2 : Hid (mixN (fold su ((zs.take zs.length).map ofInt)) 0 = sumN (strN s) zs) := by
            rw [List.take_length, HF.out, ← Hsu.out, ← Hst.out]; rfl
          generalize hft : fold su ((zs.take zs.length).map ofInt) = ft at *
          clear hft
          go_wp2_with fail
          refine hm.mono ?_
          clear hm
          rintro e w' ⟨rfl, rfl⟩
          go_wp2_with fail
          rw [← HF2.out]
          go_ret
          exact ⟨rfl, bel⟩
end Go.Proofs.YtlljcnhcknmoaaaGreat
