/-
  The reference's words, sums and pairs.
-/
import Derived.Test.YtlljcnhcknmoaaaGreatWalkI
namespace Go.Proofs.YtlljcnhcknmoaaaGreat
open Go.RowKit Go.Shelf
set_option linter.unusedVariables false

theorem info_u64 : (Tryz.prog.info? 76).map (fun i => (i.zero, i.size, i.bytes)) = some (some (.int .u64 0), 1, 8) := by kernel_rfl

theorem refMix_form (a b : Nat) (ha : a < T64) (hb : b < T64) :
    bits .xor .u64 (IntKind.u64.wrap (bits .xor .u64 (a : Int) (b : Int) * 11400714819323198485)) (IntKind.u64.wrap ((IntKind.u64.wrap (bits .xor .u64 (a : Int) (b : Int) * 11400714819323198485)).tdiv 4294967296)) = (mixN a b : Int) := by
  have h := mix_form a b ha hb
  generalize bits .xor .u64 (a : Int) (b : Int) * 11400714819323198485 = X at *
  have e : IntKind.u64.wrap ((IntKind.u64.wrap X).tdiv 4294967296) = IntKind.u64.wrap X / 4294967296 := by
    rw [IntKind.wrap_u64, IntKind.wrap_u64, Int.tdiv_eq_ediv_of_nonneg (by omega)]; omega
  rw [e]; exact h

set_option maxHeartbeats 400000 in
theorem refMix_any (a b : Nat) (w : World) (ha : a < T64) (hb : b < T64) :
    Calls Tryz.prog 92 #[.int .u64 a, .int .u64 b] w fun e w' => e = .returned (.int .u64 (mixN a b)) ∧ w = w' := by
  have H := Lib.hid (refMix_form a b ha hb)
  clear ha hb
  go_enter Tryz.func92, Tryz.ntmps92
  go_wp2
  go_ret
  exact ⟨ret_int H.out, rfl⟩

theorem leN_drop (g : List Nat) {j : Nat} (hj : j < g.length) : leN (g.drop j) = g[j]?.getD 0 + 256 * leN (g.drop (j + 1)) := by
  rw [List.drop_eq_getElem_cons hj]
  simp [leN, hj]

theorem leN_drop_lt (g : List Nat) (h : ∀ c ∈ g, c < 256) (h8 : g.length ≤ 8) (j : Nat) : leN (g.drop (j + 1)) < 72057594037927936 := by
  have h1 := leN_lt (g.drop (j + 1)) (fun c hc => h c (List.mem_of_mem_drop hc))
  have h2 : 256 ^ (g.drop (j + 1)).length ≤ 256 ^ 7 := Nat.pow_le_pow_right (by decide) (by simp; omega)
  have h3 : (256 : Nat) ^ 7 = 72057594037927936 := by decide
  omega

theorem words_upto (l : List Nat) (q : Nat) : ((List.range (q + 1)).map fun k => leN (grp l k)) = ((List.range q).map fun k => leN (grp l k)) ++ [leN (grp l q)] := by
  rw [List.range_succ, List.map_append, List.map_singleton]

set_option maxRecDepth 100000 in
set_option maxHeartbeats 4000000 in
theorem refWords_any (v : Value) (l : List Nat) (w : World) (hl : Bytes w v l) (hlen : l.length ≤ 1000000) :
    Calls Tryz.prog 75 #[v] w (Copies 76 .u64 (natI (wordsN l)) w) := by
  obtain ⟨i0, hi, hz0, hz1, hz2⟩ := info_parts info_u64
  obtain ⟨hl8, a, cap, rfl, hcap, hcm, hne⟩ := hl
  go_enter Tryz.func75, Tryz.ntmps75
  go_wp2_with fail
  go_loopw [3, 4] (fun out i wr => ∃ q : Nat, q ≤ (l.length + 7) / 8 ∧ i = .int .i64 ((8 * q : Nat) : Int) ∧ Fresh w.heap.size 76 .u64 wr out (natI ((List.range q).map fun k => leN (grp l k))) ∧ Below w.heap.size w wr) (fun _ i _ => l.length + 8 - (intOf i).toNat)
  case atStart => exact ⟨0, Nat.zero_le _, rfl, fresh_nil _ _ _ _, Below.refl _ _⟩
  case round =>
    obtain ⟨q, hq, rfl, hf, hbel⟩ := hrel
    by_cases hlt : 8 * q < l.length
    · obtain ⟨b, off, rfl, hc⟩ := hne (fun e => by rw [e] at hlt; simp at hlt)
      have hc2 : ∀ j, j < l.length → wr.cell? ⟨b, off + j, none⟩ = some (.int .u8 ((l[j]?.getD 0 : Nat) : Int)) := fun j hj =>
        (hbel.cell (p := ⟨b, off + j, none⟩) (World.block_lt_of_cell? _ _ (hc j hj))).trans (hc j hj)
      have HC := Lib.hid hc2
      have HF := Lib.hid hf
      have HL8 := Lib.hid hl8
      have hgl : (grp l q).length = min 8 (l.length - 8 * q) := grp_length l q
      clear hc hc2 hne hf hl8
      obtain ⟨wo, rfl⟩ : ∃ wo : World, wo = wr := ⟨_, rfl⟩
      obtain ⟨m, hm⟩ : ∃ m : Nat, (grp l q).length = m + 1 := ⟨(grp l q).length - 1, by omega⟩
      have hm1 : l.length < 8 * q + 8 → 8 * q + m + 1 = l.length := by omega
      have hm2 : ¬ l.length < 8 * q + 8 → m = 7 := by omega
      have hm3 : m ≤ 7 := by omega
      have hm4 : 8 * q + m < l.length := by omega
      have HM := Lib.hid hm
      have HG : Hid (∀ j, j ≤ m → (grp l q)[j]?.getD 0 = l[8 * q + j]?.getD 0) := fun j hj => grp_get l q j (by omega)
      have HD : Hid (∀ j, leN ((grp l q).drop (j + 1)) < 72057594037927936) := leN_drop_lt (grp l q) (fun c hc => HL8.out c (grp_mem hc)) (grp_len_le l q)
      have HE : Hid (∀ j, j ≤ m → leN ((grp l q).drop j) = (grp l q)[j]?.getD 0 + 256 * leN ((grp l q).drop (j + 1))) := fun j hj => leN_drop _ (by omega)
      have HZ : Hid (leN ((grp l q).drop (m + 1)) = 0) := by rw [← hm, List.drop_length]; rfl
      clear hm hgl
      have cut : ∀ z : Int, z = ((8 * q + m : Nat) : Int) → z = 8 * (q : Int) + m := fun z h => by omega
      by_cases hmin : l.length < 8 * q + 8
      all_goals
        first
          | (have e0 : Hid ((l.length : Int) - 1 = 8 * (q : Int) + (m : Int)) := by (have := hm1 hmin; (show (l.length : Int) - 1 = 8 * (q : Int) + (m : Int)); omega))
            skip
          | (have e0 : Hid (8 * (q : Int) + 8 - 1 = 8 * (q : Int) + (m : Int)) := by (have := hm2 hmin; (show 8 * (q : Int) + 8 - 1 = 8 * (q : Int) + (m : Int)); omega))
            skip
        clear hm1 hm2 cut
        go_wp2_with fail
        go_loop [5, 6] (fun wv kv => (∃ j : Nat, j ≤ m ∧ kv = .int .i64 (8 * (q : Int) + j) ∧ wv = .int .u64 (leN ((grp l q).drop (j + 1)) : Nat)) ∨ (kv = .int .i64 (8 * (q : Int) - 1) ∧ wv = .int .u64 (leN (grp l q) : Nat))) (fun _ kv => (intOf kv + 1 - 8 * (q : Int)).toNat)
        case atStart => exact .inl ⟨m, Nat.le_refl _, by rw [← e0.out], by rw [HZ.out]; rfl⟩
        case round =>
          rcases hrel with ⟨j, hj, rfl, rfl⟩ | ⟨rfl, rfl⟩
          · have hcell := HC.out (8 * q + j) (by omega)
            have hby := HD.out j
            have hcb : l[8 * q + j]?.getD 0 < 256 := by
              have hlt2 : 8 * q + j < l.length := by omega
              rw [List.getElem?_eq_getElem hlt2]; exact HL8.out _ (List.getElem_mem hlt2)
            have hq2 : l[8 * q + j]?.getD 0 = l[8 * q + j]'(by omega) := by rw [List.getElem?_eq_getElem]; rfl
            have HS := Lib.hid (HE.out j hj)
            have HG2 := Lib.hid ((HG.out j hj).trans hq2)
            rw [hq2] at hcell hcb
            clear hq2
            generalize hW : leN ((grp l q).drop (j + 1)) = W at *
            generalize hcv : l[8 * q + j]'(by omega) = cv at *
            have HW := Lib.hid hW
            clear hW hcv
            go_wp2_with fail
            go_round
            case rel =>
              rcases j with _ | j
              · refine .inr ⟨by go_num, ?_⟩
                have h0 : leN (grp l q) = cv + 256 * W := by rw [← HG2.out]; exact HS.out
                rw [h0]; go_num
              · refine .inl ⟨j, by omega, by go_num, ?_⟩
                have h0 : leN ((grp l q).drop (j + 1)) = cv + 256 * W := by rw [← HG2.out]; exact HS.out
                rw [h0]; go_num
            case measure => simp [intOf]; omega
          · have hrow0 : wo.ownsRow w.heap.size 76 1 u3 q ((natI ((List.range q).map fun k => leN (grp l k))).map (Value.int .u64)) := by
              have := HF.out
              unfold Fresh at this
              rwa [show (natI ((List.range q).map fun k => leN (grp l k))).length = q by simp [natI]] at this
            have hrow := Lib.hid hrow0
            clear hrow0 HC HE HG HD HZ HF e0
            go_wp2_with (at_builtin; refine wpList_append_own _ rfl _ _ 105 rfl w.heap.size 76 i0 (.int .u64 0) 1 8 Tryz.underlying105 hi hz0 hz1 hz2 rfl (by decide) _ _ _ rfl (hrow.out.alloc _) ⟨wo.heap.size, 0, none⟩ 1 1 [.int .u64 (leN (grp l q) : Nat)] rfl rfl (cell_one_new _ _ _) (by simp [Value.oneCell']) (by unfold maxLen; omega) (by omega) (by have := hbel.size; simp; omega) ?_; intro v' w1 hown hgrow _; have hfr : Fresh w.heap.size 76 .u64 w1 v' (natI ((List.range (q + 1)).map fun k => leN (grp l k))) := (by (unfold Fresh); (rw [show (natI ((List.range (q + 1)).map fun k => leN (grp l k))).length = q + 1 by simp [natI]]); (rw [words_upto, natI, List.map_append, List.map_append]); exact hown); have hbel2 : Below w.heap.size w w1 := ((hbel.alloc hbel.size _).grown hgrow (by have := hbel.size; simp; omega) (fun k hk => (hrow.out.lt k hk).1)); have HFR := Lib.hid hfr; clear hfr hown hgrow)
            go_roundw
            case rel => exact ⟨q + 1, by omega, by go_num, HFR.out, hbel2⟩
            case measure => simp [intOf]; omega
    · obtain rfl : q = (l.length + 7) / 8 := by omega
      clear hne hl8
      have HF := Lib.hid hf
      clear hf
      go_wp2_with fail
      go_ret
      exact copies_mk HF.out hbel
end Go.Proofs.YtlljcnhcknmoaaaGreat
