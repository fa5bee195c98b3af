/-
  The reference's encodings: zigzag, varints.
-/
import Derived.Test.YtlljcnhcknmoaaaGreatLawG
import Derived.Test.YtlljcnhcknmoaaaGreatVar
namespace Go.Proofs.YtlljcnhcknmoaaaGreat
open Go.RowKit Go.Shelf
set_option linter.unusedVariables false

theorem wrap_u64_small {n : Int} (h : 0 ≤ n) (h2 : n < 18446744073709551616) : IntKind.u64.wrap n = n := by rw [IntKind.wrap_u64]; omega

set_option maxHeartbeats 400000 in
theorem refZig_any (n : Int) (w : World) (hn : -9223372036854775808 ≤ n ∧ n ≤ 9223372036854775807) :
    Calls Tryz.prog 91 #[.int .i64 n] w fun e w' => e = .returned (.int .u64 (zigN n)) ∧ w = w' := by
  by_cases h : n < 0
  · go_enter Tryz.func91, Tryz.ntmps91
    go_wp2
    go_ret
    exact ⟨ret_int (by unfold zigN; rw [if_pos h]; omega), rfl⟩
  · have h0 : 0 ≤ n := by omega
    clear h
    go_enter Tryz.func91, Tryz.ntmps91
    go_wp2
    go_ret
    exact ⟨ret_int (by unfold zigN; rw [if_neg (by omega)]; omega), rfl⟩

set_option maxHeartbeats 400000 in
theorem refBack_any (z : Nat) (w : World) (hz : z < 18446744073709551616) :
    Calls Tryz.prog 86 #[.int .u64 (z : Int)] w fun e w' => e = .returned (.int .i64 (zagI z)) ∧ w = w' := by
  by_cases h : z % 2 = 1
  · go_enter Tryz.func86, Tryz.ntmps86
    go_wp2
    go_ret
    exact ⟨ret_int (by unfold zagI; rw [if_pos h]; omega), rfl⟩
  · go_enter Tryz.func86, Tryz.ntmps86
    go_wp2
    go_ret
    exact ⟨ret_int (by unfold zagI; rw [if_neg h]; omega), rfl⟩

theorem natI_append (a b : List Nat) : natI (a ++ b) = natI a ++ natI b := List.map_append

set_option maxRecDepth 100000 in
set_option maxHeartbeats 2000000 in
theorem refVar_any (n : Nat) (w : World) (hn : n < 18446744073709551616) :
    Calls Tryz.prog 59 #[.int .u64 (n : Int)] w (Copies 5 .u8 (natI (varN n)) w) := by
  obtain ⟨i0, hi, hz0, hz1, hz2⟩ := info_parts info_u8
  have h10 := varN_len10 hn
  have H10 := Lib.hid h10
  clear h10
  go_enter Tryz.func59, Tryz.ntmps59
  go_wp2_with fail
  go_loopw [0, 3] (fun nv out wr => ∃ (m : Nat) (pre : List Nat), m ≤ n ∧ nv = .int .u64 (m : Int) ∧ Hid (varN n = pre ++ varN m) ∧ Fresh w.heap.size 5 .u8 wr out (natI pre) ∧ Below w.heap.size w wr) (fun nv _ _ => (intOf nv).toNat)
  case atStart => exact ⟨n, [], Nat.le_refl _, rfl, Lib.hid rfl, fresh_nil _ _ _ _, Below.refl _ _⟩
  case round =>
    obtain ⟨m, pre, hm, rfl, HV, hf, hbel⟩ := hrel
    have hpl : pre.length + 1 ≤ 10 := by have h1 := H10.out; rw [HV.out, List.length_append] at h1; have := varN_pos m; omega
    have hmm : m < 18446744073709551616 := by omega
    have hmd : m / 128 ≤ n := by omega
    have HF := Lib.hid hf
    clear hf hm hn H10
    by_cases hlt : m < 128
    · have hrow : Hid (wr.ownsRow w.heap.size 5 1 u3 pre.length ((natI pre).map (Value.int .u8))) := by
        have := HF.out
        unfold Fresh at this
        rw [natI_length] at this
        exact Lib.hid this
      have HE : Hid (varN n = pre ++ [m]) := Lib.hid (by rw [HV.out, varN_small hlt])
      clear HF HV hmm hmd
      go_wp2_with (at_builtin; refine wpList_append_own _ rfl _ _ 39 rfl w.heap.size 5 i0 (.int .u8 0) 1 1 Tryz.underlying39 hi hz0 hz1 hz2 rfl (by decide) _ _ _ rfl (hrow.out.alloc _) ⟨wr.heap.size, 0, none⟩ 1 1 [.int .u8 (m : Int)] rfl rfl (cell_one_new _ _ _) (by simp [Value.oneCell']) (by unfold maxLen; omega) (by omega) (by have := hbel.size; simp; omega) ?_; intro v' w1 hown hgrow _; have hfr : Fresh w.heap.size 5 .u8 w1 v' (natI (varN n)) := (by (rw [HE.out, natI_append]); (unfold Fresh); (rw [List.length_append, natI_length, List.map_append]); exact hown); have hbel2 : Below w.heap.size w w1 := ((hbel.alloc hbel.size _).grown hgrow (by have := hbel.size; simp; omega) (fun k hk => (hrow.out.lt k hk).1)); have HFR := Lib.hid hfr; clear hfr hown hgrow)
      go_ret
      exact copies_mk HFR.out hbel2
    · have hrow : Hid (wr.ownsRow w.heap.size 5 1 u3 pre.length ((natI pre).map (Value.int .u8))) := by
        have := HF.out
        unfold Fresh at this
        rw [natI_length] at this
        exact Lib.hid this
      have HE : Hid (varN n = (pre ++ [128 + m % 128]) ++ varN (m / 128)) := Lib.hid (by rw [HV.out, varN_big hlt, List.append_assoc]; rfl)
      clear HF HV
      go_wp2_with (at_builtin; refine wpList_append_own _ rfl _ _ 39 rfl w.heap.size 5 i0 (.int .u8 0) 1 1 Tryz.underlying39 hi hz0 hz1 hz2 rfl (by decide) _ _ _ rfl (hrow.out.alloc _) ⟨wr.heap.size, 0, none⟩ 1 1 [.int .u8 (128 + (m : Int) % 128)] rfl rfl (cell_one_new _ _ _) (by simp [Value.oneCell']) (by unfold maxLen; omega) (by omega) (by have := hbel.size; simp; omega) ?_; intro v' w1 hown hgrow _; have hfr : Fresh w.heap.size 5 .u8 w1 v' (natI (pre ++ [128 + m % 128])) := (by (rw [natI_append]); (unfold Fresh); (rw [List.length_append, natI_length, List.map_append]); exact hown); have hbel2 : Below w.heap.size w w1 := ((hbel.alloc hbel.size _).grown hgrow (by have := hbel.size; simp; omega) (fun k hk => (hrow.out.lt k hk).1)); have HFR := Lib.hid hfr; clear hfr hown hgrow)
      go_roundw
      case rel => exact ⟨m / 128, pre ++ [128 + m % 128], hmd, by go_num, HE, HFR.out, hbel2⟩
      case measure => simp [intOf]; omega
end Go.Proofs.YtlljcnhcknmoaaaGreat
