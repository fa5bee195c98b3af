/-
  The program's writer: Uint.
-/
import Derived.Test.YtigjcnjhmhepeaaDevA
namespace Go.Proofs.Ytigjcnjhmhepeaa
open Go.RowKit Go.Shelf
set_option linter.unusedVariables false

/-- A literal of one byte, in a block of its own. -/
theorem lit_src {W : World} {H : Nat} {x : Int} (h : W.heap[H]? = some (.cells #[.int .u8 x] 5 (0, 0))) : BSrc W 23 (.slice (some ⟨H, 0, none⟩) 1 1) [x] := by
  refine .inl ⟨rfl, _, 1, rfl, Nat.le_refl _, by decide, fun _ => ⟨H, 0, rfl, fun j hj => ?_⟩, fun h => by cases h⟩
  have : j = 0 := by simpa using hj
  subst this
  rw [cell_at h]
  rfl

set_option maxRecDepth 100000 in
theorem or_fin : ∀ x : Fin 256, bits BinOp.or IntKind.u8 (x.val : Int) 128 = ((128 + x.val % 128 : Nat) : Int) := by decide
theorem or_more (m : Nat) : bits BinOp.or IntKind.u8 ((m : Int) % 256) 128 = ((128 + m % 128 : Nat) : Int) := by
  have := or_fin ⟨m % 256, Nat.mod_lt _ (by decide)⟩
  simp only at this
  rw [show m % 256 % 128 = m % 128 by omega] at this
  rw [← this, Int.natCast_emod]
  rfl

theorem wr_end {r g g1 g2 : Nat} {zs : List Nat} {w w1 w2 : World} (h1 : g1 = g ∨ w.heap.size ≤ g1) (k1 : Keeps (fun k => k = r ∨ k = g) w w1) (h : Wr w2 r g2 zs) (h2 : g2 = g1 ∨ w1.heap.size ≤ g2) (k2 : Keeps (fun k => k = r ∨ k = g1) w1 w2) :
    WrEnd r g zs w (.returned (.tuple #[])) w2 := by
  obtain ⟨a, b⟩ := wr_then h1 k1 h2 k2
  exact ⟨rfl, g2, h, a, b⟩

set_option maxRecDepth 100000 in
set_option maxHeartbeats 4000000 in
theorem devUint_any (r g : Nat) (zs : List Nat) (n : Nat) (w : World) (h : Wr w r g zs) (hn : n < 18446744073709551616) (hlen : zs.length ≤ 900000000) :
    Calls Try.prog 19 #[.pointer (some ⟨r, 0, none⟩), .int .u64 (n : Int)] w (WrEnd r g (zs ++ varN n) w) := by
  have HW := Lib.hid h
  clear h
  have H10 := Lib.hid (varN_len10 hn)
  go_enter Try.func19, Try.ntmps19
  go_wp2_with fail
  go_loopw [1] (fun nv wr => ∃ (m g' : Nat) (pre : List Nat), m ≤ n ∧ nv = .int .u64 (m : Int) ∧ Hid (varN n = pre ++ varN m) ∧ Hid (Wr wr r g' (zs ++ pre)) ∧ Hid (g' = g ∨ w.heap.size ≤ g') ∧ Hid (Keeps (fun k => k = r ∨ k = g) w wr)) (fun nv _ => (intOf nv).toNat)
  case atStart => exact ⟨n, g, [], Nat.le_refl _, rfl, Lib.hid rfl, Lib.hid (by rw [List.append_nil]; exact HW.out), Lib.hid (.inl rfl), Lib.hid (Keeps.refl _ _)⟩
  case round =>
    obtain ⟨m, g', pre, hm, rfl, HV, HWR, HG, HK⟩ := hrel
    clear HW
    have hpl : pre.length + 1 ≤ 10 := by have h1 := H10.out; rw [HV.out, List.length_append] at h1; have := varN_pos m; omega
    have hmm : m < 18446744073709551616 := by omega
    have hll : (zs ++ pre).length ≤ 900000010 := by rw [List.length_append]; omega
    obtain ⟨a, cap, hi⟩ := HWR.out
    have HL : Hid (∀ l, zs ++ (pre ++ l) = (zs ++ pre) ++ l) := Lib.hid (fun l => (List.append_assoc _ _ _).symm)
    clear HWR H10 hpl
    generalize zs ++ pre = L at *
    have HI := Lib.hid hi
    have hc0 := hi.laid.cell 0
    have hf0 := hi.laid.frozen 0
    simp only [List.getElem?_cons_zero] at hc0
    have hrlt := hi.laid.lt
    have HFR := Lib.hid hi.own
    have hA : ∀ o, (wr.alloc o).cell? ⟨r, 0, none⟩ = some (.slice a L.length cap) ∧ (wr.alloc o).frozen? ⟨r, 0, none⟩ = false := fun o => by
      have hb := (Below.refl wr.heap.size wr).alloc (Nat.le_refl _) o
      exact ⟨(hb.cell (p := ⟨r, 0, none⟩) hrlt).trans hc0, (hb.frozen (p := ⟨r, 0, none⟩) hrlt).trans hf0⟩
    have hD : ∀ o, (wr.alloc o).drew.cell? ⟨r, 0, none⟩ = some (.slice a L.length cap) ∧ (wr.alloc o).drew.frozen? ⟨r, 0, none⟩ = false := hA
    have HA := Lib.hid hA
    have HD := Lib.hid hD
    have HNE := Lib.hid (Ne.symm hi.apart)
    clear hA hD hi
    by_cases hlt : m < 128
    · have HE : Hid (varN n = pre ++ [m]) := Lib.hid (by rw [HV.out, varN_small hlt])
      go_wp2_with (at_builtin; go_must (refine wpList_append_buf rfl _ _ 23 rfl 0 (.slice a L.length cap) (natI L) rfl (fresh_keeps HFR.out ((Below.refl _ wr).alloc (Nat.le_refl _) _)) _ [(m : Int)] rfl (lit_src (World.alloc_heap_new wr _)) (by rw [natI_length]; simp; omega) (Nat.zero_le _) ?_); intro b n2 c w3 hn2 hfr hgrow hat; obtain ⟨hs3, hs4⟩ := And.intro ((hgrow.cell_far ⟨r, 0, none⟩ (by simp; omega) HNE.out).trans (HA.out _).1) ((hgrow.frozen_far ⟨r, 0, none⟩ (by simp; omega) HNE.out).trans (HA.out _).2); have HP := Lib.hid (wr_put (ys := L ++ [m]) HI.out ((Below.refl _ wr).alloc (Nat.le_refl _) _) (by rw [natI_append]; exact hfr) (by rw [hn2]; simp [natI_length]) hgrow hat rfl); clear hfr hgrow hat hn2)
      go_end0
      obtain ⟨g2, hw2, hg2, hk2⟩ := HP.out
      rw [HE.out, HL.out]
      exact wr_end HG.out HK.out hw2 hg2 hk2
    · have HE : Hid (varN n = (pre ++ [128 + m % 128]) ++ varN (m / 128)) := Lib.hid (by rw [HV.out, varN_big hlt, List.append_assoc]; rfl)
      have HB := Lib.hid (or_more m)
      go_wp2_with (at_builtin; go_must (refine wpList_append_buf rfl _ _ 23 rfl 0 (.slice a L.length cap) (natI L) rfl (fresh_keeps HFR.out ((Below.refl _ wr).alloc (Nat.le_refl _) _)) _ [bits BinOp.or IntKind.u8 ((m : Int) % 256) 128] rfl (lit_src (World.alloc_heap_new wr _)) (by rw [natI_length]; simp; omega) (Nat.zero_le _) ?_); intro b n2 c w3 hn2 hfr hgrow hat; obtain ⟨hs3, hs4⟩ := And.intro ((hgrow.cell_far ⟨r, 0, none⟩ (by simp; omega) HNE.out).trans (HA.out _).1) ((hgrow.frozen_far ⟨r, 0, none⟩ (by simp; omega) HNE.out).trans (HA.out _).2); have HP := Lib.hid (wr_put (ys := L ++ [128 + m % 128]) HI.out ((Below.refl _ wr).alloc (Nat.le_refl _) _) (by rw [HB.out] at hfr; rw [natI_append]; exact hfr) (by rw [hn2]; simp [natI_length]) hgrow hat rfl); clear hfr hgrow hat hn2)
      obtain ⟨g2, hw2, hg2, hk2⟩ := HP.out
      obtain ⟨hg3, hk3⟩ := wr_then HG.out HK.out hg2 hk2
      go_roundw
      case rel => exact ⟨m / 128, g2, pre ++ [128 + m % 128], by omega, by go_num, HE, Lib.hid (by rw [HL.out]; exact hw2), Lib.hid hg3, Lib.hid hk3⟩
      case measure => simp [intOf]; omega
end Go.Proofs.Ytigjcnjhmhepeaa
