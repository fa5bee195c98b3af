/-
  The program's writer: Int, Bool, Text, Raw, Ints; Clone, Done.
-/
import Derived.Test.YtigjcnjhmhepeaaDevB
import Derived.Lib.SliceRun
namespace Go.Proofs.Ytigjcnjhmhepeaa
open Go.RowKit Go.Shelf
set_option linter.unusedVariables false

theorem xor_ones {x : Nat} (h : x < 18446744073709551616) : x ^^^ 18446744073709551615 = 18446744073709551615 - x := by
  have h1 := BitVec.xor_allOnes (x := BitVec.ofNat 64 x)
  have h2 := congrArg BitVec.toNat h1
  rw [BitVec.toNat_xor, BitVec.toNat_not, BitVec.toNat_ofNat, BitVec.toNat_allOnes, Nat.mod_eq_of_lt (by exact h)] at h2
  exact h2
theorem zig_form {n : Int} (hn : -9223372036854775808 ≤ n ∧ n ≤ 9223372036854775807) :
    bits BinOp.xor IntKind.u64 (IntKind.u64.wrap (IntKind.u64.wrap n * 2)) (IntKind.u64.wrap (n / 9223372036854775808)) = ((zigN n : Nat) : Int) := by
  by_cases h : n < 0
  · have e1 : IntKind.u64.wrap (n / 9223372036854775808) = ((18446744073709551615 : Nat) : Int) := by rw [IntKind.wrap_u64]; omega
    have e2 : IntKind.u64.wrap (IntKind.u64.wrap n * 2) = ((2 * n + 18446744073709551616).toNat : Int) := by rw [IntKind.wrap_u64, IntKind.wrap_u64]; omega
    rw [e1, e2, bits_xor_u64_nat _ _ (by omega) (by decide), xor_ones (by omega)]
    unfold zigN
    rw [if_pos h]
    omega
  · have e1 : IntKind.u64.wrap (n / 9223372036854775808) = ((0 : Nat) : Int) := by rw [IntKind.wrap_u64]; omega
    have e2 : IntKind.u64.wrap (IntKind.u64.wrap n * 2) = ((2 * n).toNat : Int) := by rw [IntKind.wrap_u64, IntKind.wrap_u64]; omega
    rw [e1, e2, bits_xor_u64_nat _ _ (by omega) (by decide), Nat.xor_zero]
    unfold zigN
    rw [if_neg h]

set_option maxHeartbeats 1000000 in
theorem devInt_any (r g : Nat) (zs : List Nat) (n : Int) (w : World) (h : Wr w r g zs) (hn : -9223372036854775808 ≤ n ∧ n ≤ 9223372036854775807) (hlen : zs.length ≤ 900000000) :
    Calls Try.prog 16 #[.pointer (some ⟨r, 0, none⟩), .int .i64 n] w (WrEnd r g (zs ++ varN (zigN n)) w) := by
  go_enter Try.func16, Try.ntmps16
  go_wp2_with fail
  rw [zig_form hn]
  refine (devUint_any r g zs (zigN n) w h (zigN_lt hn) hlen).mono ?_
  rintro e w1 ⟨rfl, he⟩
  have HE := Lib.hid he
  clear he h
  go_wp2_with fail
  go_end0
  exact ⟨rfl, HE.out⟩

set_option maxHeartbeats 1000000 in
theorem devRaw_any (r g : Nat) (zs : List Nat) (v : Value) (ys : List Nat) (w : World) (h : Wr w r g zs) (hv : Row .u8 w v (natI ys)) (hb : ∀ j, blockOf v j → j ≠ r ∧ j ≠ g) (hlen : zs.length + ys.length ≤ 900000000) :
    Calls Try.prog 17 #[.pointer (some ⟨r, 0, none⟩), v] w (WrEnd r g (zs ++ (varN ys.length ++ ys)) w) := by
  have H10 := Lib.hid (varN_len10 (n := ys.length) (by omega))
  have HV := Lib.hid hv
  have HB := Lib.hid hb
  obtain ⟨p, vc, rfl, hcap, hcm, hne, hnil⟩ := hv
  rw [natI_length] at *
  clear hne hnil hb
  go_enter Try.func17, Try.ntmps17
  go_wp2_with fail
  refine (devUint_any r g zs ys.length w h (by omega) (by omega)).mono ?_
  rintro e w1 ⟨rfl, g1, ⟨a, cap, hi⟩, hg1, hk1⟩
  have HL : Hid ((zs ++ varN ys.length).length + ys.length ≤ 900000010 ∧ zs ++ (varN ys.length ++ ys) = (zs ++ varN ys.length) ++ ys) := Lib.hid (by have := H10.out; rw [List.length_append]; exact ⟨by omega, (List.append_assoc _ _ _).symm⟩)
  have HG := Lib.hid hg1
  have HK := Lib.hid hk1
  have HV1 := Lib.hid (row_foot HV.out hk1 (fun j hj hn => by have := HB.out j hj; omega))
  have HSZ : Hid (ys.length ≤ 900000000) := Lib.hid (by omega)
  clear h hg1 hk1 H10 hlen HV
  generalize zs ++ varN ys.length = L at *
  have hll := HL.out.1
  have HI := Lib.hid hi
  have hc0 := hi.laid.cell 0
  have hf0 := hi.laid.frozen 0
  simp only [List.getElem?_cons_zero] at hc0
  have hrlt := hi.laid.lt
  have HFR := Lib.hid hi.own
  have HNE := Lib.hid (Ne.symm hi.apart)
  clear hi
  go_wp2_with (at_builtin; go_must (refine wpList_append_buf rfl _ _ 23 rfl 0 (.slice a L.length cap) (natI L) rfl HFR.out _ (natI ys) rfl (.inl ⟨rfl, HV1.out⟩) (by have := HSZ.out; rw [natI_length, natI_length]; omega) (Nat.zero_le _) ?_); intro b n2 c w3 hn2 hfr hgrow hat; obtain ⟨hs3, hs4⟩ := And.intro ((hgrow.cell_far ⟨r, 0, none⟩ hrlt HNE.out).trans hc0) ((hgrow.frozen_far ⟨r, 0, none⟩ hrlt HNE.out).trans hf0); have HP := Lib.hid (wr_put (ys := L ++ ys) HI.out (Below.refl _ w1) (by rw [natI_append]; exact hfr) (by rw [hn2]; simp [natI_length]) hgrow hat rfl); clear hfr hgrow hat hn2)
  go_end0
  obtain ⟨g2, hw2, hg2, hk2⟩ := HP.out
  rw [HL.out.2]
  exact wr_end HG.out HK.out hw2 hg2 hk2

set_option maxHeartbeats 1000000 in
theorem clone_any (v : Value) (zs : List Int) (w : World) (hv : Row .u8 w v zs) (hlen : zs.length ≤ 990000000) :
    Calls Try.prog 31 #[v] w (Copies 5 .u8 zs w) := by
  obtain ⟨i0, hi, hz0, hz1, hz2⟩ := info_parts info_u8
  have HR := Lib.hid hv
  have q : ∀ (w : World) (a : Option Addr) (n c n' c' : Nat), (binOp .eql 23 (.slice a n c) (.slice none n' c')).run Try.prog w = .ok (.bool a.isNone) w := fun w a n c n' c' => Lib.run_eql_slice_nil w _ _ a n c n' c' under_bytes
  obtain ⟨p, cap, rfl, hcap, hcm, hne, hnil⟩ := hv
  rcases p with _ | p
  · obtain ⟨rfl, rfl⟩ := hnil rfl
    clear hne hnil
    go_enter Try.func31, Try.ntmps31
    go_wp2_with fail
    go_ret
    exact copies_mk (fresh_nil _ _ _ _) (Below.refl _ _)
  · clear hne hnil
    have HF := Lib.hid (fresh_lit w w.heap.size 5 .u8 [] (Nat.le_refl _) (by simp))
    have HR1 := Lib.hid (row_keeps HR.out ((Below.refl _ w).alloc (Nat.le_refl _) (.cells #[] 5)))
    have hsz : w.heap.size ≤ (w.alloc (.cells #[] 5)).heap.size := by simp
    go_enter Try.func31, Try.ntmps31
    go_wp2_with (at_builtin; go_must (refine wpList_append_fresh rfl _ _ 23 rfl w.heap.size 5 i0 .u8 1 Try.underlying23 hi hz0 hz1 hz2 (by decide) _ [] rfl HF.out _ zs rfl HR1.out (by simp; omega) hsz ?_); intro v2 w2 hfr hgrow; have hb2 : Below w.heap.size w w2 := below_grown ((Below.refl _ w).alloc (Nat.le_refl _) _) HF.out hgrow hsz; have HFR := Lib.hid hfr; clear hfr hgrow)
    go_ret
    exact copies_mk HFR.out hb2

set_option maxHeartbeats 1000000 in
theorem devDone_any (r g : Nat) (zs : List Nat) (w : World) (h : Wr w r g zs) (hlen : zs.length ≤ 990000000) :
    Calls Try.prog 18 #[.pointer (some ⟨r, 0, none⟩)] w (Copies 5 .u8 (natI zs) w) := by
  obtain ⟨a, cap, hi⟩ := h
  have hc0 := hi.laid.cell 0
  simp only [List.getElem?_cons_zero] at hc0
  have HR := Lib.hid hi.row
  clear hi
  go_enter Try.func18, Try.ntmps18
  go_wp2_with fail
  refine (clone_any _ (natI zs) w HR.out (by rw [natI_length]; exact hlen)).mono ?_
  rintro e w1 ⟨v, rfl, h1, h2⟩
  have H1 := Lib.hid h1
  clear h1
  go_wp2_with fail
  go_ret
  exact copies_mk H1.out h2
end Go.Proofs.Ytigjcnjhmhepeaa
