/-
  The program's writer: Int, Bool, Text, Raw, Ints; Clone, Done.
-/
import Derived.Test.YtghilgkkpbhoiaaDevB
import Derived.Lib.SliceRun
namespace Go.Proofs.Ytghilgkkpbhoiaa
open Go.RowKit Go.Shelf
set_option linter.unusedVariables false

theorem xor_ones {x : Nat} (h : x < 18446744073709551616) : x ^^^ 18446744073709551615 = 18446744073709551615 - x := by
  have h1 := BitVec.xor_allOnes (x := BitVec.ofNat 64 x)
  have h2 := congrArg BitVec.toNat h1
  rw [BitVec.toNat_xor, BitVec.toNat_not, BitVec.toNat_ofNat, BitVec.toNat_allOnes, Nat.mod_eq_of_lt (by exact h)] at h2
  exact h2
theorem zig_form {n : Int} (hn : -9223372036854775808 ≤ n ∧ n ≤ 9223372036854775807) :
    bits BinOp.xor IntKind.u64 (IntKind.u64.wrap (IntKind.u64.wrap n * 2)) (IntKind.u64.wrap (n / 9223372036854775808)) = ((zigN n : Nat) : Int) := by
  by_cases h : n < 0
  · have e1 : IntKind.u64.wrap (n / 9223372036854775808) = ((18446744073709551615 : Nat) : Int) := by rw [IntKind.wrap_u64]; omega
    have e2 : IntKind.u64.wrap (IntKind.u64.wrap n * 2) = ((2 * n + 18446744073709551616).toNat : Int) := by rw [IntKind.wrap_u64, IntKind.wrap_u64]; omega
    rw [e1, e2, bits_xor_u64_nat _ _ (by omega) (by decide), xor_ones (by omega)]
    unfold zigN
    rw [if_pos h]
    omega
  · have e1 : IntKind.u64.wrap (n / 9223372036854775808) = ((0 : Nat) : Int) := by rw [IntKind.wrap_u64]; omega
    have e2 : IntKind.u64.wrap (IntKind.u64.wrap n * 2) = ((2 * n).toNat : Int) := by rw [IntKind.wrap_u64, IntKind.wrap_u64]; omega
    rw [e1, e2, bits_xor_u64_nat _ _ (by omega) (by decide), Nat.xor_zero]
    unfold zigN
    rw [if_neg h]

set_option maxHeartbeats 1000000 in
theorem devInt_any (r g : Nat) (zs : List Nat) (n : Int) (w : World) (h : Wr w r g zs) (hn : -9223372036854775808 ≤ n ∧ n ≤ 9223372036854775807) (hlen : zs.length ≤ 900000000) :
    Calls Try.prog 29 #[.pointer (some ⟨r, 0, none⟩), .int .i64 n] w (WrEnd r g (zs ++ varN (zigN n)) w) := by
  go_enter Try.func29, Try.ntmps29
  go_wp2_with fail
  rw [zig_form hn]
  refine (devUint_any r g zs (zigN n) w h (zigN_lt hn) hlen).mono ?_
  rintro e w1 ⟨rfl, he⟩
  have HE := Lib.hid he
  clear he h
  go_wp2_with fail
  go_end0
  exact ⟨rfl, HE.out⟩

set_option maxHeartbeats 1000000 in
theorem devBool_any (r g : Nat) (zs : List Nat) (b : Bool) (w : World) (h : Wr w r g zs) (hlen : zs.length ≤ 900000000) :
    Calls Try.prog 30 #[.pointer (some ⟨r, 0, none⟩), .bool b] w (WrEnd r g (zs ++ boolN b) w) := by
  obtain ⟨a, cap, hi⟩ := h
  have HI := Lib.hid hi
  have hc0 := hi.laid.cell 0
  have hf0 := hi.laid.frozen 0
  simp only [List.getElem?_cons_zero] at hc0
  have hrlt := hi.laid.lt
  have HFR := Lib.hid hi.own
  have hA : ∀ o, (w.alloc o).cell? ⟨r, 0, none⟩ = some (.slice a zs.length cap) ∧ (w.alloc o).frozen? ⟨r, 0, none⟩ = false := fun o => by
    have hb := (Below.refl w.heap.size w).alloc (Nat.le_refl _) o
    exact ⟨(hb.cell (p := ⟨r, 0, none⟩) hrlt).trans hc0, (hb.frozen (p := ⟨r, 0, none⟩) hrlt).trans hf0⟩
  have HA := Lib.hid hA
  have HNE := Lib.hid (Ne.symm hi.apart)
  clear hA hi
  cases b
  · go_enter Try.func30, Try.ntmps30
    go_wp2_with (at_builtin; go_must (refine wpList_append_buf rfl _ _ 24 rfl 0 (.slice a zs.length cap) (natI zs) rfl (fresh_keeps HFR.out ((Below.refl _ w).alloc (Nat.le_refl _) _)) _ [((0 : Nat) : Int)] rfl (lit_src (World.alloc_heap_new w _)) (by rw [natI_length]; simp; omega) (Nat.zero_le _) ?_); intro b n2 c w3 hn2 hfr hgrow hat; obtain ⟨hs3, hs4⟩ := And.intro ((hgrow.cell_far ⟨r, 0, none⟩ (by simp; omega) HNE.out).trans (HA.out _).1) ((hgrow.frozen_far ⟨r, 0, none⟩ (by simp; omega) HNE.out).trans (HA.out _).2); have HP := Lib.hid (wr_put (ys := zs ++ boolN false) HI.out ((Below.refl _ w).alloc (Nat.le_refl _) _) (by rw [natI_append]; exact hfr) (by rw [hn2]; simp [natI_length, boolN]) hgrow hat rfl); clear hfr hgrow hat hn2)
    go_end0
    obtain ⟨g2, hw2, hg2, hk2⟩ := HP.out
    exact ⟨rfl, g2, hw2, hg2, hk2⟩
  · go_enter Try.func30, Try.ntmps30
    go_wp2_with (at_builtin; go_must (refine wpList_append_buf rfl _ _ 24 rfl 0 (.slice a zs.length cap) (natI zs) rfl (fresh_keeps HFR.out ((Below.refl _ w).alloc (Nat.le_refl _) _)) _ [((1 : Nat) : Int)] rfl (lit_src (World.alloc_heap_new w _)) (by rw [natI_length]; simp; omega) (Nat.zero_le _) ?_); intro b n2 c w3 hn2 hfr hgrow hat; obtain ⟨hs3, hs4⟩ := And.intro ((hgrow.cell_far ⟨r, 0, none⟩ (by simp; omega) HNE.out).trans (HA.out _).1) ((hgrow.frozen_far ⟨r, 0, none⟩ (by simp; omega) HNE.out).trans (HA.out _).2); have HP := Lib.hid (wr_put (ys := zs ++ boolN true) HI.out ((Below.refl _ w).alloc (Nat.le_refl _) _) (by rw [natI_append]; exact hfr) (by rw [hn2]; simp [natI_length, boolN]) hgrow hat rfl); clear hfr hgrow hat hn2)
    go_end0
    obtain ⟨g2, hw2, hg2, hk2⟩ := HP.out
    exact ⟨rfl, g2, hw2, hg2, hk2⟩

set_option maxHeartbeats 1000000 in
theorem devText_any (r g : Nat) (zs : List Nat) (s : ByteArray) (w : World) (h : Wr w r g zs) (hlen : zs.length + s.size ≤ 900000000) :
    Calls Try.prog 38 #[.pointer (some ⟨r, 0, none⟩), .string s] w (WrEnd r g (zs ++ (varN s.size ++ strB s)) w) := by
  have H10 := Lib.hid (varN_len10 (n := s.size) (by omega))
  go_enter Try.func38, Try.ntmps38
  go_wp2_with fail
  refine (devUint_any r g zs s.size w h (by omega) (by omega)).mono ?_
  rintro e w1 ⟨rfl, g1, ⟨a, cap, hi⟩, hg1, hk1⟩
  have HL : Hid ((zs ++ varN s.size).length + s.size ≤ 900000010 ∧ zs ++ (varN s.size ++ strB s) = (zs ++ varN s.size) ++ strB s) := Lib.hid (by have := H10.out; rw [List.length_append]; exact ⟨by omega, (List.append_assoc _ _ _).symm⟩)
  have HG := Lib.hid hg1
  have HK := Lib.hid hk1
  have HSZ : Hid (s.size ≤ 900000000) := Lib.hid (by omega)
  clear h hg1 hk1 H10 hlen
  generalize zs ++ varN s.size = L at *
  have hll := HL.out.1
  have HI := Lib.hid hi
  have hc0 := hi.laid.cell 0
  have hf0 := hi.laid.frozen 0
  simp only [List.getElem?_cons_zero] at hc0
  have hrlt := hi.laid.lt
  have HFR := Lib.hid hi.own
  have HNE := Lib.hid (Ne.symm hi.apart)
  clear hi
  go_wp2_with (at_builtin; go_must (refine wpList_append_buf rfl _ _ 9 rfl 0 (.slice a L.length cap) (natI L) rfl HFR.out _ (natI (strB s)) rfl (.inr ⟨rfl, s, rfl, rfl⟩) (by have := HSZ.out; rw [natI_length, natI_length, strB_length]; omega) (Nat.zero_le _) ?_); intro b n2 c w3 hn2 hfr hgrow hat; obtain ⟨hs3, hs4⟩ := And.intro ((hgrow.cell_far ⟨r, 0, none⟩ hrlt HNE.out).trans hc0) ((hgrow.frozen_far ⟨r, 0, none⟩ hrlt HNE.out).trans hf0); have HP := Lib.hid (wr_put (ys := L ++ strB s) HI.out (Below.refl _ w1) (by rw [natI_append]; exact hfr) (by rw [hn2]; simp [natI_length]) hgrow hat rfl); clear hfr hgrow hat hn2)
  go_end0
  obtain ⟨g2, hw2, hg2, hk2⟩ := HP.out
  rw [HL.out.2]
  exact wr_end HG.out HK.out hw2 hg2 hk2

set_option maxHeartbeats 1000000 in
theorem devRaw_any (r g : Nat) (zs : List Nat) (v : Value) (ys : List Nat) (w : World) (h : Wr w r g zs) (hv : Row .u8 w v (natI ys)) (hb : ∀ j, blockOf v j → j ≠ r ∧ j ≠ g) (hlen : zs.length + ys.length ≤ 900000000) :
    Calls Try.prog 31 #[.pointer (some ⟨r, 0, none⟩), v] w (WrEnd r g (zs ++ (varN ys.length ++ ys)) w) := by
  have H10 := Lib.hid (varN_len10 (n := ys.length) (by omega))
  have HV := Lib.hid hv
  have HB := Lib.hid hb
  obtain ⟨p, vc, rfl, hcap, hcm, hne, hnil⟩ := hv
  rw [natI_length] at *
  clear hne hnil hb
  go_enter Try.func31, Try.ntmps31
  go_wp2_with fail
  refine (devUint_any r g zs ys.length w h (by omega) (by omega)).mono ?_
  rintro e w1 ⟨rfl, g1, ⟨a, cap, hi⟩, hg1, hk1⟩
  have HL : Hid ((zs ++ varN ys.length).length + ys.length ≤ 900000010 ∧ zs ++ (varN ys.length ++ ys) = (zs ++ varN ys.length) ++ ys) := Lib.hid (by have := H10.out; rw [List.length_append]; exact ⟨by omega, (List.append_assoc _ _ _).symm⟩)
  have HG := Lib.hid hg1
  have HK := Lib.hid hk1
  have HV1 := Lib.hid (row_foot HV.out hk1 (fun j hj hn => by have := HB.out j hj; omega))
  have HSZ : Hid (ys.length ≤ 900000000) := Lib.hid (by omega)
  clear h hg1 hk1 H10 hlen HV
  generalize zs ++ varN ys.length = L at *
  have hll := HL.out.1
  have HI := Lib.hid hi
  have hc0 := hi.laid.cell 0
  have hf0 := hi.laid.frozen 0
  simp only [List.getElem?_cons_zero] at hc0
  have hrlt := hi.laid.lt
  have HFR := Lib.hid hi.own
  have HNE := Lib.hid (Ne.symm hi.apart)
  clear hi
  go_wp2_with (at_builtin; go_must (refine wpList_append_buf rfl _ _ 24 rfl 0 (.slice a L.length cap) (natI L) rfl HFR.out _ (natI ys) rfl (.inl ⟨rfl, HV1.out⟩) (by have := HSZ.out; rw [natI_length, natI_length]; omega) (Nat.zero_le _) ?_); intro b n2 c w3 hn2 hfr hgrow hat; obtain ⟨hs3, hs4⟩ := And.intro ((hgrow.cell_far ⟨r, 0, none⟩ hrlt HNE.out).trans hc0) ((hgrow.frozen_far ⟨r, 0, none⟩ hrlt HNE.out).trans hf0); have HP := Lib.hid (wr_put (ys := L ++ ys) HI.out (Below.refl _ w1) (by rw [natI_append]; exact hfr) (by rw [hn2]; simp [natI_length]) hgrow hat rfl); clear hfr hgrow hat hn2)
  go_end0
  obtain ⟨g2, hw2, hg2, hk2⟩ := HP.out
  rw [HL.out.2]
  exact wr_end HG.out HK.out hw2 hg2 hk2

set_option maxRecDepth 100000 in
set_option maxHeartbeats 2000000 in
theorem devInts_any (r g : Nat) (zs : List Nat) (v : Value) (l : List Int) (w : World) (h : Wr w r g zs) (hv : Row .i64 w v l) (hb : ∀ j, blockOf v j → j ≠ r ∧ j ≠ g ∧ j < w.heap.size) (hr : ∀ n ∈ l, -9223372036854775808 ≤ n ∧ n ≤ 9223372036854775807) (hlen : zs.length ≤ 400000000) (hll : l.length ≤ 1000000) :
    Calls Try.prog 32 #[.pointer (some ⟨r, 0, none⟩), v] w (WrEnd r g (zs ++ (varN l.length ++ zigsN l)) w) := by
  have H10 := Lib.hid (varN_len10 (n := l.length) (by omega))
  have HR := Lib.hid hr
  have HB := Lib.hid hb
  obtain ⟨p, vc, rfl, hcap, hcm, hne, hnil⟩ := hv
  have HNE := Lib.hid hne
  clear hne hnil hb hr
  go_enter Try.func32, Try.ntmps32
  go_wp2_with fail
  refine (devUint_any r g zs l.length w h (by omega) (by omega)).mono ?_
  rintro e w1 ⟨rfl, g1, hw1, hg1, hk1⟩
  have HW1 := Lib.hid hw1
  have HG1 := Lib.hid hg1
  have HK1 := Lib.hid hk1
  have hlt0 := h.lts
  clear h hw1 hg1 hk1
  go_wp2_with fail
  go_loopw [5, 13] (fun ev iv wr => ∃ (k g' : Nat), k ≤ l.length ∧ iv = .int .i64 (k : Int) ∧ Hid (Wr wr r g' (zs ++ varN l.length ++ zigsN (l.take k))) ∧ Hid (g' = g ∨ w.heap.size ≤ g') ∧ Hid (Keeps (fun k => k = r ∨ k = g) w wr)) (fun _ i _ => l.length - (intOf i).toNat)
  case atStart => exact ⟨0, g1, Nat.zero_le _, rfl, Lib.hid (by simpa [zigsN] using HW1.out), HG1, HK1⟩
  case round =>
    obtain ⟨k, g', hk, rfl, HW, HG, HK⟩ := hrel
    clear HW1 HG1 HK1
    by_cases hlt : k < l.length
    · obtain ⟨b, off, rfl, hc⟩ := HNE.out (fun h => by rw [h] at hlt; simp at hlt)
      have hck := hc k hlt
      have hbb := HB.out b rfl
      have hck := HK.out.cell hck (fun hh => by simp only at hh; omega)
      have hgk : l[k]?.getD 0 = l[k] := by simp [hlt]
      rw [hgk] at hck
      have HV := Lib.hid (HR.out l[k] (List.getElem_mem hlt))
      have HS := Lib.hid (zigsN_take hlt)
      have HLN : Hid ((zs ++ varN l.length ++ zigsN (l.take k)).length ≤ 900000000) := by
        have e1 := H10.out
        have e2 := zigsN_len (l := l.take k) (fun n hn => HR.out n (List.mem_of_mem_take hn))
        have e4 : (l.take k).length ≤ l.length := by simp; omega
        rw [List.length_append, List.length_append]
        exact Lib.hid (by omega)
      clear hc hgk
      go_wp2_with fail
      refine (devInt_any r g' _ l[k] wr HW.out HV.out HLN.out).mono ?_
      rintro e w2 ⟨rfl, g2, hw2, hg2, hk2⟩
      have HN := Lib.hid (wr_then HG.out HK.out hg2 hk2)
      have HW2 := Lib.hid hw2
      clear hw2 hg2 hk2
      go_wp2_with fail
      go_roundw
      case rel => exact ⟨k + 1, g2, by omega, by go_num, Lib.hid (by rw [HS.out, ← List.append_assoc]; exact HW2.out), Lib.hid HN.out.1, Lib.hid HN.out.2⟩
      case measure => simp [intOf]; omega
    · obtain rfl : k = l.length := by omega
      rw [List.take_length] at HW
      go_wp2_with fail
      go_end0
      rw [← List.append_assoc]
      exact ⟨rfl, g', HW.out, HG.out, HK.out⟩

set_option maxHeartbeats 1000000 in
theorem clone_any (v : Value) (zs : List Int) (w : World) (hv : Row .u8 w v zs) (hlen : zs.length ≤ 990000000) :
    Calls Try.prog 39 #[v] w (Copies 5 .u8 zs w) := by
  obtain ⟨i0, hi, hz0, hz1, hz2⟩ := info_parts info_u8
  have HR := Lib.hid hv
  have q : ∀ (w : World) (a : Option Addr) (n c n' c' : Nat), (binOp .eql 24 (.slice a n c) (.slice none n' c')).run Try.prog w = .ok (.bool a.isNone) w := fun w a n c n' c' => Lib.run_eql_slice_nil w _ _ a n c n' c' under_bytes
  obtain ⟨p, cap, rfl, hcap, hcm, hne, hnil⟩ := hv
  rcases p with _ | p
  · obtain ⟨rfl, rfl⟩ := hnil rfl
    clear hne hnil
    go_enter Try.func39, Try.ntmps39
    go_wp2_with fail
    go_ret
    exact copies_mk (fresh_nil _ _ _ _) (Below.refl _ _)
  · clear hne hnil
    have HF := Lib.hid (fresh_lit w w.heap.size 5 .u8 [] (Nat.le_refl _) (by simp))
    have HR1 := Lib.hid (row_keeps HR.out ((Below.refl _ w).alloc (Nat.le_refl _) (.cells #[] 5)))
    have hsz : w.heap.size ≤ (w.alloc (.cells #[] 5)).heap.size := by simp
    go_enter Try.func39, Try.ntmps39
    go_wp2_with (at_builtin; go_must (refine wpList_append_fresh rfl _ _ 24 rfl w.heap.size 5 i0 .u8 1 Try.underlying24 hi hz0 hz1 hz2 (by decide) _ [] rfl HF.out _ zs rfl HR1.out (by simp; omega) hsz ?_); intro v2 w2 hfr hgrow; have hb2 : Below w.heap.size w w2 := below_grown ((Below.refl _ w).alloc (Nat.le_refl _) _) HF.out hgrow hsz; have HFR := Lib.hid hfr; clear hfr hgrow)
    go_ret
    exact copies_mk HFR.out hb2

set_option maxHeartbeats 1000000 in
theorem devDone_any (r g : Nat) (zs : List Nat) (w : World) (h : Wr w r g zs) (hlen : zs.length ≤ 990000000) :
    Calls Try.prog 16 #[.pointer (some ⟨r, 0, none⟩)] w (Copies 5 .u8 (natI zs) w) := by
  obtain ⟨a, cap, hi⟩ := h
  have hc0 := hi.laid.cell 0
  simp only [List.getElem?_cons_zero] at hc0
  have HR := Lib.hid hi.row
  clear hi
  go_enter Try.func16, Try.ntmps16
  go_wp2_with fail
  refine (clone_any _ (natI zs) w HR.out (by rw [natI_length]; exact hlen)).mono ?_
  rintro e w1 ⟨v, rfl, h1, h2⟩
  have H1 := Lib.hid h1
  clear h1
  go_wp2_with fail
  go_ret
  exact copies_mk H1.out h2
end Go.Proofs.Ytghilgkkpbhoiaa
