/-
  The program's reader: Int, Bool, End, Read.
-/
import Derived.Test.YtigjcnjhmhepeaaDevE
namespace Go.Proofs.Ytigjcnjhmhepeaa
open Go.RowKit Go.Shelf
set_option linter.unusedVariables false

theorem wrap_i64 (n : Int) : IntKind.i64.wrap n = wrap64 n := by
  unfold wrap64
  simp only [IntKind.wrap, IntKind.bits, IntKind.signed]
  simp
  try omega
theorem xor_i64_zero {x : Nat} (h : x < 9223372036854775808) : bits BinOp.xor IntKind.i64 (x : Int) 0 = (x : Int) := by
  have h1 : (BitVec.ofInt 64 (x : Int)).toNat = x := by rw [BitVec.ofInt_natCast, BitVec.toNat_ofNat]; exact Nat.mod_eq_of_lt (by omega)
  show IntKind.i64.wrap ((BitVec.ofInt 64 (x : Int) ^^^ BitVec.ofInt 64 (0 : Int)).toNat : Int) = _
  rw [BitVec.toNat_xor, h1, show (BitVec.ofInt 64 (0 : Int)).toNat = 0 by decide, Nat.xor_zero, wrap_i64]
  unfold wrap64
  omega
theorem xor_i64_ones {x : Nat} (h : x < 9223372036854775808) : bits BinOp.xor IntKind.i64 (x : Int) (-1) = -(x : Int) - 1 := by
  have h1 : (BitVec.ofInt 64 (x : Int)).toNat = x := by rw [BitVec.ofInt_natCast, BitVec.toNat_ofNat]; exact Nat.mod_eq_of_lt (by omega)
  show IntKind.i64.wrap ((BitVec.ofInt 64 (x : Int) ^^^ BitVec.ofInt 64 (-1 : Int)).toNat : Int) = _
  rw [BitVec.toNat_xor, h1, show (BitVec.ofInt 64 (-1 : Int)).toNat = 18446744073709551615 by decide, xor_ones (by omega), wrap_i64]
  unfold wrap64
  omega
theorem zag_form {z : Nat} (h : z < 18446744073709551616) :
    bits BinOp.xor IntKind.i64 (wrap64 ((z : Int) / 2)) (wrap64 (-wrap64 (bits BinOp.and IntKind.u64 (z : Int) 1))) = zagI z := by
  have e1 : wrap64 ((z : Int) / 2) = ((z / 2 : Nat) : Int) := by unfold wrap64; omega
  have e2 : bits BinOp.and IntKind.u64 (z : Int) 1 = ((z % 2 : Nat) : Int) := by
    have := bits_and_u64_nat z 1 h (by decide)
    rw [Nat.and_one_is_mod] at this
    exact this
  rw [e1, e2]
  unfold zagI
  by_cases h2 : z % 2 = 1
  · rw [if_pos h2, h2, show wrap64 (-wrap64 ((1 : Nat) : Int)) = -1 by unfold wrap64; omega]
    exact xor_i64_ones (by omega)
  · rw [if_neg h2, show z % 2 = 0 by omega, show wrap64 (-wrap64 ((0 : Nat) : Int)) = 0 by unfold wrap64; omega]
    exact xor_i64_zero (by omega)

set_option maxHeartbeats 1000000 in
theorem devRdInt_any (r b : Nat) (s : RS) (w : World) (h : Rx w r b s) (hs : ∀ c ∈ s.1, c < 256) :
    Calls Try.prog 50 #[.pointer (some ⟨r, 0, none⟩)] w (RxEnd r b (.int .i64 (rInt s).1) (rInt s).2 w) := by
  have HRD := Lib.hid h
  have HLT := Lib.hid (rUint_lt hs)
  clear h
  go_enter Try.func50, Try.ntmps50
  go_wp2_with fail
  refine (devRdUint_any r b s w HRD.out).mono ?_
  rintro e w1 ⟨rfl, hrd, hk⟩
  have HR1 := Lib.hid hrd
  have HK1 := Lib.hid hk
  have HDF : Hid (rInt s = (zagI (rUint s).1, (rUint s).2)) := Lib.hid rfl
  clear hrd hk HRD
  generalize (rUint s).1 = z at *
  generalize (rUint s).2 = s2 at *
  go_wp2_with fail
  go_ret
  rw [HDF.out]
  exact ⟨ret_int (zag_form HLT.out), HR1.out, HK1.out⟩

set_option maxHeartbeats 1000000 in
theorem devRdEnd_any (r b : Nat) (s : RS) (w : World) (h : Rx w r b s) :
    Calls Try.prog 23 #[.pointer (some ⟨r, 0, none⟩)] w fun e w' => e = .returned (.int .i64 ((rEnd s : Nat) : Int)) ∧ w = w' := by
  obtain ⟨l', h1, h2⟩ := h
  obtain ⟨a, cap, hc0, hc1, _, _, _, _, _, _, _, _, _⟩ := h1.cells
  clear h1
  obtain ⟨l, e⟩ := s
  simp only at hc0 hc1 h2
  by_cases he : e = 0
  · subst he
    obtain rfl : l' = l := h2 rfl
    clear h2
    by_cases hl : l' = []
    · have hl0 : ¬ 0 < l'.length := by rw [hl]; simp
      have HE : Hid (rEnd (l', 0) = 0) := Lib.hid (by unfold rEnd; rw [if_neg (fun h => h.2 hl)])
      clear hl
      go_enter Try.func23, Try.ntmps23
      go_wp2_with fail
      go_ret
      exact ⟨by rw [HE.out]; rfl, rfl⟩
    · have hl0 : 0 < l'.length := List.length_pos_iff.2 hl
      have HE : Hid (rEnd (l', 0) = 2) := Lib.hid (by unfold rEnd; rw [if_pos ⟨rfl, hl⟩])
      clear hl
      go_enter Try.func23, Try.ntmps23
      go_wp2_with fail
      go_ret
      exact ⟨by rw [HE.out]; rfl, rfl⟩
  · have b1 : ((e : Int) == 0) = false := by simp; omega
    have HE : Hid (rEnd (l, e) = e) := Lib.hid (by unfold rEnd; rw [if_neg (fun h => he h.1)])
    clear he h2
    go_enter Try.func23, Try.ntmps23
    go_wp2_with fail
    go_ret
    exact ⟨by rw [HE.out]; rfl, rfl⟩

/-- What Read gives: a reader of the call's own, at the beginning of a copy. -/
def ReadNew (l : List Nat) (w : World) (e : Ending) (w' : World) : Prop :=
  ∃ r b, e = .returned (.pointer (some ⟨r, 0, none⟩)) ∧ Rw w' r b (l, 0) ∧ w.heap.size ≤ r ∧ w.heap.size ≤ b ∧ b < w'.heap.size ∧ Below w.heap.size w w'

set_option maxHeartbeats 2000000 in
theorem devRead_any (v : Value) (l : List Nat) (w : World) (hv : Row .u8 w v (natI l)) (h8 : ∀ c ∈ l, c < 256) (hlen : l.length ≤ 1000000) :
    Calls Try.prog 20 #[v] w (ReadNew l w) := by
  have HV := Lib.hid hv
  have H8 := Lib.hid h8
  clear h8
  obtain ⟨p, vc, rfl, hcap, hcm, hne, hnil⟩ := hv
  rw [natI_length] at *
  clear hne hnil
  go_enter Try.func20, Try.ntmps20
  go_wp2_with fail
  refine (clone_any _ (natI l) w HV.out (by rw [natI_length]; omega)).mono ?_
  rintro e w1 ⟨v1, rfl, h1, hb1⟩
  have H1 := Lib.hid h1
  obtain ⟨a, cap, rfl, _, _⟩ := fresh_elems h1
  rw [natI_length] at *
  clear h1
  go_wp2_with fail
  go_ret
  have hL := Laid.new w1 60 [.slice a l.length cap, .int .i64 0]
  have hbe : Below w1.heap.size w1 (w1.alloc (.cells #[.slice a l.length cap, .int .i64 0] 60)) := (Below.refl _ w1).alloc (Nat.le_refl _) _
  have hrow := row_keeps (row_of_fresh H1.out) hbe
  have hsz : (w1.alloc (.cells #[.slice a l.length cap, .int .i64 0] 60)).heap.size = w1.heap.size + 1 := by simp
  have hbel := below_then hb1 hbe
  rcases fresh_form H1.out with ⟨e1, e2⟩ | ⟨g, c2, e1, hg1, hg2, _, _⟩
  · injection e1 with e1 _ e3
    subst e1 e3
    refine ⟨w1.heap.size, w1.heap.size, rfl, ⟨_, hL, hrow, fun j h => h.elim, H8.out, hlen, ?_⟩, hb1.size, hb1.size, by omega, hbel⟩
    have : l = [] := by cases l with | nil => rfl | cons _ _ => simp [natI] at e2
    subst this
    exact .inl rfl
  · injection e1 with e1 _ e3
    subst e1 e3
    exact ⟨w1.heap.size, g, rfl, ⟨_, hL, hrow, fun j hj => ⟨hj, by omega⟩, H8.out, hlen, .inr ⟨_, _, _, _, rfl⟩⟩, hb1.size, hg1, by omega, hbel⟩
end Go.Proofs.Ytigjcnjhmhepeaa
