/-
  The program's reader: Uint, Int, Bool, End, Read. The program's reader: Int, Bool, End, Read. The program's reader: lists, Text, Raw, Ints. The program's reader: Text; the laws' examples. The laws' examples.
-/
import Derived.Test.YtadnbakniibmfaaDvA
import Derived.Laws.Bits64b
import Derived.Laws.BytesArg
namespace Go.Proofs.Ytadnbakniibmfaa
open Go.RowKit Go.Shelf
set_option linter.unusedVariables false
set_option maxRecDepth 100000

theorem pow128 (i : Nat) : 128 ^ i = 2 ^ (7 * i) := by
  rw [show (128 : Nat) = 2 ^ 7 by decide, ← Nat.pow_mul]
theorem or_add {acc U d i : Nat} (hU : 128 ^ i = U) (ha : acc < U) : acc ||| (U * d) = acc + U * d := by
  rw [pow128] at hU
  subst hU
  rw [Nat.or_comm, ← Nat.two_pow_add_eq_or_of_lt ha, Nat.add_comm]

set_option maxRecDepth 100000 in
theorem low_fin : ∀ x : Fin 256, bits BinOp.andNot IntKind.u8 (x.val : Int) 128 = ((x.val % 128 : Nat) : Int) := by decide
theorem low_bits {c : Nat} (h : c < 256) : bits BinOp.andNot IntKind.u8 (c : Int) 128 = ((c % 128 : Nat) : Int) := low_fin ⟨c, h⟩
theorem acc_or {acc U d i : Nat} (hU : 128 ^ i = U) (ha : acc < U) (hb : U * d < 18446744073709551616) (h2 : U < 18446744073709551616) {X : Int} (hX : X = ((U * d : Nat) : Int)) :
    bits BinOp.or IntKind.u64 (acc : Int) X = ((acc + U * d : Nat) : Int) := by
  rw [hX, bits_or_u64_nat _ _ (by omega) hb, or_add hU ha]
theorem shl_form {U i d : Nat} (hU : 128 ^ i = U) (hb : U * d < 18446744073709551616) (hd : d < 256) {X : Int} (hX : X = (d : Int)) : IntKind.u64.wrap (IntKind.u64.wrap X * 2 ^ (7 * i)) = ((U * d : Nat) : Int) := by
  subst hX
  have e1 : IntKind.u64.wrap (d : Int) = (d : Int) := by rw [IntKind.wrap_u64]; omega
  have e2 : (2 : Int) ^ (7 * i) = (U : Int) := by rw [← hU, pow128, Int.natCast_pow]; rfl
  rw [e1, e2, IntKind.wrap_u64, ← Int.natCast_mul, Nat.mul_comm]
  omega
theorem mul_lt {U d i : Nat} (hU : 128 ^ i = U) (hi : i ≤ 8) (hd : d < 128) : U * d < 18446744073709551616 ∧ U < 18446744073709551616 := by
  have h := pow8_le hU hi
  have h1 : U * d ≤ U * 127 := Nat.mul_le_mul_left _ (by omega)
  omega
theorem got_mid {acc U c i : Nat} (hU : 128 ^ i = U) (ha : acc < U) (hi : i ≤ 8) (hc : c < 256) :
    bits BinOp.or IntKind.u64 (acc : Int) (IntKind.u64.wrap (IntKind.u64.wrap (bits BinOp.andNot IntKind.u8 (c : Int) 128) * 2 ^ (7 * i))) = ((acc + U * (c % 128) : Nat) : Int) := by
  obtain ⟨h1, h2⟩ := mul_lt (d := c % 128) hU hi (Nat.mod_lt _ (by decide))
  exact acc_or hU ha h1 h2 (shl_form hU h1 (by omega) (low_bits hc))
theorem got_zero {acc U c : Nat} (hU : 128 ^ 0 = U) (ha : acc < U) (hc : c < 256) :
    bits BinOp.or IntKind.u64 (acc : Int) (IntKind.u64.wrap (IntKind.u64.wrap (bits BinOp.andNot IntKind.u8 (c : Int) 128))) = ((acc + U * (c % 128) : Nat) : Int) := by
  obtain ⟨h1, h2⟩ := mul_lt (d := c % 128) hU (by decide) (Nat.mod_lt _ (by decide))
  refine acc_or hU ha h1 h2 ?_
  rw [low_bits hc, IntKind.wrap_u64, IntKind.wrap_u64, ← hU]
  omega
theorem got_last {acc U : Nat} (hU : 128 ^ 9 = U) (ha : acc < U) :
    bits BinOp.or IntKind.u64 (acc : Int) (IntKind.u64.wrap (IntKind.u64.wrap (bits BinOp.andNot IntKind.u8 1 128) * 9223372036854775808)) = ((acc + U * 1 : Nat) : Int) := by
  have e : U = 9223372036854775808 := by rw [← hU]
  refine acc_or hU ha (by rw [e]; decide) (by rw [e]; decide) ?_
  rw [show bits BinOp.andNot IntKind.u8 1 128 = 1 from low_fin ⟨1, by decide⟩, IntKind.wrap_u64, IntKind.wrap_u64, e]
  decide

theorem wrap_i64 (n : Int) : IntKind.i64.wrap n = wrap64 n := by
  unfold wrap64
  simp only [IntKind.wrap, IntKind.bits, IntKind.signed]
  simp
  try omega
theorem xor_i64_zero {x : Nat} (h : x < 9223372036854775808) : bits BinOp.xor IntKind.i64 (x : Int) 0 = (x : Int) := by
  have h1 : (BitVec.ofInt 64 (x : Int)).toNat = x := by rw [BitVec.ofInt_natCast, BitVec.toNat_ofNat]; exact Nat.mod_eq_of_lt (by omega)
  show IntKind.i64.wrap ((BitVec.ofInt 64 (x : Int) ^^^ BitVec.ofInt 64 (0 : Int)).toNat : Int) = _
  rw [BitVec.toNat_xor, h1, show (BitVec.ofInt 64 (0 : Int)).toNat = 0 by decide, Nat.xor_zero, wrap_i64]
  unfold wrap64
  omega
theorem xor_i64_ones {x : Nat} (h : x < 9223372036854775808) : bits BinOp.xor IntKind.i64 (x : Int) (-1) = -(x : Int) - 1 := by
  have h1 : (BitVec.ofInt 64 (x : Int)).toNat = x := by rw [BitVec.ofInt_natCast, BitVec.toNat_ofNat]; exact Nat.mod_eq_of_lt (by omega)
  show IntKind.i64.wrap ((BitVec.ofInt 64 (x : Int) ^^^ BitVec.ofInt 64 (-1 : Int)).toNat : Int) = _
  rw [BitVec.toNat_xor, h1, show (BitVec.ofInt 64 (-1 : Int)).toNat = 18446744073709551615 by decide, xor_ones (by omega), wrap_i64]
  unfold wrap64
  omega
theorem zag_form {z : Nat} (h : z < 18446744073709551616) :
    bits BinOp.xor IntKind.i64 (wrap64 ((z : Int) / 2)) (wrap64 (-wrap64 (bits BinOp.and IntKind.u64 (z : Int) 1))) = zagI z := by
  have e1 : wrap64 ((z : Int) / 2) = ((z / 2 : Nat) : Int) := by unfold wrap64; omega
  have e2 : bits BinOp.and IntKind.u64 (z : Int) 1 = ((z % 2 : Nat) : Int) := by
    have := bits_and_u64_nat z 1 h (by decide)
    rw [Nat.and_one_is_mod] at this
    exact this
  rw [e1, e2]
  unfold zagI
  by_cases h2 : z % 2 = 1
  · rw [if_pos h2, h2, show wrap64 (-wrap64 ((1 : Nat) : Int)) = -1 by unfold wrap64; omega]
    exact xor_i64_ones (by omega)
  · rw [if_neg h2, show z % 2 = 0 by omega, show wrap64 (-wrap64 ((0 : Nat) : Int)) = 0 by unfold wrap64; omega]
    exact xor_i64_zero (by omega)

theorem made_zero (k : IntKind) (n : Nat) : (madeCells (Value.int k 0).cells (n * 1)).toList = (List.replicate n (0 : Int)).map (Value.int k) := by
  refine List.ext_getElem (by simp [madeCells]) fun j h1 h2 => ?_
  simp [madeCells, Value.cells, Nat.mod_one]

/-- make, of n zeros. -/
theorem wpList_make_fresh {W : World} {ops : Array Oper} {rest : List Oper} {o : Oper} {a : Act} {Q : Exit → Act → World → Prop} (hg : o.guard = none) (l c : Operand) (t : TypeId) (hop : o.op = Op.makeSlice t l c)
    (B : Nat) (e : TypeId) (i : TypeInfo) (k : IntKind) (bytes : Nat) (ht : Try.prog.underlying t = some (.slice e)) (hi : Try.prog.info? e = some i) (hz : i.zero = some (.int k 0)) (hsize : i.size = 1) (hby : i.bytes = bytes) (hb8 : bytes ≤ 8)
    (kl kc : IntKind) (L C : Int) (n : Nat) (hl : a.eval l = .int kl L) (hc : a.eval c = .int kc C) (hL : L = (n : Int)) (hC : C = (n : Int)) (hn : n ≤ 1000000000) (hB : B ≤ W.heap.size)
    (hK : ∀ w', Fresh B e k w' (.slice (some ⟨W.heap.size, 0, none⟩) n n) (List.replicate n 0) → Below W.heap.size W w' → w'.heap.size ≥ W.heap.size → wpList Try.prog ops Q rest (a.put o.dst (.slice (some ⟨W.heap.size, 0, none⟩) n n)) w') :
    wpList Try.prog ops Q (o :: rest) a W := by
  have h2 : i.bytes * n ≤ 281474976710656 := by
    rw [hby]
    have : bytes * n ≤ 8 * n := Nat.mul_le_mul_right _ hb8
    omega
  refine wpList_make_full W hg l c t hop B e i (.int k 0) 1 ht hi hz hsize kl kc L C n hl hc hL hC h2 (by unfold maxLen; omega) hB (fun w' h1 h2 => ?_)
  refine hK w' ?_ ((Below.refl _ W).grown h2 (Nat.le_refl _) (fun k h => by cases h)) h2.size
  unfold Fresh
  rw [List.length_replicate, ← made_zero]
  exact h1

theorem set_fill {pre : List Int} {k m : Nat} (hk : pre.length = k) (x : Int) : (pre ++ List.replicate (m + 1) 0).set k x = (pre ++ [x]) ++ List.replicate m 0 := by
  subst hk
  rw [List.set_append_right _ _ (Nat.le_refl _), Nat.sub_self, List.replicate_succ, List.set_cons_zero, List.append_assoc]
  rfl
theorem rUint_zero {s : RS} (h : (rUint s).2.2 ≠ 0) : (rUint s).1 = 0 := by
  unfold rUint at *
  by_cases h0 : s.2 = 0
  · rw [if_pos h0] at *
    cases hr : readVar 0 s.1 with
    | err k => rfl
    | val n r => rw [hr] at h; exact absurd rfl h
  · rw [if_neg h0]

theorem fresh_frozen2 {H : Nat} {e : TypeId} {k : IntKind} {w : World} {g cap n : Nat} {zs : List Int} (h : Fresh H e k w (.slice (some ⟨g, 0, none⟩) n cap) zs) (hn : n = zs.length) (j : Nat) : w.frozen? ⟨g, j, none⟩ = false := by
  subst hn; exact fresh_frozen h j

theorem under_ints : Try.prog.underlying 22 = some (.slice 3) := by kernel_rfl
theorem rMany_succ (n : Nat) (s : RS) : rMany (n + 1) s = ((rInt s).1 :: (rMany n (rInt s).2).1, (rMany n (rInt s).2).2) := rfl

theorem strB_nums {l : List Nat} (h : ∀ c ∈ l, c < 256) : strB (strOfNums (natI l)) = l := by
  unfold strB
  rw [strOfNums_data, List.map_map]
  unfold natI
  rw [List.map_map]
  conv => rhs; rw [← List.map_id l]
  refine List.map_congr_left fun c hc => ?_
  have := h c hc
  simp only [Function.comp, id, Int.toNat_natCast]
  exact UInt8.toNat_ofNat_of_lt' this

/-- Bytes as a string. -/
theorem conv_string {W : World} {v : Value} {xs : List Int} (h : Row .u8 W v xs) : (convert 33 9 v).run Try.prog W = .ok (.string (strOfNums xs)) W := by
  obtain ⟨a, c, rfl, h2, h3, h4, h5⟩ := h
  cases a with
  | none =>
    obtain ⟨rfl, rfl⟩ := h5 rfl
    exact run_convert_bytes_nil (P := Try.prog) W _ _ under_bytes Try.underlying5 _ _ _ under_str
  | some a =>
    by_cases hx : xs = []
    · subst hx
      obtain ⟨b, off, s⟩ := a
      rw [run_convert_bytes_string (P := Try.prog) W _ _ _ _ _ _ under_bytes Try.underlying5 under_str]
      simp [Conv.bytesToString, loadCells, loadCellsFrom]
      rfl
    · obtain ⟨b, off, e, hc⟩ := h4 hx
      injection e with e
      subst e
      refine run_convert_bytes_arg (P := Try.prog) W 33 5 under_bytes Try.underlying5 b off xs.length c xs rfl (fun i hi => ?_) _ under_str
      rw [hc i hi, List.getD_eq_getElem?_getD]

theorem var300 : varN 300 = [172, 2] := by rw [varN_big (by decide), varN_small (by decide)]
theorem zigm1 : varN (zigN (-1)) = [1] := by rw [show zigN (-1) = 1 by decide, varN_small (by decide)]
theorem var2 : varN 2 = [2] := varN_small (by decide)

/-- A step that touches only blocks from B on. -/
theorem below_foot {A : Foot} {B : Nat} {w W W2 : World} (h : Below B w W) (hk : Keeps A W W2) (hB : B ≤ W.heap.size) (hA : ∀ k, A k → B ≤ k) : Below B w W2 := h.trans (hk.below hB hA)

end Go.Proofs.Ytadnbakniibmfaa
