/-
 Plain facts on numbers and lists behind package hash: mixing, the words of a byte slice, the sum of a label and words. No program is named here.
-/
import Derived.Laws.Bits64
import Derived.Laws.Bits64b
import Derived.Below
namespace Go.Proofs.YtepakogbbomaoaaGreatDoor
open Go.RowKit
def T64 : Nat := 18446744073709551616
def K64 : Nat := 11400714819323198485
def mix0 (a b : Nat) : Nat := ((a ^^^ b) * K64 % T64) ^^^ ((a ^^^ b) * K64 % T64 / 4294967296)
theorem mix_is : ∃ f : Nat → Nat → Nat, f = mix0 := ⟨mix0, rfl⟩
noncomputable def mixN : Nat → Nat → Nat := Classical.choose mix_is
theorem mixN_eq (a b : Nat) : mixN a b = ((a ^^^ b) * K64 % T64) ^^^ ((a ^^^ b) * K64 % T64 / 4294967296) := by
 unfold mixN; rw [Classical.choose_spec mix_is]; rfl
theorem xor_lt64 {a b : Nat} (ha : a < T64) (hb : b < T64) : a ^^^ b < T64 := by
 have : T64 = 2 ^ 64 := by decide
 rw [this] at *
 exact Nat.xor_lt_two_pow ha hb
theorem mixN_lt (a b : Nat) : mixN a b < T64 := by
 rw [mixN_eq]
 have h : (a ^^^ b) * K64 % T64 < T64 := Nat.mod_lt _ (by decide)
 exact xor_lt64 h (Nat.lt_of_le_of_lt (Nat.div_le_self _ _) h)
theorem mix_form (a b : Nat) (ha : a < T64) (hb : b < T64) :
  bits .xor .u64 (IntKind.u64.wrap (bits .xor .u64 (a : Int) (b : Int) * 11400714819323198485)) (IntKind.u64.wrap (bits .xor .u64 (a : Int) (b : Int) * 11400714819323198485) / 4294967296) = (mixN a b : Int) := by
 have hm : (a ^^^ b) * K64 % T64 < T64 := Nat.mod_lt _ (by decide)
 rw [bits_xor_u64_nat a b ha hb]
 have e : IntKind.u64.wrap (((a ^^^ b : Nat) : Int) * 11400714819323198485) = (((a ^^^ b) * K64 % T64 : Nat) : Int) := by
  rw [IntKind.wrap_u64]
  generalize (a ^^^ b) = x
  rw [Int.natCast_emod, Int.natCast_mul]; rfl
 rw [e, show ((((a ^^^ b) * K64 % T64 : Nat) : Int) / 4294967296) = (((a ^^^ b) * K64 % T64 / 4294967296 : Nat) : Int) from rfl,
  bits_xor_u64_nat _ _ hm (Nat.lt_of_le_of_lt (Nat.div_le_self _ _) hm), mixN_eq]
/-! ### The words of a list of bytes -/
def leN : List Nat → Nat
 | [] => 0
 | c :: l => c + 256 * leN l
def grp (l : List Nat) (k : Nat) : List Nat := (l.drop (8 * k)).take 8
def wordsN (l : List Nat) : List Nat := (List.range ((l.length + 7) / 8)).map fun k => leN (grp l k)
def ofInt (n : Int) : Nat := (n % 18446744073709551616).toNat
def toInt (n : Nat) : Int := if n < 9223372036854775808 then (n : Int) else (n : Int) - 18446744073709551616
noncomputable def fold (s : Nat) (ws : List Nat) : Nat := ws.foldl mixN s
noncomputable def sumN (label : List Nat) (ws : List Int) : Nat := mixN (fold (mixN (mixN (fold 0 (wordsN label)) label.length) ws.length) (ws.map ofInt)) 0
noncomputable def bytesN (label b : List Nat) : Nat := sumN label ((wordsN b).map toInt ++ [(b.length : Int)])
theorem ofInt_lt (n : Int) : ofInt n < T64 := by unfold ofInt T64; omega
theorem fold_lt {s : Nat} (hs : s < T64) (ws : List Nat) : fold s ws < T64 := by
 induction ws generalizing s with
 | nil => exact hs
 | cons w ws ih => exact ih (mixN_lt _ _)
theorem fold_snoc (s : Nat) (ws : List Nat) (w : Nat) : fold s (ws ++ [w]) = mixN (fold s ws) w := by
 unfold fold; rw [List.foldl_append, List.foldl_cons, List.foldl_nil]
theorem leN_lt (l : List Nat) (h : ∀ c ∈ l, c < 256) : leN l < 256 ^ l.length := by
 induction l with
 | nil => simp [leN]
 | cons c l ih =>
  have h1 := h c (by simp)
  have h2 := ih (fun d hd => h d (by simp [hd]))
  simp only [leN, List.length_cons, Nat.pow_succ]
  omega
theorem leN_append (a b : List Nat) : leN (a ++ b) = leN a + 256 ^ a.length * leN b := by
 induction a with
 | nil => simp [leN]
 | cons c l ih =>
  simp only [List.cons_append, leN, ih, List.length_cons, Nat.pow_succ, Nat.mul_add]
  rw [Nat.mul_comm (256 ^ l.length) 256, Nat.mul_assoc]
  omega
theorem grp_len_le (l : List Nat) (k : Nat) : (grp l k).length ≤ 8 := by simp [grp]; omega
theorem grp_mem {l : List Nat} {k c : Nat} (h : c ∈ grp l k) : c ∈ l := List.mem_of_mem_drop (List.mem_of_mem_take h)
theorem grp_lt {l : List Nat} (h : ∀ c ∈ l, c < 256) (k : Nat) : leN (grp l k) < T64 := by
 have h1 := leN_lt (grp l k) (fun c hc => h c (grp_mem hc))
 have h2 := grp_len_le l k
 have h3 : 256 ^ (grp l k).length ≤ 256 ^ 8 := Nat.pow_le_pow_right (by decide) h2
 have h4 : (256 : Nat) ^ 8 = T64 := by decide
 omega
theorem words_lt {l : List Nat} (h : ∀ c ∈ l, c < 256) : ∀ w ∈ wordsN l, w < T64 := by
 intro w hw
 obtain ⟨k, _, rfl⟩ := List.mem_map.1 hw
 exact grp_lt h k
theorem words_length (l : List Nat) : (wordsN l).length = (l.length + 7) / 8 := by simp [wordsN]
theorem leN_take_succ (l : List Nat) {k : Nat} (hk : k < l.length) : leN (l.take (k + 1)) = leN (l.take k) + 256 ^ k * l[k] := by
 rw [List.take_succ_eq_append_getElem hk, leN_append]
 simp [leN, Nat.min_eq_left (Nat.le_of_lt hk)]
theorem le_step (l : List Nat) (h8 : l.length ≤ 8) (hl : ∀ c ∈ l, c < 256) {k : Nat} (hk : k < l.length) :
  bits .or .u64 ((leN (l.take k) : Nat) : Int) (IntKind.u64.wrap (IntKind.u64.wrap ((l[k] : Nat) : Int) * 2 ^ (8 * k))) = ((leN (l.take (k + 1)) : Nat) : Int) := by
 have hc : l[k] < 256 := hl _ (List.getElem_mem hk)
 have h1 : leN (l.take k) < 256 ^ k := by
  have := leN_lt (l.take k) (fun c h => hl c (List.mem_of_mem_take h))
  rwa [List.length_take, Nat.min_eq_left (Nat.le_of_lt hk)] at this
 have h2 : leN (l.take (k + 1)) < T64 := by
  have := leN_lt (l.take (k + 1)) (fun c h => hl c (List.mem_of_mem_take h))
  have h3 : 256 ^ (l.take (k + 1)).length ≤ 256 ^ 8 := Nat.pow_le_pow_right (by decide) (by simp; omega)
  have h4 : (256 : Nat) ^ 8 = T64 := by decide
  omega
 have e := leN_take_succ l hk
 rw [e] at h2 ⊢
 generalize leN (l.take k) = s at *
 generalize l[k] = c at *
 have hp : (256 : Nat) ^ k = 2 ^ (8 * k) := by rw [show (256 : Nat) = 2 ^ 8 by decide, ← Nat.pow_mul]
 rw [hp] at h1 h2 ⊢
 have hcw : IntKind.u64.wrap ((c : Nat) : Int) = (c : Int) := by rw [IntKind.wrap_u64]; omega
 have hm : 2 ^ (8 * k) * c < T64 := by omega
 have hw : IntKind.u64.wrap ((c : Int) * 2 ^ (8 * k)) = ((2 ^ (8 * k) * c : Nat) : Int) := by
  rw [IntKind.wrap_u64, Nat.mul_comm (2 ^ (8 * k)) c, Int.natCast_mul, Int.natCast_pow]
  refine Int.emod_eq_of_lt (Int.mul_nonneg (Int.natCast_nonneg c) (Int.pow_nonneg (by decide : (0 : Int) ≤ 2))) ?_
  have : ((c * 2 ^ (8 * k) : Nat) : Int) < ((T64 : Nat) : Int) := by rw [Nat.mul_comm c]; exact Int.ofNat_lt.2 hm
  rw [Int.natCast_mul, Int.natCast_pow] at this
  exact this
 rw [hcw, hw, bits_or_u64_nat s _ (show s < T64 by omega) hm]
 have := Nat.shiftLeft_add_eq_or_of_lt h1 c
 rw [Nat.shiftLeft_eq, Nat.mul_comm c] at this
 rw [Nat.or_comm, ← this, Nat.add_comm]
end Go.Proofs.YtepakogbbomaoaaGreatDoor
