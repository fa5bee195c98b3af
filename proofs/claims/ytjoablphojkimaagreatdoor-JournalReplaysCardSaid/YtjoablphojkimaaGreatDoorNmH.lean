/-
  The reference of package wide: Sub.
  The reference of package wide: Mul.
  The reference of package wide: Mul, the walk.
  The reference of package wide: small, digits.
  The reference of package wide: the bounds of a quotient's digit.
  The reference of package wide: digit.
  The reference of package wide: dividing digits, the numbers.
  The reference of package wide: dividing digits, the walk.
  The reference's Pick: an element of a list, reduced; 0 where there is none.
-/
import Derived.Test.YtjoablphojkimaaGreatDoorNumG
namespace Go.Proofs.YtjoablphojkimaaGreatDoor
open Go.RowKit Go.Shelf
set_option linter.unusedVariables false
set_option maxRecDepth 100000

theorem natI_setW (d : List Nat) (j z : Nat) : natI (d.set j z) = (natI d).set j (z : Int) := by simp [natI, List.map_set]
theorem valD_set {d : List Nat} {j : Nat} (h : j < d.length) (z : Nat) : valD (d.set j z) + 10000 ^ j * atD d j = valD d + 10000 ^ j * z := by
  induction d generalizing j with
  | nil => simp at h
  | cons c d ih =>
    cases j with
    | zero => simp [valD, atD]; omega
    | succ j =>
      have := ih (j := j) (by simpa using h)
      have e : atD (c :: d) (j + 1) = atD d j := by simp [atD]
      rw [e, List.set_cons_succ, Nat.pow_succ]
      simp only [valD]
      generalize hp : 10000 ^ j * atD d j = p at *
      generalize hq : 10000 ^ j * z = q at *
      have e1 : 10000 ^ j * 10000 * atD d j = 10000 * p := by rw [← hp, Nat.mul_comm (10000 ^ j) 10000, Nat.mul_assoc]
      have e2 : 10000 ^ j * 10000 * z = 10000 * q := by rw [← hq, Nat.mul_comm (10000 ^ j) 10000, Nat.mul_assoc]
      rw [e1, e2]; omega
theorem mul_step {out b : List Nat} {i k c T ai v : Nat} (hj : i + k < out.length) (h : valD out + 10000 ^ (i + k) * c = T + 10000 ^ i * (ai * valD (b.take k))) (hv : v = atD out (i + k) + ai * atD b k + c) :
    valD (out.set (i + k) (v % 10000)) + 10000 ^ (i + (k + 1)) * (v / 10000) = T + 10000 ^ i * (ai * valD (b.take (k + 1))) := by
  have h1 := valD_set hj (v % 10000)
  rw [valD_take_at, Nat.mul_add ai, Nat.mul_add (10000 ^ i)]
  have e1 : 10000 ^ (i + (k + 1)) * (v / 10000) = 10000 ^ (i + k) * (10000 * (v / 10000)) := by rw [← Nat.add_assoc, Nat.pow_succ, Nat.mul_assoc]
  have e2 : 10000 ^ i * (ai * (10000 ^ k * atD b k)) = 10000 ^ (i + k) * (ai * atD b k) := by
    rw [Nat.pow_add, Nat.mul_left_comm ai, Nat.mul_assoc]
  have e3 : 10000 ^ (i + k) * (v % 10000) + 10000 ^ (i + k) * (10000 * (v / 10000)) = 10000 ^ (i + k) * v := by rw [← Nat.mul_add, Nat.mod_add_div]
  have e4 : 10000 ^ (i + k) * v = 10000 ^ (i + k) * atD out (i + k) + 10000 ^ (i + k) * (ai * atD b k) + 10000 ^ (i + k) * c := by rw [hv, Nat.mul_add, Nat.mul_add]
  rw [e1, e2]
  generalize 10000 ^ (i + k) * (v % 10000) = p1 at *
  generalize 10000 ^ (i + k) * (10000 * (v / 10000)) = p2 at *
  generalize 10000 ^ (i + k) * v = p3 at *
  generalize 10000 ^ (i + k) * atD out (i + k) = p4 at *
  generalize 10000 ^ (i + k) * (ai * atD b k) = p5 at *
  generalize 10000 ^ (i + k) * c = p6 at *
  generalize 10000 ^ i * (ai * valD (b.take k)) = p7 at *
  omega
theorem mul_close {out a b : List Nat} {i c : Nat} (hj : i + b.length < out.length) (hz : atD out (i + b.length) = 0) (h : valD out + 10000 ^ (i + b.length) * c = valD (a.take i) * valD b + 10000 ^ i * (atD a i * valD b)) :
    valD (out.set (i + b.length) c) = valD (a.take (i + 1)) * valD b := by
  have h1 := valD_set hj c
  rw [hz, Nat.mul_zero, Nat.add_zero] at h1
  rw [h1, h, valD_take_at, Nat.add_mul, Nat.mul_assoc]
theorem atD_set_ne {d : List Nat} {j k z : Nat} (h : j ≠ k) : atD (d.set j z) k = atD d k := by unfold atD; rw [List.getElem?_set_ne h]
theorem atD_zeros (n j : Nat) : atD (List.replicate n 0) j = 0 := by
  unfold atD
  rcases Nat.lt_or_ge j n with h | h
  · rw [List.getElem?_eq_getElem (by simpa using h)]; simp
  · rw [List.getElem?_eq_none (by simpa using h)]; rfl
theorem set_lt {d : List Nat} (h : ∀ c ∈ d, c < 10000) {z : Nat} (hz : z < 10000) (j : Nat) : ∀ c ∈ d.set j z, c < 10000 := by
  intro c hc
  rcases List.mem_or_eq_of_mem_set hc with h1 | h1
  · exact h c h1
  · rw [h1]; exact hz
theorem mul_sgn (na nb : Bool) (a b : Int) (ha : decide (a < 0) = na) (hb : decide (b < 0) = nb) : sgn (na != nb) (a.natAbs * b.natAbs) = a * b := by
  have e : ((a.natAbs * b.natAbs : Nat) : Int) = ((a * b).natAbs : Int) := by rw [Int.natAbs_mul]
  subst ha; subst hb
  unfold sgn
  rw [e]
  rcases Classical.em (a < 0) with h1 | h1 <;> rcases Classical.em (b < 0) with h2 | h2
  · have := Int.mul_pos_of_neg_of_neg h1 h2; simp [h1, h2]; omega
  · have := Int.mul_nonpos_of_nonpos_of_nonneg (Int.le_of_lt h1) (by omega : 0 ≤ b); simp [h1, h2]; omega
  · have := Int.mul_nonpos_of_nonneg_of_nonpos (by omega : 0 ≤ a) (Int.le_of_lt h2); simp [h1, h2]; omega
  · have := Int.mul_nonneg (by omega : 0 ≤ a) (by omega : 0 ≤ b); simp [h1, h2]; omega

theorem row_elem {W : World} {a : Option Addr} {c : Nat} {d : List Nat} (h : Row .i64 W (.slice a d.length c) (natI d)) {i : Nat} (hi : i < d.length) : ∃ b off, a = some ⟨b, off, none⟩ ∧ W.cell? ⟨b, off + i, none⟩ = some (.int .i64 (atD d i : Int)) := by
  obtain ⟨p, cap, e, _, _, h4, _⟩ := h
  injection e with e1 _ _
  subst e1
  obtain ⟨b, off, rfl, hc⟩ := h4 (fun h2 => by have := congrArg List.length h2; rw [natI_length, List.length_nil] at this; omega)
  refine ⟨b, off, rfl, ?_⟩
  have := hc i (by rw [natI_length]; exact hi)
  rwa [natI_getD] at this

/-- what 'digits' answers: the digit, or 0 where there is none -/
def digI (d : List Nat) (i : Int) : Nat := if 0 ≤ i then atD d i.toNat else 0

/-- the call returns the row of the digits of n -/
def REnd (n : Nat) (w : World) (e : Ending) (w' : World) : Prop := ∃ v, e = .returned v ∧ Row .i64 w' v (natI (digs n)) ∧ Below w.heap.size w w'

theorem atD_drop (d : List Nat) (n j : Nat) : atD (d.drop n) j = atD d (n + j) := by unfold atD; rw [List.getElem?_drop]
theorem val3 {l : List Nat} (h : l.length ≤ 3) : valD l = atD l 0 + 10000 * atD l 1 + 100000000 * atD l 2 := by
  match l, h with
  | [], _ => rfl
  | [a], _ => simp [valD, atD]
  | [a, b], _ => simp [valD, atD]
  | [a, b, c], _ => simp [valD, atD]; omega
  | a :: b :: c :: d :: l, h => simp at h
theorem digI_cons (d : List Nat) (j : Nat) : digI d ((j : Int) - 1) = atD (0 :: d) j := by
  unfold digI
  cases j with
  | zero => rw [if_neg (by omega)]; rfl
  | succ j => rw [if_pos (by omega), show ((j + 1 : Nat) : Int) - 1 = (j : Int) by omega]; simp [atD]
theorem digI_lt {d : List Nat} (h : ∀ c ∈ d, c < 10000) (i : Int) : digI d i < 10000 := by
  unfold digI; split
  · exact atD_lt h _
  · decide
theorem cut_top {d : List Nat} (hd : ∀ c ∈ d, c < 10000) {k : Nat} (hk : 0 < k) (h1 : k ≤ d.length) (h2 : d.length ≤ k + 1) :
    ∃ rl, 10000 * valD d = rl + 10000 ^ (k - 1) * (10000 * (10000 * digI d (k : Int) + digI d ((k : Int) - 1)) + digI d ((k : Int) - 2)) ∧ rl < 10000 ^ (k - 1) := by
  have e := valD_split (0 :: d) (k - 1)
  have hl : ((0 :: d).take (k - 1)).length = k - 1 := by rw [List.length_take, List.length_cons]; omega
  rw [hl] at e
  refine ⟨valD ((0 :: d).take (k - 1)), ?_, ?_⟩
  · have h3 : ((0 :: d).drop (k - 1)).length ≤ 3 := by rw [List.length_drop, List.length_cons]; omega
    have e0 : valD (0 :: d) = 10000 * valD d := by simp [valD]
    rw [e0, val3 h3, atD_drop, atD_drop, atD_drop] at e
    have e1 : digI d (k : Int) = atD (0 :: d) (k - 1 + 2) := by rw [← digI_cons]; congr 1; omega
    have e2 : digI d ((k : Int) - 1) = atD (0 :: d) (k - 1 + 1) := by rw [← digI_cons]; congr 1; omega
    have e3 : digI d ((k : Int) - 2) = atD (0 :: d) (k - 1 + 0) := by rw [← digI_cons]; congr 1; omega
    rw [e, e1, e2, e3]
    congr 2
    omega
  · have := valD_lt (d := (0 :: d).take (k - 1)) (fun c hc => by
      have := List.mem_of_mem_take hc
      rcases List.mem_cons.1 this with h | h
      · omega
      · exact hd c h)
    rwa [hl] at this
theorem atD_of_len {d : List Nat} {k : Nat} (h : d.length ≤ k) : atD d k = 0 := by unfold atD; rw [List.getElem?_eq_none h]; rfl
theorem digit_bounds {r b k : Nat} (hk : (digs b).length = k) (hk0 : 0 < k) (hr : r < 10000 * b) (hl : k ≤ (digs r).length) {U L : Nat}
    (hU : U = 10000 * (10000 * digI (digs r) (k : Int) + digI (digs r) ((k : Int) - 1)) + digI (digs r) ((k : Int) - 2))
    (hL : L = 10000 * digI (digs b) ((k : Int) - 1) + digI (digs b) ((k : Int) - 2)) : 0 < L ∧ U / (L + 1) ≤ r / b ∧ r / b ≤ U / L := by
  have hb0 : b ≠ 0 := fun e => by subst e; rw [digs_zero] at hk; simp at hk; omega
  have h1 : (digs r).length ≤ k + 1 := digs_len_le (by
    have := digs_len_lt b
    rw [hk] at this
    rw [Nat.pow_succ]; omega)
  obtain ⟨rl, er, hrl⟩ := cut_top (digs_lt r) hk0 hl h1
  obtain ⟨bl, eb, hbl⟩ := cut_top (digs_lt b) hk0 (by omega) (by omega)
  have ez : digI (digs b) (k : Int) = 0 := by
    unfold digI; rw [if_pos (by omega)]; exact atD_of_len (by rw [hk]; simp)
  rw [ez, Nat.mul_zero, Nat.zero_add, ← hL, valD_digs] at eb
  rw [← hU, valD_digs] at er
  have hP : 0 < 10000 ^ (k - 1) := pow_pos4 _
  have hL0 : 0 < L := by
    have hne : digs b ≠ [] := fun e => by rw [e] at hk; simp at hk; omega
    have h2 := digs_last hne
    have h3 : digI (digs b) ((k : Int) - 1) ≠ 0 := by
      unfold digI
      rw [if_pos (by omega), show ((k : Int) - 1).toNat = k - 1 by omega]
      unfold atD
      rw [List.getElem?_eq_getElem (by omega), Option.getD_some]
      rw [List.getLast_eq_getElem] at h2
      simp only [hk] at h2
      exact h2
    omega
  generalize 10000 ^ (k - 1) = P at *
  clear hU hL ez h1 hl hk
  refine ⟨hL0, ?_, ?_⟩
  · rw [Nat.le_div_iff_mul_le (by omega)]
    have h4 : U / (L + 1) * (L + 1) ≤ U := Nat.div_mul_le_self _ _
    generalize U / (L + 1) = q at *
    have h5 : q * (10000 * b) ≤ q * (P * (L + 1)) := Nat.mul_le_mul_left _ (by rw [eb, Nat.mul_add]; omega)
    have h6 : P * (q * (L + 1)) ≤ P * U := Nat.mul_le_mul_left _ h4
    have e7 : q * (P * (L + 1)) = P * (q * (L + 1)) := Nat.mul_left_comm _ _ _
    have e8 : q * (10000 * b) = 10000 * (q * b) := Nat.mul_left_comm _ _ _
    omega
  · rw [Nat.le_div_iff_mul_le hL0]
    have h4 : r / b * b ≤ r := Nat.div_mul_le_self _ _
    generalize r / b = q at *
    have h5 : q * (P * L) ≤ q * (10000 * b) := Nat.mul_le_mul_left _ (by omega)
    have e7 : q * (P * L) = P * (q * L) := Nat.mul_left_comm _ _ _
    have e8 : q * (10000 * b) = 10000 * (q * b) := Nat.mul_left_comm _ _ _
    have h6 : P * (q * L) < P * (U + 1) := by rw [Nat.mul_add]; omega
    have := Nat.lt_of_mul_lt_mul_left h6
    omega

def DigEnd (q : Nat) (w : World) (e : Ending) (w' : World) : Prop := ∃ lo hi : Nat, e = .returned (.tuple #[.int .i64 (lo : Int), .int .i64 (hi : Int)]) ∧ lo ≤ q ∧ q ≤ hi ∧ hi ≤ 9999 ∧ Below w.heap.size w w'

theorem row_len {W : World} {v : Value} {d : List Nat} (h : Row .i64 W v (natI d)) : ∃ p c, v = .slice p d.length c := by
  obtain ⟨p, c, rfl, _⟩ := h
  exact ⟨p, c, by rw [natI_length]⟩

theorem valD_drop_at {d : List Nat} {i : Nat} (h : i < d.length) : valD (d.drop i) = atD d i + 10000 * valD (d.drop (i + 1)) := by
  rw [List.drop_eq_getElem_cons h]
  unfold atD
  rw [List.getElem?_eq_getElem h]
  rfl
theorem div_first {m n : Nat} (hn : n ≠ 0) : valD ((digs m).drop ((digs m).length + 1 - (digs n).length)) < n := by
  have h1 := valD_lt (d := (digs m).drop ((digs m).length + 1 - (digs n).length)) (fun c hc => digs_lt m c (List.mem_of_mem_drop hc))
  have h2 := digs_len_ge hn
  have h3 := digs_len_pos hn
  have h4 : ((digs m).drop ((digs m).length + 1 - (digs n).length)).length ≤ (digs n).length - 1 := by rw [List.length_drop]; omega
  exact Nat.lt_of_lt_of_le h1 (Nat.le_trans (Nat.pow_le_pow_right (by decide) h4) h2)
theorem div_step {a out : List Nat} {n r i : Nat} (hi : i < a.length) (ho : out.length = a.length) (h : valD (a.drop (i + 1)) = valD (out.drop (i + 1)) * n + r) :
    valD (a.drop i) = valD ((out.set i ((atD a i + 10000 * r) / n)).drop i) * n + (atD a i + 10000 * r) % n := by
  generalize hq : (atD a i + 10000 * r) / n = q
  have e1 : valD ((out.set i q).drop i) = q + 10000 * valD (out.drop (i + 1)) := by
    rw [valD_drop_at (by rw [List.length_set]; omega), List.drop_set_of_lt (by omega)]
    congr 1
    unfold atD
    rw [List.getElem?_set_self (by omega)]
    rfl
  have e2 : n * q + (atD a i + 10000 * r) % n = atD a i + 10000 * r := by rw [← hq]; exact Nat.div_add_mod _ _
  rw [valD_drop_at hi, h, e1, Nat.add_mul, Nat.mul_add, Nat.mul_assoc]
  rw [Nat.mul_comm n q] at e2
  omega
theorem div_next {r n c : Nat} (hr : r < n) (hc : c < 10000) : c + 10000 * r < 10000 * n := by omega
theorem valD_cons_digs (c r : Nat) : valD (c :: digs r) = c + 10000 * r := by show c + 10000 * valD (digs r) = _; rw [valD_digs]
theorem div_end {a out : List Nat} {n r : Nat} (hr : r < n) (h : valD (a.drop 0) = valD (out.drop 0) * n + r) : valD out = valD a / n ∧ r = valD a % n := by
  rw [List.drop_zero, List.drop_zero] at h
  rw [h]
  refine ⟨?_, ?_⟩
  · rw [Nat.add_comm, Nat.add_mul_div_right _ _ (by omega), Nat.div_eq_of_lt hr, Nat.zero_add]
  · rw [Nat.add_comm, Nat.add_mul_mod_self_right, Nat.mod_eq_of_lt hr]
theorem bisect_le {n r k : Nat} (hn : n ≠ 0) : cmpN (n * k) r ≤ 0 ↔ k ≤ r / n := by
  rw [Nat.le_div_iff_mul_le (Nat.pos_of_ne_zero hn), Nat.mul_comm k n]
  unfold cmpN; split <;> (try split) <;> omega
theorem cons_lt {c r : Nat} (h : c < 10000) : ∀ x ∈ c :: digs r, x < 10000 := by
  intro x hx
  rcases List.mem_cons.1 hx with h1 | h1
  · omega
  · exact digs_lt r x h1

theorem row_dropW {k : IntKind} {W : World} {b off cap m : Nat} {l : List Int} (h : Row k W (.slice (some ⟨b, off, none⟩) l.length cap) l) (hm : m ≤ l.length) : Row k W (.slice (some ⟨b, off + m, none⟩) (l.length - m) (cap - m)) (l.drop m) := by
  obtain ⟨a, cap', e1, h2, h3, h4, h5⟩ := h
  injection e1 with e1 _ e3
  subst e1 e3
  have e : (l.drop m).length = l.length - m := List.length_drop
  refine ⟨_, _, by rw [e], by rw [e]; omega, by omega, fun hne => ⟨b, off + m, rfl, fun j hj => ?_⟩, fun h => by cases h⟩
  obtain ⟨b', off', e4, hc⟩ := h4 (fun h => hne (by rw [h]; simp))
  injection e4 with e4
  injection e4 with e5 e6 _
  subst e5 e6
  rw [e] at hj
  rw [Nat.add_assoc, hc (m + j) (by omega), List.getElem?_drop]

def DivEnd (m n : Nat) (w : World) (e : Ending) (w' : World) : Prop := ∃ qv rv Q, e = .returned (.tuple #[qv, rv]) ∧ Row .i64 w' qv (natI Q) ∧ valD Q = m / n ∧ Q.length ≤ (digs m).length ∧ (∀ c ∈ Q, c < 10000) ∧ Row .i64 w' rv (natI (digs (m % n))) ∧ Below w.heap.size w w'

theorem add_plain (b off n : Nat) : (⟨b, off, none⟩ : Addr).add n = ⟨b, off + n, none⟩ := by
  unfold Addr.add
  split
  · rename_i h; rw [h]; rfl
  · rfl
theorem nat_row2 {W : World} {b : Bool} {v : Value} {n : Int} (h : NAt W (.agg #[.bool b, v]) n) : Row .i64 W v (natI (digs n.natAbs)) := by
  obtain ⟨u, e, h⟩ := h
  injection e with e
  have e2 := congrArg (fun t => t[1]!) e
  simp at e2
  rw [e2]; exact h
theorem row_store {W : World} {v : Value} {zs : List Int} {r t : Nat} {u : Value} (h : Row .i64 W v zs) (hn : ∀ j, blockOf v j → j = r → zs = []) : Row .i64 (W.setCell ⟨r, t, none⟩ u) v zs := by
  rcases Classical.em (zs = []) with hz | hz
  · subst hz
    obtain ⟨p, cap, rfl, h2, h3, h4, h5⟩ := h
    exact ⟨p, cap, rfl, h2, h3, fun h => (h rfl).elim, h5⟩
  · exact row_foot h (keeps_set W r t u) (fun j hj e => hz (hn j hj e))

/-- the row a[first:], as the walk shows it, in its two ways: the slice's capacity is used up, or not -/
theorem top_row {w w3 : World} {pa : Option Addr} {ca first : Nat} {da : List Nat} (hU : Row .i64 w (.slice pa da.length ca) (natI da)) (hfl : first ≤ da.length) (hf0 : da = [] → first = 0) (hb : Below w.heap.size w w3) :
    (¬ ca = first → Row .i64 w3 (.slice (Option.map (fun x => x.add first) pa) (da.length - first) (ca - first)) (natI (da.drop first))) ∧ (ca = first → Row .i64 w3 (.slice pa (da.length - first) 0) (natI (da.drop first))) := by
  have hr := row_keeps hU hb
  have hr2 := hr
  obtain ⟨p', c', e, h2, h3, h4, h5⟩ := hr2
  injection e with e1 _ e3
  subst e1 e3
  rw [natI_length] at h2
  rcases Classical.em (da = []) with hd | hd
  · have hf := hf0 hd
    subst hd
    subst hf
    refine ⟨fun hne => row_nil_of _ _ (fun e => ?_) (by omega), fun he => row_nil_of _ _ (fun _ => rfl) (by omega)⟩
    have : pa = none := by cases pa with | none => rfl | some a => cases e
    exact absurd (h5 this).2 hne
  · obtain ⟨b, off, rfl, _⟩ := h4 (fun h => hd (by unfold natI at h; exact List.map_eq_nil_iff.1 h))
    have hl : da.length = (natI da).length := by rw [natI_length]
    have hdr : natI (da.drop first) = (natI da).drop first := by simp [natI, List.map_drop]
    refine ⟨fun hne => ?_, fun he => ?_⟩
    · rw [hdr]
      have := row_dropW (m := first) (by rw [← hl]; exact hr) (by rw [← hl]; exact hfl)
      rw [← hl] at this
      rw [Option.map_some, add_plain]
      exact this
    · have hz : da.length = first := by omega
      rw [hz, Nat.sub_self, List.drop_of_length_le (by omega)]
      exact row_nil_of _ _ (fun e => by cases e) (by omega)

/-- a[first:] lies in no block of the call's own -/
theorem top_loc {w : World} {pa : Option Addr} {ca first : Nat} {da : List Nat} (hU : Row .i64 w (.slice pa da.length ca) (natI da)) (p2 : Option Addr) (hp : p2 = Option.map (fun x => x.add first) pa ∨ p2 = pa) (mm kk j : Nat) (hj : blockOf (.slice p2 mm kk) j) (hj2 : w.heap.size ≤ j) : da = [] := by
  rcases Classical.em (da = []) with hd | hd
  · exact hd
  · exfalso
    obtain ⟨b, off, rfl, hc⟩ := row_elem hU (List.length_pos_iff.2 hd)
    have hlt := World.block_lt_of_cell? _ _ hc
    have hjb : j = b := by
      rcases hp with rfl | rfl
      · rw [Option.map_some, add_plain] at hj; exact hj
      · exact hj
    have : b < w.heap.size := hlt
    omega

def pickI (l : List Int) (i : Int) (m : Nat) : Int := if i < 0 ∨ (l.length : Int) ≤ i then 0 else aroundI (l[i.toNat]?.getD 0) m
theorem pickI_range (l : List Int) (i : Int) {m : Nat} (hm : 1 ≤ m) : 0 ≤ pickI l i m ∧ pickI l i m < m := by
  unfold pickI
  split
  · omega
  · unfold aroundI
    exact ⟨Int.emod_nonneg _ (by omega), Int.emod_lt_of_pos _ (by omega)⟩

end Go.Proofs.YtjoablphojkimaaGreatDoor
