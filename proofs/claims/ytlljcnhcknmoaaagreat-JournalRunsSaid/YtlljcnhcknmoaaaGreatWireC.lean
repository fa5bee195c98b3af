/-
  The reference's reader.
-/
import Derived.Test.YtlljcnhcknmoaaaGreatLaid
namespace Go.Proofs.YtlljcnhcknmoaaaGreat
open Go.RowKit Go.Shelf
set_option linter.unusedVariables false

/-- A reader's state: the bytes that are left, and the recorded error. -/
abbrev RS := List Nat × Nat

def gotUint (s : RS) : Got Nat → Nat × RS
  | .err k => (0, (s.1, k))
  | .val n r => (n, (r, 0))
/-- Reading an unsigned number. -/
def rUint (s : RS) : Nat × RS := if s.2 = 0 then gotUint s (readVar 0 s.1) else (0, s)

/-- A slice value whose address is a plain one. -/
def PlainS (v : Value) : Prop := v = .slice none 0 0 ∨ ∃ b off len cap, v = .slice (some ⟨b, off, none⟩) len cap

/-- The reference's reader lies in block r, its bytes in block b; it is in the state s. -/
def Rd (W : World) (r b : Nat) (s : RS) : Prop :=
  ∃ v, Laid W r 102 [v, .int .i64 (s.2 : Int)] ∧ Row .u8 W v (natI s.1) ∧ (b ≠ r ∧ ∀ j, blockOf v j → j = b) ∧ (∀ c ∈ s.1, c < 256) ∧ s.1.length ≤ 1000000 ∧ PlainS v

theorem rd_err {W : World} {r b : Nat} {s : RS} (h : Rd W r b s) (k : Nat) : Rd (W.setCell ⟨r, 1, none⟩ (.int .i64 (k : Int))) r b (s.1, k) := by
  obtain ⟨v, h1, h2, h3, h4, h5⟩ := h
  exact ⟨v, h1.set 1 _, row_foot h2 (keeps_set W r 1 _) (fun j hj e => h3.1 ((h3.2 j hj).symm.trans e)), h3, h4, h5⟩

theorem natI_getD (l : List Nat) (j : Nat) : (natI l)[j]?.getD 0 = ((l[j]?.getD 0 : Nat) : Int) := by
  unfold natI
  rw [List.getElem?_map]
  cases l[j]? <;> rfl

/-- The bytes behind the first m. -/
theorem rd_rest {W : World} {r b off cap m : Nat} {l : List Nat} {e : Nat} (hl : Laid W r 102 [.slice (some ⟨b, off, none⟩) l.length cap, .int .i64 (e : Int)])
    (hr : Row .u8 W (.slice (some ⟨b, off, none⟩) l.length cap) (natI l)) (hbr : b ≠ r) (h8 : ∀ c ∈ l, c < 256) (hlen : l.length ≤ 1000000) (hm : m ≤ l.length) {n2 c2 : Nat} (hn2 : n2 = l.length - m) (hc2 : c2 = cap - m) :
    Rd (W.setCell ⟨r, 0, none⟩ (.slice (some ⟨b, off + m, none⟩) n2 c2)) r b (l.drop m, e) := by
  subst hn2 hc2
  refine ⟨_, hl.set 0 _, row_foot (A := fun k => k = r) ?_ (keeps_set W r 0 _) (fun j hj e => hbr (by have : j = b := hj; omega)), ⟨hbr, fun j hj => hj⟩, fun c hc => h8 c (List.mem_of_mem_drop hc), by simp; omega, .inr ⟨_, _, _, _, rfl⟩⟩
  obtain ⟨a, cap', e1, h2, h3, h4, h5⟩ := hr
  rw [natI_length] at e1 h2
  injection e1 with e1 e2 e3
  subst e3
  have hdl : (natI (l.drop m)).length = l.length - m := by rw [natI_length, List.length_drop]
  refine ⟨_, cap - m, by rw [hdl], by rw [hdl]; omega, by omega, fun hne => ⟨b, off + m, rfl, fun j hj => ?_⟩, fun h => by cases h⟩
  rw [hdl] at hj
  obtain ⟨b', off', e4, hc⟩ := h4 (fun h => by have := congrArg List.length h; rw [natI_length, List.length_nil] at this; omega)
  rw [← e1] at e4
  cases e4
  have := hc (m + j) (by rw [natI_length]; omega)
  show W.cell? ⟨b, off + m + j, none⟩ = some (.int .u8 ((natI (l.drop m))[j]?.getD 0))
  rw [natI_getD] at this ⊢
  rw [List.getElem?_drop, Nat.add_assoc]
  exact this

def UintEnd (r b : Nat) (s : RS) (w : World) (e : Ending) (w' : World) : Prop := e = .returned (.int .u64 ((rUint s).1 : Nat)) ∧ Rd w' r b (rUint s).2 ∧ Keeps (fun k => k = r) w w'

theorem uint_end_err {r b : Nat} {s : RS} {w : World} (h : Rd w r b s) (h0 : s.2 = 0) {k : Nat} (hk : readVar 0 s.1 = .err k) :
    UintEnd r b s w (.returned (.int .u64 0)) (w.setCell ⟨r, 1, none⟩ (.int .i64 (k : Int))) := by
  have e : rUint s = (0, (s.1, k)) := by unfold rUint; rw [if_pos h0, hk]; rfl
  refine ⟨by rw [e]; rfl, by rw [e]; exact rd_err h k, keeps_set w r 1 _⟩

theorem uint_end_val {r : Nat} {s : RS} {w : World} {n m b off cap n2 c2 : Nat} (hl : Laid w r 102 [.slice (some ⟨b, off, none⟩) s.1.length cap, .int .i64 (s.2 : Int)])
    (hr : Row .u8 w (.slice (some ⟨b, off, none⟩) s.1.length cap) (natI s.1)) (hbr : b ≠ r) (h8 : ∀ c ∈ s.1, c < 256) (hlen : s.1.length ≤ 1000000) (h0 : s.2 = 0) (hm : m ≤ s.1.length)
    (hk : readVar 0 s.1 = .val n (s.1.drop m)) (hn2 : n2 = s.1.length - m) (hc2 : c2 = cap - m) :
    UintEnd r b s w (.returned (.int .u64 (n : Int))) (w.setCell ⟨r, 0, none⟩ (.slice (some ⟨b, off + m, none⟩) n2 c2)) := by
  have e : rUint s = (n, (s.1.drop m, 0)) := by unfold rUint; rw [if_pos h0, hk]; rfl
  refine ⟨by rw [e], ?_, keeps_set w r 0 _⟩
  rw [e]
  have := rd_rest hl hr hbr h8 hlen hm hn2 hc2
  rw [h0] at this
  exact this

theorem pow8_le {i U : Nat} (hU : 128 ^ i = U) (hi : i ≤ 8) : U ≤ 72057594037927936 := by
  rw [← hU]; exact Nat.le_trans (Nat.pow_le_pow_right (by decide) hi) (by decide)
theorem acc_step {acc U c : Nat} (ha : acc < U) (hU : U ≤ 72057594037927936) :
    IntKind.u64.wrap ((acc : Int) + IntKind.u64.wrap ((c : Int) % 128 * (U : Int))) = ((acc + U * (c % 128) : Nat) : Int) := by
  have h1 : U * (c % 128) ≤ U * 127 := Nat.mul_le_mul_left _ (by omega)
  have e : (c : Int) % 128 * (U : Int) = ((U * (c % 128) : Nat) : Int) := by rw [Int.natCast_mul, Int.mul_comm, Int.natCast_emod]; rfl
  rw [e]
  generalize U * (c % 128) = p at *
  rw [IntKind.wrap_u64, IntKind.wrap_u64]
  omega
theorem acc_last {acc U : Nat} (ha : acc < U) (hU : U ≤ 9223372036854775808) :
    IntKind.u64.wrap ((acc : Int) + IntKind.u64.wrap (U : Int)) = ((acc + U * 1 : Nat) : Int) := by
  rw [IntKind.wrap_u64, IntKind.wrap_u64]
  omega
theorem unit_step {i U : Nat} (hU : 128 ^ i = U) (hi : i ≤ 8) : IntKind.u64.wrap ((U : Int) * 128) = ((128 ^ (i + 1) : Nat) : Int) := by
  have h := pow8_le hU hi
  rw [Nat.pow_succ, hU, IntKind.wrap_u64]
  omega
theorem acc_lt {acc U c i : Nat} (hU : 128 ^ i = U) (ha : acc < U) (hc : c < 256) : acc + U * (c - 128) < 128 ^ (i + 1) := by
  have h1 : U * (c - 128) ≤ U * 127 := Nat.mul_le_mul_left _ (by omega)
  rw [Nat.pow_succ, hU]
  omega

theorem uint_fin {r : Nat} {l : List Nat} {w : World} {acc U c i b off cap : Nat} (HL : Laid w r 102 [.slice (some ⟨b, off, none⟩) l.length cap, .int .i64 ((0 : Nat) : Int)])
    (HROW : Row .u8 w (.slice (some ⟨b, off, none⟩) l.length cap) (natI l)) (hbr : b ≠ r) (H8 : ∀ c ∈ l, c < 256) (hlen : l.length ≤ 1000000) (hlt : i < l.length)
    (HD : l.drop i = c :: l.drop (i + 1)) (HS : shiftGot acc U (readVar i (l.drop i)) = readVar 0 l) (hnb : ¬ badByte i c) (hc : c < 128) {X : Int} (hX : X = ((acc + U * c : Nat) : Int))
    {off2 n2 c2 : Nat} (hn2 : n2 = l.length - (i + 1)) (hoc : (c2 = cap - (i + 1) ∧ off2 = off + (i + 1)) ∨ (cap = i + 1 ∧ c2 = 0 ∧ off2 = off)) :
    UintEnd r b (l, 0) w (.returned (.int .u64 X)) (w.setCell ⟨r, 0, none⟩ (.slice (some ⟨b, off2, none⟩) n2 c2)) := by
  have hk : readVar 0 l = .val (acc + U * c) (l.drop (i + 1)) := by rw [← HS, HD]; exact readVar_stop acc U i c _ hnb hc
  subst hX
  rcases hoc with ⟨h1, rfl⟩ | ⟨h1, rfl, rfl⟩
  · exact uint_end_val HL HROW hbr H8 hlen rfl (by show i + 1 ≤ l.length; omega) hk hn2 h1
  · have e : rUint (l, 0) = (acc + U * c, (l.drop (i + 1), 0)) := by unfold rUint; rw [if_pos rfl, hk]; rfl
    refine ⟨by rw [e], ?_, keeps_set w r 0 _⟩
    rw [e]
    have hcl : l.length ≤ cap := by
      obtain ⟨a, cap', e1, h2, _⟩ := HROW
      rw [natI_length] at e1 h2
      injection e1 with _ _ e3
      omega
    have hnil : l.drop (i + 1) = [] := List.drop_of_length_le (by omega)
    refine ⟨_, HL.set 0 _, ?_, ⟨hbr, fun j hj => hj⟩, fun c hc => H8 c (List.mem_of_mem_drop hc), by simp; omega, .inr ⟨_, _, _, _, rfl⟩⟩
    show Row .u8 _ _ (natI (l.drop (i + 1)))
    rw [hnil]
    have : n2 = 0 := by omega
    subst this
    exact ⟨_, 0, rfl, Nat.le_refl _, by decide, fun h => (h rfl).elim, fun h => by cases h⟩

theorem uint_bad {r b : Nat} {l : List Nat} {w : World} {acc U c i : Nat} (HRD : Rd w r b (l, 0)) (HD : l.drop i = c :: l.drop (i + 1)) (HS : shiftGot acc U (readVar i (l.drop i)) = readVar 0 l) (hb : badByte i c) :
    UintEnd r b (l, 0) w (.returned (.int .u64 0)) (w.setCell ⟨r, 1, none⟩ (.int .i64 2)) :=
  uint_end_err HRD rfl (k := 2) (by rw [← HS, HD]; exact readVar_fault acc U i c _ hb)

set_option maxRecDepth 100000 in
set_option maxHeartbeats 8000000 in
theorem refRdUint_any (r b : Nat) (s : RS) (w : World) (h : Rd w r b s) :
    Calls Tryz.prog 87 #[.pointer (some ⟨r, 0, none⟩)] w (UintEnd r b s w) := by
  have HRD := Lib.hid h
  obtain ⟨v, hl, hrow, hnb, h8, hlen, _⟩ := h
  have hc0 := hl.cell 0
  have hc1 := hl.cell 1
  have hf0 := hl.frozen 0
  have hf1 := hl.frozen 1
  simp only [List.getElem?_cons_zero, List.getElem?_cons_succ] at hc0 hc1
  have HL := Lib.hid hl
  have HROW := Lib.hid hrow
  have HNB := Lib.hid hnb
  have H8 := Lib.hid h8
  clear hl hnb h8
  obtain ⟨l, e⟩ := s
  simp only at *
  obtain ⟨a, cap, rfl, hcap, hcm, hne, hnil⟩ := hrow
  rw [natI_length] at *
  have HNE := Lib.hid hne
  clear hne hnil
  by_cases he : e = 0
  · subst he
    go_enter Tryz.func87, Tryz.ntmps87
    go_wp2_with fail
    go_loopw [3, 4, 5] (fun nv uv iv wr => ∃ i acc : Nat, i ≤ 9 ∧ i ≤ l.length ∧ iv = .int .i64 (i : Int) ∧ nv = .int .u64 (acc : Int) ∧ uv = .int .u64 ((128 ^ i : Nat) : Int) ∧ Hid (acc < 128 ^ i) ∧ Hid (shiftGot acc (128 ^ i) (readVar i (l.drop i)) = readVar 0 l) ∧ w = wr) (fun _ _ iv _ => l.length - (intOf iv).toNat)
    case atStart => exact ⟨0, 0, by decide, Nat.zero_le _, rfl, rfl, rfl, Lib.hid (by decide), Lib.hid (shiftGot_start _), rfl⟩
    case round =>
      obtain ⟨i, acc, hi9, hil, rfl, rfl, rfl, HA, HS, rfl⟩ := hrel
      by_cases hend : l.length ≤ i
      · have HK : Hid (readVar 0 l = .err 3) := by
          rw [← HS.out, List.drop_of_length_le hend]; exact Lib.hid rfl
        clear HS HA
        go_wp2_with fail
        go_ret
        exact uint_end_err HRD.out rfl HK.out
      · have hlt : i < l.length := by omega
        obtain ⟨b', off, rfl, hcs⟩ := HNE.out (fun h => by have := congrArg List.length h; rw [natI_length, List.length_nil] at this; omega)
        have hck := hcs i hlt
        have hgk : (natI l)[i]?.getD 0 = ((l[i] : Nat) : Int) := by rw [natI_getD, List.getElem?_eq_getElem hlt]; rfl
        rw [hgk] at hck
        have HD := Lib.hid (List.drop_eq_getElem_cons hlt)
        have hc256 : l[i] < 256 := H8.out _ (List.getElem_mem hlt)
        obtain rfl : b' = b := HNB.out.2 _ rfl
        have hbr : b' ≠ r := HNB.out.1
        clear hcs hgk hend
        generalize hcv : l[i] = c at *
        generalize hU : 128 ^ i = U at *
        have HU := Lib.hid hU
        clear hcv hU
        have hcases : (i = 9 ∧ 1 < c) ∨ (i = 9 ∧ c = 0) ∨ (i = 9 ∧ c = 1) ∨ (0 < i ∧ i < 9 ∧ c = 0) ∨ (0 < i ∧ i < 9 ∧ 0 < c ∧ c < 128) ∨ (0 < i ∧ i < 9 ∧ 128 ≤ c) ∨ (i = 0 ∧ c < 128) ∨ (i = 0 ∧ 128 ≤ c) := by omega
        rcases hcases with ⟨h1, h2⟩ | ⟨h1, h2⟩ | ⟨h1, h2⟩ | ⟨h1, h2, h3⟩ | ⟨h1, h2, h3, h4⟩ | ⟨h1, h2, h3⟩ | ⟨h1, h2⟩ | ⟨h1, h2⟩
        · subst h1
          go_wp2_with fail
          go_ret
          exact uint_bad HRD.out HD.out HS.out (.inl ⟨rfl, h2⟩)
        · subst h1 h2
          go_wp2_with fail
          go_ret
          exact uint_bad HRD.out HD.out HS.out (.inr ⟨by decide, rfl⟩)
        · subst h1 h2
          have HX := Lib.hid (acc_last HA.out (by rw [← HU.out]; decide))
          go_wp2_with fail
          all_goals
            go_ret
            refine uint_fin HL.out HROW.out hbr H8.out hlen hlt HD.out HS.out (by rintro (⟨_, h⟩ | ⟨_, h⟩) <;> omega) (by decide) HX.out (by omega) (by first | exact .inl ⟨rfl, rfl⟩ | (right; omega))
        · subst h3
          have b1 : ((i : Int) == 9) = false := by simp; omega
          go_wp2_with fail
          go_ret
          exact uint_bad HRD.out HD.out HS.out (.inr ⟨h1, rfl⟩)
        · have b1 : ((i : Int) == 9) = false := by simp; omega
          have b2 : ((c : Int) == 0) = false := by simp; omega
          have HX : Hid (IntKind.u64.wrap ((acc : Int) + IntKind.u64.wrap ((c : Int) % 128 * (U : Int))) = ((acc + U * c : Nat) : Int)) := by
            have := acc_step (c := c) HA.out (pow8_le HU.out (by omega))
            rw [Nat.mod_eq_of_lt h4] at this
            exact Lib.hid this
          go_wp2_with fail
          all_goals
            go_ret
            refine uint_fin HL.out HROW.out hbr H8.out hlen hlt HD.out HS.out (by rintro (⟨h, _⟩ | ⟨_, h⟩) <;> omega) h4 HX.out (by omega) (by first | exact .inl ⟨rfl, rfl⟩ | (right; omega))
        · have b1 : ((i : Int) == 9) = false := by simp; omega
          have b2 : ((c : Int) == 0) = false := by simp; omega
          have HX : Hid (IntKind.u64.wrap ((acc : Int) + IntKind.u64.wrap ((c : Int) % 128 * (U : Int))) = ((acc + U * (c - 128) : Nat) : Int)) := by
            have := acc_step (c := c) HA.out (pow8_le HU.out (by omega))
            rw [show c % 128 = c - 128 by omega] at this
            exact Lib.hid this
          have HY := Lib.hid (unit_step HU.out (by omega))
          go_wp2_with fail
          go_roundw
          case rel =>
            refine ⟨i + 1, acc + U * (c - 128), by omega, by omega, by go_num, by rw [HX.out], by rw [HY.out], Lib.hid (acc_lt HU.out HA.out hc256), Lib.hid ?_, trivial⟩
            rw [← HS.out, HD.out, readVar_step acc U i c _ (by rintro (⟨h, _⟩ | ⟨_, h⟩) <;> omega) (by omega), Nat.pow_succ, HU.out]
          case measure => simp [intOf]; omega
        · subst h1
          simp only [Nat.add_zero] at hck
          have hl0 : ¬ l = [] := fun h => by rw [h] at hlt; simp at hlt
          have HX : Hid (IntKind.u64.wrap ((acc : Int) + IntKind.u64.wrap ((c : Int) % 128 * (U : Int))) = ((acc + U * c : Nat) : Int)) := by
            have := acc_step (c := c) HA.out (pow8_le HU.out (by decide))
            rw [Nat.mod_eq_of_lt h2] at this
            exact Lib.hid this
          go_wp2_with fail
          all_goals
            go_ret
            refine uint_fin HL.out HROW.out hbr H8.out hlen hlt HD.out HS.out (by rintro (⟨h, _⟩ | ⟨h, _⟩) <;> omega) h2 HX.out (by omega) (by first | exact .inl ⟨rfl, rfl⟩ | (right; omega))
        · subst h1
          simp only [Nat.add_zero] at hck
          have hl0 : ¬ l = [] := fun h => by rw [h] at hlt; simp at hlt
          have HX : Hid (IntKind.u64.wrap ((acc : Int) + IntKind.u64.wrap ((c : Int) % 128 * (U : Int))) = ((acc + U * (c - 128) : Nat) : Int)) := by
            have := acc_step (c := c) HA.out (pow8_le HU.out (by decide))
            rw [show c % 128 = c - 128 by omega] at this
            exact Lib.hid this
          have HY := Lib.hid (unit_step HU.out (by decide))
          go_wp2_with fail
          go_roundw
          case rel =>
            refine ⟨0 + 1, acc + U * (c - 128), by omega, by omega, by go_num, by rw [HX.out], by rw [HY.out], Lib.hid (acc_lt HU.out HA.out hc256), Lib.hid ?_, trivial⟩
            rw [← HS.out, HD.out, readVar_step acc U 0 c _ (by rintro (⟨h, _⟩ | ⟨h, _⟩) <;> omega) (by omega), Nat.pow_succ, HU.out]
          case measure => simp [intOf]; omega
  · have b1 : ((e : Int) == 0) = false := by simp; omega
    have HE := Lib.hid he
    clear he
    go_enter Tryz.func87, Tryz.ntmps87
    go_wp2_with fail
    go_loopw [3, 4, 5] (fun nv uv iv wr => iv = .int .i64 0 ∧ w = wr) (fun _ _ iv _ => 0)
    case atStart => exact ⟨rfl, rfl⟩
    case round =>
      obtain ⟨rfl, rfl⟩ := hrel
      go_wp2_with fail
      go_ret
      have e1 : rUint (l, e) = (0, (l, e)) := by unfold rUint; rw [if_neg HE.out]
      exact ⟨by rw [e1]; rfl, by rw [e1]; exact HRD.out, Keeps.refl _ _⟩
end Go.Proofs.YtlljcnhcknmoaaaGreat
