/-
  The reference's reader: signed numbers, truth values, lengths, byte slices, lists, the end.
-/
import Derived.Test.YtlljcnhcknmoaaaGreatWireC
namespace Go.Proofs.YtlljcnhcknmoaaaGreat
open Go.RowKit Go.Shelf
set_option linter.unusedVariables false

def rInt (s : RS) : Int × RS := (zagI (rUint s).1, (rUint s).2)
def rBool (s : RS) : Bool × RS :=
  if s.2 ≠ 0 then (false, s) else match s.1 with
  | [] => (false, ([], 3))
  | c :: l => if 1 < c then (false, (c :: l, 2)) else (decide (c = 1), (l, 0))
def rLen (s : RS) : Nat × RS :=
  if (rUint s).2.2 ≠ 0 then (0, (rUint s).2) else if (rUint s).2.1.length < (rUint s).1 then (0, ((rUint s).2.1, 3)) else rUint s
def rRaw (s : RS) : List Nat × RS :=
  if (rLen s).2.2 ≠ 0 then ([], (rLen s).2) else ((rLen s).2.1.take (rLen s).1, ((rLen s).2.1.drop (rLen s).1, 0))
def rMany : Nat → RS → List Int × RS
  | 0, s => ([], s)
  | n + 1, s => ((rInt s).1 :: (rMany n (rInt s).2).1, (rMany n (rInt s).2).2)
def rInts (s : RS) : List Int × RS :=
  if (rMany (rLen s).1 (rLen s).2).2.2 ≠ 0 then ([], (rMany (rLen s).1 (rLen s).2).2) else rMany (rLen s).1 (rLen s).2
def rEnd (s : RS) : Nat := if s.2 = 0 ∧ s.1 ≠ [] then 2 else s.2

theorem rUint_lt {s : RS} (h8 : ∀ c ∈ s.1, c < 256) : (rUint s).1 < 18446744073709551616 := by
  unfold rUint
  split
  · cases h : readVar 0 s.1 with
    | err e => show 0 < _; exact (by decide)
    | val n r => exact (readVar_one s.1 h8 0 (by decide) n r h).2.1
  · show 0 < _; exact (by decide)
theorem rUint_err {s : RS} (h : s.2 ≠ 0) : rUint s = (0, s) := by unfold rUint; rw [if_neg h]
theorem rInt_err {s : RS} (h : s.2 ≠ 0) : (rInt s).2 = s := by unfold rInt; rw [rUint_err h]
theorem rMany_err (n : Nat) {s : RS} (h : s.2 ≠ 0) : (rMany n s).2 = s := by
  induction n generalizing s with
  | zero => rfl
  | succ n ih => show (rMany n (rInt s).2).2 = s; rw [rInt_err h]; exact ih h

/-- The end of a reader's method that gives the value x. -/
def RdEnd (r b : Nat) (x : Value) (s : RS) (w : World) (e : Ending) (w' : World) : Prop := e = .returned x ∧ Rd w' r b s ∧ Keeps (fun k => k = r) w w'

theorem Rd.bytes {W : World} {r b : Nat} {s : RS} (h : Rd W r b s) : ∀ c ∈ s.1, c < 256 := by
  obtain ⟨_, _, _, _, h8, _, _⟩ := h; exact h8
theorem Rd.short {W : World} {r b : Nat} {s : RS} (h : Rd W r b s) : s.1.length ≤ 1000000 := by
  obtain ⟨_, _, _, _, _, h, _⟩ := h; exact h

/-- What a walk reads in a reader's block. -/
theorem Rd.cells {W : World} {r b : Nat} {s : RS} (h : Rd W r b s) : ∃ (a : Option Addr) (cap : Nat),
    W.cell? ⟨r, 0, none⟩ = some (.slice a s.1.length cap) ∧ W.cell? ⟨r, 1, none⟩ = some (.int .i64 (s.2 : Int)) ∧ W.frozen? ⟨r, 0, none⟩ = false ∧ W.frozen? ⟨r, 1, none⟩ = false ∧ s.1.length ≤ cap ∧ cap ≤ 9223372036854775807 ∧
    Laid W r 102 [.slice a s.1.length cap, .int .i64 (s.2 : Int)] ∧ Row .u8 W (.slice a s.1.length cap) (natI s.1) ∧ (s.1 ≠ [] → ∃ off, a = some ⟨b, off, none⟩) ∧ (b ≠ r ∧ ∀ j, blockOf (.slice a s.1.length cap) j → j = b) ∧ (a = none ∨ ∃ off, a = some ⟨b, off, none⟩) := by
  obtain ⟨v, hl, hrow, hnb, h8, hlen, hp⟩ := h
  have hrow' := hrow
  obtain ⟨a, cap, rfl, h2, h3, h4, h5⟩ := hrow
  rw [natI_length] at *
  refine ⟨a, cap, hl.cell 0, hl.cell 1, hl.frozen 0, hl.frozen 1, h2, h3, hl, hrow', fun hne => ?_, hnb, ?_⟩
  rotate_left
  · rcases hp with hp | ⟨b', off, len, cap', hp⟩
    · injection hp with hp; exact .inl hp
    · injection hp with hp; subst hp; obtain rfl : b' = b := hnb.2 _ rfl; exact .inr ⟨off, rfl⟩
  obtain ⟨b', off, rfl, _⟩ := h4 (fun h => hne (by cases hs : s.1 with | nil => rfl | cons _ _ => rw [hs] at h; simp [natI] at h))
  obtain rfl : b' = b := hnb.2 _ rfl
  exact ⟨off, rfl⟩

set_option maxHeartbeats 1000000 in
theorem refRdInt_any (r b : Nat) (s : RS) (w : World) (h : Rd w r b s) :
    Calls Tryz.prog 69 #[.pointer (some ⟨r, 0, none⟩)] w (RdEnd r b (.int .i64 (rInt s).1) (rInt s).2 w) := by
  have HRD := Lib.hid h
  clear h
  go_enter Tryz.func69, Tryz.ntmps69
  go_wp2_with fail
  refine (refRdUint_any r b s w HRD.out).mono ?_
  rintro e w1 ⟨rfl, hrd, hk⟩
  have HR1 := Lib.hid hrd
  have HK1 := Lib.hid hk
  clear hrd hk
  go_wp2_with fail
  refine (refBack_any _ w1 (rUint_lt HRD.out.bytes)).mono ?_
  rintro e w2 ⟨rfl, rfl⟩
  go_wp2_with fail
  go_ret
  exact ⟨rfl, HR1.out, HK1.out⟩

/-- Behind the first m bytes. -/
theorem rd_skip {W : World} {r b off cap m : Nat} {s : RS} (HL : Laid W r 102 [.slice (some ⟨b, off, none⟩) s.1.length cap, .int .i64 (s.2 : Int)])
    (HROW : Row .u8 W (.slice (some ⟨b, off, none⟩) s.1.length cap) (natI s.1)) (hbr : b ≠ r) (h8 : ∀ c ∈ s.1, c < 256) (hlen : s.1.length ≤ 1000000) (hm : m ≤ s.1.length)
    {off2 n2 c2 : Nat} (hn2 : n2 = s.1.length - m) (hoc : (c2 = cap - m ∧ off2 = off + m) ∨ (cap = m ∧ c2 = 0 ∧ off2 = off)) :
    Rd (W.setCell ⟨r, 0, none⟩ (.slice (some ⟨b, off2, none⟩) n2 c2)) r b (s.1.drop m, s.2) := by
  rcases hoc with ⟨h1, rfl⟩ | ⟨h1, rfl, rfl⟩
  · exact rd_rest HL HROW hbr h8 hlen hm hn2 h1
  · have hcl : s.1.length ≤ cap := by
      obtain ⟨a, cap', e1, h2, _⟩ := HROW
      rw [natI_length] at e1 h2
      injection e1 with _ _ e3
      omega
    have hnil : s.1.drop m = [] := List.drop_of_length_le (by omega)
    refine ⟨_, HL.set 0 _, ?_, ⟨hbr, fun j hj => hj⟩, fun c hc => h8 c (List.mem_of_mem_drop hc), by simp; omega, .inr ⟨_, _, _, _, rfl⟩⟩
    show Row .u8 _ _ (natI (s.1.drop m))
    rw [hnil]
    have : n2 = 0 := by omega
    subst this
    exact ⟨_, 0, rfl, Nat.le_refl _, by decide, fun h => (h rfl).elim, fun h => by cases h⟩

theorem rLen_le (s : RS) (h : (rLen s).2.2 = 0) : (rLen s).1 ≤ (rLen s).2.1.length := by
  unfold rLen at *
  split at h
  · rename_i h1; exact absurd h h1
  · rw [if_neg ‹_›]
    split at h
    · simp at h
    · rw [if_neg ‹_›]; omega

set_option maxHeartbeats 2000000 in
theorem refRdLen_any (r b : Nat) (s : RS) (w : World) (h : Rd w r b s) :
    Calls Tryz.prog 85 #[.pointer (some ⟨r, 0, none⟩)] w (RdEnd r b (.int .i64 ((rLen s).1 : Nat)) (rLen s).2 w) := by
  have HRD := Lib.hid h
  have HN := Lib.hid (rUint_lt h.bytes)
  have HU := Lib.hid (refRdUint_any r b s w h)
  have hdef : rLen s = if (rUint s).2.2 ≠ 0 then (0, (rUint s).2) else if (rUint s).2.1.length < (rUint s).1 then (0, ((rUint s).2.1, 3)) else rUint s := rfl
  have HDF := Lib.hid hdef
  clear h hdef
  unfold UintEnd at HU
  generalize rLen s = out at *
  generalize rUint s = q at *
  obtain ⟨n, l1, e1⟩ := q
  go_enter Tryz.func85, Tryz.ntmps85
  go_wp2_with fail
  refine HU.out.mono ?_
  rintro e w1 ⟨rfl, hrd, hk⟩
  have hsh := hrd.short
  obtain ⟨a, cap, hc0, hc1, hf0, hf1, hcap, hcm, _, _, _, _, _⟩ := hrd.cells
  have HR1 := Lib.hid hrd
  have HK1 := Lib.hid hk
  have hn64 := HN.out
  clear hrd hk HU HRD
  simp only at *
  by_cases he : e1 = 0
  · subst he
    by_cases hlt : l1.length < n
    · have HO : Hid (out = (0, (l1, 3))) := Lib.hid (by rw [HDF.out, if_neg (by simp), if_pos hlt])
      clear hn64
      go_wp2_with fail
      go_ret
      rw [HO.out]
      exact ⟨rfl, rd_err HR1.out 3, HK1.out.trans (keeps_set w1 r 1 _)⟩
    · have HO : Hid (out = (n, (l1, 0))) := Lib.hid (by rw [HDF.out, if_neg (by simp), if_neg hlt])
      have hn6 : n ≤ 1000000 := by omega
      clear hn64
      go_wp2_with fail
      go_ret
      rw [HO.out]
      exact ⟨ret_int (by rfl), HR1.out, HK1.out⟩
  · have b1 : ((e1 : Int) == 0) = false := by simp; omega
    have b2 : ((e1 : Int) != 0) = true := by simp; omega
    have HO : Hid (out = (0, (l1, e1))) := Lib.hid (by rw [HDF.out, if_pos he])
    clear he hn64
    go_wp2_with fail
    go_ret
    rw [HO.out]
    exact ⟨rfl, HR1.out, HK1.out⟩

def RawEnd (r b : Nat) (l : List Nat) (s : RS) (w : World) (e : Ending) (w' : World) : Prop :=
  ∃ v, e = .returned v ∧ Row .u8 w' v (natI l) ∧ (∀ j, blockOf v j → j = b) ∧ Rd w' r b s ∧ Keeps (fun k => k = r) w w'

theorem row_take {W : World} {b off cap m : Nat} {k : IntKind} {l : List Int} (h : Row k W (.slice (some ⟨b, off, none⟩) l.length cap) l) (hm : m ≤ l.length) : Row k W (.slice (some ⟨b, off, none⟩) m cap) (l.take m) := by
  obtain ⟨a, cap', e1, h2, h3, h4, _⟩ := h
  injection e1 with e1 e2 e3
  subst e1 e3
  have e : (l.take m).length = m := by rw [List.length_take]; omega
  refine ⟨_, cap, by rw [e], by rw [e]; omega, h3, fun hne => ?_, fun h => by cases h⟩
  obtain ⟨b', off', e4, hc⟩ := h4 (fun h => hne (by rw [h]; simp))
  refine ⟨b', off', e4, fun j hj => ?_⟩
  rw [e] at hj
  rw [hc j (by omega), List.getElem?_take_of_lt hj]

set_option maxHeartbeats 2000000 in
theorem refRdRaw_any (r b : Nat) (s : RS) (w : World) (h : Rd w r b s) :
    Calls Tryz.prog 68 #[.pointer (some ⟨r, 0, none⟩)] w (RawEnd r b (rRaw s).1 (rRaw s).2 w) := by
  have HU := Lib.hid (refRdLen_any r b s w h)
  have HN := Lib.hid (rLen_le s)
  have hdef : rRaw s = if (rLen s).2.2 ≠ 0 then ([], (rLen s).2) else ((rLen s).2.1.take (rLen s).1, ((rLen s).2.1.drop (rLen s).1, 0)) := rfl
  have HDF := Lib.hid hdef
  clear h hdef
  unfold RdEnd at HU
  generalize rRaw s = out at *
  generalize rLen s = q at *
  obtain ⟨n, l1, e1⟩ := q
  go_enter Tryz.func68, Tryz.ntmps68
  go_wp2_with fail
  refine HU.out.mono ?_
  rintro e w1 ⟨rfl, hrd, hk⟩
  have hsh := hrd.short
  have H8 := Lib.hid hrd.bytes
  obtain ⟨a, cap, hc0, hc1, hf0, hf1, hcap, hcm, hl, hrow, hne, hnb, hpl⟩ := hrd.cells
  have HR1 := Lib.hid hrd
  have HK1 := Lib.hid hk
  have HL := Lib.hid hl
  have HROW := Lib.hid hrow
  have HNB := Lib.hid hnb
  clear hrd hk HU hl hrow hnb hne
  simp only at *
  by_cases he : e1 = 0
  · subst he
    have hn : n ≤ l1.length := HN.out rfl
    have HO : Hid (out = (l1.take n, (l1.drop n, 0))) := Lib.hid (by rw [HDF.out, if_neg (by simp)])
    rcases hpl with rfl | ⟨off, rfl⟩
    · obtain ⟨rfl, rfl⟩ : l1 = [] ∧ cap = 0 := by
        obtain ⟨a, cap', e1, _, _, _, h5⟩ := HROW.out
        injection e1 with e1 e2 e3
        obtain ⟨h6, h7⟩ := h5 e1.symm
        refine ⟨List.eq_nil_of_length_eq_zero ?_, by omega⟩
        have := congrArg List.length h6
        rwa [natI_length, List.length_nil] at this
      obtain rfl : n = 0 := by simpa using hn
      go_wp2_with fail
      go_ret
      rw [HO.out]
      refine ⟨_, rfl, row_none _ _, fun j h => h.elim, ⟨_, HL.out.set 0 _, row_none _ _, ⟨HNB.out.1, fun j h => h.elim⟩, fun c hc => by simp at hc, by simp, .inl rfl⟩, HK1.out.trans (keeps_set w1 r 0 _)⟩
    · have hbr : b ≠ r := HNB.out.1
      have HT : Hid (Row .u8 w1 (.slice (some ⟨b, off, none⟩) n cap) (natI (l1.take n))) := by
        have h := HROW.out
        rw [← natI_length l1] at h
        have := row_take h (m := n) (by rw [natI_length]; exact hn)
        rw [show (natI l1).take n = natI (l1.take n) by simp [natI, List.map_take]] at this
        exact Lib.hid this
      by_cases hcn : cap = n
      · subst hcn
        go_wp2_with fail
        go_ret
        rw [HO.out]
        refine ⟨_, rfl, row_foot (A := fun k => k = r) HT.out (keeps_set w1 r 0 _) (fun j hj e => hbr (by have : j = b := hj; omega)), fun j hj => hj, ?_, HK1.out.trans (keeps_set w1 r 0 _)⟩
        exact rd_skip (s := (l1, 0)) HL.out HROW.out hbr H8.out hsh hn (by show _ = l1.length - cap; omega) (.inr ⟨rfl, rfl, rfl⟩)
      · go_wp2_with fail
        go_ret
        rw [HO.out]
        refine ⟨_, rfl, row_foot (A := fun k => k = r) HT.out (keeps_set w1 r 0 _) (fun j hj e => hbr (by have : j = b := hj; omega)), fun j hj => hj, ?_, HK1.out.trans (keeps_set w1 r 0 _)⟩
        exact rd_skip (s := (l1, 0)) (m := n) HL.out HROW.out hbr H8.out hsh hn rfl (.inl ⟨rfl, rfl⟩)
  · have b1 : ((e1 : Int) == 0) = false := by simp; omega
    have b2 : ((e1 : Int) != 0) = true := by simp; omega
    have HO : Hid (out = ([], (l1, e1))) := Lib.hid (by rw [HDF.out, if_pos he])
    clear he
    go_wp2_with fail
    go_ret
    rw [HO.out]
    exact ⟨_, rfl, row_none _ _, fun j h => h.elim, HR1.out, HK1.out⟩
end Go.Proofs.YtlljcnhcknmoaaaGreat
