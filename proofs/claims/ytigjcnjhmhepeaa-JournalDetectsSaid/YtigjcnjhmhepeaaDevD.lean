/-
  The program's reader: its state; one byte.
-/
import Derived.Test.YtigjcnjhmhepeaaDevC
namespace Go.Proofs.Ytigjcnjhmhepeaa
open Go.RowKit Go.Shelf
set_option linter.unusedVariables false

/-- The program's reader lies in block r, its bytes in block b; it is in the state s. -/
def Rw (W : World) (r b : Nat) (s : RS) : Prop :=
  ∃ v, Laid W r 60 [v, .int .i64 (s.2 : Int)] ∧ Row .u8 W v (natI s.1) ∧ (∀ j, blockOf v j → j = b ∧ b ≠ r) ∧ (∀ c ∈ s.1, c < 256) ∧ s.1.length ≤ 1000000 ∧ PlainS v

theorem rw_err {W : World} {r b : Nat} {s : RS} (h : Rw W r b s) (k : Nat) : Rw (W.setCell ⟨r, 1, none⟩ (.int .i64 (k : Int))) r b (s.1, k) := by
  obtain ⟨v, h1, h2, h3, h4, h5⟩ := h
  exact ⟨v, h1.set 1 _, row_foot h2 (keeps_set W r 1 _) (fun j hj e => (h3 j hj).2 ((h3 j hj).1.symm.trans e)), h3, h4, h5⟩

/-- The bytes behind the first m. -/
theorem rw_rest {W : World} {r b off cap m : Nat} {l : List Nat} {e : Nat} (hl : Laid W r 60 [.slice (some ⟨b, off, none⟩) l.length cap, .int .i64 (e : Int)])
    (hr : Row .u8 W (.slice (some ⟨b, off, none⟩) l.length cap) (natI l)) (hbr : b ≠ r) (h8 : ∀ c ∈ l, c < 256) (hlen : l.length ≤ 1000000) (hm : m ≤ l.length) {n2 c2 : Nat} (hn2 : n2 = l.length - m) (hc2 : c2 = cap - m) :
    Rw (W.setCell ⟨r, 0, none⟩ (.slice (some ⟨b, off + m, none⟩) n2 c2)) r b (l.drop m, e) := by
  subst hn2 hc2
  refine ⟨_, hl.set 0 _, row_foot (A := fun k => k = r) ?_ (keeps_set W r 0 _) (fun j hj e => hbr (by have : j = b := hj; omega)), fun j hj => ⟨hj, hbr⟩, fun c hc => h8 c (List.mem_of_mem_drop hc), by simp; omega, .inr ⟨_, _, _, _, rfl⟩⟩
  obtain ⟨a, cap', e1, h2, h3, h4, h5⟩ := hr
  rw [natI_length] at e1 h2
  injection e1 with e1 e2 e3
  subst e3
  have hdl : (natI (l.drop m)).length = l.length - m := by rw [natI_length, List.length_drop]
  refine ⟨_, cap - m, by rw [hdl], by rw [hdl]; omega, by omega, fun hne => ⟨b, off + m, rfl, fun j hj => ?_⟩, fun h => by cases h⟩
  rw [hdl] at hj
  obtain ⟨b', off', e4, hc⟩ := h4 (fun h => by have := congrArg List.length h; rw [natI_length, List.length_nil] at this; omega)
  rw [← e1] at e4
  cases e4
  have := hc (m + j) (by rw [natI_length]; omega)
  show W.cell? ⟨b, off + m + j, none⟩ = some (.int .u8 ((natI (l.drop m))[j]?.getD 0))
  rw [natI_getD] at this ⊢
  rw [List.getElem?_drop, Nat.add_assoc]
  exact this

/-- The end of a reader's method that gives the value x. -/
def RwEnd (r b : Nat) (x : Value) (s : RS) (w : World) (e : Ending) (w' : World) : Prop := e = .returned x ∧ Rw w' r b s ∧ Keeps (fun k => k = r) w w'

theorem Rw.bytes {W : World} {r b : Nat} {s : RS} (h : Rw W r b s) : ∀ c ∈ s.1, c < 256 := by
  obtain ⟨_, _, _, _, h8, _, _⟩ := h; exact h8
theorem Rw.short {W : World} {r b : Nat} {s : RS} (h : Rw W r b s) : s.1.length ≤ 1000000 := by
  obtain ⟨_, _, _, _, _, h, _⟩ := h; exact h

/-- What a walk reads in a reader's block. -/
theorem Rw.cells {W : World} {r b : Nat} {s : RS} (h : Rw W r b s) : ∃ (a : Option Addr) (cap : Nat),
    W.cell? ⟨r, 0, none⟩ = some (.slice a s.1.length cap) ∧ W.cell? ⟨r, 1, none⟩ = some (.int .i64 (s.2 : Int)) ∧ W.frozen? ⟨r, 0, none⟩ = false ∧ W.frozen? ⟨r, 1, none⟩ = false ∧ s.1.length ≤ cap ∧ cap ≤ 9223372036854775807 ∧
    Laid W r 60 [.slice a s.1.length cap, .int .i64 (s.2 : Int)] ∧ Row .u8 W (.slice a s.1.length cap) (natI s.1) ∧ (s.1 ≠ [] → ∃ off, a = some ⟨b, off, none⟩) ∧ (∀ j, blockOf (.slice a s.1.length cap) j → j = b ∧ b ≠ r) ∧ (a = none ∨ ∃ off, a = some ⟨b, off, none⟩) := by
  obtain ⟨v, hl, hrow, hnb, h8, hlen, hp⟩ := h
  have hrow' := hrow
  obtain ⟨a, cap, rfl, h2, h3, h4, h5⟩ := hrow
  rw [natI_length] at *
  refine ⟨a, cap, hl.cell 0, hl.cell 1, hl.frozen 0, hl.frozen 1, h2, h3, hl, hrow', fun hne => ?_, hnb, ?_⟩
  rotate_left
  · rcases hp with hp | ⟨b', off, len, cap', hp⟩
    · injection hp with hp; exact .inl hp
    · injection hp with hp; subst hp; obtain rfl : b' = b := (hnb _ rfl).1; exact .inr ⟨off, rfl⟩
  obtain ⟨b', off, rfl, _⟩ := h4 (fun h => hne (by cases hs : s.1 with | nil => rfl | cons _ _ => rw [hs] at h; simp [natI] at h))
  obtain rfl : b' = b := (hnb _ rfl).1
  exact ⟨off, rfl⟩

/-- Behind the first m bytes. -/
theorem rw_skip {W : World} {r b off cap m : Nat} {s : RS} (HL : Laid W r 60 [.slice (some ⟨b, off, none⟩) s.1.length cap, .int .i64 (s.2 : Int)])
    (HROW : Row .u8 W (.slice (some ⟨b, off, none⟩) s.1.length cap) (natI s.1)) (hbr : b ≠ r) (h8 : ∀ c ∈ s.1, c < 256) (hlen : s.1.length ≤ 1000000) (hm : m ≤ s.1.length)
    {off2 n2 c2 : Nat} (hn2 : n2 = s.1.length - m) (hoc : (c2 = cap - m ∧ off2 = off + m) ∨ (cap = m ∧ c2 = 0 ∧ off2 = off)) :
    Rw (W.setCell ⟨r, 0, none⟩ (.slice (some ⟨b, off2, none⟩) n2 c2)) r b (s.1.drop m, s.2) := by
  rcases hoc with ⟨h1, rfl⟩ | ⟨h1, rfl, rfl⟩
  · exact rw_rest HL HROW hbr h8 hlen hm hn2 h1
  · have hcl : s.1.length ≤ cap := by
      obtain ⟨a, cap', e1, h2, _⟩ := HROW
      rw [natI_length] at e1 h2
      injection e1 with _ _ e3
      omega
    have hnil : s.1.drop m = [] := List.drop_of_length_le (by omega)
    refine ⟨_, HL.set 0 _, ?_, fun j hj => ⟨hj, hbr⟩, fun c hc => h8 c (List.mem_of_mem_drop hc), by simp; omega, .inr ⟨_, _, _, _, rfl⟩⟩
    show Row .u8 _ _ (natI (s.1.drop m))
    rw [hnil]
    have : n2 = 0 := by omega
    subst this
    exact ⟨_, 0, rfl, Nat.le_refl _, by decide, fun h => (h rfl).elim, fun h => by cases h⟩

theorem rw_keeps {A : Foot} {W W2 : World} {r b : Nat} {s : RS} (h : Rw W r b s) (hk : Keeps A W W2) (hr : ¬ A r) (hb : ¬ A b) : Rw W2 r b s := by
  obtain ⟨v, h1, h2, h3, h4, h5, h6⟩ := h
  exact ⟨v, h1.keeps hk hr, row_foot h2 hk (fun j hj => by rw [(h3 j hj).1]; exact hb), h3, h4, h5, h6⟩

theorem rw_below {W W2 : World} {r b : Nat} {s : RS} (h : Rw W r b s) (hb : b < W.heap.size) (hk : Below W.heap.size W W2) : Rw W2 r b s := by
  have hr : r < W.heap.size := by obtain ⟨v, h1, _⟩ := h; exact h1.lt
  exact rw_keeps h (Keeps.of_below hk) (by omega) (by omega)

theorem Rw.lts {W : World} {r b : Nat} {s : RS} (h : Rw W r b s) : r < W.heap.size := by
  obtain ⟨v, h1, _⟩ := h; exact h1.lt

/-- Reading one byte. -/
def rNext (s : RS) : Nat × RS :=
  if s.2 ≠ 0 then (0, s) else match s.1 with
  | [] => (0, ([], 3))
  | c :: l => (c, (l, 0))

set_option maxHeartbeats 2000000 in
theorem devNext_any (r b : Nat) (s : RS) (w : World) (h : Rw w r b s) :
    Calls Try.prog 33 #[.pointer (some ⟨r, 0, none⟩)] w (RwEnd r b (.int .u8 ((rNext s).1 : Nat)) (rNext s).2 w) := by
  have HRD := Lib.hid h
  have h8 := h.bytes
  have hsh := h.short
  obtain ⟨a, cap, hc0, hc1, hf0, hf1, hcap, hcm, hl, hrow, hne, hnb, _⟩ := h.cells
  clear h
  obtain ⟨l, e⟩ := s
  simp only at *
  by_cases he : e = 0
  · subst he
    cases l with
    | nil =>
      clear hl hrow hne h8
      have HN := Lib.hid hnb
      clear hnb
      go_enter Try.func33, Try.ntmps33
      go_wp2_with fail
      go_ret
      exact ⟨rfl, rw_err HRD.out 3, keeps_set w r 1 _⟩
    | cons c l =>
      obtain ⟨off, rfl⟩ := hne (by simp)
      have hbr := (hnb b rfl).2
      have hck : w.cell? ⟨b, off, none⟩ = some (.int .u8 (c : Int)) := by
        obtain ⟨a, cap', e1, _, _, h4, _⟩ := hrow
        obtain ⟨b', off', e4, hc⟩ := h4 (by simp [natI])
        injection e1 with e1
        rw [← e1] at e4
        cases e4
        exact hc 0 (by simp [natI])
      have hc256 : c < 256 := h8 c (by simp)
      have HL := Lib.hid hl
      have HROW := Lib.hid hrow
      have H8 := Lib.hid h8
      clear hl hrow h8 hne hnb
      have hlp : (c :: l).length = l.length + 1 := rfl
      go_enter Try.func33, Try.ntmps33
      go_wp2_with fail
      all_goals
        go_ret
        exact ⟨rfl, rw_skip (s := (c :: l, 0)) (m := 1) HL.out HROW.out hbr H8.out hsh (by simp) (by simp) (by first | exact .inl ⟨rfl, rfl⟩ | (right; omega)), keeps_set w r 0 _⟩
  · have b1 : ((e : Int) == 0) = false := by simp; omega
    have b2 : ((e : Int) != 0) = true := by simp; omega
    have HE : Hid (rNext (l, e) = (0, (l, e))) := Lib.hid (by unfold rNext; rw [if_pos he])
    clear he hl hrow hne hnb h8
    go_enter Try.func33, Try.ntmps33
    go_wp2_with fail
    go_ret
    rw [HE.out]
    exact ⟨rfl, HRD.out, Keeps.refl _ _⟩
end Go.Proofs.Ytigjcnjhmhepeaa
