/-
  The reference's disk in memory: a struct with 64 byte slices and 64 numbers; its predicate by the states of a disk. The reference's disk: New, Used, Files, the steps, Arm.
-/
import Derived.Test.YtlljcnhcknmoaaaGreatDkC
import Derived.Deep.RegionHeld3
import Derived.Deep.OwnRows
namespace Go.Proofs.YtlljcnhcknmoaaaGreat
open Go.RowKit Go.Shelf
set_option linter.unusedVariables false
set_option maxRecDepth 100000

/-- What holds of a disk's state, whatever was done. -/
structure StOk (room : Nat) (s : St) : Prop where
  sum : sumB s.B ≤ room
  room : room ≤ 16777216
  b8 : ∀ k, ∀ c ∈ s.B k, c < 256
  dur : ∀ k, s.D k ≤ (s.B k).length
  left : -1 ≤ s.left ∧ s.left ≤ 9223372036854775807
  far : ∀ k, 64 ≤ k → s.B k = []
theorem le_sumR {g : Nat → Nat} : ∀ {n k : Nat}, k < n → g k ≤ ((List.range n).map g).sum
  | 0, k, h => by omega
  | n + 1, k, h => by
    rw [List.range_succ, List.map_append, List.sum_append, List.map_singleton, List.sum_singleton]
    by_cases hk : k < n
    · have := le_sumR (g := g) hk; omega
    · have : k = n := by omega
      subst this; omega
theorem StOk.len {room : Nat} {s : St} (h : StOk room s) (k : Nat) : (s.B k).length ≤ room := by
  by_cases hk : k < 64
  · exact Nat.le_trans (le_sumR (g := fun k => (s.B k).length) hk) h.sum
  · rw [h.far k (by omega)]; exact Nat.zero_le _
theorem dks_ok {W : World} {A : Foot} {d room : Nat} {s : St} (h : DkS W A d room s) : StOk room s := by
  have hs := dkm_sum h
  obtain ⟨b, es, hd, hB, hD, hA⟩ := h
  refine ⟨hs.1, hs.2, fun k => ?_, fun k => ?_, hd.left, fun k hk => ?_⟩
  · rw [← hB]; obtain ⟨_, _, _, _, _, h8⟩ := file_row hd k; exact h8
  · rw [← hD, ← hB]; exact dur_le hd k
  · rw [← hB]; exact bytes_none (fun f hf => by have := (hd.ok f hf).key; omega)

def planS (s : St) : Int := if s.on then s.left else -1

/-- 64 cells. -/
def cells64 (f : Nat → Value) : List Value := (List.range 64).map f
theorem cells64_at (f : Nat → Value) {k : Nat} (hk : k < 64) : (cells64 f)[k]? = some (f k) := by
  unfold cells64
  rw [List.getElem?_map, List.getElem?_range hk]; rfl
theorem cells64_set (f : Nat → Value) (k : Nat) (v : Value) : (cells64 f).set k v = cells64 (fun j => if j = k then v else f j) := by
  apply List.ext_getElem?
  intro j
  unfold cells64
  by_cases hj : j < 64
  · by_cases hk : k = j
    · subst hk
      rw [List.getElem?_set_self (by simp; exact hj), List.getElem?_map, List.getElem?_range hj]
      simp
    · rw [List.getElem?_set_ne hk, List.getElem?_map, List.getElem?_map, List.getElem?_range hj]
      simp [Ne.symm hk]
  · rw [List.getElem?_eq_none (by simp; omega), List.getElem?_eq_none (by simp; omega)]
theorem cells64_ext {f g : Nat → Value} (h : ∀ k, k < 64 → f k = g k) : cells64 f = cells64 g := by
  unfold cells64
  exact List.map_congr_left fun k hk => h k (List.mem_range.1 hk)

def slV (ad : Nat → Option Addr) (cp : Nat → Nat) (B : Nat → List Nat) (k : Nat) : Value := .slice (ad k) (B k).length (cp k)
def setA {α : Type} (f : Nat → α) (k : Nat) (x : α) : Nat → α := fun j => if j = k then x else f j

/-- The reference's disk m with its two rows, in a state, its files' bytes at ad. -/
structure Rf (W : World) (m bb fb room : Nat) (off : Bool) (plan : Int) (B : Nat → List Nat) (D : Nat → Nat) (ad : Nat → Option Addr) (cp : Nat → Nat) : Prop where
  dk : Laid W m 50 [.int .i64 (room : Int), .slice (some ⟨bb, 0, none⟩) 64 64, .slice (some ⟨fb, 0, none⟩) 64 64, .bool off, .int .i64 plan]
  bt : Laid W bb 39 (cells64 (slV ad cp B))
  ft : Laid W fb 3 (cells64 fun k => .int .i64 (D k : Int))
  row : ∀ k, k < 64 → Fresh 0 5 .u8 W (slV ad cp B k) (natI (B k))
  sep : ∀ j k, j < 64 → k < 64 → j ≠ k → ∀ g, (slV ad cp B j).ownBlock = some g → (slV ad cp B k).ownBlock ≠ some g
  own : ∀ k, k < 64 → ∀ g, (slV ad cp B k).ownBlock = some g → g ≠ m ∧ g ≠ bb ∧ g ≠ fb
  ne : m ≠ bb ∧ m ≠ fb ∧ bb ≠ fb

def rfFoot (m bb fb : Nat) (ad : Nat → Option Addr) : Foot := fun g => g = m ∨ g = bb ∨ g = fb ∨ ∃ k, k < 64 ∧ (Value.slice (ad k) 0 0).ownBlock = some g
theorem ownB_any (a : Option Addr) (n c n2 c2 : Nat) : (Value.slice a n c).ownBlock = (Value.slice a n2 c2).ownBlock := by cases a <;> rfl

section
variable {W W2 : World} {m bb fb room : Nat} {off : Bool} {plan : Int} {B : Nat → List Nat} {D : Nat → Nat} {ad : Nat → Option Addr} {cp : Nat → Nat}

theorem Rf.lt (h : Rf W m bb fb room off plan B D ad cp) : ∀ g, rfFoot m bb fb ad g → g < W.heap.size := by
  rintro g (rfl | rfl | rfl | ⟨k, hk, hg⟩)
  · exact h.dk.lt
  · exact h.bt.lt
  · exact h.ft.lt
  · exact ((h.row k hk).lt g ((ownB_any _ _ _ _ _).trans hg)).2
theorem Rf.keeps {A : Foot} (h : Rf W m bb fb room off plan B D ad cp) (hk : Keeps A W W2) (hn : ∀ g, rfFoot m bb fb ad g → ¬ A g) : Rf W2 m bb fb room off plan B D ad cp :=
  ⟨h.dk.keeps hk (hn m (.inl rfl)), h.bt.keeps hk (hn bb (.inr (.inl rfl))), h.ft.keeps hk (hn fb (.inr (.inr (.inl rfl)))),
    fun k hk2 => own_foot2 (h.row k hk2) hk (fun g hg => hn g (.inr (.inr (.inr ⟨k, hk2, (ownB_any _ _ _ _ _).trans hg⟩)))), h.sep, h.own, h.ne⟩
theorem Rf.below (h : Rf W m bb fb room off plan B D ad cp) (hb : Below W.heap.size W W2) : Rf W2 m bb fb room off plan B D ad cp :=
  h.keeps (Keeps.of_below hb) (fun g hg hn => by have := h.lt g hg; omega)
theorem Rf.bcell (h : Rf W m bb fb room off plan B D ad cp) {k : Nat} (hk : k < 64) : W.cell? ⟨bb, k, none⟩ = some (.slice (ad k) (B k).length (cp k)) :=
  (h.bt.cell k).trans (cells64_at _ hk)
theorem Rf.fcell (h : Rf W m bb fb room off plan B D ad cp) {k : Nat} (hk : k < 64) : W.cell? ⟨fb, k, none⟩ = some (.int .i64 (D k : Int)) :=
  (h.ft.cell k).trans (cells64_at _ hk)

/-- A store into one of the disk's own cells. -/
theorem Rf.setHead (h : Rf W m bb fb room off plan B D ad cp) (j : Nat) (u : Value) (off2 : Bool) (plan2 : Int)
    (he : ([.int .i64 (room : Int), .slice (some ⟨bb, 0, none⟩) 64 64, .slice (some ⟨fb, 0, none⟩) 64 64, .bool off, .int .i64 plan] : List Value).set j u = [.int .i64 (room : Int), .slice (some ⟨bb, 0, none⟩) 64 64, .slice (some ⟨fb, 0, none⟩) 64 64, .bool off2, .int .i64 plan2]) :
    Rf (W.setCell ⟨m, j, none⟩ u) m bb fb room off2 plan2 B D ad cp := by
  have hk := keeps_set W m j u
  exact ⟨he ▸ h.dk.set j u, h.bt.keeps hk (fun e => h.ne.1 e.symm), h.ft.keeps hk (fun e => h.ne.2.1 e.symm), fun k hk2 => own_foot2 (h.row k hk2) hk (fun g hg => (h.own k hk2 g hg).1), h.sep, h.own, h.ne⟩
theorem Rf.setPlan (h : Rf W m bb fb room off plan B D ad cp) (p : Int) : Rf (W.setCell ⟨m, 4, none⟩ (.int .i64 p)) m bb fb room off p B D ad cp := h.setHead 4 _ off p rfl
theorem Rf.setOff (h : Rf W m bb fb room off plan B D ad cp) (o : Bool) : Rf (W.setCell ⟨m, 3, none⟩ (.bool o)) m bb fb room o plan B D ad cp := h.setHead 3 _ o plan rfl
theorem Rf.setFirm (h : Rf W m bb fb room off plan B D ad cp) (k x : Nat) : Rf (W.setCell ⟨fb, k, none⟩ (.int .i64 (x : Int))) m bb fb room off plan B (setD D k x) ad cp := by
  have hk := keeps_set W fb k (.int .i64 (x : Int))
  refine ⟨h.dk.keeps hk h.ne.2.1, h.bt.keeps hk h.ne.2.2, ?_, fun j hj => own_foot2 (h.row j hj) hk (fun g hg => (h.own j hj g hg).2.2), h.sep, h.own, h.ne⟩
  have := h.ft.set k (.int .i64 (x : Int))
  rw [cells64_set] at this
  have e : (fun j => if j = k then Value.int .i64 (x : Int) else .int .i64 (D j : Int)) = fun j => .int .i64 (setD D k x j : Int) := by
    funext j; unfold setD; split <;> rfl
  rw [e] at this
  exact this
/-- A store of a slice for a file: its bytes lie nowhere else. -/
theorem Rf.setRow (h : Rf W m bb fb room off plan B D ad cp) {k : Nat} (hk : k < 64) {a : Option Addr} {c : Nat} {ys : List Nat} (hf : Fresh 0 5 .u8 W (.slice a ys.length c) (natI ys))
    (hs : ∀ g, (Value.slice a ys.length c).ownBlock = some g → (∀ j, j < 64 → j ≠ k → (slV ad cp B j).ownBlock ≠ some g) ∧ g ≠ m ∧ g ≠ bb ∧ g ≠ fb) :
    Rf (W.setCell ⟨bb, k, none⟩ (.slice a ys.length c)) m bb fb room off plan (setB B k ys) D (setA ad k a) (setA cp k c) := by
  have hk2 := keeps_set W bb k (.slice a ys.length c)
  have e : ∀ j, slV (setA ad k a) (setA cp k c) (setB B k ys) j = if j = k then .slice a ys.length c else slV ad cp B j := fun j => by
    unfold slV setA setB; by_cases hj : j = k <;> simp only [hj, if_true, if_false]
  refine ⟨h.dk.keeps hk2 h.ne.1, ?_, h.ft.keeps hk2 (fun e => h.ne.2.2 e.symm), fun j hj => ?_, fun i j hi hj hij g hg => ?_, fun j hj g hg => ?_, h.ne⟩
  · have := h.bt.set k (.slice a ys.length c)
    rw [cells64_set] at this
    rw [show slV (setA ad k a) (setA cp k c) (setB B k ys) = _ from funext e]
    exact this
  · rw [e]
    by_cases hjk : j = k
    · subst hjk
      rw [if_pos rfl, show setB B j ys j = ys from if_pos rfl]
      exact own_foot2 hf hk2 (fun g hg => (hs g hg).2.2.1)
    · rw [if_neg hjk, show setB B k ys j = B j from if_neg hjk]
      exact own_foot2 (h.row j hj) hk2 (fun g hg => (h.own j hj g hg).2.1)
  · rw [e] at hg ⊢
    by_cases h1 : i = k
    · rw [if_pos h1] at hg
      rw [if_neg (fun h2 => hij (h1.trans h2.symm))]
      exact (hs g hg).1 j hj (fun h2 => hij (h1.trans h2.symm))
    · rw [if_neg h1] at hg
      by_cases h2 : j = k
      · rw [if_pos h2]
        exact fun hn => (hs g hn).1 i hi h1 hg
      · rw [if_neg h2]; exact h.sep i j hi hj hij g hg
  · rw [e] at hg
    by_cases hjk : j = k
    · rw [if_pos hjk] at hg; exact (hs g hg).2
    · rw [if_neg hjk] at hg; exact h.own j hj g hg
/-- A store into a file's bytes. -/
theorem Rf.setByte (h : Rf W m bb fb room off plan B D ad cp) {k g j c : Nat} (hk : k < 64) (hg : ad k = some ⟨g, 0, none⟩) :
    Rf (W.setCell ⟨g, j, none⟩ (.int .u8 (c : Int))) m bb fb room off plan (setB B k ((B k).set j c)) D ad cp := by
  have hk2 := keeps_set W g j (.int .u8 (c : Int))
  have ho : (slV ad cp B k).ownBlock = some g := by unfold slV; rw [hg]; rfl
  have hw := h.own k hk g ho
  have hl : ∀ i, (setB B k ((B k).set j c) i).length = (B i).length := fun i => by
    unfold setB
    by_cases hi : i = k
    · rw [if_pos hi, List.length_set, hi]
    · rw [if_neg hi]
  have e : ∀ i, slV ad cp (setB B k ((B k).set j c)) i = slV ad cp B i := fun i => by unfold slV; rw [hl]
  have ef : slV ad cp (setB B k ((B k).set j c)) = slV ad cp B := funext e
  refine ⟨h.dk.keeps hk2 (fun e => hw.1 e.symm), by rw [ef]; exact h.bt.keeps hk2 (fun e => hw.2.1 e.symm), h.ft.keeps hk2 (fun e => hw.2.2 e.symm), fun i hi => ?_, by rw [ef]; exact h.sep, by rw [ef]; exact h.own, h.ne⟩
  rw [e]
  by_cases hik : i = k
  · subst hik
    have hr := h.row i hi
    unfold slV at hr ⊢
    rw [hg] at hr ⊢
    have := (fresh_store2 hr (by rw [natI_length]) j (c : Int)).1
    rw [show setB B i ((B i).set j c) i = (B i).set j c from if_pos rfl]
    rw [show natI ((B i).set j c) = (natI (B i)).set j (c : Int) by unfold natI; rw [List.map_set]]
    exact this
  · rw [show setB B k ((B k).set j c) i = B i from if_neg hik]
    exact own_foot2 (h.row i hi) hk2 (fun g2 hg2 e2 => h.sep k i hk hi (fun e => hik e.symm) g ho (e2 ▸ hg2))
end

/-- The reference's disk in a state. -/
def RfS (W : World) (A : Foot) (m room : Nat) (s : St) : Prop := ∃ bb fb ad cp, Rf W m bb fb room (!s.on) (planS s) s.B s.D ad cp ∧ ∀ g, rfFoot m bb fb ad g → A g
def UpR (w : World) (A : Foot) (m room : Nat) (s : St) (w' : World) : Prop := ∃ A2, Round A A2 w w' ∧ RfS w' A2 m room s
def ResR (w : World) (A : Foot) (m room : Nat) (r : Int × St) (e : Ending) (w' : World) : Prop := e = .returned (.int .i64 r.1) ∧ UpR w A m room r.2 w'
def TupR (w : World) (A : Foot) (m room : Nat) (s : St) (e : Ending) (w' : World) : Prop := e = .returned (.tuple #[]) ∧ UpR w A m room s w'
theorem rfs_keeps {A C : Foot} {W W2 : World} {m room : Nat} {s : St} (h : RfS W A m room s) (hk : Keeps C W W2) (hn : ∀ k, A k → ¬ C k) : RfS W2 A m room s := by
  obtain ⟨bb, fb, ad, cp, h1, h2⟩ := h
  exact ⟨bb, fb, ad, cp, h1.keeps hk (fun g hg => hn g (h2 g hg)), h2⟩
theorem rfs_below {A : Foot} {W W2 : World} {m room : Nat} {s : St} (h : RfS W A m room s) (hb : Below W.heap.size W W2) : RfS W2 A m room s := by
  obtain ⟨bb, fb, ad, cp, h1, h2⟩ := h
  exact ⟨bb, fb, ad, cp, h1.below hb, h2⟩
theorem rfs_tight {A : Foot} {W : World} {m room : Nat} {s : St} (h : RfS W A m room s) : RfS W (fun k => A k ∧ k < W.heap.size) m room s := by
  obtain ⟨bb, fb, ad, cp, h1, h2⟩ := h
  exact ⟨bb, fb, ad, cp, h1, fun g hg => ⟨h2 g hg, h1.lt g hg⟩⟩
theorem upr_of {w w' : World} {A : Foot} {m bb fb bb2 fb2 room : Nat} {s : St} {ad ad2 : Nat → Option Addr} {cp2 : Nat → Nat} (hA : ∀ g, rfFoot m bb fb ad g → A g) (hk : Keeps (rfFoot m bb fb ad) w w') (h : Rf w' m bb2 fb2 room (!s.on) (planS s) s.B s.D ad2 cp2)
    (hf : ∀ g, rfFoot m bb2 fb2 ad2 g → rfFoot m bb fb ad g ∨ w.heap.size ≤ g) : UpR w A m room s w' :=
  ⟨fun g => A g ∨ rfFoot m bb2 fb2 ad2 g, ⟨hk.mono (fun g _ h => hA g h), fun g hg => hg.elim .inl (fun h => (hf g h).imp (hA g) id)⟩, ⟨bb2, fb2, ad2, cp2, h, fun g hg => .inr hg⟩⟩

/-- The same with its blocks from n on. -/
structure Rsk (n : Nat) (W : World) (A : Foot) (m room : Nat) (s : St) : Prop where
  dk : RfS W A m room s
  lo : ∀ k, A k → n ≤ k
  hi : ∀ k, A k → k < W.heap.size
theorem Rsk.below {n : Nat} {W W2 : World} {A : Foot} {m room : Nat} {s : St} (h : Rsk n W A m room s) (hb : Below W.heap.size W W2) : Rsk n W2 A m room s :=
  ⟨rfs_below h.dk hb, h.lo, fun k hk => Nat.lt_of_lt_of_le (h.hi k hk) hb.size⟩
theorem Rsk.other {n : Nat} {W W2 : World} {A C : Foot} {m room : Nat} {s : St} (h : Rsk n W A m room s) (hk : Keeps C W W2) (hn : ∀ k, A k → ¬ C k) : Rsk n W2 A m room s :=
  ⟨rfs_keeps h.dk hk hn, h.lo, fun k hk2 => Nat.lt_of_lt_of_le (h.hi k hk2) hk.size⟩
theorem Rsk.made {n : Nat} {W W2 : World} {A : Foot} {m room : Nat} {s : St} (h : RfS W2 A m room s) (hA : ∀ k, A k → W.heap.size ≤ k) (hn : n ≤ W.heap.size) : Rsk n W2 (fun k => A k ∧ k < W2.heap.size) m room s :=
  ⟨rfs_tight h, fun k hk => Nat.le_trans hn (hA k hk.1), fun k hk => hk.2⟩
theorem Rsk.up {n : Nat} {W W2 : World} {A : Foot} {m room : Nat} {s s2 : St} (h : Rsk n W A m room s) (hu : UpR W A m room s2 W2) (hn : n ≤ W.heap.size) :
    ∃ A2 : Foot, Rsk n W2 A2 m room s2 ∧ Keeps A W W2 ∧ (∀ k, A2 k → A k ∨ W.heap.size ≤ k) ∧ Below n W W2 := by
  obtain ⟨A2, hr, hd⟩ := hu
  refine ⟨fun k => A2 k ∧ k < W2.heap.size, ⟨rfs_tight hd, fun k hk => ?_, fun k hk => hk.2⟩, hr.keeps, fun k hk => hr.foot k hk.1, hr.keeps.below hn h.lo⟩
  rcases hr.foot k hk.1 with h1 | h1
  · exact h.lo k h1
  · omega

def sumTo (B : Nat → List Nat) (k : Nat) : Nat := ((List.range k).map fun k => (B k).length).sum
theorem sumTo_succ (B : Nat → List Nat) (k : Nat) : sumTo B (k + 1) = sumTo B k + (B k).length := by
  unfold sumTo
  rw [List.range_succ, List.map_append, List.sum_append, List.map_singleton, List.sum_singleton]
theorem sumTo_le (B : Nat → List Nat) {j k : Nat} (h : j ≤ k) : sumTo B j ≤ sumTo B k := by
  induction k with
  | zero => rw [Nat.le_zero.1 h]; exact Nat.le_refl _
  | succ k ih =>
    by_cases hj : j ≤ k
    · rw [sumTo_succ]; have := ih hj; omega
    · rw [show j = k + 1 by omega]; exact Nat.le_refl _
def filesTo (B : Nat → List Nat) (k : Nat) : List Nat := (List.range k).filter fun k => !(B k).isEmpty
theorem filesTo_some {B : Nat → List Nat} {k : Nat} (h : 0 < (B k).length) : filesTo B (k + 1) = filesTo B k ++ [k] := by
  unfold filesTo
  rw [List.range_succ, List.filter_append]
  congr 1
  rw [List.filter_cons_of_pos (by cases hb : B k with | nil => rw [hb] at h; simp at h | cons a t => rfl)]
  rfl
theorem filesTo_none {B : Nat → List Nat} {k : Nat} (h : (B k).length = 0) : filesTo B (k + 1) = filesTo B k := by
  unfold filesTo
  rw [List.range_succ, List.filter_append, List.filter_cons_of_neg (by rw [List.eq_nil_of_length_eq_zero h]; decide), List.filter_nil, List.append_nil]
theorem filesTo_len (B : Nat → List Nat) (k : Nat) : (filesTo B k).length ≤ k := by
  unfold filesTo
  exact Nat.le_trans (List.length_filter_le _ _) (by simp)

section
variable {w : World} {m bb fb room : Nat} {off : Bool} {plan : Int} {B : Nat → List Nat} {D : Nat → Nat} {ad : Nat → Option Addr} {cp : Nat → Nat}

def UsedR (B : Nat → List Nat) (w : World) (e : Ending) (w' : World) : Prop := e = .returned (.int .i64 (sumB B : Int)) ∧ w' = w
set_option maxHeartbeats 2000000 in
theorem rUsed_any (h : Rf w m bb fb room off plan B D ad cp) (hs : sumB B ≤ 16777216) : Calls Tryz.prog 56 #[.pointer (some ⟨m, 0, none⟩)] w (UsedR B w) := by
  have HR := Lib.hid h
  have HS := Lib.hid hs
  have c1 := h.dk.cell 1
  simp only [List.getElem?_cons_succ, List.getElem?_cons_zero] at c1
  clear h hs
  go_enter Tryz.func56, Tryz.ntmps56
  go_wp2_with fail
  go_loopw [3, 4] (fun s3 s4 wr => ∃ k n : Nat, k ≤ 64 ∧ s4 = .int .i64 (k : Int) ∧ s3 = .int .i64 (n : Int) ∧ Hid (sumTo B k = n) ∧ w = wr) (fun _ s4 _ => 64 - (intOf s4).toNat)
  case atStart => exact ⟨0, 0, by omega, rfl, rfl, Lib.hid rfl, rfl⟩
  case round =>
    obtain ⟨k, n, hk, rfl, rfl, HN, rfl⟩ := hrel
    by_cases hlt : k < 64
    · have hc := HR.out.bcell hlt
      have hn1 : n + (B k).length ≤ 16777216 := by
        have h1 := sumTo_succ B k
        have h2 := sumTo_le B (show k + 1 ≤ 64 by omega)
        have h3 : sumTo B 64 ≤ 16777216 := HS.out
        have h4 := HN.out
        omega
      have HN2 : Hid (sumTo B (k + 1) = n + (B k).length) := Lib.hid (by rw [sumTo_succ, HN.out])
      generalize (B k).length = x at *
      have hi0 : (0 : Int) ≤ (k : Int) := by omega
      have hi1 : (k : Int) < 64 := by omega
      go_wp2_with fail
      go_roundw
      case rel => exact ⟨k + 1, n + x, by omega, by go_num, by go_num, HN2, trivial⟩
      case measure => simp [intOf]; omega
    · obtain rfl : k = 64 := by omega
      go_wp2_with fail
      go_ret
      exact ⟨by rw [← HN.out]; rfl, rfl⟩

def FilesR (B : Nat → List Nat) (w : World) (e : Ending) (w' : World) : Prop := ∃ v : Value, e = .returned v ∧ Fresh w.heap.size 3 .i64 w' v (natI (filesB B)) ∧ Below w.heap.size w w'
set_option maxHeartbeats 2000000 in
theorem rFiles_any (h : Rf w m bb fb room off plan B D ad cp) : Calls Tryz.prog 34 #[.pointer (some ⟨m, 0, none⟩)] w (FilesR B w) := by
  obtain ⟨i0, hi, hz0, hz1, hz2⟩ := info_parts info_int
  have HR := Lib.hid h
  clear h
  have c1 := HR.out.dk.cell 1
  simp only [List.getElem?_cons_succ, List.getElem?_cons_zero] at c1
  go_enter Tryz.func34, Tryz.ntmps34
  go_wp2_with fail
  clear c1
  go_loopw [3, 4] (fun s3 s4 wr => ∃ k n : Nat, ∃ ua uc, k ≤ 64 ∧ n ≤ k ∧ s4 = .int .i64 (k : Int) ∧ s3 = .slice ua n uc ∧ Hid ((filesTo B k).length = n) ∧ Hid (wr.ownsRow w.heap.size 3 1 (.slice ua n uc) n ((natI (filesTo B k)).map (Value.int .i64))) ∧ Hid (Below w.heap.size w wr)) (fun _ s4 _ => 64 - (intOf s4).toNat)
  case atStart => exact ⟨0, 0, none, 0, by omega, Nat.le_refl _, rfl, rfl, Lib.hid rfl, Lib.hid (World.ownsRow_nil _ _ _ _), Lib.hid (Below.refl _ _)⟩
  case round =>
    obtain ⟨k, n, ua, uc, hk, hn, rfl, rfl, HN, HO, HB⟩ := hrel
    by_cases hlt : k < 64
    · have hR := HR.out.below HB.out
      have hc := hR.bcell hlt
      have c1 := hR.dk.cell 1
      simp only [List.getElem?_cons_succ, List.getElem?_cons_zero] at c1
      clear hR
      have hi0 : (0 : Int) ≤ (k : Int) := by omega
      have hi1 : (k : Int) < 64 := by omega
      by_cases hz : (B k).length = 0
      · have HF := Lib.hid (filesTo_none hz)
        rw [hz] at hc
        clear hz
        go_wp2_with fail
        go_roundw
        case rel => exact ⟨k + 1, n, ua, uc, by omega, by omega, by go_num, rfl, Lib.hid (by rw [HF.out]; exact HN.out), Lib.hid (by rw [HF.out]; exact HO.out), HB⟩
        case measure => simp [intOf]; omega
      · have hz9 : 0 < (B k).length := by omega
        have HF := Lib.hid (filesTo_some hz9)
        generalize (B k).length = x at *
        clear hz
        go_wp2_with (at_builtin; go_must (refine wpList_append_own_at _ rfl _ _ 22 rfl w.heap.size 3 i0 (.int .i64 0) 1 8 Tryz.underlying22 hi hz0 hz1 hz2 rfl (by decide) (.slice ua n uc) n _ rfl (HO.out.alloc _) ⟨wr.heap.size, 0, none⟩ 1 1 [.int .i64 (k : Int)] rfl rfl (cell_one_new _ _ _) (by simp [Value.oneCell']) (by unfold maxLen; omega) (by omega) (by have := HB.out.size; simp; omega) ?_); intro v' w4 hown hgrow _ _; have HG := Lib.hid (And.intro hown hgrow); clear hown hgrow)
        obtain ⟨va, vc, rfl⟩ : ∃ va vc, v' = .slice va (n + 1) vc := by
          rcases HG.out.1.2 with ⟨_, h0⟩ | ⟨g, cap, cur, h1, _⟩
          · omega
          · exact ⟨_, cap, h1⟩
        go_roundw
        case rel => exact ⟨k + 1, n + 1, va, vc, by omega, by omega, by go_num, rfl, Lib.hid (by rw [HF.out, List.length_append, HN.out]; rfl), Lib.hid (by rw [HF.out]; unfold natI; rw [List.map_append, List.map_append]; exact HG.out.1), Lib.hid ((HB.out.alloc HB.out.size _).grown HG.out.2 (by have := HB.out.size; simp; omega) (fun k hk => (HO.out.lt k hk).1))⟩
        case measure => simp [intOf]; omega
    · obtain rfl : k = 64 := by omega
      go_wp2_with fail
      go_ret
      refine ⟨_, rfl, ?_, HB.out⟩
      unfold Fresh
      rw [natI_length]
      show World.ownsRow _ _ _ _ _ (filesTo B 64).length _
      rw [HN.out]
      exact HO.out

/-- A step, and the plain count within it. -/
def StepR (m bb fb room : Nat) (plan : Int) (B : Nat → List Nat) (D : Nat → Nat) (ad : Nat → Option Addr) (cp : Nat → Nat) (w : World) (e : Ending) (w' : World) : Prop :=
  e = .returned (.bool (decide (plan = 0))) ∧ Rf w' m bb fb room (decide (plan = 0)) (if plan < 0 then plan else plan - 1) B D ad cp ∧ Keeps (fun k => k = m) w w'
set_option maxHeartbeats 2000000 in
theorem rFails_any (h : Rf w m bb fb room false plan B D ad cp) (hp : 0 ≤ plan ∧ plan ≤ 9223372036854775807) : Calls Tryz.prog 70 #[.pointer (some ⟨m, 0, none⟩)] w (StepR m bb fb room plan B D ad cp w) := by
  have HR := Lib.hid h
  have c3 := h.dk.cell 3
  have c4 := h.dk.cell 4
  have f3 := h.dk.frozen 3
  have f4 := h.dk.frozen 4
  have hh := h.setPlan (plan - 1)
  have d3 := hh.dk.cell 3
  have d4 := hh.dk.cell 4
  have g3 := hh.dk.frozen 3
  simp only [List.getElem?_cons_succ, List.getElem?_cons_zero] at c3 c4 d3 d4
  have hmx : max (plan - 1) (-2) = plan - 1 := by omega
  by_cases h0 : plan = 0
  · subst h0
    have HK : Hid (Keeps (fun k => k = m) w ((w.setCell ⟨m, 4, none⟩ (.int .i64 (0 - 1))).setCell ⟨m, 3, none⟩ (.bool true))) := Lib.hid ((keeps_set w m 4 _).trans (keeps_set _ m 3 _))
    have HH := Lib.hid (hh.setOff true)
    have e3 := HH.out.dk.cell 3
    simp only [List.getElem?_cons_succ, List.getElem?_cons_zero] at e3
    clear h hh hp
    simp only [Int.zero_sub] at *
    go_enter Tryz.func70, Tryz.ntmps70
    go_wp2_with fail
    go_ret
    exact ⟨rfl, HH.out, HK.out⟩
  · have HK : Hid (Keeps (fun k => k = m) w (w.setCell ⟨m, 4, none⟩ (.int .i64 (plan - 1)))) := Lib.hid (keeps_set w m 4 _)
    have HH := Lib.hid hh
    have HP := Lib.hid hp
    have H0 := Lib.hid h0
    have hne : ¬ plan - 1 = -1 := by omega
    clear h hh
    go_enter Tryz.func70, Tryz.ntmps70
    go_wp2_with fail
    go_ret
    refine ⟨by rw [decide_eq_false H0.out]; rfl, ?_, HK.out⟩
    rw [decide_eq_false H0.out, if_neg (by have := HP.out; omega)]
    exact HH.out
set_option maxHeartbeats 2000000 in
theorem rStep_any (h : Rf w m bb fb room false plan B D ad cp) (hp : plan ≤ 9223372036854775807) : Calls Tryz.prog 50 #[.pointer (some ⟨m, 0, none⟩)] w (StepR m bb fb room plan B D ad cp w) := by
  have HR := Lib.hid h
  have c4 := h.dk.cell 4
  simp only [List.getElem?_cons_succ, List.getElem?_cons_zero] at c4
  clear h
  by_cases h0 : plan < 0
  · have H0 := Lib.hid h0
    go_enter Tryz.func50, Tryz.ntmps50
    go_wp2_with fail
    go_ret
    have hne : ¬ plan = 0 := fun e => by have := H0.out; omega
    refine ⟨by rw [decide_eq_false hne]; rfl, ?_, Keeps.refl _ _⟩
    rw [decide_eq_false hne, if_pos H0.out]
    exact HR.out
  · have H0 := Lib.hid h0
    go_enter Tryz.func50, Tryz.ntmps50
    go_wp2_with fail
    refine (rFails_any HR.out ⟨by have := H0.out; omega, hp⟩).mono ?_
    rintro e w' ⟨rfl, h1, h2⟩
    have H1 := Lib.hid (And.intro h1 h2)
    clear h1 h2 c4
    by_cases h00 : plan = 0
    · rw [decide_eq_true h00]
      have H00 := Lib.hid h00
      clear h00
      go_wp2_with fail
      go_ret
      exact ⟨by rw [decide_eq_true H00.out]; rfl, H1.out.1, H1.out.2⟩
    · rw [decide_eq_false h00]
      have H00 := Lib.hid h00
      clear h00
      go_wp2_with fail
      go_ret
      exact ⟨by rw [decide_eq_false H00.out]; rfl, H1.out.1, H1.out.2⟩
end

theorem armR_any {w : World} {A : Foot} {m room : Nat} {s : St} (h : RfS w A m room s) (n : Int) (hn : -9223372036854775808 ≤ n ∧ n ≤ 9223372036854775807) :
    Calls Tryz.prog 10 #[.pointer (some ⟨m, 0, none⟩), .int .i64 n] w (TupR w A m room (pArm s n)) := by
  obtain ⟨bb, fb, ad, cp, hr, hA⟩ := h
  have c3 := hr.dk.cell 3
  have c4 := hr.dk.cell 4
  have f4 := hr.dk.frozen 4
  simp only [List.getElem?_cons_succ, List.getElem?_cons_zero] at c3 c4
  have HA := Lib.hid hA
  have HR := Lib.hid hr
  cases hon : s.on with
  | false =>
    rw [hon] at c3
    have HON := Lib.hid hon
    clear hr hA hon
    go_enter Tryz.func10, Tryz.ntmps10
    go_wp2_with fail
    go_end0
    have e : pArm s n = s := by
      obtain ⟨on, left, B, D⟩ := s
      have h2 : on = false := HON.out
      subst h2
      rfl
    rw [e]
    exact ⟨rfl, upr_of HA.out (Keeps.refl _ _) HR.out (fun g hg => .inl hg)⟩
  | true =>
    rw [hon] at c3
    have HON := Lib.hid hon
    clear hr hA hon
    by_cases hlt : n < -1
    · have HLT := Lib.hid hlt
      have hmx : max n (-1) = -1 := by omega
      go_enter Tryz.func10, Tryz.ntmps10
      go_wp2_with fail
      go_end0
      refine ⟨rfl, upr_of HA.out ((keeps_set w m 4 _).mono (fun g _ hg => .inl hg)) (ad2 := ad) (cp2 := cp) ?_ (fun g hg => .inl hg)⟩
      have := HR.out.setPlan (-1)
      have e : planS (pArm s n) = -1 := by
        show (if s.on = true then armL s.on s.left n else -1) = -1
        rw [HON.out]
        show max n (-1) = -1
        have := HLT.out
        omega
      rw [e]
      exact this
    · have HLT := Lib.hid hlt
      have hmx : max n (-1) = n := by omega
      go_enter Tryz.func10, Tryz.ntmps10
      go_wp2_with fail
      go_end0
      refine ⟨rfl, upr_of HA.out ((keeps_set w m 4 _).mono (fun g _ hg => .inl hg)) (ad2 := ad) (cp2 := cp) ?_ (fun g hg => .inl hg)⟩
      have := HR.out.setPlan n
      have e : planS (pArm s n) = n := by
        show (if s.on = true then armL s.on s.left n else -1) = n
        rw [HON.out]
        show max n (-1) = n
        have := HLT.out
        omega
      rw [e]
      exact this

theorem below_drew' {B : Nat} (w : World) : Below B w w.drew := ⟨rfl, rfl, rfl, Nat.le_refl _, fun _ _ => rfl⟩
theorem made64 (z : Value) : madeCells #[z] 64 = (cells64 fun _ => z).toArray := by
  apply Array.toList_inj.1
  simp [madeCells, cells64]
  intro a h
  simp [Nat.mod_one]
theorem info_sl : (Tryz.prog.info? 39).map (fun i => (i.zero, i.size, i.bytes)) = some (some (.slice none 0 0), 1, 24) := by kernel_rfl
theorem rf_new {W : World} {m bb fb room : Nat} (h1 : Laid W m 50 [.int .i64 (room : Int), .slice (some ⟨bb, 0, none⟩) 64 64, .slice (some ⟨fb, 0, none⟩) 64 64, .bool false, .int .i64 (-1)])
    (h2 : Laid W bb 39 (cells64 fun _ => .slice none 0 0)) (h3 : Laid W fb 3 (cells64 fun _ => .int .i64 0)) (hne : m ≠ bb ∧ m ≠ fb ∧ bb ≠ fb) :
    Rf W m bb fb room (!pNew.on) (planS pNew) pNew.B pNew.D (fun _ => none) (fun _ => 0) :=
  ⟨h1, h2, h3, fun k _ => fresh_nil _ _ _ _, fun j k _ _ _ g hg => (by cases hg), fun k _ g hg => (by cases hg), hne⟩
def NewR (room : Nat) (w : World) (e : Ending) (w' : World) : Prop := ∃ m bb fb, e = .returned (.pointer (some ⟨m, 0, none⟩)) ∧ Rf w' m bb fb room (!pNew.on) (planS pNew) pNew.B pNew.D (fun _ => none) (fun _ => 0) ∧ (∀ k, rfFoot m bb fb (fun _ => none) k → w.heap.size ≤ k) ∧ Below w.heap.size w w'
theorem new_end {w W : World} {m bb fb room : Nat} (h : Rf W m bb fb room (!pNew.on) (planS pNew) pNew.B pNew.D (fun _ => none) (fun _ => 0)) (h1 : w.heap.size ≤ m) (h2 : w.heap.size ≤ bb) (h3 : w.heap.size ≤ fb) (hb : Below w.heap.size w W.drew) :
    NewR room w (.returned (.pointer (some ⟨m, 0, none⟩))) W.drew := by
  refine ⟨m, bb, fb, rfl, h.below (below_drew' W), fun k hk => ?_, hb⟩
  rcases hk with rfl | rfl | rfl | ⟨k, _, hk⟩
  · exact h1
  · exact h2
  · exact h3
  · cases hk
set_option maxHeartbeats 4000000 in
theorem newR_any (room : Nat) (w : World) : Calls Tryz.prog 6 #[.int .i64 (room : Int)] w (NewR room w) := by
  have k1 : ∀ W : World, (Instr.makeSlice 29 (.int .i64 64) (.int .i64 64)).run Tryz.prog W = .ok (.slice (some ⟨W.heap.size, 0, none⟩) 64 64) (W.alloc (.cells (cells64 fun _ => .slice none 0 0).toArray 39)) := fun W => by
    rw [← made64]; exact run_make_row' (P := Tryz.prog) 29 39 (.slice none 0 0) 24 Tryz.underlying29 info_sl rfl .i64 .i64 64 (by decide) (by decide) W
  have k2 : ∀ W : World, (Instr.makeSlice 22 (.int .i64 64) (.int .i64 64)).run Tryz.prog W = .ok (.slice (some ⟨W.heap.size, 0, none⟩) 64 64) (W.alloc (.cells (cells64 fun _ => .int .i64 0).toArray 3)) := fun W => by
    rw [← made64]; exact run_make_row' (P := Tryz.prog) 22 3 (.int .i64 0) 8 Tryz.underlying22 info_int rfl .i64 .i64 64 (by decide) (by decide) W
  generalize hC1 : (cells64 fun _ => (Value.slice none 0 0)) = C1 at k1
  generalize hC2 : (cells64 fun _ => (Value.int .i64 0)) = C2 at k2
  have HC := Lib.hid (And.intro hC1 hC2)
  clear hC1 hC2
  go_enter Tryz.func6, Tryz.ntmps6
  go_wp2_with fail
  go_region
  all_goals
    go_wp2_with fail
    go_ret
    obtain ⟨hC1, hC2⟩ := HC.out
    subst hC1 hC2
  · have h1 : Laid ((w.alloc (.cells (cells64 fun _ => .slice none 0 0).toArray 39)).alloc (.cells (cells64 fun _ => .int .i64 0).toArray 3)) w.heap.size 39 (cells64 fun _ => .slice none 0 0) := (Laid.new w _ _).below ((Below.refl _ _).alloc (Nat.le_refl _) _)
    have h2 := Laid.new (w.alloc (.cells (cells64 fun _ => .slice none 0 0).toArray 39)) 3 (cells64 fun _ => .int .i64 0)
    rw [World.size_alloc] at h2
    have h3 := Laid.new ((w.alloc (.cells (cells64 fun _ => .slice none 0 0).toArray 39)).alloc (.cells (cells64 fun _ => .int .i64 0).toArray 3)) 50 [.int .i64 (room : Int), .slice (some ⟨w.heap.size, 0, none⟩) 64 64, .slice (some ⟨w.heap.size + 1, 0, none⟩) 64 64, .bool false, .int .i64 (-1)]
    rw [World.size_alloc, World.size_alloc] at h3
    exact new_end (rf_new h3 (h1.below ((Below.refl _ _).alloc (Nat.le_refl _) _)) (h2.below ((Below.refl _ _).alloc (Nat.le_refl _) _)) ⟨by omega, by omega, by omega⟩) (by omega) (by omega) (by omega) ((((Below.refl _ w).alloc (Nat.le_refl _) _).alloc (by simp) _).alloc (by simp; omega) _).drew
  · have h1 : Laid ((w.alloc (.cells (cells64 fun _ => .int .i64 0).toArray 3)).alloc (.cells (cells64 fun _ => .slice none 0 0).toArray 39)) w.heap.size 3 (cells64 fun _ => .int .i64 0) := (Laid.new w _ _).below ((Below.refl _ _).alloc (Nat.le_refl _) _)
    have h2 := Laid.new (w.alloc (.cells (cells64 fun _ => .int .i64 0).toArray 3)) 39 (cells64 fun _ => .slice none 0 0)
    rw [World.size_alloc] at h2
    have h3 := Laid.new ((w.alloc (.cells (cells64 fun _ => .int .i64 0).toArray 3)).alloc (.cells (cells64 fun _ => .slice none 0 0).toArray 39)) 50 [.int .i64 (room : Int), .slice (some ⟨w.heap.size + 1, 0, none⟩) 64 64, .slice (some ⟨w.heap.size, 0, none⟩) 64 64, .bool false, .int .i64 (-1)]
    rw [World.size_alloc, World.size_alloc] at h3
    exact new_end (rf_new h3 (h2.below ((Below.refl _ _).alloc (Nat.le_refl _) _)) (h1.below ((Below.refl _ _).alloc (Nat.le_refl _) _)) ⟨by omega, by omega, by omega⟩) (by omega) (by omega) (by omega) ((((Below.refl _ w).alloc (Nat.le_refl _) _).alloc (by simp) _).alloc (by simp; omega) _).drew
theorem newRS_any (room : Nat) (w : World) : Calls Tryz.prog 6 #[.int .i64 (room : Int)] w (fun e w' => ∃ m A, e = .returned (.pointer (some ⟨m, 0, none⟩)) ∧ RfS w' A m room pNew ∧ (∀ k, A k → w.heap.size ≤ k) ∧ Below w.heap.size w w') := by
  refine (newR_any room w).mono ?_
  rintro e w' ⟨m, bb, fb, he, hr, hl, hb⟩
  exact ⟨m, rfFoot m bb fb (fun _ => none), he, ⟨bb, fb, _, _, hr, fun _ h => h⟩, hl, hb⟩
end Go.Proofs.YtlljcnhcknmoaaaGreat
