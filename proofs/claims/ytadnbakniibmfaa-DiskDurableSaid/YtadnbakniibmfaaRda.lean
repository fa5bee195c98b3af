/-
  The reference's disk in memory: a struct with 64 byte slices and 64 numbers; its predicate by the states of a disk.
-/
import Derived.Test.YtadnbakniibmfaaDkC
import Derived.Deep.RegionHeld3
namespace Go.Proofs.Ytadnbakniibmfaa
open Go.RowKit Go.Shelf
set_option linter.unusedVariables false
set_option maxRecDepth 100000

/-- What holds of a disk's state, whatever was done. -/
structure StOk (room : Nat) (s : St) : Prop where
  sum : sumB s.B ≤ room
  room : room ≤ 16777216
  b8 : ∀ k, ∀ c ∈ s.B k, c < 256
  dur : ∀ k, s.D k ≤ (s.B k).length
  left : -1 ≤ s.left ∧ s.left ≤ 9223372036854775807
  far : ∀ k, 64 ≤ k → s.B k = []
theorem le_sumR {g : Nat → Nat} : ∀ {n k : Nat}, k < n → g k ≤ ((List.range n).map g).sum
  | 0, k, h => by omega
  | n + 1, k, h => by
    rw [List.range_succ, List.map_append, List.sum_append, List.map_singleton, List.sum_singleton]
    by_cases hk : k < n
    · have := le_sumR (g := g) hk; omega
    · have : k = n := by omega
      subst this; omega
theorem StOk.len {room : Nat} {s : St} (h : StOk room s) (k : Nat) : (s.B k).length ≤ room := by
  by_cases hk : k < 64
  · exact Nat.le_trans (le_sumR (g := fun k => (s.B k).length) hk) h.sum
  · rw [h.far k (by omega)]; exact Nat.zero_le _
theorem dks_ok {W : World} {A : Foot} {d room : Nat} {s : St} (h : DkS W A d room s) : StOk room s := by
  have hs := dkm_sum h
  obtain ⟨b, es, hd, hB, hD, hA⟩ := h
  refine ⟨hs.1, hs.2, fun k => ?_, fun k => ?_, hd.left, fun k hk => ?_⟩
  · rw [← hB]; obtain ⟨_, _, _, _, _, h8⟩ := file_row hd k; exact h8
  · rw [← hD, ← hB]; exact dur_le hd k
  · rw [← hB]; exact bytes_none (fun f hf => by have := (hd.ok f hf).key; omega)

def planS (s : St) : Int := if s.on then s.left else -1

/-- 64 cells. -/
def cells64 (f : Nat → Value) : List Value := (List.range 64).map f
theorem cells64_at (f : Nat → Value) {k : Nat} (hk : k < 64) : (cells64 f)[k]? = some (f k) := by
  unfold cells64
  rw [List.getElem?_map, List.getElem?_range hk]; rfl
theorem cells64_set (f : Nat → Value) (k : Nat) (v : Value) : (cells64 f).set k v = cells64 (fun j => if j = k then v else f j) := by
  apply List.ext_getElem?
  intro j
  unfold cells64
  by_cases hj : j < 64
  · by_cases hk : k = j
    · subst hk
      rw [List.getElem?_set_self (by simp; exact hj), List.getElem?_map, List.getElem?_range hj]
      simp
    · rw [List.getElem?_set_ne hk, List.getElem?_map, List.getElem?_map, List.getElem?_range hj]
      simp [Ne.symm hk]
  · rw [List.getElem?_eq_none (by simp; omega), List.getElem?_eq_none (by simp; omega)]
theorem cells64_ext {f g : Nat → Value} (h : ∀ k, k < 64 → f k = g k) : cells64 f = cells64 g := by
  unfold cells64
  exact List.map_congr_left fun k hk => h k (List.mem_range.1 hk)

def slV (ad : Nat → Option Addr) (cp : Nat → Nat) (B : Nat → List Nat) (k : Nat) : Value := .slice (ad k) (B k).length (cp k)
def setA {α : Type} (f : Nat → α) (k : Nat) (x : α) : Nat → α := fun j => if j = k then x else f j

/-- The reference's disk m with its two rows, in a state, its files' bytes at ad. -/
structure Rf (W : World) (m bb fb room : Nat) (off : Bool) (plan : Int) (B : Nat → List Nat) (D : Nat → Nat) (ad : Nat → Option Addr) (cp : Nat → Nat) : Prop where
  dk : Laid W m 53 [.int .i64 (room : Int), .slice (some ⟨bb, 0, none⟩) 64 64, .slice (some ⟨fb, 0, none⟩) 64 64, .bool off, .int .i64 plan]
  bt : Laid W bb 33 (cells64 (slV ad cp B))
  ft : Laid W fb 3 (cells64 fun k => .int .i64 (D k : Int))
  row : ∀ k, k < 64 → Fresh 0 5 .u8 W (slV ad cp B k) (natI (B k))
  sep : ∀ j k, j < 64 → k < 64 → j ≠ k → ∀ g, (slV ad cp B j).ownBlock = some g → (slV ad cp B k).ownBlock ≠ some g
  own : ∀ k, k < 64 → ∀ g, (slV ad cp B k).ownBlock = some g → g ≠ m ∧ g ≠ bb ∧ g ≠ fb
  ne : m ≠ bb ∧ m ≠ fb ∧ bb ≠ fb

def rfFoot (m bb fb : Nat) (ad : Nat → Option Addr) : Foot := fun g => g = m ∨ g = bb ∨ g = fb ∨ ∃ k, k < 64 ∧ (Value.slice (ad k) 0 0).ownBlock = some g
theorem ownB_any (a : Option Addr) (n c n2 c2 : Nat) : (Value.slice a n c).ownBlock = (Value.slice a n2 c2).ownBlock := by cases a <;> rfl

section
variable {W W2 : World} {m bb fb room : Nat} {off : Bool} {plan : Int} {B : Nat → List Nat} {D : Nat → Nat} {ad : Nat → Option Addr} {cp : Nat → Nat}

theorem Rf.lt (h : Rf W m bb fb room off plan B D ad cp) : ∀ g, rfFoot m bb fb ad g → g < W.heap.size := by
  rintro g (rfl | rfl | rfl | ⟨k, hk, hg⟩)
  · exact h.dk.lt
  · exact h.bt.lt
  · exact h.ft.lt
  · exact ((h.row k hk).lt g ((ownB_any _ _ _ _ _).trans hg)).2
theorem Rf.keeps {A : Foot} (h : Rf W m bb fb room off plan B D ad cp) (hk : Keeps A W W2) (hn : ∀ g, rfFoot m bb fb ad g → ¬ A g) : Rf W2 m bb fb room off plan B D ad cp :=
  ⟨h.dk.keeps hk (hn m (.inl rfl)), h.bt.keeps hk (hn bb (.inr (.inl rfl))), h.ft.keeps hk (hn fb (.inr (.inr (.inl rfl)))),
    fun k hk2 => own_foot2 (h.row k hk2) hk (fun g hg => hn g (.inr (.inr (.inr ⟨k, hk2, (ownB_any _ _ _ _ _).trans hg⟩)))), h.sep, h.own, h.ne⟩
theorem Rf.below (h : Rf W m bb fb room off plan B D ad cp) (hb : Below W.heap.size W W2) : Rf W2 m bb fb room off plan B D ad cp :=
  h.keeps (Keeps.of_below hb) (fun g hg hn => by have := h.lt g hg; omega)
theorem Rf.bcell (h : Rf W m bb fb room off plan B D ad cp) {k : Nat} (hk : k < 64) : W.cell? ⟨bb, k, none⟩ = some (.slice (ad k) (B k).length (cp k)) :=
  (h.bt.cell k).trans (cells64_at _ hk)
theorem Rf.fcell (h : Rf W m bb fb room off plan B D ad cp) {k : Nat} (hk : k < 64) : W.cell? ⟨fb, k, none⟩ = some (.int .i64 (D k : Int)) :=
  (h.ft.cell k).trans (cells64_at _ hk)

/-- A store into one of the disk's own cells. -/
theorem Rf.setHead (h : Rf W m bb fb room off plan B D ad cp) (j : Nat) (u : Value) (off2 : Bool) (plan2 : Int)
    (he : ([.int .i64 (room : Int), .slice (some ⟨bb, 0, none⟩) 64 64, .slice (some ⟨fb, 0, none⟩) 64 64, .bool off, .int .i64 plan] : List Value).set j u = [.int .i64 (room : Int), .slice (some ⟨bb, 0, none⟩) 64 64, .slice (some ⟨fb, 0, none⟩) 64 64, .bool off2, .int .i64 plan2]) :
    Rf (W.setCell ⟨m, j, none⟩ u) m bb fb room off2 plan2 B D ad cp := by
  have hk := keeps_set W m j u
  exact ⟨he ▸ h.dk.set j u, h.bt.keeps hk (fun e => h.ne.1 e.symm), h.ft.keeps hk (fun e => h.ne.2.1 e.symm), fun k hk2 => own_foot2 (h.row k hk2) hk (fun g hg => (h.own k hk2 g hg).1), h.sep, h.own, h.ne⟩
theorem Rf.setPlan (h : Rf W m bb fb room off plan B D ad cp) (p : Int) : Rf (W.setCell ⟨m, 4, none⟩ (.int .i64 p)) m bb fb room off p B D ad cp := h.setHead 4 _ off p rfl
theorem Rf.setOff (h : Rf W m bb fb room off plan B D ad cp) (o : Bool) : Rf (W.setCell ⟨m, 3, none⟩ (.bool o)) m bb fb room o plan B D ad cp := h.setHead 3 _ o plan rfl
theorem Rf.setFirm (h : Rf W m bb fb room off plan B D ad cp) (k x : Nat) : Rf (W.setCell ⟨fb, k, none⟩ (.int .i64 (x : Int))) m bb fb room off plan B (setD D k x) ad cp := by
  have hk := keeps_set W fb k (.int .i64 (x : Int))
  refine ⟨h.dk.keeps hk h.ne.2.1, h.bt.keeps hk h.ne.2.2, ?_, fun j hj => own_foot2 (h.row j hj) hk (fun g hg => (h.own j hj g hg).2.2), h.sep, h.own, h.ne⟩
  have := h.ft.set k (.int .i64 (x : Int))
  rw [cells64_set] at this
  have e : (fun j => if j = k then Value.int .i64 (x : Int) else .int .i64 (D j : Int)) = fun j => .int .i64 (setD D k x j : Int) := by
    funext j; unfold setD; split <;> rfl
  rw [e] at this
  exact this
/-- A store of a slice for a file: its bytes lie nowhere else. -/
theorem Rf.setRow (h : Rf W m bb fb room off plan B D ad cp) {k : Nat} (hk : k < 64) {a : Option Addr} {c : Nat} {ys : List Nat} (hf : Fresh 0 5 .u8 W (.slice a ys.length c) (natI ys))
    (hs : ∀ g, (Value.slice a ys.length c).ownBlock = some g → (∀ j, j < 64 → j ≠ k → (slV ad cp B j).ownBlock ≠ some g) ∧ g ≠ m ∧ g ≠ bb ∧ g ≠ fb) :
    Rf (W.setCell ⟨bb, k, none⟩ (.slice a ys.length c)) m bb fb room off plan (setB B k ys) D (setA ad k a) (setA cp k c) := by
  have hk2 := keeps_set W bb k (.slice a ys.length c)
  have e : ∀ j, slV (setA ad k a) (setA cp k c) (setB B k ys) j = if j = k then .slice a ys.length c else slV ad cp B j := fun j => by
    unfold slV setA setB; by_cases hj : j = k <;> simp only [hj, if_true, if_false]
  refine ⟨h.dk.keeps hk2 h.ne.1, ?_, h.ft.keeps hk2 (fun e => h.ne.2.2 e.symm), fun j hj => ?_, fun i j hi hj hij g hg => ?_, fun j hj g hg => ?_, h.ne⟩
  · have := h.bt.set k (.slice a ys.length c)
    rw [cells64_set] at this
    rw [show slV (setA ad k a) (setA cp k c) (setB B k ys) = _ from funext e]
    exact this
  · rw [e]
    by_cases hjk : j = k
    · subst hjk
      rw [if_pos rfl, show setB B j ys j = ys from if_pos rfl]
      exact own_foot2 hf hk2 (fun g hg => (hs g hg).2.2.1)
    · rw [if_neg hjk, show setB B k ys j = B j from if_neg hjk]
      exact own_foot2 (h.row j hj) hk2 (fun g hg => (h.own j hj g hg).2.1)
  · rw [e] at hg ⊢
    by_cases h1 : i = k
    · rw [if_pos h1] at hg
      rw [if_neg (fun h2 => hij (h1.trans h2.symm))]
      exact (hs g hg).1 j hj (fun h2 => hij (h1.trans h2.symm))
    · rw [if_neg h1] at hg
      by_cases h2 : j = k
      · rw [if_pos h2]
        exact fun hn => (hs g hn).1 i hi h1 hg
      · rw [if_neg h2]; exact h.sep i j hi hj hij g hg
  · rw [e] at hg
    by_cases hjk : j = k
    · rw [if_pos hjk] at hg; exact (hs g hg).2
    · rw [if_neg hjk] at hg; exact h.own j hj g hg
/-- A store into a file's bytes. -/
theorem Rf.setByte (h : Rf W m bb fb room off plan B D ad cp) {k g j c : Nat} (hk : k < 64) (hg : ad k = some ⟨g, 0, none⟩) :
    Rf (W.setCell ⟨g, j, none⟩ (.int .u8 (c : Int))) m bb fb room off plan (setB B k ((B k).set j c)) D ad cp := by
  have hk2 := keeps_set W g j (.int .u8 (c : Int))
  have ho : (slV ad cp B k).ownBlock = some g := by unfold slV; rw [hg]; rfl
  have hw := h.own k hk g ho
  have hl : ∀ i, (setB B k ((B k).set j c) i).length = (B i).length := fun i => by
    unfold setB
    by_cases hi : i = k
    · rw [if_pos hi, List.length_set, hi]
    · rw [if_neg hi]
  have e : ∀ i, slV ad cp (setB B k ((B k).set j c)) i = slV ad cp B i := fun i => by unfold slV; rw [hl]
  have ef : slV ad cp (setB B k ((B k).set j c)) = slV ad cp B := funext e
  refine ⟨h.dk.keeps hk2 (fun e => hw.1 e.symm), by rw [ef]; exact h.bt.keeps hk2 (fun e => hw.2.1 e.symm), h.ft.keeps hk2 (fun e => hw.2.2 e.symm), fun i hi => ?_, by rw [ef]; exact h.sep, by rw [ef]; exact h.own, h.ne⟩
  rw [e]
  by_cases hik : i = k
  · subst hik
    have hr := h.row i hi
    unfold slV at hr ⊢
    rw [hg] at hr ⊢
    have := (fresh_store2 hr (by rw [natI_length]) j (c : Int)).1
    rw [show setB B i ((B i).set j c) i = (B i).set j c from if_pos rfl]
    rw [show natI ((B i).set j c) = (natI (B i)).set j (c : Int) by unfold natI; rw [List.map_set]]
    exact this
  · rw [show setB B k ((B k).set j c) i = B i from if_neg hik]
    exact own_foot2 (h.row i hi) hk2 (fun g2 hg2 e2 => h.sep k i hk hi (fun e => hik e.symm) g ho (e2 ▸ hg2))
end

/-- The reference's disk in a state. -/
def RfS (W : World) (A : Foot) (m room : Nat) (s : St) : Prop := ∃ bb fb ad cp, Rf W m bb fb room (!s.on) (planS s) s.B s.D ad cp ∧ ∀ g, rfFoot m bb fb ad g → A g
def UpR (w : World) (A : Foot) (m room : Nat) (s : St) (w' : World) : Prop := ∃ A2, Round A A2 w w' ∧ RfS w' A2 m room s
def ResR (w : World) (A : Foot) (m room : Nat) (r : Int × St) (e : Ending) (w' : World) : Prop := e = .returned (.int .i64 r.1) ∧ UpR w A m room r.2 w'
def TupR (w : World) (A : Foot) (m room : Nat) (s : St) (e : Ending) (w' : World) : Prop := e = .returned (.tuple #[]) ∧ UpR w A m room s w'
theorem rfs_keeps {A C : Foot} {W W2 : World} {m room : Nat} {s : St} (h : RfS W A m room s) (hk : Keeps C W W2) (hn : ∀ k, A k → ¬ C k) : RfS W2 A m room s := by
  obtain ⟨bb, fb, ad, cp, h1, h2⟩ := h
  exact ⟨bb, fb, ad, cp, h1.keeps hk (fun g hg => hn g (h2 g hg)), h2⟩
theorem rfs_below {A : Foot} {W W2 : World} {m room : Nat} {s : St} (h : RfS W A m room s) (hb : Below W.heap.size W W2) : RfS W2 A m room s := by
  obtain ⟨bb, fb, ad, cp, h1, h2⟩ := h
  exact ⟨bb, fb, ad, cp, h1.below hb, h2⟩
theorem rfs_tight {A : Foot} {W : World} {m room : Nat} {s : St} (h : RfS W A m room s) : RfS W (fun k => A k ∧ k < W.heap.size) m room s := by
  obtain ⟨bb, fb, ad, cp, h1, h2⟩ := h
  exact ⟨bb, fb, ad, cp, h1, fun g hg => ⟨h2 g hg, h1.lt g hg⟩⟩
theorem upr_of {w w' : World} {A : Foot} {m bb fb bb2 fb2 room : Nat} {s : St} {ad ad2 : Nat → Option Addr} {cp2 : Nat → Nat} (hA : ∀ g, rfFoot m bb fb ad g → A g) (hk : Keeps (rfFoot m bb fb ad) w w') (h : Rf w' m bb2 fb2 room (!s.on) (planS s) s.B s.D ad2 cp2)
    (hf : ∀ g, rfFoot m bb2 fb2 ad2 g → rfFoot m bb fb ad g ∨ w.heap.size ≤ g) : UpR w A m room s w' :=
  ⟨fun g => A g ∨ rfFoot m bb2 fb2 ad2 g, ⟨hk.mono (fun g _ h => hA g h), fun g hg => hg.elim .inl (fun h => (hf g h).imp (hA g) id)⟩, ⟨bb2, fb2, ad2, cp2, h, fun g hg => .inr hg⟩⟩

/-- The same with its blocks from n on. -/
structure Rsk (n : Nat) (W : World) (A : Foot) (m room : Nat) (s : St) : Prop where
  dk : RfS W A m room s
  lo : ∀ k, A k → n ≤ k
  hi : ∀ k, A k → k < W.heap.size
theorem Rsk.below {n : Nat} {W W2 : World} {A : Foot} {m room : Nat} {s : St} (h : Rsk n W A m room s) (hb : Below W.heap.size W W2) : Rsk n W2 A m room s :=
  ⟨rfs_below h.dk hb, h.lo, fun k hk => Nat.lt_of_lt_of_le (h.hi k hk) hb.size⟩
theorem Rsk.other {n : Nat} {W W2 : World} {A C : Foot} {m room : Nat} {s : St} (h : Rsk n W A m room s) (hk : Keeps C W W2) (hn : ∀ k, A k → ¬ C k) : Rsk n W2 A m room s :=
  ⟨rfs_keeps h.dk hk hn, h.lo, fun k hk2 => Nat.lt_of_lt_of_le (h.hi k hk2) hk.size⟩
theorem Rsk.made {n : Nat} {W W2 : World} {A : Foot} {m room : Nat} {s : St} (h : RfS W2 A m room s) (hA : ∀ k, A k → W.heap.size ≤ k) (hn : n ≤ W.heap.size) : Rsk n W2 (fun k => A k ∧ k < W2.heap.size) m room s :=
  ⟨rfs_tight h, fun k hk => Nat.le_trans hn (hA k hk.1), fun k hk => hk.2⟩
theorem Rsk.up {n : Nat} {W W2 : World} {A : Foot} {m room : Nat} {s s2 : St} (h : Rsk n W A m room s) (hu : UpR W A m room s2 W2) (hn : n ≤ W.heap.size) :
    ∃ A2 : Foot, Rsk n W2 A2 m room s2 ∧ Keeps A W W2 ∧ (∀ k, A2 k → A k ∨ W.heap.size ≤ k) ∧ Below n W W2 := by
  obtain ⟨A2, hr, hd⟩ := hu
  refine ⟨fun k => A2 k ∧ k < W2.heap.size, ⟨rfs_tight hd, fun k hk => ?_, fun k hk => hk.2⟩, hr.keeps, fun k hk => hr.foot k hk.1, hr.keeps.below hn h.lo⟩
  rcases hr.foot k hk.1 with h1 | h1
  · exact h.lo k h1
  · omega
end Go.Proofs.Ytadnbakniibmfaa
