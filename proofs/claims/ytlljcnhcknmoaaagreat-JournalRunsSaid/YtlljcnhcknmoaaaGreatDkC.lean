/-
  Package disk: Rot. A disk's state as numbers alone; what each operation makes of it. Contracts of the operations in these words. The operations of a disk, by states. A disk with its blocks; the example of the laws on disks.
-/
import Derived.Test.YtlljcnhcknmoaaaGreatDkB
namespace Go.Proofs.YtlljcnhcknmoaaaGreat
open Go.RowKit Go.Shelf
set_option linter.unusedVariables false
set_option maxRecDepth 100000

theorem key_int2 {k : Nat} (hk : k ≤ 1000) : keyOf Tryz.prog 3 (.int .i64 (k : Int)) = some (.int .i64 (k : Int)) :=
  Maps.keyOf_int_mk (q := .i64) Tryz.underlying3 (by
    have h1 : (IntKind.i64).min = -9223372036854775808 := by decide
    have h2 : (IntKind.i64).max = 9223372036854775807 := by decide
    simp only [Lit.wf, h1, h2, Bool.and_eq_true, decide_eq_true_eq]
    omega)
theorem lookup_run2 {W : World} {b n : Nat} {es : List Fl} (h : W.ownsMap Tryz.prog 3 rdC b n (dm (mdOf es))) {k : Nat} (hk : k ≤ 1000) :
    (Instr.lookup 60 (.map (some b)) (.int .i64 (k : Int)) false).run Tryz.prog W = .ok (contOf k es) W := by
  obtain ⟨v, ps, hrun, hv⟩ := World.ownsMap.lookup h law_int Tryz.underlying60 (zero_cont W) (zd := .held (cont (.slice none 0 0) 0)) (zp := []) rfl (key_int2 hk)
  rw [hrun]
  rw [dm_at, look_find] at hv
  have hv2 : v = contOf k es := by
    have h2 : (some (DataW.held v, ([] : List MemPlace)) : Option (DataW Value × List MemPlace)) = _ := hv
    injection h2 with h2
    injection h2 with h2 _
    unfold contOf
    cases hf : findF k es with
    | none => rw [hf] at h2; injection h2
    | some f => rw [hf] at h2; injection h2
  rw [hv2]

def RotEnd (d b room : Nat) (on : Bool) (left : Int) (es : List Fl) (k : Nat) (bit : Int) (w : World) (e : Ending) (w' : World) : Prop :=
  (¬ (0 ≤ bit ∧ bit.toNat / 8 < (bytesOf k es).length) → e = .returned (.int .i64 1) ∧ Dk w' d b room on left es) ∧
  (0 ≤ bit ∧ bit.toNat / 8 < (bytesOf k es).length → e = .returned (.int .i64 0) ∧ Dk w' d b room on left (turnF k bit.toNat es) ∧ ∀ j, dkFoot d b (turnF k bit.toNat es) j → dkFoot d b es j) ∧ Keeps (dkFoot d b es) w w'

theorem sorted_ext : ∀ {l1 l2 : List Nat}, l1.Pairwise (· < ·) → l2.Pairwise (· < ·) → (∀ x, x ∈ l1 ↔ x ∈ l2) → l1 = l2
  | [], [], _, _, _ => rfl
  | [], b :: u, _, _, h => by have := (h b).2 (by simp); simp at this
  | a :: t, [], _, _, h => by have := (h a).1 (by simp); simp at this
  | a :: t, b :: u, h1, h2, h => by
    obtain ⟨h3, h4⟩ := List.pairwise_cons.1 h1
    obtain ⟨h5, h6⟩ := List.pairwise_cons.1 h2
    have hab : a = b := by
      rcases List.mem_cons.1 ((h a).1 (by simp)) with e | e
      · exact e
      · rcases List.mem_cons.1 ((h b).2 (by simp)) with e2 | e2
        · exact e2.symm
        · have := h3 b e2; have := h5 a e; omega
    subst hab
    rw [sorted_ext h4 h6 (fun x => ?_)]
    constructor
    · intro hx
      rcases List.mem_cons.1 ((h x).1 (List.mem_cons_of_mem _ hx)) with e | e
      · have := h3 x hx; omega
      · exact e
    · intro hx
      rcases List.mem_cons.1 ((h x).2 (List.mem_cons_of_mem _ hx)) with e | e
      · have := h5 x hx; omega
      · exact e

def filesB (B : Nat → List Nat) : List Nat := (List.range 64).filter fun k => !(B k).isEmpty
theorem keys_filter {es : List Fl} (hs : es.Pairwise (fun f g => f.key < g.key)) (hok : ∀ f ∈ es, f.key < 64 ∧ f.bs ≠ []) : es.map Fl.key = filesB (fun k => bytesOf k es) := by
  refine sorted_ext (by rw [List.pairwise_map]; exact hs) (List.Pairwise.filter _ List.pairwise_lt_range) (fun x => ?_)
  unfold filesB
  rw [List.mem_filter, List.mem_range]
  constructor
  · intro hx
    obtain ⟨f, hf, rfl⟩ := List.mem_map.1 hx
    refine ⟨(hok f hf).1, ?_⟩
    have : bytesOf f.key es = f.bs := by unfold bytesOf; rw [key_find hs hf]
    show (!(bytesOf f.key es).isEmpty) = true
    rw [this]
    simpa using (hok f hf).2
  · rintro ⟨_, hx⟩
    by_cases hm : x ∈ es.map Fl.key
    · exact hm
    · have hx2 : (!(bytesOf x es).isEmpty) = true := hx
      rw [(key_none hm).1] at hx2
      simp at hx2
def looseS (B : Nat → List Nat) (D : Nat → Nat) : Nat := ((List.range 64).map fun k => (B k).length - D k).sum
theorem dur_cons (j : Nat) (f : Fl) (t : List Fl) : durF j (f :: t) = if j = f.key then f.dur else durF j t := by
  unfold durF findF
  by_cases h : j = f.key
  · rw [List.find?_cons_of_pos (by simp [h]), if_pos h]
  · rw [List.find?_cons_of_neg (by simp; omega), if_neg h]
theorem loose_sum : ∀ {es : List Fl}, es.Pairwise (fun f g => f.key < g.key) → (∀ f ∈ es, f.key < 64) → looseF es = looseS (fun k => bytesOf k es) (fun k => durF k es)
  | [], _, _ => by
    have : ∀ n, ((List.range n).map fun k => (bytesOf k []).length - durF k []).sum = 0 := fun n => by
      induction n with
      | zero => rfl
      | succ n ih => rw [List.range_succ, List.map_append, List.sum_append, ih]; rfl
    exact (this 64).symm
  | f :: t, h, hk => by
    obtain ⟨h1, h2⟩ := List.pairwise_cons.1 h
    have ih := loose_sum h2 (fun g hg => hk g (by simp [hg]))
    have h0 : (bytesOf f.key t).length - durF f.key t = 0 := by rw [bytes_none (fun g hg => by have := h1 g hg; omega)]; simp
    have hs := sum_put (fun k => (bytesOf k t).length - durF k t) f.key (f.bs.length - f.dur) h0 64
    rw [if_pos (hk f (by simp))] at hs
    unfold looseS at *
    have e : (fun k => (bytesOf k (f :: t)).length - durF k (f :: t)) = fun j => if j = f.key then f.bs.length - f.dur else (bytesOf j t).length - durF j t := by
      funext j
      rw [bytes_cons, dur_cons]
      split <;> rfl
    show looseF (f :: t) = ((List.range 64).map fun k => (bytesOf k (f :: t)).length - durF k (f :: t)).sum
    rw [e, hs, ← ih]
    rfl
/-- The loose bit with a number, of the files ks. -/
def flipK (B : Nat → List Nat) (D : Nat → Nat) : List Nat → Nat → Option (Nat × Nat)
  | [], _ => none
  | k :: t, bit => if bit < 8 * ((B k).length - D k) then some (k, 8 * D k + bit) else flipK B D t (bit - 8 * ((B k).length - D k))
theorem flip_keys {B : Nat → List Nat} {D : Nat → Nat} : ∀ {ks : List Nat} {es : List Fl}, ks.Pairwise (· < ·) → es.Pairwise (fun f g => f.key < g.key) → (∀ f ∈ es, f.key ∈ ks ∧ B f.key = f.bs ∧ D f.key = f.dur) → (∀ k ∈ ks, k ∉ es.map Fl.key → B k = []) → ∀ bit, flipAt es bit = flipK B D ks bit
  | [], [], _, _, _, _, _ => rfl
  | [], f :: t, _, _, h, _, _ => by have := (h f (by simp)).1; simp at this
  | k :: u, [], h1, h2, h3, h4, bit => by
    have hb := h4 k (by simp) (by simp)
    show flipAt [] bit = if bit < 8 * ((B k).length - D k) then _ else _
    rw [if_neg (by rw [hb]; simp)]
    have e : bit - 8 * ((B k).length - D k) = bit := by rw [hb]; simp
    rw [e]
    exact flip_keys (List.pairwise_cons.1 h1).2 h2 (fun f hf => by simp at hf) (fun k hk _ => h4 k (by simp [hk]) (by simp)) bit
  | k :: u, f :: t, h1, h2, h3, h4, bit => by
    obtain ⟨g1, g2⟩ := List.pairwise_cons.1 h1
    obtain ⟨g3, g4⟩ := List.pairwise_cons.1 h2
    by_cases hk : k = f.key
    · obtain ⟨_, hb, hd⟩ := h3 f (by simp)
      show (if bit < 8 * (f.bs.length - f.dur) then some (f.key, 8 * f.dur + bit) else flipAt t (bit - 8 * (f.bs.length - f.dur))) = if bit < 8 * ((B k).length - D k) then some (k, 8 * D k + bit) else flipK B D u (bit - 8 * ((B k).length - D k))
      rw [hk, hb, hd]
      split
      · rfl
      · refine flip_keys g2 g4 (fun f' hf' => ⟨?_, (h3 f' (by simp [hf'])).2⟩) (fun k' hk' hn => h4 k' (by simp [hk']) ?_) _
        · rcases List.mem_cons.1 (h3 f' (by simp [hf'])).1 with e | e
          · have := g3 f' hf'; omega
          · exact e
        · rw [List.map_cons, List.mem_cons]
          rintro (e | e)
          · have := g1 k' hk'; omega
          · exact hn e
    · have hkm : k ∉ (f :: t).map Fl.key := by
        rw [List.map_cons, List.mem_cons]
        rintro (e | e)
        · exact hk e
        · obtain ⟨f', hf', e'⟩ := List.mem_map.1 e
          rcases List.mem_cons.1 (h3 f (by simp)).1 with e2 | e2
          · exact hk e2.symm
          · have := g1 _ e2; have := g3 f' hf'; omega
      have hb := h4 k (by simp) hkm
      show _ = if bit < 8 * ((B k).length - D k) then _ else _
      rw [if_neg (by rw [hb]; simp)]
      have e : bit - 8 * ((B k).length - D k) = bit := by rw [hb]; simp
      rw [e]
      refine flip_keys g2 h2 (fun f' hf' => ⟨?_, (h3 f' hf').2⟩) (fun k' hk' hn => h4 k' (by simp [hk']) hn) bit
      rcases List.mem_cons.1 (h3 f' hf').1 with e3 | e3
      · exact absurd (show k ∈ (f :: t).map Fl.key from by rw [← e3]; exact List.mem_map_of_mem hf') hkm
      · exact e3
theorem flip_at {es : List Fl} (hs : es.Pairwise (fun f g => f.key < g.key)) (hk : ∀ f ∈ es, f.key < 64) (bit : Nat) : flipAt es bit = flipK (fun k => bytesOf k es) (fun k => durF k es) (List.range 64) bit :=
  flip_keys List.pairwise_lt_range hs (fun f hf => ⟨List.mem_range.2 (hk f hf), by show bytesOf f.key es = _; unfold bytesOf; rw [key_find hs hf], by show durF f.key es = _; unfold durF; rw [key_find hs hf]⟩) (fun k _ hn => (key_none hn).1) bit

/-! ### States -/
structure St where
  on : Bool
  left : Int
  B : Nat → List Nat
  D : Nat → Nat
def isF (file : Int) : Bool := decide (0 ≤ file ∧ file < 64)
def pNew : St := ⟨true, -1, fun _ => [], fun _ => 0⟩
def pStep (s : St) : Int × St := if stepOn s.on s.left = true then (0, { s with left := max (s.left - 1) (-1) }) else (23, { s with on := false })
def setB (B : Nat → List Nat) (k : Nat) (x : List Nat) : Nat → List Nat := fun j => if j = k then x else B j
def setD (D : Nat → Nat) (k x : Nat) : Nat → Nat := fun j => if j = k then x else D j
def pApp (room : Nat) (s : St) (file : Int) (zs : List Nat) : Int × St :=
  if isF file = false then (1, s) else if s.on = false then (23, s) else if ¬ sumB s.B + zs.length ≤ room then (22, s) else pStep { s with B := setB s.B file.toNat (s.B file.toNat ++ zs) }
def pTrunc (s : St) (file size : Int) : Int × St :=
  if ¬ (isF file = true ∧ 0 ≤ size ∧ size ≤ ((s.B file.toNat).length : Int)) then (1, s) else
    if stepOn s.on s.left = true then (0, ⟨s.on, max (s.left - 1) (-1), setB s.B file.toNat ((s.B file.toNat).take size.toNat), setD s.D file.toNat (min (s.D file.toNat) size.toNat)⟩) else (23, { s with on := false })
def pSync (s : St) : Int × St :=
  if stepOn s.on s.left = true then (0, ⟨s.on, max (s.left - 1) (-1), s.B, fun k => (s.B k).length⟩) else (23, { s with on := false })
def pArm (s : St) (n : Int) : St := { s with left := armL s.on s.left n }
def pRead (s : St) (file : Int) : Int × List Nat := if isF file = false then (1, []) else if s.on = false then (23, []) else (0, s.B file.toNat)
def turnB (B : Nat → List Nat) (k p : Nat) : Nat → List Nat := setB B k ((B k).set (p / 8) (flipN (((B k)[p / 8]?).getD 0) p))
def keepB (B : Nat → List Nat) (D : Nat → Nat) (keep : List Int) : Nat → List Nat := fun k => (B k).take (D k + lostN (keepAt keep ((filesB B).idxOf k)) ((B k).length - D k))
def flipB (B : Nat → List Nat) (D : Nat → Nat) (flip : Int) : Nat → List Nat :=
  if 0 ≤ flip ∧ 0 < looseS B D then match flipK B D (List.range 64) (flip.toNat % (8 * looseS B D)) with
    | some (k, p) => turnB B k p
    | none => B
  else B
def pCrash (s : St) (keep : List Int) (flip : Int) : St :=
  ⟨true, -1, flipB (keepB s.B s.D keep) s.D flip, fun k => (flipB (keepB s.B s.D keep) s.D flip k).length⟩
def pRot (s : St) (k : Nat) (bit : Int) : Int × St :=
  if 0 ≤ bit ∧ bit.toNat / 8 < (s.B k).length then (0, { s with B := turnB s.B k bit.toNat }) else (1, s)

/-- A disk in a state. -/
def DkS (W : World) (A : Foot) (d room : Nat) (s : St) : Prop := DkM W A d room s.on s.left s.B s.D
/-- A disk in a state behind a step of its owner. -/
def UpS (w : World) (A : Foot) (d room : Nat) (s : St) (w' : World) : Prop := ∃ A2, Round A A2 w w' ∧ DkS w' A2 d room s

theorem dks_of {W : World} {d b room : Nat} {s : St} {es : List Fl} {A : Foot} (h : Dk W d b room s.on s.left es) (hb : ∀ k, bytesOf k es = s.B k) (hd : ∀ k, durF k es = s.D k) (hf : ∀ k, dkFoot d b es k → A k) : DkS W A d room s := ⟨b, es, h, hb, hd, hf⟩
/-- From a footprint of an operation to the owner's. -/
theorem up_of {w w' : World} {A : Foot} {d b b2 room : Nat} {s : St} {es es2 : List Fl} (hA : ∀ k, dkFoot d b es k → A k) (hk : Keeps (dkFoot d b es) w w') (h : Dk w' d b2 room s.on s.left es2) (hb : ∀ k, bytesOf k es2 = s.B k) (hd : ∀ k, durF k es2 = s.D k)
    (hf : ∀ k, dkFoot d b2 es2 k → dkFoot d b es k ∨ w.heap.size ≤ k) : UpS w A d room s w' :=
  ⟨fun k => A k ∨ dkFoot d b2 es2 k, ⟨hk.mono (fun k _ h => hA k h), fun k hk => hk.elim .inl (fun h => (hf k h).imp (hA k) id)⟩, dks_of h hb hd (fun k hk => .inr hk)⟩

theorem isF_true {file : Int} (h : 0 ≤ file ∧ file < 64) : isF file = true := decide_eq_true h
theorem isF_false {file : Int} (h : ¬ (0 ≤ file ∧ file < 64)) : isF file = false := decide_eq_false h
theorem dks_used {W : World} {d b room : Nat} {on : Bool} {left : Int} {es : List Fl} {B : Nat → List Nat} (h : Dk W d b room on left es) (hB : ∀ k, bytesOf k es = B k) : usedF es = sumB B := by
  rw [used_sum h.sorted (fun f hf => (h.ok f hf).key), show (fun k => bytesOf k es) = B from funext hB]

def NewS (room : Int) (w : World) (e : Ending) (w' : World) : Prop :=
  ∃ d A, e = .returned (.tuple #[.pointer (some ⟨d, 0, none⟩), .int .i64 0]) ∧ DkS w' A d room.toNat pNew ∧ (∀ k, A k → w.heap.size ≤ k) ∧ Below w.heap.size w w'
theorem newS_any (room : Int) (w : World) (h : 0 ≤ room ∧ room ≤ 16777216) : Calls Tryz.prog 22 #[.int .i64 room] w (NewS room w) := by
  refine (new_any room w).mono ?_
  rintro e w' ⟨_, h2⟩
  obtain ⟨d, b, he, hd, hd1, hb1, hb⟩ := h2 h
  refine ⟨d, dkFoot d b [], he, dks_of hd (fun k => rfl) (fun k => rfl) (fun _ h => h), fun k hk => ?_, hb⟩
  rcases hk with h | h | ⟨f, hf, _⟩
  · omega
  · omega
  · simp at hf

def ResS (w : World) (A : Foot) (d room : Nat) (r : Int × St) (e : Ending) (w' : World) : Prop := e = .returned (.int .i64 r.1) ∧ UpS w A d room r.2 w'

theorem appS_any {w : World} {A : Foot} {d room : Nat} {s : St} (h : DkS w A d room s) (file : Int) (a : Option Addr) (cap : Nat) (zs : List Nat) (hz : Row .u8 w (.slice a zs.length cap) (natI zs)) (h8 : ∀ c ∈ zs, c < 256) (hlz : zs.length ≤ 16777216) :
    Calls Tryz.prog 36 #[.pointer (some ⟨d, 0, none⟩), .int .i64 file, .slice a zs.length cap] w (ResS w A d room (pApp room s file zs)) := by
  obtain ⟨b, es, hd, hB, hD, hA⟩ := h
  refine (append_any d b room s.on s.left es file a cap zs w hd hz h8 hlz).mono ?_
  rintro e w' ⟨h1, h2, h3, h4, h5⟩
  have hS := dks_used hd hB
  unfold pApp ResS
  by_cases hf : 0 ≤ file ∧ file < 64
  · rw [isF_true hf, if_neg (by decide)]
    by_cases hon : s.on = false
    · rw [if_pos hon]
      obtain ⟨he, hd'⟩ := h2 hf hon
      exact ⟨he, up_of hA h5 hd' hB hD (fun k hk => .inl hk)⟩
    · have hon2 : s.on = true := by cases hs : s.on; exact absurd hs hon; rfl
      rw [if_neg hon]
      by_cases hfit : usedF es + zs.length ≤ room
      · rw [if_neg (by rw [← hS]; exact fun h => h hfit)]
        obtain ⟨v, W, hst, hv⟩ := h4 hf hon2 hfit
        have hB' : ∀ k, bytesOf k (afterF ⟨file.toNat, v, bytesOf file.toNat es ++ zs, durF file.toNat es⟩ es) = setB s.B file.toNat (s.B file.toNat ++ zs) k := fun k => by
          rw [bytes_after]
          unfold setB
          rw [← hB, ← hB k]
        have hD' : ∀ k, durF k (afterF ⟨file.toNat, v, bytesOf file.toNat es ++ zs, durF file.toNat es⟩ es) = s.D k := fun k => by
          rw [dur_after (by show durF _ _ ≤ (bytesOf _ _ ++ zs).length; have := dur_le hd file.toNat; rw [List.length_append]; omega)]
          by_cases hk : k = file.toNat
          · rw [if_pos hk, hk]; exact hD _
          · rw [if_neg hk]; exact hD k
        have hF : ∀ k, dkFoot d b (afterF ⟨file.toNat, v, bytesOf file.toNat es ++ zs, durF file.toNat es⟩ es) k → dkFoot d b es k ∨ w.heap.size ≤ k := fun k hk => by
          rcases foot_after hk with h | h
          · exact .inl h
          · exact hv k h
        unfold pStep
        by_cases hso : stepOn s.on s.left = true
        · rw [if_pos hso]
          rw [hon2] at hso
          obtain ⟨he, hd'⟩ := hst.2.1 hso
          exact ⟨he, up_of (s := ⟨s.on, _, _, _⟩) hA h5 (by rw [hon2]; exact hd') hB' hD' hF⟩
        · rw [if_neg hso]
          have hso2 : stepOn true s.left = false := by rw [hon2] at hso; cases hq : stepOn true s.left; rfl; exact absurd hq hso
          obtain ⟨he, hd'⟩ := hst.1 hso2
          exact ⟨he, up_of (s := ⟨false, _, _, _⟩) hA h5 hd' hB' hD' hF⟩
      · rw [if_pos (by rw [← hS]; exact hfit)]
        obtain ⟨he, hd'⟩ := h3 hf hon2 hfit
        exact ⟨he, up_of hA h5 hd' hB hD (fun k hk => .inl hk)⟩
  · rw [isF_false hf, if_pos rfl]
    obtain ⟨he, hd'⟩ := h1 hf
    exact ⟨he, up_of hA h5 hd' hB hD (fun k hk => .inl hk)⟩

theorem truncS_any {w : World} {A : Foot} {d room : Nat} {s : St} (h : DkS w A d room s) (file size : Int) :
    Calls Tryz.prog 24 #[.pointer (some ⟨d, 0, none⟩), .int .i64 file, .int .i64 size] w (ResS w A d room (pTrunc s file size)) := by
  obtain ⟨b, es, hd, hB, hD, hA⟩ := h
  refine (truncate_any d b room s.on s.left es file size w hd).mono ?_
  rintro e w' ⟨h1, h2, h3, h4⟩
  unfold pTrunc ResS
  by_cases hf : (0 ≤ file ∧ file < 64) ∧ 0 ≤ size ∧ size ≤ ((bytesOf file.toNat es).length : Int)
  · rw [if_neg (fun hn => hn ⟨isF_true hf.1, by rw [← hB]; exact hf.2⟩)]
    by_cases hso : stepOn s.on s.left = true
    · rw [if_pos hso]
      obtain ⟨he, v, hd', hv⟩ := h3 hf hso
      refine ⟨he, up_of (s := ⟨s.on, _, _, _⟩) hA h4 hd' (fun k => ?_) (fun k => ?_) (fun k hk => ?_)⟩
      · rw [bytes_after]
        show _ = setB s.B _ _ k
        unfold setB
        rw [← hB, ← hB k]
      · rw [dur_after (by show min _ _ ≤ (List.take _ _).length; have := dur_le hd file.toNat; rw [List.length_take]; omega)]
        show _ = setD s.D _ _ k
        unfold setD
        rw [← hD, ← hD k]
      · rcases foot_after hk with h | h
        · exact .inl h
        · exact .inl (hv k h)
    · rw [if_neg hso]
      have hso2 : stepOn s.on s.left = false := by cases hq : stepOn s.on s.left; rfl; exact absurd hq hso
      obtain ⟨he, hd'⟩ := h2 hf hso2
      exact ⟨he, up_of (s := ⟨false, _, _, _⟩) hA h4 hd' hB hD (fun k hk => .inl hk)⟩
  · rw [if_pos (fun hn => hf ⟨of_decide_eq_true hn.1, by rw [hB]; exact hn.2⟩)]
    obtain ⟨he, hd'⟩ := h1 hf
    exact ⟨he, up_of hA h4 hd' hB hD (fun k hk => .inl hk)⟩

theorem syncS_any {w : World} {A : Foot} {d room : Nat} {s : St} (h : DkS w A d room s) :
    Calls Tryz.prog 25 #[.pointer (some ⟨d, 0, none⟩)] w (ResS w A d room (pSync s)) := by
  obtain ⟨b, es, hd, hB, hD, hA⟩ := h
  refine (sync_any d b room s.on s.left es w hd).mono ?_
  rintro e w' ⟨h1, h2, h3⟩
  unfold pSync ResS
  by_cases hso : stepOn s.on s.left = true
  · rw [if_pos hso]
    obtain ⟨he, es2, hd', hb2, hd2, hf2⟩ := h2 hso
    exact ⟨he, up_of (s := ⟨s.on, _, _, _⟩) hA h3 hd' (fun k => by rw [hb2, hB]) (fun k => by rw [hd2, hB]) (fun k hk => .inl (hf2 k hk))⟩
  · rw [if_neg hso]
    have hso2 : stepOn s.on s.left = false := by cases hq : stepOn s.on s.left; rfl; exact absurd hq hso
    obtain ⟨he, hd'⟩ := h1 hso2
    exact ⟨he, up_of (s := ⟨false, _, _, _⟩) hA h3 hd' hB hD (fun k hk => .inl hk)⟩

def TupS (w : World) (A : Foot) (d room : Nat) (s : St) (e : Ending) (w' : World) : Prop := e = .returned (.tuple #[]) ∧ UpS w A d room s w'
theorem armS_any {w : World} {A : Foot} {d room : Nat} {s : St} (h : DkS w A d room s) (n : Int) (hn : -9223372036854775808 ≤ n ∧ n ≤ 9223372036854775807) :
    Calls Tryz.prog 9 #[.pointer (some ⟨d, 0, none⟩), .int .i64 n] w (TupS w A d room (pArm s n)) := by
  obtain ⟨b, es, hd, hB, hD, hA⟩ := h
  refine (arm_any d b room s.on s.left n es w hd hn).mono ?_
  rintro e w' ⟨he, hd', hk⟩
  exact ⟨he, up_of (s := pArm s n) hA (hk.mono (fun k _ h => .inl h)) hd' hB hD (fun k hk => .inl hk)⟩
def UsedS (s : St) (w : World) (e : Ending) (w' : World) : Prop := e = .returned (.int .i64 (sumB s.B : Int)) ∧ Below w.heap.size w w'
theorem usedS_any {w : World} {A : Foot} {d room : Nat} {s : St} (h : DkS w A d room s) :
    Calls Tryz.prog 54 #[.pointer (some ⟨d, 0, none⟩)] w (UsedS s w) := by
  obtain ⟨b, es, hd, hB, hD, hA⟩ := h
  refine (used_any d b room s.on s.left es w hd).mono ?_
  rintro e w' ⟨he, hb⟩
  rw [dks_used hd hB] at he
  exact ⟨he, hb⟩
def FilesS (s : St) (w : World) (e : Ending) (w' : World) : Prop := ∃ v : Value, e = .returned v ∧ Fresh w.heap.size 3 .i64 w' v (natI (filesB s.B)) ∧ Below w.heap.size w w'
theorem dk_keys {W : World} {d b room : Nat} {on : Bool} {left : Int} {es : List Fl} {B : Nat → List Nat} (h : Dk W d b room on left es) (hB : ∀ k, bytesOf k es = B k) : es.map Fl.key = filesB B := by
  rw [keys_filter h.sorted (fun f hf => ⟨(h.ok f hf).key, (h.ok f hf).ne⟩), show (fun k => bytesOf k es) = B from funext hB]
theorem filesS_any {w : World} {A : Foot} {d room : Nat} {s : St} (h : DkS w A d room s) :
    Calls Tryz.prog 29 #[.pointer (some ⟨d, 0, none⟩)] w (FilesS s w) := by
  obtain ⟨b, es, hd, hB, hD, hA⟩ := h
  refine (files_any d b room s.on s.left es w hd).mono ?_
  rintro e w' ⟨v, he, hv, hb⟩
  refine ⟨v, he, ?_, hb⟩
  rw [← dk_keys hd hB]
  have : natI (es.map Fl.key) = keysF es := by unfold natI keysF; rw [List.map_map]; rfl
  rw [this]
  exact hv
def ReadS (r : Int × List Nat) (w : World) (e : Ending) (w' : World) : Prop := ∃ v : Value, e = .returned (.tuple #[v, .int .i64 r.1]) ∧ Fresh w.heap.size 5 .u8 w' v (natI r.2) ∧ Below w.heap.size w w'
theorem readS_any {w : World} {A : Foot} {d room : Nat} {s : St} (h : DkS w A d room s) (file : Int) :
    Calls Tryz.prog 19 #[.pointer (some ⟨d, 0, none⟩), .int .i64 file] w (ReadS (pRead s file) w) := by
  obtain ⟨b, es, hd, hB, hD, hA⟩ := h
  refine (read_any d b room s.on s.left es file w hd).mono ?_
  rintro e w' ⟨h1, h2, h3, hb⟩
  unfold pRead
  by_cases hf : 0 ≤ file ∧ file < 64
  · rw [isF_true hf, if_neg (by decide)]
    by_cases hon : s.on = false
    · rw [if_pos hon]
      exact ⟨_, h2 hf hon, fresh_nil _ _ _ _, hb⟩
    · rw [if_neg hon]
      have hon2 : s.on = true := by cases hs : s.on; exact absurd hs hon; rfl
      obtain ⟨v, he, hv⟩ := h3 hf hon2
      rw [hB] at hv
      exact ⟨v, he, hv, hb⟩
  · rw [isF_false hf, if_pos rfl]
    exact ⟨_, h1 hf, fresh_nil _ _ _ _, hb⟩

theorem bytes_flip {es : List Fl} {B : Nat → List Nat} {D : Nat → Nat} (hs : es.Pairwise (fun f g => f.key < g.key)) (hk : ∀ f ∈ es, f.key < 64) (hB : ∀ k, bytesOf k es = B k) (hD : ∀ k, durF k es = D k) (flip : Int) (k : Nat) :
    bytesOf k (if 0 ≤ flip ∧ 0 < looseF es then flipF es (flip.toNat % (8 * looseF es)) else es) = flipB B D flip k := by
  have e1 : (fun k => bytesOf k es) = B := funext hB
  have e2 : (fun k => durF k es) = D := funext hD
  have hl : looseF es = looseS B D := by rw [loose_sum hs hk, e1, e2]
  unfold flipB
  rw [hl]
  by_cases hc : 0 ≤ flip ∧ 0 < looseS B D
  · rw [if_pos hc, if_pos hc]
    unfold flipF
    rw [flip_at hs hk, e1, e2]
    cases hq : flipK B D (List.range 64) (flip.toNat % (8 * looseS B D)) with
    | none => exact hB k
    | some x =>
      obtain ⟨j, p⟩ := x
      show bytesOf k (turnF j p es) = turnB B j p k
      unfold turnF turnB setB
      rw [bytes_set, hB j, hB k]
  · rw [if_neg hc, if_neg hc]
    exact hB k

theorem crashS_any {w : World} {A : Foot} {d room : Nat} {s : St} (h : DkS w A d room s) (v : Value) (keep : List Int) (flip : Int) (hv : Row .i64 w v keep) (hvb : ∀ j, blockOf v j → ¬ A j)
    (hkr : ∀ x ∈ keep, -9223372036854775808 ≤ x ∧ x ≤ 9223372036854775807) (hfl : -9223372036854775808 ≤ flip ∧ flip ≤ 9223372036854775807) (hkl : keep.length ≤ 1000000) :
    Calls Tryz.prog 11 #[.pointer (some ⟨d, 0, none⟩), v, .int .i64 flip] w (TupS w A d room (pCrash s keep flip)) := by
  obtain ⟨b, es, hd, hB, hD, hA⟩ := h
  refine (crash_any d b room s.on s.left es v keep flip w hd hv (fun j hj hf => hvb j hj (hA j hf)) hkr hfl hkl).mono ?_
  rintro e w' ⟨he, es1, es2, h1, h2, h3, h4, h5, h6, h7, h8, h9⟩
  have hb1 : ∀ k, bytesOf k es1 = keepB s.B s.D keep k := fun k => by
    rw [h1]
    unfold lostB keepB rankF
    rw [dk_keys hd hB, hB, hD]
  have hb2 : ∀ k, bytesOf k es2 = flipB (keepB s.B s.D keep) s.D flip k := fun k => by
    rw [h6]
    exact bytes_flip h3 h4 hb1 (fun k => by rw [h2, hD]) flip k
  exact ⟨he, up_of (s := pCrash s keep flip) hA h9 h5 hb2 (fun k => by rw [h7, hb2]; rfl) (fun k hk => .inl (h8 k hk))⟩

def CopyS (room : Nat) (s : St) (w : World) (e : Ending) (w' : World) : Prop := ∃ d2 A2, e = .returned (.pointer (some ⟨d2, 0, none⟩)) ∧ DkS w' A2 d2 room s ∧ (∀ k, A2 k → w.heap.size ≤ k) ∧ Below w.heap.size w w'
/-- A disk in a state whose blocks lie from n on. -/
structure Dsk (n : Nat) (W : World) (A : Foot) (d room : Nat) (s : St) : Prop where
  dk : DkS W A d room s
  lo : ∀ k, A k → n ≤ k
  hi : ∀ k, A k → k < W.heap.size
theorem Dsk.below {n : Nat} {W W2 : World} {A : Foot} {d room : Nat} {s : St} (h : Dsk n W A d room s) (hb : Below W.heap.size W W2) : Dsk n W2 A d room s :=
  ⟨dkm_below h.dk hb, h.lo, fun k hk => Nat.lt_of_lt_of_le (h.hi k hk) hb.size⟩
theorem Dsk.other {n : Nat} {W W2 : World} {A C : Foot} {d room : Nat} {s : St} (h : Dsk n W A d room s) (hk : Keeps C W W2) (hn : ∀ k, A k → ¬ C k) : Dsk n W2 A d room s :=
  ⟨dkm_keeps h.dk hk hn, h.lo, fun k hk2 => Nat.lt_of_lt_of_le (h.hi k hk2) hk.size⟩
theorem Dsk.made {n : Nat} {W W2 : World} {A : Foot} {d room : Nat} {s : St} (h : DkS W2 A d room s) (hA : ∀ k, A k → W.heap.size ≤ k) (hn : n ≤ W.heap.size) : Dsk n W2 (fun k => A k ∧ k < W2.heap.size) d room s :=
  ⟨dkm_tight h, fun k hk => Nat.le_trans hn (hA k hk.1), fun k hk => hk.2⟩
/-- Behind an operation. -/
theorem Dsk.up {n : Nat} {W W2 : World} {A : Foot} {d room : Nat} {s s2 : St} (h : Dsk n W A d room s) (hu : UpS W A d room s2 W2) (hn : n ≤ W.heap.size) :
    ∃ A2 : Foot, Dsk n W2 A2 d room s2 ∧ Keeps A W W2 ∧ (∀ k, A2 k → A k ∨ W.heap.size ≤ k) ∧ Below n W W2 := by
  obtain ⟨A2, hr, hd⟩ := hu
  refine ⟨fun k => A2 k ∧ k < W2.heap.size, ⟨dkm_tight hd, fun k hk => ?_, fun k hk => hk.2⟩, hr.keeps, fun k hk => hr.foot k hk.1, hr.keeps.below hn h.lo⟩
  rcases hr.foot k hk.1 with h1 | h1
  · exact h.lo k h1
  · omega

def lv1 : St := (pApp 100 pNew 3 [1, 2]).2
def lv2 : St := (pSync lv1).2
def lv3 : St := (pApp 100 lv2 3 [255]).2
def lv4 : St := pCrash lv3 [1] 7
def lv5 : St := pCrash lv3 [] 7
def lv6 : St := pArm lv5 0
def lv7 : St := (pApp 100 lv6 1 []).2
theorem lv_reads : pRead lv4 3 = (0, [1, 2, 254]) ∧ pRead lv5 3 = (0, [1, 2]) ∧ (pApp 100 lv6 1 []).1 = 23 ∧ (pRead lv7 3).1 = 23 := by decide +kernel
theorem lit_u8 (w : World) (bs : List Nat) (hz : bs.length ≤ 1000000) : Row .u8 (w.alloc (.cells ((natI bs).map (Value.int .u8)).toArray 5)) (.slice (some ⟨w.heap.size, 0, none⟩) bs.length bs.length) (natI bs) := by
  have := row_of_fresh (fresh_lit w 0 5 .u8 (natI bs) (Nat.zero_le _) (by rw [natI_length]; exact hz))
  rw [natI_length] at this
  exact this

end Go.Proofs.YtlljcnhcknmoaaaGreat
