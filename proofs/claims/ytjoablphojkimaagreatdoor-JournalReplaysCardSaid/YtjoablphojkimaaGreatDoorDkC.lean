/-
  Package disk: Rot. A disk's state as numbers alone; what each operation makes of it. Contracts of the operations in these words. The operations of a disk, by states. A disk with its blocks; the example of the laws on disks.
-/
import Derived.Test.YtjoablphojkimaaGreatDoorDkB
namespace Go.Proofs.YtjoablphojkimaaGreatDoor
open Go.RowKit Go.Shelf
set_option linter.unusedVariables false
set_option maxRecDepth 100000

theorem key_int2 {k : Nat} (hk : k ≤ 1000) : keyOf Tryz.prog 3 (.int .i64 (k : Int)) = some (.int .i64 (k : Int)) :=
  Maps.keyOf_int_mk (q := .i64) Tryz.underlying3 (by
    have h1 : (IntKind.i64).min = -9223372036854775808 := by decide
    have h2 : (IntKind.i64).max = 9223372036854775807 := by decide
    simp only [Lit.wf, h1, h2, Bool.and_eq_true, decide_eq_true_eq]
    omega)
theorem lookup_run2 {W : World} {b n : Nat} {es : List Fl} (h : W.ownsMap Tryz.prog 3 rdC b n (dm (mdOf es))) {k : Nat} (hk : k ≤ 1000) :
    (Instr.lookup 64 (.map (some b)) (.int .i64 (k : Int)) false).run Tryz.prog W = .ok (contOf k es) W := by
  obtain ⟨v, ps, hrun, hv⟩ := World.ownsMap.lookup h law_int Tryz.underlying64 (zero_cont W) (zd := .held (cont (.slice none 0 0) 0)) (zp := []) rfl (key_int2 hk)
  rw [hrun]
  rw [dm_at, look_find] at hv
  have hv2 : v = contOf k es := by
    have h2 : (some (DataW.held v, ([] : List MemPlace)) : Option (DataW Value × List MemPlace)) = _ := hv
    injection h2 with h2
    injection h2 with h2 _
    unfold contOf
    cases hf : findF k es with
    | none => rw [hf] at h2; injection h2
    | some f => rw [hf] at h2; injection h2
  rw [hv2]

def RotEnd (d b room : Nat) (on : Bool) (left : Int) (es : List Fl) (k : Nat) (bit : Int) (w : World) (e : Ending) (w' : World) : Prop :=
  (¬ (0 ≤ bit ∧ bit.toNat / 8 < (bytesOf k es).length) → e = .returned (.int .i64 1) ∧ Dk w' d b room on left es) ∧
  (0 ≤ bit ∧ bit.toNat / 8 < (bytesOf k es).length → e = .returned (.int .i64 0) ∧ Dk w' d b room on left (turnF k bit.toNat es) ∧ ∀ j, dkFoot d b (turnF k bit.toNat es) j → dkFoot d b es j) ∧ Keeps (dkFoot d b es) w w'

theorem sorted_ext : ∀ {l1 l2 : List Nat}, l1.Pairwise (· < ·) → l2.Pairwise (· < ·) → (∀ x, x ∈ l1 ↔ x ∈ l2) → l1 = l2
  | [], [], _, _, _ => rfl
  | [], b :: u, _, _, h => by have := (h b).2 (by simp); simp at this
  | a :: t, [], _, _, h => by have := (h a).1 (by simp); simp at this
  | a :: t, b :: u, h1, h2, h => by
    obtain ⟨h3, h4⟩ := List.pairwise_cons.1 h1
    obtain ⟨h5, h6⟩ := List.pairwise_cons.1 h2
    have hab : a = b := by
      rcases List.mem_cons.1 ((h a).1 (by simp)) with e | e
      · exact e
      · rcases List.mem_cons.1 ((h b).2 (by simp)) with e2 | e2
        · exact e2.symm
        · have := h3 b e2; have := h5 a e; omega
    subst hab
    rw [sorted_ext h4 h6 (fun x => ?_)]
    constructor
    · intro hx
      rcases List.mem_cons.1 ((h x).1 (List.mem_cons_of_mem _ hx)) with e | e
      · have := h3 x hx; omega
      · exact e
    · intro hx
      rcases List.mem_cons.1 ((h x).2 (List.mem_cons_of_mem _ hx)) with e | e
      · have := h5 x hx; omega
      · exact e

def filesB (B : Nat → List Nat) : List Nat := (List.range 64).filter fun k => !(B k).isEmpty
theorem keys_filter {es : List Fl} (hs : es.Pairwise (fun f g => f.key < g.key)) (hok : ∀ f ∈ es, f.key < 64 ∧ f.bs ≠ []) : es.map Fl.key = filesB (fun k => bytesOf k es) := by
  refine sorted_ext (by rw [List.pairwise_map]; exact hs) (List.Pairwise.filter _ List.pairwise_lt_range) (fun x => ?_)
  unfold filesB
  rw [List.mem_filter, List.mem_range]
  constructor
  · intro hx
    obtain ⟨f, hf, rfl⟩ := List.mem_map.1 hx
    refine ⟨(hok f hf).1, ?_⟩
    have : bytesOf f.key es = f.bs := by unfold bytesOf; rw [key_find hs hf]
    show (!(bytesOf f.key es).isEmpty) = true
    rw [this]
    simpa using (hok f hf).2
  · rintro ⟨_, hx⟩
    by_cases hm : x ∈ es.map Fl.key
    · exact hm
    · have hx2 : (!(bytesOf x es).isEmpty) = true := hx
      rw [(key_none hm).1] at hx2
      simp at hx2
def looseS (B : Nat → List Nat) (D : Nat → Nat) : Nat := ((List.range 64).map fun k => (B k).length - D k).sum
theorem dur_cons (j : Nat) (f : Fl) (t : List Fl) : durF j (f :: t) = if j = f.key then f.dur else durF j t := by
  unfold durF findF
  by_cases h : j = f.key
  · rw [List.find?_cons_of_pos (by simp [h]), if_pos h]
  · rw [List.find?_cons_of_neg (by simp; omega), if_neg h]
theorem loose_sum : ∀ {es : List Fl}, es.Pairwise (fun f g => f.key < g.key) → (∀ f ∈ es, f.key < 64) → looseF es = looseS (fun k => bytesOf k es) (fun k => durF k es)
  | [], _, _ => by
    have : ∀ n, ((List.range n).map fun k => (bytesOf k []).length - durF k []).sum = 0 := fun n => by
      induction n with
      | zero => rfl
      | succ n ih => rw [List.range_succ, List.map_append, List.sum_append, ih]; rfl
    exact (this 64).symm
  | f :: t, h, hk => by
    obtain ⟨h1, h2⟩ := List.pairwise_cons.1 h
    have ih := loose_sum h2 (fun g hg => hk g (by simp [hg]))
    have h0 : (bytesOf f.key t).length - durF f.key t = 0 := by rw [bytes_none (fun g hg => by have := h1 g hg; omega)]; simp
    have hs := sum_put (fun k => (bytesOf k t).length - durF k t) f.key (f.bs.length - f.dur) h0 64
    rw [if_pos (hk f (by simp))] at hs
    unfold looseS at *
    have e : (fun k => (bytesOf k (f :: t)).length - durF k (f :: t)) = fun j => if j = f.key then f.bs.length - f.dur else (bytesOf j t).length - durF j t := by
      funext j
      rw [bytes_cons, dur_cons]
      split <;> rfl
    show looseF (f :: t) = ((List.range 64).map fun k => (bytesOf k (f :: t)).length - durF k (f :: t)).sum
    rw [e, hs, ← ih]
    rfl
/-- The loose bit with a number, of the files ks. -/
def flipK (B : Nat → List Nat) (D : Nat → Nat) : List Nat → Nat → Option (Nat × Nat)
  | [], _ => none
  | k :: t, bit => if bit < 8 * ((B k).length - D k) then some (k, 8 * D k + bit) else flipK B D t (bit - 8 * ((B k).length - D k))
theorem flip_keys {B : Nat → List Nat} {D : Nat → Nat} : ∀ {ks : List Nat} {es : List Fl}, ks.Pairwise (· < ·) → es.Pairwise (fun f g => f.key < g.key) → (∀ f ∈ es, f.key ∈ ks ∧ B f.key = f.bs ∧ D f.key = f.dur) → (∀ k ∈ ks, k ∉ es.map Fl.key → B k = []) → ∀ bit, flipAt es bit = flipK B D ks bit
  | [], [], _, _, _, _, _ => rfl
  | [], f :: t, _, _, h, _, _ => by have := (h f (by simp)).1; simp at this
  | k :: u, [], h1, h2, h3, h4, bit => by
    have hb := h4 k (by simp) (by simp)
    show flipAt [] bit = if bit < 8 * ((B k).length - D k) then _ else _
    rw [if_neg (by rw [hb]; simp)]
    have e : bit - 8 * ((B k).length - D k) = bit := by rw [hb]; simp
    rw [e]
    exact flip_keys (List.pairwise_cons.1 h1).2 h2 (fun f hf => by simp at hf) (fun k hk _ => h4 k (by simp [hk]) (by simp)) bit
  | k :: u, f :: t, h1, h2, h3, h4, bit => by
    obtain ⟨g1, g2⟩ := List.pairwise_cons.1 h1
    obtain ⟨g3, g4⟩ := List.pairwise_cons.1 h2
    by_cases hk : k = f.key
    · obtain ⟨_, hb, hd⟩ := h3 f (by simp)
      show (if bit < 8 * (f.bs.length - f.dur) then some (f.key, 8 * f.dur + bit) else flipAt t (bit - 8 * (f.bs.length - f.dur))) = if bit < 8 * ((B k).length - D k) then some (k, 8 * D k + bit) else flipK B D u (bit - 8 * ((B k).length - D k))
      rw [hk, hb, hd]
      split
      · rfl
      · refine flip_keys g2 g4 (fun f' hf' => ⟨?_, (h3 f' (by simp [hf'])).2⟩) (fun k' hk' hn => h4 k' (by simp [hk']) ?_) _
        · rcases List.mem_cons.1 (h3 f' (by simp [hf'])).1 with e | e
          · have := g3 f' hf'; omega
          · exact e
        · rw [List.map_cons, List.mem_cons]
          rintro (e | e)
          · have := g1 k' hk'; omega
          · exact hn e
    · have hkm : k ∉ (f :: t).map Fl.key := by
        rw [List.map_cons, List.mem_cons]
        rintro (e | e)
        · exact hk e
        · obtain ⟨f', hf', e'⟩ := List.mem_map.1 e
          rcases List.mem_cons.1 (h3 f (by simp)).1 with e2 | e2
          · exact hk e2.symm
          · have := g1 _ e2; have := g3 f' hf'; omega
      have hb := h4 k (by simp) hkm
      show _ = if bit < 8 * ((B k).length - D k) then _ else _
      rw [if_neg (by rw [hb]; simp)]
      have e : bit - 8 * ((B k).length - D k) = bit := by rw [hb]; simp
      rw [e]
      refine flip_keys g2 h2 (fun f' hf' => ⟨?_, (h3 f' hf').2⟩) (fun k' hk' hn => h4 k' (by simp [hk']) hn) bit
      rcases List.mem_cons.1 (h3 f' hf').1 with e3 | e3
      · exact absurd (show k ∈ (f :: t).map Fl.key from by rw [← e3]; exact List.mem_map_of_mem hf') hkm
      · exact e3
theorem flip_at {es : List Fl} (hs : es.Pairwise (fun f g => f.key < g.key)) (hk : ∀ f ∈ es, f.key < 64) (bit : Nat) : flipAt es bit = flipK (fun k => bytesOf k es) (fun k => durF k es) (List.range 64) bit :=
  flip_keys List.pairwise_lt_range hs (fun f hf => ⟨List.mem_range.2 (hk f hf), by show bytesOf f.key es = _; unfold bytesOf; rw [key_find hs hf], by show durF f.key es = _; unfold durF; rw [key_find hs hf]⟩) (fun k _ hn => (key_none hn).1) bit

/-! ### States -/
structure St where
  on : Bool
  left : Int
  B : Nat → List Nat
  D : Nat → Nat
def isF (file : Int) : Bool := decide (0 ≤ file ∧ file < 64)
def pNew : St := ⟨true, -1, fun _ => [], fun _ => 0⟩
def pStep (s : St) : Int × St := if stepOn s.on s.left = true then (0, { s with left := max (s.left - 1) (-1) }) else (23, { s with on := false })
def setB (B : Nat → List Nat) (k : Nat) (x : List Nat) : Nat → List Nat := fun j => if j = k then x else B j
def setD (D : Nat → Nat) (k x : Nat) : Nat → Nat := fun j => if j = k then x else D j
def pApp (room : Nat) (s : St) (file : Int) (zs : List Nat) : Int × St :=
  if isF file = false then (1, s) else if s.on = false then (23, s) else if ¬ sumB s.B + zs.length ≤ room then (22, s) else pStep { s with B := setB s.B file.toNat (s.B file.toNat ++ zs) }
def pTrunc (s : St) (file size : Int) : Int × St :=
  if ¬ (isF file = true ∧ 0 ≤ size ∧ size ≤ ((s.B file.toNat).length : Int)) then (1, s) else
    if stepOn s.on s.left = true then (0, ⟨s.on, max (s.left - 1) (-1), setB s.B file.toNat ((s.B file.toNat).take size.toNat), setD s.D file.toNat (min (s.D file.toNat) size.toNat)⟩) else (23, { s with on := false })
def pSync (s : St) : Int × St :=
  if stepOn s.on s.left = true then (0, ⟨s.on, max (s.left - 1) (-1), s.B, fun k => (s.B k).length⟩) else (23, { s with on := false })
def pArm (s : St) (n : Int) : St := { s with left := armL s.on s.left n }
def pRead (s : St) (file : Int) : Int × List Nat := if isF file = false then (1, []) else if s.on = false then (23, []) else (0, s.B file.toNat)
def turnB (B : Nat → List Nat) (k p : Nat) : Nat → List Nat := setB B k ((B k).set (p / 8) (flipN (((B k)[p / 8]?).getD 0) p))
def keepB (B : Nat → List Nat) (D : Nat → Nat) (keep : List Int) : Nat → List Nat := fun k => (B k).take (D k + lostN (keepAt keep ((filesB B).idxOf k)) ((B k).length - D k))
def flipB (B : Nat → List Nat) (D : Nat → Nat) (flip : Int) : Nat → List Nat :=
  if 0 ≤ flip ∧ 0 < looseS B D then match flipK B D (List.range 64) (flip.toNat % (8 * looseS B D)) with
    | some (k, p) => turnB B k p
    | none => B
  else B
def pCrash (s : St) (keep : List Int) (flip : Int) : St :=
  ⟨true, -1, flipB (keepB s.B s.D keep) s.D flip, fun k => (flipB (keepB s.B s.D keep) s.D flip k).length⟩
def pRot (s : St) (k : Nat) (bit : Int) : Int × St :=
  if 0 ≤ bit ∧ bit.toNat / 8 < (s.B k).length then (0, { s with B := turnB s.B k bit.toNat }) else (1, s)

/-- A disk in a state. -/
def DkS (W : World) (A : Foot) (d room : Nat) (s : St) : Prop := DkM W A d room s.on s.left s.B s.D
/-- A disk in a state behind a step of its owner. -/
def UpS (w : World) (A : Foot) (d room : Nat) (s : St) (w' : World) : Prop := ∃ A2, Round A A2 w w' ∧ DkS w' A2 d room s

theorem dks_of {W : World} {d b room : Nat} {s : St} {es : List Fl} {A : Foot} (h : Dk W d b room s.on s.left es) (hb : ∀ k, bytesOf k es = s.B k) (hd : ∀ k, durF k es = s.D k) (hf : ∀ k, dkFoot d b es k → A k) : DkS W A d room s := ⟨b, es, h, hb, hd, hf⟩
/-- From a footprint of an operation to the owner's. -/
theorem up_of {w w' : World} {A : Foot} {d b b2 room : Nat} {s : St} {es es2 : List Fl} (hA : ∀ k, dkFoot d b es k → A k) (hk : Keeps (dkFoot d b es) w w') (h : Dk w' d b2 room s.on s.left es2) (hb : ∀ k, bytesOf k es2 = s.B k) (hd : ∀ k, durF k es2 = s.D k)
    (hf : ∀ k, dkFoot d b2 es2 k → dkFoot d b es k ∨ w.heap.size ≤ k) : UpS w A d room s w' :=
  ⟨fun k => A k ∨ dkFoot d b2 es2 k, ⟨hk.mono (fun k _ h => hA k h), fun k hk => hk.elim .inl (fun h => (hf k h).imp (hA k) id)⟩, dks_of h hb hd (fun k hk => .inr hk)⟩

theorem isF_true {file : Int} (h : 0 ≤ file ∧ file < 64) : isF file = true := decide_eq_true h
theorem isF_false {file : Int} (h : ¬ (0 ≤ file ∧ file < 64)) : isF file = false := decide_eq_false h
theorem dks_used {W : World} {d b room : Nat} {on : Bool} {left : Int} {es : List Fl} {B : Nat → List Nat} (h : Dk W d b room on left es) (hB : ∀ k, bytesOf k es = B k) : usedF es = sumB B := by
  rw [used_sum h.sorted (fun f hf => (h.ok f hf).key), show (fun k => bytesOf k es) = B from funext hB]

def NewS (room : Int) (w : World) (e : Ending) (w' : World) : Prop :=
  ∃ d A, e = .returned (.tuple #[.pointer (some ⟨d, 0, none⟩), .int .i64 0]) ∧ DkS w' A d room.toNat pNew ∧ (∀ k, A k → w.heap.size ≤ k) ∧ Below w.heap.size w w'
theorem newS_any (room : Int) (w : World) (h : 0 ≤ room ∧ room ≤ 16777216) : Calls Tryz.prog 5 #[.int .i64 room] w (NewS room w) := by
  refine (new_any room w).mono ?_
  rintro e w' ⟨_, h2⟩
  obtain ⟨d, b, he, hd, hd1, hb1, hb⟩ := h2 h
  refine ⟨d, dkFoot d b [], he, dks_of hd (fun k => rfl) (fun k => rfl) (fun _ h => h), fun k hk => ?_, hb⟩
  rcases hk with h | h | ⟨f, hf, _⟩
  · omega
  · omega
  · simp at hf

def ResS (w : World) (A : Foot) (d room : Nat) (r : Int × St) (e : Ending) (w' : World) : Prop := e = .returned (.int .i64 r.1) ∧ UpS w A d room r.2 w'

theorem appS_any {w : World} {A : Foot} {d room : Nat} {s : St} (h : DkS w A d room s) (file : Int) (a : Option Addr) (cap : Nat) (zs : List Nat) (hz : Row .u8 w (.slice a zs.length cap) (natI zs)) (h8 : ∀ c ∈ zs, c < 256) (hlz : zs.length ≤ 16777216) :
    Calls Tryz.prog 12 #[.pointer (some ⟨d, 0, none⟩), .int .i64 file, .slice a zs.length cap] w (ResS w A d room (pApp room s file zs)) := by
  obtain ⟨b, es, hd, hB, hD, hA⟩ := h
  refine (append_any d b room s.on s.left es file a cap zs w hd hz h8 hlz).mono ?_
  rintro e w' ⟨h1, h2, h3, h4, h5⟩
  have hS := dks_used hd hB
  unfold pApp ResS
  by_cases hf : 0 ≤ file ∧ file < 64
  · rw [isF_true hf, if_neg (by decide)]
    by_cases hon : s.on = false
    · rw [if_pos hon]
      obtain ⟨he, hd'⟩ := h2 hf hon
      exact ⟨he, up_of hA h5 hd' hB hD (fun k hk => .inl hk)⟩
    · have hon2 : s.on = true := by cases hs : s.on; exact absurd hs hon; rfl
      rw [if_neg hon]
      by_cases hfit : usedF es + zs.length ≤ room
      · rw [if_neg (by rw [← hS]; exact fun h => h hfit)]
        obtain ⟨v, W, hst, hv⟩ := h4 hf hon2 hfit
        have hB' : ∀ k, bytesOf k (afterF ⟨file.toNat, v, bytesOf file.toNat es ++ zs, durF file.toNat es⟩ es) = setB s.B file.toNat (s.B file.toNat ++ zs) k := fun k => by
          rw [bytes_after]
          unfold setB
          rw [← hB, ← hB k]
        have hD' : ∀ k, durF k (afterF ⟨file.toNat, v, bytesOf file.toNat es ++ zs, durF file.toNat es⟩ es) = s.D k := fun k => by
          rw [dur_after (by show durF _ _ ≤ (bytesOf _ _ ++ zs).length; have := dur_le hd file.toNat; rw [List.length_append]; omega)]
          by_cases hk : k = file.toNat
          · rw [if_pos hk, hk]; exact hD _
          · rw [if_neg hk]; exact hD k
        have hF : ∀ k, dkFoot d b (afterF ⟨file.toNat, v, bytesOf file.toNat es ++ zs, durF file.toNat es⟩ es) k → dkFoot d b es k ∨ w.heap.size ≤ k := fun k hk => by
          rcases foot_after hk with h | h
          · exact .inl h
          · exact hv k h
        unfold pStep
        by_cases hso : stepOn s.on s.left = true
        · rw [if_pos hso]
          rw [hon2] at hso
          obtain ⟨he, hd'⟩ := hst.2.1 hso
          exact ⟨he, up_of (s := ⟨s.on, _, _, _⟩) hA h5 (by rw [hon2]; exact hd') hB' hD' hF⟩
        · rw [if_neg hso]
          have hso2 : stepOn true s.left = false := by rw [hon2] at hso; cases hq : stepOn true s.left; rfl; exact absurd hq hso
          obtain ⟨he, hd'⟩ := hst.1 hso2
          exact ⟨he, up_of (s := ⟨false, _, _, _⟩) hA h5 hd' hB' hD' hF⟩
      · rw [if_pos (by rw [← hS]; exact hfit)]
        obtain ⟨he, hd'⟩ := h3 hf hon2 hfit
        exact ⟨he, up_of hA h5 hd' hB hD (fun k hk => .inl hk)⟩
  · rw [isF_false hf, if_pos rfl]
    obtain ⟨he, hd'⟩ := h1 hf
    exact ⟨he, up_of hA h5 hd' hB hD (fun k hk => .inl hk)⟩

theorem truncS_any {w : World} {A : Foot} {d room : Nat} {s : St} (h : DkS w A d room s) (file size : Int) :
    Calls Tryz.prog 63 #[.pointer (some ⟨d, 0, none⟩), .int .i64 file, .int .i64 size] w (ResS w A d room (pTrunc s file size)) := by
  obtain ⟨b, es, hd, hB, hD, hA⟩ := h
  refine (truncate_any d b room s.on s.left es file size w hd).mono ?_
  rintro e w' ⟨h1, h2, h3, h4⟩
  unfold pTrunc ResS
  by_cases hf : (0 ≤ file ∧ file < 64) ∧ 0 ≤ size ∧ size ≤ ((bytesOf file.toNat es).length : Int)
  · rw [if_neg (fun hn => hn ⟨isF_true hf.1, by rw [← hB]; exact hf.2⟩)]
    by_cases hso : stepOn s.on s.left = true
    · rw [if_pos hso]
      obtain ⟨he, v, hd', hv⟩ := h3 hf hso
      refine ⟨he, up_of (s := ⟨s.on, _, _, _⟩) hA h4 hd' (fun k => ?_) (fun k => ?_) (fun k hk => ?_)⟩
      · rw [bytes_after]
        show _ = setB s.B _ _ k
        unfold setB
        rw [← hB, ← hB k]
      · rw [dur_after (by show min _ _ ≤ (List.take _ _).length; have := dur_le hd file.toNat; rw [List.length_take]; omega)]
        show _ = setD s.D _ _ k
        unfold setD
        rw [← hD, ← hD k]
      · rcases foot_after hk with h | h
        · exact .inl h
        · exact .inl (hv k h)
    · rw [if_neg hso]
      have hso2 : stepOn s.on s.left = false := by cases hq : stepOn s.on s.left; rfl; exact absurd hq hso
      obtain ⟨he, hd'⟩ := h2 hf hso2
      exact ⟨he, up_of (s := ⟨false, _, _, _⟩) hA h4 hd' hB hD (fun k hk => .inl hk)⟩
  · rw [if_pos (fun hn => hf ⟨of_decide_eq_true hn.1, by rw [hB]; exact hn.2⟩)]
    obtain ⟨he, hd'⟩ := h1 hf
    exact ⟨he, up_of hA h4 hd' hB hD (fun k hk => .inl hk)⟩

theorem syncS_any {w : World} {A : Foot} {d room : Nat} {s : St} (h : DkS w A d room s) :
    Calls Tryz.prog 13 #[.pointer (some ⟨d, 0, none⟩)] w (ResS w A d room (pSync s)) := by
  obtain ⟨b, es, hd, hB, hD, hA⟩ := h
  refine (sync_any d b room s.on s.left es w hd).mono ?_
  rintro e w' ⟨h1, h2, h3⟩
  unfold pSync ResS
  by_cases hso : stepOn s.on s.left = true
  · rw [if_pos hso]
    obtain ⟨he, es2, hd', hb2, hd2, hf2⟩ := h2 hso
    exact ⟨he, up_of (s := ⟨s.on, _, _, _⟩) hA h3 hd' (fun k => by rw [hb2, hB]) (fun k => by rw [hd2, hB]) (fun k hk => .inl (hf2 k hk))⟩
  · rw [if_neg hso]
    have hso2 : stepOn s.on s.left = false := by cases hq : stepOn s.on s.left; rfl; exact absurd hq hso
    obtain ⟨he, hd'⟩ := h1 hso2
    exact ⟨he, up_of (s := ⟨false, _, _, _⟩) hA h3 hd' hB hD (fun k hk => .inl hk)⟩

def TupS (w : World) (A : Foot) (d room : Nat) (s : St) (e : Ending) (w' : World) : Prop := e = .returned (.tuple #[]) ∧ UpS w A d room s w'
theorem armS_any {w : World} {A : Foot} {d room : Nat} {s : St} (h : DkS w A d room s) (n : Int) (hn : -9223372036854775808 ≤ n ∧ n ≤ 9223372036854775807) :
    Calls Tryz.prog 27 #[.pointer (some ⟨d, 0, none⟩), .int .i64 n] w (TupS w A d room (pArm s n)) := by
  obtain ⟨b, es, hd, hB, hD, hA⟩ := h
  refine (arm_any d b room s.on s.left n es w hd hn).mono ?_
  rintro e w' ⟨he, hd', hk⟩
  exact ⟨he, up_of (s := pArm s n) hA (hk.mono (fun k _ h => .inl h)) hd' hB hD (fun k hk => .inl hk)⟩
def UsedS (s : St) (w : World) (e : Ending) (w' : World) : Prop := e = .returned (.int .i64 (sumB s.B : Int)) ∧ Below w.heap.size w w'
theorem usedS_any {w : World} {A : Foot} {d room : Nat} {s : St} (h : DkS w A d room s) :
    Calls Tryz.prog 41 #[.pointer (some ⟨d, 0, none⟩)] w (UsedS s w) := by
  obtain ⟨b, es, hd, hB, hD, hA⟩ := h
  refine (used_any d b room s.on s.left es w hd).mono ?_
  rintro e w' ⟨he, hb⟩
  rw [dks_used hd hB] at he
  exact ⟨he, hb⟩
def FilesS (s : St) (w : World) (e : Ending) (w' : World) : Prop := ∃ v : Value, e = .returned v ∧ Fresh w.heap.size 3 .i64 w' v (natI (filesB s.B)) ∧ Below w.heap.size w w'
theorem dk_keys {W : World} {d b room : Nat} {on : Bool} {left : Int} {es : List Fl} {B : Nat → List Nat} (h : Dk W d b room on left es) (hB : ∀ k, bytesOf k es = B k) : es.map Fl.key = filesB B := by
  rw [keys_filter h.sorted (fun f hf => ⟨(h.ok f hf).key, (h.ok f hf).ne⟩), show (fun k => bytesOf k es) = B from funext hB]
theorem filesS_any {w : World} {A : Foot} {d room : Nat} {s : St} (h : DkS w A d room s) :
    Calls Tryz.prog 45 #[.pointer (some ⟨d, 0, none⟩)] w (FilesS s w) := by
  obtain ⟨b, es, hd, hB, hD, hA⟩ := h
  refine (files_any d b room s.on s.left es w hd).mono ?_
  rintro e w' ⟨v, he, hv, hb⟩
  refine ⟨v, he, ?_, hb⟩
  rw [← dk_keys hd hB]
  have : natI (es.map Fl.key) = keysF es := by unfold natI keysF; rw [List.map_map]; rfl
  rw [this]
  exact hv
def ReadS (r : Int × List Nat) (w : World) (e : Ending) (w' : World) : Prop := ∃ v : Value, e = .returned (.tuple #[v, .int .i64 r.1]) ∧ Fresh w.heap.size 5 .u8 w' v (natI r.2) ∧ Below w.heap.size w w'
theorem readS_any {w : World} {A : Foot} {d room : Nat} {s : St} (h : DkS w A d room s) (file : Int) :
    Calls Tryz.prog 16 #[.pointer (some ⟨d, 0, none⟩), .int .i64 file] w (ReadS (pRead s file) w) := by
  obtain ⟨b, es, hd, hB, hD, hA⟩ := h
  refine (read_any d b room s.on s.left es file w hd).mono ?_
  rintro e w' ⟨h1, h2, h3, hb⟩
  unfold pRead
  by_cases hf : 0 ≤ file ∧ file < 64
  · rw [isF_true hf, if_neg (by decide)]
    by_cases hon : s.on = false
    · rw [if_pos hon]
      exact ⟨_, h2 hf hon, fresh_nil _ _ _ _, hb⟩
    · rw [if_neg hon]
      have hon2 : s.on = true := by cases hs : s.on; exact absurd hs hon; rfl
      obtain ⟨v, he, hv⟩ := h3 hf hon2
      rw [hB] at hv
      exact ⟨v, he, hv, hb⟩
  · rw [isF_false hf, if_pos rfl]
    exact ⟨_, h1 hf, fresh_nil _ _ _ _, hb⟩

theorem bytes_flip {es : List Fl} {B : Nat → List Nat} {D : Nat → Nat} (hs : es.Pairwise (fun f g => f.key < g.key)) (hk : ∀ f ∈ es, f.key < 64) (hB : ∀ k, bytesOf k es = B k) (hD : ∀ k, durF k es = D k) (flip : Int) (k : Nat) :
    bytesOf k (if 0 ≤ flip ∧ 0 < looseF es then flipF es (flip.toNat % (8 * looseF es)) else es) = flipB B D flip k := by
  have e1 : (fun k => bytesOf k es) = B := funext hB
  have e2 : (fun k => durF k es) = D := funext hD
  have hl : looseF es = looseS B D := by rw [loose_sum hs hk, e1, e2]
  unfold flipB
  rw [hl]
  by_cases hc : 0 ≤ flip ∧ 0 < looseS B D
  · rw [if_pos hc, if_pos hc]
    unfold flipF
    rw [flip_at hs hk, e1, e2]
    cases hq : flipK B D (List.range 64) (flip.toNat % (8 * looseS B D)) with
    | none => exact hB k
    | some x =>
      obtain ⟨j, p⟩ := x
      show bytesOf k (turnF j p es) = turnB B j p k
      unfold turnF turnB setB
      rw [bytes_set, hB j, hB k]
  · rw [if_neg hc, if_neg hc]
    exact hB k

theorem crashS_any {w : World} {A : Foot} {d room : Nat} {s : St} (h : DkS w A d room s) (v : Value) (keep : List Int) (flip : Int) (hv : Row .i64 w v keep) (hvb : ∀ j, blockOf v j → ¬ A j)
    (hkr : ∀ x ∈ keep, -9223372036854775808 ≤ x ∧ x ≤ 9223372036854775807) (hfl : -9223372036854775808 ≤ flip ∧ flip ≤ 9223372036854775807) (hkl : keep.length ≤ 1000000) :
    Calls Tryz.prog 14 #[.pointer (some ⟨d, 0, none⟩), v, .int .i64 flip] w (TupS w A d room (pCrash s keep flip)) := by
  obtain ⟨b, es, hd, hB, hD, hA⟩ := h
  refine (crash_any d b room s.on s.left es v keep flip w hd hv (fun j hj hf => hvb j hj (hA j hf)) hkr hfl hkl).mono ?_
  rintro e w' ⟨he, es1, es2, h1, h2, h3, h4, h5, h6, h7, h8, h9⟩
  have hb1 : ∀ k, bytesOf k es1 = keepB s.B s.D keep k := fun k => by
    rw [h1]
    unfold lostB keepB rankF
    rw [dk_keys hd hB, hB, hD]
  have hb2 : ∀ k, bytesOf k es2 = flipB (keepB s.B s.D keep) s.D flip k := fun k => by
    rw [h6]
    exact bytes_flip h3 h4 hb1 (fun k => by rw [h2, hD]) flip k
  exact ⟨he, up_of (s := pCrash s keep flip) hA h9 h5 hb2 (fun k => by rw [h7, hb2]; rfl) (fun k hk => .inl (h8 k hk))⟩

def CopyS (room : Nat) (s : St) (w : World) (e : Ending) (w' : World) : Prop := ∃ d2 A2, e = .returned (.pointer (some ⟨d2, 0, none⟩)) ∧ DkS w' A2 d2 room s ∧ (∀ k, A2 k → w.heap.size ≤ k) ∧ Below w.heap.size w w'
theorem copyS_any {w : World} {A : Foot} {d room : Nat} {s : St} (h : DkS w A d room s) :
    Calls Tryz.prog 60 #[.pointer (some ⟨d, 0, none⟩)] w (CopyS room s w) := by
  obtain ⟨b, es, hd, hB, hD, hA⟩ := h
  refine (copy_any d b room s.on s.left es w hd).mono ?_
  rintro e w' ⟨d2, b2, es2, he, hd2, h1, h2, h3, hb⟩
  exact ⟨d2, dkFoot d2 b2 es2, he, dks_of hd2 (fun k => by rw [h1, hB]) (fun k => by rw [h2, hD]) (fun _ h => h), h3, hb⟩

/-- A disk in a state whose blocks lie from n on. -/
structure Dsk (n : Nat) (W : World) (A : Foot) (d room : Nat) (s : St) : Prop where
  dk : DkS W A d room s
  lo : ∀ k, A k → n ≤ k
  hi : ∀ k, A k → k < W.heap.size
theorem Dsk.below {n : Nat} {W W2 : World} {A : Foot} {d room : Nat} {s : St} (h : Dsk n W A d room s) (hb : Below W.heap.size W W2) : Dsk n W2 A d room s :=
  ⟨dkm_below h.dk hb, h.lo, fun k hk => Nat.lt_of_lt_of_le (h.hi k hk) hb.size⟩
theorem Dsk.other {n : Nat} {W W2 : World} {A C : Foot} {d room : Nat} {s : St} (h : Dsk n W A d room s) (hk : Keeps C W W2) (hn : ∀ k, A k → ¬ C k) : Dsk n W2 A d room s :=
  ⟨dkm_keeps h.dk hk hn, h.lo, fun k hk2 => Nat.lt_of_lt_of_le (h.hi k hk2) hk.size⟩
theorem Dsk.made {n : Nat} {W W2 : World} {A : Foot} {d room : Nat} {s : St} (h : DkS W2 A d room s) (hA : ∀ k, A k → W.heap.size ≤ k) (hn : n ≤ W.heap.size) : Dsk n W2 (fun k => A k ∧ k < W2.heap.size) d room s :=
  ⟨dkm_tight h, fun k hk => Nat.le_trans hn (hA k hk.1), fun k hk => hk.2⟩
/-- Behind an operation. -/
theorem Dsk.up {n : Nat} {W W2 : World} {A : Foot} {d room : Nat} {s s2 : St} (h : Dsk n W A d room s) (hu : UpS W A d room s2 W2) (hn : n ≤ W.heap.size) :
    ∃ A2 : Foot, Dsk n W2 A2 d room s2 ∧ Keeps A W W2 ∧ (∀ k, A2 k → A k ∨ W.heap.size ≤ k) ∧ Below n W W2 := by
  obtain ⟨A2, hr, hd⟩ := hu
  refine ⟨fun k => A2 k ∧ k < W2.heap.size, ⟨dkm_tight hd, fun k hk => ?_, fun k hk => hk.2⟩, hr.keeps, fun k hk => hr.foot k hk.1, hr.keeps.below hn h.lo⟩
  rcases hr.foot k hk.1 with h1 | h1
  · exact h.lo k h1
  · omega

def lv1 : St := (pApp 100 pNew 3 [1, 2]).2
def lv2 : St := (pSync lv1).2
def lv3 : St := (pApp 100 lv2 3 [255]).2
def lv4 : St := pCrash lv3 [1] 7
def lv5 : St := pCrash lv3 [] 7
def lv6 : St := pArm lv5 0
def lv7 : St := (pApp 100 lv6 1 []).2
theorem lv_reads : pRead lv4 3 = (0, [1, 2, 254]) ∧ pRead lv5 3 = (0, [1, 2]) ∧ (pApp 100 lv6 1 []).1 = 23 ∧ (pRead lv7 3).1 = 23 := by decide +kernel
theorem lit_u8 (w : World) (bs : List Nat) (hz : bs.length ≤ 1000000) : Row .u8 (w.alloc (.cells ((natI bs).map (Value.int .u8)).toArray 5)) (.slice (some ⟨w.heap.size, 0, none⟩) bs.length bs.length) (natI bs) := by
  have := row_of_fresh (fresh_lit w 0 5 .u8 (natI bs) (Nat.zero_le _) (by rw [natI_length]; exact hz))
  rw [natI_length] at this
  exact this

set_option maxHeartbeats 8000000 in
theorem lives5_any (w : World) :
    Calls Tryz.prog 24 #[] w fun e w' => e = .returned (.bool true) ∧ Below w.heap.size w w' := by
  obtain ⟨q1, q2, q3, q4⟩ := lv_reads
  have Q1 := Lib.hid q1
  have Q2 := Lib.hid q2
  have Q3 := Lib.hid q3
  have Q4 := Lib.hid q4
  clear q1 q2 q3 q4
  go_enter Tryz.func24, Tryz.ntmps24
  go_wp2_with fail
  refine (newS_any 100 w (by decide)).mono ?_
  rintro e w1 ⟨d, A0, rfl, hd, hA0, hb⟩
  have hk1 := Dsk.made (n := w.heap.size) hd hA0 (Nat.le_refl _)
  have D1 := Lib.hid (hk1.below ((Below.refl _ w1).alloc (Nat.le_refl _) (.cells #[.int .u8 1, .int .u8 2] 5)))
  have B1 := Lib.hid (hb.alloc hb.size (.cells #[.int .u8 1, .int .u8 2] 5))
  have R1 := Lib.hid (lit_u8 w1 [1, 2] (by decide))
  clear hd hA0 hb hk1
  generalize hA1 : (fun k => A0 k ∧ k < w1.heap.size) = A1 at D1
  clear hA1
  go_wp2_with fail
  refine (appS_any D1.out.dk 3 _ 2 [1, 2] R1.out (by decide) (by decide)).mono ?_
  rintro e w2 ⟨rfl, hu⟩
  obtain ⟨A2, hd, _, _, hb⟩ := D1.out.up hu B1.out.size
  have D2 : Hid (Dsk w.heap.size w2 A2 d 100 lv1) := Lib.hid hd
  have B2 := Lib.hid (B1.out.trans hb)
  clear hu hd hb D1 R1 B1
  go_wp2_with fail
  refine (syncS_any D2.out.dk).mono ?_
  rintro e w3 ⟨rfl, hu⟩
  obtain ⟨A3, hd, _, _, hb⟩ := D2.out.up hu B2.out.size
  have hd : Dsk w.heap.size w3 A3 d 100 lv2 := hd
  have D3 := Lib.hid (hd.below ((Below.refl _ w3).alloc (Nat.le_refl _) (.cells #[.int .u8 255] 5)))
  have B3 := Lib.hid ((B2.out.trans hb).alloc (B2.out.trans hb).size (.cells #[.int .u8 255] 5))
  have R3 := Lib.hid (lit_u8 w3 [255] (by decide))
  clear hu hd hb D2 B2
  go_wp2_with fail
  refine (appS_any D3.out.dk 3 _ 1 [255] R3.out (by decide) (by decide)).mono ?_
  rintro e w4 ⟨rfl, hu⟩
  obtain ⟨A4, hd, _, _, hb⟩ := D3.out.up hu B3.out.size
  have D4 : Hid (Dsk w.heap.size w4 A4 d 100 lv3) := Lib.hid hd
  have B4 := Lib.hid (B3.out.trans hb)
  clear hu hd hb D3 R3 B3
  go_wp2_with fail
  refine (copyS_any D4.out.dk).mono ?_
  rintro e w5 ⟨c, C0, rfl, hc, hC0, hb⟩
  have hc5 := Dsk.made (n := w.heap.size) hc hC0 B4.out.size
  have CL : Hid (∀ k, (fun k => C0 k ∧ k < w5.heap.size) k → w4.heap.size ≤ k) := Lib.hid (fun k hk => hC0 k hk.1)
  have C5 := Lib.hid (hc5.below ((Below.refl _ w5).alloc (Nat.le_refl _) (.cells #[.int .i64 1] 3)))
  have D5 := Lib.hid ((D4.out.below hb).below ((Below.refl _ w5).alloc (Nat.le_refl _) (.cells #[.int .i64 1] 3)))
  have B5 := Lib.hid ((B4.out.trans (hb.mono B4.out.size)).alloc (B4.out.trans (hb.mono B4.out.size)).size (.cells #[.int .i64 1] 3))
  have H4 := Lib.hid D4.out.hi
  have R5 : Hid (Row .i64 (w5.alloc (.cells #[.int .i64 1] 3)) (.slice (some ⟨w5.heap.size, 0, none⟩) 1 1) [1]) := Lib.hid (row_of_fresh (fresh_lit w5 0 3 .i64 [1] (Nat.zero_le _) (by decide)))
  have N5 : Hid (∀ k, A4 k → k < w5.heap.size) := Lib.hid (D4.out.below hb).hi
  clear hc hC0 hc5 hb D4 B4
  generalize hC5 : (fun k => C0 k ∧ k < w5.heap.size) = C1 at C5 CL
  clear hC5
  go_wp2_with fail
  refine (crashS_any D5.out.dk _ [1] 7 R5.out (fun j hj hA => by have : j = w5.heap.size := hj; have := N5.out j hA; omega) (by decide) (by decide) (by decide)).mono ?_
  rintro e w6 ⟨rfl, hu⟩
  obtain ⟨A6, hd, hk, hf, hb⟩ := D5.out.up hu B5.out.size
  have D6 : Hid (Dsk w.heap.size w6 A6 d 100 lv4) := Lib.hid hd
  have C6 := Lib.hid (C5.out.other hk (fun k h1 h2 => by have := CL.out k h1; have := H4.out k h2; omega))
  have X6 : Hid (∀ k, C1 k → ¬ A6 k) := Lib.hid (fun k h1 h2 => by
    rcases hf k h2 with h3 | h3
    · have := CL.out k h1; have := H4.out k h3; omega
    · have := C5.out.hi k h1; omega)
  have B6 := Lib.hid (B5.out.trans hb)
  clear hu hd hk hf hb D5 C5 B5 R5 H4 N5 CL
  go_wp2_with fail
  refine (crashS_any C6.out.dk _ [] 7 (row_none _ _) (fun j hj => hj.elim) (by decide) (by decide) (by decide)).mono ?_
  rintro e w7 ⟨rfl, hu⟩
  obtain ⟨C2, hd, hk, hf, hb⟩ := C6.out.up hu B6.out.size
  have C7 : Hid (Dsk w.heap.size w7 C2 c 100 lv5) := Lib.hid hd
  have D7 := Lib.hid (D6.out.other hk (fun k h1 h2 => X6.out k h2 h1))
  have B7 := Lib.hid (B6.out.trans hb)
  clear hu hd hk hf hb D6 C6 X6 B6
  go_wp2_with fail
  have hrd4 := readS_any D7.out.dk 3
  rw [Q1.out] at hrd4
  refine hrd4.mono ?_
  rintro e w8 ⟨x, rfl, hx, hb⟩
  have X8 := Lib.hid hx
  have N7 := Lib.hid C7.out.hi
  have S7 := Lib.hid hb.size
  have C8 := Lib.hid (C7.out.below hb)
  have B8 := Lib.hid (B7.out.trans (hb.mono B7.out.size))
  clear hrd4 hx hb D7 C7 B7
  go_wp2_with fail
  have hrd5 := readS_any C8.out.dk 3
  rw [Q2.out] at hrd5
  refine hrd5.mono ?_
  rintro e w9 ⟨y, rfl, hy, hb⟩
  have X9 := Lib.hid (fresh_keeps X8.out hb)
  have Y9 := Lib.hid (fresh_mono hy S7.out)
  have C9 := Lib.hid (C8.out.below hb)
  have B9 := Lib.hid (B8.out.trans (hb.mono B8.out.size))
  clear hrd5 hy hb C8 B8 X8
  go_wp2_with fail
  refine (armS_any C9.out.dk 0 (by decide)).mono ?_
  rintro e w10 ⟨rfl, hu⟩
  obtain ⟨C3, hd, hk, hf, hb⟩ := C9.out.up hu B9.out.size
  have C10 : Hid (Dsk w.heap.size w10 C3 c 100 lv6) := Lib.hid hd
  have X10 := Lib.hid (own_foot2 X9.out hk (fun j hj hC => by have := (X9.out.lt j hj).1; have := N7.out j hC; omega))
  have Y10 := Lib.hid (own_foot2 Y9.out hk (fun j hj hC => by have := (Y9.out.lt j hj).1; have := N7.out j hC; omega))
  have NX : Hid (∀ j, x.ownBlock = some j → ¬ C3 j) := Lib.hid (fun j hj hC => by
    have h1 := X9.out.lt j hj
    rcases hf j hC with h2 | h2
    · have := N7.out j h2; omega
    · omega)
  have NY : Hid (∀ j, y.ownBlock = some j → ¬ C3 j) := Lib.hid (fun j hj hC => by
    have h1 := Y9.out.lt j hj
    rcases hf j hC with h2 | h2
    · have := N7.out j h2; omega
    · omega)
  have B10 := Lib.hid (B9.out.trans hb)
  clear hu hd hk hf hb C9 X9 Y9 N7 S7 B9
  go_wp2_with fail
  refine (appS_any C10.out.dk 1 none 0 [] (row_none _ _) (by decide) (by decide)).mono ?_
  rintro e w11 ⟨rfl, hu⟩
  rw [Q3.out]
  obtain ⟨C4, hd, hk, hf, hb⟩ := C10.out.up hu B10.out.size
  have C11 : Hid (Dsk w.heap.size w11 C4 c 100 lv7) := Lib.hid hd
  have X11 := Lib.hid (own_foot2 X10.out hk NX.out)
  have Y11 := Lib.hid (own_foot2 Y10.out hk NY.out)
  have B11 := Lib.hid (B10.out.trans hb)
  clear hu hd hk hf hb C10 X10 Y10 NX NY B10
  go_wp2_with fail
  refine (readS_any C11.out.dk 3).mono ?_
  rintro e w12 ⟨z, rfl, hz, hb⟩
  rw [Q4.out]
  have X12 := Lib.hid (fresh_keeps X11.out hb)
  have Y12 := Lib.hid (fresh_keeps Y11.out hb)
  have B12 := Lib.hid (B11.out.trans (hb.mono B11.out.size))
  clear hz hb C11 X11 Y11 B11
  go_wp2_with fail
  have E1 : Elems .u8 (w12.alloc (.cells #[.int .u8 1, .int .u8 2, .int .u8 254] 5)) (.slice (some ⟨w12.heap.size, 0, none⟩) 3 3) (natI [1, 2, 254]) := Elems.of_fresh (fresh_lit w12 0 5 .u8 (natI [1, 2, 254]) (Nat.zero_le _) (by decide))
  refine (sameBytes_any x _ (natI [1, 2, 254]) (natI [1, 2, 254]) _ (Elems.of_fresh (fresh_keeps X12.out ((Below.refl _ w12).alloc (Nat.le_refl _) _))) E1 (by decide) (by decide)).mono ?_
  rintro e w13 ⟨rfl, hb⟩
  rw [decide_eq_true rfl]
  have Y13 := Lib.hid (fresh_keeps (fresh_keeps Y12.out ((Below.refl _ w12).alloc (Nat.le_refl _) (.cells #[.int .u8 1, .int .u8 2, .int .u8 254] 5))) hb)
  have B13 := Lib.hid ((B12.out.alloc B12.out.size (.cells #[.int .u8 1, .int .u8 2, .int .u8 254] 5)).trans (hb.mono (B12.out.alloc B12.out.size _).size))
  clear E1 hb X12 Y12 B12
  go_wp2_with fail
  have E2 : Elems .u8 (w13.alloc (.cells #[.int .u8 1, .int .u8 2] 5)) (.slice (some ⟨w13.heap.size, 0, none⟩) 2 2) (natI [1, 2]) := Elems.of_fresh (fresh_lit w13 0 5 .u8 (natI [1, 2]) (Nat.zero_le _) (by decide))
  refine (sameBytes_any y _ (natI [1, 2]) (natI [1, 2]) _ (Elems.of_fresh (fresh_keeps Y13.out ((Below.refl _ w13).alloc (Nat.le_refl _) _))) E2 (by decide) (by decide)).mono ?_
  rintro e w14 ⟨rfl, hb⟩
  rw [decide_eq_true rfl]
  have B14 := Lib.hid ((B13.out.alloc B13.out.size (.cells #[.int .u8 1, .int .u8 2] 5)).trans (hb.mono (B13.out.alloc B13.out.size _).size))
  clear E2 hb Y13 B13
  go_wp2_with fail
  go_ret
  exact ⟨rfl, B14.out⟩
end Go.Proofs.YtjoablphojkimaaGreatDoor
