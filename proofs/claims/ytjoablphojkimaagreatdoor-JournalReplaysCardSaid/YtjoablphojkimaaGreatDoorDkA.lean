/-
  A map from small numbers to values, as a sorted list; what the model's reading of a map makes of it. Its elements are read as they are. A disk in memory: its block, its map, the rows of its files. Package disk: the numbers of files, a step, a file put into the map. Package disk: a file put into the map. Package disk: how many bytes there are. Package disk: On, Arm, New; a file's bytes read. Package disk: New; Read. Package disk: Append. Package disk: Truncate. A disk as two functions of the file's number: its bytes, and how many of them are durable.
-/
import Derived.Test.YtjoablphojkimaaGreatDoorProg
import Derived.Maps.Own
import Derived.Maps.OwnSet
import Derived.Maps.RangeWalk
import Derived.Lib.SlKeysI
import Derived.Test.YtjoablphojkimaaGreatDoorDvB
import Derived.Test.YtjoablphojkimaaGreatDoorFtT
import Derived.Deep.RegionHeld3
namespace Go.Proofs.YtjoablphojkimaaGreatDoor
open Go.RowKit Go.Shelf
set_option linter.unusedVariables false
set_option maxRecDepth 100000

open Go.RowKit

abbrev MD := List (Nat × Value)
/-- The list as the model reads a map. -/
def dm (es : MD) : DataW Value := .map (es.map fun p => (.int .i64 (p.1 : Int), .held p.2))
def lookM (k : Nat) (es : MD) : Option Value := (es.find? fun p => decide (p.1 = k)).map Prod.snd
def eraseM (k : Nat) (es : MD) : MD := es.filter fun p => !decide (p.1 = k)
def insM (x : Nat × Value) : MD → MD
  | [] => [x]
  | y :: r => if x.1 < y.1 then x :: y :: r else y :: insM x r
def putM (k : Nat) (v : Value) (es : MD) : MD := insM (k, v) (eraseM k es)

theorem same_int (a b : Nat) : (Lit.int .i64 (a : Int)).sameKey (.int .i64 (b : Int)) = decide (a = b) := by
  have h : ((a : Int) = (b : Int)) = (a = b) := propext Int.ofNat_inj
  simp only [Lit.sameKey, true_and, h]
theorem dm_at (es : MD) (k : Nat) (z : DataW Value) : (dm es).atKey (.int .i64 (k : Int)) z = ((lookM k es).map DataW.held).getD z := by
  unfold dm lookM
  simp only [DataW.atKey]
  induction es with
  | nil => rfl
  | cons p es ih =>
    simp only [List.map_cons, List.find?_cons, same_int]
    by_cases h : p.1 = k
    · simp [h]
    · simp only [h, decide_false]
      exact ih
theorem dm_del (es : MD) (k : Nat) : (dm es).del (.int .i64 (k : Int)) = dm (eraseM k es) := by
  unfold dm eraseM
  simp only [DataW.del]
  congr 1
  rw [List.filter_map]
  congr 1
  refine List.filter_congr fun p _ => ?_
  simp only [Function.comp, same_int]
theorem dm_ins (x : Nat × Value) (es : MD) : DataW.insert (.int .i64 (x.1 : Int), .held x.2) (es.map fun p => (Lit.int .i64 (p.1 : Int), DataW.held p.2)) = (insM x es).map fun p => (.int .i64 (p.1 : Int), .held p.2) := by
  induction es with
  | nil => rfl
  | cons y es ih =>
    simp only [List.map_cons, DataW.insert, insM, Lit.before]
    have he : (decide ((x.1 : Int) < (y.1 : Int)) = true) = (x.1 < y.1) := by rw [decide_eq_true_iff]; exact propext Int.ofNat_lt
    by_cases h : x.1 < y.1
    · simp only [he, if_pos h, List.map_cons]
    · simp only [he, if_neg h, List.map_cons, ih]
theorem dm_put (es : MD) (k : Nat) (v : Value) : (dm es).put (.int .i64 (k : Int)) (.held v) = dm (putM k v es) := by
  unfold dm putM eraseM
  simp only [DataW.put]
  congr 1
  rw [List.filter_map, ← dm_ins (k, v)]
  congr 2
  refine List.filter_congr fun p _ => ?_
  simp only [Function.comp, same_int]
theorem dm_size (es : MD) : Maps.size (dm es) = es.length := by simp [dm, Maps.size]
theorem dm_keys (es : MD) : intKeys (dm es) = es.map fun p => (p.1 : Int) := by
  simp [dm, intKeys, intOf]

/-- The elements: two cells, a slice and a number. -/
def cont (u : Value) (d : Nat) : Value := .agg #[u, .int .i64 (d : Int)]
def rdC (v : Value) : Option (DataW Value × List MemPlace) := some (.held v, [])

/-- A file: its number, the slice, the bytes, how many of them are durable. -/
structure Fl where
  key : Nat
  val : Value
  bs : List Nat
  dur : Nat

def mdOf (es : List Fl) : MD := es.map fun f => (f.key, cont f.val f.dur)

structure FlOk (W : World) (f : Fl) : Prop where
  row : Fresh 0 5 .u8 W f.val (natI f.bs)
  b8 : ∀ c ∈ f.bs, c < 256
  ne : f.bs ≠ []
  dur : f.dur ≤ f.bs.length
  key : f.key < 64

def usedF (es : List Fl) : Nat := (es.map fun f => f.bs.length).sum

structure Dk (W : World) (d b : Nat) (room : Nat) (on : Bool) (left : Int) (es : List Fl) : Prop where
  dk : Laid W d 66 [.int .i64 (room : Int), .map (some b), .bool on, .int .i64 left]
  mp : W.ownsMap Tryz.prog 3 rdC b es.length (dm (mdOf es))
  sorted : es.Pairwise (fun f g => f.key < g.key)
  ok : ∀ f ∈ es, FlOk W f
  sep : es.Pairwise (fun f g => ∀ k, f.val.ownBlock = some k → g.val.ownBlock ≠ some k)
  room : usedF es ≤ room ∧ room ≤ 16777216
  left : -1 ≤ left ∧ left ≤ 9223372036854775807

def dkFoot (d b : Nat) (es : List Fl) : Foot := fun k => k = d ∨ k = b ∨ ∃ f ∈ es, f.val.ownBlock = some k

theorem ownsMap_keeps {A : Foot} {W W2 : World} {b n : Nat} {D : DataW Value} (h : W.ownsMap Tryz.prog 3 rdC b n D) (hk : Keeps A W W2) (hn : ¬ A b) : W2.ownsMap Tryz.prog 3 rdC b n D := by
  obtain ⟨es, clock, hb, F, hs, hD⟩ := h
  exact ⟨es, clock, hk.obj hb hn, F, hs, hD⟩
/-- As many entries as it reads. -/
theorem ownsMap_tight {W : World} {b n : Nat} {D : DataW Value} (h : W.ownsMap Tryz.prog 3 rdC b n D) : W.ownsMap Tryz.prog 3 rdC b (Maps.size D) D := by
  obtain ⟨es, clock, hb, F, hs, hD⟩ := h
  refine ⟨es, clock, hb, F, ?_, hD⟩
  rw [hD, Maps.size_eq, length_read]
  exact Nat.le_refl _
theorem own_foot2 {A : Foot} {B : Nat} {e : TypeId} {k : IntKind} {W W2 : World} {v : Value} {zs : List Int} (h : Fresh B e k W v zs) (hk : Keeps A W W2) (ho : ∀ j, v.ownBlock = some j → ¬ A j) : Fresh B e k W2 v zs := by
  refine ⟨h.1, ?_⟩
  rcases h.2 with hn | ⟨g, cap, cur, rfl, h2, h3, h4⟩
  · exact .inl hn
  · exact .inr ⟨g, cap, cur, rfl, h2, hk.obj h3 (ho g rfl), h4⟩
theorem flok_keeps {A : Foot} {W W2 : World} {f : Fl} (h : FlOk W f) (hk : Keeps A W W2) (hn : ∀ k, f.val.ownBlock = some k → ¬ A k) : FlOk W2 f :=
  ⟨own_foot2 h.row hk hn, h.b8, h.ne, h.dur, h.key⟩
theorem dk_keeps {A : Foot} {W W2 : World} {d b room : Nat} {on : Bool} {left : Int} {es : List Fl} (h : Dk W d b room on left es) (hk : Keeps A W W2) (hn : ∀ k, dkFoot d b es k → ¬ A k) : Dk W2 d b room on left es :=
  ⟨h.dk.keeps hk (hn d (.inl rfl)), ownsMap_keeps h.mp hk (hn b (.inr (.inl rfl))), h.sorted, fun f hf => flok_keeps (h.ok f hf) hk (fun k hk => hn k (.inr (.inr ⟨f, hf, hk⟩))), h.sep, h.room, h.left⟩
theorem Dk.lt {W : World} {d b room : Nat} {on : Bool} {left : Int} {es : List Fl} (h : Dk W d b room on left es) : ∀ k, dkFoot d b es k → k < W.heap.size := by
  rintro k (rfl | rfl | ⟨f, hf, hk⟩)
  · exact h.dk.lt
  · exact h.mp.lt
  · exact ((h.ok f hf).row.lt k hk).2
theorem dk_below {W W2 : World} {d b room : Nat} {on : Bool} {left : Int} {es : List Fl} (h : Dk W d b room on left es) (hb : Below W.heap.size W W2) : Dk W2 d b room on left es :=
  dk_keeps h (Keeps.of_below hb) (fun k hk hn => by have := h.lt k hk; omega)

/-! ### Files found, put and taken away -/
def findF (k : Nat) (es : List Fl) : Option Fl := es.find? fun f => decide (f.key = k)
def eraseF (k : Nat) (es : List Fl) : List Fl := es.filter fun f => !decide (f.key = k)
def insF (x : Fl) : List Fl → List Fl
  | [] => [x]
  | y :: r => if x.key < y.key then x :: y :: r else y :: insF x r
def putF (x : Fl) (es : List Fl) : List Fl := insF x (eraseF x.key es)

theorem look_find (k : Nat) (es : List Fl) : lookM k (mdOf es) = (findF k es).map fun f => cont f.val f.dur := by
  unfold lookM mdOf findF
  induction es with
  | nil => rfl
  | cons f es ih =>
    simp only [List.map_cons, List.find?_cons]
    by_cases h : f.key = k
    · simp [h]
    · simp only [h, decide_false]; exact ih
theorem erase_md (k : Nat) (es : List Fl) : eraseM k (mdOf es) = mdOf (eraseF k es) := by
  unfold eraseM mdOf eraseF
  rw [List.filter_map]
  rfl
theorem ins_md (x : Fl) (es : List Fl) : insM (x.key, cont x.val x.dur) (mdOf es) = mdOf (insF x es) := by
  induction es with
  | nil => rfl
  | cons y es ih =>
    show (if x.key < y.key then _ else _) = mdOf (if x.key < y.key then _ else _)
    by_cases h : x.key < y.key
    · rw [if_pos h, if_pos h]; rfl
    · rw [if_neg h, if_neg h]
      show _ :: insM _ (mdOf es) = _ :: mdOf (insF x es)
      rw [ih]
theorem put_md (x : Fl) (es : List Fl) : putM x.key (cont x.val x.dur) (mdOf es) = mdOf (putF x es) := by
  unfold putM putF
  rw [erase_md, ins_md]
theorem mem_ins {x f : Fl} {es : List Fl} : f ∈ insF x es ↔ f = x ∨ f ∈ es := by
  induction es with
  | nil => simp [insF]
  | cons y es ih =>
    unfold insF
    split
    · simp
    · rw [List.mem_cons, ih, List.mem_cons]
      constructor
      · rintro (h | h | h); exact .inr (.inl h); exact .inl h; exact .inr (.inr h)
      · rintro (h | h | h); exact .inr (.inl h); exact .inl h; exact .inr (.inr h)
theorem mem_erase {k : Nat} {f : Fl} {es : List Fl} : f ∈ eraseF k es ↔ f ∈ es ∧ f.key ≠ k := by
  unfold eraseF
  rw [List.mem_filter]
  simp
theorem ins_pairwise {R : Fl → Fl → Prop} {x : Fl} : ∀ {es : List Fl}, es.Pairwise R → (∀ y ∈ es, (x.key < y.key → R x y) ∧ (¬ x.key < y.key → R y x)) → es.Pairwise (fun f g => f.key < g.key) → (∀ y z, y ∈ es → R x y → z ∈ es → y.key < z.key → R x z) → (insF x es).Pairwise R
  | [], _, _, _, _ => by simp [insF]
  | y :: es, h, hx, hs, hm => by
    unfold insF
    rw [List.pairwise_cons] at h hs
    split
    · rename_i hlt
      refine List.pairwise_cons.2 ⟨fun z hz => ?_, List.pairwise_cons.2 h⟩
      rcases List.mem_cons.1 hz with rfl | hz
      · exact (hx z (by simp)).1 hlt
      · exact (hx z (by simp [hz])).1 (Nat.lt_trans hlt (hs.1 z hz))
    · rename_i hlt
      refine List.pairwise_cons.2 ⟨fun z hz => ?_, ins_pairwise h.2 (fun z hz => hx z (by simp [hz])) hs.2 (fun a c ha hr hc hac => hm a c (by simp [ha]) hr (by simp [hc]) hac)⟩
      rcases mem_ins.1 hz with rfl | hz
      · exact (hx y (by simp)).2 hlt
      · exact h.1 z hz
theorem used_ins (x : Fl) (es : List Fl) : usedF (insF x es) = x.bs.length + usedF es := by
  induction es with
  | nil => rfl
  | cons y es ih =>
    unfold insF
    split
    · rfl
    · unfold usedF at *
      rw [List.map_cons, List.sum_cons, ih, List.map_cons, List.sum_cons]
      omega
theorem length_ins (x : Fl) (es : List Fl) : (insF x es).length = es.length + 1 := by
  induction es with
  | nil => rfl
  | cons y es ih =>
    unfold insF
    split
    · rfl
    · rw [List.length_cons, ih, List.length_cons]

theorem law_int : Maps.Keyed Tryz.prog 3 := Maps.int_keyed (q := .i64) Tryz.underlying3
theorem key_int {k : Nat} (hk : k < 64) : keyOf Tryz.prog 3 (.int .i64 (k : Int)) = some (.int .i64 (k : Int)) :=
  Maps.keyOf_int_mk (q := .i64) Tryz.underlying3 (by
    have h1 : (IntKind.i64).min = -9223372036854775808 := by decide
    have h2 : (IntKind.i64).max = 9223372036854775807 := by decide
    simp only [Lit.wf, h1, h2, Bool.and_eq_true, decide_eq_true_eq]
    omega)

/-- What lies where in a disk is apart. -/
theorem laid_map {W : World} {d b n : Nat} {D : DataW Value} {t : TypeId} {vs : List Value} (h : Laid W d t vs) (hm : W.ownsMap Tryz.prog 3 rdC b n D) : d ≠ b := by
  rintro rfl
  obtain ⟨es, clock, hb, _⟩ := hm
  rw [show W.heap[d]? = _ from h] at hb
  cases hb
theorem type_u8_disk : (5 : TypeId) ≠ 66 := by decide
theorem row_laid {W : World} {d B : Nat} {k : IntKind} {v : Value} {zs : List Int} {vs : List Value} (h : Fresh B 5 k W v zs) (hl : Laid W d 66 vs) : v.ownBlock ≠ some d := by
  intro e
  rcases h.2 with ⟨rfl, _⟩ | ⟨g, cap, cur, rfl, _, hg, _⟩
  · cases e
  · have e1 : g = d := by simpa [Value.ownBlock] using e
    rw [e1, show W.heap[d]? = _ from hl] at hg
    injection hg with hg
    injection hg with _ h2
    exact type_u8_disk h2.symm
theorem row_map {W : World} {b n B : Nat} {D : DataW Value} {e : TypeId} {k : IntKind} {v : Value} {zs : List Int} (h : Fresh B e k W v zs) (hm : W.ownsMap Tryz.prog 3 rdC b n D) : v.ownBlock ≠ some b := by
  intro he
  obtain ⟨es, clock, hb, _⟩ := hm
  rcases h.2 with ⟨rfl, _⟩ | ⟨g, cap, cur, rfl, _, hg, _⟩
  · cases he
  · have e1 : g = b := by simpa [Value.ownBlock] using he
    rw [e1, hb] at hg
    cases hg

def IsFileEnd (n : Int) (w : World) (e : Ending) (w' : World) : Prop := e = .returned (.bool (decide (0 ≤ n ∧ n < 64))) ∧ w' = w

set_option maxHeartbeats 1000000 in
theorem isFile_any (n : Int) (w : World) : Calls Tryz.prog 40 #[.int .i64 n] w (IsFileEnd n w) := by
  by_cases h1 : 0 ≤ n
  · by_cases h2 : n < 64
    · have H := Lib.hid (decide_eq_true (And.intro h1 h2))
      go_enter Tryz.func40, Tryz.ntmps40
      go_wp2
      go_ret
      exact ⟨by rw [H.out]; rfl, rfl⟩
    · have H : Hid (decide (0 ≤ n ∧ n < 64) = false) := Lib.hid (decide_eq_false (fun h => h2 h.2))
      go_enter Tryz.func40, Tryz.ntmps40
      go_wp2
      go_ret
      exact ⟨by rw [H.out]; rfl, rfl⟩
  · have H : Hid (decide (0 ≤ n ∧ n < 64) = false) := Lib.hid (decide_eq_false (fun h => h1 h.1))
    go_enter Tryz.func40, Tryz.ntmps40
    go_wp2
    go_ret
    exact ⟨by rw [H.out]; rfl, rfl⟩

/-- A store into the disk's own block. -/
theorem dk_store {W : World} {d b room : Nat} {on : Bool} {left : Int} {es : List Fl} (h : Dk W d b room on left es) (j : Nat) (u : Value) {on' : Bool} {left' : Int}
    (he : ([.int .i64 (room : Int), .map (some b), .bool on, .int .i64 left] : List Value).set j u = [.int .i64 (room : Int), .map (some b), .bool on', .int .i64 left']) (hl : -1 ≤ left' ∧ left' ≤ 9223372036854775807) :
    Dk (W.setCell ⟨d, j, none⟩ u) d b room on' left' es := by
  have hk := keeps_set W d j u
  have h1 := h.dk.set j u
  rw [he] at h1
  exact ⟨h1, ownsMap_keeps h.mp hk (fun e => laid_map h.dk h.mp e.symm), h.sorted, fun f hf => flok_keeps (h.ok f hf) hk (fun k hk2 e => row_laid (h.ok f hf).row h.dk (by rw [hk2, e])), h.sep, h.room, hl⟩

def stepOn (on : Bool) (left : Int) : Bool := on && !decide (left = 0)
def StepEnd (d b room : Nat) (on : Bool) (left : Int) (es : List Fl) (w : World) (e : Ending) (w' : World) : Prop :=
  (stepOn on left = false → e = .returned (.int .i64 23) ∧ Dk w' d b room false left es) ∧
  (stepOn on left = true → e = .returned (.int .i64 0) ∧ Dk w' d b room on (max (left - 1) (-1)) es) ∧ Keeps (fun k => k = d) w w'

set_option maxHeartbeats 2000000 in
theorem step_any (d b room : Nat) (on : Bool) (left : Int) (es : List Fl) (w : World) (h : Dk w d b room on left es) :
    Calls Tryz.prog 43 #[.pointer (some ⟨d, 0, none⟩)] w (StepEnd d b room on left es w) := by
  have HD := Lib.hid h
  have c2 := h.dk.cell 2
  have c3 := h.dk.cell 3
  have f2 := h.dk.frozen 2
  have f3 := h.dk.frozen 3
  simp only [List.getElem?_cons_succ, List.getElem?_cons_zero] at c2 c3
  obtain ⟨hl1, hl2⟩ := h.left
  clear h
  cases on
  · go_enter Tryz.func43, Tryz.ntmps43
    go_wp2_with fail
    go_ret
    exact ⟨fun _ => ⟨rfl, dk_store HD.out 2 _ rfl ⟨hl1, hl2⟩⟩, fun h => by simp [stepOn] at h, keeps_set w d 2 _⟩
  · by_cases h0 : left = 0
    · subst h0
      go_enter Tryz.func43, Tryz.ntmps43
      go_wp2_with fail
      go_ret
      exact ⟨fun _ => ⟨rfl, dk_store HD.out 2 _ rfl ⟨hl1, hl2⟩⟩, fun h => by simp [stepOn] at h, keeps_set w d 2 _⟩
    · have b0 : (left == 0) = false := by simp; omega
      obtain ⟨m, hm⟩ : ∃ m : Int, max (left - 1) (-1) = m := ⟨_, rfl⟩
      have HM := Lib.hid hm
      have hmr : -1 ≤ m ∧ m ≤ 9223372036854775807 := by omega
      clear hm
      by_cases h1 : left - 1 < -1
      · have hm1 : m = -1 := by have := HM.out; omega
        subst hm1
        go_enter Tryz.func43, Tryz.ntmps43
        go_wp2_with fail
        go_ret
        exact ⟨fun h => by simp [stepOn, h0] at h, fun _ => ⟨rfl, by rw [HM.out]; exact dk_store HD.out 3 _ rfl hmr⟩, keeps_set w d 3 _⟩
      · have hm1 : m = left - 1 := by have := HM.out; omega
        subst hm1
        go_enter Tryz.func43, Tryz.ntmps43
        go_wp2_with fail
        go_ret
        exact ⟨fun h => by simp [stepOn, h0] at h, fun _ => ⟨rfl, by rw [HM.out]; exact dk_store HD.out 3 _ rfl hmr⟩, keeps_set w d 3 _⟩

def afterF (x : Fl) (es : List Fl) : List Fl := if x.bs = [] then eraseF x.key es else putF x es

theorem used_erase_le (k : Nat) (es : List Fl) : usedF (eraseF k es) ≤ usedF es := by
  induction es with
  | nil => exact Nat.le_refl _
  | cons f es ih =>
    unfold eraseF usedF at *
    rw [List.filter_cons]
    split
    · rw [List.map_cons, List.sum_cons, List.map_cons, List.sum_cons]; omega
    · rw [List.map_cons, List.sum_cons]; omega
theorem used_after (x : Fl) (es : List Fl) : usedF (afterF x es) = usedF (eraseF x.key es) + x.bs.length := by
  unfold afterF
  split
  · rename_i h; rw [h]; rfl
  · unfold putF; rw [used_ins]; omega

/-- The disk behind a change of one file. -/
theorem dk_after {W : World} {d b room : Nat} {on : Bool} {left : Int} {es : List Fl} {x : Fl} {n : Nat} (hl : Laid W d 66 [.int .i64 (room : Int), .map (some b), .bool on, .int .i64 left])
    (hm : W.ownsMap Tryz.prog 3 rdC b n (dm (mdOf (afterF x es)))) (hs : es.Pairwise (fun f g => f.key < g.key)) (hok : ∀ f ∈ eraseF x.key es, FlOk W f)
    (hsep : (eraseF x.key es).Pairwise (fun f g => ∀ k, f.val.ownBlock = some k → g.val.ownBlock ≠ some k))
    (hnew : x.bs ≠ [] → FlOk W x ∧ ∀ f ∈ eraseF x.key es, ∀ k, x.val.ownBlock = some k → f.val.ownBlock ≠ some k)
    (hroom : usedF (eraseF x.key es) + x.bs.length ≤ room ∧ room ≤ 16777216) (hleft : -1 ≤ left ∧ left ≤ 9223372036854775807) : Dk W d b room on left (afterF x es) := by
  have hse : (eraseF x.key es).Pairwise (fun f g => f.key < g.key) := hs.filter _
  have hm2 := ownsMap_tight hm
  rw [dm_size, mdOf, List.length_map] at hm2
  refine ⟨hl, hm2, ?_, ?_, ?_, ⟨by rw [used_after]; exact hroom.1, hroom.2⟩, hleft⟩
  · unfold afterF
    split
    · exact hse
    · refine ins_pairwise hse (fun y hy => ⟨fun h => h, fun h => ?_⟩) hse (fun a c _ h1 _ h2 => Nat.lt_trans h1 h2)
      have := (mem_erase.1 hy).2
      omega
  · unfold afterF
    split
    · exact hok
    · rename_i hne
      intro f hf
      rcases mem_ins.1 hf with rfl | hf
      · exact (hnew hne).1
      · exact hok f hf
  · unfold afterF
    split
    · exact hsep
    · rename_i hne
      have h2 := (hnew hne).2
      exact ins_pairwise hsep (fun y hy => ⟨fun _ => h2 y hy, fun _ k hk e => h2 y hy k e hk⟩) hse (fun a c _ _ hc _ => h2 c hc)

def PutEnd (d b room : Nat) (on : Bool) (left : Int) (es : List Fl) (w : World) (e : Ending) (w' : World) : Prop :=
  e = .returned (.tuple #[]) ∧ Dk w' d b room on left es ∧ Keeps (fun k => k = b) w w'

set_option maxHeartbeats 2000000 in
theorem put_any (d b room : Nat) (on : Bool) (left : Int) (es : List Fl) (file : Nat) (v : Value) (bs : List Nat) (dur : Nat) (w : World) (hf : file < 64) (hl : Laid w d 66 [.int .i64 (room : Int), .map (some b), .bool on, .int .i64 left])
    (hm : w.ownsMap Tryz.prog 3 rdC b es.length (dm (mdOf es))) (hs : es.Pairwise (fun f g => f.key < g.key)) (hok : ∀ f ∈ eraseF file es, FlOk w f)
    (hsep : (eraseF file es).Pairwise (fun f g => ∀ k, f.val.ownBlock = some k → g.val.ownBlock ≠ some k))
    (hnew : bs ≠ [] → FlOk w ⟨file, v, bs, dur⟩ ∧ ∀ f ∈ eraseF file es, ∀ k, v.ownBlock = some k → f.val.ownBlock ≠ some k) (hv : ∃ a cap, v = .slice a bs.length cap)
    (hroom : usedF (eraseF file es) + bs.length ≤ room ∧ room ≤ 16777216) (hleft : -1 ≤ left ∧ left ≤ 9223372036854775807) (hlen : es.length ≤ 64) :
    Calls Tryz.prog 42 #[.pointer (some ⟨d, 0, none⟩), .int .i64 (file : Int), .agg #[v, .int .i64 (dur : Int)]] w (PutEnd d b room on left (afterF ⟨file, v, bs, dur⟩ es) w) := by
  obtain ⟨a, cap, rfl⟩ := hv
  have HM := Lib.hid hm
  have HL := Lib.hid hl
  have HOK := Lib.hid hok
  have HNEW := Lib.hid hnew
  have HSEP := Lib.hid hsep
  have HS := Lib.hid hs
  have hba : Below w.heap.size w (w.alloc (.cells #[.slice a bs.length cap, .int .i64 (dur : Int)] 83)) := (Below.refl _ w).alloc (Nat.le_refl _) _
  have hla : Laid (w.alloc (.cells #[.slice a bs.length cap, .int .i64 (dur : Int)] 83)) d 66 [.int .i64 (room : Int), .map (some b), .bool on, .int .i64 left] := hl.below hba
  have hma : (w.alloc (.cells #[.slice a bs.length cap, .int .i64 (dur : Int)] 83)).ownsMap Tryz.prog 3 rdC b es.length (dm (mdOf es)) := ownsMap_keeps hm (Keeps.of_below hba) (by have := hm.lt; omega)
  have c1 := hla.cell 1
  simp only [List.getElem?_cons_succ, List.getElem?_cons_zero] at c1
  have hbx := (Boxed.new w 83 (.slice a bs.length cap))
  have hlx : Laid (w.alloc (.cells #[.slice a bs.length cap, .int .i64 (dur : Int)] 83)) w.heap.size 83 [.slice a bs.length cap, .int .i64 (dur : Int)] := Laid.new w _ _
  have x0 := hlx.cell 0
  have x1 := hlx.cell 1
  simp only [List.getElem?_cons_succ, List.getElem?_cons_zero] at x0 x1
  have hsa : (w.alloc (.cells #[.slice a bs.length cap, .int .i64 (dur : Int)] 83)).heap.size = w.heap.size + 1 := by simp
  by_cases h0 : bs = []
  · subst h0
    have HAF : Hid (afterF ⟨file, .slice a ([] : List Nat).length cap, [], dur⟩ es = eraseF file es) := Lib.hid (by unfold afterF; rw [if_pos rfl])
    simp only [List.length_nil] at *
    have HMA := Lib.hid hma
    have HLA := Lib.hid hla
    have HBA := Lib.hid hba
    clear hm hl hok hnew hsep hs hma hla hba hbx hlx hsa
    go_enter Tryz.func42, Tryz.ntmps42
    go_wp2_with (at_delete; go_must (refine wpList_delete_own _ rfl _ _ 64 3 rfl 83 law_int Tryz.underlying64 rdC b es.length (dm (mdOf es)) rfl HMA.out _ _ rfl (key_int hf) ?_); intro w1 hown1 hturn1)
    have hg1 := hturn1.grown
    have hk1 := Keeps.of_grown (A := fun k => k = b) hg1 (fun k h => by injection h with h; exact h.symm)
    have hkk : Keeps (fun k => k = b) w w1 := (Keeps.of_below_size HBA.out).trans hk1
    rw [dm_del, erase_md] at hown1
    have hdb := laid_map HL.out HM.out
    go_end0
    refine ⟨rfl, ?_, hkk⟩
    refine dk_after (n := es.length) (HLA.out.keeps hk1 hdb) ?_ HS.out (fun f hf2 => flok_keeps (HOK.out f hf2) hkk (fun k hk2 e => row_map (HOK.out f hf2).row HM.out (by rw [hk2, e]))) HSEP.out (fun h => absurd rfl h) hroom hleft
    rw [HAF.out]
    exact hown1
  · have hb0 : ¬ bs.length = 0 := fun h => h0 (List.eq_nil_of_length_eq_zero h)
    have HAF : Hid (afterF ⟨file, .slice a bs.length cap, bs, dur⟩ es = putF ⟨file, .slice a bs.length cap, bs, dur⟩ es) := Lib.hid (by unfold afterF; rw [if_neg h0])
    obtain ⟨w1, hrun, hown1, hg1⟩ := World.ownsMap.update (w := (w.alloc (.cells #[.slice a bs.length cap, .int .i64 (dur : Int)] 83)).drew) hma.drew law_int Tryz.underlying64 (show es.length < maxLen by unfold maxLen; omega) (key := .int .i64 (file : Int)) (val := .agg #[.slice a bs.length cap, .int .i64 (dur : Int)]) (key_int hf) rfl
    have HMA := Lib.hid hma
    have HLA := Lib.hid hla
    have HBA := Lib.hid hba
    have HW1 := Lib.hid (And.intro hown1 hg1)
    have c1d := c1
    have x0d := x0
    have x1d := x1
    clear hm hl hok hnew hsep hs hma hla hba hbx hlx hsa hown1 hg1
    go_enter Tryz.func42, Tryz.ntmps42
    go_wp2_with fail
    go_region
    obtain ⟨hown1, hg1⟩ := HW1.out
    have hk1 := Keeps.of_grown (A := fun k => k = b) hg1 (fun k h => by injection h with h; exact h.symm)
    have hkk : Keeps (fun k => k = b) w w1 := ((Keeps.of_below_size HBA.out).drew).trans hk1
    have hdb := laid_map HL.out HM.out
    rw [show DataW.held (.agg #[.slice a bs.length cap, .int .i64 (dur : Int)]) = DataW.held (cont (.slice a bs.length cap) dur) from rfl, dm_put, put_md ⟨file, .slice a bs.length cap, bs, dur⟩] at hown1
    go_end0
    refine ⟨rfl, ?_, hkk⟩
    refine dk_after (n := es.length + 1) (HL.out.keeps hkk hdb) ?_ HS.out (fun f hf2 => flok_keeps (HOK.out f hf2) hkk (fun k hk2 e => row_map (HOK.out f hf2).row HM.out (by rw [hk2, e]))) HSEP.out
      (fun h => ⟨flok_keeps (HNEW.out h).1 hkk (fun k hk2 e => row_map (HNEW.out h).1.row HM.out (by rw [← e]; exact hk2)), (HNEW.out h).2⟩) hroom hleft
    rw [HAF.out]
    exact hown1

theorem find_mem {k : Nat} {es : List Fl} {f : Fl} (h : findF k es = some f) : f ∈ es ∧ f.key = k := by
  unfold findF at h
  exact ⟨List.mem_of_find?_eq_some h, by simpa using List.find?_some h⟩
/-- An entry of the map is a file's. -/
theorem entry_file {es : List Fl} {kl : Lit} {key v : Value} (hkey : keyOf Tryz.prog 3 key = some kl) (hat : ∀ zd, (dm (mdOf es)).atKey kl zd = .held v) : ∃ f ∈ es, key = .int .i64 (f.key : Int) ∧ kl = .int .i64 (f.key : Int) ∧ v = cont f.val f.dur := by
  obtain ⟨x, rfl, rfl, _⟩ := Maps.keyOf_int_inv (q := .i64) Tryz.underlying3 hkey
  unfold dm mdOf at hat
  simp only [DataW.atKey, List.map_map] at hat
  cases hf : List.find? (fun p => p.1.sameKey (.int .i64 x)) (es.map ((fun p : Nat × Value => ((Lit.int .i64 (p.1 : Int), DataW.held p.2) : Lit × DataW Value)) ∘ fun f => (f.key, cont f.val f.dur))) with
  | none =>
    have h := hat .nil
    rw [hf] at h
    cases h
  | some p =>
    have h := hat .nil
    rw [hf] at h
    have hm := List.mem_of_find?_eq_some hf
    have hs := List.find?_some hf
    obtain ⟨f, hfm, rfl⟩ := List.mem_map.1 hm
    simp only [Function.comp, Lit.sameKey, decide_eq_true_eq, true_and] at hs
    simp only [Function.comp] at h
    injection h with h
    exact ⟨f, hfm, by rw [hs], by rw [hs], h.symm⟩

def leftF (left : Lit → Bool) (es : List Fl) : List Fl := es.filter fun f => left (.int .i64 (f.key : Int))
theorem left_start (es : List Fl) : leftF (Maps.has (dm (mdOf es))) es = es := by
  unfold leftF
  refine List.filter_eq_self.2 fun f hf => ?_
  rw [dm, Maps.has_eq, List.any_eq_true]
  refine ⟨(.int .i64 (f.key : Int), .held (cont f.val f.dur)), List.mem_map.2 ⟨(f.key, cont f.val f.dur), List.mem_map.2 ⟨f, hf, rfl⟩, rfl⟩, by simp [Lit.sameKey]⟩
theorem left_end {left : Lit → Bool} (h : ∀ kl, left kl = false) (es : List Fl) : leftF left es = [] := by
  unfold leftF
  refine List.filter_eq_nil_iff.2 fun f _ => by rw [h]; simp
/-- One file fewer is left. -/
theorem left_step {left : Lit → Bool} {es : List Fl} (hs : es.Pairwise (fun f g => f.key < g.key)) {f : Fl} (hf : f ∈ es) (hl : left (.int .i64 (f.key : Int)) = true) :
    usedF (leftF left es) = f.bs.length + usedF (leftF (fun z => left z && !z.sameKey (.int .i64 (f.key : Int))) es) := by
  induction es with
  | nil => simp at hf
  | cons g es ih =>
    rw [List.pairwise_cons] at hs
    have key : ∀ (es' : List Fl), (∀ h ∈ es', h.key ≠ f.key) → leftF (fun z => left z && !z.sameKey (.int .i64 (f.key : Int))) es' = leftF left es' := by
      intro es' hne
      unfold leftF
      refine List.filter_congr fun h hh => ?_
      simp only [same_int, decide_eq_false (hne h hh), Bool.not_false, Bool.and_true]
    rcases List.mem_cons.1 hf with rfl | hf
    · have h1 := key es (fun h hh => by have := hs.1 h hh; omega)
      unfold leftF at *
      rw [List.filter_cons, if_pos hl, List.filter_cons, if_neg (by simp only [same_int, decide_true, Bool.not_true, Bool.and_false]; decide), h1]
      rfl
    · have hne : g.key ≠ f.key := by have := hs.1 f hf; omega
      have h1 := ih hs.2 hf
      unfold leftF at *
      rw [List.filter_cons, List.filter_cons]
      by_cases hg : left (.int .i64 (g.key : Int)) = true
      · rw [if_pos hg, if_pos (by simp only [same_int, decide_eq_false hne, hg]; rfl)]
        unfold usedF at *
        rw [List.map_cons, List.sum_cons, h1, List.map_cons, List.sum_cons]
        omega
      · rw [if_neg hg, if_neg (by rw [Bool.not_eq_true] at hg; simp only [hg, Bool.false_and]; decide)]
        exact h1

def UsedEnd (es : List Fl) (w : World) (e : Ending) (w' : World) : Prop := e = .returned (.int .i64 (usedF es : Int)) ∧ Below w.heap.size w w'

set_option maxHeartbeats 4000000 in
theorem used_any (d b room : Nat) (on : Bool) (left : Int) (es : List Fl) (w : World) (h : Dk w d b room on left es) :
    Calls Tryz.prog 41 #[.pointer (some ⟨d, 0, none⟩)] w (UsedEnd es w) := by
  have HD := Lib.hid h
  have c1 := h.dk.cell 1
  simp only [List.getElem?_cons_succ, List.getElem?_cons_zero] at c1
  have hmp := h.mp
  have hul : usedF es ≤ 16777216 := Nat.le_trans h.room.1 h.room.2
  clear h
  go_enter Tryz.func41, Tryz.ntmps41
  go_wp2_with (first
    | (at_range; refine wpList_range_own _ rfl _ 64 rfl 3 83 law_int Tryz.underlying64 rdC b es.length (dm (mdOf es)) rfl hmp ?_; intro w0 hrg0 hg0 hs0)
    | go_in)
  go_frame
  go_loopw [3] (fun s3 wr => ∃ (lf : Lit → Bool) (cnt acc : Nat), s3 = .int .i64 (acc : Int) ∧ Hid (wr.ranges Tryz.prog 3 rdC b w.heap.size es.length (dm (mdOf es)) lf cnt) ∧ Hid (usedF (leftF lf es) + acc = usedF es) ∧ Hid (Below w.heap.size w wr)) (fun _ wr => wr.rangeLeft b w.heap.size)
  case atStart => exact ⟨_, _, 0, rfl, Lib.hid hrg0, Lib.hid (by rw [left_start]; rfl), Lib.hid ((Below.refl _ w).grown hg0 (Nat.le_refl _) (fun k h => by cases h))⟩
  case round =>
    obtain ⟨lf, cnt, acc, rfl, HRG, HAC, HBE⟩ := hrel
    clear hmp hrg0 hg0
    go_wp2_with (first
      | (at_next; refine wpList_next_ranges (α := Value) (β := Value) _ rfl _ rfl 3 law_int rdC id id (fun k kl _ => ⟨k, rfl⟩) (fun v y _ => ⟨v, rfl⟩) b w.heap.size es.length _ _ _ rfl HRG.out ?_ ?_)
      | go_in)
    · intro _ hl0
      have hac := HAC.out
      rw [left_end hl0] at hac
      have hac2 : acc = usedF es := by rw [← hac]; show acc = 0 + acc; omega
      have HA2 := Lib.hid hac2
      clear hac hac2
      go_wp2
      go_ret
      exact ⟨by rw [← HA2.out]; rfl, HBE.out⟩
    · intro x c kl y yp w1 cnt1 hkey hlx hRv hat hrg1 hlt hg1 hs1 hen
      obtain ⟨rfl, _⟩ : y = DataW.held c ∧ yp = [] := by
        have h : (some (DataW.held c, ([] : List MemPlace)) : Option (DataW Value × List MemPlace)) = some (y, yp) := hRv
        injection h with h
        injection h with h1 h2
        exact ⟨h1.symm, h2.symm⟩
      obtain ⟨f, hfm, rfl, rfl, rfl⟩ := entry_file hkey hat
      have HLT := Lib.hid hlt
      have HFO := Lib.hid (HD.out.ok f hfm)
      have HST := Lib.hid (left_step HD.out.sorted hfm hlx)
      have HRG1 := Lib.hid hrg1
      have HB1 := Lib.hid (HBE.out.grown hg1 HBE.out.size (fun k h => by injection h with h; omega))
      obtain ⟨fa, fc, hfv, _⟩ := fresh_elems HFO.out.row
      rw [natI_length] at hfv
      unfold cont at hen ⊢
      rw [hfv] at hen ⊢
      have hfl : acc + f.bs.length ≤ 16777216 := by have := HAC.out; have := HST.out; omega
      clear hkey hlx hRv hat hrg1 hlt hg1 hfv
      go_wp2
      refine ⟨⟨_, cnt1, acc + f.bs.length, by rw [Int.natCast_add], Lib.hid (HRG1.out.alloc _), Lib.hid (by have := HST.out; have := HAC.out; omega), Lib.hid (HB1.out.alloc HB1.out.size _)⟩, ?_⟩
      rw [(HRG1.out.alloc _).left_eq, HRG.out.left_eq]
      exact HLT.out

def OnEnd (on : Bool) (w : World) (e : Ending) (w' : World) : Prop := e = .returned (.bool on) ∧ w' = w
def armL (on : Bool) (left n : Int) : Int := if on then max n (-1) else left
def ArmEnd (d b room : Nat) (on : Bool) (left n : Int) (es : List Fl) (w : World) (e : Ending) (w' : World) : Prop := e = .returned (.tuple #[]) ∧ Dk w' d b room on (armL on left n) es ∧ Keeps (fun k => k = d) w w'
set_option maxHeartbeats 1000000 in
theorem arm_any (d b room : Nat) (on : Bool) (left n : Int) (es : List Fl) (w : World) (h : Dk w d b room on left es) (hn : -9223372036854775808 ≤ n ∧ n ≤ 9223372036854775807) :
    Calls Tryz.prog 27 #[.pointer (some ⟨d, 0, none⟩), .int .i64 n] w (ArmEnd d b room on left n es w) := by
  have HD := Lib.hid h
  have HN := Lib.hid hn
  have c2 := h.dk.cell 2
  have c3 := h.dk.cell 3
  have f3 := h.dk.frozen 3
  simp only [List.getElem?_cons_succ, List.getElem?_cons_zero] at c2 c3
  clear h hn
  cases on
  · go_enter Tryz.func27, Tryz.ntmps27
    go_wp2_with fail
    go_end0
    exact ⟨rfl, HD.out, Keeps.refl _ _⟩
  · by_cases h1 : n < -1
    · have HM : Hid (armL true left n = -1) := Lib.hid (by unfold armL; rw [if_pos rfl]; omega)
      go_enter Tryz.func27, Tryz.ntmps27
      go_wp2_with fail
      go_end0
      exact ⟨rfl, by rw [HM.out]; exact dk_store HD.out 3 _ rfl (by decide), keeps_set w d 3 _⟩
    · have HM : Hid (armL true left n = n) := Lib.hid (by unfold armL; rw [if_pos rfl]; omega)
      go_enter Tryz.func27, Tryz.ntmps27
      go_wp2_with fail
      go_end0
      exact ⟨rfl, by rw [HM.out]; exact dk_store HD.out 3 _ rfl (by have := HN.out; omega), keeps_set w d 3 _⟩

/-! ### A file's contents looked up -/
def contOf (k : Nat) (es : List Fl) : Value := match findF k es with
  | some f => cont f.val f.dur
  | none => cont (.slice none 0 0) 0
theorem zero_cont (w : World) : (zeroValue 83).run Tryz.prog w = .ok (cont (.slice none 0 0) 0) w := by
  have h : (Tryz.prog.info? 83).map (fun i => i.zero) = some (some (cont (.slice none 0 0) 0)) := by kernel_rfl
  cases hi : Tryz.prog.info? 83 with
  | none => rw [hi] at h; cases h
  | some i =>
    rw [hi] at h
    injection h with h
    simp [zeroValue, typeInfo, hi, h]
theorem lookup_run {W : World} {b n : Nat} {es : List Fl} (h : W.ownsMap Tryz.prog 3 rdC b n (dm (mdOf es))) {k : Nat} (hk : k < 64) :
    (Instr.lookup 64 (.map (some b)) (.int .i64 (k : Int)) false).run Tryz.prog W = .ok (contOf k es) W := by
  obtain ⟨v, ps, hrun, hv⟩ := World.ownsMap.lookup h law_int Tryz.underlying64 (zero_cont W) (zd := .held (cont (.slice none 0 0) 0)) (zp := []) rfl (key_int hk)
  rw [hrun]
  rw [dm_at, look_find] at hv
  have hv2 : v = contOf k es := by
    have h2 : (some (DataW.held v, ([] : List MemPlace)) : Option (DataW Value × List MemPlace)) = _ := hv
    injection h2 with h2
    injection h2 with h2 _
    unfold contOf
    cases hf : findF k es with
    | none => rw [hf] at h2; injection h2
    | some f => rw [hf] at h2; injection h2
  rw [hv2]
def bytesOf (k : Nat) (es : List Fl) : List Nat := match findF k es with
  | some f => f.bs
  | none => []

def NewEnd (room : Int) (w : World) (e : Ending) (w' : World) : Prop :=
  (¬ (0 ≤ room ∧ room ≤ 16777216) → e = .returned (.tuple #[.pointer none, .int .i64 1]) ∧ w' = w) ∧
  (0 ≤ room ∧ room ≤ 16777216 → ∃ d b, e = .returned (.tuple #[.pointer (some ⟨d, 0, none⟩), .int .i64 0]) ∧ Dk w' d b room.toNat true (-1) [] ∧ w.heap.size ≤ d ∧ w.heap.size ≤ b ∧ Below w.heap.size w w')

set_option maxHeartbeats 2000000 in
theorem new_any (room : Int) (w : World) : Calls Tryz.prog 5 #[.int .i64 room] w (NewEnd room w) := by
  by_cases h1 : room < 0
  · have HN : Hid (¬ (0 ≤ room ∧ room ≤ 16777216)) := Lib.hid (by omega)
    go_enter Tryz.func5, Tryz.ntmps5
    go_wp2_with fail
    refine bodyPost_ret (results_tmp2 rfl _ _ _) rfl ?_
    exact ⟨fun _ => ⟨rfl, rfl⟩, fun h => absurd h HN.out⟩
  · by_cases h2 : room > 16777216
    · have HN : Hid (¬ (0 ≤ room ∧ room ≤ 16777216)) := Lib.hid (by omega)
      go_enter Tryz.func5, Tryz.ntmps5
      go_wp2_with fail
      refine bodyPost_ret (results_tmp2 rfl _ _ _) rfl ?_
      exact ⟨fun _ => ⟨rfl, rfl⟩, fun h => absurd h HN.out⟩
    · have HY : Hid (0 ≤ room ∧ room ≤ 16777216) := Lib.hid (by omega)
      have hmk : (Instr.makeMap 64 none).run Tryz.prog w = .ok (.map (some w.heap.size)) (w.alloc (.map #[] 0)) := rfl
      go_enter Tryz.func5, Tryz.ntmps5
      go_wp2_with fail
      refine bodyPost_ret (results_tmp2 rfl _ _ _) rfl ?_
      refine ⟨fun h => absurd HY.out h, fun _ => ⟨w.heap.size + 1, w.heap.size, rfl, ?_, by omega, by omega, ((Below.refl _ w).alloc (Nat.le_refl _) _).alloc (by simp) _⟩⟩
      have hl := Laid.new (w.alloc (.map #[] 0)) 66 [.int .i64 room, .map (some w.heap.size), .bool true, .int .i64 (-1)]
      rw [World.size_alloc] at hl
      have hrm : room = ((room.toNat : Nat) : Int) := by have := HY.out; omega
      refine ⟨?_, ?_, List.Pairwise.nil, fun f hf => by simp at hf, List.Pairwise.nil, ⟨by simp [usedF], by have := HY.out; omega⟩, by decide⟩
      · rw [← hrm]; exact hl
      · exact (World.ownsMap_made w Tryz.prog 3 rdC).alloc _

set_option maxHeartbeats 2000000 in
theorem bclone_any (v : Value) (zs : List Int) (w : World) (hv : Fresh 0 5 .u8 w v zs) (hlen : zs.length ≤ 20000000) :
    Calls Tryz.prog 49 #[v] w (Copies 5 .u8 zs w) := by
  rcases fresh_form hv with ⟨rfl, rfl⟩ | ⟨g, cap, rfl, _, hg, hc, hm⟩
  · clear hv
    have q : ∀ (w : World) (a : Option Addr) (n c n' c' : Nat), (binOp .eql 33 (.slice a n c) (.slice none n' c')).run Tryz.prog w = .ok (.bool a.isNone) w := fun w a n c n' c' => Lib.run_eql_slice_nil w _ _ a n c n' c' under_bytes
    go_enter Tryz.func49, Tryz.ntmps49
    go_wp2_with fail
    go_ret
    exact copies_mk (fresh_nil _ _ _ _) (Below.refl _ _)
  · have HV := Lib.hid hv
    have hl0 : Fresh w.heap.size 5 .u8 (w.alloc (.cells #[] 5)) (.slice (some ⟨w.heap.size, 0, none⟩) 0 0) [] := fresh_lit w w.heap.size 5 .u8 [] (Nat.le_refl _) (by simp)
    have HL0 := Lib.hid hl0
    have HR := Lib.hid (row_keeps (row_of_fresh hv) ((Below.refl _ w).alloc (Nat.le_refl _) (.cells #[] 5)))
    have HZ : Hid (zs.length ≤ 20000000) := Lib.hid hlen
    clear hv hl0
    have q : ∀ (w : World) (a : Option Addr) (n c n' c' : Nat), (binOp .eql 33 (.slice a n c) (.slice none n' c')).run Tryz.prog w = .ok (.bool a.isNone) w := fun w a n c n' c' => Lib.run_eql_slice_nil w _ _ a n c n' c' under_bytes
    go_enter Tryz.func49, Tryz.ntmps49
    go_wp2_with (at_builtin; go_must (refine wpList_append_buf rfl _ _ 33 rfl w.heap.size (.slice (some ⟨w.heap.size, 0, none⟩) 0 0) [] rfl HL0.out _ zs rfl (.inl ⟨rfl, HR.out⟩) (by have := HZ.out; simp; omega) (by simp) ?_); intro b2 n2 c2 w3 hn2 hfr hgrow hat; have HG := Lib.hid (And.intro hfr hgrow); clear hn2 hfr hgrow hat)
    go_ret
    obtain ⟨hfr, hgrow⟩ := HG.out
    rw [List.nil_append] at hfr
    exact ⟨_, rfl, hfr, ((Below.refl _ w).alloc (Nat.le_refl _) _).grown hgrow (by simp) (fun k e => by cases e; exact Nat.le_refl _)⟩

/-- What Read gives. -/
def ReadEnd' (on : Bool) (file : Int) (es : List Fl) (w : World) (e : Ending) (w' : World) : Prop :=
  (¬ (0 ≤ file ∧ file < 64) → e = .returned (.tuple #[.slice none 0 0, .int .i64 1])) ∧
  (0 ≤ file ∧ file < 64 → on = false → e = .returned (.tuple #[.slice none 0 0, .int .i64 23])) ∧
  (0 ≤ file ∧ file < 64 → on = true → ∃ v, e = .returned (.tuple #[v, .int .i64 0]) ∧ Fresh w.heap.size 5 .u8 w' v (natI (bytesOf file.toNat es))) ∧ Below w.heap.size w w'

theorem used_mem {es : List Fl} {f : Fl} (h : f ∈ es) : f.bs.length ≤ usedF es := by
  unfold usedF
  induction es with
  | nil => simp at h
  | cons g t ih =>
    rw [List.map_cons, List.sum_cons]
    rcases List.mem_cons.1 h with rfl | h
    · omega
    · have := ih h; omega
def durF (k : Nat) (es : List Fl) : Nat := match findF k es with
  | some f => f.dur
  | none => 0
theorem file_row {W : World} {d b room : Nat} {on : Bool} {left : Int} {es : List Fl} (h : Dk W d b room on left es) (k : Nat) :
    ∃ a cap, contOf k es = .agg #[.slice a (bytesOf k es).length cap, .int .i64 (durF k es : Int)] ∧ Fresh 0 5 .u8 W (.slice a (bytesOf k es).length cap) (natI (bytesOf k es)) ∧ (bytesOf k es).length ≤ 16777216 ∧ (∀ c ∈ bytesOf k es, c < 256) := by
  unfold contOf bytesOf durF
  cases hf : findF k es with
  | none => exact ⟨none, 0, rfl, fresh_nil _ _ _ _, Nat.zero_le _, fun c hc => by simp at hc⟩
  | some f =>
    obtain ⟨hm, _⟩ := find_mem hf
    have hok := h.ok f hm
    obtain ⟨fa, fc, hfv, _⟩ := fresh_elems hok.row
    rw [natI_length] at hfv
    have h1 := hok.row
    rw [hfv] at h1
    refine ⟨fa, fc, ?_, h1, Nat.le_trans (used_mem hm) (Nat.le_trans h.room.1 h.room.2), hok.b8⟩
    simp only [cont, hfv]

set_option maxHeartbeats 2000000 in
theorem read_any (d b room : Nat) (on : Bool) (left : Int) (es : List Fl) (file : Int) (w : World) (h : Dk w d b room on left es) :
    Calls Tryz.prog 16 #[.pointer (some ⟨d, 0, none⟩), .int .i64 file] w (ReadEnd' on file es w) := by
  have HD := Lib.hid h
  have c1 := h.dk.cell 1
  have c2 := h.dk.cell 2
  simp only [List.getElem?_cons_succ, List.getElem?_cons_zero] at c1 c2
  by_cases hf : 0 ≤ file ∧ file < 64
  · have HF := Lib.hid hf
    have hdec : decide (0 ≤ file ∧ file < 64) = true := decide_eq_true hf
    cases on
    · clear h hf
      go_enter Tryz.func16, Tryz.ntmps16
      go_wp2_with fail
      refine (isFile_any file w).mono ?_
      rintro e w1 ⟨rfl, rfl⟩
      rw [hdec]
      clear hdec
      go_wp2_with fail
      refine bodyPost_ret (results_tmp2 rfl _ _ _) rfl ?_
      exact ⟨fun h => absurd HF.out h, fun _ _ => rfl, fun _ h => (by cases h), Below.refl _ _⟩
    · obtain ⟨k, rfl⟩ := Int.eq_ofNat_of_zero_le hf.1
      have hk : k < 64 := by omega
      have hlk := lookup_run h.mp hk
      obtain ⟨a, cap, hct, hrow, hlen, _⟩ := file_row h k
      generalize durF k es = dur at hct
      rw [hct] at hlk
      have hfd : (Instr.field 83 (.agg #[.slice a (bytesOf k es).length cap, .int .i64 (dur : Int)]) 0).run Tryz.prog w = .ok (.slice a (bytesOf k es).length cap) w := rfl
      have HRW := Lib.hid hrow
      have HLN := Lib.hid hlen
      clear h hf hct hrow hlen
      go_enter Tryz.func16, Tryz.ntmps16
      go_wp2_with fail
      refine (isFile_any _ w).mono ?_
      rintro e w1 ⟨rfl, rfl⟩
      rw [hdec]
      clear hdec
      go_wp2_with fail
      refine (bclone_any _ (natI (bytesOf k es)) w1 HRW.out (by rw [natI_length]; have := HLN.out; omega)).mono ?_
      rintro e w2 ⟨v, rfl, hv, hb⟩
      have HV := Lib.hid hv
      have HB := Lib.hid hb
      clear hv hb
      go_wp2_with fail
      refine bodyPost_ret (results_tmp2 rfl _ _ _) rfl ?_
      exact ⟨fun h => absurd HF.out h, fun _ h => (by cases h), fun _ _ => ⟨v, rfl, HV.out⟩, HB.out⟩
  · have HF := Lib.hid hf
    have hdec : decide (0 ≤ file ∧ file < 64) = false := decide_eq_false hf
    clear h hf
    go_enter Tryz.func16, Tryz.ntmps16
    go_wp2_with fail
    refine (isFile_any file w).mono ?_
    rintro e w1 ⟨rfl, rfl⟩
    rw [hdec]
    clear hdec
    go_wp2_with fail
    refine bodyPost_ret (results_tmp2 rfl _ _ _) rfl ?_
    exact ⟨fun _ => rfl, fun h => absurd h HF.out, fun h => absurd h HF.out, Below.refl _ _⟩

theorem sorted_len {m n : Nat} : ∀ {es : List Fl}, es.Pairwise (fun f g => f.key < g.key) → (∀ f ∈ es, m ≤ f.key ∧ f.key < n) → es.length ≤ n - m
  | [], _, _ => Nat.zero_le _
  | f :: t, h, hk => by
    obtain ⟨h1, h2⟩ := List.pairwise_cons.1 h
    have h3 := hk f (by simp)
    have := sorted_len (m := f.key + 1) (n := n) h2 (fun g hg => ⟨h1 g hg, (hk g (by simp [hg])).2⟩)
    rw [List.length_cons]
    omega
theorem dk_len {W : World} {d b room : Nat} {on : Bool} {left : Int} {es : List Fl} (h : Dk W d b room on left es) : es.length ≤ 64 :=
  sorted_len (m := 0) h.sorted (fun f hf => ⟨Nat.zero_le _, (h.ok f hf).key⟩)

theorem fl_pair_of {R : Fl → Fl → Prop} (hR : ∀ x y, R x y → R y x) : ∀ {es : List Fl}, es.Pairwise R → ∀ {f g : Fl}, f ∈ es → g ∈ es → f.key ≠ g.key → R f g
  | [], _, _, _, hf, _, _ => by simp at hf
  | x :: t, h, f, g, hf, hg, hne => by
    obtain ⟨h1, h2⟩ := List.pairwise_cons.1 h
    rcases List.mem_cons.1 hf with rfl | hf2
    · rcases List.mem_cons.1 hg with rfl | hg2
      · exact absurd rfl hne
      · exact h1 g hg2
    · rcases List.mem_cons.1 hg with rfl | hg2
      · exact hR _ _ (h1 f hf2)
      · exact fl_pair_of hR h2 hf2 hg2 hne
/-- A file's block lies in the disk's footprint, and apart from the other files' blocks. -/
theorem file_apart {W : World} {d b room : Nat} {on : Bool} {left : Int} {es : List Fl} (h : Dk W d b room on left es) {k : Nat} {v x : Value} (hc : contOf k es = .agg #[v, x]) :
    (∀ f ∈ eraseF k es, ∀ j, f.val.ownBlock = some j → v.ownBlock ≠ some j) ∧ (∀ j, v.ownBlock = some j → dkFoot d b es j ∧ j ≠ d ∧ j ≠ b) := by
  unfold contOf at hc
  cases hf : findF k es with
  | none =>
    rw [hf] at hc
    have hv : v = .slice none 0 0 := by
      have h2 : Value.agg #[.slice none 0 0, .int .i64 0] = Value.agg #[v, x] := hc
      injection h2 with h2
      have := congrArg (fun q : Array Value => q.toList) h2
      injection this with h3 h4
      exact h3.symm
    subst hv
    exact ⟨fun f hf j hj h2 => (by cases h2), fun j hj => (by cases hj)⟩
  | some f =>
    rw [hf] at hc
    have hv : v = f.val := by
      have h2 : Value.agg #[f.val, .int .i64 (f.dur : Int)] = Value.agg #[v, x] := hc
      injection h2 with h2
      have := congrArg (fun q : Array Value => q.toList) h2
      injection this with h3 h4
      exact h3.symm
    subst hv
    obtain ⟨hm, hk⟩ := find_mem hf
    refine ⟨fun g hg j hj => ?_, fun j hj => ⟨.inr (.inr ⟨f, hm, hj⟩), fun e => row_laid (h.ok f hm).row h.dk (by rw [hj, e]), fun e => row_map (h.ok f hm).row h.mp (by rw [hj, e])⟩⟩
    obtain ⟨hg1, hg2⟩ := mem_erase.1 hg
    exact fl_pair_of (R := fun f g => ∀ k, f.val.ownBlock = some k → g.val.ownBlock ≠ some k) (fun x y hxy k h1 h2 => hxy k h2 h1) h.sep hg1 hm (by rw [hk]; exact hg2) j hj

theorem used_split (k : Nat) (es : List Fl) : usedF (eraseF k es) + (bytesOf k es).length ≤ usedF es := by
  induction es with
  | nil => simp [eraseF, bytesOf, findF, usedF]
  | cons f t ih =>
    by_cases hk : f.key = k
    · have h1 : bytesOf k (f :: t) = f.bs := by unfold bytesOf findF; rw [List.find?_cons_of_pos (by simp [hk])]
      have h2 : eraseF k (f :: t) = eraseF k t := by unfold eraseF; rw [List.filter_cons_of_neg (by simp [hk])]
      have h3 := used_erase_le k t
      have h4 : usedF (f :: t) = f.bs.length + usedF t := by simp [usedF]
      rw [h1, h2, h4]
      omega
    · have h1 : bytesOf k (f :: t) = bytesOf k t := by unfold bytesOf findF; rw [List.find?_cons_of_neg (by simp [hk])]
      have h2 : eraseF k (f :: t) = f :: eraseF k t := by unfold eraseF; rw [List.filter_cons_of_pos (by simp [hk])]
      have h4 : usedF (f :: t) = f.bs.length + usedF t := by simp [usedF]
      have h5 : usedF (f :: eraseF k t) = f.bs.length + usedF (eraseF k t) := by simp [usedF]
      rw [h1, h2, h4, h5]
      omega
theorem dur_le {W : World} {d b room : Nat} {on : Bool} {left : Int} {es : List Fl} (h : Dk W d b room on left es) (k : Nat) : durF k es ≤ (bytesOf k es).length := by
  unfold durF bytesOf
  cases hf : findF k es with
  | none => exact Nat.le_refl _
  | some f => exact (h.ok f (find_mem hf).1).dur
theorem keeps_cut {A : Foot} {w w' : World} (h : Keeps (fun j => A j ∨ w.heap.size ≤ j) w w') : Keeps A w w' :=
  ⟨h.os, h.tape, h.output, h.size, fun k hk hn => h.same k hk (by rintro (h | h); exact hn h; omega)⟩

/-- What Append gives. -/
def AppEnd (d b room : Nat) (on : Bool) (left : Int) (es : List Fl) (file : Int) (zs : List Nat) (w : World) (e : Ending) (w' : World) : Prop :=
  (¬ (0 ≤ file ∧ file < 64) → e = .returned (.int .i64 1) ∧ Dk w' d b room on left es) ∧
  (0 ≤ file ∧ file < 64 → on = false → e = .returned (.int .i64 23) ∧ Dk w' d b room on left es) ∧
  (0 ≤ file ∧ file < 64 → on = true → ¬ usedF es + zs.length ≤ room → e = .returned (.int .i64 22) ∧ Dk w' d b room on left es) ∧
  (0 ≤ file ∧ file < 64 → on = true → usedF es + zs.length ≤ room → ∃ (v : Value) (W : World), StepEnd d b room true left (afterF ⟨file.toNat, v, bytesOf file.toNat es ++ zs, durF file.toNat es⟩ es) W e w' ∧ (∀ j, v.ownBlock = some j → dkFoot d b es j ∨ w.heap.size ≤ j)) ∧
  Keeps (dkFoot d b es) w w'

set_option maxHeartbeats 2000000 in
theorem append_any (d b room : Nat) (on : Bool) (left : Int) (es : List Fl) (file : Int) (a : Option Addr) (cap : Nat) (zs : List Nat) (w : World) (h : Dk w d b room on left es) (hz : Row .u8 w (.slice a zs.length cap) (natI zs)) (h8 : ∀ c ∈ zs, c < 256) (hlz : zs.length ≤ 16777216) :
    Calls Tryz.prog 12 #[.pointer (some ⟨d, 0, none⟩), .int .i64 file, .slice a zs.length cap] w (AppEnd d b room on left es file zs w) := by
  have HD := Lib.hid h
  have HZ := Lib.hid hz
  have HLZ := Lib.hid hlz
  have H8Z := Lib.hid h8
  clear hz hlz h8
  have c0 := h.dk.cell 0
  have c1 := h.dk.cell 1
  have c2 := h.dk.cell 2
  simp only [List.getElem?_cons_succ, List.getElem?_cons_zero] at c0 c1 c2
  by_cases hf : 0 ≤ file ∧ file < 64
  · have HF := Lib.hid hf
    have hdec : decide (0 ≤ file ∧ file < 64) = true := decide_eq_true hf
    cases on
    · clear h hf
      go_enter Tryz.func12, Tryz.ntmps12
      go_wp2_with fail
      refine (isFile_any file w).mono ?_
      rintro e w1 ⟨rfl, rfl⟩
      rw [hdec]
      clear hdec
      go_wp2_with fail
      go_ret
      exact ⟨fun h => absurd HF.out h, fun _ _ => ⟨rfl, HD.out⟩, fun _ h => (by cases h), fun _ h => (by cases h), Keeps.refl _ _⟩
    · obtain ⟨k, rfl⟩ := Int.eq_ofNat_of_zero_le hf.1
      have hk : k < 64 := by omega
      have hlk := lookup_run h.mp hk
      obtain ⟨a1, cap1, hct, hrow, hlen, h81⟩ := file_row h k
      have HAP := Lib.hid (file_apart h hct)
      have H81 := Lib.hid h81
      clear h81
      rw [hct] at hlk
      have HRW := Lib.hid hrow
      have HLN := Lib.hid hlen
      have HCT := Lib.hid hct
      clear h hf hct hrow hlen hlk
      go_enter Tryz.func12, Tryz.ntmps12
      go_wp2_with fail
      refine (isFile_any _ w).mono ?_
      rintro e w1 ⟨rfl, rfl⟩
      rw [hdec]
      clear hdec
      go_wp2_with fail
      have HDD : Hid (Dk w1.drew d b room true left es) := Lib.hid (dk_below HD.out (Below.refl _ _).drew)
      have hS0 : w1.drew.cell? ⟨d, 0, none⟩ = some (.int .i64 (room : Int)) := by simpa only [List.getElem?_cons_succ, List.getElem?_cons_zero] using HDD.out.dk.cell 0
      have HS0 := Lib.hid hS0
      have hur := HD.out.room
      have qw : IntKind.i64.wrap ((room : Int) - (usedF es : Int)) = (room : Int) - (usedF es : Int) := by rw [wrap_i64]; unfold wrap64; omega
      clear hS0
      by_cases hfit : usedF es + zs.length ≤ room
      · have HFIT := Lib.hid hfit
        have qc : ¬ ((room : Int) - (usedF es : Int) < (zs.length : Int)) := by omega
        clear hur hfit
        go_region_held3 (fun w' : World => w'.cell? ⟨d, 0, none⟩ = some (.int .i64 (room : Int))) (first | exact HS0.out | exact HS3.out) (first
          | (go_at_call 41; refine (used_any d b room true left es _ HDD.out).mono ?_; rintro e w3 ⟨rfl, hb3⟩; have HB3 : Hid (Below w1.heap.size w1 w3) := Lib.hid ((Below.refl _ w1).drew.trans hb3); have HS3 := Lib.hid (HD.out.dk.below HB3.out |>.cell 0); clear hb3))
        all_goals
          have HD3 := Lib.hid (dk_below HD.out HB3.out)
          have d1 := HD3.out.dk.cell 1
          have hlk3 := lookup_run HD3.out.mp hk
          rw [HCT.out] at hlk3
          have hlx : Laid (w3.alloc (.cells #[.slice a1 (bytesOf k es).length cap1, .int .i64 (durF k es : Int)] 83)) w3.heap.size 83 [.slice a1 (bytesOf k es).length cap1, .int .i64 (durF k es : Int)] := Laid.new w3 _ _
          have x0 := hlx.cell 0
          have x1 := hlx.cell 1
          simp only [List.getElem?_cons_succ, List.getElem?_cons_zero] at d1 x0 x1
          have HLX := Lib.hid hlx
          have HBA := Lib.hid (HB3.out.alloc (HB3.out.size) (.cells #[.slice a1 (bytesOf k es).length cap1, .int .i64 (durF k es : Int)] 83))
          have hown : Fresh 0 5 .u8 (w3.alloc (.cells #[.slice a1 (bytesOf k es).length cap1, .int .i64 (durF k es : Int)] 83)) (.slice a1 (bytesOf k es).length cap1) (natI (bytesOf k es)) :=
            own_foot2 HRW.out (Keeps.of_below HBA.out) (fun j hj hn => by have := (HRW.out.lt j hj).2; omega)
          have HOWN := Lib.hid hown
          have HRZ := Lib.hid (row_keeps HZ.out HBA.out)
          clear hlx hown
          go_wp2_with (at_builtin; go_must (refine wpList_append_buf rfl _ _ 33 rfl 0 (.slice a1 (bytesOf k es).length cap1) (natI (bytesOf k es)) rfl HOWN.out _ (natI zs) rfl (.inl ⟨rfl, HRZ.out⟩) (by have := HLN.out; have := HLZ.out; rw [natI_length, natI_length]; omega) (Nat.zero_le _) ?_); intro b2 n2 c2 w5 hn2 hfr hgrow hat; rw [List.length_append] at hn2; subst hn2; have HG := Lib.hid (And.intro hfr (And.intro hgrow hat)); have hk5 := Keeps.of_grown (A := fun j => Value.ownBlock (.slice a1 (bytesOf k es).length cap1) = some j) hgrow (fun _ h => h); have HK5 := Lib.hid hk5; have hlx5 := HLX.out.keeps hk5 (fun e => by have := (HRW.out.lt _ e).2; have := HB3.out.size; omega); have HLX5 := Lib.hid hlx5; have z0 := hlx5.frozen 0; have z1 := hlx5.cell 0; have hly := hlx5.set 0 (.slice b2 ((natI (bytesOf k es)).length + (natI zs).length) c2); have y0 := hly.cell 0; have y1 := hly.cell 1; simp only [List.set_cons_zero, List.getElem?_cons_succ, List.getElem?_cons_zero] at y0 y1 z1; clear hfr hgrow hat hk5 hlx5 hly)
          generalize hnl : (natI (bytesOf k es)).length + (natI zs).length = n2 at *
          have hnb : n2 = (bytesOf k es ++ zs).length := by rw [← hnl, natI_length, natI_length, List.length_append]
          obtain ⟨hfr, hgrow, hat⟩ := HG.out
          have hsz3 := HB3.out.size
          have KA : Keeps (fun j => Value.ownBlock (.slice a1 (bytesOf k es).length cap1) = some j ∨ w1.heap.size ≤ j) w1 (w5.setCell ⟨w3.heap.size, 0, none⟩ (.slice b2 n2 c2)) :=
            (((Keeps.of_below HBA.out).mono (fun j _ h => .inr h)).trans (HK5.out.mono (fun j _ h => .inl h))).trans ((keeps_set w5 w3.heap.size 0 _).mono (fun j _ h => .inr (by rw [h]; exact hsz3)))
          have hna : ∀ j, dkFoot d b es j → (Value.ownBlock (.slice a1 (bytesOf k es).length cap1) ≠ some j) → ¬ (Value.ownBlock (.slice a1 (bytesOf k es).length cap1) = some j ∨ w1.heap.size ≤ j) := by
            rintro j hj hne (h | h)
            · exact hne h
            · have := HD.out.lt j hj; omega
          have hv2 : ∀ j, Value.ownBlock (.slice b2 n2 c2) = some j → Value.ownBlock (.slice a1 (bytesOf k es).length cap1) = some j ∨ j = w3.heap.size + 1 := by
            intro j hj
            rcases hat with h | h
            · exact .inl (by rw [← h]; exact hj)
            · rw [h] at hj
              injection hj with hj
              exact .inr (by rw [← hj]; simp)
          subst hnb
          refine (put_any d b room true left es k (.slice b2 (bytesOf k es ++ zs).length c2) (bytesOf k es ++ zs) (durF k es) _ hk
            (HD.out.dk.keeps KA (hna d (.inl rfl) (fun h => (HAP.out.2 d h).2.1 rfl)))
            (ownsMap_keeps HD.out.mp KA (hna b (.inr (.inl rfl)) (fun h => (HAP.out.2 b h).2.2 rfl))) HD.out.sorted
            (fun f hf => flok_keeps (HD.out.ok f (mem_erase.1 hf).1) KA (fun j hj => hna j (.inr (.inr ⟨f, (mem_erase.1 hf).1, hj⟩)) (HAP.out.1 f hf j hj)))
            (HD.out.sep.filter _)
            (fun hne => ⟨⟨own_foot2 (by rw [natI_append]; exact hfr) (keeps_set w5 w3.heap.size 0 _) (fun j hj e => by
                  rcases hv2 j hj with h | h
                  · have := (HRW.out.lt j h).2; omega
                  · omega),
                fun c hc => (List.mem_append.1 hc).elim (H81.out c) (H8Z.out c), hne, Nat.le_trans (dur_le HD.out k) (by rw [List.length_append]; omega), hk⟩,
              fun f hf j hj hj2 => by
                rcases hv2 j hj with h | h
                · exact HAP.out.1 f hf j hj2 h
                · have := ((HD.out.ok f (mem_erase.1 hf).1).row.lt j hj2).2; omega⟩)
            ⟨_, _, rfl⟩ ⟨by have := used_split k es; have := HFIT.out; rw [List.length_append]; omega, HD.out.room.2⟩ HD.out.left (dk_len HD.out)).mono ?_
          rintro e w6 ⟨rfl, hd6, hk6⟩
          have HD6 := Lib.hid hd6
          have HK6 : Hid (Keeps (fun j => dkFoot d b es j ∨ w1.heap.size ≤ j) w1 w6) := Lib.hid ((KA.mono (fun j _ h => h.imp (fun h => (HAP.out.2 j h).1) id)).trans (hk6.mono (fun j _ h => .inl (.inr (.inl h)))))
          have HV2 := Lib.hid hv2
          clear hfr hgrow hat hna hv2 KA hd6 hk6
          go_wp2_with fail
          refine (step_any d b room true left _ w6 HD6.out).mono ?_
          rintro e w7 hst
          obtain ⟨c, rfl⟩ : ∃ c, e = .returned (.int .i64 c) := by
            cases hs : stepOn true left
            · exact ⟨_, (hst.1 hs).1⟩
            · exact ⟨_, (hst.2.1 hs).1⟩
          have HST := Lib.hid hst
          clear hst
          go_wp2_with fail
          go_ret
          exact ⟨fun h => absurd HF.out h, fun _ h => (by cases h), fun _ _ h => absurd HFIT.out h, fun _ _ _ => ⟨_, w6, HST.out, fun j hj => (HV2.out j hj).imp (fun h => (HAP.out.2 j h).1) (fun h => by have := HB3.out.size; omega)⟩, keeps_cut (HK6.out.trans (HST.out.2.2.mono (fun j _ h => .inl (.inl h))))⟩
      · have HFIT := Lib.hid hfit
        have qc : (room : Int) - (usedF es : Int) < (zs.length : Int) := by omega
        clear hur hfit
        go_region_held3 (fun w' : World => w'.cell? ⟨d, 0, none⟩ = some (.int .i64 (room : Int))) (first | exact HS0.out | exact HS3.out) (first
          | (go_at_call 41; refine (used_any d b room true left es _ HDD.out).mono ?_; rintro e w3 ⟨rfl, hb3⟩; have HB3 : Hid (Below w1.heap.size w1 w3) := Lib.hid ((Below.refl _ w1).drew.trans hb3); have HS3 := Lib.hid (HD.out.dk.below HB3.out |>.cell 0); clear hb3))
        all_goals
          go_wp2_with fail
          go_ret
          exact ⟨fun h => absurd HF.out h, fun _ h => (by cases h), fun _ _ _ => ⟨rfl, dk_below HD.out HB3.out⟩, fun _ _ h => absurd h HFIT.out, Keeps.of_below_size HB3.out⟩
  · have HF := Lib.hid hf
    have hdec : decide (0 ≤ file ∧ file < 64) = false := decide_eq_false hf
    clear h hf
    go_enter Tryz.func12, Tryz.ntmps12
    go_wp2_with fail
    refine (isFile_any file w).mono ?_
    rintro e w1 ⟨rfl, rfl⟩
    rw [hdec]
    clear hdec
    go_wp2_with fail
    go_ret
    exact ⟨fun _ => ⟨rfl, HD.out⟩, fun h => absurd h HF.out, fun h => absurd h HF.out, fun h => absurd h HF.out, Keeps.refl _ _⟩

theorem natI_first (d : List Nat) (m : Nat) : natI (d.take m) = (natI d).take m := by simp [natI, List.map_take]
/-- The first ones of an own row. -/
theorem fresh_first {B : Nat} {e : TypeId} {k : IntKind} {W : World} {g cap : Nat} {zs : List Int} (h : Fresh B e k W (.slice (some ⟨g, 0, none⟩) zs.length cap) zs) {m : Nat} (hm : m ≤ zs.length) :
    Fresh B e k W (.slice (some ⟨g, 0, none⟩) m cap) (zs.take m) := by
  have hl : (zs.take m).length = m := by rw [List.length_take]; omega
  refine ⟨by simp, .inr ?_⟩
  rcases h.2 with ⟨h1, _⟩ | ⟨g', cap', cur, h1, h2, h3, h4, h5, h6, h7⟩
  · cases h1
  · injection h1 with h1 _ h8
    injection h1 with h1
    injection h1 with h1
    subst h1 h8
    refine ⟨g, cap, cur, by rw [hl], h2, h3, by omega, h5, h6, ?_⟩
    have h9 : (cur.toList.take (zs.length * 1)).take m = (zs.map (Value.int k)).take m := by rw [h7]
    rw [List.take_take] at h9
    rw [hl, List.map_take, ← h9]
    congr 1
    omega

/-- What Truncate gives. -/
def TruncEnd (d b room : Nat) (on : Bool) (left : Int) (es : List Fl) (file size : Int) (w : World) (e : Ending) (w' : World) : Prop :=
  (¬ ((0 ≤ file ∧ file < 64) ∧ 0 ≤ size ∧ size ≤ ((bytesOf file.toNat es).length : Int)) → e = .returned (.int .i64 1) ∧ Dk w' d b room on left es) ∧
  ((0 ≤ file ∧ file < 64) ∧ 0 ≤ size ∧ size ≤ ((bytesOf file.toNat es).length : Int) → stepOn on left = false → e = .returned (.int .i64 23) ∧ Dk w' d b room false left es) ∧
  ((0 ≤ file ∧ file < 64) ∧ 0 ≤ size ∧ size ≤ ((bytesOf file.toNat es).length : Int) → stepOn on left = true → e = .returned (.int .i64 0) ∧
    ∃ v : Value, Dk w' d b room on (max (left - 1) (-1)) (afterF ⟨file.toNat, v, (bytesOf file.toNat es).take size.toNat, min (durF file.toNat es) size.toNat⟩ es) ∧ (∀ j, v.ownBlock = some j → dkFoot d b es j)) ∧
  Keeps (dkFoot d b es) w w'

theorem trunc_end {d b room : Nat} {on : Bool} {left : Int} {es : List Fl} {k m : Nat} {w w' : World} {v : Value}
    (hok : (0 ≤ (k : Int) ∧ (k : Int) < 64) ∧ 0 ≤ (m : Int) ∧ (m : Int) ≤ ((bytesOf (k : Int).toNat es).length : Int)) (hon : stepOn on left = true)
    (hd : Dk w' d b room on (max (left - 1) (-1)) (afterF ⟨k, v, (bytesOf k es).take m, min (durF k es) m⟩ es)) (hv : ∀ j, v.ownBlock = some j → dkFoot d b es j) (hk : Keeps (dkFoot d b es) w w') :
    TruncEnd d b room on left es (k : Int) (m : Int) w (.returned (.int .i64 0)) w' := by
  refine ⟨fun h => absurd hok h, fun _ h => absurd (hon.symm.trans h) (fun e => by cases e), fun _ _ => ⟨rfl, v, ?_, hv⟩, hk⟩
  rw [Int.toNat_natCast, Int.toNat_natCast]
  exact hd

set_option maxHeartbeats 4000000 in
theorem truncate_any (d b room : Nat) (on : Bool) (left : Int) (es : List Fl) (file size : Int) (w : World) (h : Dk w d b room on left es) :
    Calls Tryz.prog 63 #[.pointer (some ⟨d, 0, none⟩), .int .i64 file, .int .i64 size] w (TruncEnd d b room on left es file size w) := by
  have HD := Lib.hid h
  have c1 := h.dk.cell 1
  simp only [List.getElem?_cons_succ, List.getElem?_cons_zero] at c1
  by_cases hf : 0 ≤ file ∧ file < 64
  · have HF := Lib.hid hf
    have hdec : decide (0 ≤ file ∧ file < 64) = true := decide_eq_true hf
    obtain ⟨k, rfl⟩ := Int.eq_ofNat_of_zero_le hf.1
    have hk : k < 64 := by omega
    by_cases hs0 : size < 0
    · have HBAD : Hid (¬ ((0 ≤ (k : Int) ∧ (k : Int) < 64) ∧ 0 ≤ size ∧ size ≤ ((bytesOf (k : Int).toNat es).length : Int))) := Lib.hid (by omega)
      clear h hf
      go_enter Tryz.func63, Tryz.ntmps63
      go_wp2_with fail
      refine (isFile_any _ w).mono ?_
      rintro e w1 ⟨rfl, rfl⟩
      rw [hdec]
      clear hdec
      go_wp2_with fail
      go_ret
      exact ⟨fun _ => ⟨rfl, HD.out⟩, fun h => absurd h HBAD.out, fun h => absurd h HBAD.out, Keeps.refl _ _⟩
    · obtain ⟨m, rfl⟩ := Int.eq_ofNat_of_zero_le (Int.not_lt.1 hs0)
      obtain ⟨a1, cap1, hct, hrow, hlen, h81⟩ := file_row h k
      have HAP := Lib.hid (file_apart h hct)
      have H81 := Lib.hid h81
      have hlk := lookup_run h.mp hk
      rw [hct] at hlk
      have hfd : ∀ W : World, (Instr.field 83 (.agg #[.slice a1 (bytesOf k es).length cap1, .int .i64 (durF k es : Int)]) 0).run Tryz.prog W = .ok (.slice a1 (bytesOf k es).length cap1) W := fun _ => rfl
      have hfd1 : ∀ W : World, (Instr.field 83 (.agg #[.slice a1 (bytesOf k es).length cap1, .int .i64 (durF k es : Int)]) 1).run Tryz.prog W = .ok (.int .i64 (durF k es : Int)) W := fun _ => rfl
      have HRW := Lib.hid hrow
      have HLN := Lib.hid hlen
      have HCT := Lib.hid hct
      by_cases hs1 : (bytesOf k es).length < m
      · have HBAD : Hid (¬ ((0 ≤ (k : Int) ∧ (k : Int) < 64) ∧ 0 ≤ (m : Int) ∧ (m : Int) ≤ ((bytesOf (k : Int).toNat es).length : Int))) := Lib.hid (by rw [Int.toNat_natCast]; omega)
        clear h hf hct hrow h81
        go_enter Tryz.func63, Tryz.ntmps63
        go_wp2_with fail
        refine (isFile_any _ w).mono ?_
        rintro e w1 ⟨rfl, rfl⟩
        rw [hdec]
        clear hdec
        go_wp2_with fail
        go_ret
        exact ⟨fun _ => ⟨rfl, HD.out⟩, fun h => absurd h HBAD.out, fun h => absurd h HBAD.out, Keeps.refl _ _⟩
      · have HOK : Hid ((0 ≤ (k : Int) ∧ (k : Int) < 64) ∧ 0 ≤ (m : Int) ∧ (m : Int) ≤ ((bytesOf (k : Int).toNat es).length : Int)) := Lib.hid (by rw [Int.toNat_natCast]; omega)
        clear h hf hct hrow h81
        go_enter Tryz.func63, Tryz.ntmps63
        go_wp2_with fail
        refine (isFile_any _ w).mono ?_
        rintro e w1 ⟨rfl, rfl⟩
        rw [hdec]
        clear hdec
        go_wp2_with fail
        refine (step_any d b room on left es w1 HD.out).mono ?_
        rintro e w2 hst
        have HST := Lib.hid hst
        by_cases hon : stepOn on left = true
        · obtain ⟨rfl, hd2⟩ := hst.2.1 hon
          have HD2 := Lib.hid hd2
          have d1 := hd2.dk.cell 1
          have hlk2 := lookup_run hd2.mp hk
          rw [HCT.out] at hlk2
          simp only [List.getElem?_cons_succ, List.getElem?_cons_zero] at d1
          have hrow2 : Fresh 0 5 .u8 w2 (.slice a1 (bytesOf k es).length cap1) (natI (bytesOf k es)) := own_foot2 HRW.out HST.out.2.2 (fun j hj e => (HAP.out.2 j hj).2.1 e)
          have hbd : Below w2.heap.size w2 (w2.alloc (.cells #[.slice a1 (bytesOf k es).length cap1, .int .i64 (durF k es : Int)] 83)).drew := ((Below.refl _ w2).alloc (Nat.le_refl _) _).drew
          have HBD := Lib.hid hbd
          have hrowD : Fresh 0 5 .u8 (w2.alloc (.cells #[.slice a1 (bytesOf k es).length cap1, .int .i64 (durF k es : Int)] 83)).drew (.slice a1 (bytesOf k es).length cap1) (natI (bytesOf k es)) := own_foot2 hrow2 (Keeps.of_below hbd) (fun j hj hn => by have := (hrow2.lt j hj).2; omega)
          have HDD := Lib.hid (dk_below hd2 hbd)
          have hlx : Laid (w2.alloc (.cells #[.slice a1 (bytesOf k es).length cap1, .int .i64 (durF k es : Int)] 83)).drew w2.heap.size 83 [.slice a1 (bytesOf k es).length cap1, .int .i64 (durF k es : Int)] := Laid.new w2 _ _
          have hx0 := hlx.cell 0
          have hx1 := hlx.cell 1
          simp only [List.getElem?_cons_succ, List.getElem?_cons_zero] at hx0 hx1
          have HX := Lib.hid (And.intro hx0 hx1)
          have HHON := Lib.hid hon
          have hmin : (if (m : Int) < (durF k es : Int) then (m : Int) else (durF k es : Int)) = ((min (durF k es) m : Nat) : Int) := by split <;> omega
          have hml : m ≤ (bytesOf k es).length := by omega
          have hput : ∀ v : Value, ((∃ a cap, v = .slice a ((bytesOf k es).take m).length cap) ∧ (∀ j, v.ownBlock = some j → Value.ownBlock (.slice a1 (bytesOf k es).length cap1) = some j) ∧ ((bytesOf k es).take m ≠ [] → Fresh 0 5 .u8 (w2.alloc (.cells #[.slice a1 (bytesOf k es).length cap1, .int .i64 (durF k es : Int)] 83)).drew v (natI ((bytesOf k es).take m)))) →
              Calls Tryz.prog 42 #[.pointer (some ⟨d, 0, none⟩), .int .i64 (k : Int), .agg #[v, .int .i64 ((min (durF k es) m : Nat) : Int)]] (w2.alloc (.cells #[.slice a1 (bytesOf k es).length cap1, .int .i64 (durF k es : Int)] 83)).drew
                (PutEnd d b room on (max (left - 1) (-1)) (afterF ⟨k, v, (bytesOf k es).take m, min (durF k es) m⟩ es) (w2.alloc (.cells #[.slice a1 (bytesOf k es).length cap1, .int .i64 (durF k es : Int)] 83)).drew) := by
            rintro v ⟨hv1, hv2, hv3⟩
            refine put_any d b room on (max (left - 1) (-1)) es k v ((bytesOf k es).take m) (min (durF k es) m) _ hk HDD.out.dk HDD.out.mp HDD.out.sorted
              (fun f hf => HDD.out.ok f (mem_erase.1 hf).1) (HDD.out.sep.filter _) (fun hne => ⟨⟨hv3 hne, fun c hc => H81.out c (List.mem_of_mem_take hc), hne, ?_, hk⟩, fun f hf j hj hj2 => HAP.out.1 f hf j hj2 (hv2 j hj)⟩)
              hv1 ⟨?_, HDD.out.room.2⟩ HDD.out.left (dk_len HDD.out)
            · have := dur_le HD.out k
              show min (durF k es) m ≤ ((bytesOf k es).take m).length
              rw [List.length_take]
              omega
            · have := used_split k es
              have := HD.out.room
              rw [List.length_take]
              omega
          have HPUT := Lib.hid hput
          have HML := Lib.hid hml
          rcases fresh_form hrowD with ⟨hv0, hz0⟩ | ⟨g, cap2, hv0, _, hg, hc, hm⟩
          · have hb0 : bytesOf k es = [] := List.eq_nil_of_length_eq_zero (by have := congrArg List.length hz0; rw [natI_length] at this; exact this)
            have hb1 : (bytesOf k es).length = 0 := by rw [hb0]; rfl
            have hm0 : m = 0 := by omega
            have hd0 : durF k es = 0 := by have := dur_le HD.out k; omega
            have hv1 : a1 = none ∧ cap1 = 0 := by injection hv0 with h1 h2 h3; exact ⟨h1, h3⟩
            obtain ⟨ha1, hc1⟩ := hv1
            have HV := Lib.hid (HPUT.out (.slice none m cap1) ⟨⟨none, cap1, by rw [hb0, List.take_nil, hm0]; rfl⟩, fun j hj => (by cases hj), fun h => absurd (by rw [hb0, List.take_nil]) h⟩)
            have HC1 := Lib.hid hc1
            subst ha1
            have hmq : min (durF k es) m = durF k es := by omega
            have HMN := Lib.hid hmq
            rw [hmq] at HV
            clear hmq
            have hz1 : (0 : Int) ≤ (m : Int) := by omega
            have hz2 : (m : Int) ≤ (cap1 : Int) := by omega
            have hz3 : m ≤ cap1 := by omega
            have HNB : Hid (¬ w2.heap.size = b) := Lib.hid (fun e => by have := HD2.out.mp.lt; omega)
            have HDZ := Lib.hid hd0
            generalize hdu : durF k es = du at *
            have HDU := Lib.hid hdu
            clear hdu
            have hdm : ¬ m < du := by omega
            clear hst hd2 hrow2 hbd hrowD hlx hx0 hx1 hput hv0 hb0 hb1 hd0 hmin hs0 hs1 hml hz0 hm0 hc1 hon
            go_wp2_with fail
            go_region_held3 (fun w' : World => w'.cell? ⟨w2.heap.size, 0, none⟩ = some (.slice none (bytesOf k es).length cap1) ∧ w'.cell? ⟨w2.heap.size, 1, none⟩ = some (.int .i64 (du : Int))) (first | exact HX3.out | exact HX.out) (first
              | (go_at_call 42; go_must (refine HV.out.mono ?_); rintro e w3 ⟨rfl, hd3, hk3⟩; have HD3 := Lib.hid hd3; have HK3 := Lib.hid hk3; have HX3 := Lib.hid (And.intro (hk3.cell HX.out.1 HNB.out) (hk3.cell HX.out.2 HNB.out)); clear hd3 hk3))
            all_goals
              clear hlk hlk2 hfd hfd1 hdm hz1 hz2 hz3 hlen d1 c1
              go_wp2_with fail
              go_ret
              have k1 : Keeps (dkFoot d b es) w1 w2 := HST.out.2.2.mono (fun j _ h => .inl h)
              have k2 : Keeps (fun j => dkFoot d b es j ∨ w2.heap.size ≤ j) w2 w3 := ((Keeps.of_below HBD.out).mono (fun j _ h => .inr h)).trans (HK3.out.mono (fun j _ h => .inl (.inr (.inl h))))
              have k3 : Keeps (dkFoot d b es) w1 w3 := k1.trans (keeps_cut k2)
              have hd : Dk w3 d b room on (max (left - 1) (-1)) (afterF ⟨k, .slice none m cap1, (bytesOf k es).take m, min (durF k es) m⟩ es) := by rw [HDU.out, HMN.out]; exact HD3.out
              exact trunc_end (v := .slice none m cap1) HOK.out HHON.out hd (fun j hj => by cases hj) k3
          · have hv1 : a1 = some ⟨g, 0, none⟩ := by injection hv0
            subst hv1
            have hfr := fresh_first (g := g) (cap := cap1) (zs := natI (bytesOf k es)) (by rw [natI_length]; exact hrowD) (m := m) (by rw [natI_length]; omega)
            have HV := Lib.hid (HPUT.out (.slice (some ⟨g, 0, none⟩) m cap1) ⟨⟨_, _, by rw [List.length_take, Nat.min_eq_left hml]⟩, fun j hj => hj, fun _ => by rw [natI_first]; exact hfr⟩)
            have hcap : (bytesOf k es).length ≤ cap1 := by
              injection hv0 with _ h1 h2
              rw [natI_length] at h1 hc
              omega
            have hb0 : (0 : Int) ≤ (m : Int) := by omega
            have hb1 : (m : Int) ≤ (cap1 : Int) := by omega
            have hb2 : m ≤ cap1 := by omega
            clear hst hd2 hrow2 hbd hrowD hlx hx0 hx1 hput hfr hv0 hc hm hcap
            have HNB : Hid (¬ w2.heap.size = b) := Lib.hid (fun e => by have := HD2.out.mp.lt; omega)
            obtain ⟨mn, hmn⟩ : ∃ mn : Nat, min (durF k es) m = mn := ⟨_, rfl⟩
            have HMN := Lib.hid hmn
            rw [hmn] at HV
            clear hmin
            generalize hdu : durF k es = du at *
            have HDU := Lib.hid hdu
            clear hdu
            by_cases hmd : (m : Int) < (du : Int)
            · have hmm : mn = m := by omega
              clear hmn
              subst hmm
              go_wp2_with fail
              go_region_held3 (fun w' : World => w'.cell? ⟨w2.heap.size, 0, none⟩ = some (.slice (some ⟨g, 0, none⟩) (bytesOf k es).length cap1) ∧ w'.cell? ⟨w2.heap.size, 1, none⟩ = some (.int .i64 (du : Int))) (first | exact HX3.out | exact HX.out) (first
                | (go_at_call 42; go_must (refine HV.out.mono ?_); rintro e w3 ⟨rfl, hd3, hk3⟩; have HD3 := Lib.hid hd3; have HK3 := Lib.hid hk3; have HX3 := Lib.hid (And.intro (hk3.cell HX.out.1 HNB.out) (hk3.cell HX.out.2 HNB.out)); clear hd3 hk3))
              all_goals
                clear hlk hlk2 hfd hfd1 hmd hb0 hb1 hb2 hlen d1 c1
                go_wp2_with fail
                go_ret
                have k1 : Keeps (dkFoot d b es) w1 w2 := HST.out.2.2.mono (fun j _ h => .inl h)
                have k2 : Keeps (fun j => dkFoot d b es j ∨ w2.heap.size ≤ j) w2 w3 := ((Keeps.of_below HBD.out).mono (fun j _ h => .inr h)).trans (HK3.out.mono (fun j _ h => .inl (.inr (.inl h))))
                have k3 : Keeps (dkFoot d b es) w1 w3 := k1.trans (keeps_cut k2)
                have hd : Dk w3 d b room on (max (left - 1) (-1)) (afterF ⟨k, .slice (some ⟨g, 0, none⟩) mn cap1, (bytesOf k es).take mn, min (durF k es) mn⟩ es) := by rw [HDU.out, HMN.out]; exact HD3.out
                exact trunc_end (v := .slice (some ⟨g, 0, none⟩) mn cap1) HOK.out HHON.out hd (fun j hj => (HAP.out.2 j hj).1) k3
            · have hmm : mn = du := by omega
              clear hmn
              subst hmm
              have hmn2 : ¬ m < mn := by omega
              clear hmd
              go_wp2_with fail
              go_region_held3 (fun w' : World => w'.cell? ⟨w2.heap.size, 0, none⟩ = some (.slice (some ⟨g, 0, none⟩) (bytesOf k es).length cap1) ∧ w'.cell? ⟨w2.heap.size, 1, none⟩ = some (.int .i64 (mn : Int))) (first | exact HX3.out | exact HX.out) (first
                | (go_at_call 42; go_must (refine HV.out.mono ?_); rintro e w3 ⟨rfl, hd3, hk3⟩; have HD3 := Lib.hid hd3; have HK3 := Lib.hid hk3; have HX3 := Lib.hid (And.intro (hk3.cell HX.out.1 HNB.out) (hk3.cell HX.out.2 HNB.out)); clear hd3 hk3))
              all_goals
                clear hlk hlk2 hfd hfd1 hmn2 hb0 hb1 hb2 hlen d1 c1
                go_wp2_with fail
                go_ret
                have k1 : Keeps (dkFoot d b es) w1 w2 := HST.out.2.2.mono (fun j _ h => .inl h)
                have k2 : Keeps (fun j => dkFoot d b es j ∨ w2.heap.size ≤ j) w2 w3 := ((Keeps.of_below HBD.out).mono (fun j _ h => .inr h)).trans (HK3.out.mono (fun j _ h => .inl (.inr (.inl h))))
                have k3 : Keeps (dkFoot d b es) w1 w3 := k1.trans (keeps_cut k2)
                have hd : Dk w3 d b room on (max (left - 1) (-1)) (afterF ⟨k, .slice (some ⟨g, 0, none⟩) m cap1, (bytesOf k es).take m, min (durF k es) m⟩ es) := by rw [HDU.out, HMN.out]; exact HD3.out
                exact trunc_end (v := .slice (some ⟨g, 0, none⟩) m cap1) HOK.out HHON.out hd (fun j hj => (HAP.out.2 j hj).1) k3
        · have hon2 : stepOn on left = false := by cases hq : stepOn on left; rfl; exact absurd hq hon
          obtain ⟨rfl, hd2⟩ := hst.1 hon2
          have HON := Lib.hid hon2
          have HD2 := Lib.hid hd2
          clear hst hd2 hon hon2
          go_wp2_with fail
          go_ret
          exact ⟨fun h => absurd HOK.out h, fun _ _ => ⟨rfl, HD2.out⟩, fun _ h => absurd h (by rw [HON.out]; exact Bool.false_ne_true), HST.out.2.2.mono (fun j _ h => .inl h)⟩
  · have HBAD : Hid (¬ ((0 ≤ file ∧ file < 64) ∧ 0 ≤ size ∧ size ≤ ((bytesOf file.toNat es).length : Int))) := Lib.hid (fun h => hf h.1)
    have hdec : decide (0 ≤ file ∧ file < 64) = false := decide_eq_false hf
    clear h hf
    go_enter Tryz.func63, Tryz.ntmps63
    go_wp2_with fail
    refine (isFile_any file w).mono ?_
    rintro e w1 ⟨rfl, rfl⟩
    rw [hdec]
    clear hdec
    go_wp2_with fail
    go_ret
    exact ⟨fun _ => ⟨rfl, HD.out⟩, fun h => absurd h HBAD.out, fun h => absurd h HBAD.out, Keeps.refl _ _⟩

theorem find_erase (j k : Nat) (es : List Fl) : findF j (eraseF k es) = if j = k then none else findF j es := by
  unfold findF eraseF
  induction es with
  | nil => simp
  | cons f t ih =>
    by_cases hk : f.key = k
    · rw [List.filter_cons_of_neg (by simp [hk]), ih]
      by_cases hj : j = k
      · simp [hj]
      · rw [if_neg hj, if_neg hj, List.find?_cons_of_neg (by simp; omega)]
    · rw [List.filter_cons_of_pos (by simp [hk])]
      by_cases hj : f.key = j
      · rw [List.find?_cons_of_pos (by simp [hj]), List.find?_cons_of_pos (by simp [hj]), if_neg (by omega)]
      · rw [List.find?_cons_of_neg (by simp [hj]), List.find?_cons_of_neg (by simp [hj]), ih]
theorem find_ins {x : Fl} {j : Nat} : ∀ {es : List Fl}, (∀ f ∈ es, f.key ≠ x.key) → findF j (insF x es) = if j = x.key then some x else findF j es
  | [], _ => by
    by_cases hj : j = x.key
    · subst hj; simp [insF, findF]
    · simp [insF, findF, hj]; omega
  | y :: es, h => by
    have hy := h y (by simp)
    have ih := find_ins (x := x) (j := j) (es := es) (fun f hf => h f (by simp [hf]))
    unfold insF
    split
    · by_cases hj : j = x.key
      · subst hj; simp [findF]
      · rw [if_neg hj]
        unfold findF
        rw [List.find?_cons_of_neg (by simp; omega)]
    · by_cases hj : y.key = j
      · unfold findF
        rw [List.find?_cons_of_pos (by simp [hj]), List.find?_cons_of_pos (by simp [hj]), if_neg (by omega)]
      · unfold findF at *
        rw [List.find?_cons_of_neg (by simp [hj]), List.find?_cons_of_neg (by simp [hj]), ih]
theorem bytes_after {x : Fl} {es : List Fl} (j : Nat) : bytesOf j (afterF x es) = if j = x.key then x.bs else bytesOf j es := by
  unfold afterF
  split
  · rename_i h
    unfold bytesOf
    rw [find_erase]
    by_cases hj : j = x.key
    · rw [if_pos hj, if_pos hj, h]
    · rw [if_neg hj, if_neg hj]
  · unfold bytesOf putF
    rw [find_ins (fun f hf => (mem_erase.1 hf).2), find_erase]
    by_cases hj : j = x.key
    · simp [hj]
    · simp [hj]
theorem dur_after {x : Fl} {es : List Fl} (hx : x.dur ≤ x.bs.length) (j : Nat) : durF j (afterF x es) = if j = x.key then x.dur else durF j es := by
  unfold afterF
  split
  · rename_i h
    rw [h] at hx
    unfold durF
    rw [find_erase]
    by_cases hj : j = x.key
    · rw [if_pos hj, if_pos hj]
      show 0 = x.dur
      have : x.dur ≤ 0 := hx
      omega
    · rw [if_neg hj, if_neg hj]
  · unfold durF putF
    rw [find_ins (fun f hf => (mem_erase.1 hf).2), find_erase]
    by_cases hj : j = x.key
    · simp [hj]
    · simp [hj]

/-! ### Sums over the files -/
def sumB (B : Nat → List Nat) : Nat := ((List.range 64).map fun k => (B k).length).sum
theorem sum_put (g : Nat → Nat) (k a : Nat) (hg : g k = 0) : ∀ n, ((List.range n).map fun j => if j = k then a else g j).sum = (if k < n then a else 0) + ((List.range n).map g).sum
  | 0 => by simp
  | n + 1 => by
    rw [List.range_succ, List.map_append, List.map_append, List.sum_append, List.sum_append, sum_put g k a hg n]
    simp only [List.map_cons, List.map_nil, List.sum_cons, List.sum_nil, Nat.add_zero]
    by_cases h : n = k
    · subst h
      rw [if_neg (Nat.lt_irrefl _), if_pos rfl, if_pos (Nat.lt_succ_self _), hg]; omega
    · rw [if_neg h]
      by_cases h2 : k < n
      · rw [if_pos h2, if_pos (by omega)]; omega
      · rw [if_neg h2, if_neg (by omega)]; omega
theorem bytes_cons (j : Nat) (f : Fl) (t : List Fl) : bytesOf j (f :: t) = if j = f.key then f.bs else bytesOf j t := by
  unfold bytesOf findF
  by_cases h : j = f.key
  · rw [List.find?_cons_of_pos (by simp [h]), if_pos h]
  · rw [List.find?_cons_of_neg (by simp; omega), if_neg h]
theorem bytes_none {j : Nat} {es : List Fl} (h : ∀ f ∈ es, f.key ≠ j) : bytesOf j es = [] := by
  unfold bytesOf
  have : findF j es = none := List.find?_eq_none.2 (fun f hf => by simp [h f hf])
  rw [this]
theorem dur_none {j : Nat} {es : List Fl} (h : ∀ f ∈ es, f.key ≠ j) : durF j es = 0 := by
  unfold durF
  have : findF j es = none := List.find?_eq_none.2 (fun f hf => by simp [h f hf])
  rw [this]
theorem used_sum : ∀ {es : List Fl}, es.Pairwise (fun f g => f.key < g.key) → (∀ f ∈ es, f.key < 64) → usedF es = sumB (fun k => bytesOf k es)
  | [], _, _ => by
    have : ∀ n, ((List.range n).map fun k => (bytesOf k []).length).sum = 0 := fun n => by
      induction n with
      | zero => rfl
      | succ n ih => rw [List.range_succ, List.map_append, List.sum_append, ih]; rfl
    exact (this 64).symm
  | f :: t, h, hk => by
    obtain ⟨h1, h2⟩ := List.pairwise_cons.1 h
    have ih := used_sum h2 (fun g hg => hk g (by simp [hg]))
    have h0 : (bytesOf f.key t).length = 0 := by rw [bytes_none (fun g hg => by have := h1 g hg; omega)]; rfl
    have hs := sum_put (fun k => (bytesOf k t).length) f.key f.bs.length h0 64
    rw [if_pos (hk f (by simp))] at hs
    unfold sumB at *
    have e : (fun k => (bytesOf k (f :: t)).length) = fun j => if j = f.key then f.bs.length else (bytesOf j t).length := by
      funext j
      rw [bytes_cons]
      split <;> rfl
    show usedF (f :: t) = ((List.range 64).map fun k => (bytesOf k (f :: t)).length).sum
    rw [e, hs, ← ih]
    rfl

/-- What lies where is told by a disk's predicate. -/
def DkM (W : World) (A : Foot) (d room : Nat) (on : Bool) (left : Int) (B : Nat → List Nat) (D : Nat → Nat) : Prop :=
  ∃ b es, Dk W d b room on left es ∧ (∀ k, bytesOf k es = B k) ∧ (∀ k, durF k es = D k) ∧ ∀ k, dkFoot d b es k → A k
/-- A disk behind a step of its owner. -/
def UpM (w : World) (A : Foot) (d room : Nat) (on : Bool) (left : Int) (B : Nat → List Nat) (D : Nat → Nat) (w' : World) : Prop :=
  ∃ A2, Round A A2 w w' ∧ DkM w' A2 d room on left B D
theorem dkm_keeps {A C : Foot} {W W2 : World} {d room : Nat} {on : Bool} {left : Int} {B : Nat → List Nat} {D : Nat → Nat} (h : DkM W A d room on left B D) (hk : Keeps C W W2) (hn : ∀ k, A k → ¬ C k) : DkM W2 A d room on left B D := by
  obtain ⟨b, es, h1, h2, h3, h4⟩ := h
  exact ⟨b, es, dk_keeps h1 hk (fun k hk => hn k (h4 k hk)), h2, h3, h4⟩
/-- Its own blocks alone. -/
theorem dkm_tight {A : Foot} {W : World} {d room : Nat} {on : Bool} {left : Int} {B : Nat → List Nat} {D : Nat → Nat} (h : DkM W A d room on left B D) : DkM W (fun k => A k ∧ k < W.heap.size) d room on left B D := by
  obtain ⟨b, es, h1, h2, h3, h4⟩ := h
  exact ⟨b, es, h1, h2, h3, fun k hk => ⟨h4 k hk, h1.lt k hk⟩⟩
theorem dkm_below {A : Foot} {W W2 : World} {d room : Nat} {on : Bool} {left : Int} {B : Nat → List Nat} {D : Nat → Nat} (h : DkM W A d room on left B D) (hb : Below W.heap.size W W2) : DkM W2 A d room on left B D := by
  obtain ⟨b, es, h1, h2, h3, h4⟩ := h
  exact ⟨b, es, dk_below h1 hb, h2, h3, h4⟩
theorem dkm_sum {A : Foot} {W : World} {d room : Nat} {on : Bool} {left : Int} {B : Nat → List Nat} {D : Nat → Nat} (h : DkM W A d room on left B D) : sumB B ≤ room ∧ room ≤ 16777216 := by
  obtain ⟨b, es, h1, h2, h3, h4⟩ := h
  have := used_sum h1.sorted (fun f hf => (h1.ok f hf).key)
  rw [show (fun k => bytesOf k es) = B from funext h2] at this
  rw [← this]
  exact h1.room
end Go.Proofs.YtjoablphojkimaaGreatDoor
