/-
  The operations that the laws on disks do: Ops of the reference.
-/
import Derived.Test.YtadnbakniibmfaaRde
import Derived.Deep.DeepCutAuto
namespace Go.Proofs.Ytadnbakniibmfaa
open Go.RowKit Go.Shelf
set_option linter.unusedVariables false
set_option maxRecDepth 100000

structure OpV where
  kind : Nat
  file : Int
  n : Int
  b : List Nat
  keep : List Int
structure OpV.ok (x : OpV) : Prop where
  file : -100 ≤ x.file ∧ x.file ≤ 100
  n : -100 ≤ x.n ∧ x.n ≤ 100
  b8 : ∀ c ∈ x.b, c < 256
  bl : x.b.length ≤ 100
  kl : x.keep.length ≤ 100
  kr : ∀ k ∈ x.keep, -9223372036854775808 ≤ k ∧ k ≤ 9223372036854775807
  k4 : x.kind ≤ 4
def cellsO (p : Value × Value) (x : OpV) : List Value := [.int .i64 (x.kind : Int), .int .i64 x.file, .int .i64 x.n, p.1, p.2]
def flatO : List (Value × Value) → List OpV → List Value
  | p :: ps, x :: xs => cellsO p x ++ flatO ps xs
  | _, _ => []
theorem flatO_length : ∀ (ps : List (Value × Value)) (xs : List OpV), ps.length = xs.length → (flatO ps xs).length = xs.length * 5
  | [], [], _ => rfl
  | p :: ps, x :: xs, h => by
    have := flatO_length ps xs (by simpa using h)
    simp only [flatO, List.length_append, this, List.length_cons, cellsO, List.length_nil]
    omega
  | [], _ :: _, h => by simp at h
  | _ :: _, [], h => by simp at h
theorem flatO_snoc : ∀ (ps : List (Value × Value)) (xs : List OpV) (q : Value × Value) (y : OpV), ps.length = xs.length → flatO (ps ++ [q]) (xs ++ [y]) = flatO ps xs ++ cellsO q y
  | [], [], _, _, _ => by simp [flatO]
  | p :: ps, x :: xs, q, y, h => by
    show cellsO p x ++ flatO (ps ++ [q]) (xs ++ [y]) = (cellsO p x ++ flatO ps xs) ++ cellsO q y
    rw [flatO_snoc ps xs q y (by simpa using h), List.append_assoc]
  | [], _ :: _, _, _, h => by simp at h
  | _ :: _, [], _, _, h => by simp at h
theorem flatO_get : ∀ (ps : List (Value × Value)) (xs : List OpV) (j f : Nat), ps.length = xs.length → f < 5 → (hp : j < ps.length) → (hx : j < xs.length) → (flatO ps xs)[j * 5 + f]? = (cellsO ps[j] xs[j])[f]?
  | [], _, _, _, _, _, hp, _ => by simp at hp
  | _ :: _, [], _, _, h, _, _, _ => by simp at h
  | p :: ps, x :: xs, 0, f, h, hf, _, _ => by
    show (cellsO p x ++ flatO ps xs)[0 * 5 + f]? = _
    rw [Nat.zero_mul, Nat.zero_add, List.getElem?_append_left (by simpa [cellsO] using hf)]
    rfl
  | p :: ps, x :: xs, j + 1, f, h, hf, hp, hx => by
    have ih := flatO_get ps xs j f (by simpa using h) hf (by simpa using hp) (by simpa using hx)
    show (cellsO p x ++ flatO ps xs)[(j + 1) * 5 + f]? = _
    rw [List.getElem?_append_right (by simp [cellsO]; omega), show (j + 1) * 5 + f - (cellsO p x).length = j * 5 + f by simp [cellsO]; omega, ih]
    rfl

theorem ownO_foot {A : Foot} {B : Nat} {e : TypeId} {s n : Nat} {W W2 : World} {v : Value} {cs : List Value} (h : W.ownsRow B e s v n cs) (hk : Keeps A W W2) (ho : ∀ k, v.ownBlock = some k → ¬ A k) : W2.ownsRow B e s v n cs := by
  refine ⟨h.1, ?_⟩
  rcases h.2 with hn | ⟨g, cap, cur, rfl, h2, h3, h4⟩
  · exact .inl hn
  · exact .inr ⟨g, cap, cur, rfl, h2, hk.obj h3 (ho g rfl), h4⟩
structure PartO (lo hi : Nat) (W : World) (p : Value × Value) (x : OpV) : Prop where
  b : Row .u8 W p.1 (natI x.b)
  k : Row .i64 W p.2 x.keep
  bb : ∀ j, blockOf p.1 j → lo ≤ j ∧ j < hi
  kb : ∀ j, blockOf p.2 j → lo ≤ j ∧ j < hi
theorem PartO.keeps {lo hi : Nat} {W W2 : World} {p : Value × Value} {x : OpV} {A : Foot} (h : PartO lo hi W p x) (hk : Keeps A W W2) (hA : ∀ g, A g → g < lo ∨ hi ≤ g) : PartO lo hi W2 p x :=
  ⟨row_foot h.b hk (fun j hj hn => by have h1 := h.bb j hj; have h2 := hA j hn; omega), row_foot h.k hk (fun j hj hn => by have h1 := h.kb j hj; have h2 := hA j hn; omega), h.bb, h.kb⟩
theorem PartO.foot {lo hi : Nat} {W W2 : World} {p : Value × Value} {x : OpV} {A : Foot} (h : PartO lo hi W p x) (hk : Keeps A W W2) (hA : ∀ j, blockOf p.1 j ∨ blockOf p.2 j → ¬ A j) : PartO lo hi W2 p x :=
  ⟨row_foot h.b hk (fun j hj => hA j (.inl hj)), row_foot h.k hk (fun j hj => hA j (.inr hj)), h.bb, h.kb⟩
theorem PartO.up {lo hi hi2 : Nat} {W : World} {p : Value × Value} {x : OpV} (h : PartO lo hi W p x) (hh : hi ≤ hi2) : PartO lo hi2 W p x :=
  ⟨h.b, h.k, fun j hj => ⟨(h.bb j hj).1, Nat.lt_of_lt_of_le (h.bb j hj).2 hh⟩, fun j hj => ⟨(h.kb j hj).1, Nat.lt_of_lt_of_le (h.kb j hj).2 hh⟩⟩
theorem PartO.lower {lo lo2 hi : Nat} {W : World} {p : Value × Value} {x : OpV} (h : PartO lo hi W p x) (hh : lo2 ≤ lo) : PartO lo2 hi W p x :=
  ⟨h.b, h.k, fun j hj => ⟨Nat.le_trans hh (h.bb j hj).1, (h.bb j hj).2⟩, fun j hj => ⟨Nat.le_trans hh (h.kb j hj).1, (h.kb j hj).2⟩⟩
theorem oneO {lo hi : Nat} {W : World} {p : Value × Value} {x : OpV} (h : PartO lo hi W p x) : ∀ u ∈ cellsO p x, u.oneCell' = true := by
  obtain ⟨a, c, h1, _⟩ := h.b
  obtain ⟨a2, c2, h2, _⟩ := h.k
  intro u hu
  unfold cellsO at hu
  rw [h1, h2] at hu
  simp only [List.mem_cons, List.not_mem_nil, or_false] at hu
  rcases hu with rfl | rfl | rfl | rfl | rfl <;> rfl
/-- Operations in memory, in blocks from lo to hi. -/
structure OpsIs (lo hi : Nat) (W : World) (v : Value) (ps : List (Value × Value)) (xs : List OpV) : Prop where
  own : W.ownsRow lo 35 5 v xs.length (flatO ps xs)
  len : ps.length = xs.length
  part : ∀ j (hp : j < ps.length) (hx : j < xs.length), PartO lo hi W ps[j] xs[j]
  ne : ∀ p ∈ ps, ∀ j, blockOf p.1 j ∨ blockOf p.2 j → v.ownBlock ≠ some j
  top : ∀ k, v.ownBlock = some k → k < hi
  ok : ∀ x ∈ xs, x.ok
theorem opsis_nil (lo hi : Nat) (W : World) : OpsIs lo hi W (.slice none 0 0) [] [] :=
  ⟨World.ownsRow_nil W lo _ 5, rfl, fun j hp => by simp at hp, fun p hp => by simp at hp, fun k hk => (by cases hk), fun x hx => by simp at hx⟩
theorem OpsIs.keeps {lo hi : Nat} {W W2 : World} {v : Value} {ps : List (Value × Value)} {xs : List OpV} {A : Foot} (h : OpsIs lo hi W v ps xs) (hk : Keeps A W W2) (hA : ∀ g, A g → g < lo ∨ hi ≤ g) : OpsIs lo hi W2 v ps xs :=
  ⟨ownO_foot h.own hk (fun k hk2 hn => by have h1 := (h.own.lt k hk2).1; have h2 := h.top k hk2; have h3 := hA k hn; omega), h.len, fun j hp hx => (h.part j hp hx).keeps hk hA, h.ne, h.top, h.ok⟩
theorem OpsIs.below {lo hi : Nat} {W W2 : World} {v : Value} {ps : List (Value × Value)} {xs : List OpV} (h : OpsIs lo hi W v ps xs) (hb : Below W.heap.size W W2) (hh : hi ≤ W.heap.size) : OpsIs lo hi W2 v ps xs :=
  h.keeps (Keeps.of_below hb) (fun g hg => .inr (by omega))
theorem OpsIs.up {lo hi hi2 : Nat} {W : World} {v : Value} {ps : List (Value × Value)} {xs : List OpV} (h : OpsIs lo hi W v ps xs) (hh : hi ≤ hi2) : OpsIs lo hi2 W v ps xs :=
  ⟨h.own, h.len, fun j hp hx => (h.part j hp hx).up hh, h.ne, fun k hk => Nat.lt_of_lt_of_le (h.top k hk) hh, h.ok⟩
theorem OpsIs.snoc {lo hi : Nat} {W W2 : World} {v v2 : Value} {ps : List (Value × Value)} {xs : List OpV} {p : Value × Value} {x : OpV} (h : OpsIs lo hi W v ps xs) (hp : PartO lo hi W p x) (hx : x.ok) (hne : ∀ j, blockOf p.1 j ∨ blockOf p.2 j → v.ownBlock ≠ some j) (hhi : hi ≤ W.heap.size)
    (ho : W2.ownsRow lo 35 5 v2 (xs.length + 1) (flatO ps xs ++ cellsO p x)) (hg : W.grownBy W2 v.ownBlock) (hat : v2.ownBlock = v.ownBlock ∨ v2.ownBlock = some W.heap.size) : OpsIs lo W2.heap.size W2 v2 (ps ++ [p]) (xs ++ [x]) := by
  have hk : Keeps (fun k => v.ownBlock = some k) W W2 := Keeps.of_grown hg (fun k h => h)
  have hall : ∀ q ∈ ps ++ [p], ∀ j, blockOf q.1 j ∨ blockOf q.2 j → v.ownBlock ≠ some j ∧ j < W.heap.size := by
    intro q hq j hj
    rcases List.mem_append.1 hq with hq | hq
    · refine ⟨h.ne q hq j hj, ?_⟩
      obtain ⟨i, hi1, rfl⟩ := List.getElem_of_mem hq
      have := h.part i hi1 (by rw [← h.len]; exact hi1)
      rcases hj with hj | hj
      · have := (this.bb j hj).2; omega
      · have := (this.kb j hj).2; omega
    · have : q = p := by simpa using hq
      subst this
      refine ⟨hne j hj, ?_⟩
      rcases hj with hj | hj
      · have := (hp.bb j hj).2; omega
      · have := (hp.kb j hj).2; omega
  have hz := hk.size
  refine ⟨by rw [List.length_append, flatO_snoc ps xs p x h.len]; exact ho, by rw [List.length_append, List.length_append, h.len]; rfl, fun j hj hx2 => ?_, fun q hq j hj e => ?_, fun k hk2 => (ho.lt k hk2).2, fun y hy => ?_⟩
  · by_cases h1 : j < ps.length
    · rw [List.getElem_append_left h1, List.getElem_append_left (by rw [← h.len]; exact h1)]
      exact ((h.part j h1 (by rw [← h.len]; exact h1)).foot hk (fun i hi2 => h.ne _ (List.getElem_mem h1) i hi2)).up (by omega)
    · rw [List.length_append] at hj
      have e1 : (ps ++ [p])[j] = p := by rw [List.getElem_append_right (by omega)]; simp
      have e2 : (xs ++ [x])[j] = x := by rw [List.getElem_append_right (by rw [← h.len]; omega)]; simp
      rw [e1, e2]
      exact (hp.foot hk hne).up (by omega)
  · have h2 := hall q hq j hj
    rcases hat with e3 | e3
    · exact h2.1 (e3 ▸ e)
    · rw [e3] at e
      injection e with e
      omega
  · rcases List.mem_append.1 hy with hy | hy
    · exact h.ok y hy
    · have : y = x := by simpa using hy
      rw [this]; exact hx
/-- One of the operations. -/
theorem OpsIs.get {lo top : Nat} {W : World} {a : Option Addr} {c n : Nat} {ps : List (Value × Value)} {xs : List OpV} (h : OpsIs lo top W (.slice a n c) ps xs) {i : Nat} (hi : i < xs.length) :
    ∃ g p, a = some ⟨g, 0, none⟩ ∧ W.cell? ⟨g, i * 5, none⟩ = some (.int .i64 (xs[i].kind : Int)) ∧ W.cell? ⟨g, i * 5 + 1, none⟩ = some (.int .i64 xs[i].file) ∧ W.cell? ⟨g, i * 5 + 2, none⟩ = some (.int .i64 xs[i].n) ∧ W.cell? ⟨g, i * 5 + 3, none⟩ = some p.1 ∧ W.cell? ⟨g, i * 5 + 4, none⟩ = some p.2 ∧ PartO lo top W p xs[i] := by
  rcases h.own.2 with ⟨_, h0⟩ | ⟨g, cap, cur, hv, _⟩
  · omega
  · injection hv with h1 _ _
    have hp : i < ps.length := by rw [h.len]; exact hi
    have hc : ∀ f, f < 5 → ∀ u, (cellsO ps[i] xs[i])[f]? = some u → W.cell? ⟨g, i * 5 + f, none⟩ = some u := fun f hf u hu => by
      have := World.ownsRow.cells h.own (g := g) (by rw [h1]; rfl) (i * 5 + f) u (by rw [flatO_get ps xs i f h.len hf hp hi]; exact hu)
      rw [add_none, Nat.zero_add] at this
      exact this
    exact ⟨g, ps[i], h1, hc 0 (by omega) _ rfl, hc 1 (by omega) _ rfl, hc 2 (by omega) _ rfl, hc 3 (by omega) _ rfl, hc 4 (by omega) _ rfl, h.part i hp hi⟩
theorem info_op : (Try.prog.info? 35).map (fun i => (i.zero, i.size, i.bytes)) = some (some (.agg #[.int .i64 0, .int .i64 0, .int .i64 0, .slice none 0 0, .slice none 0 0]), 5, 72) := by kernel_rfl
theorem wpList_append_op {W : World} {ops : Array Oper} {rest : List Oper} {o : Oper} {a : Act} {Q : Exit → Act → World → Prop} (hgd : o.guard = none) (s x : Operand)
    (ho : o.op = .call { callee := .builtin .append, args := #[s, x], argTypes := #[30, 30] })
    (lo n : Nat) (v : Value) (ps : List (Value × Value)) (xs : List OpV) (hs : a.eval s = v) (hown : W.ownsRow lo 35 5 v n (flatO ps xs)) (g c : Nat) (hx : a.eval x = .slice (some ⟨g, 0, none⟩) 1 c)
    (p : Value × Value) (y : OpV) (hl : Laid W g 35 (cellsO p y)) (hone : ∀ u ∈ cellsO p y, u.oneCell' = true) (hlen : n ≤ 1000) (hbase : lo ≤ W.heap.size)
    (h : ∀ a2 c2 w', w'.ownsRow lo 35 5 (.slice a2 (n + 1) c2) (n + 1) (flatO ps xs ++ cellsO p y) → W.grownBy w' v.ownBlock → (Value.ownBlock (.slice a2 (n + 1) c2) = v.ownBlock ∨ Value.ownBlock (.slice a2 (n + 1) c2) = some W.heap.size) →
      wpList Try.prog ops Q rest (a.put o.dst (.slice a2 (n + 1) c2)) w') : wpList Try.prog ops Q (o :: rest) a W := by
  obtain ⟨iv, hi, hz0, hz1, hz2⟩ := info_parts info_op
  refine wpList_append_own_at W hgd s x 30 ho lo 35 iv _ 5 72 Try.underlying30 hi hz0 hz1 hz2 rfl (by decide) v n (flatO ps xs) hs hown ⟨g, 0, none⟩ 1 c (cellsO p y) hx rfl ?_ hone (by unfold maxLen; omega) (by omega) hbase ?_
  · intro j u hu
    rw [add_none, Nat.zero_add, hl.cell]
    exact hu
  · intro v' w' h3 h4 _ h5
    obtain ⟨a2, c2, rfl⟩ : ∃ a2 c2, v' = .slice a2 (n + 1) c2 := by
      rcases h3.2 with ⟨_, h0⟩ | ⟨g, cap, cur, h1, _⟩
      · omega
      · exact ⟨_, cap, h1⟩
    exact h a2 c2 w' h3 h4 h5

theorem fresh_spanR {B : Nat} {e : TypeId} {k : IntKind} {w : World} {v : Value} {zs : List Int} (h : Fresh B e k w v zs) : ∀ j, blockOf v j → B ≤ j ∧ j < w.heap.size := by
  intro j hj
  rcases h.2 with ⟨rfl, _⟩ | ⟨g, cap, cur, rfl, hb, h3, _⟩
  · exact hj.elim
  · have : j = g := hj
    subst this
    exact ⟨hb, (Array.getElem?_eq_some_iff.1 h3).1⟩
noncomputable def appO (ats : Array TypeId) (ty : TypeId) (args : Array Value) : Sem Value := Builtin.append_ ats ty args
theorem app_shutO (ats : Array TypeId) (ty : TypeId) (args : Array Value) : Builtin.append_ ats ty args = appO ats ty args := rfl

attribute [local go_sem ↓] app_shutO
def OpsEnd (w : World) (e : Ending) (w' : World) : Prop := ∃ v ps xs, e = .returned v ∧ (∃ a c, v = .slice a xs.length c) ∧ OpsIs w.heap.size w'.heap.size w' v ps xs ∧ xs.length ≤ 16 ∧ Below w.heap.size w w'
set_option maxHeartbeats 16000000 in
theorem ops_any (v : Value) (zs : List Int) (w : World) (hv : Row .i64 w v zs) (hr : ∀ z ∈ zs, -9223372036854775808 ≤ z ∧ z ≤ 9223372036854775807) :
    Calls Try.prog 11 #[v] w (OpsEnd w) := by
  have HR := Lib.hid hr
  obtain ⟨a, cap, rfl, hcap, hcm, hne, _⟩ := hv
  have HNE := Lib.hid hne
  clear hne hr
  go_enter Try.func11, Try.ntmps11
  go_wp2_with fail
  go_loopw [3, 4] (fun s3 s4 wr => ∃ (i : Nat) (ua : Option Addr) (uc : Nat) (ps : List (Value × Value)) (xs : List OpV), i ≤ 16 ∧ i ≤ zs.length ∧ s4 = .int .i64 (i : Int) ∧ s3 = .slice ua i uc ∧ Hid (xs.length = i) ∧ Hid (OpsIs w.heap.size wr.heap.size wr (.slice ua i uc) ps xs) ∧ Hid (Below w.heap.size w wr)) (fun _ s4 _ => zs.length - (intOf s4).toNat)
  case atStart => exact ⟨0, none, 0, [], [], Nat.zero_le _, Nat.zero_le _, rfl, rfl, Lib.hid rfl, Lib.hid (opsis_nil _ _ _), Lib.hid (Below.refl _ _)⟩
  case round =>
    obtain ⟨i, ua, uc, ps, xs, hi6, hiz, rfl, rfl, HXL, HO, HB⟩ := hrel
    by_cases hlt : i < zs.length
    · by_cases h6 : i < 16
      · obtain ⟨b, off, rfl, hc⟩ := HNE.out (fun h => by rw [h] at hlt; simp at hlt)
        obtain ⟨z, hz⟩ : ∃ z, zs[i]?.getD 0 = z := ⟨_, rfl⟩
        have hzr : -9223372036854775808 ≤ z ∧ z ≤ 9223372036854775807 := by
          have h := HR.out _ (List.getElem_mem hlt)
          rw [List.getElem?_eq_getElem hlt] at hz
          rw [← hz]; exact h
        have hck0 := hc i hlt
        rw [hz] at hck0
        have hck := (HB.out.cell (p := ⟨b, off + i, none⟩) (World.block_lt_of_cell? _ _ hck0)).trans hck0
        have HBLK : Hid (b < wr.heap.size) := Lib.hid (World.block_lt_of_cell? _ _ hck)
        clear hc hz hck0
        have hd16 : -9223372036854775808 ≤ z.tdiv 16 ∧ z.tdiv 16 ≤ 9223372036854775807 := by
          rcases Int.le_total 0 z with h | h
          · rw [Int.tdiv_eq_ediv_of_nonneg h]; omega
          · have : z.tdiv 16 = -((-z).tdiv 16) := by rw [Int.neg_tdiv]; omega
            rw [this, Int.tdiv_eq_ediv_of_nonneg (by omega)]; omega
        go_wp2_with fail
        refine (around_any (z.tdiv 16) 4096 wr hd16 (by decide) (by decide)).mono ?_
        rintro e w1 ⟨rfl, rfl⟩
        rw [show ((4096 : Nat) : Int) = 4096 from rfl]
        have hnr : 0 ≤ aroundI (z.tdiv 16) 4096 ∧ aroundI (z.tdiv 16) 4096 < 4096 := ⟨Int.emod_nonneg _ (by omega), Int.emod_lt_of_pos _ (by omega)⟩
        obtain ⟨n, hn⟩ : ∃ n : Nat, aroundI (z.tdiv 16) 4096 = (n : Int) := ⟨(aroundI (z.tdiv 16) 4096).toNat, by omega⟩
        rw [hn] at hnr ⊢
        clear hn hd16
        have hn1 : n < 4096 := by omega
        clear hnr
        obtain ⟨w0, hw0⟩ : ∃ w0, w0 = wr := ⟨wr, rfl⟩
        subst hw0
        obtain ⟨fl, hfl, hfl2⟩ : ∃ fl : Nat, (n : Int).tmod 3 = (fl : Int) ∧ fl ≤ 2 := ⟨n % 3, rfl, by omega⟩
        have HFL := Lib.hid hfl2
        have hck1 := hck
        go_upto_region 6 with fail
        go_cut [6] (fun s6 wx => s6 = .pointer (some ⟨w0.heap.size, 0, none⟩) ∧ wx = w0.alloc (.cells #[.int .i64 0, .int .i64 (fl : Int), .int .i64 0, .slice none 0 0, .slice none 0 0] 35))
        case first =>
          go_wp2_with fail
          go_meet
          case rel => exact ⟨rfl, rfl⟩
        obtain ⟨rfl, rfl⟩ := hcut
        apply_assumption
        refine wp_seq_k (fun K5 hK5 => ?_)
        go_cut [] (fun wx => ∃ (p : Value × Value) (y : OpV), Hid (Laid wx w0.heap.size 35 (cellsO p y)) ∧ Hid (PartO w0.heap.size wx.heap.size wx p y) ∧ Hid y.ok ∧ Hid (Below w0.heap.size w0 wx))
        case first =>
          -- WAYS
          have hcl := (((Below.refl w0.heap.size w0).alloc (Nat.le_refl _) (.cells #[.int .i64 0, .int .i64 (fl : Int), .int .i64 0, .slice none 0 0, .slice none 0 0] 35)).cell (p := ⟨b, off + i, none⟩) HBLK.out).trans hck
          go_wp2_with fail
          refine (around_any z 16 _ hzr (by decide) (by decide)).mono ?_
          rintro e w1 ⟨rfl, rfl⟩
          rw [show ((16 : Nat) : Int) = 16 from rfl]
          have hnr : 0 ≤ aroundI z 16 ∧ aroundI z 16 < 16 := ⟨Int.emod_nonneg _ (by omega), Int.emod_lt_of_pos _ (by omega)⟩
          obtain ⟨r, hr16⟩ : ∃ r : Nat, aroundI z 16 = (r : Int) := ⟨(aroundI z 16).toNat, by omega⟩
          rw [hr16] at hnr ⊢
          clear hr16
          obtain ⟨q3, hq3, hq3b⟩ : ∃ q3 : Nat, (n : Int).tdiv 3 = (q3 : Int) ∧ q3 ≤ 4096 := ⟨n / 3, rfl, by omega⟩
          obtain ⟨q4, hq4, hq4b⟩ : ∃ q4 : Nat, (n : Int).tdiv 4 = (q4 : Int) ∧ q4 ≤ 4096 := ⟨n / 4, rfl, by omega⟩
          obtain ⟨q5, hq5, hq5b⟩ : ∃ q5 : Nat, (n : Int).tdiv 5 = (q5 : Int) ∧ q5 ≤ 4096 := ⟨n / 5, rfl, by omega⟩
          obtain ⟨q25, hq25, hq25b⟩ : ∃ q25 : Nat, (n : Int).tdiv 25 = (q25 : Int) ∧ q25 ≤ 4096 := ⟨n / 25, rfl, by omega⟩
          obtain ⟨q125, hq125, hq125b⟩ : ∃ q125 : Nat, (n : Int).tdiv 125 = (q125 : Int) ∧ q125 ≤ 4096 := ⟨n / 125, rfl, by omega⟩
          obtain ⟨m9, hm9, hm9b⟩ : ∃ m9 : Nat, (q3 : Int).tmod 9 = (m9 : Int) ∧ m9 < 9 := ⟨q3 % 9, rfl, by omega⟩
          obtain ⟨m7, hm7, hm7b⟩ : ∃ m7 : Nat, (q3 : Int).tmod 7 = (m7 : Int) ∧ m7 < 7 := ⟨q3 % 7, rfl, by omega⟩
          obtain ⟨m6, hm6, hm6b⟩ : ∃ m6 : Nat, (q3 : Int).tmod 6 = (m6 : Int) ∧ m6 < 6 := ⟨q3 % 6, rfl, by omega⟩
          obtain ⟨m40, hm40, hm40b⟩ : ∃ m40 : Nat, (q4 : Int).tmod 40 = (m40 : Int) ∧ m40 < 40 := ⟨q4 % 40, rfl, by omega⟩
          obtain ⟨k1, hk1, hk1b⟩ : ∃ k1 : Nat, (n : Int).tmod 5 = (k1 : Int) ∧ k1 < 5 := ⟨n % 5, rfl, by omega⟩
          obtain ⟨k2, hk2, hk2b⟩ : ∃ k2 : Nat, (q5 : Int).tmod 5 = (k2 : Int) ∧ k2 < 5 := ⟨q5 % 5, rfl, by omega⟩
          obtain ⟨k3, hk3, hk3b⟩ : ∃ k3 : Nat, (q25 : Int).tmod 5 = (k3 : Int) ∧ k3 < 5 := ⟨q25 % 5, rfl, by omega⟩
          obtain ⟨m4, hm4, hm4b⟩ : ∃ m4 : Nat, (q125 : Int).tmod 4 = (m4 : Int) ∧ m4 < 4 := ⟨q125 % 4, rfl, by omega⟩
          obtain ⟨m70, hm70, hm70b⟩ : ∃ m70 : Nat, (n : Int).tmod 70 = (m70 : Int) ∧ m70 < 70 := ⟨n % 70, rfl, by omega⟩
          have hways : r = 0 ∨ r = 1 ∨ r = 2 ∨ r = 3 ∨ r = 4 ∨ r = 5 ∨ r = 6 ∨ 7 ≤ r := by omega
          rcases hways with rfl | rfl | rfl | rfl | rfl | rfl | rfl | h7
          · clear hq3 hq4 hq5 hq25 hq125 hm9 hm7 hm6 hm40 hk1 hk2 hk3 hm4 hm70 hcl
            go_wp2_with fail
            go_meet
            case rel => exact ⟨(.slice none 0 0, .slice none 0 0), ⟨1, (fl : Int), 0, [], []⟩, Lib.hid (Laid.new w0 _ [.int .i64 1, .int .i64 (fl : Int), .int .i64 (0), .slice none 0 0, .slice none 0 0]), Lib.hid ⟨row_none _ _, row_none _ _, fun j h => h.elim, fun j h => h.elim⟩, Lib.hid ⟨by show -100 ≤ (fl : Int) ∧ (fl : Int) ≤ 100; have := HFL.out; omega, by show -100 ≤ 0 ∧ 0 ≤ 100; omega, fun c h => by simp at h, Nat.zero_le _, Nat.zero_le _, fun c h => by simp at h, Nat.le_of_ble_eq_true rfl⟩, Lib.hid ((Below.refl _ w0).alloc (Nat.le_refl _) _)⟩
          · clear hq3 hq4 hq5 hq25 hq125 hm9 hm7 hm6 hm40 hk1 hk2 hk3 hm4 hm70 hcl
            go_wp2_with fail
            go_meet
            case rel => exact ⟨(.slice none 0 0, .slice none 0 0), ⟨1, (fl : Int), 0, [], []⟩, Lib.hid (Laid.new w0 _ [.int .i64 1, .int .i64 (fl : Int), .int .i64 (0), .slice none 0 0, .slice none 0 0]), Lib.hid ⟨row_none _ _, row_none _ _, fun j h => h.elim, fun j h => h.elim⟩, Lib.hid ⟨by show -100 ≤ (fl : Int) ∧ (fl : Int) ≤ 100; have := HFL.out; omega, by show -100 ≤ 0 ∧ 0 ≤ 100; omega, fun c h => by simp at h, Nat.zero_le _, Nat.zero_le _, fun c h => by simp at h, Nat.le_of_ble_eq_true rfl⟩, Lib.hid ((Below.refl _ w0).alloc (Nat.le_refl _) _)⟩
          · clear hq4 hq5 hq25 hq125 hm7 hm6 hm40 hk1 hk2 hk3 hm4 hm70 hcl
            go_wp2_with fail
            go_meet
            case rel => exact ⟨(.slice none 0 0, .slice none 0 0), ⟨2, (fl : Int), (m9 : Int) - 1, [], []⟩, Lib.hid (Laid.new w0 _ [.int .i64 2, .int .i64 (fl : Int), .int .i64 ((m9 : Int) - 1), .slice none 0 0, .slice none 0 0]), Lib.hid ⟨row_none _ _, row_none _ _, fun j h => h.elim, fun j h => h.elim⟩, Lib.hid ⟨by show -100 ≤ (fl : Int) ∧ (fl : Int) ≤ 100; have := HFL.out; omega, by show -100 ≤ (m9 : Int) - 1 ∧ (m9 : Int) - 1 ≤ 100; omega, fun c h => by simp at h, Nat.zero_le _, Nat.zero_le _, fun c h => by simp at h, Nat.le_of_ble_eq_true rfl⟩, Lib.hid ((Below.refl _ w0).alloc (Nat.le_refl _) _)⟩
          · clear hq4 hq5 hq25 hq125 hm9 hm6 hm40 hk1 hk2 hk3 hm4 hm70 hcl
            go_wp2_with fail
            go_meet
            case rel => exact ⟨(.slice none 0 0, .slice none 0 0), ⟨3, (fl : Int), (m7 : Int) - 1, [], []⟩, Lib.hid (Laid.new w0 _ [.int .i64 3, .int .i64 (fl : Int), .int .i64 ((m7 : Int) - 1), .slice none 0 0, .slice none 0 0]), Lib.hid ⟨row_none _ _, row_none _ _, fun j h => h.elim, fun j h => h.elim⟩, Lib.hid ⟨by show -100 ≤ (fl : Int) ∧ (fl : Int) ≤ 100; have := HFL.out; omega, by show -100 ≤ (m7 : Int) - 1 ∧ (m7 : Int) - 1 ≤ 100; omega, fun c h => by simp at h, Nat.zero_le _, Nat.zero_le _, fun c h => by simp at h, Nat.le_of_ble_eq_true rfl⟩, Lib.hid ((Below.refl _ w0).alloc (Nat.le_refl _) _)⟩
          · clear hq3 hm9 hm7 hm6 hm70 hcl
            go_wp2_with fail
            go_meet
            case rel =>
              have hl0 := Laid.new w0 35 [.int .i64 4, .int .i64 (fl : Int), .int .i64 ((m40 : Int) - 4), .slice none 0 0, .slice (some ⟨w0.heap.size + 1, 0, none⟩) m4 3]
              have hbl := (Below.refl w0.heap.size w0).alloc (Nat.le_refl _) (.cells #[.int .i64 4, .int .i64 (fl : Int), .int .i64 ((m40 : Int) - 4), .slice none 0 0, .slice (some ⟨w0.heap.size + 1, 0, none⟩) m4 3] 35)
              have hf := fresh_lit (w0.alloc (.cells #[.int .i64 4, .int .i64 (fl : Int), .int .i64 ((m40 : Int) - 4), .slice none 0 0, .slice (some ⟨w0.heap.size + 1, 0, none⟩) m4 3] 35)) (w0.heap.size + 1) 3 .i64 [(k1 : Int) - 1, (k2 : Int), (k3 : Int)] (by rw [World.size_alloc]; exact Nat.le_refl _) (by simp)
              rw [World.size_alloc] at hf
              have hf2 := fresh_first (zs := [(k1 : Int) - 1, (k2 : Int), (k3 : Int)]) hf (m := m4) (by simp; omega)
              refine ⟨(.slice none 0 0, .slice (some ⟨w0.heap.size + 1, 0, none⟩) m4 3), ⟨4, (fl : Int), (m40 : Int) - 4, [], [(k1 : Int) - 1, (k2 : Int), (k3 : Int)].take m4⟩, Lib.hid (hl0.below ((Below.refl _ _).alloc (Nat.le_refl _) _)), Lib.hid ⟨row_none _ _, row_of_fresh hf2, fun j h => h.elim, fun j h => ?_⟩, Lib.hid ⟨by show -100 ≤ (fl : Int) ∧ (fl : Int) ≤ 100; have := HFL.out; omega, by show -100 ≤ (m40 : Int) - 4 ∧ (m40 : Int) - 4 ≤ 100; omega, fun c h => by simp at h, Nat.zero_le _, ?_, fun c h => ?_, Nat.le_of_ble_eq_true rfl⟩, Lib.hid (hbl.alloc (by simp) _)⟩
              · have h2 : j = w0.heap.size + 1 := h
                rw [h2, World.size_alloc, World.size_alloc]
                omega
              · show ([(k1 : Int) - 1, (k2 : Int), (k3 : Int)].take m4).length ≤ 100
                rw [List.length_take]; simp; omega
              · have h2 := List.mem_of_mem_take h
                simp at h2
                omega
          · clear hq3 hm9 hm7 hm6 hm70 hcl
            go_wp2_with fail
            go_meet
            case rel =>
              have hl0 := Laid.new w0 35 [.int .i64 4, .int .i64 (fl : Int), .int .i64 ((m40 : Int) - 4), .slice none 0 0, .slice (some ⟨w0.heap.size + 1, 0, none⟩) m4 3]
              have hbl := (Below.refl w0.heap.size w0).alloc (Nat.le_refl _) (.cells #[.int .i64 4, .int .i64 (fl : Int), .int .i64 ((m40 : Int) - 4), .slice none 0 0, .slice (some ⟨w0.heap.size + 1, 0, none⟩) m4 3] 35)
              have hf := fresh_lit (w0.alloc (.cells #[.int .i64 4, .int .i64 (fl : Int), .int .i64 ((m40 : Int) - 4), .slice none 0 0, .slice (some ⟨w0.heap.size + 1, 0, none⟩) m4 3] 35)) (w0.heap.size + 1) 3 .i64 [(k1 : Int) - 1, (k2 : Int), (k3 : Int)] (by rw [World.size_alloc]; exact Nat.le_refl _) (by simp)
              rw [World.size_alloc] at hf
              have hf2 := fresh_first (zs := [(k1 : Int) - 1, (k2 : Int), (k3 : Int)]) hf (m := m4) (by simp; omega)
              refine ⟨(.slice none 0 0, .slice (some ⟨w0.heap.size + 1, 0, none⟩) m4 3), ⟨4, (fl : Int), (m40 : Int) - 4, [], [(k1 : Int) - 1, (k2 : Int), (k3 : Int)].take m4⟩, Lib.hid (hl0.below ((Below.refl _ _).alloc (Nat.le_refl _) _)), Lib.hid ⟨row_none _ _, row_of_fresh hf2, fun j h => h.elim, fun j h => ?_⟩, Lib.hid ⟨by show -100 ≤ (fl : Int) ∧ (fl : Int) ≤ 100; have := HFL.out; omega, by show -100 ≤ (m40 : Int) - 4 ∧ (m40 : Int) - 4 ≤ 100; omega, fun c h => by simp at h, Nat.zero_le _, ?_, fun c h => ?_, Nat.le_of_ble_eq_true rfl⟩, Lib.hid (hbl.alloc (by simp) _)⟩
              · have h2 : j = w0.heap.size + 1 := h
                rw [h2, World.size_alloc, World.size_alloc]
                omega
              · show ([(k1 : Int) - 1, (k2 : Int), (k3 : Int)].take m4).length ≤ 100
                rw [List.length_take]; simp; omega
              · have h2 := List.mem_of_mem_take h
                simp at h2
                omega
          · clear hq3 hq4 hq5 hq25 hq125 hm9 hm7 hm6 hm40 hk1 hk2 hk3 hm4 hcl
            go_wp2_with fail
            go_meet
            case rel =>
              have hl0 := Laid.new w0 35 [.int .i64 0, .int .i64 ((m70 : Int) - 3), .int .i64 0, .slice (some ⟨w0.heap.size + 1, 0, none⟩) 1 1, .slice none 0 0]
              have hbl := (Below.refl w0.heap.size w0).alloc (Nat.le_refl _) (.cells #[.int .i64 0, .int .i64 ((m70 : Int) - 3), .int .i64 0, .slice (some ⟨w0.heap.size + 1, 0, none⟩) 1 1, .slice none 0 0] 35)
              have hf := fresh_lit (w0.alloc (.cells #[.int .i64 0, .int .i64 ((m70 : Int) - 3), .int .i64 0, .slice (some ⟨w0.heap.size + 1, 0, none⟩) 1 1, .slice none 0 0] 35)) (w0.heap.size + 1) 5 .u8 [1] (by rw [World.size_alloc]; exact Nat.le_refl _) (by simp)
              rw [World.size_alloc] at hf
              refine ⟨(.slice (some ⟨w0.heap.size + 1, 0, none⟩) 1 1, .slice none 0 0), ⟨0, (m70 : Int) - 3, 0, [1], []⟩, Lib.hid (hl0.below ((Below.refl _ _).alloc (Nat.le_refl _) _)), Lib.hid ⟨row_of_fresh hf, row_none _ _, fun j h => ?_, fun j h => h.elim⟩, Lib.hid ⟨by show -100 ≤ (m70 : Int) - 3 ∧ (m70 : Int) - 3 ≤ 100; omega, by show -100 ≤ (0 : Int) ∧ (0 : Int) ≤ 100; omega, fun c h => ?_, ?_, Nat.zero_le _, fun c h => by simp at h, Nat.le_of_ble_eq_true rfl⟩, Lib.hid (hbl.alloc (by simp) _)⟩
              · have h2 : j = w0.heap.size + 1 := h
                rw [h2, World.size_alloc, World.size_alloc]
                omega
              · have h2 : c = 1 := by simpa using h
                omega
              · show ([1] : List Nat).length ≤ 100
                decide
          · clear hq4 hq5 hq25 hq125 hm9 hm7 hm40 hk1 hk2 hk3 hm4 hm70
            obtain ⟨wq, hwq⟩ : ∃ wq, w0.alloc (.cells #[.int .i64 0, .int .i64 (fl : Int), .int .i64 0, .slice none 0 0, .slice none 0 0] 35) = wq := ⟨_, rfl⟩
            have HLQ : Hid (Laid wq w0.heap.size 35 [.int .i64 0, .int .i64 (fl : Int), .int .i64 0, .slice none 0 0, .slice none 0 0]) := Lib.hid (by rw [← hwq]; exact Laid.new w0 _ _)
            have HBQ : Hid (Below w0.heap.size w0 wq) := Lib.hid (by rw [← hwq]; exact (Below.refl _ w0).alloc (Nat.le_refl _) _)
            have HSQ : Hid (w0.heap.size + 1 ≤ wq.heap.size) := Lib.hid (by rw [← hwq, World.size_alloc]; exact Nat.le_refl _)
            rw [hwq] at hcl ⊢
            clear hwq hq4b hq5b hq25b hq125b hm9b hm7b hm40b hk1b hk2b hk3b hm4b hm70b
            have HCK := Lib.hid hck
            go_wp2_with fail
            clear hcl
            go_loopw [7] (fun s7 wl => ∃ (k : Nat) (ba : Option Addr) (bc : Nat) (ys : List Nat), s7 = .int .i64 (k : Int) ∧ k ≤ m6 ∧ Hid (ys.length = k) ∧ Hid (Laid wl w0.heap.size 35 [.int .i64 0, .int .i64 (fl : Int), .int .i64 0, .slice ba k bc, .slice none 0 0]) ∧ Hid (Fresh (w0.heap.size + 1) 5 .u8 wl (.slice ba k bc) (natI ys)) ∧ Hid (∀ c ∈ ys, c < 256) ∧ Hid (Below w0.heap.size w0 wl) ∧ Hid (w0.heap.size + 1 ≤ wl.heap.size)) (fun s7 _ => m6 - (intOf s7).toNat)
            case atStart => exact ⟨0, none, 0, [], rfl, Nat.zero_le _, Lib.hid rfl, HLQ, Lib.hid (fresh_nil _ _ _ _), Lib.hid (fun c h => by simp at h), HBQ, HSQ⟩
            case round =>
              obtain ⟨k, ba, bc, ys, rfl, hk, HYL, HLY, HFY, HY8, HBY, HSY⟩ := hrel
              clear HLQ HBQ HSQ
              have hcl := (HBY.out.cell (p := ⟨b, off + i, none⟩) HBLK.out).trans HCK.out
              by_cases hkm : k < m6
              · have e3 := HLY.out.cell 3
                have e3d : wr.drew.cell? ⟨w0.heap.size, 3, none⟩ = some (.slice ba k bc) := e3
                have hcd : wr.drew.cell? ⟨b, off + i, none⟩ = some (.int .i64 z) := hcl
                obtain ⟨c, hc, hc8⟩ : ∃ c : Nat, z / 2 ^ k % 256 = (c : Int) ∧ c < 256 := ⟨(z / 2 ^ k % 256).toNat, by omega, by omega⟩
                obtain ⟨X, hX⟩ : ∃ X, (wr.alloc (.cells #[.int .u8 (c : Int)] 5)).drew = X := ⟨_, rfl⟩
                have hbX : Below wr.heap.size wr X := by rw [← hX]; exact ((Below.refl _ wr).alloc (Nat.le_refl _) _).drew
                have hsX : X.heap.size = wr.heap.size + 1 := by rw [← hX]; exact World.size_alloc _ _
                have hcX := (hbX.cell (p := ⟨b, off + i, none⟩) (World.block_lt_of_cell? _ _ hcl)).trans hcl
                have e3X := (HLY.out.below hbX).cell 3
                have hnew : X.heap[wr.heap.size]? = some (.cells #[.int .u8 (c : Int)] 5 (0, 0)) := by rw [← hX]; exact World.alloc_heap_new wr _
                have hfX := fresh_keeps HFY.out hbX
                have hyl : ys.length = k := HYL.out
                obtain ⟨b4, c4, w4, hr4, hf4, hg4, ha4⟩ := run_append_buf (W := X) (B := w0.heap.size + 1) (v := .slice ba k bc) (zs := natI ys) hfX (tx := 33) (ty := 33) (u := .slice (some ⟨wr.heap.size, 0, none⟩) 1 1) (ys := [(c : Int)]) (lit_src hnew) (by rw [natI_length]; simp; omega) (by have := HSY.out; omega)
                have hn4 : (natI ys ++ [(c : Int)]).length = k + 1 := by rw [List.length_append, natI_length, hyl]; rfl
                rw [hn4] at hr4 hf4
                rw [show natI ys ++ [(c : Int)] = natI (ys ++ [c]) by simp [natI]] at hf4
                rw [app_shutO, ← hX] at hr4
                have hk4 : Keeps (fun j => Value.ownBlock (.slice ba k bc) = some j) X w4 := Keeps.of_grown hg4 (fun j h => h)
                have hl4 : Laid w4 w0.heap.size 35 [.int .i64 0, .int .i64 (fl : Int), .int .i64 0, .slice ba k bc, .slice none 0 0] := (HLY.out.below hbX).keeps hk4 (fun h => by have := (HFY.out.lt _ h).1; omega)
                have f3 := hl4.cell 3
                have y3 := hl4.frozen 3
                have hl5 := hl4.set 3 (.slice b4 (k + 1) c4)
                have HL5 : Hid (Laid (w4.setCell ⟨w0.heap.size, 3, none⟩ (.slice b4 (k + 1) c4)) w0.heap.size 35 [.int .i64 0, .int .i64 (fl : Int), .int .i64 0, .slice b4 (k + 1) c4, .slice none 0 0]) := Lib.hid hl5
                have HF5 : Hid (Fresh (w0.heap.size + 1) 5 .u8 (w4.setCell ⟨w0.heap.size, 3, none⟩ (.slice b4 (k + 1) c4)) (.slice b4 (k + 1) c4) (natI (ys ++ [c]))) := Lib.hid (own_foot2 hf4 (keeps_set w4 w0.heap.size 3 _) (fun j hj e => by have := (hf4.lt j hj).1; omega))
                have HB5 : Hid (Below w0.heap.size w0 (w4.setCell ⟨w0.heap.size, 3, none⟩ (.slice b4 (k + 1) c4))) := Lib.hid ((((HBY.out.trans (hbX.mono HBY.out.size)).trans (hk4.below (B := w0.heap.size) (by have := HSY.out; omega) (fun j hj => by have := (HFY.out.lt j hj).1; omega)))).setCell (p := ⟨w0.heap.size, 3, none⟩) (Nat.le_refl _) _)
                have HS5 : Hid (w0.heap.size + 1 ≤ (w4.setCell ⟨w0.heap.size, 3, none⟩ (.slice b4 (k + 1) c4)).heap.size) := Lib.hid (by have h1 := (keeps_set w4 w0.heap.size 3 (.slice b4 (k + 1) c4)).size; have h2 := hk4.size; have h3 := HSY.out; omega)
                have HY5 : Hid ((ys ++ [c]).length = k + 1 ∧ ∀ x ∈ ys ++ [c], x < 256) := Lib.hid ⟨by rw [List.length_append, hyl]; rfl, fun x hx => by
                  rcases List.mem_append.1 hx with hx | hx
                  · exact HY8.out x hx
                  · have : x = c := by simpa using hx
                    omega⟩
                rw [← hX] at hcX e3X
                clear hbX hnew hfX hyl hf4 hg4 ha4 hk4 hl4 hl5 hsX hX hn4
                go_wp2_with fail
                go_region
                all_goals
                  clear e3 e3d hcd hc hcX e3X hr4 f3 y3 hcl
                  go_wp2_with fail
                  go_roundw
                  case rel => exact ⟨k + 1, b4, c4, ys ++ [c], by go_num, by omega, Lib.hid HY5.out.1, HL5, HF5, Lib.hid HY5.out.2, HB5, HS5⟩
                  case measure => simp [intOf]; omega
              · go_wp2_with fail
                go_meet
                case rel => exact ⟨(.slice ba k bc, .slice none 0 0), ⟨0, (fl : Int), 0, ys, []⟩, HLY, Lib.hid ⟨by have := row_of_fresh HFY.out; exact this, row_none _ _, fun j h => by have h2 := fresh_spanR HFY.out j h; exact ⟨by omega, h2.2⟩, fun j h => h.elim⟩, Lib.hid ⟨by show -100 ≤ (fl : Int) ∧ (fl : Int) ≤ 100; have := HFL.out; omega, by show -100 ≤ (0 : Int) ∧ (0 : Int) ≤ 100; omega, HY8.out, by show ys.length ≤ 100; rw [HYL.out]; omega, Nat.zero_le _, fun c h => by simp at h, Nat.le_of_ble_eq_true rfl⟩, HBY⟩
          -- WAYS END
        obtain ⟨p, y, HL, HP, HY, HBX⟩ := hcut
        apply_assumption
        have HBW := Lib.hid (HB.out.trans (HBX.out.mono HB.out.size))
        have HOX := Lib.hid (HO.out.below HBX.out (Nat.le_refl _))
        have l0 := HL.out.cell 0
        have l1 := HL.out.cell 1
        have l2 := HL.out.cell 2
        have l3 := HL.out.cell 3
        have l4 := HL.out.cell 4
        have hone : ∀ u ∈ cellsO p y, u.oneCell' = true := oneO HP.out
        have HONE := Lib.hid hone
        have HLA : Hid (Laid (wc.alloc (.cells #[.int .i64 (y.kind : Int), .int .i64 y.file, .int .i64 y.n, p.1, p.2] 35)) wc.heap.size 35 (cellsO p y)) := Lib.hid (Laid.new wc _ (cellsO p y))
        have h9 : (wc.alloc (.cells #[.int .i64 (y.kind : Int), .int .i64 y.file, .int .i64 y.n, p.1, p.2] 35)).ownsRow w.heap.size 35 5 (.slice ua i uc) xs.length (flatO ps xs) := ownO_foot HOX.out.own ((Keeps.refl (fun _ => False) wc).alloc _) (fun _ _ h => h)
        rw [HXL.out] at h9
        have HOA := Lib.hid h9
        clear h9
        unfold cellsO at l0 l1 l2 l3 l4
        simp only [List.getElem?_cons_succ, List.getElem?_cons_zero] at l0 l1 l2 l3 l4
        obtain ⟨p1a, p1n, p1c, hp1⟩ : ∃ a n c, p.1 = .slice a n c := by obtain ⟨a, c, h, _⟩ := HP.out.b; exact ⟨_, _, _, h⟩
        obtain ⟨p2a, p2n, p2c, hp2⟩ : ∃ a n c, p.2 = .slice a n c := by obtain ⟨a, c, h, _⟩ := HP.out.k; exact ⟨_, _, _, h⟩
        rw [hp1] at l3 HLA HOA
        rw [hp2] at l4 HLA HOA
        have HP12 := Lib.hid (And.intro hp1 hp2)
        clear hone hp1 hp2 hck hck1
        have HSW := Lib.hid HBW.out.size
        go_wp2_with (at_builtin; go_must (refine wpList_append_op rfl _ _ rfl w.heap.size i (.slice ua i uc) ps xs rfl HOA.out wc.heap.size 1 rfl p y HLA.out HONE.out (by omega) (by have := HSW.out; rw [World.size_alloc]; omega) ?_); intro a2 c2 w3 h1 h2 h3; have HG := Lib.hid (And.intro h1 (And.intro h2 h3)); clear h1 h2 h3)
        go_roundw
        case rel =>
          obtain ⟨h1, h2, h3⟩ := HG.out
          rw [← HP12.out.1, ← HP12.out.2] at h2 h3
          have hbA : Below wc.heap.size wc (wc.alloc (.cells #[.int .i64 (y.kind : Int), .int .i64 y.file, .int .i64 y.n, p.1, p.2] 35)) := (Below.refl _ wc).alloc (Nat.le_refl _) _
          have hs : OpsIs w.heap.size w3.heap.size w3 (.slice a2 (i + 1) c2) (ps ++ [p]) (xs ++ [y]) := by
            refine OpsIs.snoc (hi := wc.heap.size) ((HOX.out.up HBX.out.size).below hbA (Nat.le_refl _)) ((HP.out.lower HB.out.size).keeps (Keeps.of_below hbA) (fun g hg => .inr hg)) HY.out (fun j hj e => ?_) hbA.size (by rw [HXL.out]; exact h1) h2 h3
            have h4 := HO.out.top j e
            rcases hj with hj | hj
            · have := (HP.out.bb j hj).1; omega
            · have := (HP.out.kb j hj).1; omega
          exact ⟨i + 1, a2, c2, ps ++ [p], xs ++ [y], by omega, by omega, by go_num, rfl, Lib.hid (by rw [List.length_append, HXL.out]; rfl), Lib.hid hs, Lib.hid ((HBW.out.trans (hbA.mono HBW.out.size)).grown h2 (by have := HBW.out.size; have := hbA.size; omega) (fun k hk => (HO.out.own.lt k hk).1))⟩
        case measure => simp [intOf]; omega
      · go_wp2_with fail
        go_ret
        exact ⟨.slice ua i uc, ps, xs, rfl, ⟨ua, uc, by rw [HXL.out]⟩, HO.out, by rw [HXL.out]; exact hi6, HB.out⟩
    · go_wp2_with fail
      go_ret
      exact ⟨.slice ua i uc, ps, xs, rfl, ⟨ua, uc, by rw [HXL.out]⟩, HO.out, by rw [HXL.out]; exact hi6, HB.out⟩
end Go.Proofs.Ytadnbakniibmfaa
