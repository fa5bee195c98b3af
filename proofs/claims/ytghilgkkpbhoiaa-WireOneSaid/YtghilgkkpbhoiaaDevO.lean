/-
  A slice of values, told by block numbers: what keeps it, what append makes of it; the laws' encode.
-/
import Derived.Test.YtghilgkkpbhoiaaDevN
namespace Go.Proofs.Ytghilgkkpbhoiaa
open Go.RowKit Go.Shelf
set_option linter.unusedVariables false

structure PartG (lo hi : Nat) (W : World) (o : Option Nat) (p : Value × Value) (x : VV) : Prop where
  b : Row .u8 W p.1 (natI x.b)
  l : Row .i64 W p.2 x.l
  blk : ∀ j, (blockOf p.1 j ∨ blockOf p.2 j) → lo ≤ j ∧ j < hi ∧ o ≠ some j

/-- A slice of values in a row of its own, its parts besides it, all in blocks from lo on below hi. -/
def Gv (lo hi : Nat) (W : World) (v : Value) (xs : List VV) : Prop :=
  ∃ ps : List (Value × Value), W.ownsRow lo 28 5 v xs.length (flatV ps xs) ∧ (∀ k, v.ownBlock = some k → k < hi) ∧ hi ≤ W.heap.size ∧ ps.length = xs.length ∧
    ∀ j, (hp : j < ps.length) → (hx : j < xs.length) → PartG lo hi W v.ownBlock ps[j] xs[j]

theorem fresh_type {B : Nat} {e : TypeId} {k : IntKind} {W : World} {v : Value} {zs : List Int} (h : Fresh B e k W v zs) {j : Nat} (hj : blockOf v j) : ∃ cs, W.heap[j]? = some (.cells cs e (0, 0)) := by
  rcases h.2 with ⟨rfl, _⟩ | ⟨g, cap, cur, rfl, _, h3, _⟩
  · exact hj.elim
  · have : j = g := hj
    subst this
    exact ⟨cur, h3⟩

theorem gv_of_freshV {B : Nat} {W : World} {v : Value} {xs : List VV} (h : FreshV B W v xs) : Gv B W.heap.size W v xs := by
  obtain ⟨ps, h1, h2, h3⟩ := h
  refine ⟨ps, h1, fun k hk => (h1.lt k hk).2, Nat.le_refl _, h2, fun j hp hx => ?_⟩
  obtain ⟨p1, p2⟩ := h3 j hp hx
  have key : ∀ {e : TypeId} {k : IntKind} {u : Value} {zs : List Int}, Fresh B e k W u zs → e ≠ 28 → ∀ i, blockOf u i → B ≤ i ∧ i < W.heap.size ∧ v.ownBlock ≠ some i := by
    intro e k u zs hf hne i hi
    obtain ⟨s1, s2⟩ := fresh_span hf i hi
    refine ⟨s1, s2, fun ho => ?_⟩
    obtain ⟨cs, hc⟩ := fresh_type hf hi
    rcases h1.2 with ⟨rfl, _⟩ | ⟨g, cap, cur, rfl, _, h4, _⟩
    · cases ho
    · have : g = i := by simpa [Value.ownBlock] using ho
      subst this
      rw [hc] at h4
      injection h4 with h4
      injection h4 with _ h5
      exact hne h5
  refine ⟨row_of_fresh p1, row_of_fresh p2, fun i hi => ?_⟩
  rcases hi with hi | hi
  · exact key p1 type_u8_ne i hi
  · exact key p2 type_int_ne i hi

theorem gv_nil (lo : Nat) (W : World) (h : lo ≤ W.heap.size) : Gv lo W.heap.size W (.slice none 0 0) [] :=
  ⟨[], World.ownsRow_nil W lo _ 5, fun k h => (by cases h), Nat.le_refl _, rfl, fun j hp _ => (by simp at hp)⟩

theorem gv_keeps {A : Foot} {lo hi : Nat} {W W2 : World} {v : Value} {xs : List VV} (h : Gv lo hi W v xs) (hk : Keeps A W W2) (hA : ∀ k, lo ≤ k → k < hi → ¬ A k) : Gv lo hi W2 v xs := by
  obtain ⟨ps, h1, h2, h3, h4, h5⟩ := h
  refine ⟨ps, ⟨h1.1, ?_⟩, h2, Nat.le_trans h3 hk.size, h4, fun j hp hx => ?_⟩
  · rcases h1.2 with h0 | ⟨g, cap, cur, rfl, hb, hg, hc⟩
    · exact .inl h0
    · exact .inr ⟨g, cap, cur, rfl, hb, hk.obj hg (hA g hb (h2 g rfl)), hc⟩
  · obtain ⟨p1, p2, p3⟩ := h5 j hp hx
    exact ⟨row_foot p1 hk (fun i hi => by have := p3 i (.inl hi); exact hA i this.1 this.2.1), row_foot p2 hk (fun i hi => by have := p3 i (.inr hi); exact hA i this.1 this.2.1), p3⟩

theorem gv_more {lo hi hi2 : Nat} {W : World} {v : Value} {xs : List VV} (h : Gv lo hi W v xs) (h1 : hi ≤ hi2) (h2 : hi2 ≤ W.heap.size) : Gv lo hi2 W v xs := by
  obtain ⟨ps, k1, k2, k3, k4, k5⟩ := h
  exact ⟨ps, k1, fun k hk => Nat.lt_of_lt_of_le (k2 k hk) h1, h2, k4, fun j hp hx => ⟨(k5 j hp hx).b, (k5 j hp hx).l, fun i hi => by have := (k5 j hp hx).blk i hi; exact ⟨this.1, Nat.lt_of_lt_of_le this.2.1 h1, this.2.2⟩⟩⟩

theorem gv_form {lo hi : Nat} {W : World} {v : Value} {xs : List VV} (h : Gv lo hi W v xs) : ∃ a cap, v = .slice a xs.length cap ∧ xs.length ≤ cap ∧ cap ≤ 9223372036854775807 := by
  obtain ⟨ps, h1, _⟩ := h
  rcases h1.2 with ⟨rfl, h0⟩ | ⟨g, cap, cur, rfl, _, _, hc, hm, _⟩
  · exact ⟨none, 0, by rw [h0], by omega, by decide⟩
  · exact ⟨_, cap, rfl, hc, by unfold maxLen at hm; omega⟩

/-- Element j: its cells, its parts. -/
theorem gv_at {lo hi : Nat} {W : World} {a : Option Addr} {n cap : Nat} {xs : List VV} (h : Gv lo hi W (.slice a n cap) xs) {j : Nat} (hj : j < xs.length) :
    ∃ g vb vl, a = some ⟨g, 0, none⟩ ∧ lo ≤ g ∧ g < hi ∧ W.cell? ⟨g, j * 5, none⟩ = some (.int .i64 xs[j].kind) ∧ W.cell? ⟨g, j * 5 + 1, none⟩ = some (.int .u64 (xs[j].u : Int)) ∧ W.cell? ⟨g, j * 5 + 2, none⟩ = some (.int .i64 xs[j].n) ∧
      W.cell? ⟨g, j * 5 + 3, none⟩ = some vb ∧ W.cell? ⟨g, j * 5 + 4, none⟩ = some vl ∧ Row .u8 W vb (natI xs[j].b) ∧ Row .i64 W vl xs[j].l ∧ ∀ i, (blockOf vb i ∨ blockOf vl i) → lo ≤ i ∧ i < hi := by
  obtain ⟨ps, h1, h2, h3, h4, h5⟩ := h
  have hp : j < ps.length := by omega
  have hown := h1
  rcases h1.2 with ⟨_, h0⟩ | ⟨g, c2, cur, e1, hb, hg, _⟩
  · omega
  · injection e1 with e1 e2 e3
    subst e1 e2 e3
    have cell : ∀ f u, f < 5 → (cellsV ps[j] xs[j])[f]? = some u → W.cell? ⟨g, j * 5 + f, none⟩ = some u := by
      intro f u hf hu
      have := World.ownsRow.cells hown (g := g) rfl (j * 5 + f) u (by rw [flatV_get ps xs j f h4 hf hp hj]; exact hu)
      rw [add_none, Nat.zero_add] at this
      exact this
    obtain ⟨p1, p2, p3⟩ := h5 j hp hj
    exact ⟨g, ps[j].1, ps[j].2, rfl, hb, h2 g rfl, cell 0 _ (by decide) rfl, cell 1 _ (by decide) rfl, cell 2 _ (by decide) rfl, cell 3 _ (by decide) rfl, cell 4 _ (by decide) rfl, p1, p2, fun i hi => ⟨(p3 i hi).1, (p3 i hi).2.1⟩⟩

/-- append(own values, values..), the new ones in a block laid for the call. -/
theorem wpList_append_gv {W : World} {ops : Array Oper} {rest : List Oper} {o : Oper} {a : Act} {Q : Exit → Act → World → Prop} (hgd : o.guard = none) (s x : Operand)
    (ho : o.op = .call { callee := .builtin .append, args := #[s, x], argTypes := #[25, 25] })
    (lo hi hi2 : Nat) (v : Value) (xs : List VV) (hs : a.eval s = v) (hown : Gv lo hi W v xs) (G c m : Nat) (hx : a.eval x = .slice (some ⟨G, 0, none⟩) m c)
    (qs : List (Value × Value)) (ys : List VV) (hm : m = ys.length) (hq : qs.length = ys.length) (hl : Laid W G 28 (flatV qs ys)) (hone : ∀ u ∈ flatV qs ys, u.oneCell' = true)
    (hp : ∀ j, (hp : j < qs.length) → (hx : j < ys.length) → PartG lo hi2 W v.ownBlock qs[j] ys[j]) (h12 : hi ≤ hi2) (h2W : hi2 ≤ W.heap.size)
    (hlen : xs.length + m ≤ 1000000) (hbase : lo ≤ W.heap.size)
    (h : ∀ a' n' c' w', n' = (xs ++ ys).length → Gv lo w'.heap.size w' (.slice a' n' c') (xs ++ ys) → W.grownBy w' v.ownBlock → wpList Try.prog ops Q rest (a.put o.dst (.slice a' n' c')) w') : wpList Try.prog ops Q (o :: rest) a W := by
  subst hm
  obtain ⟨iv, hi', hz0, hz1, hz2⟩ := info_parts info_val
  obtain ⟨ps, h1, h2, h3, h4, h5⟩ := gv_more hown h12 h2W
  refine wpList_append_own_at W hgd s x 25 ho lo 28 iv _ 5 72 Try.underlying25 hi' hz0 hz1 hz2 rfl (by decide) v xs.length (flatV ps xs) hs h1 ⟨G, 0, none⟩ ys.length c (flatV qs ys) hx (flatV_length qs ys hq) ?_ hone (by unfold maxLen; omega) (by omega) hbase ?_
  · intro j u hu
    rw [add_none, Nat.zero_add, hl.cell]
    exact hu
  · intro v' w' k1 k2 _ k3
    have hform : ∃ a' c', v' = .slice a' (xs.length + ys.length) c' := by
      rcases k1.2 with ⟨rfl, h0⟩ | ⟨g, c2, cur, rfl, _⟩
      · exact ⟨none, 0, by rw [h0]⟩
      · exact ⟨_, c2, rfl⟩
    obtain ⟨a', c', rfl⟩ := hform
    have hK : Keeps (fun k => v.ownBlock = some k) W w' := Keeps.of_grown k2 (fun k hk => hk)
    refine h a' _ c' w' (by rw [List.length_append]) ⟨ps ++ qs, ?_, fun k hk => (k1.lt k hk).2, Nat.le_refl _, by rw [List.length_append, List.length_append, h4, hq], fun j hp' hx' => ?_⟩ k2
    · rw [List.length_append, flatV_append _ _ _ _ h4]; exact k1
    · have key : ∀ {p : Value × Value} {x : VV}, PartG lo hi2 W v.ownBlock p x → PartG lo w'.heap.size w' (Value.ownBlock (.slice a' (xs.length + ys.length) c')) p x := by
        intro p x hp0
        obtain ⟨p1, p2, p3⟩ := hp0
        refine ⟨row_foot p1 hK (fun i hi h => (p3 i (.inl hi)).2.2 h), row_foot p2 hK (fun i hi h => (p3 i (.inr hi)).2.2 h), fun i hi => ?_⟩
        obtain ⟨q1, q2, q3⟩ := p3 i hi
        have hsz := k2.size
        refine ⟨q1, by omega, fun e => ?_⟩
        rcases k3 with k3 | k3
        · rw [k3] at e; exact q3 e
        · rw [k3] at e; injection e with e; omega
      apply key
      by_cases hj : j < xs.length
      · rw [List.getElem_append_left (h4 ▸ hj), List.getElem_append_left hj]
        exact h5 j _ _
      · have hq' : j - xs.length < ys.length := by rw [List.length_append] at hx'; omega
        have e1 : (ps ++ qs)[j] = qs[j - xs.length]'(by rw [hq]; exact hq') := by
          rw [List.getElem_append_right (by rw [h4]; omega)]
          simp only [h4]
        have e2 : (xs ++ ys)[j] = ys[j - xs.length] := List.getElem_append_right (by omega)
        rw [e1, e2]
        exact hp _ _ _

set_option maxRecDepth 100000 in
set_option maxHeartbeats 4000000 in
theorem encode_any (lo hi : Nat) (v : Value) (xs : List VV) (w : World) (h : Gv lo hi w v xs) (hok : ∀ x ∈ xs, x.ok) (hlen : xs.length ≤ 1000) :
    Calls Try.prog 26 #[v] w (Copies 5 .u8 (natI (encAll xs)) w) := by
  obtain ⟨a, cap, rfl, hcap, hcm⟩ := gv_form h
  have hhi : hi ≤ w.heap.size := by obtain ⟨_, _, _, h3, _⟩ := h; exact h3
  have HOK := Lib.hid hok
  have hbe : Below w.heap.size w (w.alloc (.cells #[.slice none 0 0] 32)) := (Below.refl _ w).alloc (Nat.le_refl _) _
  have HG := Lib.hid (gv_keeps h (Keeps.of_below hbe) (fun k _ hk hk2 => by omega))
  have hs0 : (w.alloc (.cells #[.slice none 0 0] 32)).heap.size = w.heap.size + 1 := by simp
  have HW := Lib.hid (wr_new w)
  clear h hok
  go_enter Try.func26, Try.ntmps26
  go_wp2_with fail
  generalize w.alloc (.cells #[.slice none 0 0] 32) = w0 at *
  go_loopw [4] (fun iv wr => ∃ k g : Nat, k ≤ xs.length ∧ iv = .int .i64 (k : Int) ∧ Hid (Wr wr w.heap.size g (encAll (xs.take k))) ∧ w.heap.size ≤ g ∧ Hid (Gv lo hi wr (.slice a xs.length cap) xs) ∧ Below w.heap.size w wr) (fun iv _ => xs.length - (intOf iv).toNat)
  case atStart => exact ⟨0, w.heap.size, Nat.zero_le _, rfl, HW, Nat.le_refl _, HG, hbe⟩
  case round =>
    obtain ⟨k, g, hk, rfl, HWr, hgg, HGr, hbel⟩ := hrel
    clear HW HG hbe
    have hlw := HWr.out.lts
    by_cases hlt : k < xs.length
    · obtain ⟨gg, vb, vl, rfl, hgl, hgh, c0, c1, c2, c3, c4, hrb, hrl, hbl⟩ := gv_at HGr.out hlt
      have HRB := Lib.hid hrb
      have HRL := Lib.hid hrl
      have HBL := Lib.hid hbl
      have HX := Lib.hid (HOK.out xs[k] (List.getElem_mem hlt))
      have HE := Lib.hid (encAll_take hlt)
      have HLN : Hid ((encAll (xs.take k)).length ≤ 100000000) := by
        have h1 := encAll_len (xs := xs.take k) (fun u hu => HOK.out u (List.mem_of_mem_take hu))
        have h3 : (xs.take k).length ≤ 1000 := by simp; omega
        exact Lib.hid (by omega)
      clear hrb hrl hbl
      generalize xs[k] = x at *
      go_wp2_with fail
      refine (write_any w.heap.size g _ vb vl x wr HWr.out HRB.out HRL.out (fun i hi => by have := HBL.out i hi; omega) HX.out HLN.out).mono ?_
      rintro e w2 ⟨rfl, g2, hw2, hg2, hk2⟩
      have HW2 := Lib.hid hw2
      have HG2 := Lib.hid (gv_keeps HGr.out hk2 (fun i hi hi2 => by omega))
      have hb2 := below_foot hbel hk2 (by omega) (fun i hi => by omega)
      have hgg2 : w.heap.size ≤ g2 := by omega
      clear hw2 hk2 hbel HGr HWr
      go_wp2_with fail
      go_roundw
      case rel => exact ⟨k + 1, g2, by omega, by go_num, Lib.hid (by rw [HE.out]; exact HW2.out), hgg2, HG2, hb2⟩
      case measure => simp [intOf]; omega
    · obtain rfl : k = xs.length := by omega
      rw [List.take_length] at HWr
      have HEN := Lib.hid (encAll_len HOK.out)
      go_wp2_with fail
      refine (devDone_any w.heap.size g _ wr HWr.out (by have := HEN.out; omega)).mono ?_
      rintro e w5 ⟨v5, rfl, hv5, hb5⟩
      have H5 := Lib.hid (fresh_mono hv5 hbel.size)
      have hb6 := below_then hbel hb5
      clear hv5 hb5 hbel
      go_wp2_with fail
      go_ret
      exact copies_mk H5.out hb6
end Go.Proofs.Ytghilgkkpbhoiaa
