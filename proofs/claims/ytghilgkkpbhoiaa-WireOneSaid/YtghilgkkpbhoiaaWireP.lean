/-
  The reference's encoding of values.
-/
import Derived.Test.YtghilgkkpbhoiaaWireO
namespace Go.Proofs.Ytghilgkkpbhoiaa
open Go.RowKit Go.Shelf
set_option linter.unusedVariables false

/-- The encoding of a value. -/
def encV (v : VV) : List Nat :=
  if v.kind = 0 then varN v.u else if v.kind = 1 then varN (zigN v.n) else if v.kind = 2 then boolN (decide (v.n = 1))
  else if v.kind = 3 ∨ v.kind = 4 then varN v.b.length ++ v.b else varN v.l.length ++ zigsN v.l
def encAll (xs : List VV) : List Nat := xs.flatMap encV
theorem encAll_take {xs : List VV} {k : Nat} (hk : k < xs.length) : encAll (xs.take (k + 1)) = encAll (xs.take k) ++ encV xs[k] := by
  unfold encAll
  rw [List.take_succ_eq_append_getElem hk, List.flatMap_append]; simp

/-- A value within the ranges of its types, and not too long. -/
structure VV.ok (v : VV) : Prop where
  u : v.u < 18446744073709551616
  n : -9223372036854775808 ≤ v.n ∧ v.n ≤ 9223372036854775807
  b : ∀ c ∈ v.b, c < 256
  bl : v.b.length ≤ 1000
  l : ∀ n ∈ v.l, -9223372036854775808 ≤ n ∧ n ≤ 9223372036854775807
  ll : v.l.length ≤ 1000

/-- Element j of a row of values. -/
def ValCells (W : World) (b off : Nat) (v : VV) : Prop :=
  ∃ vb vl, W.cell? ⟨b, off, none⟩ = some (.int .i64 v.kind) ∧ W.cell? ⟨b, off + 1, none⟩ = some (.int .u64 (v.u : Int)) ∧ W.cell? ⟨b, off + 2, none⟩ = some (.int .i64 v.n) ∧
    W.cell? ⟨b, off + 3, none⟩ = some vb ∧ W.cell? ⟨b, off + 4, none⟩ = some vl ∧ Row .u8 W vb (natI v.b) ∧ Row .i64 W vl v.l

/-- The slice value v holds the values xs. -/
def ValRow (W : World) (v : Value) (xs : List VV) : Prop :=
  ∃ a cap, v = .slice a xs.length cap ∧ xs.length ≤ cap ∧ cap ≤ 9223372036854775807 ∧
    (xs ≠ [] → ∃ b off, a = some ⟨b, off, none⟩ ∧ ∀ j, (hj : j < xs.length) → ValCells W b (off + j * 5) xs[j])

theorem cells_keeps {W W2 : World} {b off : Nat} {v : VV} (h : ValCells W b off v) (hb : Below W.heap.size W W2) : ValCells W2 b off v := by
  obtain ⟨vb, vl, h0, h1, h2, h3, h4, h5, h6⟩ := h
  have go : ∀ {o : Nat} {u : Value}, W.cell? ⟨b, o, none⟩ = some u → W2.cell? ⟨b, o, none⟩ = some u := fun {o u} h => (hb.cell (p := ⟨b, o, none⟩) (World.block_lt_of_cell? _ _ h)).trans h
  exact ⟨vb, vl, go h0, go h1, go h2, go h3, go h4, row_keeps h5 hb, row_keeps h6 hb⟩
theorem valRow_keeps {W W2 : World} {v : Value} {xs : List VV} (h : ValRow W v xs) (hb : Below W.heap.size W W2) : ValRow W2 v xs := by
  obtain ⟨a, cap, h1, h2, h3, h4⟩ := h
  refine ⟨a, cap, h1, h2, h3, fun hne => ?_⟩
  obtain ⟨b, off, e, hc⟩ := h4 hne
  exact ⟨b, off, e, fun j hj => cells_keeps (hc j hj) hb⟩

theorem encV_len {v : VV} (h : v.ok) : (encV v).length ≤ 20000 := by
  unfold encV
  have h1 := varN_len10 h.u
  have h2 := varN_len10 (zigN_lt h.n)
  have h3 := varN_len10 (n := v.b.length) (by have := h.bl; omega)
  have h4 := varN_len10 (n := v.l.length) (by have := h.ll; omega)
  have h5 := zigsN_len h.l
  have h6 := h.bl
  have h7 := h.ll
  split
  · omega
  · split
    · omega
    · split
      · simp [boolN]
      · split
        · rw [List.length_append]; omega
        · rw [List.length_append]; omega
theorem encAll_len {xs : List VV} (h : ∀ v ∈ xs, v.ok) : (encAll xs).length ≤ 20000 * xs.length := by
  induction xs with
  | nil => simp [encAll]
  | cons v xs ih =>
    have e : encAll (v :: xs) = encV v ++ encAll xs := by simp [encAll]
    rw [e, List.length_append, List.length_cons]
    have := encV_len (h v (by simp))
    have := ih (fun u hu => h u (by simp [hu]))
    omega

set_option maxRecDepth 100000 in
set_option maxHeartbeats 4000000 in
theorem refEncode_any (v : Value) (xs : List VV) (w : World) (hv : ValRow w v xs) (hok : ∀ x ∈ xs, x.ok) (hlen : xs.length ≤ 1000) :
    Calls Try.prog 17 #[v] w (Copies 5 .u8 (natI (encAll xs)) w) := by
  obtain ⟨i0, hi, hz0, hz1, hz2⟩ := info_parts info_u8
  have HOK := Lib.hid hok
  have HV := Lib.hid hv
  obtain ⟨p, cap, rfl, hcap, hcm, hne⟩ := hv
  have HNE := Lib.hid hne
  clear hne hok
  go_enter Try.func17, Try.ntmps17
  go_wp2_with fail
  go_loopw [3, 4] (fun out i wr => ∃ k : Nat, k ≤ xs.length ∧ i = .int .i64 (k : Int) ∧ Hid (Fresh w.heap.size 5 .u8 wr out (natI (encAll (xs.take k)))) ∧ Below w.heap.size w wr) (fun _ i _ => xs.length - (intOf i).toNat)
  case atStart => exact ⟨0, Nat.zero_le _, rfl, Lib.hid (fresh_nil _ _ _ _), Below.refl _ _⟩
  case round =>
    obtain ⟨k, hk, rfl, HF, hbel⟩ := hrel
    by_cases hlt : k < xs.length
    · obtain ⟨b, off, rfl, hc⟩ := HNE.out (fun h => by rw [h] at hlt; simp at hlt)
      obtain ⟨vb, vl, c0, c1, c2, c3, c4, hvb, hvl⟩ := cells_keeps (hc k hlt) hbel
      have HB := Lib.hid hvb
      have HL := Lib.hid hvl
      have HX := Lib.hid (HOK.out xs[k] (List.getElem_mem hlt))
      have HE := Lib.hid (encAll_take hlt)
      clear hc hvb hvl
      generalize xs[k] = x at *
      have hpl : (natI (encAll (xs.take k))).length + (natI (encV x)).length ≤ 1000000000 := by
        have h1 := encAll_len (xs := xs.take k) (fun u hu => HOK.out u (List.mem_of_mem_take hu))
        have h2 := encV_len HX.out
        have h3 : (xs.take k).length ≤ 1000 := by simp; omega
        rw [natI_length, natI_length]
        omega
      have hk : x.kind = 0 ∨ x.kind = 1 ∨ x.kind = 2 ∨ x.kind = 3 ∨ x.kind = 4 ∨ (x.kind ≠ 0 ∧ x.kind ≠ 1 ∧ x.kind ≠ 2 ∧ x.kind ≠ 3 ∧ x.kind ≠ 4) := by omega
      obtain ⟨kind, xu, xn, xb, xl⟩ := x
      simp only at hk c0 c1 c2
      rcases hk with rfl | rfl | rfl | rfl | rfl | ⟨h0, h1, h2, h3, h4⟩
      · have HC : Hid (encV ⟨0, xu, xn, xb, xl⟩ = varN xu) := Lib.hid rfl
        rw [HC.out] at hpl
        have HPL := Lib.hid hpl
        clear hpl
        go_wp2_with fail
        refine (refVar_any xu wr HX.out.u).mono ?_
        rintro e w2 ⟨v2, rfl, h2, hb2⟩
        have H2 := Lib.hid h2
        have HF2 := Lib.hid (fresh_keeps HF.out hb2)
        have hbel2 := below_then hbel hb2
        clear h2 HF hbel hb2 c0 c1 c2 c3 c4
        go_wp2_with (at_builtin; refine wpList_append_fresh rfl _ _ 24 rfl w.heap.size 5 i0 .u8 1 Try.underlying24 hi hz0 hz1 hz2 (by decide) _ _ rfl HF2.out _ _ rfl (row_of_fresh H2.out) HPL.out hbel2.size ?_; intro v3 w3 hfr hgrow; have hb3 : Below w.heap.size w w3 := below_grown hbel2 HF2.out hgrow hbel2.size; have HFR := Lib.hid hfr; clear hfr hgrow)
        go_roundw
        case rel => exact ⟨k + 1, by omega, by go_num, Lib.hid (by rw [HE.out, HC.out, natI_append]; exact HFR.out), hb3⟩
        case measure => simp [intOf]; omega
      · have HC : Hid (encV ⟨1, xu, xn, xb, xl⟩ = varN (zigN xn)) := Lib.hid rfl
        rw [HC.out] at hpl
        have HPL := Lib.hid hpl
        clear hpl
        go_wp2_with fail
        refine (refInt_any xn wr HX.out.n).mono ?_
        rintro e w2 ⟨v2, rfl, h2, hb2⟩
        have H2 := Lib.hid h2
        have HF2 := Lib.hid (fresh_keeps HF.out hb2)
        have hbel2 := below_then hbel hb2
        clear h2 HF hbel hb2 c0 c1 c2 c3 c4
        go_wp2_with (at_builtin; refine wpList_append_fresh rfl _ _ 24 rfl w.heap.size 5 i0 .u8 1 Try.underlying24 hi hz0 hz1 hz2 (by decide) _ _ rfl HF2.out _ _ rfl (row_of_fresh H2.out) HPL.out hbel2.size ?_; intro v3 w3 hfr hgrow; have hb3 : Below w.heap.size w w3 := below_grown hbel2 HF2.out hgrow hbel2.size; have HFR := Lib.hid hfr; clear hfr hgrow)
        go_roundw
        case rel => exact ⟨k + 1, by omega, by go_num, Lib.hid (by rw [HE.out, HC.out, natI_append]; exact HFR.out), hb3⟩
        case measure => simp [intOf]; omega
      · have HC : Hid (encV ⟨2, xu, xn, xb, xl⟩ = boolN (decide (xn = 1))) := Lib.hid rfl
        rw [HC.out] at hpl
        have HPL := Lib.hid hpl
        clear hpl
        go_wp2_with fail
        refine (refBool_any (decide (xn = 1)) wr).mono ?_
        rintro e w2 ⟨v2, rfl, h2, hb2⟩
        have H2 := Lib.hid h2
        have HF2 := Lib.hid (fresh_keeps HF.out hb2)
        have hbel2 := below_then hbel hb2
        clear h2 HF hbel hb2 c0 c1 c2 c3 c4
        go_wp2_with (at_builtin; refine wpList_append_fresh rfl _ _ 24 rfl w.heap.size 5 i0 .u8 1 Try.underlying24 hi hz0 hz1 hz2 (by decide) _ _ rfl HF2.out _ _ rfl (row_of_fresh H2.out) HPL.out hbel2.size ?_; intro v3 w3 hfr hgrow; have hb3 : Below w.heap.size w w3 := below_grown hbel2 HF2.out hgrow hbel2.size; have HFR := Lib.hid hfr; clear hfr hgrow)
        go_roundw
        case rel => exact ⟨k + 1, by omega, by go_num, Lib.hid (by rw [HE.out, HC.out, natI_append]; exact HFR.out), hb3⟩
        case measure => simp [intOf]; omega
      · have HC : Hid (encV ⟨3, xu, xn, xb, xl⟩ = varN xb.length ++ xb) := Lib.hid rfl
        rw [HC.out] at hpl
        have HPL := Lib.hid hpl
        clear hpl
        go_wp2_with fail
        refine (refRaw_any vb (natI xb) wr HB.out (by rw [natI_length]; have h : xb.length ≤ 1000 := HX.out.bl; omega)).mono ?_
        rintro e w2 ⟨v2, rfl, h2, hb2⟩
        rw [natI_length, ← natI_append] at h2
        have H2 := Lib.hid h2
        have HF2 := Lib.hid (fresh_keeps HF.out hb2)
        have hbel2 := below_then hbel hb2
        clear h2 HF hbel hb2 c0 c1 c2 c3 c4
        go_wp2_with (at_builtin; refine wpList_append_fresh rfl _ _ 24 rfl w.heap.size 5 i0 .u8 1 Try.underlying24 hi hz0 hz1 hz2 (by decide) _ _ rfl HF2.out _ _ rfl (row_of_fresh H2.out) HPL.out hbel2.size ?_; intro v3 w3 hfr hgrow; have hb3 : Below w.heap.size w w3 := below_grown hbel2 HF2.out hgrow hbel2.size; have HFR := Lib.hid hfr; clear hfr hgrow)
        go_roundw
        case rel => exact ⟨k + 1, by omega, by go_num, Lib.hid (by rw [HE.out, HC.out, natI_append]; exact HFR.out), hb3⟩
        case measure => simp [intOf]; omega
      · have HC : Hid (encV ⟨4, xu, xn, xb, xl⟩ = varN xb.length ++ xb) := Lib.hid rfl
        rw [HC.out] at hpl
        have HPL := Lib.hid hpl
        clear hpl
        go_wp2_with fail
        refine (refRaw_any vb (natI xb) wr HB.out (by rw [natI_length]; have h : xb.length ≤ 1000 := HX.out.bl; omega)).mono ?_
        rintro e w2 ⟨v2, rfl, h2, hb2⟩
        rw [natI_length, ← natI_append] at h2
        have H2 := Lib.hid h2
        have HF2 := Lib.hid (fresh_keeps HF.out hb2)
        have hbel2 := below_then hbel hb2
        clear h2 HF hbel hb2 c0 c1 c2 c3 c4
        go_wp2_with (at_builtin; refine wpList_append_fresh rfl _ _ 24 rfl w.heap.size 5 i0 .u8 1 Try.underlying24 hi hz0 hz1 hz2 (by decide) _ _ rfl HF2.out _ _ rfl (row_of_fresh H2.out) HPL.out hbel2.size ?_; intro v3 w3 hfr hgrow; have hb3 : Below w.heap.size w w3 := below_grown hbel2 HF2.out hgrow hbel2.size; have HFR := Lib.hid hfr; clear hfr hgrow)
        go_roundw
        case rel => exact ⟨k + 1, by omega, by go_num, Lib.hid (by rw [HE.out, HC.out, natI_append]; exact HFR.out), hb3⟩
        case measure => simp [intOf]; omega
      · have c0' : (kind == 0) = false := by simp; omega
        have c1' : (kind == 1) = false := by simp; omega
        have c2' : (kind == 2) = false := by simp; omega
        have c3' : (kind == 3) = false := by simp; omega
        have c4' : (kind == 4) = false := by simp; omega
        have HC : Hid (encV ⟨kind, xu, xn, xb, xl⟩ = varN xl.length ++ zigsN xl) := Lib.hid (by unfold encV; rw [if_neg h0, if_neg h1, if_neg h2, if_neg (fun h => h.elim h3 h4)])
        rw [HC.out] at hpl
        have HPL := Lib.hid hpl
        clear hpl
        clear h0 h1 h2 h3 h4
        go_wp2_with fail
        refine (refIntsEnc_any vl xl wr HL.out HX.out.l (by have h : xl.length ≤ 1000 := HX.out.ll; omega)).mono ?_
        rintro e w2 ⟨v2, rfl, h2, hb2⟩
        have H2 := Lib.hid h2
        have HF2 := Lib.hid (fresh_keeps HF.out hb2)
        have hbel2 := below_then hbel hb2
        clear h2 HF hbel hb2 c0 c1 c2 c3 c4
        go_wp2_with (at_builtin; refine wpList_append_fresh rfl _ _ 24 rfl w.heap.size 5 i0 .u8 1 Try.underlying24 hi hz0 hz1 hz2 (by decide) _ _ rfl HF2.out _ _ rfl (row_of_fresh H2.out) HPL.out hbel2.size ?_; intro v3 w3 hfr hgrow; have hb3 : Below w.heap.size w w3 := below_grown hbel2 HF2.out hgrow hbel2.size; have HFR := Lib.hid hfr; clear hfr hgrow)
        go_roundw
        case rel => exact ⟨k + 1, by omega, by go_num, Lib.hid (by rw [HE.out, HC.out, natI_append]; exact HFR.out), hb3⟩
        case measure => simp [intOf]; omega
    · obtain rfl : k = xs.length := by omega
      rw [List.take_length] at HF
      clear HNE HV HOK
      go_wp2_with fail
      go_ret
      exact copies_mk HF.out hbel
end Go.Proofs.Ytghilgkkpbhoiaa
