/-
 The reference of package wide: integers as they lie in memory; normal, Of, comparing, adding, subtracting.
 The reference of package wide: Of, comparing, adding, subtracting.
 The reference of package wide: comparing.
 The reference of package wide: Compare, adding, subtracting.
 The reference of package wide: subtracting and adding digits.
-/
import Derived.Test.YtepakogbbomaoaaGreatDoorBaseO
import Derived.Test.YtepakogbbomaoaaGreatDoorNumAO
namespace Go.Proofs.YtepakogbbomaoaaGreatDoor
open Go.RowKit Go.Shelf
set_option linter.unusedVariables false
set_option maxRecDepth 100000
def NAt (W : World) (x : Value) (n : Int) : Prop := ∃ v, x = .agg #[.bool (decide (n < 0)), v] ∧ Row .i64 W v (natI (digs n.natAbs))
theorem nat_keeps {W W2 : World} {x : Value} {n : Int} (h : NAt W x n) (hb : Below W.heap.size W W2) : NAt W2 x n := by
 obtain ⟨v, h1, h2⟩ := h
 exact ⟨v, h1, row_keeps h2 hb⟩
def NEnd (n : Int) (w : World) (e : Ending) (w' : World) : Prop := ∃ x, e = .returned x ∧ NAt w' x n ∧ Below w.heap.size w w'
def sgn (neg : Bool) (m : Nat) : Int := if neg then -(m : Int) else (m : Int)
theorem sgn_abs (neg : Bool) (m : Nat) : (sgn neg m).natAbs = m := by unfold sgn; split <;> omega
theorem sgn_neg (neg : Bool) (m : Nat) : decide (sgn neg m < 0) = (neg && decide (0 < m)) := by
 unfold sgn
 cases neg
 ·simp
 ·simp
def lenOfV : Value → Nat
 | .slice _ n _ => n
 | _ => 0
theorem row_nil_of {k : IntKind} {W : World} (a : Option Addr) (cap : Nat) (h : a = none → cap = 0) (hc : cap ≤ 9223372036854775807) : Row k W (.slice a 0 cap) [] :=
 ⟨a, cap, rfl, Nat.zero_le _, hc, fun h => (h rfl).elim, fun e => ⟨rfl, h e⟩⟩
theorem natI_take (d : List Nat) (m : Nat) : natI (d.take m) = (natI d).take m := by simp [natI, List.map_take]
theorem row_cutW {k : IntKind} {W : World} {p : Option Addr} {cap m : Nat} {l : List Int} (h : Row k W (.slice p l.length cap) l) (hm : m ≤ l.length) : Row k W (.slice p m cap) (l.take m) := by
 obtain ⟨a, cap', e1, h2, h3, h4, h5⟩ := h
 injection e1 with e1 _ e3
 subst e1 e3
 have e : (l.take m).length = m := by rw [List.length_take]; omega
 refine ⟨p, cap, by rw [e], by rw [e]; omega, h3, fun hne => ?_, fun h => ?_⟩
 ·obtain ⟨b', off', e4, hc⟩ := h4 (fun h => hne (by rw [h]; simp))
  refine ⟨b', off', e4, fun j hj => ?_⟩
  rw [e] at hj
  rw [hc j (by omega), List.getElem?_take_of_lt hj]
 ·obtain ⟨h6, h7⟩ := h5 h
  exact ⟨by rw [h6]; simp, h7⟩
def NEndAt (p : Option Addr) (n : Int) (w : World) (e : Ending) (w' : World) : Prop := ∃ b m k, e = .returned (.agg #[.bool b, .slice p m k]) ∧ NAt w' (.agg #[.bool b, .slice p m k]) n ∧ Below w.heap.size w w'
set_option maxRecDepth 100000 in
set_option maxHeartbeats 2000000 in
theorem normal_loc (neg : Bool) (p : Option Addr) (cap : Nat) (d : List Nat) (w : World) (hv : Row .i64 w (.slice p d.length cap) (natI d)) (h : ∀ c ∈ d, c < 10000) (hl : d.length ≤ 1000000) :
  Calls Tryz.prog 68 #[.bool neg, .slice p d.length cap] w (NEndAt p (sgn neg (valD d)) w) := by
 have HV := Lib.hid hv
 have HD := Lib.hid h
 obtain ⟨p', cap', e, hcap, hcm, hne, hnil⟩ := hv
 injection e with e1 _ e3
 subst e1 e3
 rw [natI_length] at *
 have HNE := Lib.hid hne
 clear hne hnil h
 have hT := Laid.new w 24 [.bool false, .slice none 0 0]
 have a0 := hT.cell 0
 have a1 := hT.cell 1
 have f0 := hT.frozen 0
 have f1 := hT.frozen 1
 simp only [List.getElem?_cons_zero, List.getElem?_cons_succ] at a0 a1
 have hbe : Below w.heap.size w (w.alloc (.cells #[.bool false, .slice none 0 0] 24)) := (Below.refl _ w).alloc (Nat.le_refl _) _
 replace a0 : (w.alloc (.cells #[.bool false, .slice none 0 0] 24)).cell? ⟨w.heap.size, 0, none⟩ = some (.bool false) := a0
 replace a1 : (w.alloc (.cells #[.bool false, .slice none 0 0] 24)).cell? ⟨w.heap.size, 1, none⟩ = some (.slice none 0 0) := a1
 replace f0 : (w.alloc (.cells #[.bool false, .slice none 0 0] 24)).frozen? ⟨w.heap.size, 0, none⟩ = false := f0
 replace f1 : (w.alloc (.cells #[.bool false, .slice none 0 0] 24)).frozen? ⟨w.heap.size, 1, none⟩ = false := f1
 clear hT
 go_enter Tryz.func68, Tryz.ntmps68
 go_wp2_with fail
 generalize w.alloc (.cells #[.bool false, .slice none 0 0] 24) = w0 at *
 go_loopw [1] (fun dv wr => ∃ m : Nat, m ≤ d.length ∧ dv = .slice p m cap ∧ Hid (valD (d.take m) = valD d) ∧ w0 = wr) (fun dv _ => lenOfV dv)
 case atStart => exact ⟨d.length, Nat.le_refl _, rfl, Lib.hid (by rw [List.take_length]), rfl⟩
 case round =>
  obtain ⟨m, hm, rfl, HM, rfl⟩ := hrel
  have fin : ∀ (hne : d.take m ≠ [] → (d.take m).getLast? ≠ some 0), NAt w (.agg #[.bool (neg && decide (0 < m)), .slice p m cap]) (sgn neg (valD d)) := by
   intro hlast
   have hd : digs (valD d) = d.take m := by
    rw [← HM.out]
    refine digs_of (fun c hc => HD.out c (List.mem_of_mem_take hc)) (fun hne => ?_)
    intro e
    exact hlast hne (by rw [List.getLast?_eq_some_getLast hne, e])
   refine ⟨.slice p m cap, ?_, ?_⟩
   ·rw [sgn_neg]
    have hp : decide (0 < valD d) = decide (0 < m) := by
     apply decide_eq_decide.2
     constructor
     ·intro h0
      rcases Nat.eq_zero_or_pos m with hm0 | hm0
      ·subst hm0; have := HM.out; rw [List.take_zero] at this; rw [← this] at h0; exact absurd h0 (by decide)
      ·exact hm0
     ·intro h0
      have hl1 : (digs (valD d)).length = m := by rw [hd, List.length_take]; omega
      rcases Nat.eq_zero_or_pos (valD d) with hv0 | hv0
      ·rw [hv0, digs_zero] at hl1; simp at hl1; omega
      ·exact hv0
    rw [hp]
   ·rw [sgn_abs, hd, natI_take]
    exact row_cutW (by rw [natI_length]; exact HV.out) (by rw [natI_length]; exact hm)
  have FIN := Lib.hid fin
  clear fin
  rcases Nat.eq_zero_or_pos m with hm0 | hm0
  ·subst hm0
   cases neg
   all_goals
    go_wp2_with fail
    refine bodyPost_ret (v := .agg #[.bool false, .slice p 0 cap]) (by simp [results, Tryz.results68, go_sem, a0, a1]) rfl ?_
    have h1 := FIN.out (fun hne => absurd (List.take_zero) hne)
    have hb : Below w.heap.size w ((w0.setCell ⟨w.heap.size, 0, none⟩ (.bool false)).setCell ⟨w.heap.size, 1, none⟩ (.slice p 0 cap)) := (hbe.setCell (p := ⟨w.heap.size, 0, none⟩) (Nat.le_refl _) _).setCell (p := ⟨w.heap.size, 1, none⟩) (Nat.le_refl _) _
    exact ⟨_, _, _, rfl, nat_keeps (by simpa using h1) hb, hb⟩
  ·obtain ⟨k, rfl⟩ : ∃ k, m = k + 1 := ⟨m - 1, by omega⟩
   obtain ⟨b, off, rfl, hc⟩ := HNE.out (fun h => by have := congrArg List.length h; rw [natI_length, List.length_nil] at this; omega)
   have hck0 := hc k (by omega)
   have hck := (hbe.cell (p := ⟨b, off + k, none⟩) (World.block_lt_of_cell? _ _ hck0)).trans hck0
   have hgk : (natI d)[k]?.getD 0 = ((d[k] : Nat) : Int) := by rw [natI_getD, List.getElem?_eq_getElem (by omega)]; rfl
   rw [hgk] at hck
   have HLAST : Hid ((d.take (k + 1)).getLast? = some d[k]) := Lib.hid (by rw [List.take_succ_eq_append_getElem (by omega), List.getLast?_append]; simp)
   have HVT := Lib.hid (valD_take (d := d) (k := k) (by omega))
   clear hc hgk hck0
   have hk0 : (0 : Int) ≤ (k : Int) := by omega
   have hkc : (k : Int) ≤ (cap : Int) := by omega
   have hc0 : ¬ cap = 0 := by omega
   by_cases hz : d[k] = 0
   ·rw [hz] at hck
    have HM2 : Hid (valD (d.take k) = valD d) := by
     have h1 := HVT.out
     rw [hz, Nat.mul_zero, Nat.add_zero] at h1
     have h2 := HM.out
     exact Lib.hid (by omega)
    go_wp2_with fail
    go_roundw
    case rel => exact ⟨k, by omega, rfl, HM2, trivial⟩
    case measure => simp [lenOfV]
   ·have b1 : (((d[k] : Nat) : Int) == 0) = false := by rw [beq_eq_false_iff_ne]; omega
    have HNZ := Lib.hid hz
    generalize d[k] = x at *
    clear hz
    cases neg
    ·go_wp2_with fail
     refine bodyPost_ret (v := .agg #[.bool false, .slice (some ⟨b, off, none⟩) (k + 1) cap]) (by simp [results, Tryz.results68, go_sem, a0, a1]) rfl ?_
     have h1 := FIN.out (fun _ e => HNZ.out (by rw [HLAST.out] at e; injection e))
     have hb : Below w.heap.size w ((w0.setCell ⟨w.heap.size, 0, none⟩ (.bool false)).setCell ⟨w.heap.size, 1, none⟩ (.slice (some ⟨b, off, none⟩) (k + 1) cap)) := (hbe.setCell (p := ⟨w.heap.size, 0, none⟩) (Nat.le_refl _) _).setCell (p := ⟨w.heap.size, 1, none⟩) (Nat.le_refl _) _
     exact ⟨_, _, _, rfl, nat_keeps (by simpa using h1) hb, hb⟩
    ·go_wp2_with fail
     refine bodyPost_ret (v := .agg #[.bool true, .slice (some ⟨b, off, none⟩) (k + 1) cap]) (by simp [results, Tryz.results68, go_sem, a0, a1]) rfl ?_
     have h1 := FIN.out (fun _ e => HNZ.out (by rw [HLAST.out] at e; injection e))
     have hb : Below w.heap.size w ((w0.setCell ⟨w.heap.size, 0, none⟩ (.bool true)).setCell ⟨w.heap.size, 1, none⟩ (.slice (some ⟨b, off, none⟩) (k + 1) cap)) := (hbe.setCell (p := ⟨w.heap.size, 0, none⟩) (Nat.le_refl _) _).setCell (p := ⟨w.heap.size, 1, none⟩) (Nat.le_refl _) _
     exact ⟨_, _, _, rfl, nat_keeps (by simpa using h1) hb, hb⟩
theorem normal_any (neg : Bool) (v : Value) (d : List Nat) (w : World) (hv : Row .i64 w v (natI d)) (h : ∀ c ∈ d, c < 10000) (hl : d.length ≤ 1000000) :
  Calls Tryz.prog 68 #[.bool neg, v] w (NEnd (sgn neg (valD d)) w) := by
 have hv2 := hv
 obtain ⟨p, cap, rfl, _⟩ := hv2
 rw [natI_length] at hv ⊢
 refine (normal_loc neg p cap d w hv h hl).mono ?_
 rintro e w' ⟨b, m, k, rfl, h1, h2⟩
 exact ⟨_, rfl, h1, h2⟩
theorem cells2 {W : World} {r : Nat} {t : TypeId} {u v : Value} (h : Laid W r t [u, v]) : W.cell? ⟨r, 0, none⟩ = some u ∧ W.cell? ⟨r, 1, none⟩ = some v ∧ W.frozen? ⟨r, 0, none⟩ = false ∧ W.frozen? ⟨r, 1, none⟩ = false :=
 ⟨h.cell 0, h.cell 1, h.frozen 0, h.frozen 1⟩
theorem row_set {W : World} {r : Nat} {t : TypeId} {b : Bool} {a : Option Addr} {n k : Nat} {v : Value} {zs : List Int} (hl : Laid W r t [.bool b, .slice a n k]) (h : Row .i64 W v zs) (j : Nat) (u : Value) : Row .i64 (W.setCell ⟨r, j, none⟩ u) v zs := by
 obtain ⟨p, cap, rfl, h2, h3, h4, h5⟩ := h
 refine ⟨p, cap, rfl, h2, h3, fun hne => ?_, h5⟩
 obtain ⟨g, off, rfl, hc⟩ := h4 hne
 have h0 : 0 < zs.length := List.length_pos_iff.2 hne
 have hg : g ≠ r := by
  intro e
  subst e
  have hc0 := hc 0 h0
  rw [hl.cell] at hc0
  rcases (by omega : off + 0 = 0 ∨ off + 0 = 1 ∨ 2 ≤ off + 0) with ho | ho | ho
  ·rw [ho] at hc0; simp at hc0
  ·rw [ho] at hc0; simp at hc0
  ·rw [List.getElem?_eq_none (by simp; omega)] at hc0; cases hc0
 exact ⟨g, off, rfl, fun i hi => (keeps_set W r j u).cell (hc i hi) (show ¬ g = r from hg)⟩
theorem nend_store {w W : World} {n : Int} {b c : Bool} {a p : Option Addr} {m k m2 k2 : Nat} (hb : Below w.heap.size w W) (hl : Laid W w.heap.size 24 [.bool c, .slice p m2 k2]) (hx : NAt W (.agg #[.bool b, .slice a m k]) n) :
  NEnd n w (.returned (.agg #[.bool b, .slice a m k])) ((W.setCell ⟨w.heap.size, 0, none⟩ (.bool b)).setCell ⟨w.heap.size, 1, none⟩ (.slice a m k)) := by
 obtain ⟨v, e, hr⟩ := hx
 injection e with e
 have e1 : Value.bool b = .bool (decide (n < 0)) := by simpa using congrArg (fun t => t[0]!) e
 have e2 : Value.slice a m k = v := by simpa using congrArg (fun t => t[1]!) e
 subst e2
 have hl2 : Laid (W.setCell ⟨w.heap.size, 0, none⟩ (.bool b)) w.heap.size 24 [.bool b, .slice p m2 k2] := hl.set 0 _
 refine ⟨_, rfl, ⟨.slice a m k, by rw [e1], row_set hl2 (row_set hl hr 0 _) 1 _⟩, ?_⟩
 exact (hb.setCell (p := ⟨w.heap.size, 0, none⟩) (Nat.le_refl _) _).setCell (p := ⟨w.heap.size, 1, none⟩) (Nat.le_refl _) _
theorem nat_form {W : World} {x : Value} {n : Int} (h : NAt W x n) : ∃ a cap, x = .agg #[.bool (decide (n < 0)), .slice a (digs n.natAbs).length cap] := by
 obtain ⟨v, rfl, a, cap, rfl, _⟩ := h
 exact ⟨a, cap, by rw [natI_length]⟩
set_option maxRecDepth 100000 in
set_option maxHeartbeats 2000000 in
theorem of_any (n : Int) (w : World) (hn : -9223372036854775808 ≤ n ∧ n ≤ 9223372036854775807) :
  Calls Tryz.prog 30 #[.int .i64 n] w (NEnd n w) := by
 obtain ⟨i0, hi, hz0, hz1, hz2⟩ := info_parts info_int
 have HT := Lib.hid (Laid.new w 24 [.bool false, .slice none 0 0])
 have hbe : Below w.heap.size w (w.alloc (.cells #[.bool false, .slice none 0 0] 24)) := (Below.refl _ w).alloc (Nat.le_refl _) _
 have hsz : (w.alloc (.cells #[.bool false, .slice none 0 0] 24)).heap.size = w.heap.size + 1 := by simp
 have HN := Lib.hid hn
 go_enter Tryz.func30, Tryz.ntmps30
 go_wp2_with fail
 generalize w.alloc (.cells #[.bool false, .slice none 0 0] 24) = w0 at *
 go_loopw [0, 3, 5] (fun nv dv kv wr => ∃ (m : Int) (pre : List Nat), nv = .int .i64 m ∧ m.natAbs ≤ n.natAbs ∧ Hid (digs n.natAbs = pre ++ digs m.natAbs) ∧ Hid (Fresh w0.heap.size 3 .i64 wr dv (natI pre)) ∧ Hid (Below w0.heap.size w0 wr)) (fun nv _ _ _ => (intOf nv).natAbs)
 case atStart => exact ⟨n, [], rfl, Nat.le_refl _, Lib.hid rfl, Lib.hid (fresh_nil _ _ _ _), Lib.hid (Below.refl _ _)⟩
 case round =>
  obtain ⟨m, pre, rfl, hm, HD, HF, HB⟩ := hrel
  by_cases hm0 : m = 0
  ·subst hm0
   have HD2 : Hid (digs n.natAbs = pre) := Lib.hid (by have h := HD.out; rw [show (0 : Int).natAbs = 0 from rfl, digs_zero, List.append_nil] at h; exact h)
   have hrow := row_of_fresh HF.out
   rw [← HD2.out] at hrow
   have hb1 := below_then hbe (HB.out.mono (Nat.le_refl _))
   have HL1 := Lib.hid (HT.out.below HB.out)
   have hz1 := HB.out.size
   obtain ⟨a, cp, rfl, _, _⟩ := fresh_elems HF.out
   have NM := Lib.hid (normal_any (decide (n < 0)) _ _ wr hrow (digs_lt _) (by have h1 := digs_len_le (n := n.natAbs) (k := 6) (by have := HN.out; omega); omega))
   rw [valD_digs] at NM
   unfold NEnd at NM
   clear hrow
   go_wp2_with fail
   refine NM.out.mono ?_
   rintro e w2 ⟨x, rfl, hx, hb2⟩
   rw [show sgn (decide (n < 0)) n.natAbs = n by unfold sgn; split <;> simp_all <;> omega] at hx
   obtain ⟨ax, cx, rfl⟩ := nat_form hx
   have hl2 := HL1.out.below hb2
   obtain ⟨a0, a1, f0, f1⟩ := cells2 hl2
   have hb3 := below_then hb1 hb2
   have HX := Lib.hid (nend_store hb3 hl2 hx)
   clear hx hl2 hb2 hb1 hb3
   go_wp2_with fail
   refine bodyPost_ret (v := .agg #[.bool (decide (n < 0)), .slice ax (digs n.natAbs).length cx]) (by simp [results, Tryz.results30, go_sem, a0, a1]) rfl ?_
   exact HX.out
  ·have hm2 : (m != 0) = true := by simpa using hm0
   have hnp : m.natAbs ≠ 0 := by omega
   have HD2 : Hid (digs n.natAbs = (pre ++ [m.natAbs % 10000]) ++ digs (m.natAbs / 10000)) := Lib.hid (by rw [HD.out, digs_pos hnp, List.append_assoc]; rfl)
   have htd : (m.tdiv 10000).natAbs = m.natAbs / 10000 := by
    rw [Int.natAbs_tdiv]; rfl
   have htm : (m.tmod 10000).natAbs = m.natAbs % 10000 := by
    rw [Int.natAbs_tmod]; rfl
   have hmr := HN.out
   have hwd : wrap64 (m.tdiv 10000) = m.tdiv 10000 := by unfold wrap64; omega
   have hlen : (natI pre).length + 1 ≤ 1000000000 := by
    have h1 := digs_len_le (n := n.natAbs) (k := 6) (by omega)
    rw [HD2.out, List.length_append, List.length_append] at h1
    rw [natI_length]; simp at h1; omega
   have HTD := Lib.hid htd
   obtain ⟨t, ht⟩ : ∃ t, m.tmod 10000 = t := ⟨_, rfl⟩
   obtain ⟨q, hq⟩ : ∃ q, m.tdiv 10000 = q := ⟨_, rfl⟩
   rw [hq] at htd hwd HTD
   rw [ht] at htm
   by_cases hneg : t < 0
   ·have HK : Hid (-t = ((m.natAbs % 10000 : Nat) : Int)) := Lib.hid (by omega)
    have HX := Lib.hid (row_of_fresh (fresh_lit wr wr.heap.size 3 .i64 [-t] (Nat.le_refl _) (by simp)))
    have HF2 := Lib.hid (fresh_keeps HF.out ((Below.refl _ wr).alloc (Nat.le_refl _) (.cells #[.int .i64 (-t)] 3)))
    have hsz2 : w0.heap.size ≤ (wr.alloc (.cells #[.int .i64 (-t)] 3)).heap.size := by have := HB.out.size; simp; omega
    go_wp2_with (at_builtin; go_must (refine wpList_append_fresh rfl _ _ 22 rfl w0.heap.size 3 i0 .i64 8 Tryz.underlying22 hi hz0 hz1 hz2 (by decide) _ _ rfl HF2.out _ [-t] rfl HX.out (by simpa using hlen) hsz2 ?_); intro v3 w3 hfr hgrow; have HB3 := Lib.hid (below_grown (HB.out.alloc HB.out.size _) HF2.out hgrow hsz2); have HF3 : Hid (Fresh w0.heap.size 3 .i64 w3 v3 (natI (pre ++ [m.natAbs % 10000]))) := Lib.hid (by rw [natI_append, ← show [-t] = natI [m.natAbs % 10000] by rw [HK.out]; rfl]; exact hfr); clear hfr hgrow)
    go_roundw
    case rel => exact ⟨q, pre ++ [m.natAbs % 10000], by first | rfl | (rw [hwd]), by omega, Lib.hid (by rw [HTD.out]; exact HD2.out), HF3, HB3⟩
    case measure => simp [intOf]; omega
   ·have HK : Hid (t = ((m.natAbs % 10000 : Nat) : Int)) := Lib.hid (by omega)
    have HX := Lib.hid (row_of_fresh (fresh_lit wr wr.heap.size 3 .i64 [t] (Nat.le_refl _) (by simp)))
    have HF2 := Lib.hid (fresh_keeps HF.out ((Below.refl _ wr).alloc (Nat.le_refl _) (.cells #[.int .i64 t] 3)))
    have hsz2 : w0.heap.size ≤ (wr.alloc (.cells #[.int .i64 t] 3)).heap.size := by have := HB.out.size; simp; omega
    go_wp2_with (at_builtin; go_must (refine wpList_append_fresh rfl _ _ 22 rfl w0.heap.size 3 i0 .i64 8 Tryz.underlying22 hi hz0 hz1 hz2 (by decide) _ _ rfl HF2.out _ [t] rfl HX.out (by simpa using hlen) hsz2 ?_); intro v3 w3 hfr hgrow; have HB3 := Lib.hid (below_grown (HB.out.alloc HB.out.size _) HF2.out hgrow hsz2); have HF3 : Hid (Fresh w0.heap.size 3 .i64 w3 v3 (natI (pre ++ [m.natAbs % 10000]))) := Lib.hid (by rw [natI_append, ← show [t] = natI [m.natAbs % 10000] by rw [HK.out]; rfl]; exact hfr); clear hfr hgrow)
    go_roundw
    case rel => exact ⟨q, pre ++ [m.natAbs % 10000], by first | rfl | (rw [hwd]), by omega, Lib.hid (by rw [HTD.out]; exact HD2.out), HF3, HB3⟩
    case measure => simp [intOf]; omega
def CmpEnd (c : Int) (w : World) (e : Ending) (w' : World) : Prop := e = .returned (.int .i64 c) ∧ Below w.heap.size w w'
set_option maxRecDepth 100000 in
set_option maxHeartbeats 4000000 in
theorem compared_any (u v : Value) (a b : Nat) (w : World) (hu : Row .i64 w u (natI (digs a))) (hv : Row .i64 w v (natI (digs b))) (ha : (digs a).length ≤ 1000000) (hb : (digs b).length ≤ 1000000) :
  Calls Tryz.prog 76 #[u, v] w (CmpEnd (cmpN a b) w) := by
 obtain ⟨pu, cu, rfl, hcu, hcmu, hneu, _⟩ := hu
 obtain ⟨pv, cv, rfl, hcv, hcmv, hnev, _⟩ := hv
 simp only [natI_length] at *
 have HU := Lib.hid hneu
 have HV := Lib.hid hnev
 clear hneu hnev
 rcases Nat.lt_trichotomy (digs a).length (digs b).length with hl | hl | hl
 ·have HC := Lib.hid (cmp_len_lt hl)
  go_enter Tryz.func76, Tryz.ntmps76
  go_wp2_with fail
  go_ret
  exact ⟨(by rw [HC.out]; try rfl), Below.refl _ _⟩
 ·have HL := Lib.hid hl
  have h1 : ¬ (digs a).length < (digs b).length := by omega
  have h2 : ¬ (digs b).length < (digs a).length := by omega
  clear hl
  go_enter Tryz.func76, Tryz.ntmps76
  go_wp2_with fail
  go_loopw [5] (fun iv wr => ∃ j : Nat, j ≤ (digs a).length ∧ iv = .int .i64 ((j : Int) - 1) ∧ Hid ((digs a).drop j = (digs b).drop j) ∧ Below w.heap.size w wr) (fun iv _ => (intOf iv + 1).toNat)
  case atStart => exact ⟨(digs a).length, Nat.le_refl _, rfl, Lib.hid (by rw [List.drop_length, HL.out, List.drop_length]), Below.refl _ _⟩
  case round =>
   obtain ⟨j, hj, rfl, HD, hbel⟩ := hrel
   rcases Nat.eq_zero_or_pos j with hj0 | hj0
   ·subst hj0
    have HC : Hid (cmpN a b = 0) := by
     have h := HD.out
     rw [List.drop_zero, List.drop_zero] at h
     have e : a = b := by rw [← valD_digs a, ← valD_digs b, h]
     subst e
     exact Lib.hid (by unfold cmpN; rw [if_neg (by omega), if_neg (by omega)])
    rw [show ((0 : Nat) : Int) - 1 = -1 from rfl]
    go_wp2_with fail
    go_ret
    exact ⟨(by rw [HC.out]; try rfl), hbel⟩
   ·obtain ⟨i, rfl⟩ : ∃ i, j = i + 1 := ⟨j - 1, by omega⟩
    have hia : i < (digs a).length := by omega
    have hib : i < (digs b).length := by have := HL.out; omega
    obtain ⟨bu, ou, rfl, hc1⟩ := HU.out (fun h => by have := congrArg List.length h; rw [natI_length, List.length_nil] at this; omega)
    obtain ⟨bv, ov, rfl, hc2⟩ := HV.out (fun h => by have := congrArg List.length h; rw [natI_length, List.length_nil] at this; omega)
    have hx0 := hc1 i hia
    have hy0 := hc2 i hib
    rw [natI_getD, List.getElem?_eq_getElem hia] at hx0
    rw [natI_getD, List.getElem?_eq_getElem hib] at hy0
    have hx := (hbel.cell (p := ⟨bu, ou + i, none⟩) (World.block_lt_of_cell? _ _ hx0)).trans hx0
    have hy := (hbel.cell (p := ⟨bv, ov + i, none⟩) (World.block_lt_of_cell? _ _ hy0)).trans hy0
    simp only [Option.getD_some] at hx hy
    have HLT : Hid ((digs a)[i] < (digs b)[i] → cmpN a b = -1) := Lib.hid (fun h => by
     have := val_lt_at (digs_lt a) HL.out hia HD.out h
     rw [valD_digs, valD_digs] at this
     unfold cmpN; rw [if_pos this])
    have HGT : Hid ((digs b)[i] < (digs a)[i] → cmpN a b = 1) := Lib.hid (fun h => by
     have := val_lt_at (digs_lt b) HL.out.symm hib HD.out.symm h
     rw [valD_digs, valD_digs] at this
     unfold cmpN; rw [if_neg (by omega), if_pos this])
    have HEQ : Hid ((digs a)[i] = (digs b)[i] → (digs a).drop i = (digs b).drop i) := Lib.hid (fun h => by
     rw [List.drop_eq_getElem_cons hia, List.drop_eq_getElem_cons hib, h, HD.out])
    rw [show ((i + 1 : Nat) : Int) - 1 = (i : Int) by omega]
    clear hc1 hc2 hx0 hy0
    generalize (digs a)[i] = x at *
    generalize (digs b)[i] = y at *
    have hx1 : wr.drew.cell? ⟨bu, ou + i, none⟩ = some (.int .i64 (x : Int)) := hx
    have hy1 : wr.drew.cell? ⟨bv, ov + i, none⟩ = some (.int .i64 (y : Int)) := hy
    have hx2 : wr.drew.drew.cell? ⟨bu, ou + i, none⟩ = some (.int .i64 (x : Int)) := hx
    have hy2 : wr.drew.drew.cell? ⟨bv, ov + i, none⟩ = some (.int .i64 (y : Int)) := hy
    have hi0 : (0 : Int) ≤ (i : Int) := by omega
    rcases Nat.lt_trichotomy x y with hxy | hxy | hxy
    ·have hxy' : (x : Int) < (y : Int) := by omega
     go_wp2_with fail
     go_region
     all_goals
      go_wp2_with fail
      go_ret
      exact ⟨(by rw [HLT.out hxy]; try rfl), hbel.drew⟩
    ·subst hxy
     have hn1 : ¬ (x : Int) < (x : Int) := by omega
     go_wp2_with fail
     go_region
     all_goals
      go_wp2_with fail
      go_region
     all_goals
      go_wp2_with fail
      go_roundw
      case rel => exact ⟨i, by omega, by go_num, Lib.hid (HEQ.out (by trivial)), hbel.drew.drew⟩
      case measure => simp [intOf] <;> omega
    ·have hn1 : ¬ (x : Int) < (y : Int) := by omega
     have hn2 : (y : Int) < (x : Int) := by omega
     go_wp2_with fail
     go_region
     all_goals
      go_wp2_with fail
      go_region
     all_goals
      go_wp2_with fail
      go_ret
      exact ⟨(by rw [HGT.out hxy]; try rfl), hbel.drew.drew⟩
 ·have HC := Lib.hid (cmp_len_gt hl)
  have h1 : ¬ (digs a).length < (digs b).length := by omega
  go_enter Tryz.func76, Tryz.ntmps76
  go_wp2_with fail
  go_ret
  exact ⟨(by rw [HC.out]; try rfl), Below.refl _ _⟩
def cmpI (a b : Int) : Int := if a < b then -1 else if b < a then 1 else 0
set_option maxHeartbeats 2000000 in
theorem compare_any (x y : Value) (a b : Int) (w : World) (hx : NAt w x a) (hy : NAt w y b) (ha : (digs a.natAbs).length ≤ 1000000) (hb : (digs b.natAbs).length ≤ 1000000) :
  Calls Tryz.prog 39 #[x, y] w (CmpEnd (cmpI a b) w) := by
 obtain ⟨ax, cx, rfl⟩ := nat_form hx
 obtain ⟨ay, cy, rfl⟩ := nat_form hy
 have hrx : Row .i64 w (.slice ax (digs a.natAbs).length cx) (natI (digs a.natAbs)) := by obtain ⟨v, e, h⟩ := hx; injection e with e; have e2 := congrArg (fun t => t[1]!) e; simp at e2; rw [e2]; exact h
 have hry : Row .i64 w (.slice ay (digs b.natAbs).length cy) (natI (digs b.natAbs)) := by obtain ⟨v, e, h⟩ := hy; injection e with e; have e2 := congrArg (fun t => t[1]!) e; simp at e2; rw [e2]; exact h
 obtain ⟨w2, hw2⟩ : ∃ w2, w2 = (w.alloc (.cells #[.bool (decide (a < 0)), .slice ax (digs a.natAbs).length cx] 24)).alloc (.cells #[.bool (decide (b < 0)), .slice ay (digs b.natAbs).length cy] 24) := ⟨_, rfl⟩
 have hbe : Below w.heap.size w w2 := by rw [hw2]; exact ((Below.refl _ w).alloc (Nat.le_refl _) _).alloc (by simp) _
 have hl1 : Laid w2 w.heap.size 24 [.bool (decide (a < 0)), .slice ax (digs a.natAbs).length cx] := by
  rw [hw2]; exact (Laid.new w _ _).below ((Below.refl _ _).alloc (Nat.le_refl _) _)
 have hl2 : Laid w2 (w.heap.size + 1) 24 [.bool (decide (b < 0)), .slice ay (digs b.natAbs).length cy] := by
  rw [hw2]
  have := Laid.new (w.alloc (.cells #[.bool (decide (a < 0)), .slice ax (digs a.natAbs).length cx] 24)) 24 [.bool (decide (b < 0)), .slice ay (digs b.natAbs).length cy]
  rwa [World.size_alloc] at this
 obtain ⟨c0, c1, _, _⟩ := cells2 hl1
 obtain ⟨d0, d1, _, _⟩ := cells2 hl2
 have C1 := Lib.hid (compared_any _ _ a.natAbs b.natAbs w2 (row_keeps hrx hbe) (row_keeps hry hbe) ha hb)
 have C2 := Lib.hid (compared_any _ _ b.natAbs a.natAbs w2 (row_keeps hry hbe) (row_keeps hrx hbe) hb ha)
 have HBE := Lib.hid hbe
 have HCI : Hid (cmpI a b = if a < 0 then (if b < 0 then cmpN b.natAbs a.natAbs else -1) else (if b < 0 then 1 else cmpN a.natAbs b.natAbs)) := Lib.hid (by
  unfold cmpI cmpN
  split <;> split <;> split <;> (try split) <;> (try split) <;> omega)
 unfold CmpEnd at C1 C2
 clear hl1 hl2 hrx hry hbe hx hy
 rcases Classical.em (a < 0) with h1 | h1 <;> rcases Classical.em (b < 0) with h2 | h2
 ·have e1 : decide (a < 0) = true := by simpa using h1
  have e2 : decide (b < 0) = true := by simpa using h2
  rw [e1] at c0 hw2 ⊢
  rw [e2] at d0 hw2 ⊢
  rw [if_pos h1, if_pos h2] at HCI
  go_enter Tryz.func39, Tryz.ntmps39
  go_wp2_with fail
  rw [← hw2]
  refine C2.out.mono ?_
  rintro e w' ⟨rfl, hb'⟩
  go_wp2_with fail
  go_ret
  exact ⟨by rw [HCI.out]; try rfl, below_then HBE.out hb'⟩
 ·have e1 : decide (a < 0) = true := by simpa using h1
  have e2 : decide (b < 0) = false := by simpa using h2
  rw [e1] at c0 hw2 ⊢
  rw [e2] at d0 hw2 ⊢
  rw [if_pos h1, if_neg h2] at HCI
  go_enter Tryz.func39, Tryz.ntmps39
  go_wp2_with fail
  rw [← hw2]
  go_ret
  exact ⟨by rw [HCI.out]; try rfl, HBE.out⟩
 ·have e1 : decide (a < 0) = false := by simpa using h1
  have e2 : decide (b < 0) = true := by simpa using h2
  rw [e1] at c0 hw2 ⊢
  rw [e2] at d0 hw2 ⊢
  rw [if_neg h1, if_pos h2] at HCI
  go_enter Tryz.func39, Tryz.ntmps39
  go_wp2_with fail
  rw [← hw2]
  go_ret
  exact ⟨by rw [HCI.out]; try rfl, HBE.out⟩
 ·have e1 : decide (a < 0) = false := by simpa using h1
  have e2 : decide (b < 0) = false := by simpa using h2
  rw [e1] at c0 hw2 ⊢
  rw [e2] at d0 hw2 ⊢
  rw [if_neg h1, if_neg h2] at HCI
  go_enter Tryz.func39, Tryz.ntmps39
  go_wp2_with fail
  rw [← hw2]
  refine C1.out.mono ?_
  rintro e w' ⟨rfl, hb'⟩
  go_wp2_with fail
  go_ret
  exact ⟨by rw [HCI.out]; try rfl, below_then HBE.out hb'⟩
set_option maxHeartbeats 400000 in
theorem at_any (v : Value) (d : List Nat) (i : Nat) (w : World) (hv : Row .i64 w v (natI d)) (hl : d.length ≤ 1000000) (hi : i ≤ 2000000) :
  Calls Tryz.prog 123 #[v, .int .i64 (i : Int)] w fun e w' => e = .returned (.int .i64 ((atD d i : Nat) : Int)) ∧ w = w' := by
 obtain ⟨p, cap, rfl, hcap, hcm, hne, _⟩ := hv
 simp only [natI_length] at *
 by_cases h : i < d.length
 ·obtain ⟨b, off, rfl, hc⟩ := hne (fun h2 => by have := congrArg List.length h2; rw [natI_length, List.length_nil] at this; omega)
  have hck := hc i h
  rw [natI_getD] at hck
  have HA : Hid (((d[i]?.getD 0 : Nat) : Int) = ((atD d i : Nat) : Int)) := Lib.hid rfl
  clear hc
  generalize d[i]?.getD 0 = x at *
  go_enter Tryz.func123, Tryz.ntmps123
  go_wp2_with fail
  go_ret
  exact ⟨ret_int HA.out, rfl⟩
 ·have HA : Hid ((0 : Int) = ((atD d i : Nat) : Int)) := Lib.hid (by unfold atD; rw [List.getElem?_eq_none (by omega)]; rfl)
  go_enter Tryz.func123, Tryz.ntmps123
  go_wp2_with fail
  go_ret
  exact ⟨ret_int HA.out, rfl⟩
def DEnd (P : List Nat → Prop) (w : World) (e : Ending) (w' : World) : Prop := ∃ v out, e = .returned v ∧ Row .i64 w' v (natI out) ∧ P out ∧ Below w.heap.size w w'
theorem all_snocW {out : List Nat} {z : Nat} (h : ∀ c ∈ out, c < 10000) (hz : z < 10000) : ∀ c ∈ out ++ [z], c < 10000 := by
 intro c hc
 rcases List.mem_append.mp hc with hc | hc
 ·exact h c hc
 ·rw [List.mem_singleton.mp hc]; exact hz
def DEndAt (P : List Nat → Prop) (w : World) (e : Ending) (w' : World) : Prop := ∃ v out, e = .returned v ∧ Row .i64 w' v (natI out) ∧ P out ∧ Below w.heap.size w w' ∧ ∀ j, blockOf v j → w.heap.size ≤ j
set_option maxRecDepth 100000 in
set_option maxHeartbeats 4000000 in
theorem minus_loc (u v : Value) (a b : List Nat) (w : World) (hu : Row .i64 w u (natI a)) (hv : Row .i64 w v (natI b)) (ha : ∀ c ∈ a, c < 10000) (hb : ∀ c ∈ b, c < 10000) (hla : a.length ≤ 1000000) (hlb : b.length ≤ 1000000) (hle : valD b ≤ valD a) :
  Calls Tryz.prog 99 #[u, v] w (DEndAt (fun out => valD out = valD a - valD b ∧ out.length = a.length ∧ ∀ c ∈ out, c < 10000) w) := by
 obtain ⟨i0, hi, hz0, hz1, hz2⟩ := info_parts info_int
 have HU := Lib.hid hu
 have HV := Lib.hid hv
 obtain ⟨pu, cu, rfl, hcu, hcmu, _, _⟩ := hu
 simp only [natI_length] at *
 have HA := Lib.hid ha
 have HB0 := Lib.hid hb
 clear ha hb
 go_enter Tryz.func99, Tryz.ntmps99
 go_wp2_with fail
 go_loopw [5, 6, 7, 8] (fun ov bv iv xv wr => ∃ (i br : Nat) (out : List Nat), iv = .int .i64 (i : Int) ∧ bv = .int .i64 (br : Int) ∧ i ≤ a.length ∧ br ≤ 1 ∧ out.length = i ∧ Hid (valD out + valD (b.take i) = valD (a.take i) + 10000 ^ i * br) ∧ Hid (∀ c ∈ out, c < 10000) ∧ Hid (Fresh w.heap.size 3 .i64 wr ov (natI out)) ∧ Hid (Below w.heap.size w wr)) (fun _ _ iv _ _ => ((a.length : Int) - intOf iv).toNat)
 case atStart => exact ⟨0, 0, [], rfl, rfl, Nat.zero_le _, by omega, rfl, Lib.hid rfl, Lib.hid (by simp), Lib.hid (fresh_nil _ _ _ _), Lib.hid (Below.refl _ _)⟩
 case round =>
  obtain ⟨i, br, out, rfl, rfl, hia, hbr, hol, HI, HO, HF, HB⟩ := hrel
  rcases Nat.lt_or_ge i a.length with h | h
  ·have A1 := Lib.hid (at_any _ a i wr (row_keeps HU.out HB.out) hla (by omega))
   have A2 := Lib.hid (at_any _ b i wr (row_keeps HV.out HB.out) hlb (by omega))
   have hx := atD_lt HA.out i
   have hy := atD_lt HB0.out i
   have HS := Lib.hid (fun (z br' : Nat) (h : z + atD b i + br = atD a i + 10000 * br') => sub_step (v := z) (borrow' := br') hol HI.out h)
   generalize atD a i = x at *
   generalize atD b i = y at *
   have hlen : (natI out).length + 1 ≤ 1000000000 := by rw [natI_length]; omega
   by_cases hneg : x < y + br
   ·obtain ⟨z, hz⟩ : ∃ z, z + y + br = x + 10000 := ⟨x + 10000 - y - br, by omega⟩
    have HZ := Lib.hid (HS.out z 1 (by omega))
    have hzi : (x : Int) - (y : Int) - (br : Int) + 10000 = (z : Int) := by omega
    have hzn : (x : Int) - (y : Int) - (br : Int) < 0 := by omega
    have HX := Lib.hid (row_of_fresh (fresh_lit wr wr.heap.size 3 .i64 [(z : Int)] (Nat.le_refl _) (by simp)))
    have HF2 := Lib.hid (fresh_keeps HF.out ((Below.refl _ wr).alloc (Nat.le_refl _) (.cells #[.int .i64 (z : Int)] 3)))
    have hsz2 : w.heap.size ≤ (wr.alloc (.cells #[.int .i64 (z : Int)] 3)).heap.size := by have := HB.out.size; simp; omega
    go_wp2_with fail
    refine A1.out.mono ?_
    rintro e w2 ⟨rfl, rfl⟩
    go_wp2_with fail
    refine A2.out.mono ?_
    rintro e w2 ⟨rfl, rfl⟩
    go_wp2_with (at_builtin; go_must (refine wpList_append_fresh rfl _ _ 22 rfl w.heap.size 3 i0 .i64 8 Tryz.underlying22 hi hz0 hz1 hz2 (by decide) _ _ rfl HF2.out _ [(z : Int)] rfl HX.out (by simpa using hlen) hsz2 ?_); intro v3 w3 hfr hgrow; have HB3 := Lib.hid (below_grown (HB.out.alloc HB.out.size _) HF2.out hgrow hsz2); have HF3 : Hid (Fresh w.heap.size 3 .i64 w3 v3 (natI (out ++ [z]))) := Lib.hid (by rw [natI_append]; exact hfr); clear hfr hgrow)
    go_roundw
    case rel => exact ⟨i + 1, 1, out ++ [z], by go_num, rfl, by omega, by omega, by simp [hol], HZ, Lib.hid (all_snocW HO.out (by omega)), HF3, HB3⟩
    case measure => simp [intOf] <;> omega
   ·obtain ⟨z, hz⟩ : ∃ z, z + y + br = x := ⟨x - y - br, by omega⟩
    have HZ := Lib.hid (HS.out z 0 (by omega))
    have hzi : (x : Int) - (y : Int) - (br : Int) = (z : Int) := by omega
    have hzn : ¬ ((z : Int) < 0) := by omega
    have HX := Lib.hid (row_of_fresh (fresh_lit wr wr.heap.size 3 .i64 [(z : Int)] (Nat.le_refl _) (by simp)))
    have HF2 := Lib.hid (fresh_keeps HF.out ((Below.refl _ wr).alloc (Nat.le_refl _) (.cells #[.int .i64 (z : Int)] 3)))
    have hsz2 : w.heap.size ≤ (wr.alloc (.cells #[.int .i64 (z : Int)] 3)).heap.size := by have := HB.out.size; simp; omega
    go_wp2_with fail
    refine A1.out.mono ?_
    rintro e w2 ⟨rfl, rfl⟩
    go_wp2_with fail
    refine A2.out.mono ?_
    rintro e w2 ⟨rfl, rfl⟩
    go_wp2_with (at_builtin; go_must (refine wpList_append_fresh rfl _ _ 22 rfl w.heap.size 3 i0 .i64 8 Tryz.underlying22 hi hz0 hz1 hz2 (by decide) _ _ rfl HF2.out _ [(z : Int)] rfl HX.out (by simpa using hlen) hsz2 ?_); intro v3 w3 hfr hgrow; have HB3 := Lib.hid (below_grown (HB.out.alloc HB.out.size _) HF2.out hgrow hsz2); have HF3 : Hid (Fresh w.heap.size 3 .i64 w3 v3 (natI (out ++ [z]))) := Lib.hid (by rw [natI_append]; exact hfr); clear hfr hgrow)
    go_roundw
    case rel => exact ⟨i + 1, 0, out ++ [z], by go_num, rfl, by omega, by omega, by simp [hol], HZ, Lib.hid (all_snocW HO.out (by omega)), HF3, HB3⟩
    case measure => simp [intOf] <;> omega
  ·have e : i = a.length := by omega
   subst e
   have HE : Hid (valD out = valD a - valD b) := Lib.hid (sub_end HO.out hol hbr HA.out (by have := HI.out; rwa [List.take_length] at this) hle)
   have HR := Lib.hid (row_of_fresh HF.out)
   go_wp2_with fail
   go_ret
   exact ⟨_, out, rfl, HR.out, ⟨HE.out, hol, HO.out⟩, HB.out, fun j hj => (fresh_span HF.out j hj).1⟩
theorem minus_any (u v : Value) (a b : List Nat) (w : World) (hu : Row .i64 w u (natI a)) (hv : Row .i64 w v (natI b)) (ha : ∀ c ∈ a, c < 10000) (hb : ∀ c ∈ b, c < 10000) (hla : a.length ≤ 1000000) (hlb : b.length ≤ 1000000) (hle : valD b ≤ valD a) :
  Calls Tryz.prog 99 #[u, v] w (DEnd (fun out => valD out = valD a - valD b ∧ out.length = a.length ∧ ∀ c ∈ out, c < 10000) w) := by
 refine (minus_loc u v a b w hu hv ha hb hla hlb hle).mono ?_
 rintro e w' ⟨x, out, h1, h2, h3, h4, _⟩
 exact ⟨x, out, h1, h2, h3, h4⟩
set_option maxRecDepth 100000 in
set_option maxHeartbeats 8000000 in
theorem plus_any (u v : Value) (a b : List Nat) (w : World) (hu : Row .i64 w u (natI a)) (hv : Row .i64 w v (natI b)) (ha : ∀ c ∈ a, c < 10000) (hb : ∀ c ∈ b, c < 10000) (hla : a.length ≤ 1000000) (hlb : b.length ≤ 1000000) :
  Calls Tryz.prog 98 #[u, v] w (DEnd (fun out => valD out = valD a + valD b ∧ out.length ≤ max a.length b.length + 1 ∧ ∀ c ∈ out, c < 10000) w) := by
 obtain ⟨i0, hi, hz0, hz1, hz2⟩ := info_parts info_int
 have HU := Lib.hid hu
 have HV := Lib.hid hv
 obtain ⟨pu, cu, rfl, _, _, _, _⟩ := hu
 obtain ⟨pv, cv, rfl, _, _, _, _⟩ := hv
 simp only [natI_length] at *
 have HA := Lib.hid ha
 have HB0 := Lib.hid hb
 clear ha hb
 obtain ⟨M, hM⟩ : ∃ M, M = max a.length b.length := ⟨_, rfl⟩
 go_enter Tryz.func98, Tryz.ntmps98
 go_wp2_with fail
 go_loopw [5, 6, 7, 8] (fun ov bv iv xv wr => ∃ (i c : Nat) (out : List Nat), iv = .int .i64 (i : Int) ∧ bv = .int .i64 (c : Int) ∧ i ≤ M + 1 ∧ c ≤ 1 ∧ (i = M + 1 → c = 0) ∧ out.length = i ∧ Hid (valD out + 10000 ^ i * c = valD (a.take i) + valD (b.take i)) ∧ Hid (∀ c ∈ out, c < 10000) ∧ Hid (Fresh w.heap.size 3 .i64 wr ov (natI out)) ∧ Hid (Below w.heap.size w wr)) (fun _ _ iv _ _ => ((M : Int) + 1 - intOf iv).toNat)
 case atStart => exact ⟨0, 0, [], rfl, rfl, Nat.zero_le _, by omega, by omega, rfl, Lib.hid rfl, Lib.hid (by simp), Lib.hid (fresh_nil _ _ _ _), Lib.hid (Below.refl _ _)⟩
 case round =>
  obtain ⟨i, c, out, rfl, rfl, hiM, hc, hce, hol, HI, HO, HF, HB⟩ := hrel
  by_cases hend : a.length ≤ i ∧ b.length ≤ i ∧ c = 0
  ·obtain ⟨h1, h2, rfl⟩ := hend
   have HE : Hid (valD out = valD a + valD b) := Lib.hid (by have := HI.out; rw [Nat.mul_zero, Nat.add_zero, List.take_of_length_le h1, List.take_of_length_le h2] at this; exact this)
   have HR := Lib.hid (row_of_fresh HF.out)
   have HM : Hid (out.length ≤ max a.length b.length + 1) := Lib.hid (by omega)
   have g1 : ¬ i < a.length := by omega
   have g2 : ¬ i < b.length := by omega
   clear hM
   go_wp2_with fail
   go_ret
   exact ⟨_, out, rfl, HR.out, ⟨HE.out, HM.out, HO.out⟩, HB.out⟩
  ·have hiM2 : i ≤ M := by omega
   have hnx : i + 1 = M + 1 → (atD a i + atD b i + c) / 10000 = 0 := by
    intro h
    have e1 : atD a i = 0 := by unfold atD; rw [List.getElem?_eq_none (by omega)]; rfl
    have e2 : atD b i = 0 := by unfold atD; rw [List.getElem?_eq_none (by omega)]; rfl
    omega
   have A1 := Lib.hid (at_any _ a i wr (row_keeps HU.out HB.out) hla (by omega))
   have A2 := Lib.hid (at_any _ b i wr (row_keeps HV.out HB.out) hlb (by omega))
   have hx := atD_lt HA.out i
   have hy := atD_lt HB0.out i
   have HS := Lib.hid (add_step hol HI.out)
   generalize atD a i = x at *
   generalize atD b i = y at *
   have hlen : (natI out).length + 1 ≤ 1000000000 := by rw [natI_length]; omega
   obtain ⟨z, hz⟩ : ∃ z, z = (x + y + c) % 10000 := ⟨_, rfl⟩
   obtain ⟨q, hq⟩ : ∃ q, q = (x + y + c) / 10000 := ⟨_, rfl⟩
   have hzl : z < 10000 := by omega
   have htm : ((x : Int) + (y : Int) + (c : Int)).tmod 10000 = (z : Int) := by rw [Int.tmod_eq_emod_of_nonneg (by omega)]; omega
   have htd : ((x : Int) + (y : Int) + (c : Int)).tdiv 10000 = (q : Int) := by rw [Int.tdiv_eq_ediv_of_nonneg (by omega)]; omega
   rw [← hz, ← hq] at HS
   have HX := Lib.hid (row_of_fresh (fresh_lit wr wr.heap.size 3 .i64 [(z : Int)] (Nat.le_refl _) (by simp)))
   have HF2 := Lib.hid (fresh_keeps HF.out ((Below.refl _ wr).alloc (Nat.le_refl _) (.cells #[.int .i64 (z : Int)] 3)))
   have hsz2 : w.heap.size ≤ (wr.alloc (.cells #[.int .i64 (z : Int)] 3)).heap.size := by have := HB.out.size; simp; omega
   have HQ : Hid (i + 1 = M + 1 → q = 0) := Lib.hid (by rw [hq]; exact hnx)
   have hql : q ≤ 1 := by omega
   clear hnx hz hq hce
   have hcase : (i < a.length) ∨ (¬ i < a.length ∧ i < b.length) ∨ (¬ i < a.length ∧ ¬ i < b.length ∧ 0 < c) := by omega
   have hM6 : M ≤ 1000000 := by omega
   clear hend hM
   rcases hcase with g1 | ⟨g1, g2⟩ | ⟨g1, g2, g3⟩
   all_goals
    go_wp2_with fail
    refine A1.out.mono ?_
    rintro e w2 ⟨rfl, rfl⟩
    go_wp2_with fail
    refine A2.out.mono ?_
    rintro e w2 ⟨rfl, rfl⟩
    go_wp2_with (at_builtin; go_must (refine wpList_append_fresh rfl _ _ 22 rfl w.heap.size 3 i0 .i64 8 Tryz.underlying22 hi hz0 hz1 hz2 (by decide) _ _ rfl HF2.out _ [(z : Int)] rfl HX.out (by simpa using hlen) hsz2 ?_); intro v3 w3 hfr hgrow; have HB3 := Lib.hid (below_grown (HB.out.alloc HB.out.size _) HF2.out hgrow hsz2); have HF3 : Hid (Fresh w.heap.size 3 .i64 w3 v3 (natI (out ++ [z]))) := Lib.hid (by rw [natI_append]; exact hfr); clear hfr hgrow)
    go_roundw
    case rel => exact ⟨i + 1, q, out ++ [z], by go_num, rfl, by omega, by omega, HQ.out, by simp [hol], HS.out, Lib.hid (all_snocW HO.out (by omega)), HF3, HB3⟩
    case measure => simp [intOf] <;> omega
end Go.Proofs.YtepakogbbomaoaaGreatDoor
