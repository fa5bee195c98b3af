/-
  The reference of package journal: the frame; the record at the beginning. The reference of package journal: the record at the beginning; Scan. The reference of package journal: Scan.
-/
import Derived.Test.YtlljcnhcknmoaaaGreatJrB
namespace Go.Proofs.YtlljcnhcknmoaaaGreat
open Go.RowKit Go.Shelf
set_option linter.unusedVariables false
set_option maxRecDepth 100000

theorem rd_lt {W : World} {r b : Nat} {s : RS} (h : Rd W r b s) : r < W.heap.size := by
  obtain ⟨v, h1, _⟩ := h; exact h1.lt
/-- A reader of the reference, laid over a row of bytes. -/
theorem rd_new {w : World} {a : Option Addr} {cap : Nat} {l : List Nat} (h : Row .u8 w (.slice a l.length cap) (natI l)) (hp : PlainS (.slice a l.length cap)) (h8 : ∀ c ∈ l, c < 256) (hl : l.length ≤ 1000000) {b : Nat} (hb : b < w.heap.size) (hbl : ∀ j, blockOf (.slice a l.length cap) j → j = b) :
    Rd (w.alloc (.cells #[.slice a l.length cap, .int .i64 0] 102)) w.heap.size b (l, 0) := by
  refine ⟨_, Laid.new w _ _, row_keeps h ((Below.refl _ w).alloc (Nat.le_refl _) _), ⟨by omega, hbl⟩, h8, hl, hp⟩
theorem fresh_plain {B : Nat} {e : TypeId} {k : IntKind} {w : World} {v : Value} {zs : List Int} (h : Fresh B e k w v zs) : PlainS v := by
  rcases h.2 with ⟨rfl, _⟩ | ⟨g, cap, cur, rfl, _⟩
  · exact .inl rfl
  · exact .inr ⟨g, 0, _, _, rfl⟩

def RawEndP (r b : Nat) (l : List Nat) (s : RS) (w : World) (e : Ending) (w' : World) : Prop :=
  ∃ v, e = .returned v ∧ PlainS v ∧ Row .u8 w' v (natI l) ∧ (∀ j, blockOf v j → j = b) ∧ Rd w' r b s ∧ Keeps (fun k => k = r) w w'

set_option maxHeartbeats 2000000 in
theorem refRdRawP_any (r b : Nat) (s : RS) (w : World) (h : Rd w r b s) :
    Calls Tryz.prog 68 #[.pointer (some ⟨r, 0, none⟩)] w (RawEndP r b (rRaw s).1 (rRaw s).2 w) := by
  have HU := Lib.hid (refRdLen_any r b s w h)
  have HN := Lib.hid (rLen_le s)
  have hdef : rRaw s = if (rLen s).2.2 ≠ 0 then ([], (rLen s).2) else ((rLen s).2.1.take (rLen s).1, ((rLen s).2.1.drop (rLen s).1, 0)) := rfl
  have HDF := Lib.hid hdef
  clear h hdef
  unfold RdEnd at HU
  generalize rRaw s = out at *
  generalize rLen s = q at *
  obtain ⟨n, l1, e1⟩ := q
  go_enter Tryz.func68, Tryz.ntmps68
  go_wp2_with fail
  refine HU.out.mono ?_
  rintro e w1 ⟨rfl, hrd, hk⟩
  have hsh := hrd.short
  have H8 := Lib.hid hrd.bytes
  obtain ⟨a, cap, hc0, hc1, hf0, hf1, hcap, hcm, hl, hrow, hne, hnb, hpl⟩ := hrd.cells
  have HR1 := Lib.hid hrd
  have HK1 := Lib.hid hk
  have HL := Lib.hid hl
  have HROW := Lib.hid hrow
  have HNB := Lib.hid hnb
  clear hrd hk HU hl hrow hnb hne
  simp only at *
  by_cases he : e1 = 0
  · subst he
    have hn : n ≤ l1.length := HN.out rfl
    have HO : Hid (out = (l1.take n, (l1.drop n, 0))) := Lib.hid (by rw [HDF.out, if_neg (by simp)])
    rcases hpl with rfl | ⟨off, rfl⟩
    · obtain ⟨rfl, rfl⟩ : l1 = [] ∧ cap = 0 := by
        obtain ⟨a, cap', e1, _, _, _, h5⟩ := HROW.out
        injection e1 with e1 e2 e3
        obtain ⟨h6, h7⟩ := h5 e1.symm
        refine ⟨List.eq_nil_of_length_eq_zero ?_, by omega⟩
        have := congrArg List.length h6
        rwa [natI_length, List.length_nil] at this
      obtain rfl : n = 0 := by simpa using hn
      go_wp2_with fail
      go_ret
      rw [HO.out]
      refine ⟨_, rfl, .inl rfl, row_none _ _, fun j h => h.elim, ⟨_, HL.out.set 0 _, row_none _ _, ⟨HNB.out.1, fun j h => h.elim⟩, fun c hc => by simp at hc, by simp, .inl rfl⟩, HK1.out.trans (keeps_set w1 r 0 _)⟩
    · have hbr : b ≠ r := HNB.out.1
      have HT : Hid (Row .u8 w1 (.slice (some ⟨b, off, none⟩) n cap) (natI (l1.take n))) := by
        have h := HROW.out
        rw [← natI_length l1] at h
        have := row_take h (m := n) (by rw [natI_length]; exact hn)
        rw [show (natI l1).take n = natI (l1.take n) by simp [natI, List.map_take]] at this
        exact Lib.hid this
      by_cases hcn : cap = n
      · subst hcn
        go_wp2_with fail
        go_ret
        rw [HO.out]
        refine ⟨_, rfl, .inr ⟨_, _, _, _, rfl⟩, row_foot (A := fun k => k = r) HT.out (keeps_set w1 r 0 _) (fun j hj e => hbr (by have : j = b := hj; omega)), fun j hj => hj, ?_, HK1.out.trans (keeps_set w1 r 0 _)⟩
        exact rd_skip (s := (l1, 0)) HL.out HROW.out hbr H8.out hsh hn (by show _ = l1.length - cap; omega) (.inr ⟨rfl, rfl, rfl⟩)
      · go_wp2_with fail
        go_ret
        rw [HO.out]
        refine ⟨_, rfl, .inr ⟨_, _, _, _, rfl⟩, row_foot (A := fun k => k = r) HT.out (keeps_set w1 r 0 _) (fun j hj e => hbr (by have : j = b := hj; omega)), fun j hj => hj, ?_, HK1.out.trans (keeps_set w1 r 0 _)⟩
        exact rd_skip (s := (l1, 0)) (m := n) HL.out HROW.out hbr H8.out hsh hn rfl (.inl ⟨rfl, rfl⟩)
  · have b1 : ((e1 : Int) == 0) = false := by simp; omega
    have b2 : ((e1 : Int) != 0) = true := by simp; omega
    have HO : Hid (out = ([], (l1, e1))) := Lib.hid (by rw [HDF.out, if_pos he])
    clear he
    go_wp2_with fail
    go_ret
    rw [HO.out]
    exact ⟨_, rfl, .inl rfl, row_none _ _, fun j h => h.elim, HR1.out, HK1.out⟩

set_option maxHeartbeats 2000000 in
theorem refCore_any (n : Int) (v : Value) (ys : List Nat) (w : World) (hn : -9223372036854775808 ≤ n ∧ n ≤ 9223372036854775807) (hv : Row .u8 w v (natI ys)) (hlen : ys.length ≤ 1000000) :
    Calls Tryz.prog 57 #[.int .i64 n, v] w (Copies 5 .u8 (natI (coreN n ys)) w) := by
  obtain ⟨i0, hi, hz0, hz1, hz2⟩ := info_parts info_u8
  have HV := Lib.hid hv
  have HZ := Lib.hid (varN_len10 (zigN_lt hn))
  have HY := Lib.hid (varN_len10 (n := ys.length) (by omega))
  have HE : Hid (natI (coreN n ys) = natI (varN (zigN n)) ++ (natI (varN (natI ys).length) ++ natI ys)) := Lib.hid (by rw [natI_length]; simp [coreN, natI])
  obtain ⟨a, cap, rfl, _, _, _, _⟩ := hv
  have HBB : Hid ((natI (varN (zigN n))).length + (natI (varN (natI ys).length) ++ natI ys).length ≤ 1000000000) := Lib.hid (by have := HZ.out; have := HY.out; simp only [List.length_append, natI_length]; omega)
  go_enter Tryz.func57, Tryz.ntmps57
  go_wp2_with fail
  refine (refInt_any n w hn).mono ?_
  rintro e w1 ⟨v1, rfl, h1, hb1⟩
  have H1 := Lib.hid h1
  clear h1
  go_wp2_with fail
  refine (refRaw_any _ (natI ys) w1 (row_keeps HV.out hb1) (by rw [natI_length]; exact hlen)).mono ?_
  rintro e w2 ⟨v2, rfl, h2, hb2⟩
  have H2 := Lib.hid h2
  have H12 := Lib.hid (fresh_keeps H1.out hb2)
  have hb12 := below_then hb1 hb2
  clear h2
  go_wp2_with (at_builtin; refine wpList_append_fresh rfl _ _ 39 rfl w.heap.size 5 i0 .u8 1 Tryz.underlying39 hi hz0 hz1 hz2 (by decide) _ _ rfl H12.out _ _ rfl (row_of_fresh H2.out) HBB.out hb12.size ?_; intro v3 w3 hfr hgrow; have hb3 : Below w.heap.size w w3 := below_grown hb12 H12.out hgrow hb12.size; have HFR := Lib.hid hfr; clear hfr hgrow)
  go_ret
  have h3 := HFR.out
  rw [← HE.out] at h3
  exact copies_mk h3 hb3

set_option maxHeartbeats 2000000 in
theorem refFrame_any (n : Int) (v : Value) (ys : List Nat) (w : World) (hn : -9223372036854775808 ≤ n ∧ n ≤ 9223372036854775807) (hv : Row .u8 w v (natI ys)) (h8 : ∀ c ∈ ys, c < 256) (hlen : ys.length ≤ 900000) :
    Calls Tryz.prog 39 #[.int .i64 n, v] w (Copies 5 .u8 (natI (frameN n ys)) w) := by
  obtain ⟨i0, hi, hz0, hz1, hz2⟩ := info_parts info_u8
  have HV := Lib.hid hv
  have HCL := Lib.hid (coreN_len hn (show ys.length ≤ 1000000 by omega))
  have HC8 := Lib.hid (natI_range (coreN_lt (n := n) h8))
  have HH := Lib.hid (bytesN_lt frameL (coreN n ys))
  have HC10 := Lib.hid (varN_len10 (n := (coreN n ys).length) (by have := HCL.out; omega))
  have HH10 := Lib.hid (varN_len10 (bytesN_lt frameL (coreN n ys)))
  have HE : Hid (natI (frameN n ys) = (natI (varN (natI (coreN n ys)).length) ++ natI (coreN n ys)) ++ natI (varN (bytesN frameL (coreN n ys)))) := Lib.hid (by rw [natI_length]; simp [frameN, natI])
  obtain ⟨a, cap, rfl, _, _, _, _⟩ := hv
  go_enter Tryz.func39, Tryz.ntmps39
  go_wp2_with fail
  refine (refCore_any n _ ys w hn HV.out (by omega)).mono ?_
  rintro e w1 ⟨v1, rfl, h1, hb1⟩
  generalize coreN n ys = C at *
  have H1 := Lib.hid h1
  obtain ⟨a1, c1, rfl, _, _⟩ := fresh_elems h1
  clear h1
  go_wp2_with fail
  refine (refRaw_any _ (natI C) w1 (row_of_fresh H1.out) (by have := HCL.out; rw [natI_length]; omega)).mono ?_
  rintro e w2 ⟨v2, rfl, h2, hb2⟩
  have H2 := Lib.hid (fresh_mono h2 hb1.size)
  have H12 := Lib.hid (fresh_keeps H1.out hb2)
  have hb12 := below_then hb1 hb2
  clear h2 H1
  go_wp2_with fail
  have hby := Bytes.of_fresh H12.out (by rw [natI_length]; have := HCL.out; omega) HC8.out
  rw [toNats_natI] at hby
  refine (refBytes_any _ _ C w2 (by decide) hby (by have := HCL.out; omega)).mono ?_
  clear hby
  rintro e w3 ⟨rfl, hb3⟩
  have H23 := Lib.hid (fresh_keeps H2.out hb3)
  have hb13 := below_then hb12 hb3
  have HEE : Hid (bytesN (strN { data := #[102, 114, 97, 109, 101] }) C = bytesN frameL C) := Lib.hid rfl
  rw [HEE.out]
  generalize bytesN frameL C = h at *
  clear H2 H12 HEE
  go_wp2_with fail
  refine (refVar_any h w3 HH.out).mono ?_
  rintro e w4 ⟨v4, rfl, h4, hb4⟩
  have H4 := Lib.hid h4
  have H24 := Lib.hid (fresh_keeps H23.out hb4)
  have hb14 := below_then hb13 hb4
  obtain ⟨a4, c4, rfl, _, _⟩ := fresh_elems h4
  clear h4 H23
  go_wp2_with (at_builtin; refine wpList_append_fresh rfl _ _ 39 rfl w.heap.size 5 i0 .u8 1 Tryz.underlying39 hi hz0 hz1 hz2 (by decide) _ _ rfl H24.out _ _ rfl (row_of_fresh H4.out) (by have := HCL.out; have := HC10.out; have := HH10.out; simp only [List.length_append, natI_length]; omega) hb14.size ?_; intro v5 w5 hfr hgrow; have hb5 : Below w.heap.size w w5 := below_grown hb14 H24.out hgrow hb14.size; have HFR := Lib.hid hfr; clear hfr hgrow)
  go_ret
  have h5 := HFR.out
  rw [← HE.out] at h5
  exact copies_mk h5 hb5

def FirstEnd (F X l : List Nat) (b : Nat) (w : World) (e : Ending) (w' : World) : Prop :=
  ∃ u, e = .returned (.tuple #[u, .bool (decide (F <+: l))]) ∧ (F <+: l → Row .u8 w' u (natI X) ∧ ∀ j, blockOf u j → j = b) ∧ Below w.heap.size w w'

theorem rd_err1 {W : World} {r b : Nat} {s : RS} (h : Rd W r b s) : W.cell? ⟨r, 1, none⟩ = some (.int .i64 (s.2 : Int)) := by
  obtain ⟨v, h1, _⟩ := h
  exact h1.cell 1

set_option maxRecDepth 100000 in
set_option maxHeartbeats 4000000 in
theorem first_any (n : Nat) (v : Value) (l : List Nat) (b : Nat) (w : World) (hn : n ≤ 100000) (hv : Row .u8 w v (natI l)) (hp : PlainS v) (h8 : ∀ c ∈ l, c < 256) (hlen : l.length ≤ 100000) (hb : b < w.heap.size) (hvb : ∀ j, blockOf v j → j = b) :
    Calls Tryz.prog 49 #[.int .i64 (n : Int), v] w (FirstEnd (frameN (n : Int) (headN l)) (headN l) l b w) := by
  have HV := Lib.hid hv
  have HP := Lib.hid hp
  have H8 := Lib.hid h8
  have HVB := Lib.hid hvb
  have HB := Lib.hid hb
  have HN := Lib.hid (next_here (n := (n : Int)) (by omega) (show l.length ≤ 1000000 by omega))
  have HHL := Lib.hid (headN_len l)
  have HH8 := Lib.hid (headN_lt h8)
  have HFL := Lib.hid (frameN_len (n := (n : Int)) (by omega) (b := headN l) (by have := headN_len l; omega))
  have HFRM := Lib.hid (fun (v4 : Value) (w4 : World) h => refFrame_any (n : Int) v4 (headN l) w4 (by omega) h HH8.out (by have := HHL.out; omega))
  have HX : Hid ((rRaw (rInt (coreR (l, 0))).2).1 = headN l) := Lib.hid (by rw [← nextN_fst]; rfl)
  have HR1 := Lib.hid (fun (r : Nat) (w0 : World) (h : Rd w0 r b (l, 0)) => refRdRawP_any r b (l, 0) w0 h)
  have HR2 := Lib.hid (fun (r : Nat) (w0 : World) (h : Rd w0 r b (coreR (l, 0))) => refRdInt_any r b (coreR (l, 0)) w0 h)
  have HR3 := Lib.hid (fun (r : Nat) (w0 : World) (h : Rd w0 r b (rInt (coreR (l, 0))).2) => refRdRawP_any r b (rInt (coreR (l, 0))).2 w0 h)
  have HC8 := Lib.hid (coreR_lt (s := (l, 0)) h8)
  have hcl : (coreR (l, 0)).1.length ≤ 100000 := by rw [coreR_fst]; have := rRaw_len (l, 0); exact Nat.le_trans this hlen
  have HCL := Lib.hid hcl
  rw [coreR_eq] at HN HX HR2 HR3 HC8 HCL
  generalize frameN (n : Int) (headN l) = F at *
  generalize headN l = X at *
  generalize rRaw (l, 0) = q1 at *
  obtain ⟨x1, l1, e1⟩ := q1
  simp only at HN HX HR1 HR2 HR3 HC8 HCL
  generalize rInt (x1, 0) = q2 at *
  obtain ⟨z2, s2⟩ := q2
  simp only at HN HX HR1 HR2 HR3 HC8 HCL
  generalize rRaw s2 = q3 at *
  obtain ⟨x3, l3, e3⟩ := q3
  simp only at HN HX HR1 HR2 HR3 HC8 HCL
  obtain rfl : x3 = X := HX.out
  have HE1 : Hid (e1 ≠ 0 → ¬ F <+: l) := Lib.hid (fun h hp => h (HN.out hp).2.1)
  have HE2 : Hid (e3 ≠ 0 → ¬ F <+: l) := Lib.hid (fun h hp => h (HN.out hp).2.2)
  obtain ⟨a, cap, rfl, hcap, hcm, _, _⟩ := hv
  rw [natI_length] at *
  clear hp h8 hvb hcl HN HX
  go_enter Tryz.func49, Tryz.ntmps49
  go_wp2_with fail
  have hr0 := rd_new HV.out HP.out H8.out (by omega) HB.out HVB.out
  have hb0 : Below w.heap.size w (w.alloc (.cells #[.slice a l.length cap, .int .i64 0] 102)) := (Below.refl _ w).alloc (Nat.le_refl _) _
  have hs0 : (w.alloc (.cells #[.slice a l.length cap, .int .i64 0] 102)).heap.size = w.heap.size + 1 := by simp
  generalize w.alloc (.cells #[.slice a l.length cap, .int .i64 0] 102) = w0 at *
  refine (HR1.out _ w0 hr0).mono ?_
  rintro e w1 ⟨v1, rfl, hp1, hrow1, hbl1, hrd1, hk1⟩
  have hb1 := below_foot hb0 hk1 (by omega) (fun k hk => by omega)
  have hs1 := hk1.size
  have HD1 := Lib.hid hrd1
  have HROW1 := Lib.hid hrow1
  have HP1 := Lib.hid hp1
  have HBL1 := Lib.hid hbl1
  obtain ⟨a1, c1, rfl, _, _, _, _⟩ := hrow1
  rw [natI_length] at *
  clear hr0 hb0 hk1 hrd1 hp1 hbl1 HR1
  go_wp2_with fail
  have hr2 := rd_new HROW1.out HP1.out HC8.out (by have := HCL.out; omega) (show b < w1.heap.size by omega) HBL1.out
  have hb2 := below_foot hb1 (Keeps.of_below ((Below.refl _ w1).alloc (Nat.le_refl _) (.cells #[.slice a1 x1.length c1, .int .i64 0] 102))) (by omega) (fun k hk => by omega)
  have hs2 : (w1.alloc (.cells #[.slice a1 x1.length c1, .int .i64 0] 102)).heap.size = w1.heap.size + 1 := by simp
  have HD2 := Lib.hid (rd_below HD1.out (by omega) ((Below.refl _ w1).alloc (Nat.le_refl _) (.cells #[.slice a1 x1.length c1, .int .i64 0] 102)))
  generalize w1.alloc (.cells #[.slice a1 x1.length c1, .int .i64 0] 102) = w2 at *
  refine (HR2.out _ w2 hr2).mono ?_
  rintro e w3 ⟨rfl, hrd3, hk3⟩
  have hb3 := below_foot hb2 hk3 (by omega) (fun k hk => by omega)
  have hs3 := hk3.size
  have hr1lt := rd_lt HD1.out
  have HD3 := Lib.hid (rd_keeps HD2.out hk3 (by omega) (by have := HB.out; omega))
  have HY3 := Lib.hid hrd3
  clear hr2 hb2 hk3 hrd3 HD1 HD2 HR2
  go_wp2_with fail
  refine (HR3.out _ w3 HY3.out).mono ?_
  rintro e w4 ⟨v4, rfl, hp4, hrow4, hbl4, hrd4, hk4⟩
  have hb4 := below_foot hb3 hk4 (by omega) (fun k hk => by omega)
  have hs4 := hk4.size
  have hc1 := rd_err1 (rd_keeps HD3.out hk4 (by omega) (by have := HB.out; omega))
  have hc2 := rd_err1 hrd4
  have HROW4 := Lib.hid hrow4
  have HBL4 := Lib.hid hbl4
  have HV4 := Lib.hid (row_below HV.out (fun j hj => by have := HVB.out j hj; have := HB.out; omega) hb4)
  simp only at hc1 hc2
  clear hb3 hk4 hrow4 hbl4 HD3 HY3 hrd4 hp4 hb1 HR3 HV HP HROW1 HP1 HBL1 HC8
  by_cases he1 : e1 = 0
  rotate_left
  · have b1 : ((e1 : Int) == 0) = false := by simp; omega
    have b2 : ((e1 : Int) != 0) = true := by simp; omega
    have hno := HE1.out he1
    clear he1
    go_wp2_with fail
    refine bodyPost_ret (results_tmp2 rfl _ _ _) rfl ?_
    exact ⟨.slice none 0 0, by rw [decide_eq_false hno]; rfl, fun h => absurd h hno, hb4⟩
  subst he1
  by_cases he2 : e3 = 0
  rotate_left
  · have b1 : ((e3 : Int) == 0) = false := by simp; omega
    have b2 : ((e3 : Int) != 0) = true := by simp; omega
    have hno := HE2.out he2
    clear he2
    go_wp2_with fail
    refine bodyPost_ret (results_tmp2 rfl _ _ _) rfl ?_
    exact ⟨.slice none 0 0, by rw [decide_eq_false hno]; rfl, fun h => absurd h hno, hb4⟩
  subst he2
  go_wp2_with fail
  refine (HFRM.out _ _ HROW4.out).mono ?_
  rintro e w5 ⟨v5, rfl, hf5, hb5⟩
  have hb45 := below_then hb4 hb5
  have HF5 := Lib.hid hf5
  have HV5 := Lib.hid (row_keeps HV4.out hb5)
  have HU5 := Lib.hid (row_keeps HROW4.out hb5)
  obtain ⟨a5, c5, rfl, _, _⟩ := fresh_elems hf5
  rw [natI_length] at *
  clear hf5 hb5 HFRM HV4 HROW4 hb4 HE1 HE2
  have hfl : F.length ≤ 200000 := by have := HFL.out; have := HHL.out; omega
  by_cases hle : F.length ≤ l.length
  · have hrow := row_cut HV5.out hle
    have hbr : ∃ t, decide (natI F = (natI l).take F.length) = t ∧ t = decide (F <+: l) := ⟨_, rfl, decide_eq_decide.2 (by
      rw [show (natI l).take F.length = natI (l.take F.length) by simp [natI, List.map_take]]
      rw [← take_prefix hle]
      exact ⟨fun h => by have := congrArg toNats h; rw [toNats_natI, toNats_natI] at this; exact this.symm, fun h => by rw [h]⟩)⟩
    obtain ⟨t, ht, ht2⟩ := hbr
    have HS := Lib.hid (sameBytes_any _ _ (natI F) ((natI l).take F.length) w5 (Elems.of_fresh HF5.out) (Elems.of_row hrow) (by rw [natI_length]; omega) (by rw [List.length_take, natI_length]; omega))
    have HT2 := Lib.hid ht2
    have HT := Lib.hid ht
    clear ht ht2 hrow
    go_wp2_with fail
    refine HS.out.mono ?_
    rintro e w6 ⟨rfl, hb6⟩
    rw [HT.out]
    have hb46 := below_then hb45 hb6
    have HU6 := Lib.hid (row_keeps HU5.out hb6)
    clear HS hb6
    cases t
    · go_wp2_with fail
      refine bodyPost_ret (results_tmp2 rfl _ _ _) rfl ?_
      exact ⟨.slice none 0 0, by rw [← HT2.out]; rfl, fun h => absurd (HT2.out.trans (decide_eq_true h)) (by decide), hb46⟩
    · go_wp2_with fail
      refine bodyPost_ret (results_tmp2 rfl _ _ _) rfl ?_
      exact ⟨v4, by rw [← HT2.out]; rfl, fun _ => ⟨HU6.out, HBL4.out⟩, hb46⟩
  · have hno : ¬ F <+: l := fun h => hle h.length_le
    go_wp2_with fail
    refine bodyPost_ret (results_tmp2 rfl _ _ _) rfl ?_
    exact ⟨.slice none 0 0, by rw [decide_eq_false hno]; rfl, fun h => absurd h hno, hb45⟩

/-- The state of the reference's Scan. -/
structure RsIs (w : World) (l : List Nat) (pre : List (List Nat × Nat)) (us : List Value) (n : Nat) (s4 : Value) (wr : World) : Prop where
  own : LOwn w.heap.size wr s4 us (pre.map Prod.fst)
  all : scanP 0 l = pre ++ scanP pre.length (l.drop n)
  sum : (pre.map Prod.snd).sum = n
  le : n ≤ l.length
  cnt : pre.length ≤ n
  below : Below w.heap.size w wr

/-- As ScanEnd: and the records lie in the bytes that were scanned. -/
def ScanOwn (v : Value) (l : List Nat) (w : World) (e : Ending) (w' : World) : Prop :=
  ∃ u us, e = .returned (.tuple #[u, .int .i64 ((((scanP 0 l).map Prod.snd).sum : Nat) : Int)]) ∧ LOwn w.heap.size w' u us ((scanP 0 l).map Prod.fst) ∧ Below w.heap.size w w' ∧ ∀ y ∈ us, ∀ k, blockOf y k → blockOf v k

set_option maxRecDepth 100000 in
set_option maxHeartbeats 4000000 in
theorem refScan_own (v : Value) (l : List Nat) (w : World) (hv : Row .u8 w v (natI l)) (hp : PlainS v) (h8 : ∀ c ∈ l, c < 256) (hvb : ∀ j, blockOf v j → j < w.heap.size) (hlen : l.length ≤ 100000) :
    Calls Tryz.prog 26 #[v] w (ScanOwn v l w) := by
  obtain ⟨i0, hi, hz0, hz1, hz2⟩ := info_parts info_sl
  have HV := Lib.hid hv
  have HP := Lib.hid hp
  have H8 := Lib.hid h8
  have HVB := Lib.hid hvb
  have HL := Lib.hid hlen
  obtain ⟨a, cap, rfl, hcap, hcm, _, _⟩ := hv
  rw [natI_length] at *
  clear hp h8 hvb
  go_enter Tryz.func26, Tryz.ntmps26
  go_wp2_with fail
  go_loopw [4, 5] (fun s4 s5 wr => ∃ (pre : List (List Nat × Nat)) (us : List Value) (n : Nat), s5 = .int .i64 (n : Int) ∧ (∃ ua ucap, s4 = .slice ua pre.length ucap) ∧ Hid (RsIs w l pre us n s4 wr) ∧ Hid (∀ y ∈ us, ∀ k, blockOf y k → blockOf (.slice a l.length cap) k))
    (fun _ s5 _ => l.length + 1 - (intOf s5).toNat)
  case atStart =>
    exact ⟨[], [], 0, rfl, ⟨none, 0, rfl⟩, Lib.hid ⟨lown_nil _ _, rfl, rfl, Nat.zero_le _, Nat.le_refl _, Below.refl _ _⟩, Lib.hid (fun y hy => by simp at hy)⟩
  case round =>
    obtain ⟨pre, us, n, rfl, ⟨ua, ucap, rfl⟩, HI, HEL⟩ := hrel
    have hn := HI.out.le
    have hcnt := HI.out.cnt
    have HUL : Hid (us.length = pre.length) := Lib.hid (by rw [HI.out.own.len, List.length_map])
    by_cases hlt : n < l.length
    · obtain ⟨b0, o0, rfl⟩ : ∃ b0 o0, a = some ⟨b0, o0, none⟩ := by
        obtain ⟨x, c, h1, _, _, h4, _⟩ := HV.out
        obtain ⟨b', o', h5, _⟩ := h4 (fun h => by have h6 := congrArg List.length h; rw [natI_length, List.length_nil] at h6; omega)
        injection h1 with h1
        exact ⟨b', o', h1.trans h5⟩
      have hb0 : b0 < w.heap.size := HVB.out b0 rfl
      have hwr := HI.out.below.size
      have hrowr := row_below HV.out HVB.out HI.out.below
      have hrd := row_drop hrowr (m := n) (by omega) (n2 := l.length - n) rfl (.inl ⟨rfl, rfl⟩)
      rw [show (natI l).drop n = natI (l.drop n) by simp [natI, List.map_drop]] at hrd
      have HF := Lib.hid (first_any pre.length _ (l.drop n) b0 wr (by omega) hrd (.inr ⟨_, _, _, _, rfl⟩) (fun c hc => H8.out c (List.mem_of_mem_drop hc)) (by rw [List.length_drop]; omega) (by omega) (fun j hj => hj))
      have HFR := Lib.hid (fun (v4 : Value) (w4 : World) h => refFrame_any (pre.length : Int) v4 (headN (l.drop n)) w4 (by omega) h (headN_lt (fun c hc => H8.out c (List.mem_of_mem_drop hc))) (by have := headN_len (l.drop n); rw [List.length_drop] at this; omega))
      have HY1 := Lib.hid (scanP_yes (n := pre.length) (l := l.drop n))
      have HY0 := Lib.hid (scanP_no (n := pre.length) (l := l.drop n))
      have HFP := Lib.hid (frameN_pos (pre.length : Int) (headN (l.drop n)))
      clear hrowr hrd
      generalize frameN (pre.length : Int) (headN (l.drop n)) = F at *
      generalize headN (l.drop n) = X at *
      go_wp2_with fail
      refine HF.out.mono ?_
      rintro e w1 ⟨u1, rfl, hu1, hb1⟩
      have HU1 := Lib.hid hu1
      have hbb := below_then HI.out.below hb1
      have HOW := Lib.hid (lown_below HI.out.own hb1)
      have HALL := HI.out.all
      have hsz1 := hb1.size
      clear hu1 hb1 HF
      by_cases hp : F <+: l.drop n
      · obtain ⟨hx, hxb⟩ := HU1.out hp
        have hpl := hp.length_le
        rw [List.length_drop] at hpl
        obtain ⟨xa, xc, rfl, _, _, _, _⟩ := id hx
        have HX := Lib.hid hx
        have HXB := Lib.hid hxb
        have HP1 := Lib.hid hp
        rw [HY1.out hp] at HALL
        have HA := Lib.hid HALL
        rw [decide_eq_true hp]
        clear hx hxb hp HALL HU1
        go_wp2_with fail
        refine (HFR.out _ _ HX.out).mono ?_
        rintro e w2 ⟨v2, rfl, hf2, hb2⟩
        obtain ⟨a2, c2, rfl, _, _⟩ := fresh_elems hf2
        simp only [natI_length] at *
        have hb12 := below_then hbb hb2
        have HOW2 := Lib.hid (lown_below HOW.out hb2)
        have HX2 := Lib.hid (row_keeps HX.out hb2)
        have hsz2 := hb2.size
        clear hf2 hb2 HOW HX HFR
        have hO3 := own_foot HOW2.out.own ((Keeps.refl (fun _ => False) w2).alloc (.cells #[.slice xa X.length xc] 39)) (fun _ _ h => h)
        have hO4 := lown_below HOW2.out ((Below.refl _ w2).alloc (Nat.le_refl _) (.cells #[.slice xa X.length xc] 39))
        have HO4 := Lib.hid hO4
        have HX4 := Lib.hid (row_keeps HX2.out ((Below.refl _ w2).alloc (Nat.le_refl _) (.cells #[.slice xa X.length xc] 39)))
        rw [HUL.out] at hO3
        have HO3 := Lib.hid hO3
        have hbase := hb12.size
        clear hO3 hO4
        go_wp2_with (at_builtin; refine wpList_append_own_at _ rfl _ _ 29 rfl w.heap.size 39 i0 (.slice none 0 0) 1 24 Tryz.underlying29 hi hz0 hz1 hz2 rfl (by decide) (.slice ua pre.length ucap) pre.length us rfl HO3.out ⟨w2.heap.size, 0, none⟩ 1 1 [.slice xa X.length xc] rfl rfl (cell_one_new _ _ _) (by simp [Value.oneCell']) (by unfold maxLen; omega) (by omega) (by simp; omega) ?_; intro u3 w3 hown3 hgrow3 _ hat3; obtain ⟨g3, cap3, rfl⟩ := own_shape hown3 (by omega); have HO5 := Lib.hid (And.intro hown3 (And.intro hgrow3 hat3)); clear hown3 hgrow3 hat3)
        go_roundw
        case rel =>
          obtain ⟨hown3, hgrow3, hat3⟩ := HO5.out
          rw [← HUL.out] at hown3
          have hl := lown_snoc HO4.out HX4.out (fun k hk => by
            have hkb := HXB.out k hk
            refine ⟨by simp; omega, fun e => ?_⟩
            have := (HO4.out.own.lt k e).1
            omega) hown3 hgrow3 hat3
          have hbw : Below w.heap.size w w3 := (hb12.alloc hb12.size _).grown hgrow3 (by simp; omega) (fun k e => (HO4.out.own.lt k e).1)
          refine ⟨pre ++ [(X, F.length)], us ++ [.slice xa X.length xc], n + F.length, by go_num, ⟨some ⟨g3, 0, none⟩, cap3, by rw [List.length_append]; rfl⟩, Lib.hid ⟨?_, ?_, ?_, ?_, ?_, hbw⟩, Lib.hid (fun y hy k hk => (List.mem_append.1 hy).elim (fun h => HEL.out y h k hk) (fun h => by rw [List.mem_singleton.1 h] at hk; rw [HXB.out k hk]; exact rfl))⟩
          · rw [List.map_append]; rw [HUL.out] at hl; exact hl
          · rw [HA.out, List.append_assoc, List.length_append, List.drop_drop]; rfl
          · rw [List.map_append, List.sum_append, HI.out.sum]; simp
          · omega
          · rw [List.length_append]; have := HFP.out; show pre.length + 1 ≤ _; omega
        case measure => have := HFP.out; simp [intOf]; omega
      · rw [decide_eq_false hp]
        rw [HY0.out hp, List.append_nil] at HALL
        have HA := Lib.hid HALL
        clear HALL HU1 hp
        go_wp2_with fail
        refine bodyPost_ret (results_tmp2 rfl _ _ _) rfl ?_
        exact ⟨.slice ua pre.length ucap, us, by rw [HA.out, HI.out.sum]; rfl, by rw [HA.out]; exact HOW.out, hbb, HEL.out⟩
    · have he : n = l.length := by omega
      have HA : Hid (scanP 0 l = pre) := Lib.hid (by rw [HI.out.all, he, List.drop_length, scanP_nil, List.append_nil])
      go_wp2_with fail
      refine bodyPost_ret (results_tmp2 rfl _ _ _) rfl ?_
      exact ⟨.slice ua pre.length ucap, us, by rw [HA.out, HI.out.sum]; rfl, by rw [HA.out]; exact HI.out.own, HI.out.below, HEL.out⟩

theorem refScan_any (v : Value) (l : List Nat) (w : World) (hv : Row .u8 w v (natI l)) (hp : PlainS v) (h8 : ∀ c ∈ l, c < 256) (hvb : ∀ j, blockOf v j → j < w.heap.size) (hlen : l.length ≤ 100000) :
    Calls Tryz.prog 26 #[v] w (ScanEnd l w) :=
  (refScan_own v l w hv hp h8 hvb hlen).mono fun _ _ ⟨u, us, h1, h2, h3, _⟩ => ⟨u, us, h1, h2, h3⟩
end Go.Proofs.YtlljcnhcknmoaaaGreat
