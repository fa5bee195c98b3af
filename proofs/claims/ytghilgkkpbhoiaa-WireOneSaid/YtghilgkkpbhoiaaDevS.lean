/-
  The walk of the law WirePrefix.
-/
import Derived.Test.YtghilgkkpbhoiaaDevR
namespace Go.Proofs.Ytghilgkkpbhoiaa
open Go.RowKit Go.Shelf
set_option linter.unusedVariables false

/-! ### Reads one behind another -/
def rSeq (xs : List VV) (s : RS) : RS := xs.foldl (fun s x => (rRead x.kind s).2) s
theorem rSeq_take {xs : List VV} {k : Nat} (hk : k < xs.length) (s : RS) : rSeq (xs.take (k + 1)) s = (rRead xs[k].kind (rSeq (xs.take k) s)).2 := by
  unfold rSeq
  rw [List.take_succ_eq_append_getElem hk, List.foldl_append]; rfl

theorem rLen_err {s : RS} (h : s.2 ≠ 0) : rLen s = (0, s) := by rw [rLen_bad (by rw [rUint_err h]; exact h), rUint_err h]
theorem rRaw_err {s : RS} (h : s.2 ≠ 0) : rRaw s = ([], s) := by rw [rRaw_bad (by rw [rLen_err h]; exact h), rLen_err h]
theorem rInts_err {s : RS} (h : s.2 ≠ 0) : rInts s = ([], s) := by
  unfold rInts
  rw [rLen_err h]
  show (if (rMany 0 s).2.2 ≠ 0 then ([], (rMany 0 s).2) else rMany 0 s) = _
  rw [if_pos (show (rMany 0 s).2.2 ≠ 0 from h)]; rfl
theorem rBool_err {s : RS} (h : s.2 ≠ 0) : rBool s = (false, s) := by unfold rBool; rw [if_pos h]
/-- With an error, a read gives the zero value and changes nothing. -/
theorem rRead_err (k : Int) {s : RS} (h : s.2 ≠ 0) : rRead k s = (⟨k, 0, 0, [], []⟩, s) := by
  unfold rRead
  split
  · rename_i h0; subst h0; rw [rUint_err h]
  · split
    · rename_i h1; subst h1
      show ((⟨1, 0, zagI (rUint s).1, [], []⟩ : VV), (rUint s).2) = _
      rw [rUint_err h]
      have h0 : zagI 0 = 0 := by decide
      show ((⟨1, 0, zagI 0, [], []⟩ : VV), s) = _
      rw [h0]
    · split
      · rename_i h2; subst h2; rw [rBool_err h]; rfl
      · split
        · rw [rRaw_err h]
        · rw [rInts_err h]
theorem rSeq_err {s : RS} (h : s.2 ≠ 0) (xs : List VV) : rSeq xs s = s := by
  induction xs with
  | nil => rfl
  | cons x xs ih => show rSeq xs (rRead x.kind s).2 = s; rw [rRead_err _ h]; exact ih
theorem rSeq_suf (xs : List VV) : ∀ s : RS, (rSeq xs s).1 <:+ s.1 := by
  induction xs with
  | nil => intro s; exact List.suffix_refl _
  | cons x xs ih => intro s; exact (ih (rRead x.kind s).2).trans (rRead_suf _ _)

/-- A proper prefix of a value's encoding: more is needed. -/
theorem rRead_prefix {x : VV} (ok : x.ok) (hp : x.proper) {m : Nat} (hm : m < (encV x).length) : (rRead x.kind ((encV x).take m, 0)).2.2 = 3 := by
  obtain ⟨kind, u, n, b, l⟩ := x
  have hu : u < 18446744073709551616 := ok.u
  have hn : -9223372036854775808 ≤ n ∧ n ≤ 9223372036854775807 := ok.n
  have hbl : b.length ≤ 1000 := ok.bl
  have hll : l.length ≤ 1000 := ok.ll
  have hlr : ∀ n ∈ l, -9223372036854775808 ≤ n ∧ n ≤ 9223372036854775807 := ok.l
  clear ok
  unfold VV.proper at hp
  simp only at hp
  rcases hp with ⟨rfl, rfl, rfl, rfl⟩ | ⟨rfl, rfl, rfl, rfl⟩ | ⟨rfl, rfl, hn2, rfl, rfl⟩ | ⟨hk, rfl, rfl, rfl⟩ | ⟨rfl, rfl, rfl, rfl⟩
  · exact (rUint_prefix hu hm).1
  · exact rInt_prefix hn hm
  · exact rBool_prefix _ hm
  · have e1 : encV ⟨kind, 0, 0, b, []⟩ = varN b.length ++ b := by rcases hk with rfl | rfl <;> rfl
    have e2 : ∀ s, rRead kind s = (⟨kind, 0, 0, (rRaw s).1, []⟩, (rRaw s).2) := by rcases hk with rfl | rfl <;> exact fun s => rfl
    rw [e1] at hm ⊢
    rw [e2]
    exact rRaw_prefix (by omega) hm
  · exact rInts_prefix (by omega) hlr hm
theorem rSeq_prefix {xs : List VV} (h : ∀ x ∈ xs, x.ok ∧ x.proper) : ∀ m, m < (encAll xs).length → (rSeq xs ((encAll xs).take m, 0)).2 = 3 := by
  induction xs with
  | nil => intro m hm; simp [encAll] at hm
  | cons x xs ih =>
    intro m hm
    obtain ⟨h1, h2⟩ := h x (by simp)
    have e : encAll (x :: xs) = encV x ++ encAll xs := by simp [encAll]
    rw [e] at hm ⊢
    show (rSeq xs (rRead x.kind ((encV x ++ encAll xs).take m, 0)).2).2 = 3
    by_cases hx : m < (encV x).length
    · rw [List.take_append_of_le_length (Nat.le_of_lt hx)]
      have h3 := rRead_prefix h1 h2 hx
      rw [rSeq_err (by rw [h3]; decide)]
      exact h3
    · rw [List.take_append, List.take_of_length_le (by omega), rRead_round h1 h2]
      rw [List.length_append] at hm
      exact ih (fun y hy => h y (by simp [hy])) _ (by omega)

theorem ended_four (c : Nat) : rEnd ([c], 0) = 2 := by unfold rEnd; rw [if_pos ⟨rfl, by simp⟩]
theorem rEnd_err {s : RS} (h : s.2 = 3) : rEnd s = 3 := by unfold rEnd; rw [if_neg (fun h2 => by rw [h] at h2; exact absurd h2.1 (by decide)), h]

set_option maxRecDepth 100000 in
set_option maxHeartbeats 8000000 in
theorem walk_WirePrefix (v : Value) (l : List Int) (cut c : Int) (w : World) (hv : Row .i64 w v l) (hl : ∀ n ∈ l, -9223372036854775808 ≤ n ∧ n ≤ 9223372036854775807) (hcut : -9223372036854775808 ≤ cut ∧ cut ≤ 9223372036854775807) (hc : 0 ≤ c ∧ c ≤ 255) :
    Calls Try.prog 7 #[v, .int .i64 cut, .int .u8 c] w fun e w' => e = .returned (.bool true) ∧ Below w.heap.size w w' := by
  obtain ⟨c, rfl⟩ : ∃ x : Nat, c = (x : Int) := ⟨c.toNat, by omega⟩
  have hc256 : c < 256 := by omega
  have HCUT := Lib.hid hcut
  have HV := Lib.hid (refVals_any v l w hv hl (row_short hv))
  have L := Lib.hid (fun W => lives_any2 W)
  obtain ⟨i0, hi, hz0, hz1, hz2⟩ := info_parts info_u8
  clear hv hl hcut hc
  go_enter Try.func7, Try.ntmps7
  go_wp2_with fail
  refine HV.out.mono ?_
  rintro e w1 ⟨v1, xs, rfl, hfv, hb1, hxl, hok⟩
  have hs1 := hb1.size
  have hG1 := gv_of_freshV hfv
  obtain ⟨a1, c1, rfl, hc1, hc1m⟩ := gv_form hG1
  have HOK := Lib.hid hok
  have HG1 := Lib.hid hG1
  clear hfv HV hG1
  go_wp2_with fail
  refine (encode_any _ _ _ xs w1 HG1.out (fun x hx => (hok x hx).1) (by omega)).mono ?_
  rintro e w2 ⟨v2, rfl, hf2, hbw⟩
  have hb2 := below_foot hb1 (Keeps.of_below hbw) (by omega) (fun k hk => by omega)
  have hs2 := hbw.size
  have HG2 := Lib.hid (gv_keeps HG1.out (Keeps.of_below hbw) (fun k _ h1 h2 => by omega))
  have HSP : Hid (∀ m, m < (encAll xs).length → (rSeq xs ((encAll xs).take m, 0)).2 = 3) := Lib.hid (rSeq_prefix hok)
  have HSD : Hid (∀ (k : Nat) (hk : k < xs.length) r, rRead xs[k].kind (encAll (xs.drop k) ++ r, 0) = (xs[k], (encAll (xs.drop (k + 1)) ++ r, 0))) := Lib.hid (fun k hk r => by
    rw [encAll_drop hk, List.append_assoc]
    exact rRead_round (hok _ (List.getElem_mem hk)).1 (hok _ (List.getElem_mem hk)).2 _)
  have HE8 := Lib.hid (encAll_lt (fun x hx => (hok x hx).1))
  have hel := encAll_len (fun x hx => (hok x hx).1)
  have HLL : Hid (encAll (xs.drop 0) = encAll xs) := Lib.hid rfl
  have hln : (encAll xs).length ≤ 160000 := by omega
  clear hbw hb1 HG1 hok hel
  generalize hLg : encAll xs = LL at *
  have HLG := Lib.hid hLg
  clear hLg
  obtain ⟨a2, c2, rfl, hc2, _⟩ := fresh_elems hf2
  rw [natI_length] at *
  have HF2 := Lib.hid hf2
  clear hf2
  by_cases hLn : LL.length = 0
  · obtain rfl : LL = [] := List.eq_nil_of_length_eq_zero hLn
    go_wp2_with fail
    refine (devRead_any (.slice none 0 0) [] w2 (row_none _ _) (by simp) (by simp)).mono ?_
    rintro e w3 ⟨r, b, rfl, hr, hrB, hbB, hbl, hbw⟩
    have hb3 := below_foot hb2 (Keeps.of_below hbw) (by omega) (fun k hk => by omega)
    have HR := Lib.hid (rx_of hr)
    have hs3 := hbw.size
    clear hr hbw
    go_wp2_with fail
    refine (devRdEnd_any r b _ w3 HR.out).mono ?_
    rintro e w4 ⟨rfl, rfl⟩
    rw [show rEnd ([], 0) = 0 from rfl]
    go_wp2_with fail
    refine (L.out w3).mono ?_
    rintro e w8 ⟨rfl, hb⟩
    have hbG := below_foot hb3 (Keeps.of_below hb) (by omega) (fun k hk => by omega)
    go_wp2_with fail
    go_ret
    exact ⟨rfl, hbG⟩
  · have hLp : 0 < LL.length := by omega
    obtain ⟨g2, c2', e1, hg2, hg2l, hc2b⟩ := fresh_some HF2.out (fun h => by have h2 := congrArg List.length h; rw [natI_length, List.length_nil] at h2; omega)
    obtain rfl : a2 = some ⟨g2, 0, none⟩ := by injection e1
    have hLneq : ((LL.length : Int) == 0) = false := by rw [beq_eq_false_iff_ne]; omega
    clear e1 hLn
    go_wp2_with fail
    refine (around_nat cut LL.length w2 HCUT.out hLp (by omega)).mono ?_
    rintro e w2b ⟨m, hm, rfl, rfl⟩
    have hm0 : (0 : Int) ≤ (m : Int) := by omega
    have hmc : (m : Int) ≤ (c2 : Int) := by omega
    have hc20 : ¬ c2 = 0 := by omega
    have hc2p : 0 < c2 := by omega
    have HROW := Lib.hid (row_of_fresh HF2.out)
    have HTK : Hid (Row .u8 w2 (.slice (some ⟨g2, 0, none⟩) m c2) (natI (LL.take m))) := by
      have h := HROW.out
      rw [← natI_length LL] at h
      have := row_take h (m := m) (by rw [natI_length]; omega)
      rw [show (natI LL).take m = natI (LL.take m) by simp [natI, List.map_take]] at this
      exact Lib.hid this
    go_wp2_with fail
    refine (devRead_any _ (LL.take m) w2 HTK.out (fun c hc => HE8.out c (List.mem_of_mem_take hc)) (by rw [List.length_take]; omega)).mono ?_
    rintro e w3 ⟨r, b, rfl, hr, hrB, hbB, hbl, hbw⟩
    have hb3 := below_foot hb2 (Keeps.of_below hbw) (by omega) (fun k hk => by omega)
    have HR3 := Lib.hid (rx_of hr)
    have HG3 := Lib.hid (gv_keeps HG2.out (Keeps.of_below hbw) (fun k _ h1 h2 => by omega))
    have HF3 := Lib.hid (row_keeps HROW.out hbw)
    have hs3 := hbw.size
    have hrl3 := hr.lts
    clear hr hbw HG2 HF2 HROW HTK hb2
    go_wp2_with fail
    refine (refFew_any _ (natI LL) LL.length w3 HF3.out (by omega)).mono ?_
    rintro e w4 ⟨v4, rfl, hf4, hbw⟩
    rw [show (natI LL).take LL.length = natI LL by rw [← natI_length LL, List.take_length]] at hf4
    have hb4 := below_foot hb3 (Keeps.of_below hbw) (by omega) (fun k hk => by omega)
    have hs4 := hbw.size
    have hbA : Below w4.heap.size w4 (w4.alloc (.cells #[.int .u8 (c : Int)] 5)) := (Below.refl _ w4).alloc (Nat.le_refl _) _
    have HF4 := Lib.hid (fresh_keeps hf4 hbA)
    have HR4 := Lib.hid (rx_below (rx_below HR3.out (by omega) hbw) (by omega) hbA)
    have HG4 := Lib.hid (gv_keeps (gv_keeps HG3.out (Keeps.of_below hbw) (fun k _ h1 h2 => by omega)) (Keeps.of_below hbA) (fun k _ h1 h2 => by omega))
    have hb5 := below_foot hb4 (Keeps.of_below hbA) (by omega) (fun k hk => by omega)
    have hs5 : (w4.alloc (.cells #[.int .u8 (c : Int)] 5)).heap.size = w4.heap.size + 1 := by simp
    have HX := Lib.hid (row_of_fresh (fresh_lit w4 w4.heap.size 5 .u8 [(c : Int)] (Nat.le_refl _) (by simp)))
    clear hf4 hbw hbA hb3 hb4 HR3 HG3 HF3
    go_wp2_with (at_builtin; go_must (refine wpList_append_fresh rfl _ _ 24 rfl w3.heap.size 5 i0 .u8 1 under_bytes hi hz0 hz1 hz2 (by decide) _ (natI LL) rfl HF4.out _ [(c : Int)] rfl HX.out (by rw [natI_length]; simp; omega) (by omega) ?_); intro v5 w5 hfr hgrow; have hk5 : Keeps (fun k => w3.heap.size ≤ k) (w4.alloc (.cells #[.int .u8 (c : Int)] 5)) w5 := Keeps.of_grown hgrow (fun k hk => (HF4.out.lt k hk).1); have hb6 := below_foot hb5 hk5 (by omega) (fun k hk => by omega); have HF5 : Hid (Fresh w3.heap.size 5 .u8 w5 v5 (natI (LL ++ [c]))) := Lib.hid (by rw [natI_append]; exact hfr); have HR5 := Lib.hid (rx_keeps HR4.out hk5 (by omega) (by omega)); have HG5 := Lib.hid (gv_keeps HG4.out hk5 (fun k _ h1 h2 => by omega)); have hs6 := hk5.size; clear hfr hgrow hk5 hb5 HR4 HG4 HF4 HX)
    refine (devRead_any _ (LL ++ [c]) w5 (row_of_fresh HF5.out) (fun d hd => by rcases List.mem_append.1 hd with h | h; exact HE8.out d h; have h2 : d = c := (by simpa using h); omega) (by rw [List.length_append]; simp; omega)).mono ?_
    rintro e w6 ⟨r2, b2, rfl, hr2, hrB2, hbB2, hbl2, hbw⟩
    have hb7 := below_foot hb6 (Keeps.of_below hbw) (by omega) (fun k hk => by omega)
    have HR6 := Lib.hid (rx_below HR5.out (by omega) hbw)
    have HG6 := Lib.hid (gv_keeps HG5.out (Keeps.of_below hbw) (fun k _ h1 h2 => by omega))
    have HL6 : Hid (Rx w6 r2 b2 (encAll (xs.drop 0) ++ [c], 0)) := Lib.hid (by rw [HLL.out]; exact rx_of hr2)
    have hs7 := hbw.size
    have hrl2 := hr2.lts
    clear hr2 hbw hb6 HR5 HG5 HF5
    go_wp2_with fail
    have HS8 : Hid (∀ k, ∀ d ∈ (rSeq (xs.take k) (LL.take m, 0)).1, d < 256) := Lib.hid (fun k d hd => HE8.out d (List.mem_of_mem_take ((rSeq_suf _ _).subset hd)))
    have HSL : Hid (∀ k, (rSeq (xs.take k) (LL.take m, 0)).1.length ≤ 1000000) := Lib.hid (fun k => by
      have h1 := (rSeq_suf (xs.take k) (LL.take m, 0)).length_le
      have h2 : (LL.take m).length ≤ 160000 := by rw [List.length_take]; omega
      exact Nat.le_trans h1 (by show (LL.take m).length ≤ _; omega))
    have HD8 : Hid (∀ k, ∀ d ∈ encAll (xs.drop k) ++ [c], d < 256) := Lib.hid (fun k d hd => by
      rcases List.mem_append.1 hd with h | h
      · exact encAll_lt (fun x hx => (HOK.out x (List.mem_of_mem_drop hx)).1) d h
      · have h2 : d = c := by simpa using h
        omega)
    have HDL : Hid (∀ k, (encAll (xs.drop k) ++ [c]).length ≤ 1000000) := Lib.hid (fun k => by
      have h1 := encAll_len (xs := xs.drop k) (fun x hx => (HOK.out x (List.mem_of_mem_drop hx)).1)
      have h2 : (xs.drop k).length ≤ 8 := by simp; omega
      rw [List.length_append]; simp; omega)
    have hs7w := hb7.size
    go_loopw [12] (fun iv wr => ∃ k : Nat, k ≤ xs.length ∧ iv = .int .i64 (k : Int) ∧ Hid (Rx wr r b (rSeq (xs.take k) (LL.take m, 0))) ∧ Hid (Rx wr r2 b2 (encAll (xs.drop k) ++ [c], 0)) ∧ Hid (Gv w.heap.size w1.heap.size wr (.slice a1 xs.length c1) xs) ∧ Hid (Keeps (fun j => j = r ∨ j = r2) w6 wr)) (fun iv _ => xs.length - (intOf iv).toNat)
    case atStart => exact ⟨0, Nat.zero_le _, rfl, HR6, HL6, HG6, Lib.hid (Keeps.refl _ _)⟩
    case round =>
      obtain ⟨k, hk, rfl, HR, HL, HG, HK⟩ := hrel
      clear HR6 HL6 HG6
      have hzr := HK.out.size
      by_cases hlt : k < xs.length
      · obtain ⟨gg, vb, vl, rfl, hgl, hgh, d0, _, _, _, _, _, _, _⟩ := gv_at HG.out hlt
        have hst := rSeq_take hlt (LL.take m, 0)
        have hsd := HSD.out k hlt [c]
        have RA := Lib.hid (read_any r b xs[k].kind _ wr HR.out (HS8.out k) (HSL.out k) (by omega))
        have RB : Hid (∀ W, Rx W r2 b2 (encAll (xs.drop k) ++ [c], 0) → b2 < W.heap.size → Calls Try.prog 22 #[.pointer (some ⟨r2, 0, none⟩), .int .i64 xs[k].kind] W (GotEnd r2 b2 xs[k] (encAll (xs.drop (k + 1)) ++ [c], 0) W)) := Lib.hid (fun W h hb => by
          have := read_any r2 b2 xs[k].kind _ W h (HD8.out k) (HDL.out k) hb
          rw [hsd] at this
          exact this)
        rw [← hst] at RA
        unfold GotEnd at RA RB
        clear hst hsd HR
        generalize xs[k] = x at *
        go_wp2_with fail
        refine RA.out.mono ?_
        rintro e w7 ⟨vb7, vl7, rfl, q1, q2, q3, q4, q5⟩
        have d7 := q4.cell d0 (show ¬ gg = r by omega)
        have HR7 := Lib.hid q3
        have HL7 := Lib.hid (rx_keeps HL.out q4 (by omega) (by omega))
        have HG7 := Lib.hid (gv_keeps HG.out q4 (fun j h1 h2 => by omega))
        have HK7 : Hid (Keeps (fun j => j = r ∨ j = r2) w6 w7) := Lib.hid (HK.out.trans (q4.mono fun j _ h => .inl h))
        have hz7 := q4.size
        clear q1 q2 q3 q4 q5 HL HG HK RA d0
        go_wp2_with fail
        refine (RB.out w7 HL7.out (by omega)).mono ?_
        rintro e w8 ⟨vb8, vl8, rfl, q1, q2, q3, q4, q5⟩
        have HR8 := Lib.hid (rx_keeps HR7.out q4 (by omega) (by omega))
        have HL8 := Lib.hid q3
        have HG8 := Lib.hid (gv_keeps HG7.out q4 (fun j h1 h2 => by omega))
        have HK8 : Hid (Keeps (fun j => j = r ∨ j = r2) w6 w8) := Lib.hid (HK7.out.trans (q4.mono fun j _ h => .inr h))
        clear q1 q2 q3 q4 q5 HR7 HL7 HG7 HK7 RB d7
        go_wp2_with fail
        go_roundw
        case rel => exact ⟨k + 1, by omega, by go_num, HR8, HL8, HG8, HK8⟩
        case measure => simp [intOf]; omega
      · obtain rfl : k = xs.length := by omega
        rw [List.take_length] at HR
        rw [List.drop_length] at HL
        have hbE := below_foot hb7 HK.out (by omega) (fun j hj => by omega)
        have h3 := HSP.out m hm
        have hS8 := HS8.out xs.length
        have hSL := HSL.out xs.length
        rw [List.take_length] at hS8 hSL
        generalize rSeq xs (LL.take m, 0) = s at *
        have H3 := Lib.hid h3
        have HS8' := Lib.hid hS8
        have HSL' := Lib.hid hSL
        clear h3 hS8 hSL HS8 HSL HD8 HDL
        go_wp2_with fail
        refine (devRdEnd_any r b s wr HR.out).mono ?_
        rintro e w7 ⟨rfl, rfl⟩
        rw [rEnd_err H3.out]
        go_wp2_with fail
        refine (devRdEnd_any r2 b2 _ wr HL.out).mono ?_
        rintro e w7 ⟨rfl, rfl⟩
        rw [show rEnd (encAll [] ++ [c], 0) = 2 from ended_four c]
        go_wp2_with fail
        refine (around_any cut 6 wr HCUT.out (by decide) (by decide)).mono ?_
        rintro e w7 ⟨rfl, rfl⟩
        rw [show ((6 : Nat) : Int) = 6 from rfl]
        generalize aroundI cut 6 = kd at *
        have RC := Lib.hid (read_any r b kd s wr HR.out HS8'.out HSL'.out (by omega))
        rw [rRead_err kd (s := s) (by rw [H3.out]; decide)] at RC
        unfold GotEnd at RC
        go_wp2_with fail
        refine RC.out.mono ?_
        rintro e w7 ⟨vb7, vl7, rfl, q1, q2, q3, q4, q5⟩
        have hbF := below_foot hbE q4 (by omega) (fun j hj => by omega)
        have hz7 := q4.size
        obtain ⟨pb, pbn, pbc, rfl⟩ : ∃ a n c, vb7 = .slice a n c := by obtain ⟨a, c, h, _⟩ := q1; exact ⟨a, _, c, h⟩
        obtain ⟨pl, pln, plc, rfl⟩ : ∃ a n c, vl7 = .slice a n c := by obtain ⟨a, c, h, _⟩ := q2; exact ⟨a, _, c, h⟩
        have hL8 := Laid.new w7 28 [.int .i64 kd, .int .u64 0, .int .i64 0, .slice pb pbn pbc, .slice pl pln plc]
        have e0 := hL8.cell 0
        have e1 := hL8.cell 1
        have e2 := hL8.cell 2
        have e3 := hL8.cell 3
        have e4 := hL8.cell 4
        simp only [List.getElem?_cons_zero, List.getElem?_cons_succ] at e0 e1 e2 e3 e4
        have hbA : Below w7.heap.size w7 (w7.alloc (.cells #[.int .i64 kd, .int .u64 0, .int .i64 0, (.slice pb pbn pbc), (.slice pl pln plc)] 28)) := (Below.refl _ w7).alloc (Nat.le_refl _) _
        have Q1 := Lib.hid (row_keeps q1 hbA)
        have Q2 := Lib.hid (row_keeps q2 hbA)
        have HR8 := Lib.hid (rx_below q3 (by omega) hbA)
        have hbG := below_foot hbF (Keeps.of_below hbA) (by omega) (fun j hj => by omega)
        have hz8 : (w7.alloc (.cells #[.int .i64 kd, .int .u64 0, .int .i64 0, (.slice pb pbn pbc), (.slice pl pln plc)] 28)).heap.size = w7.heap.size + 1 := by simp
        clear q1 q2 q3 q4 q5 hL8 hbA HR HL HG HK RC hbE hbF
        go_wp2_with fail
        generalize w7.alloc (.cells #[.int .i64 kd, .int .u64 0, .int .i64 0, (.slice pb pbn pbc), (.slice pl pln plc)] 28) = w8 at *
        refine (refSame_any _ _ ⟨kd, 0, 0, [], []⟩ ⟨kd, 0, 0, [], []⟩ w8 ⟨.slice pb pbn pbc, .slice pl pln plc, rfl, Q1.out, Q2.out⟩ ⟨.slice none 0 0, .slice none 0 0, rfl, row_none _ _, row_none _ _⟩ (by simp) (by simp) (by simp) (by simp)).mono ?_
        rintro e w9 ⟨rfl, hb9⟩
        rw [decide_eq_true (rfl : (⟨kd, 0, 0, [], []⟩ : VV) = ⟨kd, 0, 0, [], []⟩)]
        have HR9 := Lib.hid (rx_below HR8.out (by omega) hb9)
        have hbH := below_foot hbG (Keeps.of_below hb9) (by omega) (fun j hj => by omega)
        clear hb9 HR8 hbG Q1 Q2 e0 e1 e2 e3 e4
        go_wp2_with fail
        refine (devRdEnd_any r b s w9 HR9.out).mono ?_
        rintro e w10 ⟨rfl, rfl⟩
        rw [rEnd_err H3.out]
        go_wp2_with fail
        refine (L.out w9).mono ?_
        rintro e w11 ⟨rfl, hb⟩
        have hbI := below_then hbH hb
        go_wp2_with fail
        go_ret
        exact ⟨rfl, hbI⟩
end Go.Proofs.Ytghilgkkpbhoiaa
