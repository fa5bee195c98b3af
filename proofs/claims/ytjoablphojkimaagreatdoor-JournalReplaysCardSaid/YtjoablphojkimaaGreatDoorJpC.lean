/-
  JournalReplays: numbers written to a journal, read again behind a failure of the power, and added; the walk.
-/
import Derived.Test.YtjoablphojkimaaGreatDoorJpA
import Derived.Test.YtjoablphojkimaaGreatDoorJpB
import Derived.Test.YtjoablphojkimaaGreatDoorDvB
import Derived.Deep.DeepCutAuto
namespace Go.Proofs.YtjoablphojkimaaGreatDoor
open Go.RowKit Go.Shelf
set_option linter.unusedVariables false
set_option maxRecDepth 100000

def encZ (z : Int) : List Nat := varN (txtN z).length ++ txtN z
noncomputable def xsZ (l : List Int) : List (List Nat) := (l.take 6).map encZ
theorem txt_sizeZ (n : Int) : (txtS n).size = (txtN n).length := by rw [← strB_length, strB_txt]
theorem txts_enc (n : Int) : [] ++ (varN (txtS n).size ++ strB (txtS n)) = encZ n := by
  rw [txt_sizeZ, strB_txt]; rfl
theorem txt20 {n : Int} (h : -9223372036854775808 ≤ n ∧ n ≤ 9223372036854775807) : (txtN n).length ≤ 20 := by
  have h1 : n.natAbs < 10 ^ 19 := by have h2 : (10 : Nat) ^ 19 = 10000000000000000000 := by decide
                                     rw [h2]; omega
  exact txtN_len h1 (by decide)
theorem encZ_len {n : Int} (h : -9223372036854775808 ≤ n ∧ n ≤ 9223372036854775807) : (encZ n).length ≤ 30 := by
  have h1 := varN_len10 (n := (txtN n).length) (by have := txt20 h; omega)
  have h2 := txt20 h
  unfold encZ
  rw [List.length_append]
  omega
theorem encZ_lt (n : Int) : ∀ c ∈ encZ n, c < 256 := by
  intro c hc
  rcases List.mem_append.1 hc with h | h
  · exact varN_lt _ c h
  · exact txtN_lt n c h
theorem xsZ_short {l : List Int} (hl : ∀ z ∈ l, -9223372036854775808 ≤ z ∧ z ≤ 9223372036854775807) : Shortz (xsZ l) := by
  refine ⟨by unfold xsZ; rw [List.length_map, List.length_take]; omega, fun x hx => ?_⟩
  obtain ⟨z, hz, rfl⟩ := List.mem_map.1 hx
  exact ⟨encZ_len (hl z (List.mem_of_mem_take hz)), encZ_lt z⟩
theorem xsZ_len (l : List Int) : (xsZ l).length = min 6 l.length := by unfold xsZ; rw [List.length_map, List.length_take]
theorem xsZ_at {l : List Int} {i : Nat} (h : i < (xsZ l).length) (h2 : i < l.length) : (xsZ l)[i] = encZ l[i] := by
  have h6 : i < 6 := by have := xsZ_len l; omega
  have h3 : (xsZ l)[i]? = some (encZ l[i]) := by
    unfold xsZ
    rw [List.getElem?_map, List.getElem?_take_of_lt h6, List.getElem?_eq_getElem h2]
    rfl
  rw [List.getElem?_eq_getElem h] at h3
  injection h3
/-- The sum of the first i numbers. -/
def psum (l : List Int) (i : Nat) : Int := (l.take i).sum
theorem psum_succ {l : List Int} {i : Nat} (h : i < l.length) : psum l (i + 1) = psum l i + l[i] := by
  unfold psum
  rw [List.take_succ_eq_append_getElem h, List.sum_append, List.sum_singleton]
noncomputable def sumsZ (l : List Int) (i : Nat) : List Int := (List.range (i + 1)).map (psum l)
theorem sumsZ_len (l : List Int) (i : Nat) : (sumsZ l i).length = i + 1 := by unfold sumsZ; rw [List.length_map, List.length_range]
theorem sumsZ_at (l : List Int) {i j : Nat} (h : j ≤ i) : (sumsZ l i)[j]? = some (psum l j) := by
  unfold sumsZ
  rw [List.getElem?_map, List.getElem?_range (by omega)]; rfl
theorem sumsZ_succ (l : List Int) (i : Nat) : sumsZ l (i + 1) = sumsZ l i ++ [psum l (i + 1)] := by
  unfold sumsZ
  rw [List.range_succ, List.map_append, List.map_singleton]
theorem psum_abs {l : List Int} (hl : ∀ z ∈ l, -9223372036854775808 ≤ z ∧ z ≤ 9223372036854775807) : ∀ i, (psum l i).natAbs ≤ i * 9223372036854775808
  | 0 => by unfold psum; simp
  | i + 1 => by
    have h := psum_abs hl i
    by_cases hi : i < l.length
    · rw [psum_succ hi]
      have h2 := hl _ (List.getElem_mem hi)
      omega
    · have e : psum l (i + 1) = psum l i := by unfold psum; rw [List.take_of_length_le (by omega), List.take_of_length_le (by omega)]
      have h3 : (psum l (i + 1)).natAbs = (psum l i).natAbs := congrArg Int.natAbs e
      omega
theorem psum_small {l : List Int} (hl : ∀ z ∈ l, -9223372036854775808 ≤ z ∧ z ≤ 9223372036854775807) {i : Nat} (hi : i ≤ 6) : Small (psum l i) := by
  refine small_of (K := 66) (Nat.le_trans (psum_abs hl i) ?_) (by decide)
  exact Nat.le_trans (Nat.mul_le_mul_right _ (show i ≤ 8 by omega)) (by decide)
theorem num_smallZ {n : Int} (h : -9223372036854775808 ≤ n ∧ n ≤ 9223372036854775807) : Small n := by
  have h1 : n.natAbs ≤ 2 ^ 63 := by have h2 : (2 : Nat) ^ 63 = 9223372036854775808 := by decide
                                    rw [h2]; omega
  exact small_of h1 (by decide)
/-- Add, the result in range, its words in new blocks. -/
def AOk (n : Int) (w : World) (e : Ending) (w' : World) : Prop := ∃ b a m k, e = .returned (.tuple #[.agg #[.bool b, .slice a m k], .int .i64 0]) ∧ IAt w' (.agg #[.bool b, .slice a m k]) n ∧ Below w.heap.size w w' ∧ NewV w a m k
theorem add_ok {x y : Value} {a b : Int} {w : World} (hx : IAt w x a) (hy : IAt w y b) (ha : Small a) (hb : Small b) (hs : Small (a + b)) : Calls Tryz.prog 29 #[x, y] w (AOk (a + b) w) := by
  refine (add_new x y a b w hx hy ha.words hb.words).mono ?_
  rintro e w' ⟨b2, a2, m2, k2, c2, rfl, h, hb2, hn⟩
  rcases h with ⟨_, rfl, h⟩ | ⟨h, _⟩
  · exact ⟨b2, a2, m2, k2, rfl, h, hb2, hn⟩
  · exact absurd h hs.notBig
theorem below_cutZ {a b c : World} (h : Below a.heap.size a b) (k : Below b.heap.size b c) : Below a.heap.size a c := h.trans (k.mono h.size)
/-- The disk, the log, the sums. -/
structure JZ (n : Nat) (W : World) (A : Foot) (d lb : Nat) (s : St) (dn : Nat) (up : Bool) (g cap : Nat) (zs : List Int) : Prop where
  dk : Dsk n W A d 20000 s
  lg : Jl W lb d 1 dn up
  la : ¬ A lb
  ln : n ≤ lb
  su : IOwn W (fun k => A k ∨ k = lb) g cap zs
  gn : n ≤ g
section
variable {n : Nat} {W W2 : World} {A A2 : Foot} {d lb dn g cap : Nat} {s : St} {up : Bool} {zs : List Int}
theorem JZ.below (h : JZ n W A d lb s dn up g cap zs) (hb : Below W.heap.size W W2) : JZ n W2 A d lb s dn up g cap zs := ⟨h.dk.below hb, Laid.below h.lg hb, h.la, h.ln, h.su.below hb, h.gn⟩
theorem JZ.hi (h : JZ n W A d lb s dn up g cap zs) : ∀ k, (A k ∨ k = lb) → k < W.heap.size := fun k hk => hk.elim (h.dk.hi k) (fun e => by rw [e]; exact Laid.lt h.lg)
theorem JZ.app (h : JZ n W A d lb s dn up g cap zs) {q : Int × St × Lg} (a : AppIs n W A d 20000 1 lb q W2 A2) : JZ n W2 A2 d lb q.2.1 q.2.2.n q.2.2.up g cap zs :=
  ⟨a.dk, a.lg, a.far, h.ln, h.su.step a.keeps (fun k hk => hk.elim (fun h2 => (a.foot k h2).imp .inl id) (fun e => .inl (.inr e))), h.gn⟩
end
def POk (n : Int) (w : World) (e : Ending) (w' : World) : Prop := ∃ b a m k, e = .returned (.tuple #[.agg #[.bool b, .slice a m k], .int .i64 0]) ∧ IAt w' (.agg #[.bool b, .slice a m k]) n ∧ Below w.heap.size w w'
theorem parse_okZ {n : Int} (hs : Small n) (w : World) : Calls Tryz.prog 18 #[.string (strOfNums (natI (txtN n)))] w (POk n w) := by
  refine (wParse_txt n w hs.text).mono ?_
  rintro e w' ⟨x, c, rfl, h, hb⟩
  rcases h with ⟨_, rfl, h⟩ | ⟨h, _⟩
  · obtain ⟨a, cap, rfl, _⟩ := iat_form h
    exact ⟨_, _, _, _, rfl, h, hb⟩
  · exact absurd h hs.notBig
theorem encZ_read {n : Int} (h : (txtN n).length ≤ 100) : rRaw (encZ n, 0) = (txtN n, ([], 0)) := by
  have := rRaw_round (l := txtN n) (by omega) []
  rw [List.append_nil] at this
  exact this
/-- A number in a new variable, its words in new blocks too. -/
def NewBox (w W : World) (t : Nat) (n : Int) : Prop := ∃ b a m k, Laid W t 29 [.bool b, .slice a m k] ∧ IAt W (.agg #[.bool b, .slice a m k]) n ∧ NewV w a m k
theorem newbox_new {w W : World} {n : Int} {b : Bool} {a : Option Addr} {m k : Nat} (hx : IAt W (.agg #[.bool b, .slice a m k]) n) (hn : NewV w a m k) : NewBox w (W.alloc (.cells #[.bool b, .slice a m k] 29)) W.heap.size n :=
  ⟨b, a, m, k, Laid.new W _ _, iat_keeps hx (below_one _ _), hn⟩
theorem newbox_store {w W : World} {t : Nat} {n : Int} {b : Bool} {a : Option Addr} {m k : Nat} (h0 : IBox W t 0) (hx : IAt W (.agg #[.bool b, .slice a m k]) n) (hn : NewV w a m k) : NewBox w ((W.setCell ⟨t, 0, none⟩ (.bool b)).setCell ⟨t, 1, none⟩ (.slice a m k)) t n := by
  obtain ⟨_, _, _, _, l0, _⟩ := h0
  exact ⟨b, a, m, k, (l0.set 0 _).set 1 _, iat_set (iat_set hx l0 0 _) (l0.set 0 _) 1 _, hn⟩
/-- What an Append has done. -/
structure StepZ (qq : Int × St × Lg) (p : Nat) (xs : List (List Nat)) (i dn dn2 td2 : Nat) (up2 : Bool) : Prop where
  lg : qq.2.2 = ⟨dn2, up2⟩
  dz : DurZ qq.2.1 p xs (i + 1) dn2 td2 up2
  le : dn2 ≤ dn + 1
theorem step_cases {qq : Int × St × Lg} {p : Nat} {xs : List (List Nat)} {i dn td : Nat} {up : Bool} (h : DurZS qq p xs i dn td up) : ∃ dn2 td2 up2, StepZ qq p xs i dn dn2 td2 up2 ∧ ((qq.1 = 0 ∧ dn2 = dn + 1) ∨ (qq.1 = 23 ∧ dn2 = dn)) := by
  rcases h with ⟨_, rfl, c1, g1, dz⟩ | ⟨_, rfl, c1, g1, dz⟩ | ⟨_, h2, c1, g1, dz⟩
  · exact ⟨_, _, _, ⟨g1, dz, Nat.le_refl _⟩, .inl ⟨c1, rfl⟩⟩
  · exact ⟨_, _, _, ⟨g1, dz, Nat.le_succ _⟩, .inr ⟨c1, rfl⟩⟩
  · exact ⟨_, _, _, ⟨g1, dz, Nat.le_succ _⟩, .inr ⟨c1, rfl⟩⟩
theorem durz_td {s : St} {p : Nat} {xs : List (List Nat)} {i dn td : Nat} {up : Bool} (h : DurZ s p xs i dn td up) : td ≤ dn + 1 := by
  rcases h with ⟨_, h, h2, _⟩ | ⟨_, _, h, _⟩ <;> omega
theorem IOwn.na {W : World} {A : Foot} {g cap : Nat} {zs : List Int} (h : IOwn W A g cap zs) : ¬ A g := by
  obtain ⟨_, _, _, _, _, _, h, _⟩ := h
  exact h
theorem JZ.grow {n : Nat} {W W2 : World} {A : Foot} {d lb dn g cap g2 cap2 : Nat} {s : St} {up : Bool} {zs zs2 : List Int} (h : JZ n W A d lb s dn up g cap zs) (ho : Ont g W W2) (hw : IOwn W2 (fun k => A k ∨ k = lb) g2 cap2 zs2) (hg : g2 = g ∨ W.heap.size ≤ g2) (hn : n ≤ W.heap.size) : JZ n W2 A d lb s dn up g2 cap2 zs2 :=
  ⟨h.dk.other ho.keeps (fun k hk e => h.su.na (.inl (e ▸ hk))), Laid.keeps h.lg ho.keeps (fun e => h.su.na (.inr e.symm)), h.la, h.ln, hw, by have := h.gn; omega⟩
theorem wrap_dn {dn : Nat} (h : dn ≤ 6) : wrap64 ((dn : Int) + 1) = ((dn + 1 : Nat) : Int) := by unfold wrap64; omega
theorem durz_dn {s : St} {p : Nat} {xs : List (List Nat)} {i dn td : Nat} {up : Bool} (h : DurZ s p xs i dn td up) : dn ≤ i := by
  rcases h with ⟨_, h, _⟩ | ⟨_, h, _⟩ <;> omega
theorem iown_new {W : World} {A : Foot} {b : Bool} {a : Option Addr} {m c : Nat} {z : Int} (hx : IAt W (.agg #[.bool b, .slice a m c]) z) (hv : FarV A z a m c) (hA : ¬ A W.heap.size) : IOwn (W.alloc (.cells #[.bool b, .slice a m c] 29)) A W.heap.size 1 [z] := by
  refine ⟨[.bool b, .slice a m c], Laid.new W _ _, rfl, Nat.le_refl _, by decide, fun x hx => ?_, hA, fun k y hy => ?_⟩
  · simp only [List.mem_cons, List.not_mem_nil, or_false] at hx
    rcases hx with rfl | rfl
    · exact ni_b _
    · exact ni_s _ _ _
  · have hk : k = 0 := by
      have := (List.getElem?_eq_some_iff.1 hy).1
      simpa using this
    subst hk
    obtain rfl : z = y := by simpa using hy
    exact ⟨b, a, m, c, ⟨rfl, rfl⟩, iat_keeps hx (below_one _ _), hv⟩
theorem farv_new {w : World} {A : Foot} {z : Int} {a : Option Addr} {m c : Nat} (h : NewV w a m c) (hA : ∀ k, A k → k < w.heap.size) : FarV A z a m c := .inr (fun j hj hA2 => by have := h j hj; have := hA j hA2; omega)
theorem numfar_new {w W : World} {A : Foot} {z : Int} {b : Bool} {a : Option Addr} {m c : Nat} (hx : IAt W (.agg #[.bool b, .slice a m c]) z) (h : NewV w a m c) (hA : ∀ k, A k → k < w.heap.size) (hs : w.heap.size ≤ W.heap.size) : NumFar (W.alloc (.cells #[.bool b, .slice a m c] 29)) A W.heap.size z :=
  ⟨b, a, m, c, Laid.new W _ _, iat_keeps hx (below_one _ _), fun hA2 => by have := hA _ hA2; omega, farv_new (z := z) h hA⟩
set_option maxHeartbeats 16000000 in
theorem walk_JournalReplays (vl : Value) (l : List Int) (wh keep : Int) (w : World) (hvl : Row .i64 w vl l) (hlr : ∀ n ∈ l, -9223372036854775808 ≤ n ∧ n ≤ 9223372036854775807) (hwh : -9223372036854775808 ≤ wh ∧ wh ≤ 9223372036854775807) (hkeep : -9223372036854775808 ≤ keep ∧ keep ≤ 9223372036854775807) :
    Calls Tryz.prog 4 #[vl, .int .i64 wh, .int .i64 keep] w fun e w' => e = .returned (.bool true) ∧ Below w.heap.size w w' := by
  have HV := Lib.hid hvl
  have HL := Lib.hid hlr
  have HWH := Lib.hid hwh
  have HKP := Lib.hid hkeep
  have HSH := Lib.hid (xsZ_short hlr)
  obtain ⟨va, vc, rfl, hvc, hvm, -⟩ := hvl
  obtain ⟨on1, on2, on3⟩ := open_new (k := 1) (by decide)
  have HON := Lib.hid (And.intro on1 (And.intro on2 on3))
  clear hlr hwh hkeep on1 on2 on3
  go_enter Tryz.func4, Tryz.ntmps4
  go_wp2_with fail
  refine (fresh06_any 20000 w (by decide)).mono ?_
  rintro e w1 ⟨d, A1, rfl, hd, hb⟩
  have D1 := Lib.hid hd
  have B1 := Lib.hid hb
  clear hd hb
  go_wp2_with fail
  refine (open_any D1.out B1.out.size 1 (by decide)).mono ?_
  rintro e w2 ⟨A2, lv, rv, us2, rfl, ho⟩
  have HN1 : Hid ((pOpen pNew 1).1 = 0) := Lib.hid HON.out.1
  have HN2 : Hid ((pOpen pNew 1).2.2 = []) := Lib.hid HON.out.2.1
  have HN3 : Hid ((pOpen pNew 1).2.1 = stF 1 []) := Lib.hid HON.out.2.2
  rw [HN1.out]
  obtain ⟨lb, rfl, hj, hg1, hg2, hg3, _⟩ := ho.good HN1.out
  have D2 : Hid (Dsk w.heap.size w2 A2 d 20000 (stF 1 [])) := Lib.hid (by rw [← HN3.out]; exact ho.dk)
  have J2 : Hid (Jl w2 lb d 1 0 true) := Lib.hid (by rw [HN2.out] at hj; exact hj)
  have G2 := Lib.hid (And.intro hg3 (Nat.le_trans B1.out.size hg1))
  have B2 := Lib.hid (B1.out.trans ho.below)
  clear ho hj hg1 hg2 hg3 D1 B1 HON HN1 HN2 HN3
  obtain ⟨q, hq, hql⟩ := around_13 wh
  go_wp2_with fail
  refine (around_any wh 13 w2 HWH.out (by decide) (by decide)).mono ?_
  rintro e w0 ⟨rfl, rfl⟩
  rw [show ((13 : Nat) : Int) = 13 from rfl, hq]
  clear hq HWH
  go_wp2_with fail
  refine (armS_any D2.out.dk (q : Int) (by omega)).mono ?_
  rintro e w3 ⟨rfl, hu⟩
  obtain ⟨A3, hd, hk, hf, hb⟩ := D2.out.up hu B2.out.size
  have D3 := Lib.hid hd
  have J3 : Hid (Jl w3 lb d 1 0 true ∧ ¬ A3 lb ∧ w.heap.size ≤ lb) := Lib.hid ⟨Laid.keeps J2.out hk G2.out.1, fun hA => (hf lb hA).elim G2.out.1 (fun h => by have := Laid.lt J2.out; omega), G2.out.2⟩
  have B3 := Lib.hid (B2.out.trans hb)
  have DZ := Lib.hid (durz_start (xsZ l) q)
  clear hu hd hk hf hb D2 J2 G2 B2 hql
  generalize pArm (stF 1 []) (q : Int) = s0 at *
  go_wp2_with fail
  refine (from_new 0 w3 (by decide)).mono ?_
  rintro e w4 ⟨b0, p0, m0, k0, rfl, hx, hb, hnew⟩
  have hbb := below_then hb (below_one w4 (.cells #[.bool b0, .slice p0 m0 k0] 29))
  have hhi : ∀ k, (A3 k ∨ k = lb) → k < w3.heap.size := fun k hk => hk.elim (D3.out.hi k) (fun e => by rw [e]; exact Laid.lt J3.out.1)
  have JS := Lib.hid (JZ.mk (D3.out.below hbb) (Laid.below J3.out.1 hbb) J3.out.2.1 J3.out.2.2 (iown_new hx (farv_new hnew hhi) (fun hA => by have := hhi _ hA; have := hb.size; omega)) (by have := B3.out.size; have := hb.size; omega))
  have B5 := Lib.hid (below_cutZ B3.out hbb)
  clear hx hb hnew hbb hhi D3 J3 B3
  go_wp2_with fail
  generalize w4.alloc (.cells #[.bool b0, .slice p0 m0 k0] 29) = w5 at *
  generalize w4.heap.size = g0 at *
  go_loopw [11, 12, 13] (fun s11 s12 s13 wr => ∃ (i dn td : Nat) (up : Bool) (s : St) (A : Foot) (g cap : Nat), s11 = .slice (some ⟨g, 0, none⟩) (i + 1) cap ∧ s12 = .int .i64 (dn : Int) ∧ s13 = .int .i64 (i : Int) ∧ i ≤ (xsZ l).length ∧ Hid (DurZ s q (xsZ l) i dn td up) ∧ Hid (JZ w.heap.size wr A d lb s dn up g cap (sumsZ l i)) ∧ Hid (Below w.heap.size w wr)) (fun _ _ s13 _ => 7 - (intOf s13).toNat)
  case atStart => exact ⟨0, 0, 0, true, s0, A3, g0, 1, rfl, rfl, rfl, Nat.zero_le _, DZ, JS, B5⟩
  case round =>
    obtain ⟨i, dn, td, up, s, A, g, cap, rfl, rfl, rfl, hi, DZ0, J, B⟩ := hrel
    clear DZ JS B5
    have hxl := xsZ_len l
    by_cases hlt : i < l.length ∧ i < 6
    · obtain ⟨h1, h6⟩ := hlt
      obtain ⟨z, hz, hzr, hze⟩ : ∃ z : Int, (∃ b off, va = some ⟨b, off, none⟩ ∧ ∀ W, Below w.heap.size w W → W.cell? ⟨b, off + i, none⟩ = some (.int .i64 z)) ∧ (-9223372036854775808 ≤ z ∧ z ≤ 9223372036854775807) ∧ l[i] = z := by
        refine ⟨l[i], ?_, HL.out _ (List.getElem_mem h1), rfl⟩
        obtain ⟨a, c0, he, _, _, hne, _⟩ := HV.out
        injection he with he _ _
        subst he
        obtain ⟨b, off, hb, _⟩ := hne (fun h => by rw [h] at h1; exact absurd h1 (Nat.not_lt_zero _))
        refine ⟨b, off, hb, fun W hbw => ?_⟩
        obtain ⟨a, c0, he, _, _, hne, _⟩ := row_keeps HV.out hbw
        injection he with he _ _
        subst he
        obtain ⟨b2, off2, hb2, hc2⟩ := hne (fun h => by rw [h] at h1; exact absurd h1 (Nat.not_lt_zero _))
        rw [hb] at hb2
        injection hb2 with hb2
        injection hb2 with e1 e2
        subst e1 e2
        rw [hc2 i h1, List.getElem?_eq_getElem h1]
        rfl
      obtain ⟨b, off, rfl, hcell⟩ := hz
      have HZR := Lib.hid hzr
      have SZ := Lib.hid (num_smallZ hzr)
      have hix : i < (xsZ l).length := by omega
      have HX : Hid ((xsZ l)[i] = encZ z) := Lib.hid (by rw [xsZ_at hix h1, hze])
      have HPS : Hid (psum l (i + 1) = psum l i + z) := Lib.hid (by rw [psum_succ h1, hze])
      have DS := Lib.hid (durz_step DZ0.out HSH.out hix)
      have E30 := Lib.hid (encZ_len hzr)
      have c0 := hcell wr B.out
      have hi0 : (0 : Int) ≤ (i : Int) := by omega
      have hi1 : (i : Int) < (l.length : Int) := by omega
      have hi6 : (i : Int) < 6 := by omega
      have DZ1 := DZ0
      clear hcell hzr hze hxl DZ0
      go_wp2_with fail
      refine (from_new z wr HZR.out).mono ?_
      rintro e w6 ⟨b0, p0, m0, k0, rfl, hx, hb, hnew⟩
      have hbb := below_then hb (below_one w6 (.cells #[.bool b0, .slice p0 m0 k0] 29))
      have NZ := Lib.hid (numfar_new hx hnew J.out.hi hb.size)
      have J7 := Lib.hid (J.out.below hbb)
      have B7 := Lib.hid (below_cutZ B.out hbb)
      clear hx hb hnew hbb J B c0 HZR
      generalize hw7 : w6.alloc (.cells #[.bool b0, .slice p0 m0 k0] 29) = w7 at *
      generalize ht7 : w6.heap.size = tz at *
      have W8 := Lib.hid (wr_new w7)
      have hb8 := below_one w7 (.cells #[.slice none 0 0] 35)
      have G8 := Lib.hid hb8
      obtain ⟨sZ, aZ, mZ, kZ, ⟨cZ0, cZ1⟩, hZ⟩ := (NZ.out.below hb8).box.open
      have HZ := Lib.hid hZ
      clear hb8 hZ
      go_wp2_with fail
      have hA := HZ.out
      generalize w7.alloc (.cells #[.slice none 0 0] 35) = w8 at *
      obtain ⟨rr, hrr⟩ : ∃ rr, rr = w7.heap.size := ⟨_, rfl⟩
      rw [← hrr] at W8 ⊢
      have HRR := Lib.hid hrr
      have DN1 := Lib.hid (Nat.le_trans (durz_dn DZ1.out) hi)
      clear hrr HZ DZ1
      refine (wString_any _ z w8 hA SZ.out.words).mono ?_
      rintro e w9 ⟨rfl, hb9⟩
      have W9 := Lib.hid (wr_below W8.out hb9)
      have G9 := Lib.hid (below_then G8.out hb9)
      clear hA hb9 W8 G8 cZ0 cZ1
      go_wp2_with fail
      refine (devText_any rr rr [] (txtS z) w9 W9.out (by have := strB_length (txtS z); have h3 := congrArg List.length (txts_enc z); have h4 := E30.out; simp only [List.length_append, List.length_nil] at h3 ⊢; omega)).mono ?_
      rintro e w10 ⟨rfl, g10, hw10, hg10, hk10⟩
      rw [txts_enc] at hw10
      have W10 := Lib.hid hw10
      have G10 := Lib.hid (G9.out.trans (hk10.below G9.out.size (fun k hk => by have := HRR.out; omega)))
      clear hw10 hg10 hk10 W9 G9 HRR
      go_wp2_with fail
      refine (devDone_any rr g10 (encZ z) w10 W10.out (by have := E30.out; omega)).mono ?_
      rintro e w11 ⟨x11, rfl, hx11, hb11⟩
      have J11 := Lib.hid (J7.out.below (G10.out.trans (hb11.mono G10.out.size)))
      have N11 := Lib.hid (NZ.out.below (G10.out.trans (hb11.mono G10.out.size)))
      have B11 := Lib.hid (below_cutZ B7.out (G10.out.trans (hb11.mono G10.out.size)))
      have DS2 : Hid (DurZS (pLog 20000 s 1 ⟨dn, up⟩ (encZ z)) q (xsZ l) i dn td up) := Lib.hid (by rw [← HX.out]; exact DS.out)
      have LA := Lib.hid (logAppend_any J11.out.dk B11.out.size J11.out.lg J11.out.la J11.out.ln (g := ⟨dn, up⟩) (by have := DN1.out; have := HSH.out.1; show dn ≤ 1000000; omega) (row_of_fresh hx11) (encZ_lt z) (fresh_block hx11) (by have := E30.out; omega))
      clear hx11 hb11 W10 G10 J7 NZ B7 DS HX
      generalize pLog 20000 s 1 ⟨dn, up⟩ (encZ z) = qq at *
      go_wp2_with fail
      refine LA.out.mono ?_
      rintro e w12 ⟨rfl, A12, ha⟩
      obtain ⟨dn2, td2, up2, hst, hcs⟩ := step_cases DS2.out
      have ST := Lib.hid hst
      have J12 := Lib.hid (J11.out.app ha)
      rw [hst.lg] at J12
      have N12 := Lib.hid (N11.out.step (A2 := fun k => A12 k ∨ k = lb) ha.keeps (fun k hk => hk.elim (fun h2 => (ha.foot k h2).imp .inl id) (fun e => .inl (.inr e))))
      have B12 := Lib.hid (B11.out.trans ha.below)
      clear hst ha J11 N11 B11 LA DS2
      rcases hcs with ⟨hc, rfl⟩ | ⟨hc, rfl⟩
      · rw [hc]
        clear hc
        go_upto_region 18 with fail
        obtain ⟨sS, aS, mS, kS, ⟨cS0, cS1⟩, hS⟩ := J12.out.su.cells (sumsZ_at l (Nat.le_refl i))
        obtain ⟨sZ, aZ, mZ, kZ, ⟨cZ0, cZ1⟩, hZ⟩ := N12.out.box.open
        have lt1 := J12.out.su.lt
        have lt2 := N12.out.box.lt
        have CELLS : Hid (∀ X : World, Below w12.heap.size w12 X → X.cell? ⟨g, i * 2, none⟩ = some (.bool sS) ∧ X.cell? ⟨g, i * 2 + 1, none⟩ = some (.slice aS mS kS) ∧ X.cell? ⟨tz, 0, none⟩ = some (.bool sZ) ∧ X.cell? ⟨tz, 1, none⟩ = some (.slice aZ mZ kZ)) := Lib.hid (fun X h => ⟨(h.cell (p := ⟨g, i * 2, none⟩) lt1).trans cS0, (h.cell (p := ⟨g, i * 2 + 1, none⟩) lt1).trans cS1, (h.cell (p := ⟨tz, 0, none⟩) lt2).trans cZ0, (h.cell (p := ⟨tz, 1, none⟩) lt2).trans cZ1⟩)
        have ADD : Hid (∀ w', Below w12.heap.size w12 w' → Calls Tryz.prog 29 #[.agg #[.bool sS, .slice aS mS kS], .agg #[.bool sZ, .slice aZ mZ kZ]] w' (AOk (psum l (i + 1)) w')) := Lib.hid (fun w' h => by rw [HPS.out]; exact add_ok (iat_keeps hS h) (iat_keeps hZ h) (psum_small HL.out (by omega)) SZ.out (by rw [← HPS.out]; exact psum_small HL.out (by omega)))
        unfold AOk at ADD
        have HB : Hid (Below w12.heap.size w12 w12.drew) := Lib.hid (Below.refl _ _).drew
        have hs1 : (i : Int) < ((i : Int) + 1) := by omega
        clear hS hZ lt1 lt2 cS0 cS1 cZ0 cZ1
        go_wp2_with fail
        go_cut [16, 17] (fun s16 s17 wx => ∃ t : Nat, s16 = .pointer (some ⟨t, 0, none⟩) ∧ s17 = .int .i64 0 ∧ Hid (NewBox w12 wx t (psum l (i + 1))) ∧ Hid (Below w12.heap.size w12 wx))
        case first =>
          go_region_held3 (fun X : World => X.cell? ⟨g, i * 2, none⟩ = some (.bool sS) ∧ X.cell? ⟨g, i * 2 + 1, none⟩ = some (.slice aS mS kS) ∧ X.cell? ⟨tz, 0, none⟩ = some (.bool sZ) ∧ X.cell? ⟨tz, 1, none⟩ = some (.slice aZ mZ kZ)) (with_reducible first | exact CELLS.out _ HB.out | exact CELLS.out _ HB1.out | exact CELLS.out _ (below_one _ _).drew | exact CELLS.out _ (below_then HB1.out (below_one _ _)) | exact CELLS.out _ (below_setI HB1.out HT.out)) (first
            | (go_at_call 29; (with_reducible refine (ADD.out _ HB.out).mono ?_); rintro e w13 ⟨b9, a9, m9, k9, rfl, hy9, hb9, hn9⟩; have HY := Lib.hid hy9; have HN9 := Lib.hid (hn9.back (w := w12) (Nat.le_refl _)); have HB1 := Lib.hid (below_then HB.out hb9); clear hy9 hb9 hn9 HB)
            | (go_at_call 29; (with_reducible refine (ADD.out _ (below_one _ _).drew).mono ?_); rintro e w13 ⟨b9, a9, m9, k9, rfl, hy9, hb9, hn9⟩; have HY := Lib.hid hy9; have HN9 := Lib.hid (hn9.back (w := w12) (below_one w12 (.cells #[.bool false, .slice none 0 0] 29)).size); have TZ := Lib.hid (((IBox.new (iat_zero w12)).below (Below.refl _ _).drew).below hb9); have HT := Lib.hid (Nat.le_refl w12.heap.size); have HB1 := Lib.hid (below_then (below_one _ _).drew hb9); obtain ⟨_, _, _, _, LZ, _⟩ := TZ.out; obtain ⟨z0, z1, z2, z3⟩ := cells2 LZ; clear LZ hy9 hb9 hn9 HB))
          all_goals
            go_wp2_with fail
            go_meet
            first
              | exact ⟨_, rfl, rfl, Lib.hid (newbox_new HY.out HN9.out), Lib.hid (below_then HB1.out (below_one _ _))⟩
              | exact ⟨_, rfl, rfl, Lib.hid (newbox_store TZ.out HY.out HN9.out), Lib.hid (below_setI HB1.out HT.out)⟩
        obtain ⟨t16, rfl, rfl, TB, BX⟩ := hcut
        clear CELLS ADD HB hs1
        obtain ⟨b9, a9, m9, k9, hl9, hx9, hn9⟩ := TB.out
        have J13 := Lib.hid (J12.out.below (BX.out.trans ((below_one wc (.cells #[.bool b9, .slice a9 m9 k9] 29)).mono BX.out.size)))
        have B13 := Lib.hid (below_cutZ B12.out (BX.out.trans ((below_one wc (.cells #[.bool b9, .slice a9 m9 k9] 29)).mono BX.out.size)))
        have HX9 := Lib.hid (iat_keeps hx9 (below_one wc (.cells #[.bool b9, .slice a9 m9 k9] 29)))
        have HF9 : Hid (FarV (fun k => A12 k ∨ k = lb) (psum l (i + 1)) a9 m9 k9) := Lib.hid (farv_new hn9 J12.out.hi)
        obtain ⟨d0, d1, _, _⟩ := cells2 hl9
        obtain ⟨e0, e1, _, _⟩ := cells2 (Laid.new wc 29 [.bool b9, .slice a9 m9 k9])
        have hln := sumsZ_len l i
        have HSU := J13.out.su
        rw [← hln]
        clear hl9 hx9 hn9 TB BX J12 B12 N12
        go_wp2_with (refine wpList_append_wint (o := ⟨some 87, _, _, _, _, _⟩) (z := psum l (i + 1)) rfl (.tmp 84) (.tmp 86) rfl rfl rfl HSU J13.out.hi (by rw [hln]; omega) e0 e1 HX9.out HF9.out ?_; intro g2 cap2 w14 hown hont hg2)
        rw [← sumsZ_succ] at hown
        have J14 := Lib.hid (J13.out.grow hont hown hg2 B13.out.size)
        have B14 := Lib.hid (B13.out.trans (hont.keeps.below B13.out.size (fun k hk => by rw [hk]; exact J13.out.gn)))
        clear hown hont hg2 J13 B13 HSU e0 e1 d0 d1 HX9 HF9
        go_roundw
        case rel => exact ⟨i + 1, dn + 1, td2, up2, qq.2.1, A12, g2, cap2, rfl, congrArg (Value.int .i64) (wrap_dn (by have := DN1.out; have := HSH.out.1; omega)), by go_num, hix, Lib.hid ST.out.dz, J14, B14⟩
        case measure => simp [intOf]; omega
      · rw [hc]
        clear hc
        go_upto_region 18 with fail
        obtain ⟨sS, aS, mS, kS, ⟨cS0, cS1⟩, hS⟩ := J12.out.su.cells (sumsZ_at l (Nat.le_refl i))
        obtain ⟨sZ, aZ, mZ, kZ, ⟨cZ0, cZ1⟩, hZ⟩ := N12.out.box.open
        have lt1 := J12.out.su.lt
        have lt2 := N12.out.box.lt
        have CELLS : Hid (∀ X : World, Below w12.heap.size w12 X → X.cell? ⟨g, i * 2, none⟩ = some (.bool sS) ∧ X.cell? ⟨g, i * 2 + 1, none⟩ = some (.slice aS mS kS) ∧ X.cell? ⟨tz, 0, none⟩ = some (.bool sZ) ∧ X.cell? ⟨tz, 1, none⟩ = some (.slice aZ mZ kZ)) := Lib.hid (fun X h => ⟨(h.cell (p := ⟨g, i * 2, none⟩) lt1).trans cS0, (h.cell (p := ⟨g, i * 2 + 1, none⟩) lt1).trans cS1, (h.cell (p := ⟨tz, 0, none⟩) lt2).trans cZ0, (h.cell (p := ⟨tz, 1, none⟩) lt2).trans cZ1⟩)
        have ADD : Hid (∀ w', Below w12.heap.size w12 w' → Calls Tryz.prog 29 #[.agg #[.bool sS, .slice aS mS kS], .agg #[.bool sZ, .slice aZ mZ kZ]] w' (AOk (psum l (i + 1)) w')) := Lib.hid (fun w' h => by rw [HPS.out]; exact add_ok (iat_keeps hS h) (iat_keeps hZ h) (psum_small HL.out (by omega)) SZ.out (by rw [← HPS.out]; exact psum_small HL.out (by omega)))
        unfold AOk at ADD
        have HB : Hid (Below w12.heap.size w12 w12.drew) := Lib.hid (Below.refl _ _).drew
        have hs1 : (i : Int) < ((i : Int) + 1) := by omega
        clear hS hZ lt1 lt2 cS0 cS1 cZ0 cZ1
        go_wp2_with fail
        go_cut [16, 17] (fun s16 s17 wx => ∃ t : Nat, s16 = .pointer (some ⟨t, 0, none⟩) ∧ s17 = .int .i64 0 ∧ Hid (NewBox w12 wx t (psum l (i + 1))) ∧ Hid (Below w12.heap.size w12 wx))
        case first =>
          go_region_held3 (fun X : World => X.cell? ⟨g, i * 2, none⟩ = some (.bool sS) ∧ X.cell? ⟨g, i * 2 + 1, none⟩ = some (.slice aS mS kS) ∧ X.cell? ⟨tz, 0, none⟩ = some (.bool sZ) ∧ X.cell? ⟨tz, 1, none⟩ = some (.slice aZ mZ kZ)) (with_reducible first | exact CELLS.out _ HB.out | exact CELLS.out _ HB1.out | exact CELLS.out _ (below_one _ _).drew | exact CELLS.out _ (below_then HB1.out (below_one _ _)) | exact CELLS.out _ (below_setI HB1.out HT.out)) (first
            | (go_at_call 29; (with_reducible refine (ADD.out _ HB.out).mono ?_); rintro e w13 ⟨b9, a9, m9, k9, rfl, hy9, hb9, hn9⟩; have HY := Lib.hid hy9; have HN9 := Lib.hid (hn9.back (w := w12) (Nat.le_refl _)); have HB1 := Lib.hid (below_then HB.out hb9); clear hy9 hb9 hn9 HB)
            | (go_at_call 29; (with_reducible refine (ADD.out _ (below_one _ _).drew).mono ?_); rintro e w13 ⟨b9, a9, m9, k9, rfl, hy9, hb9, hn9⟩; have HY := Lib.hid hy9; have HN9 := Lib.hid (hn9.back (w := w12) (below_one w12 (.cells #[.bool false, .slice none 0 0] 29)).size); have TZ := Lib.hid (((IBox.new (iat_zero w12)).below (Below.refl _ _).drew).below hb9); have HT := Lib.hid (Nat.le_refl w12.heap.size); have HB1 := Lib.hid (below_then (below_one _ _).drew hb9); obtain ⟨_, _, _, _, LZ, _⟩ := TZ.out; obtain ⟨z0, z1, z2, z3⟩ := cells2 LZ; clear LZ hy9 hb9 hn9 HB))
          all_goals
            go_wp2_with fail
            go_meet
            first
              | exact ⟨_, rfl, rfl, Lib.hid (newbox_new HY.out HN9.out), Lib.hid (below_then HB1.out (below_one _ _))⟩
              | exact ⟨_, rfl, rfl, Lib.hid (newbox_store TZ.out HY.out HN9.out), Lib.hid (below_setI HB1.out HT.out)⟩
        obtain ⟨t16, rfl, rfl, TB, BX⟩ := hcut
        clear CELLS ADD HB hs1
        obtain ⟨b9, a9, m9, k9, hl9, hx9, hn9⟩ := TB.out
        have J13 := Lib.hid (J12.out.below (BX.out.trans ((below_one wc (.cells #[.bool b9, .slice a9 m9 k9] 29)).mono BX.out.size)))
        have B13 := Lib.hid (below_cutZ B12.out (BX.out.trans ((below_one wc (.cells #[.bool b9, .slice a9 m9 k9] 29)).mono BX.out.size)))
        have HX9 := Lib.hid (iat_keeps hx9 (below_one wc (.cells #[.bool b9, .slice a9 m9 k9] 29)))
        have HF9 : Hid (FarV (fun k => A12 k ∨ k = lb) (psum l (i + 1)) a9 m9 k9) := Lib.hid (farv_new hn9 J12.out.hi)
        obtain ⟨d0, d1, _, _⟩ := cells2 hl9
        obtain ⟨e0, e1, _, _⟩ := cells2 (Laid.new wc 29 [.bool b9, .slice a9 m9 k9])
        have hln := sumsZ_len l i
        have HSU := J13.out.su
        rw [← hln]
        clear hl9 hx9 hn9 TB BX J12 B12 N12
        go_wp2_with (refine wpList_append_wint (o := ⟨some 87, _, _, _, _, _⟩) (z := psum l (i + 1)) rfl (.tmp 84) (.tmp 86) rfl rfl rfl HSU J13.out.hi (by rw [hln]; omega) e0 e1 HX9.out HF9.out ?_; intro g2 cap2 w14 hown hont hg2)
        rw [← sumsZ_succ] at hown
        have J14 := Lib.hid (J13.out.grow hont hown hg2 B13.out.size)
        have B14 := Lib.hid (B13.out.trans (hont.keeps.below B13.out.size (fun k hk => by rw [hk]; exact J13.out.gn)))
        clear hown hont hg2 J13 B13 HSU e0 e1 d0 d1 HX9 HF9
        go_roundw
        case rel => exact ⟨i + 1, _, td2, up2, qq.2.1, A12, g2, cap2, rfl, rfl, by go_num, hix, Lib.hid ST.out.dz, J14, B14⟩
        case measure => simp [intOf]; omega
    · have he : i = (xsZ l).length := by omega
      obtain ⟨_, c, hde⟩ := durz_end (s := s) (p := q) (dn := dn) (td := td) (up := up) (by rw [← he]; exact DZ0.out) HSH.out keep
      have DE := Lib.hid hde
      have TD := Lib.hid (durz_td DZ0.out)
      have hil : i ≤ 6 := by have := HSH.out.1; omega
      have hba := below_one wr (.cells #[.int .i64 keep] 3)
      have J10 := Lib.hid (J.out.below hba)
      have B10 := Lib.hid (below_cutZ B.out hba)
      have R10 : Hid (Row .i64 (wr.alloc (.cells #[.int .i64 keep] 3)) (.slice (some ⟨wr.heap.size, 0, none⟩) 1 1) [keep]) := Lib.hid (row_of_fresh (fresh_lit wr 0 3 .i64 [keep] (Nat.zero_le _) (by simp)))
      have N10 : Hid (¬ A wr.heap.size) := Lib.hid (fun h => by have := J.out.dk.hi _ h; omega)
      have hx1 : l.length ≤ i ∨ (i < l.length ∧ 6 ≤ i) := by omega
      have HE := Lib.hid he
      clear hba J B hde DZ0 hxl hlt he
      go_upto_region 11 with fail
      go_cut [56] (fun s56 wx => s56 = .bool false ∧ wr = wx)
      case first =>
        rcases hx1 with h1 | ⟨h1, h2⟩
        · have h3 : ¬ ((i : Int) < (l.length : Int)) := by omega
          go_wp2_with fail
          go_meet
          case rel => exact ⟨rfl, rfl⟩
        · have h3 : (i : Int) < (l.length : Int) := by omega
          have h4 : ¬ ((i : Int) < 6) := by omega
          go_wp2_with fail
          go_meet
          case rel => exact ⟨rfl, rfl⟩
      obtain ⟨rfl, rfl⟩ := hcut
      clear hx1
      go_wp2_with fail
      refine (crashS_any J10.out.dk.dk _ [keep] (-1) R10.out (fun j hj hA => N10.out ((show j = wr.heap.size from hj) ▸ hA)) (fun y hy => by rw [List.mem_singleton.1 hy]; exact HKP.out) (by decide) (by simp)).mono ?_
      rintro e w11 ⟨rfl, hu⟩
      obtain ⟨A11, hd, hk, hf, hb⟩ := J10.out.dk.up hu B10.out.size
      have D11 := Lib.hid hd
      have S11 := Lib.hid (J10.out.su.step (A2 := fun k => A11 k ∨ k = lb) (hk.mono (fun k _ h => .inl h)) (fun k hk2 => hk2.elim (fun h => (hf k h).imp .inl id) (fun e => .inl (.inr e))))
      have B11 := Lib.hid (B10.out.trans hb)
      clear hu hd hk hf hb J10 B10 R10 N10
      go_wp2_with fail
      refine (open_any D11.out B11.out.size 1 (by decide)).mono ?_
      rintro e w12 ⟨A12, lv2, gv, us, rfl, ho⟩
      have OW : Hid (LOwn w11.heap.size w12 gv us ((xsZ l).take c)) := Lib.hid (by rw [← DE.out.2.2.2.2.1]; exact ho.own)
      have S12 := Lib.hid (S11.out.step (A2 := fun k => A12 k ∨ k = lb) (ho.keeps.mono (fun k _ h => .inl h)) (fun k hk2 => hk2.elim (fun h => (ho.foot k h).imp .inl id) (fun e => .inl (.inr e))))
      have B12 := Lib.hid (B11.out.trans ho.below)
      rw [DE.out.2.2.2.1]
      have hcl : us.length = c := by have h1 := OW.out.len; have h2 := DE.out.2.2.1; rw [List.length_take] at h1; omega
      obtain ⟨ua, uc, rfl⟩ : ∃ ua uc, gv = .slice ua us.length uc := by
        rcases OW.out.own.2 with ⟨h1, h2⟩ | ⟨g1, cap1, cur, h1, _⟩
        · exact ⟨none, 0, by rw [h1, h2]⟩
        · exact ⟨_, cap1, h1⟩
      have HCL := Lib.hid hcl
      have HCX : Hid (c ≤ (xsZ l).length) := Lib.hid DE.out.2.2.1
      have q1 : dn ≤ c := DE.out.1
      have q2 : c ≤ dn + 1 := Nat.le_trans DE.out.2.1 TD.out
      have q3 : c < i + 1 := by have := DE.out.2.2.1; have := HE.out; omega
      have w1 : ¬ ((c : Int) < (dn : Int)) := by omega
      have w2 : ¬ ((dn : Int) + 1 < (c : Int)) := by omega
      have w3 : ¬ ((i : Int) + 1 ≤ (c : Int)) := by omega
      have w4 : IntKind.i64.wrap ((dn : Int) + 1) = (dn : Int) + 1 := by rw [wrap_i64]; unfold wrap64; omega
      rw [hcl]
      clear ho D11 S11 B11 DE TD hcl
      go_wp2_with fail
      refine (wFrom_any 0 w12 (by decide)).mono ?_
      rintro e w13 ⟨b0, p0, m0, k0, rfl, hx, hb⟩
      have OW13 := Lib.hid (lown_below OW.out hb)
      have S13 := Lib.hid (S12.out.below hb)
      have B13 := Lib.hid (below_cutZ B12.out hb)
      have TT : Hid (IBox (w13.alloc (.cells #[.bool b0, .slice p0 m0 k0] 29)) w13.heap.size (psum l 0)) := Lib.hid (by have := IBox.new hx; unfold psum; simpa using this)
      have Z13 := Lib.hid (below_one w13 (.cells #[.bool b0, .slice p0 m0 k0] 29))
      clear hx hb OW S12 B12 w1 w2 w3 w4
      go_wp2_with fail
      generalize w13.alloc (.cells #[.bool b0, .slice p0 m0 k0] 29) = w14 at *
      obtain ⟨t21, ht21⟩ : ∃ t, t = w13.heap.size := ⟨_, rfl⟩
      rw [← ht21] at TT ⊢
      have HT21 := Lib.hid ht21
      clear ht21
      go_loopw [22] (fun s22 wr => ∃ j : Nat, s22 = .int .i64 (j : Int) ∧ j ≤ c ∧ Hid (IBox wr t21 (psum l j)) ∧ Hid (Below w13.heap.size w13 wr)) (fun s22 _ => c - (intOf s22).toNat)
      case atStart => exact ⟨0, rfl, Nat.zero_le _, TT, Z13⟩
      case round =>
        obtain ⟨j, rfl, hjc, TJ, Z⟩ := hrel
        clear TT Z13
        by_cases hj : j < c
        · have OJ := Lib.hid (lown_below OW13.out Z.out)
          have hju : j < us.length := by have := HCL.out; omega
          have hjx : j < ((xsZ l).take c).length := by have := OJ.out.len; omega
          have hrow := OJ.out.row j hju hjx
          have hxl := xsZ_len l
          have hjl : j < l.length := by have := HCX.out; omega
          have hj7 : j < (xsZ l).length := by have := HCX.out; omega
          rw [show ((xsZ l).take c)[j] = encZ l[j] by rw [List.getElem_take]; exact xsZ_at hj7 hjl] at hrow
          obtain ⟨gr, hgr⟩ : ∃ gr, ua = some ⟨gr, 0, none⟩ := by
            rcases OJ.out.own.2 with ⟨_, h0⟩ | ⟨g1, cap1, cur, h1, _⟩
            · omega
            · injection h1 with h1; exact ⟨g1, h1⟩
          have hcell := World.ownsRow.cells OJ.out.own (g := gr) (by rw [hgr]; rfl) j us[j] (List.getElem?_eq_getElem hju)
          rw [add_none, Nat.zero_add] at hcell
          have HZR := HL.out _ (List.getElem_mem hjl)
          have HPS : Hid (psum l (j + 1) = psum l j + l[j]) := Lib.hid (psum_succ hjl)
          generalize l[j] = z at *
          generalize us[j] = u at *
          obtain ⟨xa, xc, rfl, _⟩ := id hrow
          have HRW := Lib.hid hrow
          have SZ := Lib.hid (num_smallZ HZR)
          have T20 := Lib.hid (txt20 HZR)
          have E30 := Lib.hid (encZ_len HZR)
          have RR := Lib.hid (encZ_read (n := z) (by have := txt20 HZR; omega))
          have E8 := Lib.hid (encZ_lt z)
          rw [natI_length] at HRW hcell
          have hj0 : (0 : Int) ≤ (j : Int) := by omega
          have hj1 : (j : Int) < (c : Int) := by omega
          subst hgr
          clear hrow hxl hjl hj7 HZR hju hjx OJ
          go_wp2_with fail
          refine (devRead_any _ (encZ z) wr HRW.out E8.out (by have := E30.out; omega)).mono ?_
          rintro e w18 ⟨r, b, rfl, hrw, hr1, hb1, hb2, hb⟩
          have RX18 := Lib.hid (rx_of hrw)
          have RB : Hid (wr.heap.size ≤ r ∧ wr.heap.size ≤ b) := Lib.hid ⟨hr1, hb1⟩
          have RB18 := Lib.hid hb2
          have G18 := Lib.hid hb
          clear hrw hr1 hb1 hb2 hb HRW hcell
          go_wp2_with fail
          refine (devRdText_any r b (encZ z, 0) w18 RX18.out E8.out RB18.out).mono ?_
          rw [RR.out]
          rintro e w19 ⟨rfl, hrx, hk⟩
          have RX19 := Lib.hid hrx
          have RB19 := Lib.hid (Nat.lt_of_lt_of_le RB18.out hk.size)
          have G19 := Lib.hid (G18.out.trans (hk.below G18.out.size (fun k hk => by have := RB.out; omega)))
          clear hrx hk RX18 RB18 G18
          go_wp2_with fail
          refine (parse_okZ SZ.out w19).mono ?_
          rintro e w20 ⟨b0, p0, m0, k0, rfl, hx, hb⟩
          have hbb := below_then hb (below_one w20 (.cells #[.bool b0, .slice p0 m0 k0] 29))
          have RX20 := Lib.hid (rx_below RX19.out RB19.out hbb)
          have G20 := Lib.hid (G19.out.trans (hbb.mono G19.out.size))
          have TN := Lib.hid (IBox.new hx)
          clear hx hb hbb RX19 RB19 G19
          go_wp2_with fail
          refine (devRdEnd_any r b ([], 0) _ RX20.out).mono ?_
          rintro e w21 ⟨rfl, rfl⟩
          rw [show ((rEnd ([], 0) : Nat) : Int) = 0 from rfl]
          have TJ21 := Lib.hid (TJ.out.below G20.out)
          have Z21 := Lib.hid (Z.out.trans (G20.out.mono Z.out.size))
          obtain ⟨sT, aT, mT, kT, ⟨cT0, cT1⟩, hT⟩ := TJ21.out.open
          obtain ⟨sN, aN, mN, kN, ⟨cN0, cN1⟩, hN⟩ := TN.out.open
          have AD := Lib.hid (add_ok hT hN (psum_small HL.out (by have := HCX.out; have := HSH.out.1; omega)) SZ.out (by rw [← HPS.out]; exact psum_small HL.out (by have := HCX.out; have := HSH.out.1; omega)))
          rw [← HPS.out] at AD
          clear hT hN TJ Z RX20 G20 RB RR T20 E30 E8 HPS
          go_wp2_with fail
          refine AD.out.mono ?_
          rintro e w22 ⟨b9, a9, m9, k9, rfl, hx9, hb9, -⟩
          have hbb := below_then hb9 (below_one w22 (.cells #[.bool b9, .slice a9 m9 k9] 29))
          have TJ23 := Lib.hid (TJ21.out.below hbb)
          have Z23 := Lib.hid (Z21.out.trans (hbb.mono Z21.out.size))
          have HX23 := Lib.hid (iat_keeps hx9 (below_one w22 (.cells #[.bool b9, .slice a9 m9 k9] 29)))
          obtain ⟨e0, e1, _, _⟩ := cells2 (Laid.new w22 29 [.bool b9, .slice a9 m9 k9])
          obtain ⟨_, _, _, _, LZ, _⟩ := TJ23.out
          obtain ⟨z0, z1, z2, z3⟩ := cells2 LZ
          clear hx9 hb9 hbb LZ AD TJ21 Z21 TN cT0 cT1 cN0 cN1
          go_wp2_with fail
          generalize w22.alloc (.cells #[.bool b9, .slice a9 m9 k9] 29) = w23 at *
          go_roundw
          case rel => exact ⟨j + 1, by go_num, by omega, Lib.hid (TJ23.out.store HX23.out), Lib.hid (below_setI Z23.out (by have := HT21.out; omega))⟩
          case measure => simp [intOf]; omega
        · obtain rfl : j = c := by omega
          obtain ⟨sT, aT, mT, kT, ⟨cT0, cT1⟩, hT⟩ := TJ.out.open
          obtain ⟨sS, aS, mS, kS, ⟨cS0, cS1⟩, hS⟩ := (S13.out.below Z.out).cells (sumsZ_at l (show j ≤ i by omega))
          have lt1 := TJ.out.lt
          have lt2 := (S13.out.below Z.out).lt
          have CELLS : Hid (∀ X : World, Below wr.heap.size wr X → X.cell? ⟨t21, 0, none⟩ = some (.bool sT) ∧ X.cell? ⟨t21, 1, none⟩ = some (.slice aT mT kT) ∧ X.cell? ⟨g, j * 2, none⟩ = some (.bool sS) ∧ X.cell? ⟨g, j * 2 + 1, none⟩ = some (.slice aS mS kS)) := Lib.hid (fun X h => ⟨(h.cell (p := ⟨t21, 0, none⟩) lt1).trans cT0, (h.cell (p := ⟨t21, 1, none⟩) lt1).trans cT1, (h.cell (p := ⟨g, j * 2, none⟩) lt2).trans cS0, (h.cell (p := ⟨g, j * 2 + 1, none⟩) lt2).trans cS1⟩)
          have SP := Lib.hid (psum_small HL.out (show j ≤ 6 by have := HCX.out; have := HSH.out.1; omega))
          have CMP : Hid (∀ W, Below wr.heap.size wr W → Calls Tryz.prog 20 #[.agg #[.bool sT, .slice aT mT kT], .agg #[.bool sS, .slice aS mS kS]] W (CmpEnd 0 W)) := Lib.hid (fun W h => by
            have := wCompare_any _ _ _ _ W (iat_keeps hT h) (iat_keeps hS h) SP.out.words SP.out.words
            rw [cmp_same] at this
            exact this)
          unfold CmpEnd at CMP
          have HB : Hid (Below wr.heap.size wr wr.drew) := Lib.hid (Below.refl _ _).drew
          have BZ := Lib.hid (below_cutZ B13.out Z.out)
          have hj0 : (0 : Int) ≤ (j : Int) := by omega
          have hj1 : (j : Int) < (i : Int) + 1 := by omega
          clear hT hS lt1 lt2 cT0 cT1 cS0 cS1
          go_wp2_with fail
          go_region_held3 (fun X : World => X.cell? ⟨t21, 0, none⟩ = some (.bool sT) ∧ X.cell? ⟨t21, 1, none⟩ = some (.slice aT mT kT) ∧ X.cell? ⟨g, j * 2, none⟩ = some (.bool sS) ∧ X.cell? ⟨g, j * 2 + 1, none⟩ = some (.slice aS mS kS)) (with_reducible first | exact CELLS.out _ HB.out | exact CELLS.out _ HB1.out | exact CELLS.out _ HB2.out) (first
            | (go_at_call 20; (with_reducible refine (CMP.out _ HB.out).mono ?_); rintro e w30 ⟨rfl, hb⟩; have HB1 := Lib.hid (below_then HB.out hb); clear hb HB)
            | (go_at_call 30; refine (lives6_any _).mono ?_; rintro e w31 ⟨rfl, hb⟩; have HB2 := Lib.hid (below_then HB1.out hb); clear hb HB1))
          all_goals
            go_wp2_with fail
            go_ret
            exact ⟨rfl, below_cutZ BZ.out HB2.out⟩
end Go.Proofs.YtjoablphojkimaaGreatDoor
