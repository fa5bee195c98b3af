/-
  DiskNumbers: the walk.
-/
import Derived.Test.YtjoablphojkimaaGreatDoorDnB
import Derived.Test.YtjoablphojkimaaGreatDoorDvB
import Derived.Deep.DeepCutAuto
namespace Go.Proofs.YtjoablphojkimaaGreatDoor
open Go.RowKit Go.Shelf
set_option linter.unusedVariables false
set_option maxRecDepth 100000

def IOk (n : Int) (w : World) (e : Ending) (w' : World) : Prop := ∃ b a m k, e = .returned (.tuple #[.agg #[.bool b, .slice a m k], .int .i64 0]) ∧ IAt w' (.agg #[.bool b, .slice a m k]) n ∧ Below w.heap.size w w'
theorem rend_ok {n : Int} {w w' : World} {e : Ending} (h : REndW n w e w') (hs : ¬ big n) : IOk n w e w' := by
  obtain ⟨x, c, rfl, h, hb⟩ := h
  rcases h with ⟨_, rfl, h⟩ | ⟨h, _⟩
  · obtain ⟨a, cap, rfl, _⟩ := iat_form h
    exact ⟨_, _, _, _, rfl, h, hb⟩
  · exact absurd h hs
theorem mul_ok {x y : Value} {a b : Int} {w : World} (hx : IAt w x a) (hy : IAt w y b) (ha : Small a) (hb : Small b) (hs : Small (a * b)) : Calls Tryz.prog 7 #[x, y] w (IOk (a * b) w) :=
  (wMul_any x y a b w hx hy ha.words hb.words).mono fun _ _ h => rend_ok h hs.notBig
theorem parse_ok {n : Int} (hs : Small n) (w : World) : Calls Tryz.prog 18 #[.string (strOfNums (natI (txtN n)))] w (IOk n w) :=
  (wParse_txt n w hs.text).mono fun _ _ h => rend_ok h hs.notBig
theorem around_M (n : Int) (m : Nat) (hm : 0 < m) : ∃ q : Nat, aroundI n (m : Int) = (q : Int) ∧ q < m := by
  have h1 := Int.emod_nonneg (if n < 0 then -(n + 1) else n) (show (m : Int) ≠ 0 by omega)
  have h2 := Int.emod_lt_of_pos (if n < 0 then -(n + 1) else n) (show (0 : Int) < (m : Int) by omega)
  unfold aroundI
  exact ⟨((if n < 0 then -(n + 1) else n) % (m : Int)).toNat, by omega, by omega⟩
theorem txt_size (n : Int) : (txtS n).size = (txtN n).length := by rw [← strB_length, strB_txt]
theorem txts_all (n p : Int) : ([] ++ (varN (txtS n).size ++ strB (txtS n))) ++ (varN (txtS p).size ++ strB (txtS p)) = allN (txtN n) (txtN p) := by
  rw [txt_size, txt_size, strB_txt, strB_txt]; rfl
theorem allN_lt (n p : Int) : ∀ c ∈ allN (txtN n) (txtN p), c < 256 := by
  unfold allN
  intro c hc
  simp only [List.mem_append, List.nil_append] at hc
  rcases hc with (h | h) | (h | h)
  · exact varN_lt _ c h
  · exact txtN_lt n c h
  · exact varN_lt _ c h
  · exact txtN_lt p c h
theorem allN_pos (x y : List Nat) : 1 ≤ (allN x y).length := by
  have h := varN_pos x.length
  unfold allN
  simp only [List.length_append, List.length_nil]
  omega
/-- What the numbers are. -/
structure QuoIs (n m P : Int) : Prop where
  prod : n * m = P
  q : m ≠ 0 → P / m = n
  r : m ≠ 0 → P % m = 0
theorem quo_is (n m : Int) : QuoIs n m (n * m) := ⟨rfl, fun h => Int.mul_ediv_cancel n h, fun h => Int.mul_emod_left n m⟩
/-- What Div returns of them: its error, the quotient, the rest. -/
structure DivIs (m n c q r : Int) : Prop where
  ok : m ≠ 0 → c = 0 ∧ q = n ∧ r = 0
def DivX (c q r : Int) (w : World) (e : Ending) (w' : World) : Prop :=
  ∃ bq aq mq kq br ar mr kr, e = .returned (.tuple #[.agg #[.bool bq, .slice aq mq kq], .agg #[.bool br, .slice ar mr kr], .int .i64 c]) ∧ IAt w' (.agg #[.bool bq, .slice aq mq kq]) q ∧ IAt w' (.agg #[.bool br, .slice ar mr kr]) r ∧ Below w.heap.size w w'
theorem div_all {n m P : Int} (hq : QuoIs n m P) (hP : Small P) (hm : Small m) : ∃ c q r, DivIs m n c q r ∧ ∀ x y w, IAt w x P → IAt w y m → Calls Tryz.prog 22 #[x, y] w (DivX c q r w) := by
  by_cases h : m = 0
  · subst h
    exact ⟨1, 0, 0, ⟨fun h => absurd rfl h⟩, fun x y w hx hy => wDiv_zero x y P w hx hy⟩
  · exact ⟨0, P / m, P % m, ⟨fun _ => ⟨rfl, hq.q h, hq.r h⟩⟩, fun x y w hx hy => wDiv_any x y P m w hx hy hP.words hm.words h⟩
/-- The bytes that were written. -/
structure BytesIs (n P : Int) (L : List Nat) : Prop where
  lt : ∀ c ∈ L, c < 256
  len : L.length ≤ 300
  pos : 1 ≤ L.length
  eq : L = allN (txtN n) (txtN P)
theorem row_dropC {W : World} {b off cap n m : Nat} {k : IntKind} {l : List Int} (h : Row k W (.slice (some ⟨b, off, none⟩) n cap) l) (hm : m ≤ n) {off2 n2 c2 : Nat} (hn2 : n2 = n - m) (hoc : (c2 = cap - m ∧ off2 = off + m) ∨ (cap = m ∧ c2 = 0 ∧ off2 = off)) :
    Row k W (.slice (some ⟨b, off2, none⟩) n2 c2) (l.drop m) := by
  obtain ⟨a', cap', e1, h2, h3, h4, h5⟩ := h
  injection e1 with e1 e2 e3
  subst e1 e2 e3 hn2
  have hl : (l.drop m).length = l.length - m := List.length_drop
  rcases hoc with ⟨rfl, rfl⟩ | ⟨h6, rfl, rfl⟩
  · refine ⟨_, cap - m, by rw [hl], by rw [hl]; omega, by omega, fun hne => ⟨b, off + m, rfl, fun j hj => ?_⟩, fun h => by cases h⟩
    obtain ⟨b', off', e4, hc⟩ := h4 (fun h => by rw [h] at hne; simp at hne)
    cases e4
    rw [hl] at hj
    have := hc (m + j) (by omega)
    rw [← Nat.add_assoc] at this
    rw [this, List.getElem?_drop]
  · have hz : l.length - m = 0 := by omega
    have hnil : l.drop m = [] := List.drop_of_length_le (by omega)
    rw [hnil, hz]
    exact ⟨_, 0, rfl, Nat.le_refl _, by decide, fun h => (h rfl).elim, fun h => by cases h⟩
theorem fresh_lo {B : Nat} {e : TypeId} {k : IntKind} {w : World} {v : Value} {zs : List Int} (h : Fresh B e k w v zs) : ∀ j, blockOf v j → B ≤ j := by
  intro j hj
  rcases fresh_form h with ⟨rfl, _⟩ | ⟨g, c, rfl, _⟩
  · exact hj.elim
  · obtain rfl : j = g := hj
    exact (h.lt j rfl).1
theorem dks_bytesC {W : World} {A : Foot} {d room : Nat} {s : St} (h : DkS W A d room s) (k : Nat) : (s.B k).length ≤ room ∧ ∀ c ∈ s.B k, c < 256 := by
  obtain ⟨b, es, hd, hB, _⟩ := h
  obtain ⟨_, _, _, _, _, h8⟩ := file_row hd k
  have hu := used_split k es
  have hr := hd.room.1
  rw [hB] at h8 hu
  exact ⟨by omega, h8⟩
theorem read_bytesC {W : World} {A : Foot} {d room : Nat} {s : St} (h : DkS W A d room s) (file : Int) : (pRead s file).2.length ≤ room ∧ ∀ c ∈ (pRead s file).2, c < 256 := by
  unfold pRead
  split
  · exact ⟨Nat.zero_le _, fun c hc => by simp at hc⟩
  · split
    · exact ⟨Nat.zero_le _, fun c hc => by simp at hc⟩
    · exact dks_bytesC h _
theorem rx_far {W : World} {r b : Nat} {s : RS} (h : Rx W r b s) : FarN W (fun k => k = r) := by
  obtain ⟨l', ⟨v, hl, _, _, _, _, hp⟩, _⟩ := h
  intro v2 z zs hr k hk e
  subst e
  obtain ⟨off, u, hc⟩ := row_here hr hk
  have h1 := hl.cell off
  rw [hc] at h1
  rcases off with _ | _ | off
  · rcases hp with rfl | ⟨_, _, _, _, rfl⟩ <;> simp at h1
  · simp at h1
  · simp at h1
/-- What is behind the texts in file 5 + j. -/
structure TailIs (j : Nat) (t : List Nat) : Prop where
  nil : j = 0 → t = []
  len : t.length ≤ 3
/-- What the reader reads. -/
structure ReadIs (n P : Int) (X M t : List Nat) : Prop where
  one : rRaw (X, 0) = (txtN n, (M, 0))
  two : rRaw (M, 0) = (txtN P, (t, 0))
  m8 : ∀ c ∈ M, c < 256
theorem read_is {n P : Int} {L t : List Nat} (h : BytesIs n P L) (h1 : (txtN n).length ≤ 100) (h2 : (txtN P).length ≤ 100) (h8 : ∀ c ∈ L ++ t, c < 256) : ∃ M, ReadIs n P (L ++ t) M t := by
  obtain ⟨q1, q2⟩ := allN_read (x := txtN n) (y := txtN P) (t := t) h1 h2
  refine ⟨_, by rw [h.eq]; exact q1, q2, fun c hc => ?_⟩
  rcases List.mem_append.1 hc with hc | hc
  · rcases List.mem_append.1 hc with hc | hc
    · exact varN_lt _ c hc
    · exact txtN_lt P c hc
  · exact h8 c (List.mem_append_right _ hc)
/-- The first and the second part of a slice. -/
theorem part_one {W : World} {A : Foot} {d : Nat} {s : St} {xa : Option Addr} {xc k : Nat} {L : List Nat} (h : DkS W A d 20000 s) (file : Int) (hr : Row .u8 W (.slice xa L.length xc) (natI L)) (h8 : ∀ c ∈ L, c < 256) (hl : L.length ≤ 300) (hk : k ≤ L.length) {q : Int × St} (hq : pApp 20000 s file (L.take k) = q) :
    Calls Tryz.prog 12 #[.pointer (some ⟨d, 0, none⟩), .int .i64 file, .slice xa k xc] W (ResS W A d 20000 q) := by
  have e : (L.take k).length = k := by rw [List.length_take]; omega
  have hr2 := row_cutW (l := natI L) (m := k) (by rw [natI_length]; exact hr) (by rw [natI_length]; exact hk)
  rw [← natI_take] at hr2
  have := appS_any h file xa xc (L.take k) (by rw [e]; exact hr2) (fun c hc => h8 c (List.mem_of_mem_take hc)) (by omega)
  rw [e, hq] at this
  exact this
theorem part_two {W : World} {A : Foot} {d : Nat} {s : St} {b off off2 c2 xc k : Nat} {L : List Nat} (h : DkS W A d 20000 s) (file : Int) (hr : Row .u8 W (.slice (some ⟨b, off, none⟩) L.length xc) (natI L)) (h8 : ∀ c ∈ L, c < 256) (hl : L.length ≤ 300) (hk : k ≤ L.length) (hoc : (c2 = xc - k ∧ off2 = off + k) ∨ (xc = k ∧ c2 = 0 ∧ off2 = off)) {q : Int × St} (hq : pApp 20000 s file (L.drop k) = q) :
    Calls Tryz.prog 12 #[.pointer (some ⟨d, 0, none⟩), .int .i64 file, .slice (some ⟨b, off2, none⟩) (L.length - k) c2] W (ResS W A d 20000 q) := by
  have e : (L.drop k).length = L.length - k := List.length_drop
  have hr2 := row_dropC (m := k) hr hk (n2 := L.length - k) rfl hoc
  have e2 : (natI L).drop k = natI (L.drop k) := by simp [natI, List.map_drop]
  rw [e2] at hr2
  have := appS_any h file (some ⟨b, off2, none⟩) c2 (L.drop k) (by rw [e]; exact hr2) (fun c hc => h8 c (List.mem_of_mem_drop hc)) (by omega)
  rw [e, hq] at this
  exact this
set_option maxHeartbeats 16000000 in
theorem walk_DiskNumbers (n m cut : Int) (v : Value) (keep : List Int) (flip : Int) (w : World) (hn : -9223372036854775808 ≤ n ∧ n ≤ 9223372036854775807) (hm : -9223372036854775808 ≤ m ∧ m ≤ 9223372036854775807) (hcut : -9223372036854775808 ≤ cut ∧ cut ≤ 9223372036854775807)
    (hv : Row .i64 w v keep) (hkr : ∀ z ∈ keep, -9223372036854775808 ≤ z ∧ z ≤ 9223372036854775807) (hfl : -9223372036854775808 ≤ flip ∧ flip ≤ 9223372036854775807) :
    Calls Tryz.prog 3 #[.int .i64 n, .int .i64 m, .int .i64 cut, v, .int .i64 flip] w fun e w' => e = .returned (.bool true) ∧ Below w.heap.size w w' := by
  have HN := Lib.hid hn
  have HM := Lib.hid hm
  have HC := Lib.hid hcut
  have HV := Lib.hid hv
  have HKR := Lib.hid hkr
  have HFL := Lib.hid hfl
  obtain ⟨sa, ta0⟩ := num_small hn
  obtain ⟨sp, tp0⟩ := prod_small hn hm
  have SA := Lib.hid sa
  have SP := Lib.hid sp
  have SM := Lib.hid (num_small hm).1
  have TXA := Lib.hid ta0
  have TXP := Lib.hid tp0
  have QU := Lib.hid (quo_is n m)
  obtain ⟨va, vc, rfl, -⟩ := hv
  clear hn hm hcut hkr hfl sa ta0 sp tp0
  go_enter Tryz.func3, Tryz.ntmps3
  go_wp2_with fail
  refine (new_far w).mono ?_
  rintro e w1 ⟨d, A1, rfl, hd, hb, hfar⟩
  have D1 := Lib.hid hd
  have B1 := Lib.hid hb
  have F1 := Lib.hid hfar
  clear hd hb hfar
  go_wp2_with fail
  refine (wFrom_any n w1 HN.out).mono ?_
  rintro e w2 ⟨b0, p0, m0, k0, rfl, hx, hb2⟩
  have hbb := below_then hb2 (below_one w2 (.cells #[.bool b0, .slice p0 m0 k0] 29))
  have NA := Lib.hid (NumFar.of (IBox.new hx) (F1.out _ hbb) (fun hA => by have := D1.out.hi _ hA; have := hb2.size; omega))
  have D2 := Lib.hid (D1.out.below hbb)
  have B2 := Lib.hid (below_cutN B1.out hbb)
  have U2 := Lib.hid hbb
  have L2 : Hid (∀ k, A1 k → k < (w2.alloc (.cells #[.bool b0, .slice p0 m0 k0] 29)).heap.size) := Lib.hid (D1.out.below hbb).hi
  clear hx hb2 hbb D1 B1
  go_wp2_with fail
  generalize w2.alloc (.cells #[.bool b0, .slice p0 m0 k0] 29) = W2 at *
  generalize w2.heap.size = ta at *
  obtain ⟨sA, aA, mA, kA, ⟨cA0, cA1⟩, hA⟩ := NA.out.box.open
  have ltA := NA.out.box.lt
  have CELLS : Hid (∀ X : World, Below W2.heap.size W2 X → X.cell? ⟨ta, 0, none⟩ = some (.bool sA) ∧ X.cell? ⟨ta, 1, none⟩ = some (.slice aA mA kA)) := Lib.hid (fun X h => ⟨(h.cell (p := ⟨ta, 0, none⟩) ltA).trans cA0, (h.cell (p := ⟨ta, 1, none⟩) ltA).trans cA1⟩)
  have FRM : Hid (∀ w', Below W2.heap.size W2 w' → Calls Tryz.prog 6 #[.int .i64 m] w' (IEnd m w')) := Lib.hid (fun w' h => wFrom_any m w' HM.out)
  have MUL : Hid (∀ w' y, IAt w' y m → Below W2.heap.size W2 w' → Calls Tryz.prog 7 #[.agg #[.bool sA, .slice aA mA kA], y] w' (IOk (n * m) w')) := Lib.hid (fun w' y hy h => mul_ok (iat_keeps hA h) hy SA.out SM.out SP.out)
  unfold IEnd at FRM
  unfold IOk at MUL
  have HB : Hid (Below W2.heap.size W2 W2.drew) := Lib.hid (Below.refl _ _).drew
  clear hA ltA cA0 cA1
  go_cut [14, 15] (fun s14 s15 wx => ∃ t : Nat, s14 = .pointer (some ⟨t, 0, none⟩) ∧ s15 = .int .i64 0 ∧ Hid (IBox wx t (n * m)) ∧ Hid (W2.heap.size ≤ t) ∧ Hid (Below W2.heap.size W2 wx))
  case first =>
    go_region_held3 (fun X : World => X.cell? ⟨ta, 0, none⟩ = some (.bool sA) ∧ X.cell? ⟨ta, 1, none⟩ = some (.slice aA mA kA)) (first | exact CELLS.out _ HB.out | exact CELLS.out _ HB1.out | exact CELLS.out _ (below_then HB1.out (below_one _ _)) | exact CELLS.out _ (below_then HB.out (below_one _ _)) | exact CELLS.out _ (below_one _ _).drew | exact CELLS.out _ ((HB1.out.setCell (p := ⟨_, 0, none⟩) HT.out _).setCell (p := ⟨_, 1, none⟩) HT.out _)) (first
      | (go_at_call 6; (with_reducible refine (FRM.out _ HB.out).mono ?_); rintro e w9 ⟨b9, a9, m9, k9, rfl, hy9, hb9⟩; have HY := Lib.hid hy9; have UB := Lib.hid (below_then HB.out hb9); clear hb9 HB; have HB := UB; clear UB; clear hy9)
      | (go_at_call 6; (with_reducible refine (FRM.out _ (below_one _ _).drew).mono ?_); rintro e w9 ⟨b9, a9, m9, k9, rfl, hy9, hb9⟩; have HY := Lib.hid hy9; have TZ := Lib.hid (((IBox.new (iat_zero W2)).below (Below.refl _ _).drew).below hb9); have HT := Lib.hid (Nat.le_refl W2.heap.size); have UB := Lib.hid (below_then (below_one _ _).drew hb9); clear HB; have HB := UB; clear UB; clear hy9 hb9)
      | (go_at_call 7; (with_reducible refine (MUL.out _ _ HY.out HB.out).mono ?_); rintro e w10 ⟨b10, p10, n10, q10, rfl, hx10, hb10⟩; have HX := Lib.hid hx10; have HB1 := Lib.hid (below_then HB.out hb10); first | (have UZ := Lib.hid (TZ.out.below hb10); clear TZ; have TZ := UZ; clear UZ; obtain ⟨_, _, _, _, LZ, _⟩ := TZ.out; obtain ⟨z0, z1, z2, z3⟩ := cells2 LZ; clear LZ) | skip; clear hx10 hb10 HB)
      | (go_at_call 7; (with_reducible refine (MUL.out _ _ (iat_keeps HY.out (below_one _ _)) (below_then HB.out (below_one _ _))).mono ?_); rintro e w10 ⟨b10, p10, n10, q10, rfl, hx10, hb10⟩; have HX := Lib.hid hx10; have HT := Lib.hid HB.out.size; have TZ := Lib.hid ((IBox.new (iat_zero w9)).below hb10); have HB1 := Lib.hid (below_then (below_then HB.out (below_one _ _)) hb10); obtain ⟨_, _, _, _, LZ, _⟩ := TZ.out; obtain ⟨z0, z1, z2, z3⟩ := cells2 LZ; clear hx10 hb10 LZ HB))
    all_goals
      go_wp2_with fail
      go_meet
      first
        | exact ⟨_, rfl, rfl, Lib.hid (IBox.new HX.out), Lib.hid HB1.out.size, Lib.hid (below_then HB1.out (below_one _ _))⟩
        | exact ⟨_, rfl, rfl, Lib.hid (TZ.out.store HX.out), Lib.hid HT.out, Lib.hid ((HB1.out.setCell (p := ⟨_, 0, none⟩) HT.out _).setCell (p := ⟨_, 1, none⟩) HT.out _)⟩
  obtain ⟨tp, rfl, rfl, TP, TL, BX⟩ := hcut
  clear FRM MUL HB CELLS
  have N3 : Hid (DN w.heap.size wc A1 d pNew ta tp n (n * m)) := Lib.hid ⟨D2.out.below BX.out, NA.out.below BX.out, NumFar.of TP.out (F1.out _ (below_then U2.out BX.out)) (fun hA => by have := L2.out _ hA; have := TL.out; omega)⟩
  have B3 := Lib.hid (below_cutN B2.out BX.out)
  clear TP TL BX L2 U2 F1 NA D2 B2
  generalize n * m = P at *
  have W3 := Lib.hid (wr_new wc)
  have hb3 := below_one wc (.cells #[.slice none 0 0] 35)
  have N4 := Lib.hid (N3.out.below hb3)
  have G3 := Lib.hid hb3
  obtain ⟨sA, aA, mA, kA, ⟨cA0, cA1⟩, hA⟩ := N4.out.na.box.open
  have HA3 := Lib.hid hA
  clear hb3 hA
  go_wp2_with fail
  have hA := HA3.out
  generalize wc.alloc (.cells #[.slice none 0 0] 35) = w3 at *
  obtain ⟨rr, hrr⟩ : ∃ rr, rr = wc.heap.size := ⟨_, rfl⟩
  rw [← hrr] at W3 ⊢
  have HRR := Lib.hid hrr
  clear hrr HA3
  refine (wString_any _ n w3 hA SA.out.words).mono ?_
  rintro e w4 ⟨rfl, hb4⟩
  have W4 := Lib.hid (wr_below W3.out hb4)
  have G4 := Lib.hid (below_then G3.out hb4)
  clear hA hb4 cA0 cA1 W3 G3 N4
  go_wp2_with fail
  refine (devText_any rr rr [] (txtS n) w4 W4.out (by have := txt_size n; have := TXA.out; simp; omega)).mono ?_
  rintro e w5 ⟨rfl, g5, hw5, hg5, hk5⟩
  have W5 := Lib.hid hw5
  have G5 := Lib.hid (G4.out.trans (hk5.below G4.out.size (fun k hk => by have := HRR.out; omega)))
  have GG5 : Hid (wc.heap.size ≤ g5) := Lib.hid (by have := HRR.out; have := G4.out.size; omega)
  have N5 := Lib.hid (N3.out.below G5.out)
  obtain ⟨sP, aP, mP, kP, ⟨cP0, cP1⟩, hP⟩ := N5.out.np.box.open
  clear hw5 hg5 hk5 W4 G4 N5
  go_wp2_with fail
  refine (wString_any _ P w5 hP SP.out.words).mono ?_
  rintro e w6 ⟨rfl, hb6⟩
  have W6 := Lib.hid (wr_below W5.out hb6)
  have G6 := Lib.hid (G5.out.trans (hb6.mono G5.out.size))
  clear hP hb6 cP0 cP1 W5 G5
  go_wp2_with fail
  refine (devText_any rr g5 ([] ++ (varN (txtS n).size ++ strB (txtS n))) (txtS P) w6 W6.out (by
    have h1 := txt_size n; have h2 := txt_size P; have h3 := TXA.out; have h4 := TXP.out; have h5 := varN_len10 (n := (txtS n).size) (by omega); have h6 := strB_length (txtS n)
    simp only [List.length_append, List.length_nil]; omega)).mono ?_
  rintro e w7 ⟨rfl, g7, hw7, hg7, hk7⟩
  rw [txts_all] at hw7
  have W7 := Lib.hid hw7
  have G7 := Lib.hid (G6.out.trans (hk7.below G6.out.size (fun k hk => by have := HRR.out; have := GG5.out; omega)))
  have BI : Hid (BytesIs n P (allN (txtN n) (txtN P))) := Lib.hid ⟨allN_lt n P, allN_len TXA.out TXP.out, allN_pos _ _, rfl⟩
  clear hw7 hg7 hk7 W6 G6 GG5
  generalize allN (txtN n) (txtN P) = L at *
  go_wp2_with fail
  refine (devDone_any rr g7 L w7 W7.out (by have := BI.out.len; omega)).mono ?_
  rintro e w8 ⟨x8, rfl, hx8, hb8⟩
  have N8 := Lib.hid (N3.out.below (G7.out.trans (hb8.mono G7.out.size)))
  have B8 := Lib.hid (below_cutN B3.out (G7.out.trans (hb8.mono G7.out.size)))
  have X8 : Hid (FarB w8 A1 x8 (natI L)) := Lib.hid ⟨fresh_mono hx8 (Nat.zero_le _), fun j hj hA => by have := (hx8.lt j hj).1; have := N3.out.dk.hi j hA; have := G7.out.size; omega⟩
  have hx9 := hx8
  rcases fresh_form hx9 with ⟨_, h0⟩ | ⟨gx, xc, rfl, -, -, hxc, -⟩
  · have h1 := BI.out.pos
    have h2 := congrArg List.length h0
    rw [natI_length] at h2
    change L.length = 0 at h2
    omega
  rw [natI_length] at X8 hxc ⊢
  have LP := Lib.hid hxc
  clear hx8 hx9 hb8 W7 G7 N3 B3 hxc HRR
  have hL3 := BI.out.len
  have hcap : (0 : Int) ≤ (L.length : Int) := by omega
  go_wp2_with fail
  refine (around_any cut (L.length + 1) w8 HC.out (by omega) (by omega)).mono ?_
  rintro e w9 ⟨rfl, rfl⟩
  obtain ⟨k, hk, hkl⟩ := around_M cut (L.length + 1) (by omega)
  rw [hk]
  have HKL : Hid (k ≤ L.length) := Lib.hid (by omega)
  clear hk HC
  go_wp2_with fail
  go_loopw [19] (fun s19 wr => ∃ (j : Nat) (A : Foot), s19 = .int .i64 ((5 + j : Nat) : Int) ∧ j ≤ 2 ∧ Hid (DN w.heap.size wr A d (onN (filesN L j) (fun _ => 0)) ta tp n P) ∧ Hid (FarB wr A (.slice (some ⟨gx, 0, none⟩) L.length xc) (natI L)) ∧ Hid (Below w.heap.size w wr)) (fun s19 _ => 7 - (intOf s19).toNat)
  case atStart => exact ⟨0, A1, rfl, Nat.zero_le _, N8, X8, B8⟩
  case round =>
    obtain ⟨j, A, rfl, hj2, N, X, B⟩ := hrel
    clear N8 X8 B8
    by_cases hj : j < 2
    · obtain ⟨s1, e1, e2⟩ := filesN_app (Nat.le_trans BI.out.len (by decide)) hj k (fun _ => 0)
      have E1 := Lib.hid e1
      have E2 := Lib.hid e2
      have hj0 : ((5 + j : Nat) : Int) < 7 := by omega
      have kl := HKL.out
      have kc := LP.out
      have k0 : (0 : Int) ≤ (k : Int) := by omega
      have k1 : (k : Int) ≤ (L.length : Int) := by omega
      have k2 : (k : Int) ≤ (xc : Int) := by omega
      have k3 : (L.length : Int) ≤ (xc : Int) := by omega
      clear e1 e2
      go_wp2_with fail
      refine (part_one N.out.dk.dk ((5 + j : Nat) : Int) (row_of_fresh X.out.row) BI.out.lt BI.out.len HKL.out E1.out).mono ?_
      rintro e w10 ⟨rfl, hu⟩
      obtain ⟨A10, hn10, hk10, hf10, hb10⟩ := N.out.step hu B.out.size
      have N10 := Lib.hid hn10
      have X10 := Lib.hid (X.out.keeps hk10 hf10)
      have B10 := Lib.hid (B.out.trans hb10)
      clear hu hn10 hk10 hf10 hb10 N X B E1
      by_cases hck : xc = k
      · obtain rfl : k = xc := hck.symm
        have hlk : L.length - k = 0 := by omega
        have HP := part_two N10.out.dk.dk ((5 + j : Nat) : Int) (row_of_fresh X10.out.row) BI.out.lt BI.out.len HKL.out (off2 := 0) (c2 := 0) (.inr ⟨rfl, rfl, rfl⟩) E2.out
        rw [hlk] at HP
        have HP2 := Lib.hid HP
        clear HP
        go_wp2_with fail
        refine HP2.out.mono ?_
        rintro e w11 ⟨rfl, hu⟩
        obtain ⟨A11, hn11, hk11, hf11, hb11⟩ := N10.out.step hu B10.out.size
        have N11 := Lib.hid hn11
        have X11 := Lib.hid (X10.out.keeps hk11 hf11)
        have B11 := Lib.hid (B10.out.trans hb11)
        clear hu hn11 hk11 hf11 hb11 N10 X10 B10 E2 HP2
        go_wp2_with fail
        go_roundw
        case rel => exact ⟨j + 1, A11, by go_num, by omega, N11, X11, B11⟩
        case measure => simp [intOf]; omega
      · have HP2 := Lib.hid (part_two N10.out.dk.dk ((5 + j : Nat) : Int) (row_of_fresh X10.out.row) BI.out.lt BI.out.len HKL.out (off2 := 0 + k) (c2 := xc - k) (.inl ⟨rfl, rfl⟩) E2.out)
        go_wp2_with fail
        rw [Nat.zero_add] at HP2
        refine HP2.out.mono ?_
        rintro e w11 ⟨rfl, hu⟩
        obtain ⟨A11, hn11, hk11, hf11, hb11⟩ := N10.out.step hu B10.out.size
        have N11 := Lib.hid hn11
        have X11 := Lib.hid (X10.out.keeps hk11 hf11)
        have B11 := Lib.hid (B10.out.trans hb11)
        clear hu hn11 hk11 hf11 hb11 N10 X10 B10 E2 HP2
        go_wp2_with fail
        go_roundw
        case rel => exact ⟨j + 1, A11, by go_num, by omega, N11, X11, B11⟩
        case measure => simp [intOf]; omega
    · obtain rfl : j = 2 := by omega
      clear hkl HKL
      go_wp2_with fail
      refine (syncS_any N.out.dk.dk).mono ?_
      rw [syncN]
      rintro e w10 ⟨rfl, hu⟩
      obtain ⟨A10, hn10, -, -, hb10⟩ := N.out.step hu B.out.size
      have N10 := Lib.hid hn10
      have B10 := Lib.hid (B.out.trans hb10)
      obtain ⟨s1, e1, e2⟩ := tailN_app (all := L) (Nat.le_trans BI.out.len (by decide))
      have E1 := Lib.hid e1
      have E2 := Lib.hid e2
      have hba := below_one w10 (.cells #[.int .u8 9, .int .u8 9, .int .u8 9] 5)
      have N11 := Lib.hid (N10.out.below hba)
      have B11 := Lib.hid (below_cutN B10.out hba)
      have K11 := Lib.hid (lit_u8 w10 [9, 9, 9] (by simp))
      clear hu hn10 hb10 e1 e2 N X B N10 B10 hba
      go_wp2_with fail
      refine (appS_any N11.out.dk.dk 6 (some ⟨w10.heap.size, 0, none⟩) 3 [9, 9, 9] K11.out (by decide) (by decide)).mono ?_
      rw [E1.out]
      rintro e w12 ⟨rfl, hu⟩
      obtain ⟨A12, hn12, -, -, hb12⟩ := N11.out.step hu B11.out.size
      have N12 := Lib.hid hn12
      have B12 := Lib.hid (B11.out.trans hb12)
      have hba := below_one w12 (.cells #[.int .u8 1] 5)
      have N13 := Lib.hid (N12.out.below hba)
      have B13 := Lib.hid (below_cutN B12.out hba)
      have K13 := Lib.hid (lit_u8 w12 [1] (by simp))
      clear hu hn12 hb12 N11 B11 K11 E1 N12 B12 hba
      go_wp2_with fail
      refine (appS_any N13.out.dk.dk 8 (some ⟨w12.heap.size, 0, none⟩) 1 [1] K13.out (by decide) (by decide)).mono ?_
      rw [E2.out]
      rintro e w14 ⟨rfl, hu⟩
      obtain ⟨A14, hn14, -, -, hb14⟩ := N13.out.step hu B13.out.size
      have N14 := Lib.hid hn14
      have B14 := Lib.hid (B13.out.trans hb14)
      clear hu hn14 hb14 N13 B13 K13 E2
      go_wp2_with fail
      refine (refInts_any _ keep 3 w14 (row_keeps HV.out B14.out) (by decide)).mono ?_
      rintro e w15 ⟨kv, rfl, hk, hb⟩
      have N15 := Lib.hid (N14.out.below hb)
      have B15 := Lib.hid (below_cutN B14.out hb)
      have K15 := Lib.hid hk
      have KF : Hid (∀ j, blockOf kv j → ¬ A14 j) := Lib.hid (fun j hj hA => by have h1 := N14.out.dk.hi j hA; have := fresh_lo hk j hj; omega)
      have KR : Hid (∀ y ∈ keep.take 3, -9223372036854775808 ≤ y ∧ y ≤ 9223372036854775807) := Lib.hid (fun y hy => HKR.out y (List.mem_of_mem_take hy))
      clear hk hb N14 B14 HKR
      go_wp2_with fail
      refine (crashS_any N15.out.dk.dk kv (keep.take 3) flip (row_of_fresh K15.out) KF.out KR.out HFL.out (by rw [List.length_take]; omega)).mono ?_
      rintro e w16 ⟨rfl, hu⟩
      obtain ⟨A16, hn16, -, -, hb16⟩ := N15.out.step hu B15.out.size
      have EN := Lib.hid (endN L (keep.take 3) flip)
      have N16 := Lib.hid hn16
      have B16 := Lib.hid (B15.out.trans hb16)
      clear hu hn16 hb16 N15 B15 K15 KF KR HFL
      generalize pCrash (tailN L) (keep.take 3) flip = sc at *
      go_wp2_with fail
      go_loopw [20] (fun s20 wr => ∃ j : Nat, s20 = .int .i64 ((5 + j : Nat) : Int) ∧ j ≤ 2 ∧ Hid (DN w.heap.size wr A16 d sc ta tp n P) ∧ Hid (Below w.heap.size w wr)) (fun s20 _ => 7 - (intOf s20).toNat)
      case atStart => exact ⟨0, rfl, Nat.zero_le _, N16, B16⟩
      case round =>
        obtain ⟨j, rfl, hj2, N, B⟩ := hrel
        clear N16 B16
        by_cases hj : j < 2
        · obtain ⟨t, hr, ht3, ht0⟩ := EN.out.read hj
          have RD := Lib.hid hr
          have TI : Hid (TailIs j t) := Lib.hid ⟨ht0, ht3⟩
          have h8 := (read_bytesC N.out.dk.dk ((5 + j : Nat) : Int)).2
          rw [hr] at h8
          have H8 := Lib.hid (show ∀ c ∈ L ++ t, c < 256 from h8)
          obtain ⟨M, hM⟩ := read_is (t := t) BI.out TXA.out TXP.out h8
          have RI := Lib.hid hM
          have HX3 : Hid ((L ++ t).length ≤ 1000000) := Lib.hid (by have := BI.out.len; rw [List.length_append]; omega)
          have hj0 : ((5 + j : Nat) : Int) < 7 := by omega
          clear hr ht3 ht0 h8 hM
          go_wp2_with fail
          refine (readS_any N.out.dk.dk ((5 + j : Nat) : Int)).mono ?_
          rw [RD.out]
          rintro e w17 ⟨v17, rfl, hx, hb⟩
          generalize L ++ t = X at *
          obtain ⟨xa2, xc2, rfl, -⟩ := fresh_elems hx
          have X17 := Lib.hid (row_of_fresh hx)
          rw [natI_length] at X17 ⊢
          have N17 := Lib.hid (N.out.below hb)
          have B17 := Lib.hid (below_cutN B.out hb)
          clear hx hb N B RD
          go_wp2_with fail
          refine (devRead_any _ X w17 X17.out H8.out HX3.out).mono ?_
          rintro e w18 ⟨r, b, rfl, hrw, hr1, hb1, hb2, hb⟩
          have RX18 := Lib.hid (rx_of hrw)
          have RB : Hid (w17.heap.size ≤ r ∧ w17.heap.size ≤ b) := Lib.hid ⟨hr1, hb1⟩
          have RB18 := Lib.hid hb2
          have G18 := Lib.hid hb
          clear hrw hr1 hb1 hb2 hb X17 HX3
          go_wp2_with fail
          refine (devRdText_any r b (X, 0) w18 RX18.out H8.out RB18.out).mono ?_
          rw [RI.out.one]
          rintro e w19 ⟨rfl, hrx, hk⟩
          have RX19 := Lib.hid hrx
          have RB19 := Lib.hid (Nat.lt_of_lt_of_le RB18.out hk.size)
          have G19 := Lib.hid (G18.out.trans (hk.below G18.out.size (fun k hk => by have := RB.out; omega)))
          clear hrx hk RX18 RB18 G18 H8
          go_wp2_with fail
          refine (parse_ok SA.out w19).mono ?_
          rintro e w20 ⟨b0, p0, m0, k0, rfl, hx, hb⟩
          have hbb := below_then hb (below_one w20 (.cells #[.bool b0, .slice p0 m0 k0] 29))
          have RX20 := Lib.hid (rx_below RX19.out RB19.out hbb)
          have RB20 := Lib.hid (Nat.lt_of_lt_of_le RB19.out hbb.size)
          have RR20 : Hid (r < w20.heap.size) := Lib.hid (by obtain ⟨_, ⟨_, hl, _⟩, _⟩ := RX19.out; have := hl.lt; have := hb.size; omega)
          have G20 := Lib.hid (G19.out.trans (hbb.mono G19.out.size))
          have TO := Lib.hid (NumFar.of (IBox.new hx) (rx_far RX20.out) (fun e => by have := RR20.out; omega))
          clear hx hb hbb RX19 RB19 G19
          go_wp2_with fail
          generalize w20.alloc (.cells #[.bool b0, .slice p0 m0 k0] 29) = w21 at *
          generalize w20.heap.size = t1 at *
          refine (devRdText_any r b (M, 0) w21 RX20.out RI.out.m8 RB20.out).mono ?_
          rw [RI.out.two]
          rintro e w22 ⟨rfl, hrx, hk⟩
          have RX22 := Lib.hid hrx
          have RB22 := Lib.hid (Nat.lt_of_lt_of_le RB20.out hk.size)
          have G22 := Lib.hid (G20.out.trans (hk.below G20.out.size (fun k hk => by have := RB.out; omega)))
          have TO22 := Lib.hid (TO.out.step hk (fun k hk => .inl hk)).box
          clear hrx hk RX20 RB20 G20 TO RI RR20
          go_wp2_with fail
          refine (parse_ok SP.out w22).mono ?_
          rintro e w23 ⟨b0, p0, m0, k0, rfl, hx, hb⟩
          have hbb := below_then hb (below_one w23 (.cells #[.bool b0, .slice p0 m0 k0] 29))
          have RX24 := Lib.hid (rx_below RX22.out RB22.out hbb)
          have RB24 := Lib.hid (Nat.lt_of_lt_of_le RB22.out hbb.size)
          have G24 := Lib.hid (G22.out.trans (hbb.mono G22.out.size))
          have TT24 := Lib.hid (IBox.new hx)
          have TO24 := Lib.hid (TO22.out.below hbb)
          have N24 := Lib.hid (N17.out.below G24.out)
          clear hx hb hbb RX22 RB22 G22 TO22
          obtain ⟨sO, aO, mO, kO, ⟨cO0, cO1⟩, hO⟩ := TO24.out.open
          obtain ⟨sA, aA, mA, kA, ⟨cA0, cA1⟩, hA⟩ := N24.out.na.box.open
          have HO := Lib.hid hO
          have HA := Lib.hid hA
          clear hO hA
          have HJ := Lib.hid (show j = 0 ∨ j = 1 by omega)
          go_upto_region 31 with fail
          generalize w23.alloc (.cells #[.bool b0, .slice p0 m0 k0] 29) = w24 at *
          generalize w23.heap.size = t2 at *
          go_cut [149] (fun s149 wx => s149 = .bool false ∧ Hid (Below w24.heap.size w24 wx))
          case first =>
            go_wp2_with fail
            refine (wCompare_any _ _ n n w24 HO.out HA.out SA.out.words SA.out.words).mono ?_
            rintro e w25 ⟨rfl, hb⟩
            rw [cmp_same]
            have TT25 := Lib.hid (TT24.out.below hb)
            have N25 := Lib.hid (N24.out.below hb)
            have RX25 := Lib.hid (rx_below RX24.out RB24.out hb)
            have RB25 := Lib.hid (Nat.lt_of_lt_of_le RB24.out hb.size)
            have B25 := Lib.hid hb
            obtain ⟨sT, aT, mT, kT, ⟨cT0, cT1⟩, hT⟩ := TT25.out.open
            obtain ⟨sQ, aQ, mQ, kQ, ⟨cQ0, cQ1⟩, hQ⟩ := N25.out.np.box.open
            have HT := Lib.hid hT
            have HQ := Lib.hid hQ
            clear hb hT hQ cO0 cO1 cA0 cA1
            go_wp2_with fail
            refine (wCompare_any _ _ P P w25 HT.out HQ.out SP.out.words SP.out.words).mono ?_
            rintro e w26 ⟨rfl, hb⟩
            rw [cmp_same]
            have RX26 := Lib.hid (rx_below RX25.out RB25.out hb)
            have B26 := Lib.hid (below_then B25.out hb)
            clear hb cT0 cT1 cQ0 cQ1
            rcases HJ.out with rfl | rfl
            · have ht := TI.out.nil rfl
              subst ht
              go_wp2_with fail
              refine (devRdEnd_any r b ([], 0) w26 RX26.out).mono ?_
              rintro e w27 ⟨rfl, rfl⟩
              rw [show ((rEnd ([], 0) : Nat) : Int) = 0 from rfl]
              go_wp2_with fail
              go_meet
              case rel => exact ⟨rfl, B26⟩
            · go_wp2_with fail
              go_meet
              case rel => exact ⟨rfl, B26⟩
          obtain ⟨rfl, BX⟩ := hcut
          have N27 := Lib.hid (N24.out.below BX.out)
          have TT27 := Lib.hid (TT24.out.below BX.out)
          have G27 := Lib.hid (G24.out.trans (BX.out.mono G24.out.size))
          have B27 := Lib.hid (below_cutN B17.out G27.out)
          clear N24 TT24 G24 TO24 RX24 RB24 HO HA cO0 cO1 cA0 cA1 BX RB TI
          obtain ⟨cD, qD, rD, hdv, hdc⟩ := div_all QU.out SP.out SM.out
          have DV := Lib.hid hdv
          obtain ⟨sT, aT, mT, kT, ⟨cT0, cT1⟩, hT⟩ := TT27.out.open
          have ltT := TT27.out.lt
          have CELLS : Hid (∀ X : World, Below wc.heap.size wc X → X.cell? ⟨t2, 0, none⟩ = some (.bool sT) ∧ X.cell? ⟨t2, 1, none⟩ = some (.slice aT mT kT)) := Lib.hid (fun X h => ⟨(h.cell (p := ⟨t2, 0, none⟩) ltT).trans cT0, (h.cell (p := ⟨t2, 1, none⟩) ltT).trans cT1⟩)
          have FRM : Hid (∀ w', Below wc.heap.size wc w' → Calls Tryz.prog 6 #[.int .i64 m] w' (IEnd m w')) := Lib.hid (fun w' h => wFrom_any m w' HM.out)
          have DIV : Hid (∀ w' y, IAt w' y m → Below wc.heap.size wc w' → Calls Tryz.prog 22 #[.agg #[.bool sT, .slice aT mT kT], y] w' (DivX cD qD rD w')) := Lib.hid (fun w' y hy h => hdc _ _ _ (iat_keeps hT h) hy)
          unfold IEnd at FRM
          unfold DivX at DIV
          have HB : Hid (Below wc.heap.size wc wc.drew) := Lib.hid (Below.refl _ _).drew
          clear hdv hdc hT ltT cT0 cT1
          go_wp2_with fail
          go_cut [28, 29, 30] (fun s28 s29 s30 wx => (∃ p q : Nat, s28 = .pointer (some ⟨p, 0, none⟩) ∧ s29 = .pointer (some ⟨q, 0, none⟩) ∧ Hid (IBox wx p qD) ∧ Hid (IBox wx q rD) ∧ Hid (Below wc.heap.size wc wx)) ∧ s30 = .int .i64 cD)
          case first =>
            go_region_held3 (fun X : World => X.cell? ⟨t2, 0, none⟩ = some (.bool sT) ∧ X.cell? ⟨t2, 1, none⟩ = some (.slice aT mT kT)) (with_reducible first | exact CELLS.out _ HB1.out | exact CELLS.out _ HB.out | exact CELLS.out _ (below_one _ _).drew | exact CELLS.out _ (below_then (below_one _ _) (below_one _ _)).drew | exact CELLS.out _ (below_then HB.out (below_one _ _)) | exact CELLS.out _ (below_then (below_then HB.out (below_one _ _)) (below_one _ _)) | exact CELLS.out _ (below_then HB1.out (below_one _ _)) | exact CELLS.out _ (below_then (below_then HB1.out (below_one _ _)) (below_one _ _)) | exact CELLS.out _ (below_setI HB1.out H1.out) | exact CELLS.out _ (below_setI HB1.out H2.out) | exact CELLS.out _ (below_then (below_setI HB1.out H1.out) (below_one _ _)) | exact CELLS.out _ (below_setI (below_setI HB1.out H1.out) H2.out) | exact CELLS.out _ (below_setI (below_setI HB1.out H2.out) H1.out) | exact CELLS.out _ (below_setI (below_then HB1.out (below_one _ _)) H1.out)) (first
              | (go_at_call 6; (with_reducible refine (FRM.out _ HB.out).mono ?_); rintro e w9 ⟨b9, a9, m9, k9, rfl, hy9, hb9⟩; have HY := Lib.hid hy9; have UB := Lib.hid (below_then HB.out hb9); clear HB; have HB := UB; clear UB; clear hy9 hb9)
              | (go_at_call 6; (with_reducible refine (FRM.out _ (below_one _ _).drew).mono ?_); rintro e w9 ⟨b9, a9, m9, k9, rfl, hy9, hb9⟩; have HY := Lib.hid hy9; have Z1 := Lib.hid (((IBox.new (iat_zero wc)).below (Below.refl _ _).drew).below hb9); have H1 := Lib.hid (Nat.le_refl wc.heap.size); have UB := Lib.hid (below_then (below_one _ _).drew hb9); clear HB; have HB := UB; clear UB; clear hy9 hb9)
              | (go_at_call 6; (with_reducible refine (FRM.out _ (below_then (below_one _ _) (below_one _ _)).drew).mono ?_); rintro e w9 ⟨b9, a9, m9, k9, rfl, hy9, hb9⟩; have HY := Lib.hid hy9; have Z1 := Lib.hid (((ibox_zero2 wc).1.below (Below.refl _ _).drew).below hb9); have Z2 := Lib.hid (((ibox_zero2 wc).2.below (Below.refl _ _).drew).below hb9); have H1 := Lib.hid (Nat.le_refl wc.heap.size); have H2 := Lib.hid (Nat.le_succ wc.heap.size); have NE := Lib.hid (Nat.ne_of_lt (Nat.lt_succ_self wc.heap.size)); have UB := Lib.hid (below_then (below_then (below_one _ _) (below_one _ _)).drew hb9); clear HB; have HB := UB; clear UB; clear hy9 hb9)
              | (go_at_call 22; (with_reducible refine (DIV.out _ _ HY.out HB.out).mono ?_); rintro e w10 ⟨bq, aq, mq, kq, br, ar, mr, kr, rfl, hq10, hr10, hb10⟩; have HX := Lib.hid hq10; have HR := Lib.hid hr10; have HB1 := Lib.hid (below_then HB.out hb10); first | ((have UZ := Lib.hid (Z2.out.below hb10); clear Z2; have Z2 := UZ; clear UZ); (have UZ := Lib.hid (Z1.out.below hb10); clear Z1; have Z1 := UZ; clear UZ); (obtain ⟨_, _, _, _, LZ, _⟩ := Z1.out; obtain ⟨z0, z1, z2, z3⟩ := cells2 LZ; have hlt8 := Z1.out.lt; clear LZ); (obtain ⟨_, _, _, _, LZ2, _⟩ := Z2.out; obtain ⟨z4, z5, z6, z7⟩ := cells2 LZ2; have hlt9 := Z2.out.lt; clear LZ2)) | ((have UZ := Lib.hid (Z1.out.below hb10); clear Z1; have Z1 := UZ; clear UZ); (obtain ⟨_, _, _, _, LZ, _⟩ := Z1.out; obtain ⟨z0, z1, z2, z3⟩ := cells2 LZ; have hlt8 := Z1.out.lt; clear LZ)) | skip; clear hq10 hr10 hb10 HB)
              | (go_at_call 22; (with_reducible refine (DIV.out _ _ (iat_keeps HY.out (below_one _ _)) (below_then HB.out (below_one _ _))).mono ?_); rintro e w10 ⟨bq, aq, mq, kq, br, ar, mr, kr, rfl, hq10, hr10, hb10⟩; have HX := Lib.hid hq10; have HR := Lib.hid hr10; have HB1 := Lib.hid (below_then (below_then HB.out (below_one _ _)) hb10); first | (have H2 := Lib.hid HB.out.size; have NE := Lib.hid (Nat.ne_of_lt Z1.out.lt); have ne1 : ¬ (wc.heap.size = w9.heap.size) := NE.out; have ne2 : ¬ (w9.heap.size = wc.heap.size) := fun e => NE.out e.symm; (have UZ := Lib.hid ((Z1.out.below (below_one _ _)).below hb10); clear Z1; have Z1 := UZ; clear UZ); have Z2 := Lib.hid ((IBox.new (iat_zero w9)).below hb10); (obtain ⟨_, _, _, _, LZ, _⟩ := Z1.out; obtain ⟨z0, z1, z2, z3⟩ := cells2 LZ; have hlt8 := Z1.out.lt; clear LZ); (obtain ⟨_, _, _, _, LZ2, _⟩ := Z2.out; obtain ⟨z4, z5, z6, z7⟩ := cells2 LZ2; have hlt9 := Z2.out.lt; clear LZ2)) | (have H1 := Lib.hid HB.out.size; have Z1 := Lib.hid ((IBox.new (iat_zero w9)).below hb10); (obtain ⟨_, _, _, _, LZ, _⟩ := Z1.out; obtain ⟨z0, z1, z2, z3⟩ := cells2 LZ; have hlt8 := Z1.out.lt; clear LZ)); clear hq10 hr10 hb10 HB)
              | (go_at_call 22; (with_reducible refine (DIV.out _ _ (iat_keeps HY.out (below_then (below_one _ _) (below_one _ _))) (below_then (below_then HB.out (below_one _ _)) (below_one _ _))).mono ?_); rintro e w10 ⟨bq, aq, mq, kq, br, ar, mr, kr, rfl, hq10, hr10, hb10⟩; have HX := Lib.hid hq10; have HR := Lib.hid hr10; have HB1 := Lib.hid (below_then (below_then (below_then HB.out (below_one _ _)) (below_one _ _)) hb10); have H1 := Lib.hid HB.out.size; have H2 := Lib.hid (Nat.le_succ_of_le HB.out.size); have NE := Lib.hid (Nat.ne_of_lt (Nat.lt_succ_self w9.heap.size)); have Z1 := Lib.hid ((ibox_zero2 w9).1.below hb10); have Z2 := Lib.hid ((ibox_zero2 w9).2.below hb10); (obtain ⟨_, _, _, _, LZ, _⟩ := Z1.out; obtain ⟨z0, z1, z2, z3⟩ := cells2 LZ; have hlt8 := Z1.out.lt; clear LZ); (obtain ⟨_, _, _, _, LZ2, _⟩ := Z2.out; obtain ⟨z4, z5, z6, z7⟩ := cells2 LZ2; have hlt9 := Z2.out.lt; clear LZ2); clear hq10 hr10 hb10 HB))
            all_goals
              go_wp2_with fail
              go_meet
              refine ⟨?_, rfl⟩
              (with_reducible first
                | exact twoi_end (twoi_two HX.out HR.out HB1.out)
                | exact twoi_end2 (twoi_two HR.out HX.out HB1.out)
                | exact twoi_end (twoi_pre1 Z1.out H1.out HX.out HR.out HB1.out)
                | exact twoi_end2 (twoi_pre1 Z1.out H1.out HR.out HX.out HB1.out)
                | exact twoi_end (twoi_pre2 Z1.out Z2.out H1.out H2.out HX.out HR.out HB1.out NE.out)
                | exact twoi_end (twoi_pre2 Z2.out Z1.out H2.out H1.out HX.out HR.out HB1.out (Ne.symm NE.out)))
          obtain ⟨⟨tq, tr, rfl, rfl, TQ, TR, BX⟩, rfl⟩ := hcut
          clear FRM DIV HB CELLS
          have N28 := Lib.hid (N27.out.below BX.out)
          have B28 := Lib.hid (below_cutN B27.out BX.out)
          clear N27 B27 BX TT27 G27
          by_cases hm0 : m = 0
          · subst hm0
            clear TQ TR DV
            go_wp2_with fail
            go_roundw
            case rel => exact ⟨j + 1, by go_num, by omega, N28, B28⟩
            case measure => simp [intOf]; omega
          · obtain ⟨h1, h2, h3⟩ := DV.out.ok hm0
            rw [h2] at TQ
            rw [h3] at TR
            rw [h1]
            have hm1 : (m != 0) = true := by simpa using hm0
            obtain ⟨sQ, aQ, mQ, kQ, ⟨cQ0, cQ1⟩, hQ⟩ := TQ.out.open
            obtain ⟨sA, aA, mA, kA, ⟨cA0, cA1⟩, hA⟩ := N28.out.na.box.open
            have HQ := Lib.hid hQ
            have HA := Lib.hid hA
            clear h1 h2 h3 hQ hA DV
            go_wp2_with fail
            refine (wCompare_any _ _ n n wc HQ.out HA.out SA.out.words SA.out.words).mono ?_
            rintro e w29 ⟨rfl, hb⟩
            rw [cmp_same]
            have TR29 := Lib.hid (TR.out.below hb)
            have N29 := Lib.hid (N28.out.below hb)
            have B29 := Lib.hid (below_cutN B28.out hb)
            obtain ⟨sR, aR, mR, kR, ⟨cR0, cR1⟩, hR⟩ := TR29.out.open
            have HR := Lib.hid hR
            clear hb hR cQ0 cQ1 cA0 cA1 N28 B28 TQ TR HQ HA
            go_wp2_with fail
            refine (wSign_any _ 0 w29 HR.out (small_of (n := 0) (K := 1) (by decide) (by decide)).words).mono ?_
            rintro e w30 ⟨rfl, hb⟩
            rw [cmp_same]
            have N30 := Lib.hid (N29.out.below hb)
            have B30 := Lib.hid (below_cutN B29.out hb)
            clear hb cR0 cR1 N29 B29 TR29 HR
            go_wp2_with fail
            go_roundw
            case rel => exact ⟨j + 1, by go_num, by omega, N30, B30⟩
            case measure => simp [intOf]; omega
        · obtain rfl : j = 2 := by omega
          go_wp2_with fail
          refine (lives5_any wr).mono ?_
          rintro e w90 ⟨rfl, hb⟩
          have B90 := Lib.hid (below_cutN B.out hb)
          clear hb
          go_wp2_with fail
          go_ret
          exact ⟨rfl, B90.out⟩
end Go.Proofs.YtjoablphojkimaaGreatDoor
