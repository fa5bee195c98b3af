/-
  The laws of package wide: an integer of the package for one of the reference (wider), and that both have one text (equal).
  The laws of package wide: the examples of the chapter (lives).
-/
import Derived.Test.YtldbhlafijjkdaaDoorTxH
import Derived.Test.YtldbhlafijjkdaaDoorTxA
import Derived.Test.YtldbhlafijjkdaaDoorNmQ
import Derived.Test.YtldbhlafijjkdaaDoorBgI
import Derived.Test.YtldbhlafijjkdaaDoorBgO
namespace Go.Proofs.YtldbhlafijjkdaaDoor
open Go.RowKit Go.Shelf
set_option linter.unusedVariables false
set_option maxRecDepth 100000

/-- An integer in range, whose text is short. -/
structure Small (n : Int) : Prop where
  notBig : ¬ big n
  digs : (digs n.natAbs).length ≤ 400000
  text : (txtN n).length ≤ 5000
theorem Small.words {n : Int} (h : Small n) : (digsW n.natAbs).length ≤ 400000 := by
  have := h.notBig
  unfold big at this
  omega
theorem two_ten {k m : Nat} (hk : k = 16384) (hm : m = 4950) : 2 ^ k < 10 ^ m := by subst hk; subst hm; decide +kernel
theorem two_four {k m : Nat} (hk : k = 16384) (hm : m = 5000) : 2 ^ k < 10000 ^ m := by subst hk; subst hm; decide +kernel
theorem small_lt {n : Int} {k : Nat} (hk : k = 16384) (h : n.natAbs < 2 ^ k) : Small n := by
  refine ⟨fun hb => ?_, ?_, ?_⟩
  · have := (big_pow (n := n) (k := k) (m := 512) rfl (by rw [hk])).1 hb
    omega
  · obtain ⟨m, hm⟩ : ∃ m, m = 5000 := ⟨_, rfl⟩
    have := digs_len_le (Nat.lt_trans h (two_four hk hm))
    omega
  · obtain ⟨m, hm⟩ : ∃ m, m = 4950 := ⟨_, rfl⟩
    have := txtN_len (n := n) (Nat.lt_trans h (two_ten hk hm)) (by omega)
    omega
theorem small_of {n : Int} {K : Nat} (h : n.natAbs ≤ 2 ^ K) (hK : K ≤ 16000) : Small n := by
  obtain ⟨k, hk⟩ : ∃ k, k = 16384 := ⟨_, rfl⟩
  exact small_lt hk (Nat.lt_of_le_of_lt h (Nat.pow_lt_pow_right (by decide) (by omega)))

def WiderEnd (n : Int) (w : World) (e : Ending) (w' : World) : Prop := ∃ b a m k, e = .returned (.tuple #[.agg #[.bool b, .slice a m k], .bool true]) ∧ IAt w' (.agg #[.bool b, .slice a m k]) n ∧ Below w.heap.size w w'
set_option maxHeartbeats 2000000 in
theorem wider_any (v : Value) (n : Int) (w : World) (hv : NAt w v n) (hs : Small n) :
    Calls Tryd.prog 21 #[v] w (WiderEnd n w) := by
  obtain ⟨s, a, m, k, rfl⟩ := nat_shape hv
  obtain ⟨w2, hw2⟩ : ∃ w2, w2 = (w.alloc (.cells #[.bool s, .slice a m k] 25)).alloc (.cells #[.bool false, .slice none 0 0] 33) := ⟨_, rfl⟩
  have hb2 : Below w.heap.size w w2 := by rw [hw2]; exact ((Below.refl _ w).alloc (Nat.le_refl _) _).alloc (by simp) _
  have hl1 : Laid w2 w.heap.size 25 [.bool s, .slice a m k] := by
    rw [hw2]
    exact (Laid.new w 25 [.bool s, .slice a m k]).below ((Below.refl _ _).alloc (Nat.le_refl _) _)
  have hl2 : Laid w2 (w.heap.size + 1) 33 [.bool false, .slice none 0 0] := by
    have := Laid.new (w.alloc (.cells #[.bool s, .slice a m k] 25)) 33 [.bool false, .slice none 0 0]
    rw [hw2]
    simpa using this
  have TX := text_any _ n w2 (nat_keeps hv hb2) (by have := hs.digs; omega)
  have HTX := Lib.hid TX
  have HPA : Hid (∀ w3, Calls Tryd.prog 12 #[.string (txtS n)] w3 (REndW n w3)) := Lib.hid (fun w3 => wParse_txt n w3 hs.text)
  have HNB := Lib.hid hs.notBig
  have HB2 := Lib.hid hb2
  have HL2 := Lib.hid hl2
  obtain ⟨c0, c1, _, _⟩ := cells2 hl1
  clear TX hv hs hb2 hl1 hl2
  generalize txtS n = T at *
  go_enter Tryd.func21, Tryd.ntmps21
  go_wp2_with fail
  rw [← hw2]
  clear hw2
  go_must (refine HTX.out.mono ?_)
  rintro e w3 ⟨rfl, hb3⟩
  have HB3 := Lib.hid (below_then HB2.out hb3)
  have HL3 := Lib.hid (HL2.out.below hb3)
  clear hb3 c0 c1 HTX HL2
  go_wp2_with fail
  go_must (refine (HPA.out w3).mono ?_)
  rintro e w4 hw4
  obtain ⟨b4, a4, m4, k4, c4, rfl, hx4, hb4⟩ := rend_form hw4
  have hx5 : c4 = 0 ∧ IAt w4 (.agg #[.bool b4, .slice a4 m4 k4]) n := by
    rcases hx4 with ⟨_, h1, h2⟩ | ⟨h, _⟩
    · exact ⟨h1, h2⟩
    · exact absurd h HNB.out
  obtain ⟨rfl, hx6⟩ := hx5
  obtain ⟨w5, hw5⟩ : ∃ w5, w5 = w4.alloc (.cells #[.bool b4, .slice a4 m4 k4] 33) := ⟨_, rfl⟩
  have hal : Below w4.heap.size w4 w5 := by rw [hw5]; exact (Below.refl _ w4).alloc (Nat.le_refl _) _
  have HB5 := Lib.hid (below_then (below_then HB3.out hb4) hal)
  have HL5 := Lib.hid ((HL3.out.below hb4).below hal)
  have hl6 : Laid w5 w4.heap.size 33 [.bool b4, .slice a4 m4 k4] := by rw [hw5]; exact Laid.new _ _ _
  obtain ⟨d0, d1, _, _⟩ := cells2 hl6
  obtain ⟨f0, f1, f2, f3⟩ := cells2 HL5.out
  have HX5 := Lib.hid (iat_keeps hx6 hal)
  have hlt5 : w.heap.size + 1 < w5.heap.size := HL5.out.lt
  have HE := Lib.hid (iat_store HL5.out HX5.out)
  have HBE : Hid (Below w.heap.size w ((w5.setCell ⟨w.heap.size + 1, 0, none⟩ (.bool b4)).setCell ⟨w.heap.size + 1, 1, none⟩ (.slice a4 m4 k4))) := Lib.hid ((HB5.out.setCell (p := ⟨w.heap.size + 1, 0, none⟩) (Nat.le_succ _) _).setCell (p := ⟨w.heap.size + 1, 1, none⟩) (Nat.le_succ _) _)
  subst hw5
  clear hw4 hx4 hb4 hx6 hal hl6 HPA hlt5
  go_wp2_with fail
  refine bodyPost_ret (v := .tuple #[.agg #[.bool b4, .slice a4 m4 k4], .bool true]) (by simp [results, Tryd.results21, go_sem, f0, f1]) rfl ?_
  exact ⟨b4, a4, m4, k4, rfl, HE.out, HBE.out⟩

/-- An integer of the package in a box. -/
def IBox (W : World) (b : Nat) (n : Int) : Prop := ∃ (s : Bool) (a : Option Addr) (m c : Nat), Laid W b 33 [.bool s, .slice a m c] ∧ IAt W (.agg #[.bool s, .slice a m c]) n
theorem IBox.below {W W2 : World} {b : Nat} {n : Int} (h : IBox W b n) (hb : Below W.heap.size W W2) : IBox W2 b n := by
  obtain ⟨s, a, m, c, h1, h2⟩ := h
  exact ⟨s, a, m, c, h1.below hb, iat_keeps h2 hb⟩
theorem IBox.lt {W : World} {b : Nat} {n : Int} (h : IBox W b n) : b < W.heap.size := by obtain ⟨_, _, _, _, h, _⟩ := h; exact h.lt
theorem IBox.new {W : World} {n : Int} {s : Bool} {a : Option Addr} {m c : Nat} (hx : IAt W (.agg #[.bool s, .slice a m c]) n) : IBox (W.alloc (.cells #[.bool s, .slice a m c] 33)) W.heap.size n :=
  ⟨s, a, m, c, Laid.new _ _ _, iat_keeps hx ((Below.refl _ _).alloc (Nat.le_refl _) _)⟩
theorem IBox.open {W : World} {b : Nat} {n : Int} (h : IBox W b n) : ∃ (s : Bool) (a : Option Addr) (m c : Nat), (W.cell? ⟨b, 0, none⟩ = some (.bool s) ∧ W.cell? ⟨b, 1, none⟩ = some (.slice a m c)) ∧ IAt W (.agg #[.bool s, .slice a m c]) n := by
  obtain ⟨s, a, m, c, h1, h2⟩ := h
  obtain ⟨e1, e2, _, _⟩ := cells2 h1
  exact ⟨s, a, m, c, ⟨e1, e2⟩, h2⟩
theorem below_one (W : World) (o : Obj) : Below W.heap.size W (W.alloc o) := (Below.refl _ W).alloc (Nat.le_refl _) _
theorem ibox_two {W : World} {n m : Int} {s t : Bool} {a b : Option Addr} {i j c d : Nat} (hx : IAt W (.agg #[.bool s, .slice a i c]) n) (hy : IAt W (.agg #[.bool t, .slice b j d]) m) :
    IBox ((W.alloc (.cells #[.bool s, .slice a i c] 33)).alloc (.cells #[.bool t, .slice b j d] 33)) W.heap.size n ∧ IBox ((W.alloc (.cells #[.bool s, .slice a i c] 33)).alloc (.cells #[.bool t, .slice b j d] 33)) (W.heap.size + 1) m ∧ Below W.heap.size W ((W.alloc (.cells #[.bool s, .slice a i c] 33)).alloc (.cells #[.bool t, .slice b j d] 33)) := by
  refine ⟨(IBox.new hx).below (below_one _ _), ?_, below_then (below_one _ _) (below_one _ _)⟩
  have := IBox.new (iat_keeps hy (below_one W (.cells #[.bool s, .slice a i c] 33)))
  simpa using this

/-- Both have one text. -/
def TrueEnd (w : World) (e : Ending) (w' : World) : Prop := e = .returned (.bool true) ∧ Below w.heap.size w w'
set_option maxHeartbeats 2000000 in
theorem equal_any (x y : Value) (w : World) (h : ∃ n, IAt w x n ∧ NAt w y n ∧ (digsW n.natAbs).length ≤ 400000 ∧ (digs n.natAbs).length ≤ 500000) :
    Calls Tryd.prog 14 #[x, y] w (TrueEnd w) := by
  obtain ⟨n, hx, hy, h1, h2⟩ := h
  obtain ⟨s, a, m, k, rfl⟩ := nat_shape hy
  obtain ⟨ax, cx, rfl, _⟩ := iat_form hx
  obtain ⟨na, hna⟩ : ∃ t, decide (n < 0) = t := ⟨_, rfl⟩
  obtain ⟨la, hla⟩ : ∃ t, (digsW n.natAbs).length = t := ⟨_, rfl⟩
  rw [hna, hla] at hx ⊢
  obtain ⟨w2, hw2⟩ : ∃ w2, w2 = (w.alloc (.cells #[.bool na, .slice ax la cx] 33)).alloc (.cells #[.bool s, .slice a m k] 25) := ⟨_, rfl⟩
  have hb2 : Below w.heap.size w w2 := by rw [hw2]; exact ((Below.refl _ w).alloc (Nat.le_refl _) _).alloc (by simp) _
  have hl1 : Laid w2 w.heap.size 33 [.bool na, .slice ax la cx] := by
    rw [hw2]
    exact (Laid.new w 33 [.bool na, .slice ax la cx]).below ((Below.refl _ _).alloc (Nat.le_refl _) _)
  have hl2 : Laid w2 (w.heap.size + 1) 25 [.bool s, .slice a m k] := by
    have := Laid.new (w.alloc (.cells #[.bool na, .slice ax la cx] 33)) 25 [.bool s, .slice a m k]
    rw [hw2]
    simpa using this
  have STR : Hid (∀ w3, Below w2.heap.size w2 w3 → Calls Tryd.prog 15 #[.agg #[.bool na, .slice ax la cx]] w3 fun e w' => e = .returned (.string (txtS n)) ∧ Below w3.heap.size w3 w') := Lib.hid (fun w3 hb => wString_any _ n w3 (iat_keeps (iat_keeps hx hb2) hb) h1)
  have TXT : Hid (∀ w3, Below w2.heap.size w2 w3 → Calls Tryd.prog 8 #[.agg #[.bool s, .slice a m k]] w3 fun e w' => e = .returned (.string (txtS n)) ∧ Below w3.heap.size w3 w') := Lib.hid (fun w3 hb => text_any _ n w3 (nat_keeps (nat_keeps hy hb2) hb) h2)
  have CELLS : Hid (∀ w3, Below w2.heap.size w2 w3 → w3.cell? ⟨w.heap.size, 0, none⟩ = some (.bool na) ∧ w3.cell? ⟨w.heap.size, 1, none⟩ = some (.slice ax la cx) ∧ w3.cell? ⟨w.heap.size + 1, 0, none⟩ = some (.bool s) ∧ w3.cell? ⟨w.heap.size + 1, 1, none⟩ = some (.slice a m k)) := Lib.hid (fun w3 hb => by
    obtain ⟨e1, e2, _, _⟩ := cells2 (hl1.below hb)
    obtain ⟨e3, e4, _, _⟩ := cells2 (hl2.below hb)
    exact ⟨e1, e2, e3, e4⟩)
  have HB : Hid (Below w2.heap.size w2 w2.drew) := Lib.hid (Below.refl _ _).drew
  have HB2 := Lib.hid hb2
  clear hb2 hl1 hl2 hx hy h1 h2 hna hla
  generalize txtS n = T at *
  go_enter Tryd.func14, Tryd.ntmps14
  go_wp2_with fail
  rw [← hw2]
  clear hw2
  go_region_held3 (fun w' : World => w'.cell? ⟨w.heap.size, 0, none⟩ = some (.bool na) ∧ w'.cell? ⟨w.heap.size, 1, none⟩ = some (.slice ax la cx) ∧ w'.cell? ⟨w.heap.size + 1, 0, none⟩ = some (.bool s) ∧ w'.cell? ⟨w.heap.size + 1, 1, none⟩ = some (.slice a m k)) (first | exact CELLS.out _ HB.out) (first
    | (go_at_call 15; refine (STR.out _ HB.out).mono ?_; rintro e w3 ⟨rfl, hb3⟩; have HB3 := Lib.hid (below_then HB.out hb3); clear hb3 HB; have HB := HB3; clear HB3)
    | (go_at_call 8; refine (TXT.out _ HB.out).mono ?_; rintro e w4 ⟨rfl, hb4⟩; have HB4 := Lib.hid (below_then HB.out hb4); clear hb4 HB; have HB := HB4; clear HB4))
  all_goals
    have HE := Lib.hid (HB2.out.trans (HB.out.mono HB2.out.size))
    go_wp2_with fail
    go_ret
    exact ⟨rfl, HE.out⟩

theorem txtS_of {n : Int} {l : List Nat} {s : ByteArray} (h : txtN n = l) (hs : strOfNums (natI l) = s) : txtS n = s := by
  unfold txtS; rw [h, hs]
theorem numT_ok {c : Nat} {l : List Nat} (h : ∀ x ∈ c :: l, 48 ≤ x ∧ x ≤ 57) (h0 : c = 48 → l = []) : numT (c :: l) := by
  refine ⟨by simp, fun x hx => h x hx, fun e => ?_⟩
  have : c = 48 := by simpa using e
  rw [h0 this]; rfl
theorem txt_m4 : txtS (-4) = { data := #[45, 52] } := txtS_of ((txt_num (numT_ok (c := 52) (l := []) (by decide) (by decide))).2 (by decide)) rfl
theorem txt_m3 : txtS (-3) = { data := #[45, 51] } := txtS_of ((txt_num (numT_ok (c := 51) (l := []) (by decide) (by decide))).2 (by decide)) rfl
theorem txt_1 : txtS 1 = { data := #[49] } := txtS_of ((txt_num (numT_ok (c := 49) (l := []) (by decide) (by decide))).1) rfl
theorem txt_18 : txtS 18446744073709551616 = { data := #[49, 56, 52, 52, 54, 55, 52, 52, 48, 55, 51, 55, 48, 57, 53, 53, 49, 54, 49, 54] } :=
  txtS_of ((txt_num (numT_ok (c := 49) (l := [56, 52, 52, 54, 55, 52, 52, 48, 55, 51, 55, 48, 57, 53, 53, 49, 54, 49, 54]) (by decide) (by decide))).1) rfl
theorem txt_head {n : Int} : txtN n ≠ [45, 48] ∧ txtN n ≠ [48, 49] := by
  have hz : ∀ m : Nat, decN m ≠ [48, 49] := fun m e => by
    have := (decN_num m).2.2 (by rw [e]; rfl)
    rw [e] at this
    simp at this
  rcases txt_good n with ⟨h0, h1, h2⟩ | ⟨h0, h1, h2⟩
  · rw [h1]
    exact ⟨fun e => h2 (List.cons.inj e).2, fun e => by have := (List.cons.inj e).1; omega⟩
  · rw [h1]
    exact ⟨fun e => h2 (by rw [e]; rfl), hz _⟩
theorem words_of {n : Int} {K : Nat} (h : n.natAbs ≤ 2 ^ K) (hK : K ≤ 16000) : (digsW n.natAbs).length ≤ 400000 := (small_of h hK).words
theorem small_big {n : Int} {K : Nat} (h : n.natAbs ≤ 2 ^ K) (hK : K ≤ 16000) : ¬ big n := (small_of h hK).notBig

set_option maxHeartbeats 2000000 in
theorem lives_any (w : World) : Calls Tryd.prog 16 #[] w (TrueEnd w) := by
  have FR : Hid (∀ (n : Int) w1, n.natAbs ≤ 2 ^ 32 → Calls Tryd.prog 17 #[.int .i64 n] w1 (IEnd n w1)) := Lib.hid (fun n w1 h => wFrom_any n w1 (by have h2 : (2 : Nat) ^ 32 = 4294967296 := (by decide); rw [h2] at h; omega))
  have DV : Hid (∀ (a b q r : Int) x y w1, IAt w1 x a → IAt w1 y b → a.natAbs ≤ 2 ^ 32 → b.natAbs ≤ 2 ^ 32 → b ≠ 0 → a / b = q → a % b = r → Calls Tryd.prog 25 #[x, y] w1 (fun e w' => ∃ bq aq mq kq br ar mr kr, e = .returned (.tuple #[.agg #[.bool bq, .slice aq mq kq], .agg #[.bool br, .slice ar mr kr], .int .i64 0]) ∧ IAt w' (.agg #[.bool bq, .slice aq mq kq]) q ∧ IAt w' (.agg #[.bool br, .slice ar mr kr]) r ∧ Below w1.heap.size w1 w')) := Lib.hid (fun a b q r x y w1 hx hy ha hb h0 hq hr => by
    have := wDiv_any x y a b w1 hx hy (words_of ha (by decide)) (words_of hb (by decide)) h0
    unfold DivEndW at this
    rw [hq, hr] at this
    exact this)
  have ST : Hid (∀ (n : Int) (T : ByteArray) x w1, IAt w1 x n → n.natAbs ≤ 2 ^ 64 → txtS n = T → Calls Tryd.prog 15 #[x] w1 (fun e w' => e = .returned (.string T) ∧ Below w1.heap.size w1 w')) := Lib.hid (fun n T x w1 hx hn ht => by
    have := wString_any x n w1 hx (words_of hn (by decide))
    unfold TxtEnd at this
    rw [ht] at this
    exact this)
  unfold IEnd at FR
  go_enter Tryd.func16, Tryd.ntmps16
  go_wp2_with fail
  go_must (refine (FR.out (-7) w (by decide)).mono ?_)
  rintro e w1 ⟨b1, a1, m1, k1, rfl, hx1, hb1⟩
  have HX := Lib.hid hx1
  have HB := Lib.hid hb1
  clear hx1 hb1
  go_wp2_with fail
  go_must (refine (FR.out 2 w1 (by decide)).mono ?_)
  rintro e w2 ⟨b2, a2, m2, k2, rfl, hx2, hb2⟩
  have DV1 := Lib.hid (DV.out (-7) 2 (-4) 1 _ _ w2 (iat_keeps HX.out hb2) hx2 (by decide) (by decide) (by decide) (by decide) (by decide))
  have HB2 := Lib.hid (below_then HB.out hb2)
  clear hx2 hb2 HX HB
  go_wp2_with fail
  go_must (refine DV1.out.mono ?_)
  rintro e w3 ⟨bq, aq, mq, kq, br, ar, mr, kr, rfl, hq, hr, hb3⟩
  obtain ⟨p1, p2, p3⟩ := ibox_two hq hr
  have T1 := Lib.hid p1
  have T2 := Lib.hid p2
  have HB := Lib.hid (below_then (below_then HB2.out hb3) p3)
  clear hq hr hb3 HB2 DV1 p1 p2 p3
  go_wp2_with fail
  generalize (w3.alloc (.cells #[.bool bq, .slice aq mq kq] 33)).alloc (.cells #[.bool br, .slice ar mr kr] 33) = W at *
  generalize w3.heap.size = t1 at *
  go_must (refine (FR.out 7 W (by decide)).mono ?_)
  rintro e w1 ⟨b1, a1, m1, k1, rfl, hx1, hb1⟩
  have HX := Lib.hid hx1
  have HB1 := Lib.hid hb1
  clear hx1 hb1
  go_wp2_with fail
  go_must (refine (FR.out (-2) w1 (by decide)).mono ?_)
  rintro e w2 ⟨b2, a2, m2, k2, rfl, hx2, hb2⟩
  have DV1 := Lib.hid (DV.out 7 (-2) (-3) 1 _ _ w2 (iat_keeps HX.out hb2) hx2 (by decide) (by decide) (by decide) (by decide) (by decide))
  have HB2 := Lib.hid (below_then HB1.out hb2)
  clear hx2 hb2 HX HB1
  go_wp2_with fail
  go_must (refine DV1.out.mono ?_)
  rintro e w3 ⟨bq, aq, mq, kq, br, ar, mr, kr, rfl, hq, hr, hb3⟩
  obtain ⟨p1, p2, p3⟩ := ibox_two hq hr
  have HBB := below_then (below_then HB2.out hb3) p3
  have T4 := Lib.hid p1
  have T5 := Lib.hid p2
  have T1' := Lib.hid (T1.out.below HBB)
  have T2' := Lib.hid (T2.out.below HBB)
  have HB' := Lib.hid (below_then HB.out HBB)
  clear hq hr hb3 HB2 DV1 p1 p2 p3 T1 T2 HB HBB
  go_wp2_with fail
  generalize (w3.alloc (.cells #[.bool bq, .slice aq mq kq] 33)).alloc (.cells #[.bool br, .slice ar mr kr] 33) = W2 at *
  generalize w3.heap.size = t4 at *
  go_must (refine (FR.out 4294967296 W2 (by decide)).mono ?_)
  rintro e w1 ⟨b1, a1, m1, k1, rfl, hx1, hb1⟩
  have HX := Lib.hid hx1
  have HB1 := Lib.hid hb1
  clear hx1 hb1
  go_wp2_with fail
  go_must (refine (FR.out 4294967296 w1 (by decide)).mono ?_)
  rintro e w2 ⟨b2, a2, m2, k2, rfl, hx2, hb2⟩
  have MU := wMul_any _ _ 4294967296 4294967296 w2 (iat_keeps HX.out hb2) hx2 (words_of (K := 32) (by decide) (by decide)) (words_of (K := 32) (by decide) (by decide))
  rw [show (4294967296 : Int) * 4294967296 = 18446744073709551616 by decide] at MU
  have HMU := Lib.hid MU
  have HB2 := Lib.hid (below_then HB1.out hb2)
  clear hx2 hb2 HX HB1 MU
  go_wp2_with fail
  go_must (refine HMU.out.mono ?_)
  rintro e w3 hw3
  obtain ⟨b4, a4, m4, k4, c4, rfl, hx4, hb4⟩ := rend_form hw3
  have hx5 : c4 = 0 ∧ IAt w3 (.agg #[.bool b4, .slice a4 m4 k4]) 18446744073709551616 := by
    rcases hx4 with ⟨_, h1, h2⟩ | ⟨h, _⟩
    · exact ⟨h1, h2⟩
    · exact absurd h (small_big (K := 64) (by decide) (by decide))
  obtain ⟨rfl, hx6⟩ := hx5
  have HBB := below_then (below_then HB2.out hb4) (below_one w3 (.cells #[.bool b4, .slice a4 m4 k4] 33))
  have T7 := Lib.hid (IBox.new hx6)
  have T1 := Lib.hid (T1'.out.below HBB)
  have T2 := Lib.hid (T2'.out.below HBB)
  have T4' := Lib.hid (T4.out.below HBB)
  have T5' := Lib.hid (T5.out.below HBB)
  have HB := Lib.hid (below_then HB'.out HBB)
  clear T4 T5
  have T4 := T4'
  have T5 := T5'
  obtain ⟨c0, c1, _, _⟩ := cells2 (Laid.new w3 33 [.bool b4, .slice a4 m4 k4])
  have SM := wSmall_any _ 18446744073709551616 _ (iat_keeps hx6 (below_one w3 (.cells #[.bool b4, .slice a4 m4 k4] 33)))
  rw [show smallV 18446744073709551616 = .tuple #[.int .i64 0, .bool false] by rfl] at SM
  have HSM := Lib.hid SM
  clear hw3 hx4 hb4 hx6 HBB T1' T2' T4' T5' HB' HB2 HMU SM
  go_wp2_with fail
  generalize w3.alloc (.cells #[.bool b4, .slice a4 m4 k4] 33) = W3 at *
  generalize w3.heap.size = t7 at *
  go_must (refine HSM.out.mono ?_)
  rintro e w1 ⟨rfl, hb1⟩
  have PB : Hid (∀ (s : ByteArray) w5, (∀ n, strB s ≠ txtN n) → s.size ≤ 5000 → Calls Tryd.prog 12 #[.string s] w5 (BadEnd w5)) := Lib.hid (fun s w5 h1 h2 => wParse_bad s w5 h1 h2)
  unfold BadEnd at PB
  have P1 := Lib.hid (PB.out { data := #[45, 48] } w1 (fun n h => txt_head.1 h.symm) (by decide))
  have HB1 := Lib.hid (below_then HB.out hb1)
  have K1 := Lib.hid hb1
  clear hb1 HSM c0 c1 HB
  go_wp2_with fail
  go_must (refine P1.out.mono ?_)
  rintro e w2 ⟨rfl, hb2⟩
  have HBB := below_then hb2 (below_one w2 (.cells #[.bool false, .slice none 0 0] 33))
  have HB2 := Lib.hid (below_then HB1.out HBB)
  have K2 := Lib.hid (below_then K1.out HBB)
  clear hb2 HBB HB1 K1 P1
  go_wp2_with fail
  generalize w2.alloc (.cells #[.bool false, .slice none 0 0] 33) = W4 at *
  go_must (refine (PB.out { data := #[48, 49] } W4 (fun n h => txt_head.2 h.symm) (by decide)).mono ?_)
  rintro e w5 ⟨rfl, hb5⟩
  have HBB := below_then hb5 (below_one w5 (.cells #[.bool false, .slice none 0 0] 33))
  have HB3 := Lib.hid (below_then HB2.out HBB)
  have K3 := Lib.hid (below_then K2.out HBB)
  have U1 := Lib.hid (T1.out.below K3.out)
  have U2 := Lib.hid (T2.out.below K3.out)
  have U4 := Lib.hid (T4.out.below K3.out)
  have U5 := Lib.hid (T5.out.below K3.out)
  have U7 := Lib.hid (T7.out.below K3.out)
  obtain ⟨s1, x1, n1, y1, ⟨c0, c1⟩, hi1⟩ := U1.out.open
  have S1 := Lib.hid (ST.out (-4) _ _ _ hi1 (by decide) txt_m4)
  clear hb5 HBB HB2 K2 K3 T1 T2 T4 T5 T7 PB hi1
  go_wp2_with fail
  generalize w5.alloc (.cells #[.bool false, .slice none 0 0] 33) = W5 at *
  go_must (refine S1.out.mono ?_)
  rintro e w6 ⟨rfl, hb6⟩
  obtain ⟨s2, x2, n2, y2, ⟨c0, c1⟩, hi2⟩ := (U2.out.below hb6).open
  have S2 := Lib.hid (ST.out 1 _ _ _ hi2 (by decide) txt_1)
  have HB6 := Lib.hid hb6
  clear hb6 S1 hi2
  go_wp2_with fail
  go_must (refine S2.out.mono ?_)
  rintro e w7 ⟨rfl, hb7⟩
  have HB7 := Lib.hid (below_then HB6.out hb7)
  obtain ⟨s4, x4, n4, y4, ⟨c2, c3⟩, hi4⟩ := (U4.out.below HB7.out).open
  have S4 := Lib.hid (ST.out (-3) _ _ _ hi4 (by decide) txt_m3)
  clear hb7 S2 hi4 c0 c1 HB6
  go_wp2_with fail
  go_must (refine S4.out.mono ?_)
  rintro e w8 ⟨rfl, hb8⟩
  have HB8 := Lib.hid (below_then HB7.out hb8)
  obtain ⟨s5, x5, n5, y5, ⟨c0, c1⟩, hi5⟩ := (U5.out.below HB8.out).open
  have S5 := Lib.hid (ST.out 1 _ _ _ hi5 (by decide) txt_1)
  clear hb8 S4 hi5 c2 c3 HB7
  go_wp2_with fail
  go_must (refine S5.out.mono ?_)
  rintro e w9 ⟨rfl, hb9⟩
  have HB9 := Lib.hid (below_then HB8.out hb9)
  obtain ⟨s7, x7, n7, y7, ⟨c2, c3⟩, hi7⟩ := (U7.out.below HB9.out).open
  have S7 := Lib.hid (ST.out 18446744073709551616 _ _ _ hi7 (by decide) txt_18)
  clear hb9 S5 hi7 c0 c1 HB8
  go_wp2_with fail
  go_must (refine S7.out.mono ?_)
  rintro e w10 ⟨rfl, hb10⟩
  have HB10 := Lib.hid (below_then HB9.out hb10)
  have HE := Lib.hid (below_then HB3.out HB10.out)
  clear hb10 S7 c2 c3 HB9
  go_wp2_with fail
  go_ret
  exact ⟨rfl, HE.out⟩
end Go.Proofs.YtldbhlafijjkdaaDoor
