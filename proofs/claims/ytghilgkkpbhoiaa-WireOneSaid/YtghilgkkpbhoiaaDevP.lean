/-
  The walk of the law WireRound.
-/
import Derived.Test.YtghilgkkpbhoiaaDevO
namespace Go.Proofs.Ytghilgkkpbhoiaa
open Go.RowKit Go.Shelf
set_option linter.unusedVariables false

theorem row_short {k : IntKind} {w : World} {v : Value} {zs : List Int} (h : Row k w v zs) : zs.length ≤ 9223372036854775807 := by
  obtain ⟨a, cap, _, h2, h3, _⟩ := h
  omega
theorem laid_vals (W : World) (qs : List (Value × Value)) (ys : List VV) {cs : Array Value} (hcs : cs = (flatV qs ys).toArray) : Laid (W.alloc (.cells cs 28)) W.heap.size 28 (flatV qs ys) := by
  subst hcs
  exact Laid.new W _ _
theorem gv_own {lo hi : Nat} {W : World} {v : Value} {xs : List VV} (h : Gv lo hi W v xs) : ∀ k, v.ownBlock = some k → lo ≤ k ∧ k < hi := by
  obtain ⟨ps, h1, h2, _⟩ := h
  exact fun k hk => ⟨(h1.lt k hk).1, h2 k hk⟩
theorem all_two {xs : List VV} {u : Nat} {n : Int} (h : ∀ x ∈ xs, x.ok ∧ x.proper) (h1 : (⟨0, u, 0, [], []⟩ : VV).ok) (h2 : (⟨1, 0, n, [], []⟩ : VV).ok) : ∀ x ∈ xs ++ [⟨0, u, 0, [], []⟩, ⟨1, 0, n, [], []⟩], x.ok ∧ x.proper := by
  intro x hx
  rcases List.mem_append.1 hx with hx | hx
  · exact h x hx
  · rcases List.mem_cons.1 hx with rfl | hx
    · exact ⟨h1, .inl ⟨rfl, rfl, rfl, rfl⟩⟩
    · have : x = ⟨1, 0, n, [], []⟩ := by simpa using hx
      subst this
      exact ⟨h2, .inr (.inl ⟨rfl, rfl, rfl, rfl⟩)⟩
theorem part_nil (lo hi : Nat) (W : World) (o : Option Nat) {y : VV} (h1 : y.b = []) (h2 : y.l = []) : PartG lo hi W o (.slice none 0 0, .slice none 0 0) y :=
  ⟨by rw [h1]; exact row_none _ _, by rw [h2]; exact row_none _ _, fun j hj => by rcases hj with h | h <;> exact h.elim⟩
theorem parts_nils (lo hi : Nat) (W : World) (o : Option Nat) (u : Nat) (n : Int) : ∀ j, (hp : j < [((.slice none 0 0, .slice none 0 0) : Value × Value), (.slice none 0 0, .slice none 0 0)].length) → (hx : j < [(⟨0, u, 0, [], []⟩ : VV), ⟨1, 0, n, [], []⟩].length) →
    PartG lo hi W o [((.slice none 0 0, .slice none 0 0) : Value × Value), (.slice none 0 0, .slice none 0 0)][j] [(⟨0, u, 0, [], []⟩ : VV), ⟨1, 0, n, [], []⟩][j] := by
  intro j hp hx
  have : j = 0 ∨ j = 1 := by simp at hp; omega
  rcases this with rfl | rfl
  · exact part_nil _ _ _ _ rfl rfl
  · exact part_nil _ _ _ _ rfl rfl

theorem encV_lt {v : VV} (h : v.ok) : ∀ c ∈ encV v, c < 256 := by
  intro c hc
  unfold encV at hc
  split at hc
  · exact varN_lt _ c hc
  · split at hc
    · exact varN_lt _ c hc
    · split at hc
      · simp only [boolN, List.mem_singleton] at hc
        subst hc
        split <;> omega
      · split at hc
        · rcases List.mem_append.1 hc with hc | hc
          · exact varN_lt _ c hc
          · exact h.b c hc
        · rcases List.mem_append.1 hc with hc | hc
          · exact varN_lt _ c hc
          · exact zigsN_lt _ c hc
theorem encAll_lt {xs : List VV} (h : ∀ x ∈ xs, x.ok) : ∀ c ∈ encAll xs, c < 256 := by
  intro c hc
  obtain ⟨x, hx, hc⟩ := List.mem_flatMap.1 hc
  exact encV_lt (h x hx) c hc
theorem encAll_drop {xs : List VV} {k : Nat} (hk : k < xs.length) : encAll (xs.drop k) = encV xs[k] ++ encAll (xs.drop (k + 1)) := by
  rw [List.drop_eq_getElem_cons hk]; rfl
/-- A proper value is read back. -/
theorem rRead_round {x : VV} (ok : x.ok) (hp : x.proper) (r : List Nat) : rRead x.kind (encV x ++ r, 0) = (x, (r, 0)) := by
  obtain ⟨kind, u, n, b, l⟩ := x
  have hu : u < 18446744073709551616 := ok.u
  have hn : -9223372036854775808 ≤ n ∧ n ≤ 9223372036854775807 := ok.n
  have hbl : b.length ≤ 1000 := ok.bl
  have hll : l.length ≤ 1000 := ok.ll
  have hlr : ∀ n ∈ l, -9223372036854775808 ≤ n ∧ n ≤ 9223372036854775807 := ok.l
  clear ok
  unfold VV.proper at hp
  simp only at hp
  rcases hp with ⟨rfl, rfl, rfl, rfl⟩ | ⟨rfl, rfl, rfl, rfl⟩ | ⟨rfl, rfl, hn2, rfl, rfl⟩ | ⟨hk, rfl, rfl, rfl⟩ | ⟨rfl, rfl, rfl, rfl⟩
  · show ((⟨0, (rUint (varN u ++ r, 0)).1, 0, [], []⟩ : VV), (rUint (varN u ++ r, 0)).2) = _
    rw [rUint_round hu]
  · show ((⟨1, 0, (rInt (varN (zigN n) ++ r, 0)).1, [], []⟩ : VV), (rInt (varN (zigN n) ++ r, 0)).2) = _
    rw [rInt_round hn]
  · show ((⟨2, 0, if (rBool (boolN (decide (n = 1)) ++ r, 0)).1 then 1 else 0, [], []⟩ : VV), (rBool (boolN (decide (n = 1)) ++ r, 0)).2) = _
    rw [rBool_round]
    rcases hn2 with rfl | rfl <;> rfl
  · have e1 : encV ⟨kind, 0, 0, b, []⟩ = varN b.length ++ b := by rcases hk with rfl | rfl <;> rfl
    have e2 : ∀ s, rRead kind s = (⟨kind, 0, 0, (rRaw s).1, []⟩, (rRaw s).2) := by rcases hk with rfl | rfl <;> exact fun s => rfl
    rw [e1, e2, rRaw_round (by omega)]
  · show ((⟨5, 0, 0, [], (rInts (varN l.length ++ zigsN l ++ r, 0)).1⟩ : VV), (rInts (varN l.length ++ zigsN l ++ r, 0)).2) = _
    rw [rInts_round (by omega) hlr]

set_option maxRecDepth 100000 in
set_option maxHeartbeats 8000000 in
theorem walk_WireRound (v : Value) (l : List Int) (u n : Int) (w : World) (hv : Row .i64 w v l) (hl : ∀ n ∈ l, -9223372036854775808 ≤ n ∧ n ≤ 9223372036854775807) (hu : 0 ≤ u ∧ u ≤ 18446744073709551615) (hn : -9223372036854775808 ≤ n ∧ n ≤ 9223372036854775807) :
    Calls Try.prog 5 #[v, .int .u64 u, .int .i64 n] w fun e w' => e = .returned (.bool true) ∧ Below w.heap.size w w' := by
  obtain ⟨u, rfl⟩ : ∃ x : Nat, u = (x : Int) := ⟨u.toNat, by omega⟩
  have hu2 : u < 18446744073709551616 := by omega
  have HN := Lib.hid hn
  have HV := Lib.hid (refVals_any v l w hv hl (row_short hv))
  clear hv hl hn hu
  go_enter Try.func5, Try.ntmps5
  go_wp2_with fail
  refine HV.out.mono ?_
  rintro e w1 ⟨v1, xs, rfl, hfv, hb1, hxl, hok⟩
  have hs1 := hb1.size
  have HOK := Lib.hid hok
  have HG1 := Lib.hid (gv_of_freshV hfv)
  clear hfv HV hok
  have hlit := laid_vals w1 [(.slice none 0 0, .slice none 0 0), (.slice none 0 0, .slice none 0 0)] [⟨0, u, 0, [], []⟩, ⟨1, 0, n, [], []⟩] (cs := #[.int .i64 0, .int .u64 (u : Int), .int .i64 0, .slice none 0 0, .slice none 0 0, .int .i64 1, .int .u64 0, .int .i64 n, .slice none 0 0, .slice none 0 0]) rfl
  have HLIT := Lib.hid hlit
  have hbL : Below w1.heap.size w1 (w1.alloc (.cells #[.int .i64 0, .int .u64 (u : Int), .int .i64 0, .slice none 0 0, .slice none 0 0, .int .i64 1, .int .u64 0, .int .i64 n, .slice none 0 0, .slice none 0 0] 28)) := (Below.refl _ w1).alloc (Nat.le_refl _) _
  have HG2 := Lib.hid (gv_keeps HG1.out (Keeps.of_below hbL) (fun k _ h1 h2 => by omega))
  clear hlit hbL HG1
  go_wp2_with (at_builtin; go_must (refine wpList_append_gv rfl _ _ rfl w.heap.size w1.heap.size w1.heap.size v1 xs rfl HG2.out w1.heap.size 2 2 rfl [(.slice none 0 0, .slice none 0 0), (.slice none 0 0, .slice none 0 0)] [⟨0, u, 0, [], []⟩, ⟨1, 0, n, [], []⟩] rfl rfl HLIT.out (by simp [flatV, cellsV, Value.oneCell']) (parts_nils _ _ _ _ _ _) (Nat.le_refl _) (by simp) (by omega) (by simp; omega) ?_); intro a2 n2 c2 w2 hn2 hg2 hgrow; have hb2 : Below w.heap.size w w2 := (below_foot hb1 (Keeps.of_below ((Below.refl _ w1).alloc (Nat.le_refl _) (.cells #[.int .i64 0, .int .u64 (u : Int), .int .i64 0, .slice none 0 0, .slice none 0 0, .int .i64 1, .int .u64 0, .int .i64 n, .slice none 0 0, .slice none 0 0] 28))) hs1 (fun k hk => by omega)).grown hgrow (by simp; omega) (fun k hk => by have := gv_own HG2.out k hk; exact this.1); have hal : (xs ++ [⟨0, u, 0, [], []⟩, ⟨1, 0, n, [], []⟩] : List VV).length ≤ 10 := (by rw [List.length_append]; simp; omega); have HAOK := Lib.hid (all_two HOK.out (ok_small hu2 (by decide)) (ok_small (k := 1) (by decide) HN.out)); generalize (xs ++ [⟨0, u, 0, [], []⟩, ⟨1, 0, n, [], []⟩] : List VV) = all at *; subst hn2; have HG := Lib.hid hg2; clear hg2 hgrow HLIT HG2 HOK hb1)
  have HA8 := Lib.hid (encAll_lt (fun x hx => (HAOK.out x hx).1))
  have HAL := Lib.hid (encAll_len (fun x hx => (HAOK.out x hx).1))
  refine (encode_any w.heap.size w2.heap.size _ all w2 HG.out (fun x hx => (HAOK.out x hx).1) (by omega)).mono ?_
  rintro e w3 ⟨v3, rfl, hv3, hb⟩
  have hb3 := below_foot hb2 (Keeps.of_below hb) hb2.size (fun k hk => by have := hb2.size; omega)
  have HG3 := Lib.hid (gv_keeps HG.out (Keeps.of_below hb) (fun k _ h1 h2 => by omega))
  have HV3 := Lib.hid (row_of_fresh hv3)
  have hs3 := hb.size
  have hs2 := hb2.size
  clear hb hv3 hb2 HG
  go_wp2_with fail
  refine (devRead_any v3 (encAll all) w3 HV3.out HA8.out (by have := HAL.out; omega)).mono ?_
  rintro e w4 ⟨r, b, rfl, hr, hrB, hbB, hbl, hb⟩
  have hb4 := below_foot hb3 (Keeps.of_below hb) (by omega) (fun k hk => by omega)
  have HG4 := Lib.hid (gv_keeps HG3.out (Keeps.of_below hb) (fun k _ h1 h2 => by omega))
  have HR4 := Lib.hid (rx_of hr)
  have hs4 := hb.size
  clear hb hr hb3 HG3 HV3
  go_wp2_with fail
  go_loopw [9] (fun iv wr => ∃ k : Nat, k ≤ all.length ∧ iv = .int .i64 (k : Int) ∧ Hid (Rx wr r b (encAll (all.drop k), 0)) ∧ Hid (Gv w.heap.size w2.heap.size wr (.slice a2 all.length c2) all) ∧ Hid (Keeps (fun k => k = r) w4 wr)) (fun iv _ => all.length - (intOf iv).toNat)
  case atStart => exact ⟨0, Nat.zero_le _, rfl, HR4, HG4, Lib.hid (Keeps.refl _ _)⟩
  case round =>
    obtain ⟨k, hk, rfl, HR, HG, HK⟩ := hrel
    clear HR4 HG4
    by_cases hlt : k < all.length
    · obtain ⟨gg, vb, vl, rfl, hgl, hgh, c0, c1, c2', c3, c4, hrb, hrl, hbl2⟩ := gv_at HG.out hlt
      have hzr := HK.out.size
      have hX := HAOK.out all[k] (List.getElem_mem hlt)
      have hRR := rRead_round hX.1 hX.2 (encAll (all.drop (k + 1)))
      rw [← encAll_drop hlt] at hRR
      have HXL := Lib.hid (And.intro hX.1.bl hX.1.ll)
      have hbd : Below wr.heap.size wr wr.drew := (Below.refl _ wr).drew
      have RD := Lib.hid (read_any r b all[k].kind (encAll (all.drop k), 0) wr.drew (rx_below HR.out (by omega) hbd) (fun c hc => encAll_lt (fun x hx => (HAOK.out x (List.mem_of_mem_drop hx)).1) c hc) (by
        have h1 := encAll_len (xs := all.drop k) (fun x hx => (HAOK.out x (List.mem_of_mem_drop hx)).1)
        have h2 : (all.drop k).length ≤ 10 := by simp; omega
        show (encAll (all.drop k)).length ≤ 1000000
        omega) (by show b < wr.heap.size; omega))
      rw [hRR] at RD
      have HRB := Lib.hid (row_keeps hrb hbd)
      have HRL := Lib.hid (row_keeps hrl hbd)
      have HGD := Lib.hid (gv_keeps HG.out (Keeps.of_below hbd) (fun i _ h1 h2 => by omega))
      have HKD := Lib.hid (HK.out.trans (Keeps.of_below_size hbd))
      have HBV := Lib.hid hbl2
      have hgr : gg ≠ r := by omega
      clear hX hRR hrb hrl hbd hbl2 HR HG HK
      unfold GotEnd at RD
      generalize all[k] = x at *
      have b0 : wr.drew.cell? ⟨gg, k * 5, none⟩ = some (.int .i64 x.kind) := c0
      have b1 : wr.drew.cell? ⟨gg, k * 5 + 1, none⟩ = some (.int .u64 (x.u : Int)) := c1
      have b2 : wr.drew.cell? ⟨gg, k * 5 + 2, none⟩ = some (.int .i64 x.n) := c2'
      have b3 : wr.drew.cell? ⟨gg, k * 5 + 3, none⟩ = some vb := c3
      have b4 : wr.drew.cell? ⟨gg, k * 5 + 4, none⟩ = some vl := c4
      go_wp2_with fail
      go_region_with (first
        | (go_at_call 22; refine RD.out.mono ?_; rintro e w5 ⟨vb5, vl5, rfl, q1, q2, q3, q4, q5⟩; have d0 := q4.cell b0 hgr; have d1 := q4.cell b1 hgr; have d2 := q4.cell b2 hgr; have d3 := q4.cell b3 hgr; have d4 := q4.cell b4 hgr; have Q1 := Lib.hid q1; have Q2 := Lib.hid q2; have Q3 := Lib.hid q3; have Q4 := Lib.hid q4; clear q1 q2 q3 q4 q5)
        | (go_at_call 21; refine (refSame_any _ _ x x _ ⟨vb5, vl5, rfl, Q1.out, Q2.out⟩ ⟨vb, vl, rfl, row_foot HRB.out Q4.out (fun i hi e => by have := HBV.out i (.inl hi); omega), row_foot HRL.out Q4.out (fun i hi e => by have := HBV.out i (.inr hi); omega)⟩ (by have := HXL.out.1; omega) (by have := HXL.out.2; omega) (by have := HXL.out.1; omega) (by have := HXL.out.2; omega)).mono ?_; rintro e w6 ⟨rfl, hb6⟩; rw [decide_eq_true (rfl : x = x)]))
      all_goals
        have hk5 := Q4.out
        have hz5 := hk5.size
        have HR6 := Lib.hid (rx_below Q3.out (by have : wr.heap.size ≤ w5.heap.size := hz5; omega) hb6)
        have HG5 := gv_keeps HGD.out hk5 (fun i h1 h2 => by omega)
        have HG6 := Lib.hid (gv_keeps HG5 (Keeps.of_below hb6) (fun i _ h1 h2 => by have : wr.heap.size ≤ w5.heap.size := hz5; omega))
        have HK6 := Lib.hid ((HKD.out.trans hk5).trans (Keeps.of_below_size hb6))
        clear hk5 HG5 hb6
        go_wp2_with fail
        go_roundw
        case rel => exact ⟨k + 1, by omega, by go_num, HR6, HG6, HK6⟩
        case measure => simp [intOf]; omega
    · obtain rfl : k = all.length := by omega
      rw [List.drop_length] at HR
      have hbE := below_foot hb4 HK.out (by omega) (fun i hi => by omega)
      have hzr := HK.out.size
      go_wp2_with fail
      refine (devRdEnd_any r b _ wr HR.out).mono ?_
      rintro e w7 ⟨rfl, rfl⟩
      rw [show rEnd (encAll [], 0) = 0 from rfl]
      go_wp2_with fail
      refine (lives_any2 wr).mono ?_
      rintro e w8 ⟨rfl, hb⟩
      have hbF := below_foot hbE (Keeps.of_below hb) (by omega) (fun i hi => by omega)
      go_wp2_with fail
      go_ret
      exact ⟨rfl, hbF⟩
end Go.Proofs.Ytghilgkkpbhoiaa
