/-
  From and Add of package wide, once more: the words of what they return lie in new blocks.
-/
import Derived.Test.YtjoablphojkimaaGreatDoorBgI
import Derived.Deep.RegionHeld3
namespace Go.Proofs.YtjoablphojkimaaGreatDoor
open Go.RowKit Go.Shelf
set_option linter.unusedVariables false
set_option maxRecDepth 100000

def NewV (w : World) (a : Option Addr) (m k : Nat) : Prop := ∀ j, blockOf (.slice a m k) j → w.heap.size ≤ j
theorem newv_of {w : World} {q : Option Addr} {g off m k : Nat} (h : q = some ⟨g, off, none⟩ ∨ q = none) (hg : w.heap.size ≤ g) : NewV w q m k := by
  intro j hj
  rcases h with rfl | rfl
  · obtain rfl : j = g := hj
    exact hg
  · exact hj.elim
theorem NewV.back {w w2 : World} {a : Option Addr} {m k : Nat} (h : NewV w2 a m k) (hs : w.heap.size ≤ w2.heap.size) : NewV w a m k := fun j hj => Nat.le_trans hs (h j hj)
def WEndN (n : Nat) (w : World) (e : Ending) (w' : World) : Prop := ∃ a m k, e = .returned (.slice a m k) ∧ Row .u32 w' (.slice a m k) (natI (digsW n)) ∧ Below w.heap.size w w' ∧ NewV w a m k
def IEndN (n : Int) (w : World) (e : Ending) (w' : World) : Prop := ∃ b a m k, e = .returned (.agg #[.bool b, .slice a m k]) ∧ IAt w' (.agg #[.bool b, .slice a m k]) n ∧ Below w.heap.size w w' ∧ NewV w a m k
/-- signed returns the very slice that it is given. -/
def SgnEnd (v : Value) (n : Int) (w : World) (e : Ending) (w' : World) : Prop := ∃ b, e = .returned (.agg #[.bool b, v]) ∧ IAt w' (.agg #[.bool b, v]) n ∧ Below w.heap.size w w'
/-- inRange returns the very number that it is given, or none. -/
def RngEnd (x : Value) (n : Int) (w : World) (e : Ending) (w' : World) : Prop := ∃ b a m k c, e = .returned (.tuple #[.agg #[.bool b, .slice a m k], .int .i64 c]) ∧ RIs w' b a m k n c ∧ Below w.heap.size w w' ∧ (Value.agg #[.bool b, .slice a m k] = x ∨ a = none)
def REndN (n : Int) (w : World) (e : Ending) (w' : World) : Prop := ∃ b a m k c, e = .returned (.tuple #[.agg #[.bool b, .slice a m k], .int .i64 c]) ∧ ((¬ big n ∧ c = 0 ∧ IAt w' (.agg #[.bool b, .slice a m k]) n) ∨ (big n ∧ c = 4)) ∧ Below w.heap.size w w' ∧ NewV w a m k
theorem iendn_of {n : Int} {w w' : World} {b : Bool} {a : Option Addr} {m k : Nat} (h : IEnd n w (.returned (.agg #[.bool b, .slice a m k])) w') (hn : NewV w a m k) : IEndN n w (.returned (.agg #[.bool b, .slice a m k])) w' := by
  obtain ⟨b2, a2, m2, k2, e, h1, h2⟩ := h
  injection e with e
  rw [← e] at h1
  exact ⟨b, a, m, k, rfl, h1, h2, hn⟩
theorem rendn_of {n : Int} {w w' : World} {b : Bool} {a : Option Addr} {m k : Nat} {c : Int} (h : REndW n w (.returned (.tuple #[.agg #[.bool b, .slice a m k], .int .i64 c])) w') (hn : NewV w a m k) : REndN n w (.returned (.tuple #[.agg #[.bool b, .slice a m k], .int .i64 c])) w' := by
  obtain ⟨x, c2, e, h1, h2⟩ := h
  injection e with e
  injection e with e
  have e2 := congrArg Array.toList e
  simp at e2
  obtain ⟨rfl, rfl⟩ := e2
  exact ⟨b, a, m, k, c, rfl, h1.imp id (fun h => ⟨h.1, h.2.1⟩), h2, hn⟩

set_option maxHeartbeats 8000000 in
theorem wordsOf_new (n : Nat) (w : World) (hn : n < 18446744073709551616) :
    Calls Tryz.prog 32 #[.int .u64 (n : Int)] w (WEndN n w) := by
  have hr := row_of_fresh (fresh_lit w w.heap.size 74 .u32 [(n : Int) % 4294967296, (n : Int) / 4294967296] (Nat.le_refl _) (by simp))
  have T := trimmed_loc (some ⟨w.heap.size, 0, none⟩) 2 [n % 4294967296, n / 4294967296] (w.alloc (.cells #[.int .u32 ((n : Int) % 4294967296), .int .u32 ((n : Int) / 4294967296)] 74)) (by simpa [natI] using hr) (by intro c hc; simp at hc; omega) (by simp)
  rw [show valDW [n % 4294967296, n / 4294967296] = n by simp [valDW]; omega] at T
  unfold TrimEnd at T
  have HT := Lib.hid T
  clear T hr
  go_enter Tryz.func32, Tryz.ntmps32
  go_wp2_with fail
  refine HT.out.mono ?_
  rintro e w' ⟨q, m, k, rfl, hq, hr, rfl⟩
  go_wp2_with fail
  go_ret
  exact ⟨q, m, k, rfl, hr, (Below.refl _ w).alloc (Nat.le_refl _) _, newv_of hq (Nat.le_refl _)⟩

set_option maxHeartbeats 8000000 in
theorem wsum_new (u v : Value) (a b : Nat) (w : World) (hu : Row .u32 w u (natI (digsW a))) (hv : Row .u32 w v (natI (digsW b))) (ha : (digsW a).length ≤ 900000) (hb : (digsW b).length ≤ 900000) :
    Calls Tryz.prog 58 #[u, v] w (WEndN (a + b) w) := by
  obtain ⟨i0, hi, hz0, hz1, hz2⟩ := info_parts info_u32
  obtain ⟨pa, ca, rfl, hca, hcam⟩ := row_formW hu
  obtain ⟨pb, cb, rfl, hcb, hcbm⟩ := row_formW hv
  have HU := Lib.hid hu
  have HV := Lib.hid hv
  have HDA := Lib.hid (digs_ltW a)
  have HDB := Lib.hid (digs_ltW b)
  have HNA : Hid (valDW (digsW a) = a) := Lib.hid (valD_digsW a)
  have HNB : Hid (valDW (digsW b) = b) := Lib.hid (valD_digsW b)
  clear hu hv
  generalize digsW a = da at *
  generalize digsW b = db at *
  rcases Nat.lt_or_ge da.length db.length with hlt | hlt
  · go_enter Tryz.func58, Tryz.ntmps58
    go_wp2_with (first
      | (at_make; go_must (refine wpList_make_fresh rfl _ _ 27 rfl w.heap.size 74 i0 .u32 4 Tryz.underlying27 hi hz0 hz1 hz2 (by decide) _ _ _ _ (db.length + 1) rfl rfl (by first | rfl | omega) (by first | rfl | omega) (by omega) (Nat.le_refl _) ?_); intro w3 hfr hb3 hsz3; have HF0 : Hid (Wds w3 w.heap.size (List.replicate (db.length + 1) 0)) := Lib.hid (Wds.of_fresh (B := w.heap.size) (by simpa [natI] using hfr)); have HB3 := Lib.hid hb3; have HRA := Lib.hid (row_keeps HV.out hb3); clear hfr hb3 hsz3)
      | (have HF00 := HF0; (refine wpList_copy_words (o := ⟨some 19, _, _, _, _, _⟩) rfl _ _ rfl w.heap.size (db.length + 1) (db.length + 1) (by rfl) (.slice pb db.length cb) (by rfl) (List.replicate (db.length + 1) 0) db (by simp) HF0.out HRA.out (by simp) ?_); intro w4 hw4 hb4))
    rw [List.drop_replicate, show db.length + 1 - db.length = 1 by omega] at hw4
    have HB4 : Hid (Below w.heap.size w w4) := Lib.hid (HB3.out.trans hb4)
    have hrb := row_keeps HU.out HB4.out
    have hbl : da ≠ [] → ∀ j, blockOf (.slice pa da.length ca) j → j ≠ w.heap.size := fun hne j hj => by
      have := row_block HU.out (natI_ne hne) j hj
      omega
    have hx1 : (db ++ List.replicate 1 0).length = db.length + 1 := by simp
    have hxd : ∀ k ∈ db ++ List.replicate 1 0, k < 4294967296 := by
      intro k hk
      rcases List.mem_append.1 hk with h | h
      · exact HDB.out k h
      · rw [(List.mem_replicate.1 h).2]; decide
    have hlen0 : w.heap.size < w4.heap.size := hw4.lt
    have AD := addTo_any w.heap.size 0 (db.length + 1) [] (db ++ List.replicate 1 0) [] da _ w4 (by simpa using hw4) rfl hxd hrb HDA.out hbl (by omega) (by omega) (by omega) (by omega)
    rw [hx1] at AD
    unfold AddEnd at AD
    have HAD := Lib.hid AD
    clear AD hw4 hb4 hrb hbl hxd
    refine HAD.out.mono ?_
    rintro e w5 ⟨c, out, rfl, hc1, hol, hod, hval, hw5, hk5⟩
    rw [hx1] at hol
    have hB5 : Below w.heap.size w w5 := HB4.out.trans (hk5.below (by omega) (by intro k hk; omega))
    have hval2 : valDW out = a + b := (Nat.add_comm b a) ▸ sum_val hx1 hval hc1 HNB.out HNA.out HDB.out HDA.out (by omega)
    have TR := trimmed_loc (some ⟨w.heap.size, 0, none⟩) (db.length + 1) out w5 (Wds.row0 (by simpa using hw5) (by omega) (by omega)) hod (by omega)
    rw [hval2, hol] at TR
    unfold TrimEnd at TR
    have HTR := Lib.hid TR
    have HB5 := Lib.hid hB5
    clear TR hB5 hval hval2 hw5 hk5 hod HAD
    go_wp2_with fail
    refine HTR.out.mono ?_
    rintro e w6 ⟨q, m, k, rfl, hq, hr, rfl⟩
    go_wp2_with fail
    go_ret
    exact ⟨q, m, k, rfl, hr, HB5.out, newv_of hq (Nat.le_refl _)⟩
  · have hge : ¬ da.length < db.length := by omega
    go_enter Tryz.func58, Tryz.ntmps58
    go_wp2_with (first
      | (at_make; go_must (refine wpList_make_fresh rfl _ _ 27 rfl w.heap.size 74 i0 .u32 4 Tryz.underlying27 hi hz0 hz1 hz2 (by decide) _ _ _ _ (da.length + 1) rfl rfl (by first | rfl | omega) (by first | rfl | omega) (by omega) (Nat.le_refl _) ?_); intro w3 hfr hb3 hsz3; have HF0 : Hid (Wds w3 w.heap.size (List.replicate (da.length + 1) 0)) := Lib.hid (Wds.of_fresh (B := w.heap.size) (by simpa [natI] using hfr)); have HB3 := Lib.hid hb3; have HRA := Lib.hid (row_keeps HU.out hb3); clear hfr hb3 hsz3)
      | (have HF00 := HF0; (refine wpList_copy_words (o := ⟨some 19, _, _, _, _, _⟩) rfl _ _ rfl w.heap.size (da.length + 1) (da.length + 1) (by rfl) (.slice pa da.length ca) (by rfl) (List.replicate (da.length + 1) 0) da (by simp) HF0.out HRA.out (by simp) ?_); intro w4 hw4 hb4))
    rw [List.drop_replicate, show da.length + 1 - da.length = 1 by omega] at hw4
    have HB4 : Hid (Below w.heap.size w w4) := Lib.hid (HB3.out.trans hb4)
    have hrb := row_keeps HV.out HB4.out
    have hbl : db ≠ [] → ∀ j, blockOf (.slice pb db.length cb) j → j ≠ w.heap.size := fun hne j hj => by
      have := row_block HV.out (natI_ne hne) j hj
      omega
    have hx1 : (da ++ List.replicate 1 0).length = da.length + 1 := by simp
    have hxd : ∀ k ∈ da ++ List.replicate 1 0, k < 4294967296 := by
      intro k hk
      rcases List.mem_append.1 hk with h | h
      · exact HDA.out k h
      · rw [(List.mem_replicate.1 h).2]; decide
    have hlen0 : w.heap.size < w4.heap.size := hw4.lt
    have AD := addTo_any w.heap.size 0 (da.length + 1) [] (da ++ List.replicate 1 0) [] db _ w4 (by simpa using hw4) rfl hxd hrb HDB.out hbl (by omega) (by omega) (by omega) (by omega)
    rw [hx1] at AD
    unfold AddEnd at AD
    have HAD := Lib.hid AD
    clear AD hw4 hb4 hrb hbl hxd
    refine HAD.out.mono ?_
    rintro e w5 ⟨c, out, rfl, hc1, hol, hod, hval, hw5, hk5⟩
    rw [hx1] at hol
    have hB5 : Below w.heap.size w w5 := HB4.out.trans (hk5.below (by omega) (by intro k hk; omega))
    have hval2 : valDW out = a + b := sum_val hx1 hval hc1 HNA.out HNB.out HDA.out HDB.out (by omega)
    have TR := trimmed_loc (some ⟨w.heap.size, 0, none⟩) (da.length + 1) out w5 (Wds.row0 (by simpa using hw5) (by omega) (by omega)) hod (by omega)
    rw [hval2, hol] at TR
    unfold TrimEnd at TR
    have HTR := Lib.hid TR
    have HB5 := Lib.hid hB5
    clear TR hB5 hval hval2 hw5 hk5 hod HAD
    go_wp2_with fail
    refine HTR.out.mono ?_
    rintro e w6 ⟨q, m, k, rfl, hq, hr, rfl⟩
    go_wp2_with fail
    go_ret
    exact ⟨q, m, k, rfl, hr, HB5.out, newv_of hq (Nat.le_refl _)⟩

set_option maxHeartbeats 8000000 in
theorem difference_new (u v : Value) (a b : Nat) (w : World) (hu : Row .u32 w u (natI (digsW a))) (hv : Row .u32 w v (natI (digsW b))) (ha : (digsW a).length ≤ 900000) (hle : b ≤ a) (h0 : a ≠ 0) :
    Calls Tryz.prog 59 #[u, v] w (WEndN (a - b) w) := by
  have hlb : (digsW b).length ≤ (digsW a).length := by
    have h1 := digs_len_ltW a
    exact digs_len_leW (by omega)
  have hpos := digs_len_posW h0
  have CL := cloneW_any u _ w hu (by rw [natI_length]; omega)
  unfold Copies at CL
  have HCL := Lib.hid CL
  obtain ⟨pb, cb, rfl, hcb, hcbm⟩ := row_formW hv
  have HV := Lib.hid hv
  have HDA := Lib.hid (digs_ltW a)
  have HDB := Lib.hid (digs_ltW b)
  have HNA : Hid (valDW (digsW a) = a) := Lib.hid (valD_digsW a)
  have HNB : Hid (valDW (digsW b) = b) := Lib.hid (valD_digsW b)
  clear hv CL
  generalize digsW a = da at *
  generalize digsW b = db at *
  go_enter Tryz.func59, Tryz.ntmps59
  go_wp2_with fail
  refine HCL.out.mono ?_
  rintro e w3 ⟨v3, rfl, hfr, hb3⟩
  obtain ⟨g, cap, rfl, hg, hgl, hcap⟩ := fresh_some hfr (natI_ne (fun e => by rw [e] at hpos; simp at hpos))
  rw [natI_length] at hfr hcap ⊢
  have HG := Lib.hid hg
  have hcm : cap ≤ 9223372036854775807 := by
    obtain ⟨p, c, e, _, h3, _⟩ := row_of_fresh hfr
    injection e with _ _ e3
    omega
  have hbl : db ≠ [] → ∀ j, blockOf (.slice pb db.length cb) j → j ≠ g := fun hne j hj => by
    have := row_block HV.out (natI_ne hne) j hj
    omega
  have TK := takeFrom_any g 0 cap 1 [] da [] db _ w3 (by simpa using Wds.of_fresh hfr) rfl HDA.out (row_keeps HV.out hb3) HDB.out hbl hlb (by omega) hcap hcm (by decide)
  unfold TakeEnd at TK
  have HTK := Lib.hid TK
  have HB3 := Lib.hid hb3
  rw [show ((1 : Nat) : Int) = 1 from rfl] at HTK
  clear TK hb3 hfr hbl HCL
  go_wp2_with fail
  refine HTK.out.mono ?_
  rintro e w5 ⟨d, out, rfl, hd1, hol, hod, hval, hw5, hk5⟩
  have hval2 := diff_val rfl hol hod HDA.out hval HNA.out HNB.out hle
  have hB5 : Below w.heap.size w w5 := HB3.out.trans (hk5.below (by have := HB3.out.size; omega) (by intro k hk; omega))
  have TR := trimmed_loc (some ⟨g, 0, none⟩) cap out w5 (Wds.row0 (by simpa using hw5) (by omega) hcm) hod (by omega)
  rw [hval2, hol] at TR
  unfold TrimEnd at TR
  have HTR := Lib.hid TR
  have HB5 := Lib.hid hB5
  clear TR hB5 hval hval2 hw5 hk5 hod HTK
  go_wp2_with fail
  refine HTR.out.mono ?_
  rintro e w6 ⟨q, m, k, rfl, hq, hr, rfl⟩
  go_wp2_with fail
  go_ret
  exact ⟨q, m, k, rfl, hr, HB5.out, newv_of hq HG.out⟩

set_option maxHeartbeats 8000000 in
theorem signed_same (b : Bool) (v : Value) (n : Nat) (w : World) (hv : Row .u32 w v (natI (digsW n))) :
    Calls Tryz.prog 31 #[.bool b, v] w (SgnEnd v (sgn b n) w) := by
  obtain ⟨a, cap, rfl, hcap, hcm⟩ := row_formW hv
  have HV := Lib.hid hv
  clear hv
  cases b
  · go_enter Tryz.func31, Tryz.ntmps31
    go_wp2_with fail
    refine bodyPost_ret (v := .agg #[.bool false, .slice a (digsW n).length cap]) (by simp [results, Tryz.results31, go_sem]) rfl ?_
    have hb : Below w.heap.size w (w.alloc (.cells #[.bool false, .slice a (digsW n).length cap] 29)) := (Below.refl _ w).alloc (Nat.le_refl _) _
    exact ⟨_, rfl, iat_mk (row_keeps HV.out hb) rfl rfl, hb⟩
  · go_enter Tryz.func31, Tryz.ntmps31
    go_wp2_with fail
    refine bodyPost_ret (v := .agg #[.bool (decide (0 < (digsW n).length)), .slice a (digsW n).length cap]) (by simp [results, Tryz.results31, go_sem]) rfl ?_
    have hb : Below w.heap.size w (w.alloc (.cells #[.bool (decide (0 < (digsW n).length)), .slice a (digsW n).length cap] 29)) := (Below.refl _ w).alloc (Nat.le_refl _) _
    exact ⟨_, rfl, iat_mk (row_keeps HV.out hb) rfl (by rw [Bool.true_and]), hb⟩

set_option maxHeartbeats 8000000 in
theorem inRange_same (x : Value) (n : Int) (w : World) (hx : IAt w x n) :
    Calls Tryz.prog 33 #[x] w (RngEnd x n w) := by
  obtain ⟨a, cap, rfl, hr⟩ := iat_form hx
  have HX := Lib.hid hx
  obtain ⟨nb, hnb⟩ : ∃ t, decide (n < 0) = t := ⟨_, rfl⟩
  rw [hnb] at HX ⊢
  clear hx hr
  by_cases h : 512 < (digsW n.natAbs).length
  · have hb := Lib.hid (big_len.2 h)
    go_enter Tryz.func33, Tryz.ntmps33
    go_wp2_with fail
    refine bodyPost_ret (v := .tuple #[.agg #[.bool false, .slice none 0 0], .int .i64 4]) (by simp [results, Tryz.results33, go_sem]) rfl ?_
    exact ⟨_, _, _, _, _, rfl, .inr ⟨hb.out, rfl, rfl, rfl, rfl, rfl⟩, ((Below.refl _ w).alloc (Nat.le_refl _) _).alloc (by simp) _, .inr rfl⟩
  · have hb := Lib.hid (fun h2 => h (big_len.1 h2))
    go_enter Tryz.func33, Tryz.ntmps33
    go_wp2_with fail
    refine bodyPost_ret (v := .tuple #[.agg #[.bool nb, .slice a (digsW n.natAbs).length cap], .int .i64 0]) (by simp [results, Tryz.results33, go_sem]) rfl ?_
    have hbe : Below w.heap.size w ((w.alloc (Obj.cells #[Value.bool nb, Value.slice a (digsW n.natAbs).length cap] 29)).alloc (Obj.cells #[Value.bool nb, Value.slice a (digsW n.natAbs).length cap] 29)) := ((Below.refl _ w).alloc (Nat.le_refl _) _).alloc (by simp) _
    exact ⟨_, _, _, _, _, rfl, .inl ⟨hb.out, rfl, iat_keeps HX.out hbe⟩, hbe, .inl rfl⟩

set_option maxHeartbeats 8000000 in
theorem from_new (n : Int) (w : World) (hn : -9223372036854775808 ≤ n ∧ n ≤ 9223372036854775807) :
    Calls Tryz.prog 6 #[.int .i64 n] w (IEndN n w) := by
  obtain ⟨m, hm⟩ : ∃ m, n.natAbs = m := ⟨_, rfl⟩
  have hlt : m < 18446744073709551616 := by omega
  have HL := Lib.hid (Laid.new w 29 [.bool false, .slice none 0 0])
  have HB := Lib.hid ((Below.refl _ w).alloc (Nat.le_refl _) (.cells #[.bool false, .slice none 0 0] 29))
  have WO : Hid (∀ w1, Calls Tryz.prog 32 #[.int .u64 (m : Int)] w1 (WEndN m w1)) := Lib.hid (fun w1 => wordsOf_new m w1 hlt)
  unfold WEndN at WO
  have hsz : (w.alloc (.cells #[.bool false, .slice none 0 0] 29)).heap.size = w.heap.size + 1 := by simp
  have HSZ := Lib.hid hsz
  clear hsz
  have tail : ∀ (b : Bool), sgn b m = n → ∀ w3 v, Row .u32 w3 v (natI (digsW m)) → Calls Tryz.prog 31 #[.bool b, v] w3 (SgnEnd v n w3) := fun b hb w3 v h => by
    have := signed_same b v m w3 h
    rwa [hb] at this
  have HT := Lib.hid tail
  clear tail
  unfold SgnEnd at HT
  by_cases h : n < 0
  · have hw : IntKind.u64.wrap (-IntKind.u64.wrap n) = (m : Int) := by rw [IntKind.wrap_u64, IntKind.wrap_u64]; omega
    have HS := Lib.hid (HT.out true (by unfold sgn; simp; omega))
    clear hm HT
    go_enter Tryz.func6, Tryz.ntmps6
    go_wp2_with fail
    generalize w.alloc (.cells #[.bool false, .slice none 0 0] 29) = w1 at *
    refine (WO.out w1).mono ?_
    rintro e w2 ⟨a2, m2, k2, rfl, hr2, hb2, hn2⟩
    have HS2 := Lib.hid (HS.out w2 _ hr2)
    have HB2 := Lib.hid hb2
    have HN2 := Lib.hid (hn2.back (w := w) (by have := HSZ.out; omega))
    clear hr2 hb2 hn2
    go_wp2_with fail
    refine HS2.out.mono ?_
    rintro e w3 ⟨b3, rfl, hx3, hb3⟩
    have hb13 := below_then HB2.out hb3
    obtain ⟨f0, f1, f2, f3⟩ := cells2 (HL.out.below hb13)
    have HX := Lib.hid (iend_store (below_then HB.out hb13) (Nat.le_refl _) (HL.out.below hb13) hx3)
    clear hb13 hx3 hb3
    go_wp2_with fail
    refine bodyPost_ret (v := .agg #[.bool b3, .slice a2 m2 k2]) (by simp [results, Tryz.results6, go_sem, f0, f1]) rfl ?_
    exact iendn_of HX.out HN2.out
  · obtain rfl : n = (m : Int) := by omega
    have HS := Lib.hid (HT.out false (by unfold sgn; simp))
    clear hm HT
    go_enter Tryz.func6, Tryz.ntmps6
    go_wp2_with fail
    generalize w.alloc (.cells #[.bool false, .slice none 0 0] 29) = w1 at *
    refine (WO.out w1).mono ?_
    rintro e w2 ⟨a2, m2, k2, rfl, hr2, hb2, hn2⟩
    have HS2 := Lib.hid (HS.out w2 _ hr2)
    have HB2 := Lib.hid hb2
    have HN2 := Lib.hid (hn2.back (w := w) (by have := HSZ.out; omega))
    clear hr2 hb2 hn2
    go_wp2_with fail
    refine HS2.out.mono ?_
    rintro e w3 ⟨b3, rfl, hx3, hb3⟩
    have hb13 := below_then HB2.out hb3
    obtain ⟨f0, f1, f2, f3⟩ := cells2 (HL.out.below hb13)
    have HX := Lib.hid (iend_store (below_then HB.out hb13) (Nat.le_refl _) (HL.out.below hb13) hx3)
    clear hb13 hx3 hb3
    go_wp2_with fail
    refine bodyPost_ret (v := .agg #[.bool b3, .slice a2 m2 k2]) (by simp [results, Tryz.results6, go_sem, f0, f1]) rfl ?_
    exact iendn_of HX.out HN2.out

theorem same_new {w : World} {b b3 : Bool} {a a3 : Option Addr} {m k m3 k3 : Nat} (h : Value.agg #[.bool b, .slice a m k] = .agg #[.bool b3, .slice a3 m3 k3] ∨ a = none) (hn : NewV w a3 m3 k3) : NewV w a m k := by
  rcases h with h | rfl
  · injection h with h
    have e2 := congrArg Array.toList h
    simp at e2
    obtain ⟨_, rfl, rfl, rfl⟩ := e2
    exact hn
  · exact fun j hj => hj.elim

set_option maxHeartbeats 8000000 in
theorem add_new (x y : Value) (a b : Int) (w : World) (hx : IAt w x a) (hy : IAt w y b) (ha : (digsW a.natAbs).length ≤ 400000) (hb : (digsW b.natAbs).length ≤ 400000) :
    Calls Tryz.prog 29 #[x, y] w (REndN (a + b) w) := by
  obtain ⟨ax, cx, rfl, hrx⟩ := iat_form hx
  obtain ⟨ay, cy, rfl, hry⟩ := iat_form hy
  obtain ⟨na, hna⟩ : ∃ t, decide (a < 0) = t := ⟨_, rfl⟩
  obtain ⟨nb, hnb⟩ : ∃ t, decide (b < 0) = t := ⟨_, rfl⟩
  have HS := Lib.hid (add_same na nb a b hna hnb)
  have HLE := Lib.hid (add_less na nb a b hna hnb)
  have HMO := Lib.hid (add_more na nb a b hna hnb)
  have hne0 : na ≠ nb → a.natAbs ≠ b.natAbs ∨ (a.natAbs ≠ 0 ∧ b.natAbs ≠ 0) := fun h => by
    subst hna; subst hnb
    rcases Classical.em (a < 0) with h1 | h1 <;> rcases Classical.em (b < 0) with h2 | h2 <;> simp [h1, h2] at h <;> omega
  have HNE := Lib.hid hne0
  rw [hna, hnb]
  have BX := boxes2 w na nb ax ay (digsW a.natAbs).length (digsW b.natAbs).length cx cy
  have BX2 : Boxes2 w (((w.alloc (.cells #[.bool na, .slice ax (digsW a.natAbs).length cx] 29)).alloc (.cells #[.bool nb, .slice ay (digsW b.natAbs).length cy] 29)).alloc (.cells #[.bool false, .slice none 0 0] 29)) na nb ax ay (digsW a.natAbs).length (digsW b.natAbs).length cx cy := BX
  clear hx hy hna hnb hne0
  generalize hla : (digsW a.natAbs).length = la at *
  generalize hlb : (digsW b.natAbs).length = lb at *
  obtain ⟨w2, hw2⟩ : ∃ w2, w2 = ((w.alloc (.cells #[.bool na, .slice ax la cx] 29)).alloc (.cells #[.bool nb, .slice ay lb cy] 29)).alloc (.cells #[.bool false, .slice none 0 0] 29) := ⟨_, rfl⟩
  rw [← hw2] at BX
  clear BX2
  have HBX := Lib.hid BX
  have HRX := Lib.hid (row_keeps hrx BX.below)
  have HRY := Lib.hid (row_keeps hry BX.below)
  have hs2 := BX.size
  clear BX hrx hry
  have SGN : Hid (∀ (s : Bool) (n : Nat) (z : Int), sgn s n = z → ∀ w3 v, Row .u32 w3 v (natI (digsW n)) → Calls Tryz.prog 31 #[.bool s, v] w3 (SgnEnd v z w3)) := Lib.hid (fun s n z hz w3 v h => by
    have := signed_same s v n w3 h
    rwa [hz] at this)
  unfold SgnEnd at SGN
  rcases Classical.em (na = nb) with heq | hne
  · subst heq
    have HS2 := Lib.hid (HS.out rfl)
    have PR := wsum_new _ _ a.natAbs b.natAbs w2.drew (row_keeps HRX.out (Below.refl _ _).drew) (row_keeps HRY.out (Below.refl _ _).drew) (by omega) (by omega)
    unfold WEndN at PR
    have HPR := Lib.hid PR
    have H3 := Lib.hid HBX.out.b3
    have S0 := Lib.hid (H3.out.below (Below.refl _ w2).drew).cells
    have SG := Lib.hid (SGN.out _ _ _ HS2.out)
    have HBW := Lib.hid HBX.out.below
    clear PR HRX HRY hla hlb HS HLE HMO HNE SGN
    go_enter Tryz.func29, Tryz.ntmps29
    go_wp2_with fail
    rw [← hw2]
    clear hw2
    go_region_held3 (fun w' : World => w'.cell? ⟨w.heap.size, 0, none⟩ = some (.bool na) ∧ w'.cell? ⟨w.heap.size, 1, none⟩ = some (.slice ax la cx) ∧ w'.cell? ⟨w.heap.size + 1, 0, none⟩ = some (.bool na) ∧ w'.cell? ⟨w.heap.size + 1, 1, none⟩ = some (.slice ay lb cy)) (first | exact S0.out | exact S3.out | exact S4.out | exact S5.out | exact cells4_set S5.out (by omega) (by omega)) (first
      | (go_at_call 58; refine HPR.out.mono ?_; rintro e w3 ⟨a3, m3, k3, rfl, hr3, hb3, hnw⟩; have HNW := Lib.hid (hnw.back (w := w) HBW.out.size); clear hnw; have HB3 : Hid (Below w2.heap.size w2 w3) := Lib.hid ((Below.refl _ w2).drew.trans hb3); have S3 := Lib.hid (H3.out.below HB3.out).cells; have SG3 := Lib.hid (SG.out _ _ hr3); clear hr3 hb3)
      | (go_at_call 31; refine SG3.out.mono ?_; rintro e w4 ⟨b4, rfl, hx4, hb4⟩; have HB4 := Lib.hid (below_then HB3.out hb4); have S4 := Lib.hid (H3.out.below HB4.out).cells; have IR4 := Lib.hid (inRange_same _ _ _ hx4); clear hx4 hb4)
      | (go_at_call 33; refine IR4.out.mono ?_; rintro e w5 ⟨b5, a5, m5, k5, c5, rfl, hx5, hb5, hsq⟩; have HSM := Lib.hid hsq; clear hsq; have HB5 := Lib.hid (below_then HB4.out hb5); have S5 := Lib.hid (H3.out.below HB5.out).cells; have HX5 := Lib.hid hx5; obtain ⟨f0, f1, f2, f3⟩ := cells2 (H3.out.below HB5.out).r; clear hx5 hb5))
    all_goals
      have HB6 : Hid (Below w.heap.size w w5) := Lib.hid (HBW.out.trans (HB5.out.mono (by omega)))
      have HX6 := Lib.hid (rend_store HB6.out (by omega) (H3.out.below HB5.out).r HX5.out)
      go_wp2_with fail
      refine bodyPost_ret (v := .tuple #[.agg #[.bool b5, .slice a5 m5 k5], .int .i64 c5]) (by simp [results, Tryz.results29, go_sem, f0, f1]) rfl ?_
      exact rendn_of HX6.out (same_new HSM.out HNW.out)
  have hne2 : (na == nb) = false := by simpa using hne
  have CM := compareWords_any _ _ a.natAbs b.natAbs w2 HRX.out HRY.out (by omega) (by omega)
  unfold CmpEnd at CM
  have HCM := Lib.hid CM
  clear CM
  rcases Classical.em (a.natAbs < b.natAbs) with hcmp | hcmp
  · have HS2 := Lib.hid (HLE.out hne hcmp)
    have hc : cmpN a.natAbs b.natAbs < 0 := cmpN_lt.2 hcmp
    have DF : Hid (∀ w3, Row .u32 w3 (.slice ay lb cy) (natI (digsW b.natAbs)) → Row .u32 w3 (.slice ax la cx) (natI (digsW a.natAbs)) → Calls Tryz.prog 59 #[.slice ay lb cy, .slice ax la cx] w3 (WEndN (b.natAbs - a.natAbs) w3)) := Lib.hid (fun w3 h1 h2 => difference_new _ _ b.natAbs a.natAbs w3 h1 h2 (by omega) (by omega) (by omega))
    unfold WEndN at DF
    generalize cmpN a.natAbs b.natAbs = c at *
    have SG := Lib.hid (SGN.out _ _ _ HS2.out)
    clear hla hlb HS HLE HMO HNE SGN hne
    go_enter Tryz.func29, Tryz.ntmps29
    go_wp2_with fail
    rw [← hw2]
    refine HCM.out.mono ?_
    rintro e w3 ⟨rfl, hb3⟩
    have HB30 := Lib.hid hb3
    have h30 := HBX.out.b3.below hb3
    obtain ⟨p0, p1, p2, p3⟩ := cells2 h30.x
    obtain ⟨q0, q1, q2, q3⟩ := cells2 h30.y
    have HSW := Lib.hid h30.swap
    have l1 := h30.x.set 0 (.bool nb)
    have l2 : Laid ((w3.setCell ⟨w.heap.size, 0, none⟩ (.bool nb)).setCell ⟨w.heap.size, 1, none⟩ (.slice ay lb cy)) (w.heap.size + 1) 29 [.bool nb, .slice ay lb cy] := h30.y.keeps ((keeps_set w3 w.heap.size 0 (.bool nb)).trans (keeps_set _ w.heap.size 1 (.slice ay lb cy))) (by omega)
    have l3 := l2.set 0 (.bool na)
    have rowm : ∀ v zs, Row .u32 w2 v zs → Row .u32 ((((w3.setCell ⟨w.heap.size, 0, none⟩ (.bool nb)).setCell ⟨w.heap.size, 1, none⟩ (.slice ay lb cy)).setCell ⟨w.heap.size + 1, 0, none⟩ (.bool na)).setCell ⟨w.heap.size + 1, 1, none⟩ (.slice ax la cx)) v zs := fun v zs h =>
      row_setK l3 (row_setK l2 (row_setK l1 (row_setK h30.x (row_keeps h hb3) 0 _) 1 _) 0 _) 1 _
    have HPX := Lib.hid (rowm _ _ HRX.out)
    have HPY := Lib.hid (rowm _ _ HRY.out)
    have hbw3 : Below w.heap.size w w3 := HBX.out.below.trans (hb3.mono (by omega))
    have HBW : Hid (Below w.heap.size w ((((w3.setCell ⟨w.heap.size, 0, none⟩ (.bool nb)).setCell ⟨w.heap.size, 1, none⟩ (.slice ay lb cy)).setCell ⟨w.heap.size + 1, 0, none⟩ (.bool na)).setCell ⟨w.heap.size + 1, 1, none⟩ (.slice ax la cx))) := Lib.hid ((((hbw3.setCell (p := ⟨w.heap.size, 0, none⟩) (Nat.le_refl _) _).setCell (p := ⟨w.heap.size, 1, none⟩) (Nat.le_refl _) _).setCell (p := ⟨w.heap.size + 1, 0, none⟩) (Nat.le_succ _) _).setCell (p := ⟨w.heap.size + 1, 1, none⟩) (Nat.le_succ _) _)
    clear hw2 hb3 h30 l1 l2 l3 rowm hbw3 HRX HRY HB30
    go_wp2_with fail
    generalize (((w3.setCell ⟨w.heap.size, 0, none⟩ (.bool nb)).setCell ⟨w.heap.size, 1, none⟩ (.slice ay lb cy)).setCell ⟨w.heap.size + 1, 0, none⟩ (.bool na)).setCell ⟨w.heap.size + 1, 1, none⟩ (.slice ax la cx) = wm at *
    have H3 := HSW
    have S0 := Lib.hid (H3.out.below (Below.refl _ wm).drew).cells
    have HPR := Lib.hid (DF.out wm.drew (row_keeps HPY.out (Below.refl _ _).drew) (row_keeps HPX.out (Below.refl _ _).drew))
    have hsm := HBW.out.size
    clear p0 p1 p2 p3 q0 q1 q2 q3 DF HCM
    go_region_held3 (fun w' : World => w'.cell? ⟨w.heap.size, 0, none⟩ = some (.bool nb) ∧ w'.cell? ⟨w.heap.size, 1, none⟩ = some (.slice ay lb cy) ∧ w'.cell? ⟨w.heap.size + 1, 0, none⟩ = some (.bool na) ∧ w'.cell? ⟨w.heap.size + 1, 1, none⟩ = some (.slice ax la cx)) (first | exact S0.out | exact S3.out | exact S4.out | exact S5.out | exact cells4_set S5.out (by omega) (by omega)) (first
      | (go_at_call 59; refine HPR.out.mono ?_; rintro e w3 ⟨a3, m3, k3, rfl, hr3, hb3, hnw⟩; have HNW := Lib.hid (hnw.back (w := w) HBW.out.size); clear hnw; have HB3 : Hid (Below wm.heap.size wm w3) := Lib.hid ((Below.refl _ wm).drew.trans hb3); have S3 := Lib.hid (H3.out.below HB3.out).cells; have SG3 := Lib.hid (SG.out _ _ hr3); clear hr3 hb3)
      | (go_at_call 31; refine SG3.out.mono ?_; rintro e w4 ⟨b4, rfl, hx4, hb4⟩; have HB4 := Lib.hid (below_then HB3.out hb4); have S4 := Lib.hid (H3.out.below HB4.out).cells; have IR4 := Lib.hid (inRange_same _ _ _ hx4); clear hx4 hb4)
      | (go_at_call 33; refine IR4.out.mono ?_; rintro e w5 ⟨b5, a5, m5, k5, c5, rfl, hx5, hb5, hsq⟩; have HSM := Lib.hid hsq; clear hsq; have HB5 := Lib.hid (below_then HB4.out hb5); have S5 := Lib.hid (H3.out.below HB5.out).cells; have HX5 := Lib.hid hx5; obtain ⟨f0, f1, f2, f3⟩ := cells2 (H3.out.below HB5.out).r; clear hx5 hb5))
    all_goals
      have HB6 : Hid (Below w.heap.size w w5) := Lib.hid (HBW.out.trans (HB5.out.mono (by omega)))
      have HX6 := Lib.hid (rend_store HB6.out (by omega) (H3.out.below HB5.out).r HX5.out)
      go_wp2_with fail
      refine bodyPost_ret (v := .tuple #[.agg #[.bool b5, .slice a5 m5 k5], .int .i64 c5]) (by simp [results, Tryz.results29, go_sem, f0, f1]) rfl ?_
      exact rendn_of HX6.out (same_new HSM.out HNW.out)
  · have HS2 := Lib.hid (HMO.out hne hcmp)
    have hc : ¬ cmpN a.natAbs b.natAbs < 0 := fun h => hcmp (cmpN_lt.1 h)
    have hnz : a.natAbs ≠ 0 := by have := HNE.out hne; omega
    have DF : Hid (∀ w3, Below w2.heap.size w2 w3 → Calls Tryz.prog 59 #[.slice ax la cx, .slice ay lb cy] w3 (WEndN (a.natAbs - b.natAbs) w3)) := Lib.hid (fun w3 h => difference_new _ _ a.natAbs b.natAbs w3 (row_keeps HRX.out h) (row_keeps HRY.out h) (by omega) (by omega) hnz)
    unfold WEndN at DF
    generalize cmpN a.natAbs b.natAbs = c at *
    have SG := Lib.hid (SGN.out _ _ _ HS2.out)
    clear HRX HRY hla hlb HS HLE HMO HNE SGN hne
    go_enter Tryz.func29, Tryz.ntmps29
    go_wp2_with fail
    rw [← hw2]
    refine HCM.out.mono ?_
    rintro e wm ⟨rfl, hbm⟩
    have H3 := Lib.hid (HBX.out.b3.below hbm)
    have S0 := Lib.hid (H3.out.below (Below.refl _ wm).drew).cells
    obtain ⟨p0, p1, p2, p3⟩ := H3.out.cells
    have HPR := Lib.hid (DF.out wm.drew hbm.drew)
    have HBW : Hid (Below w.heap.size w wm) := Lib.hid (HBX.out.below.trans (hbm.mono (by omega)))
    have hsm := hbm.size
    clear hw2 hbm DF HCM
    go_wp2_with fail
    go_region_held3 (fun w' : World => w'.cell? ⟨w.heap.size, 0, none⟩ = some (.bool na) ∧ w'.cell? ⟨w.heap.size, 1, none⟩ = some (.slice ax la cx) ∧ w'.cell? ⟨w.heap.size + 1, 0, none⟩ = some (.bool nb) ∧ w'.cell? ⟨w.heap.size + 1, 1, none⟩ = some (.slice ay lb cy)) (first | exact S0.out | exact S3.out | exact S4.out | exact S5.out | exact cells4_set S5.out (by omega) (by omega)) (first
      | (go_at_call 59; refine HPR.out.mono ?_; rintro e w3 ⟨a3, m3, k3, rfl, hr3, hb3, hnw⟩; have HNW := Lib.hid (hnw.back (w := w) HBW.out.size); clear hnw; have HB3 : Hid (Below wm.heap.size wm w3) := Lib.hid ((Below.refl _ wm).drew.trans hb3); have S3 := Lib.hid (H3.out.below HB3.out).cells; have SG3 := Lib.hid (SG.out _ _ hr3); clear hr3 hb3)
      | (go_at_call 31; refine SG3.out.mono ?_; rintro e w4 ⟨b4, rfl, hx4, hb4⟩; have HB4 := Lib.hid (below_then HB3.out hb4); have S4 := Lib.hid (H3.out.below HB4.out).cells; have IR4 := Lib.hid (inRange_same _ _ _ hx4); clear hx4 hb4)
      | (go_at_call 33; refine IR4.out.mono ?_; rintro e w5 ⟨b5, a5, m5, k5, c5, rfl, hx5, hb5, hsq⟩; have HSM := Lib.hid hsq; clear hsq; have HB5 := Lib.hid (below_then HB4.out hb5); have S5 := Lib.hid (H3.out.below HB5.out).cells; have HX5 := Lib.hid hx5; obtain ⟨f0, f1, f2, f3⟩ := cells2 (H3.out.below HB5.out).r; clear hx5 hb5))
    all_goals
      have HB6 : Hid (Below w.heap.size w w5) := Lib.hid (HBW.out.trans (HB5.out.mono (by omega)))
      have HX6 := Lib.hid (rend_store HB6.out (by omega) (H3.out.below HB5.out).r HX5.out)
      go_wp2_with fail
      refine bodyPost_ret (v := .tuple #[.agg #[.bool b5, .slice a5 m5 k5], .int .i64 c5]) (by simp [results, Tryz.results29, go_sem, f0, f1]) rfl ?_
      exact rendn_of HX6.out (same_new HSM.out HNW.out)
end Go.Proofs.YtjoablphojkimaaGreatDoor
