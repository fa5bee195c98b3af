/-
  Fractions by their values (FV); the law FracField. (tools/genLva.py makes this text.)
-/
import Derived.Test.YtgcjbeagckbccaaGreatDoorLfb
import Derived.Test.YtgcjbeagckbccaaGreatDoorFcC
namespace Go.Proofs.YtgcjbeagckbccaaGreatDoor
open Go.RowKit Go.Shelf
set_option linter.unusedVariables false
set_option maxRecDepth 100000

/-- n/d is P/Q in lowest terms, and P and Q are not long. -/
structure FV (K : Nat) (n d P Q : Int) : Prop where
  is : Is n d P Q
  p : Lo K P
  q : Lo K Q
theorem FV.n {K : Nat} {n d P Q : Int} (h : FV K n d P Q) : Lo K n := Nat.le_trans (is_le h.is).1 h.p
theorem FV.d {K : Nat} {n d P Q : Int} (h : FV K n d P Q) : Lo K d := Nat.le_trans (is_le h.is).2 h.q
theorem FV.fine {K : Nat} {n d P Q : Int} (h : FV K n d P Q) (hK : K ≤ 16000) : Fine n d := ⟨h.is.low, (h.n.small hK).words, (h.d.small hK).words⟩
theorem lo_part {K : Nat} {a b g : Int} (h : Lo K (a * b)) : Lo K (a * (b / g)) := by
  unfold Lo at *
  rw [Int.natAbs_mul] at *
  exact Nat.le_trans (Nat.mul_le_mul_left _ (Int.natAbs_ediv_le_natAbs _ _)) h
theorem add_ok {K : Nat} {p q r s : Int} (h : Low p q) (k : Low r s) (h1 : Lo K p) (h2 : Lo K q) (h3 : Lo K r) (h4 : Lo K s) (hK : K + K + 1 ≤ 16000) :
    rAdd p q r s = (0, mkN (p * s + r * q) (q * s), mkD (p * s + r * q) (q * s)) := by
  have hq0 : q ≠ 0 := by have := h.pos; omega
  have hs0 : s ≠ 0 := by have := k.pos; omega
  have hg : 0 < Int.gcd q s := Int.gcd_pos_of_ne_zero_right q hs0
  obtain ⟨g, hgg⟩ : ∃ g : Int, g = ((Int.gcd q s : Nat) : Int) := ⟨_, rfl⟩
  have hg0 : 0 < g := by omega
  have d1 : g * (q / g) = q := Int.mul_ediv_cancel' (by rw [hgg]; exact Int.gcd_dvd_left ..)
  have d2 : g * (s / g) = s := Int.mul_ediv_cancel' (by rw [hgg]; exact Int.gcd_dvd_right ..)
  have L1 : Lo (K + K) (p * (s / g)) := lo_part (h1.mul h4)
  have L2 : Lo (K + K) (r * (q / g)) := lo_part (h3.mul h2)
  have L3 : Lo (K + K) (q / g * s) := by rw [Int.mul_comm]; exact lo_part (h4.mul h2)
  unfold rAdd
  rw [← hgg]
  generalize q / g = q1 at *
  generalize s / g = s1 at *
  unfold rIf
  rw [if_neg (fun hb => by
    rcases hb with hb | hb | hb | hb
    · exact (L1.small (by omega)).notBig hb
    · exact (L2.small (by omega)).notBig hb
    · exact ((L1.add L2).small hK).notBig hb
    · exact (L3.small (by omega)).notBig hb)]
  have hD : q1 * s ≠ 0 := by
    intro e
    have : q * s = g * (q1 * s) := by rw [← Int.mul_assoc, d1]
    rw [e, Int.mul_zero] at this
    exact (Int.mul_ne_zero hq0 hs0) this
  have e := mk_same hD (Int.mul_ne_zero hq0 hs0) (show (p * s1 + r * q1) * (q * s) = (p * s + r * q) * (q1 * s) by rw [← d1, ← d2]; grind)
  rw [e.1, e.2]
theorem FV.add {K L : Nat} {n d P Q m e R S : Int} (h : FV K n d P Q) (k : FV L m e R S) (hK : K ≤ 7000) (hL : L ≤ 7000) : ∃ n' d', FV (K + L + 1) n' d' (P * S + R * Q) (Q * S) ∧ rAdd n d m e = (0, n', d') := by
  refine ⟨_, _, ⟨is_add h.is k.is, (h.p.mul k.q).add (by rw [Nat.add_comm]; exact k.p.mul h.q), (h.q.mul k.q).more (by omega)⟩, ?_⟩
  exact add_ok (K := 7000) h.is.low k.is.low (h.n.more hK) (h.d.more hK) (k.n.more hL) (k.d.more hL) (by decide)
theorem FV.sub {K L : Nat} {n d P Q m e R S : Int} (h : FV K n d P Q) (k : FV L m e R S) (hK : K ≤ 7000) (hL : L ≤ 7000) : ∃ n' d', FV (K + L + 1) n' d' (P * S - R * Q) (Q * S) ∧ rAdd n d (-m) e = (0, n', d') := by
  have he : n * e + -m * d = n * e - m * d := by rw [Int.neg_mul]; omega
  refine ⟨_, _, ⟨is_sub h.is k.is, (h.p.mul k.q).sub (by rw [Nat.add_comm]; exact k.p.mul h.q), (h.q.mul k.q).more (by omega)⟩, ?_⟩
  rw [← he]
  exact add_ok (K := 7000) h.is.low (low_neg k.is.low) (h.n.more hK) (h.d.more hK) (lo_neg (k.n.more hL)) (k.d.more hL) (by decide)
theorem mul_ok {K : Nat} {p q r s : Int} (h1 : Lo K (p * r)) (h2 : Lo K (q * s)) (hK : K ≤ 16000) : rMul p q r s = (0, mkN (p * r) (q * s), mkD (p * r) (q * s)) := by
  unfold rMul rIf
  rw [if_neg (fun hb => by
    rcases hb with hb | hb
    · exact (Lo.small (K := K) (Nat.le_trans (Int.natAbs_ediv_le_natAbs _ _) h1) hK).notBig hb
    · exact (Lo.small (K := K) (Nat.le_trans (Int.natAbs_ediv_le_natAbs _ _) h2) hK).notBig hb)]
theorem FV.mul {K L : Nat} {n d P Q m e R S : Int} (h : FV K n d P Q) (k : FV L m e R S) (hK : K + L ≤ 16000) : ∃ n' d', FV (K + L) n' d' (P * R) (Q * S) ∧ rMul n d m e = (0, n', d') :=
  ⟨_, _, ⟨is_mul h.is k.is, h.p.mul k.p, h.q.mul k.q⟩, mul_ok (h.n.mul k.n) (h.d.mul k.d) hK⟩
theorem FV.div {K L : Nat} {n d P Q m e R S : Int} (h : FV K n d P Q) (k : FV L m e R S) (hm : m ≠ 0) (hK : K + L ≤ 16000) : ∃ n' d', FV (K + L) n' d' (P * S) (Q * R) ∧ rDiv n d m e = (0, n', d') := by
  have hR : R ≠ 0 := fun h0 => hm ((is_zero k.is).2 h0)
  refine ⟨_, _, ⟨is_div h.is k.is hR, h.p.mul k.q, h.q.mul k.p⟩, ?_⟩
  unfold rDiv
  rw [if_neg hm]
  exact mul_ok (h.n.mul k.d) (h.d.mul k.n) hK
theorem fat_other {W : World} {b : Nat} {T : TypeId} {x : Value} {p q : Int} {s t s0 t0 : Bool} {a a' e e' : Option Addr} {m n c d i j k l : Nat} (hl : Laid W b T [.bool s0, .slice e i k, .bool t0, .slice e' j l]) (h : FAt W x p q) :
    FAt ((((W.setCell ⟨b, 0, none⟩ (.bool s)).setCell ⟨b, 1, none⟩ (.slice a m c)).setCell ⟨b, 2, none⟩ (.bool t)).setCell ⟨b, 3, none⟩ (.slice a' n d)) x p q := by
  have kk : ∀ x z, IAt W x z → IAt ((((W.setCell ⟨b, 0, none⟩ (.bool s)).setCell ⟨b, 1, none⟩ (.slice a m c)).setCell ⟨b, 2, none⟩ (.bool t)).setCell ⟨b, 3, none⟩ (.slice a' n d)) x z := fun x z hx => by
    have l1 : Laid (W.setCell ⟨b, 0, none⟩ (.bool s)) b T [.bool s, .slice e i k, .bool t0, .slice e' j l] := hl.set 0 _
    have l2 : Laid ((W.setCell ⟨b, 0, none⟩ (.bool s)).setCell ⟨b, 1, none⟩ (.slice a m c)) b T [.bool s, .slice a m c, .bool t0, .slice e' j l] := l1.set 1 _
    have l3 : Laid (((W.setCell ⟨b, 0, none⟩ (.bool s)).setCell ⟨b, 1, none⟩ (.slice a m c)).setCell ⟨b, 2, none⟩ (.bool t)) b T [.bool s, .slice a m c, .bool t, .slice e' j l] := l2.set 2 _
    exact iat_set4 (iat_set4 (iat_set4 (iat_set4 hx hl 0 _) l1 1 _) l2 2 _) l3 3 _
  obtain ⟨s', t', a'', b', m', n', c', d', e, h1, h2⟩ := h
  exact ⟨s', t', a'', b', m', n', c', d', e, kk _ _ h1, kk _ _ h2⟩
theorem fbox_other {W : World} {b b2 : Nat} {p q : Int} {s t s0 t0 : Bool} {a a' e e' : Option Addr} {m n c d i j k l : Nat} (hl : Laid W b 35 [.bool s0, .slice e i k, .bool t0, .slice e' j l]) (h : FBox W b2 p q) (hne : b2 ≠ b) :
    FBox ((((W.setCell ⟨b, 0, none⟩ (.bool s)).setCell ⟨b, 1, none⟩ (.slice a m c)).setCell ⟨b, 2, none⟩ (.bool t)).setCell ⟨b, 3, none⟩ (.slice a' n d)) b2 p q := by
  obtain ⟨s3, t3, a3, a3', m3, n3, c3, d3, h1, h2⟩ := h
  exact ⟨s3, t3, a3, a3', m3, n3, c3, d3, h1.keeps (((((keeps_set W b 0 (.bool s)).trans (keeps_set _ b 1 (.slice a m c))).trans (keeps_set _ b 2 (.bool t)))).trans (keeps_set _ b 3 (.slice a' n d))) hne, fat_other hl h2⟩
def BinC (f : FuncId) (n d m e : Int) (R : Int × Int × Int) : Prop := ∀ (X : World) (u v : Value), FAt X u n d → FAt X v m e → Calls Tryz.prog f #[u, v] X (VEnd (KTF R) X)
theorem fadd_v {K L : Nat} {n d P Q m e R S : Int} (h : FV K n d P Q) (k : FV L m e R S) (hK : K ≤ 7000) (hL : L ≤ 7000) : ∃ n' d', FV (K + L + 1) n' d' (P * S + R * Q) (Q * S) ∧ BinC 27 n d m e (0, n', d') := by
  obtain ⟨n', d', h1, h2⟩ := h.add k hK hL
  exact ⟨n', d', h1, fun X u v hu hv => h2 ▸ (fAdd_any u v n d m e X hu hv (h.fine (by omega)) (k.fine (by omega))).mono (fun _ _ => v_tf)⟩
theorem fsub_v {K L : Nat} {n d P Q m e R S : Int} (h : FV K n d P Q) (k : FV L m e R S) (hK : K ≤ 7000) (hL : L ≤ 7000) : ∃ n' d', FV (K + L + 1) n' d' (P * S - R * Q) (Q * S) ∧ BinC 29 n d m e (0, n', d') := by
  obtain ⟨n', d', h1, h2⟩ := h.sub k hK hL
  exact ⟨n', d', h1, fun X u v hu hv => h2 ▸ (fSub_any u v n d m e X hu hv (h.fine (by omega)) (k.fine (by omega))).mono (fun _ _ => v_tf)⟩
theorem fmul_v {K L : Nat} {n d P Q m e R S : Int} (h : FV K n d P Q) (k : FV L m e R S) (hK : K ≤ 8000) (hL : L ≤ 8000) : ∃ n' d', FV (K + L) n' d' (P * R) (Q * S) ∧ BinC 31 n d m e (0, n', d') := by
  obtain ⟨n', d', h1, h2⟩ := h.mul k (by omega)
  exact ⟨n', d', h1, fun X u v hu hv => h2 ▸ (fMul_any u v n d m e X hu hv (h.fine (by omega)) (k.fine (by omega))).mono (fun _ _ => v_tf)⟩
theorem fdiv_v {K L : Nat} {n d P Q m e R S : Int} (h : FV K n d P Q) (k : FV L m e R S) (hm : m ≠ 0) (hK : K ≤ 8000) (hL : L ≤ 8000) : ∃ n' d', FV (K + L) n' d' (P * S) (Q * R) ∧ BinC 33 n d m e (0, n', d') := by
  obtain ⟨n', d', h1, h2⟩ := h.div k hm (by omega)
  exact ⟨n', d', h1, fun X u v hu hv => h2 ▸ (fDiv_any u v n d m e X hu hv (h.fine (by omega)) (k.fine (by omega))).mono (fun _ _ => v_tf)⟩
theorem equal_v {K : Nat} {n d P Q : Int} (h : FV K n d P Q) (hK : K ≤ 16000) (X : World) (u v : Value) (hu : FAt X u n d) (hv : FAt X v n d) : Calls Tryz.prog 42 #[u, v] X (VEnd (KX (.bool true)) X) := by
  have := lEqual_any u v n d n d X hu hv (h.fine hK) (h.fine hK)
  rwa [str_beq] at this
theorem fr_v {l : List Int} (hr : ∀ n ∈ l, -9223372036854775808 ≤ n ∧ n ≤ 9223372036854775807) (i : Int) : FV 1240 (frP l i) (frQ l i) (frP l i) (frQ l i) := by
  obtain ⟨h1, h2, h3⟩ := fr_low hr i
  exact ⟨is_self h1, h2, h3⟩
/-- of(Frac(l, i)). -/
theorem lo_dg2 {K : Nat} {z : Int} (h : Lo K z) : (digs z.natAbs).length ≤ K / 13 + 1 := by
  refine digs_len_le (Nat.lt_of_le_of_lt h ?_)
  have h1 : (2 : Nat) ^ K < 2 ^ (13 * (K / 13 + 1)) := Nat.pow_lt_pow_right (by decide) (by omega)
  have h2 : (2 : Nat) ^ (13 * (K / 13 + 1)) ≤ 10000 ^ (K / 13 + 1) := by
    rw [Nat.pow_mul]
    exact Nat.pow_le_pow_left (by decide) _
  omega
theorem both_lo {z : Int} {K : Nat} (h : Lo K z) (hK : K ≤ 15000) : Both z := by
  have h1 := h.small (by omega)
  have h2 := lo_dg2 h
  exact ⟨h1.notBig, by omega, h1.words⟩

set_option maxHeartbeats 16000000 in
theorem walk_FracField (v : Value) (l : List Int) (w : World) (hv : Row .i64 w v l) (hr : ∀ n ∈ l, -9223372036854775808 ≤ n ∧ n ≤ 9223372036854775807) :
    Calls Tryz.prog 7 #[v] w fun e w' => e = .returned (.bool true) ∧ Below w.heap.size w w' := by
  have A := fr_v hr 0
  have B := fr_v hr 4
  have C := fr_v hr 8
  have FR : Hid (∀ (X : World) (i : Int), 0 ≤ i → i ≤ 1000 → Row .i64 X v l → Calls Tryz.prog 24 #[v, .int .i64 i] X (VEnd (KR (frP l i) (frQ l i)) X)) := Lib.hid (fun X i h1 h2 h3 => (fr4_any v l i X h3 hr ⟨h1, h2⟩).mono (fun _ _ => v_r))
  have OFC : Hid (∀ (X : World) (u : Value) (i : Int), RFAt X u (frP l i) (frQ l i) → Calls Tryz.prog 26 #[u] X (VEnd (KF (frP l i) (frQ l i)) X)) := Lib.hid (fun X u i h => (lOf_any u _ _ X h (fr_low hr i).1 (both_lo (fr_low hr i).2.1 (by decide)) (both_lo (fr_low hr i).2.2 (by decide))).mono (fun _ _ => v_f))
  have F0 := Lib.hid (fun X h => FR.out X 0 (by decide) (by decide) h)
  have F4 := Lib.hid (fun X h => FR.out X 4 (by decide) (by decide) h)
  have F8 := Lib.hid (fun X h => FR.out X 8 (by decide) (by decide) h)
  have O0 := Lib.hid (fun X u h => OFC.out X u 0 h)
  have O4 := Lib.hid (fun X u h => OFC.out X u 4 h)
  have O8 := Lib.hid (fun X u h => OFC.out X u 8 h)
  clear FR OFC hr
  generalize frP l 0 = p1 at *
  generalize frQ l 0 = q1 at *
  generalize frP l 4 = p2 at *
  generalize frQ l 4 = q2 at *
  generalize frP l 8 = p3 at *
  generalize frQ l 8 = q3 at *
  obtain ⟨nab, dab, Vab, cab⟩ := fadd_v A B (by decide) (by decide)
  obtain ⟨nba, dba, Vba, cba⟩ := fadd_v B A (by decide) (by decide)
  obtain ⟨rfl, rfl⟩ := is_eq Vab.is Vba.is (by grind)
  obtain ⟨nx, dx, Vx, cx⟩ := fmul_v A B (by decide) (by decide)
  obtain ⟨ny, dy, Vy, cy⟩ := fmul_v B A (by decide) (by decide)
  obtain ⟨rfl, rfl⟩ := is_eq Vx.is Vy.is (by grind)
  obtain ⟨nbk, dbk, Vbk, cbk⟩ := fsub_v Vab B (by decide) (by decide)
  obtain ⟨rfl, rfl⟩ := is_eq A.is Vbk.is (by grind)
  obtain ⟨nu, du, Vu, cu⟩ := fadd_v Vab C (by decide) (by decide)
  obtain ⟨nbc, dbc, Vbc, cbc⟩ := fadd_v B C (by decide) (by decide)
  obtain ⟨noo, doo, Voo, coo⟩ := fadd_v A Vbc (by decide) (by decide)
  obtain ⟨rfl, rfl⟩ := is_eq Vu.is Voo.is (by grind)
  obtain ⟨nle, dle, Vle, cle⟩ := fmul_v Vab C (by decide) (by decide)
  obtain ⟨nac, dac, Vac, cac⟩ := fmul_v A C (by decide) (by decide)
  obtain ⟨nbm, dbm, Vbm, cbm⟩ := fmul_v B C (by decide) (by decide)
  obtain ⟨nri, dri, Vri, cri⟩ := fadd_v Vac Vbm (by decide) (by decide)
  obtain ⟨rfl, rfl⟩ := is_eq Vle.is Vri.is (by grind)
  obtain ⟨nxc, dxc, Vxc, cxc⟩ := fmul_v Vx C (by decide) (by decide)
  obtain ⟨nam, dam, Vam, cam⟩ := fmul_v A Vbm (by decide) (by decide)
  obtain ⟨rfl, rfl⟩ := is_eq Vxc.is Vam.is (by grind)
  have Cab := Lib.hid cab
  clear cab
  have Cba := Lib.hid cba
  clear cba
  have Cx := Lib.hid cx
  clear cx
  have Cy := Lib.hid cy
  clear cy
  have Cbk := Lib.hid cbk
  clear cbk
  have Cu := Lib.hid cu
  clear cu
  have Cbc := Lib.hid cbc
  clear cbc
  have Coo := Lib.hid coo
  clear coo
  have Cle := Lib.hid cle
  clear cle
  have Cac := Lib.hid cac
  clear cac
  have Cbm := Lib.hid cbm
  clear cbm
  have Cri := Lib.hid cri
  clear cri
  have Cxc := Lib.hid cxc
  clear cxc
  have Cam := Lib.hid cam
  clear cam
  have E1 : Hid (∀ (X : World) (u v : Value), FAt X u nab dab → FAt X v nab dab → Calls Tryz.prog 42 #[u, v] X (VEnd (KX (.bool true)) X)) := Lib.hid (equal_v Vab (by decide))
  have E2 : Hid (∀ (X : World) (u v : Value), FAt X u nx dx → FAt X v nx dx → Calls Tryz.prog 42 #[u, v] X (VEnd (KX (.bool true)) X)) := Lib.hid (equal_v Vx (by decide))
  have E3 : Hid (∀ (X : World) (u v : Value), FAt X u p1 q1 → FAt X v p1 q1 → Calls Tryz.prog 42 #[u, v] X (VEnd (KX (.bool true)) X)) := Lib.hid (equal_v A (by decide))
  have E4 : Hid (∀ (X : World) (u v : Value), FAt X u nu du → FAt X v nu du → Calls Tryz.prog 42 #[u, v] X (VEnd (KX (.bool true)) X)) := Lib.hid (equal_v Vu (by decide))
  have E5 : Hid (∀ (X : World) (u v : Value), FAt X u nle dle → FAt X v nle dle → Calls Tryz.prog 42 #[u, v] X (VEnd (KX (.bool true)) X)) := Lib.hid (equal_v Vle (by decide))
  have E6 : Hid (∀ (X : World) (u v : Value), FAt X u nxc dxc → FAt X v nxc dxc → Calls Tryz.prog 42 #[u, v] X (VEnd (KX (.bool true)) X)) := Lib.hid (equal_v Vxc (by decide))
  have SG : Hid (∀ (X : World) (u : Value), FAt X u p2 q2 → Calls Tryz.prog 38 #[u] X (VEnd (KX (.int .i64 (cmpZ p2 0))) X)) := Lib.hid (fun X u h => (fSign_any u p2 q2 X h (B.fine (by decide)).len).mono (fun _ _ => v_c))
  have DV : Hid (p2 ≠ 0 → BinC 33 nx dx p2 q2 (0, p1, q1)) := Lib.hid (fun h => by
    obtain ⟨n', d', V, c⟩ := fdiv_v Vx B h (by decide) (by decide)
    have h0 : p2 * q2 ≠ 0 := Int.mul_ne_zero h (by have := B.is.low.pos; omega)
    obtain ⟨rfl, rfl⟩ := is_eq A.is V.is (by grind)
    exact c)
  have LV : Hid (∀ X : World, Calls Tryz.prog 23 #[] X (VEnd (KX (.bool true)) X)) := Lib.hid (fun X => lives4_any X)
  clear A B C Vab Vx Vbk Vu Vbc Vle Vac Vbm Vxc Vba Vy Voo Vri Vam
  have HL := Lib.hid hv
  have HB : Hid (Below w.heap.size w w) := Lib.hid (Below.refl _ _)
  have HCZ : Hid ((p2 = 0 ∧ cmpZ p2 0 = 0) ∨ (p2 ≠ 0 ∧ ¬ cmpZ p2 0 = 0)) := Lib.hid (by
    rcases Classical.em (p2 = 0) with h | h
    · exact .inl ⟨h, by rw [h]; rfl⟩
    · exact .inr ⟨h, fun hc => h (cmp_eq0.1 hc)⟩)
  obtain ⟨cz, hcz⟩ : ∃ cz, cz = cmpZ p2 0 := ⟨_, rfl⟩
  rw [← hcz] at SG HCZ
  clear hcz
  unfold BinC at Cab Cba Cx Cy Cbk Cu Cbc Coo Cle Cac Cbm Cri Cxc Cam DV
  obtain ⟨pv, cv, rfl, hcv, hcvm⟩ := (show ∃ p c, v = .slice p l.length c ∧ l.length ≤ c ∧ c ≤ 9223372036854775807 by obtain ⟨p, c, e, h1, h2, _⟩ := hv; exact ⟨p, c, e, h1, h2⟩)
  clear hv
  generalize hll : l.length = ll at *
  clear hll
  go_enter Tryz.func7, Tryz.ntmps7
  go_wp2_with fail
  have C := F0.out w HL.out
  unfold VEnd at C
  have HC := Lib.hid C
  clear C
  go_must (refine HC.out.mono ?_)
  rintro e w21 ⟨v5, rfl, hx5, hb5⟩
  obtain ⟨srg, trg, arg, drg, mrg, irg, crg, jrg, rfl⟩ := rf_shape hx5
  clear HC
  replace HB := Lib.hid (below_then HB.out hb5)
  replace HL := Lib.hid (row_keeps HL.out hb5)
  have Gg := Lib.hid hx5
  clear hx5 hb5
  go_wp2_with fail
  have C := O0.out w21 _ Gg.out
  unfold VEnd at C
  have HC := Lib.hid C
  clear C
  go_must (refine HC.out.mono ?_)
  rintro e w22 ⟨v5, rfl, hx5, hb5⟩
  obtain ⟨sra, tra, ara, dra, mra, ira, cra, jra, rfl⟩ := fat_shape hx5
  clear HC
  have hbb := below_then hb5 (below_one w22 (.cells #[.bool sra, .slice ara mra cra, .bool tra, .slice dra ira jra] 35))
  replace HB := Lib.hid (below_then HB.out hbb)
  replace HL := Lib.hid (row_keeps HL.out hbb)
  replace Gg := Lib.hid (rf_keeps Gg.out hbb)
  have Ta := Lib.hid (FBox.new hx5)
  clear hx5 hb5 hbb
  clear Gg
  go_wp2_with fail
  have HSZY1 := Lib.hid (size_alloc1 w22 (.cells #[.bool sra, .slice ara mra cra, .bool tra, .slice dra ira jra] 35))
  generalize w22.alloc (.cells #[.bool sra, .slice ara mra cra, .bool tra, .slice dra ira jra] 35) = Y1 at *
  generalize w22.heap.size = ta at *
  have C := F4.out Y1 HL.out
  unfold VEnd at C
  have HC := Lib.hid C
  clear C
  go_must (refine HC.out.mono ?_)
  rintro e w23 ⟨v5, rfl, hx5, hb5⟩
  obtain ⟨srg, trg, arg, drg, mrg, irg, crg, jrg, rfl⟩ := rf_shape hx5
  clear HC
  replace Ta := Lib.hid (Ta.out.below hb5)
  replace HB := Lib.hid (below_then HB.out hb5)
  replace HL := Lib.hid (row_keeps HL.out hb5)
  have Gg := Lib.hid hx5
  clear hx5 hb5
  go_wp2_with fail
  have C := O4.out w23 _ Gg.out
  unfold VEnd at C
  have HC := Lib.hid C
  clear C
  go_must (refine HC.out.mono ?_)
  rintro e w24 ⟨v5, rfl, hx5, hb5⟩
  obtain ⟨srb, trb, arb, drb, mrb, irb, crb, jrb, rfl⟩ := fat_shape hx5
  clear HC
  have hbb := below_then hb5 (below_one w24 (.cells #[.bool srb, .slice arb mrb crb, .bool trb, .slice drb irb jrb] 35))
  replace Ta := Lib.hid (Ta.out.below hbb)
  replace HB := Lib.hid (below_then HB.out hbb)
  replace HL := Lib.hid (row_keeps HL.out hbb)
  replace Gg := Lib.hid (rf_keeps Gg.out hbb)
  have Tb := Lib.hid (FBox.new hx5)
  clear hx5 hb5 hbb
  clear Gg
  go_wp2_with fail
  have HSZY2 := Lib.hid (size_alloc1 w24 (.cells #[.bool srb, .slice arb mrb crb, .bool trb, .slice drb irb jrb] 35))
  generalize w24.alloc (.cells #[.bool srb, .slice arb mrb crb, .bool trb, .slice drb irb jrb] 35) = Y2 at *
  generalize w24.heap.size = tb at *
  have C := F8.out Y2 HL.out
  unfold VEnd at C
  have HC := Lib.hid C
  clear C
  go_must (refine HC.out.mono ?_)
  rintro e w25 ⟨v5, rfl, hx5, hb5⟩
  obtain ⟨srg, trg, arg, drg, mrg, irg, crg, jrg, rfl⟩ := rf_shape hx5
  clear HC
  replace Ta := Lib.hid (Ta.out.below hb5)
  replace Tb := Lib.hid (Tb.out.below hb5)
  replace HB := Lib.hid (below_then HB.out hb5)
  replace HL := Lib.hid (row_keeps HL.out hb5)
  have Gg := Lib.hid hx5
  clear hx5 hb5
  go_wp2_with fail
  have C := O8.out w25 _ Gg.out
  unfold VEnd at C
  have HC := Lib.hid C
  clear C
  go_must (refine HC.out.mono ?_)
  rintro e w26 ⟨v5, rfl, hx5, hb5⟩
  obtain ⟨src, trc, arc, drc, mrc, irc, crc, jrc, rfl⟩ := fat_shape hx5
  clear HC
  have hbb := below_then hb5 (below_one w26 (.cells #[.bool src, .slice arc mrc crc, .bool trc, .slice drc irc jrc] 35))
  replace Ta := Lib.hid (Ta.out.below hbb)
  replace Tb := Lib.hid (Tb.out.below hbb)
  replace HB := Lib.hid (below_then HB.out hbb)
  replace HL := Lib.hid (row_keeps HL.out hbb)
  replace Gg := Lib.hid (rf_keeps Gg.out hbb)
  have Tc := Lib.hid (FBox.new hx5)
  clear hx5 hb5 hbb
  clear Gg
  clear HL
  obtain ⟨sa_6, ta_6, aa_6, da_6, ma_6, ia_6, ca_6, ja_6, ⟨ca_60, ca_61, ca_62, ca_63⟩, _, ha_6⟩ := Ta.out.open
  obtain ⟨sb_6, tb_6, ab_6, db_6, mb_6, ib_6, cb_6, jb_6, ⟨cb_60, cb_61, cb_62, cb_63⟩, _, hb_6⟩ := Tb.out.open
  go_wp2_with fail
  have HSZY3 := Lib.hid (size_alloc1 w26 (.cells #[.bool src, .slice arc mrc crc, .bool trc, .slice drc irc jrc] 35))
  generalize w26.alloc (.cells #[.bool src, .slice arc mrc crc, .bool trc, .slice drc irc jrc] 35) = Y3 at *
  generalize w26.heap.size = tc at *
  have C := Cab.out Y3 _ _ ha_6 hb_6
  unfold VEnd at C
  have HC := Lib.hid C
  clear C
  clear ca_60 ca_61 ca_62 ca_63 ha_6
  clear cb_60 cb_61 cb_62 cb_63 hb_6
  go_must (refine HC.out.mono ?_)
  rintro e w27 ⟨v5, rfl, ⟨y5, rfl, hx5⟩, hb5⟩
  obtain ⟨srp, trp, arp, drp, mrp, irp, crp, jrp, rfl⟩ := fat_shape hx5
  clear HC
  have hbb := below_then hb5 (below_one w27 (.cells #[.bool srp, .slice arp mrp crp, .bool trp, .slice drp irp jrp] 35))
  replace Ta := Lib.hid (Ta.out.below hbb)
  replace Tb := Lib.hid (Tb.out.below hbb)
  replace Tc := Lib.hid (Tc.out.below hbb)
  replace HB := Lib.hid (below_then HB.out hbb)
  have Tp := Lib.hid (FBox.new hx5)
  clear hx5 hb5 hbb
  obtain ⟨sb_7, tb_7, ab_7, db_7, mb_7, ib_7, cb_7, jb_7, ⟨cb_70, cb_71, cb_72, cb_73⟩, _, hb_7⟩ := Tb.out.open
  obtain ⟨sa_7, ta_7, aa_7, da_7, ma_7, ia_7, ca_7, ja_7, ⟨ca_70, ca_71, ca_72, ca_73⟩, _, ha_7⟩ := Ta.out.open
  go_wp2_with fail
  have HSZY4 := Lib.hid (size_alloc1 w27 (.cells #[.bool srp, .slice arp mrp crp, .bool trp, .slice drp irp jrp] 35))
  generalize w27.alloc (.cells #[.bool srp, .slice arp mrp crp, .bool trp, .slice drp irp jrp] 35) = Y4 at *
  generalize w27.heap.size = tp at *
  have C := Cba.out Y4 _ _ hb_7 ha_7
  unfold VEnd at C
  have HC := Lib.hid C
  clear C
  clear cb_70 cb_71 cb_72 cb_73 hb_7
  clear ca_70 ca_71 ca_72 ca_73 ha_7
  go_must (refine HC.out.mono ?_)
  rintro e w28 ⟨v5, rfl, ⟨y5, rfl, hx5⟩, hb5⟩
  obtain ⟨srq, trq, arq, drq, mrq, irq, crq, jrq, rfl⟩ := fat_shape hx5
  clear HC
  have hbb := below_then hb5 (below_one w28 (.cells #[.bool srq, .slice arq mrq crq, .bool trq, .slice drq irq jrq] 35))
  replace Ta := Lib.hid (Ta.out.below hbb)
  replace Tb := Lib.hid (Tb.out.below hbb)
  replace Tc := Lib.hid (Tc.out.below hbb)
  replace Tp := Lib.hid (Tp.out.below hbb)
  replace HB := Lib.hid (below_then HB.out hbb)
  have Tq := Lib.hid (FBox.new hx5)
  clear hx5 hb5 hbb
  obtain ⟨sa_8, ta_8, aa_8, da_8, ma_8, ia_8, ca_8, ja_8, ⟨ca_80, ca_81, ca_82, ca_83⟩, _, ha_8⟩ := Ta.out.open
  obtain ⟨sb_8, tb_8, ab_8, db_8, mb_8, ib_8, cb_8, jb_8, ⟨cb_80, cb_81, cb_82, cb_83⟩, _, hb_8⟩ := Tb.out.open
  go_wp2_with fail
  have HSZY5 := Lib.hid (size_alloc1 w28 (.cells #[.bool srq, .slice arq mrq crq, .bool trq, .slice drq irq jrq] 35))
  generalize w28.alloc (.cells #[.bool srq, .slice arq mrq crq, .bool trq, .slice drq irq jrq] 35) = Y5 at *
  generalize w28.heap.size = tq at *
  have C := Cx.out Y5 _ _ ha_8 hb_8
  unfold VEnd at C
  have HC := Lib.hid C
  clear C
  clear ca_80 ca_81 ca_82 ca_83 ha_8
  clear cb_80 cb_81 cb_82 cb_83 hb_8
  go_must (refine HC.out.mono ?_)
  rintro e w29 ⟨v5, rfl, ⟨y5, rfl, hx5⟩, hb5⟩
  obtain ⟨srx, trx, arx, drx, mrx, irx, crx, jrx, rfl⟩ := fat_shape hx5
  clear HC
  have hbb := below_then hb5 (below_one w29 (.cells #[.bool srx, .slice arx mrx crx, .bool trx, .slice drx irx jrx] 35))
  replace Ta := Lib.hid (Ta.out.below hbb)
  replace Tb := Lib.hid (Tb.out.below hbb)
  replace Tc := Lib.hid (Tc.out.below hbb)
  replace Tp := Lib.hid (Tp.out.below hbb)
  replace Tq := Lib.hid (Tq.out.below hbb)
  replace HB := Lib.hid (below_then HB.out hbb)
  have Tx := Lib.hid (FBox.new hx5)
  clear hx5 hb5 hbb
  obtain ⟨sb_9, tb_9, ab_9, db_9, mb_9, ib_9, cb_9, jb_9, ⟨cb_90, cb_91, cb_92, cb_93⟩, _, hb_9⟩ := Tb.out.open
  obtain ⟨sa_9, ta_9, aa_9, da_9, ma_9, ia_9, ca_9, ja_9, ⟨ca_90, ca_91, ca_92, ca_93⟩, _, ha_9⟩ := Ta.out.open
  go_wp2_with fail
  have HSZY6 := Lib.hid (size_alloc1 w29 (.cells #[.bool srx, .slice arx mrx crx, .bool trx, .slice drx irx jrx] 35))
  generalize w29.alloc (.cells #[.bool srx, .slice arx mrx crx, .bool trx, .slice drx irx jrx] 35) = Y6 at *
  generalize w29.heap.size = tx at *
  have C := Cy.out Y6 _ _ hb_9 ha_9
  unfold VEnd at C
  have HC := Lib.hid C
  clear C
  clear cb_90 cb_91 cb_92 cb_93 hb_9
  clear ca_90 ca_91 ca_92 ca_93 ha_9
  go_must (refine HC.out.mono ?_)
  rintro e w30 ⟨v5, rfl, ⟨y5, rfl, hx5⟩, hb5⟩
  obtain ⟨srz, trz, arz, drz, mrz, irz, crz, jrz, rfl⟩ := fat_shape hx5
  clear HC
  have hbb := below_then hb5 (below_one w30 (.cells #[.bool srz, .slice arz mrz crz, .bool trz, .slice drz irz jrz] 35))
  replace Ta := Lib.hid (Ta.out.below hbb)
  replace Tb := Lib.hid (Tb.out.below hbb)
  replace Tc := Lib.hid (Tc.out.below hbb)
  replace Tp := Lib.hid (Tp.out.below hbb)
  replace Tq := Lib.hid (Tq.out.below hbb)
  replace Tx := Lib.hid (Tx.out.below hbb)
  replace HB := Lib.hid (below_then HB.out hbb)
  have Tz := Lib.hid (FBox.new hx5)
  clear hx5 hb5 hbb
  obtain ⟨sp_10, tp_10, ap_10, dp_10, mp_10, ip_10, cp_10, jp_10, ⟨cp_100, cp_101, cp_102, cp_103⟩, _, hp_10⟩ := Tp.out.open
  obtain ⟨sq_10, tq_10, aq_10, dq_10, mq_10, iq_10, cq_10, jq_10, ⟨cq_100, cq_101, cq_102, cq_103⟩, _, hq_10⟩ := Tq.out.open
  go_wp2_with fail
  have HSZY7 := Lib.hid (size_alloc1 w30 (.cells #[.bool srz, .slice arz mrz crz, .bool trz, .slice drz irz jrz] 35))
  generalize w30.alloc (.cells #[.bool srz, .slice arz mrz crz, .bool trz, .slice drz irz jrz] 35) = Y7 at *
  generalize w30.heap.size = tz at *
  have C := E1.out Y7 _ _ hp_10 hq_10
  unfold VEnd at C
  have HC := Lib.hid C
  clear C
  clear cp_100 cp_101 cp_102 cp_103 hp_10
  clear cq_100 cq_101 cq_102 cq_103 hq_10
  go_must (refine HC.out.mono ?_)
  rintro e w31 ⟨v5, rfl, hv5, hb5⟩
  obtain rfl := hv5
  clear HC
  replace Ta := Lib.hid (Ta.out.below hb5)
  replace Tb := Lib.hid (Tb.out.below hb5)
  replace Tc := Lib.hid (Tc.out.below hb5)
  replace Tp := Lib.hid (Tp.out.below hb5)
  replace Tq := Lib.hid (Tq.out.below hb5)
  replace Tx := Lib.hid (Tx.out.below hb5)
  replace Tz := Lib.hid (Tz.out.below hb5)
  replace HB := Lib.hid (below_then HB.out hb5)
  clear hb5
  obtain ⟨sx_11, tx_11, ax_11, dx_11, mx_11, ix_11, cx_11, jx_11, ⟨cx_110, cx_111, cx_112, cx_113⟩, _, hx_11⟩ := Tx.out.open
  obtain ⟨sz_11, tz_11, az_11, dz_11, mz_11, iz_11, cz_11, jz_11, ⟨cz_110, cz_111, cz_112, cz_113⟩, _, hz_11⟩ := Tz.out.open
  go_wp2_with fail
  have C := E2.out w31 _ _ hx_11 hz_11
  unfold VEnd at C
  have HC := Lib.hid C
  clear C
  clear cx_110 cx_111 cx_112 cx_113 hx_11
  clear cz_110 cz_111 cz_112 cz_113 hz_11
  go_must (refine HC.out.mono ?_)
  rintro e w32 ⟨v5, rfl, hv5, hb5⟩
  obtain rfl := hv5
  clear HC
  replace Ta := Lib.hid (Ta.out.below hb5)
  replace Tb := Lib.hid (Tb.out.below hb5)
  replace Tc := Lib.hid (Tc.out.below hb5)
  replace Tp := Lib.hid (Tp.out.below hb5)
  replace Tq := Lib.hid (Tq.out.below hb5)
  replace Tx := Lib.hid (Tx.out.below hb5)
  replace Tz := Lib.hid (Tz.out.below hb5)
  replace HB := Lib.hid (below_then HB.out hb5)
  clear hb5
  clear Tq
  clear Tz
  obtain ⟨sp_12, tp_12, ap_12, dp_12, mp_12, ip_12, cp_12, jp_12, ⟨cp_120, cp_121, cp_122, cp_123⟩, _, hp_12⟩ := Tp.out.open
  obtain ⟨sb_12, tb_12, ab_12, db_12, mb_12, ib_12, cb_12, jb_12, ⟨cb_120, cb_121, cb_122, cb_123⟩, _, hb_12⟩ := Tb.out.open
  go_wp2_with fail
  have C := Cbk.out w32 _ _ hp_12 hb_12
  unfold VEnd at C
  have HC := Lib.hid C
  clear C
  clear cp_120 cp_121 cp_122 cp_123 hp_12
  clear cb_120 cb_121 cb_122 cb_123 hb_12
  go_must (refine HC.out.mono ?_)
  rintro e w33 ⟨v5, rfl, ⟨y5, rfl, hx5⟩, hb5⟩
  obtain ⟨srk, trk, ark, drk, mrk, irk, crk, jrk, rfl⟩ := fat_shape hx5
  clear HC
  have hbb := below_then hb5 (below_one w33 (.cells #[.bool srk, .slice ark mrk crk, .bool trk, .slice drk irk jrk] 35))
  replace Ta := Lib.hid (Ta.out.below hbb)
  replace Tb := Lib.hid (Tb.out.below hbb)
  replace Tc := Lib.hid (Tc.out.below hbb)
  replace Tp := Lib.hid (Tp.out.below hbb)
  replace Tx := Lib.hid (Tx.out.below hbb)
  replace HB := Lib.hid (below_then HB.out hbb)
  have Tk := Lib.hid (FBox.new hx5)
  clear hx5 hb5 hbb
  obtain ⟨sk_13, tk_13, ak_13, dk_13, mk_13, ik_13, ck_13, jk_13, ⟨ck_130, ck_131, ck_132, ck_133⟩, _, hk_13⟩ := Tk.out.open
  obtain ⟨sa_13, ta_13, aa_13, da_13, ma_13, ia_13, ca_13, ja_13, ⟨ca_130, ca_131, ca_132, ca_133⟩, _, ha_13⟩ := Ta.out.open
  go_wp2_with fail
  have HSZY8 := Lib.hid (size_alloc1 w33 (.cells #[.bool srk, .slice ark mrk crk, .bool trk, .slice drk irk jrk] 35))
  generalize w33.alloc (.cells #[.bool srk, .slice ark mrk crk, .bool trk, .slice drk irk jrk] 35) = Y8 at *
  generalize w33.heap.size = tk at *
  have C := E3.out Y8 _ _ hk_13 ha_13
  unfold VEnd at C
  have HC := Lib.hid C
  clear C
  clear ck_130 ck_131 ck_132 ck_133 hk_13
  clear ca_130 ca_131 ca_132 ca_133 ha_13
  go_must (refine HC.out.mono ?_)
  rintro e w34 ⟨v5, rfl, hv5, hb5⟩
  obtain rfl := hv5
  clear HC
  replace Ta := Lib.hid (Ta.out.below hb5)
  replace Tb := Lib.hid (Tb.out.below hb5)
  replace Tc := Lib.hid (Tc.out.below hb5)
  replace Tp := Lib.hid (Tp.out.below hb5)
  replace Tx := Lib.hid (Tx.out.below hb5)
  replace Tk := Lib.hid (Tk.out.below hb5)
  replace HB := Lib.hid (below_then HB.out hb5)
  clear hb5
  clear Tk
  obtain ⟨sb_14, tb_14, ab_14, db_14, mb_14, ib_14, cb_14, jb_14, ⟨cb_140, cb_141, cb_142, cb_143⟩, _, hb_14⟩ := Tb.out.open
  go_wp2_with fail
  have C := SG.out w34 _ hb_14
  unfold VEnd at C
  have HC := Lib.hid C
  clear C
  clear cb_140 cb_141 cb_142 cb_143 hb_14
  go_must (refine HC.out.mono ?_)
  rintro e w35 ⟨v5, rfl, hv5, hb5⟩
  obtain rfl := hv5
  clear HC
  replace Ta := Lib.hid (Ta.out.below hb5)
  replace Tb := Lib.hid (Tb.out.below hb5)
  replace Tc := Lib.hid (Tc.out.below hb5)
  replace Tp := Lib.hid (Tp.out.below hb5)
  replace Tx := Lib.hid (Tx.out.below hb5)
  replace HB := Lib.hid (below_then HB.out hb5)
  clear hb5
  rcases HCZ.out with ⟨hp0, rfl⟩ | ⟨hp0, hc0⟩
  · clear hp0 DV HCZ
    skip
    obtain ⟨sp_15, tp_15, ap_15, dp_15, mp_15, ip_15, cp_15, jp_15, ⟨cp_150, cp_151, cp_152, cp_153⟩, _, hp_15⟩ := Tp.out.open
    obtain ⟨sc_15, tc_15, ac_15, dc_15, mc_15, ic_15, cc_15, jc_15, ⟨cc_150, cc_151, cc_152, cc_153⟩, _, hc_15⟩ := Tc.out.open
    go_wp2_with fail
    have C := Cu.out w35 _ _ hp_15 hc_15
    unfold VEnd at C
    have HC := Lib.hid C
    clear C
    clear cp_150 cp_151 cp_152 cp_153 hp_15
    clear cc_150 cc_151 cc_152 cc_153 hc_15
    go_must (refine HC.out.mono ?_)
    rintro e w36 ⟨v5, rfl, ⟨y5, rfl, hx5⟩, hb5⟩
    obtain ⟨sre, tre, are, dre, mre, ire, cre, jre, rfl⟩ := fat_shape hx5
    clear HC
    have HNa_e := Lib.hid (Nat.ne_of_lt (Nat.lt_of_lt_of_le Ta.out.lt hb5.size))
    have HNb_e := Lib.hid (Nat.ne_of_lt (Nat.lt_of_lt_of_le Tb.out.lt hb5.size))
    have HNc_e := Lib.hid (Nat.ne_of_lt (Nat.lt_of_lt_of_le Tc.out.lt hb5.size))
    have HNp_e := Lib.hid (Nat.ne_of_lt (Nat.lt_of_lt_of_le Tp.out.lt hb5.size))
    have HNx_e := Lib.hid (Nat.ne_of_lt (Nat.lt_of_lt_of_le Tx.out.lt hb5.size))
    have HPe := Lib.hid (Nat.le_trans HB.out.size hb5.size)
    have hbb := below_then hb5 (below_one w36 (.cells #[.bool sre, .slice are mre cre, .bool tre, .slice dre ire jre] 35))
    replace Ta := Lib.hid (Ta.out.below hbb)
    replace Tb := Lib.hid (Tb.out.below hbb)
    replace Tc := Lib.hid (Tc.out.below hbb)
    replace Tp := Lib.hid (Tp.out.below hbb)
    replace Tx := Lib.hid (Tx.out.below hbb)
    replace HB := Lib.hid (below_then HB.out hbb)
    have Te := Lib.hid (FBox.new hx5)
    clear hx5 hb5 hbb
    obtain ⟨sb_16, tb_16, ab_16, db_16, mb_16, ib_16, cb_16, jb_16, ⟨cb_160, cb_161, cb_162, cb_163⟩, _, hb_16⟩ := Tb.out.open
    obtain ⟨sc_16, tc_16, ac_16, dc_16, mc_16, ic_16, cc_16, jc_16, ⟨cc_160, cc_161, cc_162, cc_163⟩, _, hc_16⟩ := Tc.out.open
    go_wp2_with fail
    have HSZY9 := Lib.hid (size_alloc1 w36 (.cells #[.bool sre, .slice are mre cre, .bool tre, .slice dre ire jre] 35))
    generalize w36.alloc (.cells #[.bool sre, .slice are mre cre, .bool tre, .slice dre ire jre] 35) = Y9 at *
    generalize w36.heap.size = te at *
    have C := Cbc.out Y9 _ _ hb_16 hc_16
    unfold VEnd at C
    have HC := Lib.hid C
    clear C
    clear cb_160 cb_161 cb_162 cb_163 hb_16
    clear cc_160 cc_161 cc_162 cc_163 hc_16
    go_must (refine HC.out.mono ?_)
    rintro e w37 ⟨v5, rfl, ⟨y5, rfl, hx5⟩, hb5⟩
    obtain ⟨srf, trf, arf, drf, mrf, irf, crf, jrf, rfl⟩ := fat_shape hx5
    clear HC
    have HNa_f := Lib.hid (Nat.ne_of_lt (Nat.lt_of_lt_of_le Ta.out.lt hb5.size))
    have HNb_f := Lib.hid (Nat.ne_of_lt (Nat.lt_of_lt_of_le Tb.out.lt hb5.size))
    have HNc_f := Lib.hid (Nat.ne_of_lt (Nat.lt_of_lt_of_le Tc.out.lt hb5.size))
    have HNp_f := Lib.hid (Nat.ne_of_lt (Nat.lt_of_lt_of_le Tp.out.lt hb5.size))
    have HNx_f := Lib.hid (Nat.ne_of_lt (Nat.lt_of_lt_of_le Tx.out.lt hb5.size))
    have HNe_f := Lib.hid (Nat.ne_of_lt (Nat.lt_of_lt_of_le Te.out.lt hb5.size))
    have HPf := Lib.hid (Nat.le_trans HB.out.size hb5.size)
    have hbb := below_then hb5 (below_one w37 (.cells #[.bool srf, .slice arf mrf crf, .bool trf, .slice drf irf jrf] 35))
    replace Ta := Lib.hid (Ta.out.below hbb)
    replace Tb := Lib.hid (Tb.out.below hbb)
    replace Tc := Lib.hid (Tc.out.below hbb)
    replace Tp := Lib.hid (Tp.out.below hbb)
    replace Tx := Lib.hid (Tx.out.below hbb)
    replace Te := Lib.hid (Te.out.below hbb)
    replace HB := Lib.hid (below_then HB.out hbb)
    have Tf := Lib.hid (FBox.new hx5)
    clear hx5 hb5 hbb
    obtain ⟨sa_17, ta_17, aa_17, da_17, ma_17, ia_17, ca_17, ja_17, ⟨ca_170, ca_171, ca_172, ca_173⟩, _, ha_17⟩ := Ta.out.open
    obtain ⟨sf_17, tf_17, af_17, df_17, mf_17, if_17, cf_17, jf_17, ⟨cf_170, cf_171, cf_172, cf_173⟩, _, hf_17⟩ := Tf.out.open
    go_wp2_with fail
    have HSZY10 := Lib.hid (size_alloc1 w37 (.cells #[.bool srf, .slice arf mrf crf, .bool trf, .slice drf irf jrf] 35))
    generalize w37.alloc (.cells #[.bool srf, .slice arf mrf crf, .bool trf, .slice drf irf jrf] 35) = Y10 at *
    generalize w37.heap.size = tf at *
    have C := Coo.out Y10 _ _ ha_17 hf_17
    unfold VEnd at C
    have HC := Lib.hid C
    clear C
    clear ca_170 ca_171 ca_172 ca_173 ha_17
    clear cf_170 cf_171 cf_172 cf_173 hf_17
    go_must (refine HC.out.mono ?_)
    rintro e w38 ⟨v5, rfl, ⟨y5, rfl, hx5⟩, hb5⟩
    obtain ⟨srh, trh, arh, drh, mrh, irh, crh, jrh, rfl⟩ := fat_shape hx5
    clear HC
    have HNe_h := Lib.hid (Nat.ne_of_lt (Nat.lt_of_lt_of_le Te.out.lt hb5.size))
    have HNf_h := Lib.hid (Nat.ne_of_lt (Nat.lt_of_lt_of_le Tf.out.lt hb5.size))
    have hbb := below_then hb5 (below_one w38 (.cells #[.bool srh, .slice arh mrh crh, .bool trh, .slice drh irh jrh] 35))
    replace Ta := Lib.hid (Ta.out.below hbb)
    replace Tb := Lib.hid (Tb.out.below hbb)
    replace Tc := Lib.hid (Tc.out.below hbb)
    replace Tp := Lib.hid (Tp.out.below hbb)
    replace Tx := Lib.hid (Tx.out.below hbb)
    replace Te := Lib.hid (Te.out.below hbb)
    replace Tf := Lib.hid (Tf.out.below hbb)
    replace HB := Lib.hid (below_then HB.out hbb)
    have Th := Lib.hid (FBox.new hx5)
    clear hx5 hb5 hbb
    obtain ⟨se_18, te_18, ae_18, de_18, me_18, ie_18, ce_18, je_18, ⟨ce_180, ce_181, ce_182, ce_183⟩, _, he_18⟩ := Te.out.open
    obtain ⟨sh_18, th_18, ah_18, dh_18, mh_18, ih_18, ch_18, jh_18, ⟨ch_180, ch_181, ch_182, ch_183⟩, _, hh_18⟩ := Th.out.open
    go_wp2_with fail
    have HSZY11 := Lib.hid (size_alloc1 w38 (.cells #[.bool srh, .slice arh mrh crh, .bool trh, .slice drh irh jrh] 35))
    generalize w38.alloc (.cells #[.bool srh, .slice arh mrh crh, .bool trh, .slice drh irh jrh] 35) = Y11 at *
    generalize w38.heap.size = th at *
    have C := E4.out Y11 _ _ he_18 hh_18
    unfold VEnd at C
    have HC := Lib.hid C
    clear C
    clear ce_180 ce_181 ce_182 ce_183 he_18
    clear ch_180 ch_181 ch_182 ch_183 hh_18
    go_must (refine HC.out.mono ?_)
    rintro e w39 ⟨v5, rfl, hv5, hb5⟩
    obtain rfl := hv5
    clear HC
    replace Ta := Lib.hid (Ta.out.below hb5)
    replace Tb := Lib.hid (Tb.out.below hb5)
    replace Tc := Lib.hid (Tc.out.below hb5)
    replace Tp := Lib.hid (Tp.out.below hb5)
    replace Tx := Lib.hid (Tx.out.below hb5)
    replace Te := Lib.hid (Te.out.below hb5)
    replace Tf := Lib.hid (Tf.out.below hb5)
    replace Th := Lib.hid (Th.out.below hb5)
    replace HB := Lib.hid (below_then HB.out hb5)
    clear hb5
    clear Th
    obtain ⟨sp_19, tp_19, ap_19, dp_19, mp_19, ip_19, cp_19, jp_19, ⟨cp_190, cp_191, cp_192, cp_193⟩, _, hp_19⟩ := Tp.out.open
    obtain ⟨sc_19, tc_19, ac_19, dc_19, mc_19, ic_19, cc_19, jc_19, ⟨cc_190, cc_191, cc_192, cc_193⟩, _, hc_19⟩ := Tc.out.open
    go_wp2_with fail
    have C := Cle.out w39 _ _ hp_19 hc_19
    unfold VEnd at C
    have HC := Lib.hid C
    clear C
    clear cp_190 cp_191 cp_192 cp_193 hp_19
    clear cc_190 cc_191 cc_192 cc_193 hc_19
    go_must (refine HC.out.mono ?_)
    rintro e w40 ⟨v5, rfl, ⟨y5, rfl, hx5⟩, hb5⟩
    obtain ⟨srl, trl, arl, drl, mrl, irl, crl, jrl, rfl⟩ := fat_shape hx5
    clear HC
    have HNe_l := Lib.hid (Nat.ne_of_lt (Nat.lt_of_lt_of_le Te.out.lt hb5.size))
    have HNf_l := Lib.hid (Nat.ne_of_lt (Nat.lt_of_lt_of_le Tf.out.lt hb5.size))
    have hbb := below_then hb5 (below_one w40 (.cells #[.bool srl, .slice arl mrl crl, .bool trl, .slice drl irl jrl] 35))
    replace Ta := Lib.hid (Ta.out.below hbb)
    replace Tb := Lib.hid (Tb.out.below hbb)
    replace Tc := Lib.hid (Tc.out.below hbb)
    replace Tp := Lib.hid (Tp.out.below hbb)
    replace Tx := Lib.hid (Tx.out.below hbb)
    replace Te := Lib.hid (Te.out.below hbb)
    replace Tf := Lib.hid (Tf.out.below hbb)
    replace HB := Lib.hid (below_then HB.out hbb)
    have Tl := Lib.hid (FBox.new hx5)
    clear hx5 hb5 hbb
    obtain ⟨sa_20, ta_20, aa_20, da_20, ma_20, ia_20, ca_20, ja_20, ⟨ca_200, ca_201, ca_202, ca_203⟩, _, ha_20⟩ := Ta.out.open
    obtain ⟨sc_20, tc_20, ac_20, dc_20, mc_20, ic_20, cc_20, jc_20, ⟨cc_200, cc_201, cc_202, cc_203⟩, _, hc_20⟩ := Tc.out.open
    go_wp2_with fail
    have HSZY12 := Lib.hid (size_alloc1 w40 (.cells #[.bool srl, .slice arl mrl crl, .bool trl, .slice drl irl jrl] 35))
    generalize w40.alloc (.cells #[.bool srl, .slice arl mrl crl, .bool trl, .slice drl irl jrl] 35) = Y12 at *
    generalize w40.heap.size = tl at *
    have C := Cac.out Y12 _ _ ha_20 hc_20
    unfold VEnd at C
    have HC := Lib.hid C
    clear C
    clear ca_200 ca_201 ca_202 ca_203 ha_20
    clear cc_200 cc_201 cc_202 cc_203 hc_20
    go_must (refine HC.out.mono ?_)
    rintro e w41 ⟨v5, rfl, ⟨y5, rfl, hx5⟩, hb5⟩
    obtain ⟨srm, trm, arm, drm, mrm, irm, crm, jrm, rfl⟩ := fat_shape hx5
    clear HC
    have HNe_m := Lib.hid (Nat.ne_of_lt (Nat.lt_of_lt_of_le Te.out.lt hb5.size))
    have HNf_m := Lib.hid (Nat.ne_of_lt (Nat.lt_of_lt_of_le Tf.out.lt hb5.size))
    have hbb := below_then hb5 (below_one w41 (.cells #[.bool srm, .slice arm mrm crm, .bool trm, .slice drm irm jrm] 35))
    replace Ta := Lib.hid (Ta.out.below hbb)
    replace Tb := Lib.hid (Tb.out.below hbb)
    replace Tc := Lib.hid (Tc.out.below hbb)
    replace Tp := Lib.hid (Tp.out.below hbb)
    replace Tx := Lib.hid (Tx.out.below hbb)
    replace Te := Lib.hid (Te.out.below hbb)
    replace Tf := Lib.hid (Tf.out.below hbb)
    replace Tl := Lib.hid (Tl.out.below hbb)
    replace HB := Lib.hid (below_then HB.out hbb)
    have Tm := Lib.hid (FBox.new hx5)
    clear hx5 hb5 hbb
    clear Tp
    obtain ⟨sb_21, tb_21, ab_21, db_21, mb_21, ib_21, cb_21, jb_21, ⟨cb_210, cb_211, cb_212, cb_213⟩, _, hb_21⟩ := Tb.out.open
    obtain ⟨sc_21, tc_21, ac_21, dc_21, mc_21, ic_21, cc_21, jc_21, ⟨cc_210, cc_211, cc_212, cc_213⟩, _, hc_21⟩ := Tc.out.open
    go_wp2_with fail
    have HSZY13 := Lib.hid (size_alloc1 w41 (.cells #[.bool srm, .slice arm mrm crm, .bool trm, .slice drm irm jrm] 35))
    generalize w41.alloc (.cells #[.bool srm, .slice arm mrm crm, .bool trm, .slice drm irm jrm] 35) = Y13 at *
    generalize w41.heap.size = tm at *
    have C := Cbm.out Y13 _ _ hb_21 hc_21
    unfold VEnd at C
    have HC := Lib.hid C
    clear C
    clear cb_210 cb_211 cb_212 cb_213 hb_21
    clear cc_210 cc_211 cc_212 cc_213 hc_21
    go_must (refine HC.out.mono ?_)
    rintro e w42 ⟨v5, rfl, ⟨y5, rfl, hx5⟩, hb5⟩
    obtain ⟨sq, tq, aq, dq, mq, iq, cq, jq, rfl⟩ := fat_shape hx5
    clear HC
    replace Ta := Lib.hid (Ta.out.below hb5)
    replace Tb := Lib.hid (Tb.out.below hb5)
    replace Tc := Lib.hid (Tc.out.below hb5)
    replace Tx := Lib.hid (Tx.out.below hb5)
    replace Te := Lib.hid (Te.out.below hb5)
    replace Tf := Lib.hid (Tf.out.below hb5)
    replace Tl := Lib.hid (Tl.out.below hb5)
    replace Tm := Lib.hid (Tm.out.below hb5)
    replace HB := Lib.hid (below_then HB.out hb5)
    have BB := Tf.out
    obtain ⟨s9, u9, a9, d9, m9, i9, c9, j9, l9, _⟩ := BB
    obtain ⟨⟨g0, g1, g2, g3⟩, g4, g5, g6, g7⟩ := cellsF l9
    go_upto_region 27 with (fail)
    replace Ta := Lib.hid (fbox_other (s := sq) (t := tq) (a := aq) (a' := dq) (m := mq) (n := iq) (c := cq) (d := jq) l9 Ta.out HNa_f.out)
    replace Tb := Lib.hid (fbox_other (s := sq) (t := tq) (a := aq) (a' := dq) (m := mq) (n := iq) (c := cq) (d := jq) l9 Tb.out HNb_f.out)
    replace Tc := Lib.hid (fbox_other (s := sq) (t := tq) (a := aq) (a' := dq) (m := mq) (n := iq) (c := cq) (d := jq) l9 Tc.out HNc_f.out)
    replace Tx := Lib.hid (fbox_other (s := sq) (t := tq) (a := aq) (a' := dq) (m := mq) (n := iq) (c := cq) (d := jq) l9 Tx.out HNx_f.out)
    replace Te := Lib.hid (fbox_other (s := sq) (t := tq) (a := aq) (a' := dq) (m := mq) (n := iq) (c := cq) (d := jq) l9 Te.out HNe_f.out)
    replace Tl := Lib.hid (fbox_other (s := sq) (t := tq) (a := aq) (a' := dq) (m := mq) (n := iq) (c := cq) (d := jq) l9 Tl.out HNf_l.out.symm)
    replace Tm := Lib.hid (fbox_other (s := sq) (t := tq) (a := aq) (a' := dq) (m := mq) (n := iq) (c := cq) (d := jq) l9 Tm.out HNf_m.out.symm)
    replace Tf := Lib.hid (FBox.store l9 hx5)
    replace HB := Lib.hid (below_set4 (p := tf) (u0 := .bool sq) (u1 := .slice aq mq cq) (u2 := .bool tq) (u3 := .slice dq iq jq) HB.out HPf.out)
    clear hx5 hb5 l9 g0 g1 g2 g3 g4 g5 g6 g7
    generalize (((w42.setCell ⟨tf, 0, none⟩ (.bool sq)).setCell ⟨tf, 1, none⟩ (.slice aq mq cq)).setCell ⟨tf, 2, none⟩ (.bool tq)).setCell ⟨tf, 3, none⟩ (.slice dq iq jq) = Y14 at *
    obtain ⟨sm_22, tm_22, am_22, dm_22, mm_22, im_22, cm_22, jm_22, ⟨cm_220, cm_221, cm_222, cm_223⟩, _, hm_22⟩ := Tm.out.open
    obtain ⟨sf_22, tf_22, af_22, df_22, mf_22, if_22, cf_22, jf_22, ⟨cf_220, cf_221, cf_222, cf_223⟩, _, hf_22⟩ := Tf.out.open
    go_wp2_with fail
    have C := Cri.out Y14 _ _ hm_22 hf_22
    unfold VEnd at C
    have HC := Lib.hid C
    clear C
    clear cm_220 cm_221 cm_222 cm_223 hm_22
    clear cf_220 cf_221 cf_222 cf_223 hf_22
    go_must (refine HC.out.mono ?_)
    rintro e w43 ⟨v5, rfl, ⟨y5, rfl, hx5⟩, hb5⟩
    obtain ⟨srr, trr, arr, drr, mrr, irr, crr, jrr, rfl⟩ := fat_shape hx5
    clear HC
    have HNe_r := Lib.hid (Nat.ne_of_lt (Nat.lt_of_lt_of_le Te.out.lt hb5.size))
    have HNf_r := Lib.hid (Nat.ne_of_lt (Nat.lt_of_lt_of_le Tf.out.lt hb5.size))
    have hbb := below_then hb5 (below_one w43 (.cells #[.bool srr, .slice arr mrr crr, .bool trr, .slice drr irr jrr] 35))
    replace Ta := Lib.hid (Ta.out.below hbb)
    replace Tb := Lib.hid (Tb.out.below hbb)
    replace Tc := Lib.hid (Tc.out.below hbb)
    replace Tx := Lib.hid (Tx.out.below hbb)
    replace Te := Lib.hid (Te.out.below hbb)
    replace Tf := Lib.hid (Tf.out.below hbb)
    replace Tl := Lib.hid (Tl.out.below hbb)
    replace Tm := Lib.hid (Tm.out.below hbb)
    replace HB := Lib.hid (below_then HB.out hbb)
    have Tr := Lib.hid (FBox.new hx5)
    clear hx5 hb5 hbb
    obtain ⟨sl_23, tl_23, al_23, dl_23, ml_23, il_23, cl_23, jl_23, ⟨cl_230, cl_231, cl_232, cl_233⟩, _, hl_23⟩ := Tl.out.open
    obtain ⟨sr_23, tr_23, ar_23, dr_23, mr_23, ir_23, cr_23, jr_23, ⟨cr_230, cr_231, cr_232, cr_233⟩, _, hr_23⟩ := Tr.out.open
    go_wp2_with fail
    have HSZY15 := Lib.hid (size_alloc1 w43 (.cells #[.bool srr, .slice arr mrr crr, .bool trr, .slice drr irr jrr] 35))
    generalize w43.alloc (.cells #[.bool srr, .slice arr mrr crr, .bool trr, .slice drr irr jrr] 35) = Y15 at *
    generalize w43.heap.size = tr at *
    have C := E5.out Y15 _ _ hl_23 hr_23
    unfold VEnd at C
    have HC := Lib.hid C
    clear C
    clear cl_230 cl_231 cl_232 cl_233 hl_23
    clear cr_230 cr_231 cr_232 cr_233 hr_23
    go_must (refine HC.out.mono ?_)
    rintro e w44 ⟨v5, rfl, hv5, hb5⟩
    obtain rfl := hv5
    clear HC
    replace Ta := Lib.hid (Ta.out.below hb5)
    replace Tb := Lib.hid (Tb.out.below hb5)
    replace Tc := Lib.hid (Tc.out.below hb5)
    replace Tx := Lib.hid (Tx.out.below hb5)
    replace Te := Lib.hid (Te.out.below hb5)
    replace Tf := Lib.hid (Tf.out.below hb5)
    replace Tl := Lib.hid (Tl.out.below hb5)
    replace Tm := Lib.hid (Tm.out.below hb5)
    replace Tr := Lib.hid (Tr.out.below hb5)
    replace HB := Lib.hid (below_then HB.out hb5)
    clear hb5
    clear Tl
    clear Tm
    clear Tr
    obtain ⟨sx_24, tx_24, ax_24, dx_24, mx_24, ix_24, cx_24, jx_24, ⟨cx_240, cx_241, cx_242, cx_243⟩, _, hx_24⟩ := Tx.out.open
    obtain ⟨sc_24, tc_24, ac_24, dc_24, mc_24, ic_24, cc_24, jc_24, ⟨cc_240, cc_241, cc_242, cc_243⟩, _, hc_24⟩ := Tc.out.open
    go_wp2_with fail
    have C := Cxc.out w44 _ _ hx_24 hc_24
    unfold VEnd at C
    have HC := Lib.hid C
    clear C
    clear cx_240 cx_241 cx_242 cx_243 hx_24
    clear cc_240 cc_241 cc_242 cc_243 hc_24
    go_must (refine HC.out.mono ?_)
    rintro e w45 ⟨v5, rfl, ⟨y5, rfl, hx5⟩, hb5⟩
    obtain ⟨srg2, trg2, arg2, drg2, mrg2, irg2, crg2, jrg2, rfl⟩ := fat_shape hx5
    clear HC
    have HNe_g2 := Lib.hid (Nat.ne_of_lt (Nat.lt_of_lt_of_le Te.out.lt hb5.size))
    have HNf_g2 := Lib.hid (Nat.ne_of_lt (Nat.lt_of_lt_of_le Tf.out.lt hb5.size))
    have hbb := below_then hb5 (below_one w45 (.cells #[.bool srg2, .slice arg2 mrg2 crg2, .bool trg2, .slice drg2 irg2 jrg2] 35))
    replace Ta := Lib.hid (Ta.out.below hbb)
    replace Tb := Lib.hid (Tb.out.below hbb)
    replace Tc := Lib.hid (Tc.out.below hbb)
    replace Tx := Lib.hid (Tx.out.below hbb)
    replace Te := Lib.hid (Te.out.below hbb)
    replace Tf := Lib.hid (Tf.out.below hbb)
    replace HB := Lib.hid (below_then HB.out hbb)
    have Tg2 := Lib.hid (FBox.new hx5)
    clear hx5 hb5 hbb
    obtain ⟨sa_25, ta_25, aa_25, da_25, ma_25, ia_25, ca_25, ja_25, ⟨ca_250, ca_251, ca_252, ca_253⟩, _, ha_25⟩ := Ta.out.open
    obtain ⟨sf_25, tf_25, af_25, df_25, mf_25, if_25, cf_25, jf_25, ⟨cf_250, cf_251, cf_252, cf_253⟩, _, hf_25⟩ := Tf.out.open
    go_wp2_with fail
    have HSZY16 := Lib.hid (size_alloc1 w45 (.cells #[.bool srg2, .slice arg2 mrg2 crg2, .bool trg2, .slice drg2 irg2 jrg2] 35))
    generalize w45.alloc (.cells #[.bool srg2, .slice arg2 mrg2 crg2, .bool trg2, .slice drg2 irg2 jrg2] 35) = Y16 at *
    generalize w45.heap.size = tg2 at *
    have C := Cam.out Y16 _ _ ha_25 hf_25
    unfold VEnd at C
    have HC := Lib.hid C
    clear C
    clear ca_250 ca_251 ca_252 ca_253 ha_25
    clear cf_250 cf_251 cf_252 cf_253 hf_25
    go_must (refine HC.out.mono ?_)
    rintro e w46 ⟨v5, rfl, ⟨y5, rfl, hx5⟩, hb5⟩
    obtain ⟨sq, tq, aq, dq, mq, iq, cq, jq, rfl⟩ := fat_shape hx5
    clear HC
    replace Ta := Lib.hid (Ta.out.below hb5)
    replace Tb := Lib.hid (Tb.out.below hb5)
    replace Tc := Lib.hid (Tc.out.below hb5)
    replace Tx := Lib.hid (Tx.out.below hb5)
    replace Te := Lib.hid (Te.out.below hb5)
    replace Tf := Lib.hid (Tf.out.below hb5)
    replace Tg2 := Lib.hid (Tg2.out.below hb5)
    replace HB := Lib.hid (below_then HB.out hb5)
    have BB := Te.out
    obtain ⟨s9, u9, a9, d9, m9, i9, c9, j9, l9, _⟩ := BB
    obtain ⟨⟨g0, g1, g2, g3⟩, g4, g5, g6, g7⟩ := cellsF l9
    go_upto_region 32 with (fail)
    replace Ta := Lib.hid (fbox_other (s := sq) (t := tq) (a := aq) (a' := dq) (m := mq) (n := iq) (c := cq) (d := jq) l9 Ta.out HNa_e.out)
    replace Tb := Lib.hid (fbox_other (s := sq) (t := tq) (a := aq) (a' := dq) (m := mq) (n := iq) (c := cq) (d := jq) l9 Tb.out HNb_e.out)
    replace Tc := Lib.hid (fbox_other (s := sq) (t := tq) (a := aq) (a' := dq) (m := mq) (n := iq) (c := cq) (d := jq) l9 Tc.out HNc_e.out)
    replace Tx := Lib.hid (fbox_other (s := sq) (t := tq) (a := aq) (a' := dq) (m := mq) (n := iq) (c := cq) (d := jq) l9 Tx.out HNx_e.out)
    replace Tf := Lib.hid (fbox_other (s := sq) (t := tq) (a := aq) (a' := dq) (m := mq) (n := iq) (c := cq) (d := jq) l9 Tf.out HNe_f.out.symm)
    replace Tg2 := Lib.hid (fbox_other (s := sq) (t := tq) (a := aq) (a' := dq) (m := mq) (n := iq) (c := cq) (d := jq) l9 Tg2.out HNe_g2.out.symm)
    replace Te := Lib.hid (FBox.store l9 hx5)
    replace HB := Lib.hid (below_set4 (p := te) (u0 := .bool sq) (u1 := .slice aq mq cq) (u2 := .bool tq) (u3 := .slice dq iq jq) HB.out HPe.out)
    clear hx5 hb5 l9 g0 g1 g2 g3 g4 g5 g6 g7
    generalize (((w46.setCell ⟨te, 0, none⟩ (.bool sq)).setCell ⟨te, 1, none⟩ (.slice aq mq cq)).setCell ⟨te, 2, none⟩ (.bool tq)).setCell ⟨te, 3, none⟩ (.slice dq iq jq) = Y17 at *
    obtain ⟨sg2_26, tg2_26, ag2_26, dg2_26, mg2_26, ig2_26, cg2_26, jg2_26, ⟨cg2_260, cg2_261, cg2_262, cg2_263⟩, _, hg2_26⟩ := Tg2.out.open
    obtain ⟨se_26, te_26, ae_26, de_26, me_26, ie_26, ce_26, je_26, ⟨ce_260, ce_261, ce_262, ce_263⟩, _, he_26⟩ := Te.out.open
    go_wp2_with fail
    have C := E6.out Y17 _ _ hg2_26 he_26
    unfold VEnd at C
    have HC := Lib.hid C
    clear C
    clear cg2_260 cg2_261 cg2_262 cg2_263 hg2_26
    clear ce_260 ce_261 ce_262 ce_263 he_26
    go_must (refine HC.out.mono ?_)
    rintro e w47 ⟨v5, rfl, hv5, hb5⟩
    obtain rfl := hv5
    clear HC
    replace Ta := Lib.hid (Ta.out.below hb5)
    replace Tb := Lib.hid (Tb.out.below hb5)
    replace Tc := Lib.hid (Tc.out.below hb5)
    replace Tx := Lib.hid (Tx.out.below hb5)
    replace Te := Lib.hid (Te.out.below hb5)
    replace Tf := Lib.hid (Tf.out.below hb5)
    replace Tg2 := Lib.hid (Tg2.out.below hb5)
    replace HB := Lib.hid (below_then HB.out hb5)
    clear hb5
    clear Tg2
    clear Te
    clear Tf
    clear Ta
    clear Tb
    clear Tc
    clear Tx
    have LVW := LV.out w47
    unfold VEnd at LVW
    have HLV := Lib.hid LVW
    clear LVW
    go_wp2_with fail
    go_must (refine HLV.out.mono ?_)
    rintro e wz ⟨vz, rfl, hvz, hbz⟩
    obtain rfl := hvz
    have HE := Lib.hid (below_then HB.out hbz)
    clear HLV hbz
    go_wp2_with fail
    go_ret
    exact ⟨rfl, HE.out⟩
  · have hcb : (cz == 0) = false := by simpa using hc0
    have hcd : (cz != 0) = true := by simpa using hc0
    have DV2 := Lib.hid (DV.out hp0)
    clear hp0 DV HCZ hc0
    obtain ⟨sx_15, tx_15, ax_15, dx_15, mx_15, ix_15, cx_15, jx_15, ⟨cx_150, cx_151, cx_152, cx_153⟩, _, hx_15⟩ := Tx.out.open
    obtain ⟨sb_15, tb_15, ab_15, db_15, mb_15, ib_15, cb_15, jb_15, ⟨cb_150, cb_151, cb_152, cb_153⟩, _, hb_15⟩ := Tb.out.open
    go_wp2_with fail
    have C := DV2.out w35 _ _ hx_15 hb_15
    unfold VEnd at C
    have HC := Lib.hid C
    clear C
    clear cx_150 cx_151 cx_152 cx_153 hx_15
    clear cb_150 cb_151 cb_152 cb_153 hb_15
    go_must (refine HC.out.mono ?_)
    rintro e w36 ⟨v5, rfl, ⟨y5, rfl, hx5⟩, hb5⟩
    obtain ⟨srv, trv, arv, drv, mrv, irv, crv, jrv, rfl⟩ := fat_shape hx5
    clear HC
    have hbb := below_then hb5 (below_one w36 (.cells #[.bool srv, .slice arv mrv crv, .bool trv, .slice drv irv jrv] 35))
    replace Ta := Lib.hid (Ta.out.below hbb)
    replace Tb := Lib.hid (Tb.out.below hbb)
    replace Tc := Lib.hid (Tc.out.below hbb)
    replace Tp := Lib.hid (Tp.out.below hbb)
    replace Tx := Lib.hid (Tx.out.below hbb)
    replace HB := Lib.hid (below_then HB.out hbb)
    have Tv := Lib.hid (FBox.new hx5)
    clear hx5 hb5 hbb
    obtain ⟨sv_16, tv_16, av_16, dv_16, mv_16, iv_16, cv_16, jv_16, ⟨cv_160, cv_161, cv_162, cv_163⟩, _, hv_16⟩ := Tv.out.open
    obtain ⟨sa_16, ta_16, aa_16, da_16, ma_16, ia_16, ca_16, ja_16, ⟨ca_160, ca_161, ca_162, ca_163⟩, _, ha_16⟩ := Ta.out.open
    go_wp2_with fail
    have HSZY9 := Lib.hid (size_alloc1 w36 (.cells #[.bool srv, .slice arv mrv crv, .bool trv, .slice drv irv jrv] 35))
    generalize w36.alloc (.cells #[.bool srv, .slice arv mrv crv, .bool trv, .slice drv irv jrv] 35) = Y9 at *
    generalize w36.heap.size = tv at *
    have C := E3.out Y9 _ _ hv_16 ha_16
    unfold VEnd at C
    have HC := Lib.hid C
    clear C
    clear cv_160 cv_161 cv_162 cv_163 hv_16
    clear ca_160 ca_161 ca_162 ca_163 ha_16
    go_must (refine HC.out.mono ?_)
    rintro e w37 ⟨v5, rfl, hv5, hb5⟩
    obtain rfl := hv5
    clear HC
    replace Ta := Lib.hid (Ta.out.below hb5)
    replace Tb := Lib.hid (Tb.out.below hb5)
    replace Tc := Lib.hid (Tc.out.below hb5)
    replace Tp := Lib.hid (Tp.out.below hb5)
    replace Tx := Lib.hid (Tx.out.below hb5)
    replace Tv := Lib.hid (Tv.out.below hb5)
    replace HB := Lib.hid (below_then HB.out hb5)
    clear hb5
    clear Tv
    obtain ⟨sp_17, tp_17, ap_17, dp_17, mp_17, ip_17, cp_17, jp_17, ⟨cp_170, cp_171, cp_172, cp_173⟩, _, hp_17⟩ := Tp.out.open
    obtain ⟨sc_17, tc_17, ac_17, dc_17, mc_17, ic_17, cc_17, jc_17, ⟨cc_170, cc_171, cc_172, cc_173⟩, _, hc_17⟩ := Tc.out.open
    go_wp2_with fail
    have C := Cu.out w37 _ _ hp_17 hc_17
    unfold VEnd at C
    have HC := Lib.hid C
    clear C
    clear cp_170 cp_171 cp_172 cp_173 hp_17
    clear cc_170 cc_171 cc_172 cc_173 hc_17
    go_must (refine HC.out.mono ?_)
    rintro e w38 ⟨v5, rfl, ⟨y5, rfl, hx5⟩, hb5⟩
    obtain ⟨sre, tre, are, dre, mre, ire, cre, jre, rfl⟩ := fat_shape hx5
    clear HC
    have HNa_e := Lib.hid (Nat.ne_of_lt (Nat.lt_of_lt_of_le Ta.out.lt hb5.size))
    have HNb_e := Lib.hid (Nat.ne_of_lt (Nat.lt_of_lt_of_le Tb.out.lt hb5.size))
    have HNc_e := Lib.hid (Nat.ne_of_lt (Nat.lt_of_lt_of_le Tc.out.lt hb5.size))
    have HNp_e := Lib.hid (Nat.ne_of_lt (Nat.lt_of_lt_of_le Tp.out.lt hb5.size))
    have HNx_e := Lib.hid (Nat.ne_of_lt (Nat.lt_of_lt_of_le Tx.out.lt hb5.size))
    have HPe := Lib.hid (Nat.le_trans HB.out.size hb5.size)
    have hbb := below_then hb5 (below_one w38 (.cells #[.bool sre, .slice are mre cre, .bool tre, .slice dre ire jre] 35))
    replace Ta := Lib.hid (Ta.out.below hbb)
    replace Tb := Lib.hid (Tb.out.below hbb)
    replace Tc := Lib.hid (Tc.out.below hbb)
    replace Tp := Lib.hid (Tp.out.below hbb)
    replace Tx := Lib.hid (Tx.out.below hbb)
    replace HB := Lib.hid (below_then HB.out hbb)
    have Te := Lib.hid (FBox.new hx5)
    clear hx5 hb5 hbb
    obtain ⟨sb_18, tb_18, ab_18, db_18, mb_18, ib_18, cb_18, jb_18, ⟨cb_180, cb_181, cb_182, cb_183⟩, _, hb_18⟩ := Tb.out.open
    obtain ⟨sc_18, tc_18, ac_18, dc_18, mc_18, ic_18, cc_18, jc_18, ⟨cc_180, cc_181, cc_182, cc_183⟩, _, hc_18⟩ := Tc.out.open
    go_wp2_with fail
    have HSZY10 := Lib.hid (size_alloc1 w38 (.cells #[.bool sre, .slice are mre cre, .bool tre, .slice dre ire jre] 35))
    generalize w38.alloc (.cells #[.bool sre, .slice are mre cre, .bool tre, .slice dre ire jre] 35) = Y10 at *
    generalize w38.heap.size = te at *
    have C := Cbc.out Y10 _ _ hb_18 hc_18
    unfold VEnd at C
    have HC := Lib.hid C
    clear C
    clear cb_180 cb_181 cb_182 cb_183 hb_18
    clear cc_180 cc_181 cc_182 cc_183 hc_18
    go_must (refine HC.out.mono ?_)
    rintro e w39 ⟨v5, rfl, ⟨y5, rfl, hx5⟩, hb5⟩
    obtain ⟨srf, trf, arf, drf, mrf, irf, crf, jrf, rfl⟩ := fat_shape hx5
    clear HC
    have HNa_f := Lib.hid (Nat.ne_of_lt (Nat.lt_of_lt_of_le Ta.out.lt hb5.size))
    have HNb_f := Lib.hid (Nat.ne_of_lt (Nat.lt_of_lt_of_le Tb.out.lt hb5.size))
    have HNc_f := Lib.hid (Nat.ne_of_lt (Nat.lt_of_lt_of_le Tc.out.lt hb5.size))
    have HNp_f := Lib.hid (Nat.ne_of_lt (Nat.lt_of_lt_of_le Tp.out.lt hb5.size))
    have HNx_f := Lib.hid (Nat.ne_of_lt (Nat.lt_of_lt_of_le Tx.out.lt hb5.size))
    have HNe_f := Lib.hid (Nat.ne_of_lt (Nat.lt_of_lt_of_le Te.out.lt hb5.size))
    have HPf := Lib.hid (Nat.le_trans HB.out.size hb5.size)
    have hbb := below_then hb5 (below_one w39 (.cells #[.bool srf, .slice arf mrf crf, .bool trf, .slice drf irf jrf] 35))
    replace Ta := Lib.hid (Ta.out.below hbb)
    replace Tb := Lib.hid (Tb.out.below hbb)
    replace Tc := Lib.hid (Tc.out.below hbb)
    replace Tp := Lib.hid (Tp.out.below hbb)
    replace Tx := Lib.hid (Tx.out.below hbb)
    replace Te := Lib.hid (Te.out.below hbb)
    replace HB := Lib.hid (below_then HB.out hbb)
    have Tf := Lib.hid (FBox.new hx5)
    clear hx5 hb5 hbb
    obtain ⟨sa_19, ta_19, aa_19, da_19, ma_19, ia_19, ca_19, ja_19, ⟨ca_190, ca_191, ca_192, ca_193⟩, _, ha_19⟩ := Ta.out.open
    obtain ⟨sf_19, tf_19, af_19, df_19, mf_19, if_19, cf_19, jf_19, ⟨cf_190, cf_191, cf_192, cf_193⟩, _, hf_19⟩ := Tf.out.open
    go_wp2_with fail
    have HSZY11 := Lib.hid (size_alloc1 w39 (.cells #[.bool srf, .slice arf mrf crf, .bool trf, .slice drf irf jrf] 35))
    generalize w39.alloc (.cells #[.bool srf, .slice arf mrf crf, .bool trf, .slice drf irf jrf] 35) = Y11 at *
    generalize w39.heap.size = tf at *
    have C := Coo.out Y11 _ _ ha_19 hf_19
    unfold VEnd at C
    have HC := Lib.hid C
    clear C
    clear ca_190 ca_191 ca_192 ca_193 ha_19
    clear cf_190 cf_191 cf_192 cf_193 hf_19
    go_must (refine HC.out.mono ?_)
    rintro e w40 ⟨v5, rfl, ⟨y5, rfl, hx5⟩, hb5⟩
    obtain ⟨srh, trh, arh, drh, mrh, irh, crh, jrh, rfl⟩ := fat_shape hx5
    clear HC
    have HNe_h := Lib.hid (Nat.ne_of_lt (Nat.lt_of_lt_of_le Te.out.lt hb5.size))
    have HNf_h := Lib.hid (Nat.ne_of_lt (Nat.lt_of_lt_of_le Tf.out.lt hb5.size))
    have hbb := below_then hb5 (below_one w40 (.cells #[.bool srh, .slice arh mrh crh, .bool trh, .slice drh irh jrh] 35))
    replace Ta := Lib.hid (Ta.out.below hbb)
    replace Tb := Lib.hid (Tb.out.below hbb)
    replace Tc := Lib.hid (Tc.out.below hbb)
    replace Tp := Lib.hid (Tp.out.below hbb)
    replace Tx := Lib.hid (Tx.out.below hbb)
    replace Te := Lib.hid (Te.out.below hbb)
    replace Tf := Lib.hid (Tf.out.below hbb)
    replace HB := Lib.hid (below_then HB.out hbb)
    have Th := Lib.hid (FBox.new hx5)
    clear hx5 hb5 hbb
    obtain ⟨se_20, te_20, ae_20, de_20, me_20, ie_20, ce_20, je_20, ⟨ce_200, ce_201, ce_202, ce_203⟩, _, he_20⟩ := Te.out.open
    obtain ⟨sh_20, th_20, ah_20, dh_20, mh_20, ih_20, ch_20, jh_20, ⟨ch_200, ch_201, ch_202, ch_203⟩, _, hh_20⟩ := Th.out.open
    go_wp2_with fail
    have HSZY12 := Lib.hid (size_alloc1 w40 (.cells #[.bool srh, .slice arh mrh crh, .bool trh, .slice drh irh jrh] 35))
    generalize w40.alloc (.cells #[.bool srh, .slice arh mrh crh, .bool trh, .slice drh irh jrh] 35) = Y12 at *
    generalize w40.heap.size = th at *
    have C := E4.out Y12 _ _ he_20 hh_20
    unfold VEnd at C
    have HC := Lib.hid C
    clear C
    clear ce_200 ce_201 ce_202 ce_203 he_20
    clear ch_200 ch_201 ch_202 ch_203 hh_20
    go_must (refine HC.out.mono ?_)
    rintro e w41 ⟨v5, rfl, hv5, hb5⟩
    obtain rfl := hv5
    clear HC
    replace Ta := Lib.hid (Ta.out.below hb5)
    replace Tb := Lib.hid (Tb.out.below hb5)
    replace Tc := Lib.hid (Tc.out.below hb5)
    replace Tp := Lib.hid (Tp.out.below hb5)
    replace Tx := Lib.hid (Tx.out.below hb5)
    replace Te := Lib.hid (Te.out.below hb5)
    replace Tf := Lib.hid (Tf.out.below hb5)
    replace Th := Lib.hid (Th.out.below hb5)
    replace HB := Lib.hid (below_then HB.out hb5)
    clear hb5
    clear Th
    obtain ⟨sp_21, tp_21, ap_21, dp_21, mp_21, ip_21, cp_21, jp_21, ⟨cp_210, cp_211, cp_212, cp_213⟩, _, hp_21⟩ := Tp.out.open
    obtain ⟨sc_21, tc_21, ac_21, dc_21, mc_21, ic_21, cc_21, jc_21, ⟨cc_210, cc_211, cc_212, cc_213⟩, _, hc_21⟩ := Tc.out.open
    go_wp2_with fail
    have C := Cle.out w41 _ _ hp_21 hc_21
    unfold VEnd at C
    have HC := Lib.hid C
    clear C
    clear cp_210 cp_211 cp_212 cp_213 hp_21
    clear cc_210 cc_211 cc_212 cc_213 hc_21
    go_must (refine HC.out.mono ?_)
    rintro e w42 ⟨v5, rfl, ⟨y5, rfl, hx5⟩, hb5⟩
    obtain ⟨srl, trl, arl, drl, mrl, irl, crl, jrl, rfl⟩ := fat_shape hx5
    clear HC
    have HNe_l := Lib.hid (Nat.ne_of_lt (Nat.lt_of_lt_of_le Te.out.lt hb5.size))
    have HNf_l := Lib.hid (Nat.ne_of_lt (Nat.lt_of_lt_of_le Tf.out.lt hb5.size))
    have hbb := below_then hb5 (below_one w42 (.cells #[.bool srl, .slice arl mrl crl, .bool trl, .slice drl irl jrl] 35))
    replace Ta := Lib.hid (Ta.out.below hbb)
    replace Tb := Lib.hid (Tb.out.below hbb)
    replace Tc := Lib.hid (Tc.out.below hbb)
    replace Tp := Lib.hid (Tp.out.below hbb)
    replace Tx := Lib.hid (Tx.out.below hbb)
    replace Te := Lib.hid (Te.out.below hbb)
    replace Tf := Lib.hid (Tf.out.below hbb)
    replace HB := Lib.hid (below_then HB.out hbb)
    have Tl := Lib.hid (FBox.new hx5)
    clear hx5 hb5 hbb
    obtain ⟨sa_22, ta_22, aa_22, da_22, ma_22, ia_22, ca_22, ja_22, ⟨ca_220, ca_221, ca_222, ca_223⟩, _, ha_22⟩ := Ta.out.open
    obtain ⟨sc_22, tc_22, ac_22, dc_22, mc_22, ic_22, cc_22, jc_22, ⟨cc_220, cc_221, cc_222, cc_223⟩, _, hc_22⟩ := Tc.out.open
    go_wp2_with fail
    have HSZY13 := Lib.hid (size_alloc1 w42 (.cells #[.bool srl, .slice arl mrl crl, .bool trl, .slice drl irl jrl] 35))
    generalize w42.alloc (.cells #[.bool srl, .slice arl mrl crl, .bool trl, .slice drl irl jrl] 35) = Y13 at *
    generalize w42.heap.size = tl at *
    have C := Cac.out Y13 _ _ ha_22 hc_22
    unfold VEnd at C
    have HC := Lib.hid C
    clear C
    clear ca_220 ca_221 ca_222 ca_223 ha_22
    clear cc_220 cc_221 cc_222 cc_223 hc_22
    go_must (refine HC.out.mono ?_)
    rintro e w43 ⟨v5, rfl, ⟨y5, rfl, hx5⟩, hb5⟩
    obtain ⟨srm, trm, arm, drm, mrm, irm, crm, jrm, rfl⟩ := fat_shape hx5
    clear HC
    have HNe_m := Lib.hid (Nat.ne_of_lt (Nat.lt_of_lt_of_le Te.out.lt hb5.size))
    have HNf_m := Lib.hid (Nat.ne_of_lt (Nat.lt_of_lt_of_le Tf.out.lt hb5.size))
    have hbb := below_then hb5 (below_one w43 (.cells #[.bool srm, .slice arm mrm crm, .bool trm, .slice drm irm jrm] 35))
    replace Ta := Lib.hid (Ta.out.below hbb)
    replace Tb := Lib.hid (Tb.out.below hbb)
    replace Tc := Lib.hid (Tc.out.below hbb)
    replace Tp := Lib.hid (Tp.out.below hbb)
    replace Tx := Lib.hid (Tx.out.below hbb)
    replace Te := Lib.hid (Te.out.below hbb)
    replace Tf := Lib.hid (Tf.out.below hbb)
    replace Tl := Lib.hid (Tl.out.below hbb)
    replace HB := Lib.hid (below_then HB.out hbb)
    have Tm := Lib.hid (FBox.new hx5)
    clear hx5 hb5 hbb
    clear Tp
    obtain ⟨sb_23, tb_23, ab_23, db_23, mb_23, ib_23, cb_23, jb_23, ⟨cb_230, cb_231, cb_232, cb_233⟩, _, hb_23⟩ := Tb.out.open
    obtain ⟨sc_23, tc_23, ac_23, dc_23, mc_23, ic_23, cc_23, jc_23, ⟨cc_230, cc_231, cc_232, cc_233⟩, _, hc_23⟩ := Tc.out.open
    go_wp2_with fail
    have HSZY14 := Lib.hid (size_alloc1 w43 (.cells #[.bool srm, .slice arm mrm crm, .bool trm, .slice drm irm jrm] 35))
    generalize w43.alloc (.cells #[.bool srm, .slice arm mrm crm, .bool trm, .slice drm irm jrm] 35) = Y14 at *
    generalize w43.heap.size = tm at *
    have C := Cbm.out Y14 _ _ hb_23 hc_23
    unfold VEnd at C
    have HC := Lib.hid C
    clear C
    clear cb_230 cb_231 cb_232 cb_233 hb_23
    clear cc_230 cc_231 cc_232 cc_233 hc_23
    go_must (refine HC.out.mono ?_)
    rintro e w44 ⟨v5, rfl, ⟨y5, rfl, hx5⟩, hb5⟩
    obtain ⟨sq, tq, aq, dq, mq, iq, cq, jq, rfl⟩ := fat_shape hx5
    clear HC
    replace Ta := Lib.hid (Ta.out.below hb5)
    replace Tb := Lib.hid (Tb.out.below hb5)
    replace Tc := Lib.hid (Tc.out.below hb5)
    replace Tx := Lib.hid (Tx.out.below hb5)
    replace Te := Lib.hid (Te.out.below hb5)
    replace Tf := Lib.hid (Tf.out.below hb5)
    replace Tl := Lib.hid (Tl.out.below hb5)
    replace Tm := Lib.hid (Tm.out.below hb5)
    replace HB := Lib.hid (below_then HB.out hb5)
    have BB := Tf.out
    obtain ⟨s9, u9, a9, d9, m9, i9, c9, j9, l9, _⟩ := BB
    obtain ⟨⟨g0, g1, g2, g3⟩, g4, g5, g6, g7⟩ := cellsF l9
    go_upto_region 27 with (fail)
    replace Ta := Lib.hid (fbox_other (s := sq) (t := tq) (a := aq) (a' := dq) (m := mq) (n := iq) (c := cq) (d := jq) l9 Ta.out HNa_f.out)
    replace Tb := Lib.hid (fbox_other (s := sq) (t := tq) (a := aq) (a' := dq) (m := mq) (n := iq) (c := cq) (d := jq) l9 Tb.out HNb_f.out)
    replace Tc := Lib.hid (fbox_other (s := sq) (t := tq) (a := aq) (a' := dq) (m := mq) (n := iq) (c := cq) (d := jq) l9 Tc.out HNc_f.out)
    replace Tx := Lib.hid (fbox_other (s := sq) (t := tq) (a := aq) (a' := dq) (m := mq) (n := iq) (c := cq) (d := jq) l9 Tx.out HNx_f.out)
    replace Te := Lib.hid (fbox_other (s := sq) (t := tq) (a := aq) (a' := dq) (m := mq) (n := iq) (c := cq) (d := jq) l9 Te.out HNe_f.out)
    replace Tl := Lib.hid (fbox_other (s := sq) (t := tq) (a := aq) (a' := dq) (m := mq) (n := iq) (c := cq) (d := jq) l9 Tl.out HNf_l.out.symm)
    replace Tm := Lib.hid (fbox_other (s := sq) (t := tq) (a := aq) (a' := dq) (m := mq) (n := iq) (c := cq) (d := jq) l9 Tm.out HNf_m.out.symm)
    replace Tf := Lib.hid (FBox.store l9 hx5)
    replace HB := Lib.hid (below_set4 (p := tf) (u0 := .bool sq) (u1 := .slice aq mq cq) (u2 := .bool tq) (u3 := .slice dq iq jq) HB.out HPf.out)
    clear hx5 hb5 l9 g0 g1 g2 g3 g4 g5 g6 g7
    generalize (((w44.setCell ⟨tf, 0, none⟩ (.bool sq)).setCell ⟨tf, 1, none⟩ (.slice aq mq cq)).setCell ⟨tf, 2, none⟩ (.bool tq)).setCell ⟨tf, 3, none⟩ (.slice dq iq jq) = Y15 at *
    obtain ⟨sm_24, tm_24, am_24, dm_24, mm_24, im_24, cm_24, jm_24, ⟨cm_240, cm_241, cm_242, cm_243⟩, _, hm_24⟩ := Tm.out.open
    obtain ⟨sf_24, tf_24, af_24, df_24, mf_24, if_24, cf_24, jf_24, ⟨cf_240, cf_241, cf_242, cf_243⟩, _, hf_24⟩ := Tf.out.open
    go_wp2_with fail
    have C := Cri.out Y15 _ _ hm_24 hf_24
    unfold VEnd at C
    have HC := Lib.hid C
    clear C
    clear cm_240 cm_241 cm_242 cm_243 hm_24
    clear cf_240 cf_241 cf_242 cf_243 hf_24
    go_must (refine HC.out.mono ?_)
    rintro e w45 ⟨v5, rfl, ⟨y5, rfl, hx5⟩, hb5⟩
    obtain ⟨srr, trr, arr, drr, mrr, irr, crr, jrr, rfl⟩ := fat_shape hx5
    clear HC
    have HNe_r := Lib.hid (Nat.ne_of_lt (Nat.lt_of_lt_of_le Te.out.lt hb5.size))
    have HNf_r := Lib.hid (Nat.ne_of_lt (Nat.lt_of_lt_of_le Tf.out.lt hb5.size))
    have hbb := below_then hb5 (below_one w45 (.cells #[.bool srr, .slice arr mrr crr, .bool trr, .slice drr irr jrr] 35))
    replace Ta := Lib.hid (Ta.out.below hbb)
    replace Tb := Lib.hid (Tb.out.below hbb)
    replace Tc := Lib.hid (Tc.out.below hbb)
    replace Tx := Lib.hid (Tx.out.below hbb)
    replace Te := Lib.hid (Te.out.below hbb)
    replace Tf := Lib.hid (Tf.out.below hbb)
    replace Tl := Lib.hid (Tl.out.below hbb)
    replace Tm := Lib.hid (Tm.out.below hbb)
    replace HB := Lib.hid (below_then HB.out hbb)
    have Tr := Lib.hid (FBox.new hx5)
    clear hx5 hb5 hbb
    obtain ⟨sl_25, tl_25, al_25, dl_25, ml_25, il_25, cl_25, jl_25, ⟨cl_250, cl_251, cl_252, cl_253⟩, _, hl_25⟩ := Tl.out.open
    obtain ⟨sr_25, tr_25, ar_25, dr_25, mr_25, ir_25, cr_25, jr_25, ⟨cr_250, cr_251, cr_252, cr_253⟩, _, hr_25⟩ := Tr.out.open
    go_wp2_with fail
    have HSZY16 := Lib.hid (size_alloc1 w45 (.cells #[.bool srr, .slice arr mrr crr, .bool trr, .slice drr irr jrr] 35))
    generalize w45.alloc (.cells #[.bool srr, .slice arr mrr crr, .bool trr, .slice drr irr jrr] 35) = Y16 at *
    generalize w45.heap.size = tr at *
    have C := E5.out Y16 _ _ hl_25 hr_25
    unfold VEnd at C
    have HC := Lib.hid C
    clear C
    clear cl_250 cl_251 cl_252 cl_253 hl_25
    clear cr_250 cr_251 cr_252 cr_253 hr_25
    go_must (refine HC.out.mono ?_)
    rintro e w46 ⟨v5, rfl, hv5, hb5⟩
    obtain rfl := hv5
    clear HC
    replace Ta := Lib.hid (Ta.out.below hb5)
    replace Tb := Lib.hid (Tb.out.below hb5)
    replace Tc := Lib.hid (Tc.out.below hb5)
    replace Tx := Lib.hid (Tx.out.below hb5)
    replace Te := Lib.hid (Te.out.below hb5)
    replace Tf := Lib.hid (Tf.out.below hb5)
    replace Tl := Lib.hid (Tl.out.below hb5)
    replace Tm := Lib.hid (Tm.out.below hb5)
    replace Tr := Lib.hid (Tr.out.below hb5)
    replace HB := Lib.hid (below_then HB.out hb5)
    clear hb5
    clear Tl
    clear Tm
    clear Tr
    obtain ⟨sx_26, tx_26, ax_26, dx_26, mx_26, ix_26, cx_26, jx_26, ⟨cx_260, cx_261, cx_262, cx_263⟩, _, hx_26⟩ := Tx.out.open
    obtain ⟨sc_26, tc_26, ac_26, dc_26, mc_26, ic_26, cc_26, jc_26, ⟨cc_260, cc_261, cc_262, cc_263⟩, _, hc_26⟩ := Tc.out.open
    go_wp2_with fail
    have C := Cxc.out w46 _ _ hx_26 hc_26
    unfold VEnd at C
    have HC := Lib.hid C
    clear C
    clear cx_260 cx_261 cx_262 cx_263 hx_26
    clear cc_260 cc_261 cc_262 cc_263 hc_26
    go_must (refine HC.out.mono ?_)
    rintro e w47 ⟨v5, rfl, ⟨y5, rfl, hx5⟩, hb5⟩
    obtain ⟨srg2, trg2, arg2, drg2, mrg2, irg2, crg2, jrg2, rfl⟩ := fat_shape hx5
    clear HC
    have HNe_g2 := Lib.hid (Nat.ne_of_lt (Nat.lt_of_lt_of_le Te.out.lt hb5.size))
    have HNf_g2 := Lib.hid (Nat.ne_of_lt (Nat.lt_of_lt_of_le Tf.out.lt hb5.size))
    have hbb := below_then hb5 (below_one w47 (.cells #[.bool srg2, .slice arg2 mrg2 crg2, .bool trg2, .slice drg2 irg2 jrg2] 35))
    replace Ta := Lib.hid (Ta.out.below hbb)
    replace Tb := Lib.hid (Tb.out.below hbb)
    replace Tc := Lib.hid (Tc.out.below hbb)
    replace Tx := Lib.hid (Tx.out.below hbb)
    replace Te := Lib.hid (Te.out.below hbb)
    replace Tf := Lib.hid (Tf.out.below hbb)
    replace HB := Lib.hid (below_then HB.out hbb)
    have Tg2 := Lib.hid (FBox.new hx5)
    clear hx5 hb5 hbb
    obtain ⟨sa_27, ta_27, aa_27, da_27, ma_27, ia_27, ca_27, ja_27, ⟨ca_270, ca_271, ca_272, ca_273⟩, _, ha_27⟩ := Ta.out.open
    obtain ⟨sf_27, tf_27, af_27, df_27, mf_27, if_27, cf_27, jf_27, ⟨cf_270, cf_271, cf_272, cf_273⟩, _, hf_27⟩ := Tf.out.open
    go_wp2_with fail
    have HSZY17 := Lib.hid (size_alloc1 w47 (.cells #[.bool srg2, .slice arg2 mrg2 crg2, .bool trg2, .slice drg2 irg2 jrg2] 35))
    generalize w47.alloc (.cells #[.bool srg2, .slice arg2 mrg2 crg2, .bool trg2, .slice drg2 irg2 jrg2] 35) = Y17 at *
    generalize w47.heap.size = tg2 at *
    have C := Cam.out Y17 _ _ ha_27 hf_27
    unfold VEnd at C
    have HC := Lib.hid C
    clear C
    clear ca_270 ca_271 ca_272 ca_273 ha_27
    clear cf_270 cf_271 cf_272 cf_273 hf_27
    go_must (refine HC.out.mono ?_)
    rintro e w48 ⟨v5, rfl, ⟨y5, rfl, hx5⟩, hb5⟩
    obtain ⟨sq, tq, aq, dq, mq, iq, cq, jq, rfl⟩ := fat_shape hx5
    clear HC
    replace Ta := Lib.hid (Ta.out.below hb5)
    replace Tb := Lib.hid (Tb.out.below hb5)
    replace Tc := Lib.hid (Tc.out.below hb5)
    replace Tx := Lib.hid (Tx.out.below hb5)
    replace Te := Lib.hid (Te.out.below hb5)
    replace Tf := Lib.hid (Tf.out.below hb5)
    replace Tg2 := Lib.hid (Tg2.out.below hb5)
    replace HB := Lib.hid (below_then HB.out hb5)
    have BB := Te.out
    obtain ⟨s9, u9, a9, d9, m9, i9, c9, j9, l9, _⟩ := BB
    obtain ⟨⟨g0, g1, g2, g3⟩, g4, g5, g6, g7⟩ := cellsF l9
    go_upto_region 32 with (fail)
    replace Ta := Lib.hid (fbox_other (s := sq) (t := tq) (a := aq) (a' := dq) (m := mq) (n := iq) (c := cq) (d := jq) l9 Ta.out HNa_e.out)
    replace Tb := Lib.hid (fbox_other (s := sq) (t := tq) (a := aq) (a' := dq) (m := mq) (n := iq) (c := cq) (d := jq) l9 Tb.out HNb_e.out)
    replace Tc := Lib.hid (fbox_other (s := sq) (t := tq) (a := aq) (a' := dq) (m := mq) (n := iq) (c := cq) (d := jq) l9 Tc.out HNc_e.out)
    replace Tx := Lib.hid (fbox_other (s := sq) (t := tq) (a := aq) (a' := dq) (m := mq) (n := iq) (c := cq) (d := jq) l9 Tx.out HNx_e.out)
    replace Tf := Lib.hid (fbox_other (s := sq) (t := tq) (a := aq) (a' := dq) (m := mq) (n := iq) (c := cq) (d := jq) l9 Tf.out HNe_f.out.symm)
    replace Tg2 := Lib.hid (fbox_other (s := sq) (t := tq) (a := aq) (a' := dq) (m := mq) (n := iq) (c := cq) (d := jq) l9 Tg2.out HNe_g2.out.symm)
    replace Te := Lib.hid (FBox.store l9 hx5)
    replace HB := Lib.hid (below_set4 (p := te) (u0 := .bool sq) (u1 := .slice aq mq cq) (u2 := .bool tq) (u3 := .slice dq iq jq) HB.out HPe.out)
    clear hx5 hb5 l9 g0 g1 g2 g3 g4 g5 g6 g7
    generalize (((w48.setCell ⟨te, 0, none⟩ (.bool sq)).setCell ⟨te, 1, none⟩ (.slice aq mq cq)).setCell ⟨te, 2, none⟩ (.bool tq)).setCell ⟨te, 3, none⟩ (.slice dq iq jq) = Y18 at *
    obtain ⟨sg2_28, tg2_28, ag2_28, dg2_28, mg2_28, ig2_28, cg2_28, jg2_28, ⟨cg2_280, cg2_281, cg2_282, cg2_283⟩, _, hg2_28⟩ := Tg2.out.open
    obtain ⟨se_28, te_28, ae_28, de_28, me_28, ie_28, ce_28, je_28, ⟨ce_280, ce_281, ce_282, ce_283⟩, _, he_28⟩ := Te.out.open
    go_wp2_with fail
    have C := E6.out Y18 _ _ hg2_28 he_28
    unfold VEnd at C
    have HC := Lib.hid C
    clear C
    clear cg2_280 cg2_281 cg2_282 cg2_283 hg2_28
    clear ce_280 ce_281 ce_282 ce_283 he_28
    go_must (refine HC.out.mono ?_)
    rintro e w49 ⟨v5, rfl, hv5, hb5⟩
    obtain rfl := hv5
    clear HC
    replace Ta := Lib.hid (Ta.out.below hb5)
    replace Tb := Lib.hid (Tb.out.below hb5)
    replace Tc := Lib.hid (Tc.out.below hb5)
    replace Tx := Lib.hid (Tx.out.below hb5)
    replace Te := Lib.hid (Te.out.below hb5)
    replace Tf := Lib.hid (Tf.out.below hb5)
    replace Tg2 := Lib.hid (Tg2.out.below hb5)
    replace HB := Lib.hid (below_then HB.out hb5)
    clear hb5
    clear Tg2
    clear Te
    clear Tf
    clear Ta
    clear Tb
    clear Tc
    clear Tx
    have LVW := LV.out w49
    unfold VEnd at LVW
    have HLV := Lib.hid LVW
    clear LVW
    go_wp2_with fail
    go_must (refine HLV.out.mono ?_)
    rintro e wz ⟨vz, rfl, hvz, hbz⟩
    obtain rfl := hvz
    have HE := Lib.hid (below_then HB.out hbz)
    clear HLV hbz
    go_wp2_with fail
    go_ret
    exact ⟨rfl, HE.out⟩
end Go.Proofs.YtgcjbeagckbccaaGreatDoor
