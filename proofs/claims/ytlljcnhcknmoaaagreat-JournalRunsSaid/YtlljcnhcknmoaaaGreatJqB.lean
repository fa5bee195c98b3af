/-
  JournalRuns: a disk with a log and the reference's disk with the reference's log; the walk.
-/
import Derived.Test.YtlljcnhcknmoaaaGreatJqA
import Derived.Test.YtlljcnhcknmoaaaGreatJdd
import Derived.Test.YtlljcnhcknmoaaaGreatRdC
import Derived.Deep.RegionHeld3
import Derived.Deep.DeepCutAuto
namespace Go.Proofs.YtlljcnhcknmoaaaGreat
open Go.RowKit Go.Shelf
set_option linter.unusedVariables false
set_option maxRecDepth 100000

theorem below_cutJ {a b c : World} (h : Below a.heap.size a b) (k : Below b.heap.size b c) : Below a.heap.size a c := h.trans (k.mono h.size)
theorem below_cell {W W2 : World} {p : Addr} {v : Value} (hb : Below W.heap.size W W2) (h : W.cell? p = some v) : W2.cell? p = some v :=
  (hb.cell (World.block_lt_of_cell? _ _ h)).trans h
theorem wrap64_in (z : Int) : -9223372036854775808 ≤ wrap64 z ∧ wrap64 z ≤ 9223372036854775807 := by
  unfold wrap64; omega
theorem tmodN (x m : Nat) (hm : 0 < m) : ∃ r : Nat, (x : Int).tmod (m : Int) = (r : Int) ∧ r < m :=
  ⟨x % m, by rw [Int.tmod_eq_emod_of_nonneg (by omega)]; rfl, Nat.mod_lt _ hm⟩
theorem tdivN (x m : Nat) : ∃ r : Nat, (x : Int).tdiv (m : Int) = (r : Int) ∧ r ≤ x :=
  ⟨x / m, rfl, Nat.div_le_self _ _⟩
theorem up_ne (b : Bool) : (b == !b) = false := by cases b <;> rfl
theorem int_eqJ (n : Int) : (n == n) = true := by simp
theorem int_neJ (n : Int) : (n != n) = false := by simp
theorem on_cases (s : St) : s.on = true ∨ s.on = false := by cases s.on; exact .inr rfl; exact .inl rfl
theorem read2_on {s : St} (h : s.on = true) : pRead s 2 = (0, s.B 2) := by
  unfold pRead
  rw [isF_true (by omega), if_neg (by decide), h, if_neg (by decide)]
  rfl
theorem read2_off {s : St} (h : s.on = false) : pRead s 2 = (23, []) := by
  unfold pRead
  rw [isF_true (by omega), if_neg (by decide), if_pos h]
theorem around_N (n : Int) (m : Nat) (hm : 0 < m) : ∃ q : Nat, aroundI n (m : Int) = (q : Int) ∧ q < m := by
  have h1 := Int.emod_nonneg (if n < 0 then -(n + 1) else n) (show (m : Int) ≠ 0 by omega)
  have h2 := Int.emod_lt_of_pos (if n < 0 then -(n + 1) else n) (show (0 : Int) < (m : Int) by omega)
  unfold aroundI
  exact ⟨((if n < 0 then -(n + 1) else n) % (m : Int)).toNat, by omega, by omega⟩

/-- The two disks. -/
structure JD (n : Nat) (W : World) (A R : Foot) (d m room : Nat) (s t : St) : Prop where
  dk : Dsk n W A d room s
  rf : Rsk n W R m room t
  sep : ∀ k, A k → ¬ R k
section
variable {n : Nat} {W W2 : World} {A A2 R R2 : Foot} {d m room : Nat} {s t s2 : St}
theorem JD.ok (h : JD n W A R d m room s t) : StOk room s := dks_ok h.dk.dk
theorem JD.below (h : JD n W A R d m room s t) (hb : Below W.heap.size W W2) : JD n W2 A R d m room s t := ⟨h.dk.below hb, h.rf.below hb, h.sep⟩
theorem JD.toD (h : JD n W A R d m room s t) (hd : Dsk n W2 A2 d room s2) (hk : Keeps A W W2) (hf : ∀ k, A2 k → A k ∨ W.heap.size ≤ k) : JD n W2 A2 R d m room s2 t :=
  ⟨hd, h.rf.other hk (fun k h1 h2 => h.sep k h2 h1), fun k h1 h2 => (hf k h1).elim (fun h3 => h.sep k h3 h2) (fun h3 => by have := h.rf.hi k h2; omega)⟩
theorem JD.toR (h : JD n W A R d m room s t) (hd : Rsk n W2 R2 m room s2) (hk : Keeps R W W2) (hf : ∀ k, R2 k → R k ∨ W.heap.size ≤ k) : JD n W2 A R2 d m room s s2 :=
  ⟨h.dk.other hk (fun k h1 h2 => h.sep k h1 h2), hd, fun k h1 h2 => (hf k h2).elim (fun h3 => h.sep k h1 h3) (fun h3 => by have := h.dk.hi k h1; omega)⟩
theorem JD.stepD (h : JD n W A R d m room s t) (hu : UpS W A d room s2 W2) (hn : n ≤ W.heap.size) : ∃ A2, JD n W2 A2 R d m room s2 t ∧ Keeps A W W2 ∧ (∀ k, A2 k → A k ∨ W.heap.size ≤ k) ∧ Below n W W2 := by
  obtain ⟨A2, hd, hk, hf, hb⟩ := h.dk.up hu hn
  exact ⟨A2, h.toD hd hk hf, hk, hf, hb⟩
theorem JD.stepR (h : JD n W A R d m room s t) (hu : UpR W R m room s2 W2) (hn : n ≤ W.heap.size) : ∃ R2, JD n W2 A R2 d m room s s2 ∧ Keeps R W W2 ∧ (∀ k, R2 k → R k ∨ W.heap.size ≤ k) ∧ Below n W W2 := by
  obtain ⟨R2, hd, hk, hf, hb⟩ := h.rf.up hu hn
  exact ⟨R2, h.toR hd hk hf, hk, hf, hb⟩
end

/-- The two logs. -/
structure JL (n : Nat) (W : World) (A R : Foot) (d m lb nb : Nat) (g : Lg) (K : Nat) : Prop where
  l : Jl W lb d 2 g.n g.up
  r : Jr W nb m 2 g.n (!g.up)
  lo : n ≤ lb ∧ n ≤ nb
  la : ¬ A lb
  lr : ¬ R lb
  na : ¬ A nb
  nr : ¬ R nb
  ne : lb ≠ nb
  cnt : g.n ≤ K
section
variable {n : Nat} {W W2 : World} {A A2 R R2 C : Foot} {d m lb nb K K2 : Nat} {g : Lg}
theorem JL.keeps (h : JL n W A R d m lb nb g K) (hk : Keeps C W W2) (h1 : ¬ C lb) (h2 : ¬ C nb) : JL n W2 A R d m lb nb g K :=
  ⟨Laid.keeps h.l hk h1, Laid.keeps h.r hk h2, h.lo, h.la, h.lr, h.na, h.nr, h.ne, h.cnt⟩
theorem JL.below (h : JL n W A R d m lb nb g K) (hb : Below W.heap.size W W2) : JL n W2 A R d m lb nb g K :=
  ⟨Laid.below h.l hb, Laid.below h.r hb, h.lo, h.la, h.lr, h.na, h.nr, h.ne, h.cnt⟩
theorem JL.moveA (h : JL n W A R d m lb nb g K) (hk : Keeps A W W2) (hf : ∀ k, A2 k → A k ∨ W.heap.size ≤ k) : JL n W2 A2 R d m lb nb g K :=
  ⟨Laid.keeps h.l hk h.la, Laid.keeps h.r hk h.na, h.lo, fun hA => (hf _ hA).elim h.la (fun h3 => by have := Laid.lt h.l; omega), h.lr, fun hA => (hf _ hA).elim h.na (fun h3 => by have := Laid.lt h.r; omega), h.nr, h.ne, h.cnt⟩
theorem JL.moveR (h : JL n W A R d m lb nb g K) (hk : Keeps R W W2) (hf : ∀ k, R2 k → R k ∨ W.heap.size ≤ k) : JL n W2 A R2 d m lb nb g K :=
  ⟨Laid.keeps h.l hk h.lr, Laid.keeps h.r hk h.nr, h.lo, h.la, fun hA => (hf _ hA).elim h.lr (fun h3 => by have := Laid.lt h.l; omega), h.na, fun hA => (hf _ hA).elim h.nr (fun h3 => by have := Laid.lt h.r; omega), h.ne, h.cnt⟩
theorem JL.cells (h : JL n W A R d m lb nb g K) : W.cell? ⟨nb, 2, none⟩ = some (.int .i64 (g.n : Int)) ∧ W.cell? ⟨nb, 3, none⟩ = some (.bool (!g.up)) := ⟨Laid.cell h.r 2, Laid.cell h.r 3⟩
end
/-- No logs, or two. -/
def LogAt (n : Nat) (W : World) (A R : Foot) (d m : Nat) (lv nv : Value) (c : Int) (K : Nat) : Prop :=
  (c ≠ 0 ∧ lv = .pointer none ∧ nv = .pointer none) ∨ (c = 0 ∧ ∃ lb nb g, lv = .pointer (some ⟨lb, 0, none⟩) ∧ nv = .pointer (some ⟨nb, 0, none⟩) ∧ JL n W A R d m lb nb g K)
structure JS (n : Nat) (W : World) (A R : Foot) (d m room : Nat) (s : St) (lv nv : Value) (c : Int) (K : Nat) : Prop where
  jd : JD n W A R d m room s s
  lg : LogAt n W A R d m lv nv c K
section
variable {n : Nat} {W W2 : World} {A A2 R R2 : Foot} {d m room K : Nat} {s s2 : St} {lv nv : Value} {c : Int}
theorem LogAt.map {W2 : World} {A2 R2 : Foot} {K2 : Nat} (h : LogAt n W A R d m lv nv c K) (f : ∀ lb nb g, JL n W A R d m lb nb g K → JL n W2 A2 R2 d m lb nb g K2) : LogAt n W2 A2 R2 d m lv nv c K2 :=
  h.imp id (fun ⟨h1, lb, nb, g, h2, h3, h4⟩ => ⟨h1, lb, nb, g, h2, h3, f lb nb g h4⟩)
theorem JS.below (h : JS n W A R d m room s lv nv c K) (hb : Below W.heap.size W W2) : JS n W2 A R d m room s lv nv c K := ⟨h.jd.below hb, h.lg.map (fun _ _ _ h => h.below hb)⟩
theorem JL.le {lb nb K2 : Nat} {g : Lg} (h : JL n W A R d m lb nb g K) (hk : K ≤ K2) : JL n W A R d m lb nb g K2 := ⟨h.l, h.r, h.lo, h.la, h.lr, h.na, h.nr, h.ne, Nat.le_trans h.cnt hk⟩
theorem JS.le {K2 : Nat} (h : JS n W A R d m room s lv nv c K) (hk : K ≤ K2) : JS n W A R d m room s lv nv c K2 := ⟨h.jd, h.lg.map (fun _ _ _ h => h.le hk)⟩
theorem JS.up1 {i : Nat} (h : JS n W A R d m room s lv nv c (1000 + i + 1)) : Hid (JS n W A R d m room s lv nv c (1000 + (i + 1))) := Lib.hid h

theorem open_len {room : Nat} {s : St} (ok : StOk room s) (file : Int) : (pOpen s file).2.2.length ≤ room := by
  have h1 : (scanRecs (pRead s file).2).length ≤ (pRead s file).2.length := by
    unfold scanRecs
    rw [List.length_map]
    exact (scanP_sum (pRead s file).2.length 0 (pRead s file).2 (Nat.le_refl _)).2.1
  have h2 : (pRead s file).2.length ≤ room := by
    unfold pRead
    split
    · exact Nat.zero_le _
    · split
      · exact Nat.zero_le _
      · exact ok.len _
  unfold pOpen
  split
  · exact Nat.zero_le _
  · split
    · exact Nat.zero_le _
    · split
      · exact Nat.zero_le _
      · exact Nat.le_trans h1 h2
theorem plog_n (room : Nat) (s : St) (file : Int) (g : Lg) (b : List Nat) : (pLog room s file g b).2.2.n ≤ g.n + 1 := by
  unfold pLog
  split
  · exact Nat.le_succ _
  · split
    · exact Nat.le_succ _
    · split
      · exact Nat.le_succ _
      · split
        · exact Nat.le_succ _
        · exact Nat.le_refl _
theorem openR2_any (h : Rsk n W R m room s) (hn : n ≤ W.heap.size) (ok : StOk room s) (hroom : room ≤ 100000) :
    Calls Tryz.prog 8 #[.pointer (some ⟨m, 0, none⟩), .int .i64 2] W (OpenREnd n W R m room 2 (pOpen s 2)) := openR_any (k := 2) h hn ok (by decide) hroom
/-- Behind the disk's own Open the reference's disk is as it was. -/
theorem mid_open {q : Int × St × List (List Nat)} {lv rv : Value} {us : List Value} {t : St} (J : JD n W A R d m room s t) (o : OpenIs n W A d room 2 q W2 A2 lv rv us) : Rsk n W2 R m room t :=
  J.rf.other o.keeps (fun k h1 h2 => J.sep k h2 h1)
theorem two_open {W3 : World} {q : Int × St × List (List Nat)} {lv rv nv rv2 : Value} {us us2 : List Value} (J : JD n W A R d m room s s) (hn : n ≤ W.heap.size) (o : OpenIs n W A d room 2 q W2 A2 lv rv us) (p : OpenRIs n W2 R m room 2 q W3 nv rv2 us2) (hq : q.2.2.length ≤ K) :
    JS n W3 A2 R d m room q.2.1 lv nv q.1 K ∧ LRow W3 rv us q.2.2 ∧ LRow W3 rv2 us2 q.2.2 ∧ Below n W W3 := by
  have h1 : JD n W2 A2 R d m room q.2.1 s := J.toD o.dk o.keeps o.foot
  have h2 : JD n W3 A2 R d m room q.2.1 q.2.1 := h1.toR p.rk p.keeps (fun k hk => .inl hk)
  have hs := o.below.size
  refine ⟨⟨h2, ?_⟩, ?_, lrow_of_own p.own, o.below.trans (p.keeps.below (Nat.le_trans hn o.keeps.size) J.rf.lo)⟩
  · by_cases hc : q.1 = 0
    · obtain ⟨lb, e1, l1, l2, l3, l4, _⟩ := o.good hc
      obtain ⟨nb, e2, r1, r2, r3⟩ := p.good hc
      refine .inr ⟨hc, lb, nb, ⟨q.2.2.length, true⟩, e1, e2, ⟨Laid.keeps l1 p.keeps (fun hR => by have := J.rf.hi lb hR; omega), r1, ⟨Nat.le_trans hn l2, Nat.le_trans hn (Nat.le_trans o.keeps.size r2)⟩, l4, fun hR => by have := J.rf.hi lb hR; omega, fun hA => by have := h1.dk.hi nb hA; omega, fun hR => by have := h1.rf.hi nb hR; omega, by omega, hq⟩⟩
    · exact .inl ⟨hc, o.bad hc, p.bad hc⟩
  · refine lrow_of_own (lown_foot o.own p.keeps (fun k hk hR => ?_) (fun y hy k hk hR => ?_))
    · have := (o.own.own.lt k hk).1; have := J.rf.hi k hR; omega
    · have := (o.els y hy k hk).2; have := J.rf.hi k hR; omega
theorem mid_app {lb nb : Nat} {g : Lg} {q : Int × St × Lg} (J : JD n W A R d m room s s) (L : JL n W A R d m lb nb g K) (a : AppIs n W A d room 2 lb q W2 A2) : Rsk n W2 R m room s ∧ Jr W2 nb m 2 g.n (!g.up) :=
  ⟨J.rf.other a.keeps (fun k h1 h2 => h2.elim (fun h3 => J.sep k h3 h1) (fun h3 => L.lr (h3 ▸ h1))), Laid.keeps L.r a.keeps (fun h2 => h2.elim L.na (fun h3 => L.ne h3.symm))⟩
theorem two_app {W3 : World} {lb nb : Nat} {g : Lg} {q : Int × St × Lg} (J : JD n W A R d m room s s) (hn : n ≤ W.heap.size) (L : JL n W A R d m lb nb g K) (a : AppIs n W A d room 2 lb q W2 A2) (b : AppRIs n W2 R m room 2 nb q W3 R2) (hq : q.2.2.n ≤ K + 1) :
    JD n W3 A2 R2 d m room q.2.1 q.2.1 ∧ JL n W3 A2 R2 d m lb nb q.2.2 (K + 1) ∧ Below n W W3 := by
  have hs := a.keeps.size
  have hlb := Laid.lt L.l
  have hnb := Laid.lt L.r
  have hna : ¬ A2 nb := fun h => (a.foot nb h).elim L.na (fun h => by omega)
  have hlr : ¬ R2 lb := fun h => (b.foot lb h).elim L.lr (fun h => by omega)
  refine ⟨⟨a.dk.other b.keeps (fun k h1 h2 => h2.elim (fun h3 => ?_) (fun h3 => hna (h3 ▸ h1))), b.rk, fun k h1 h2 => ?_⟩, ⟨Laid.keeps a.lg b.keeps (fun h => h.elim L.lr L.ne), b.lg, L.lo, a.far, hlr, hna, b.far, L.ne, hq⟩, a.below.trans (b.keeps.below (Nat.le_trans hn hs) (fun k hk => hk.elim (J.rf.lo k) (fun h => h ▸ L.lo.2)))⟩
  · rcases a.foot k h1 with h4 | h4
    · exact J.sep k h4 h3
    · have := J.rf.hi k h3; omega
  · rcases a.foot k h1 with h4 | h4
    · rcases b.foot k h2 with h5 | h5
      · exact J.sep k h4 h5
      · have := J.dk.hi k h4; omega
    · rcases b.foot k h2 with h5 | h5
      · have := J.rf.hi k h5; omega
      · have := a.dk.hi k h1; omega
theorem open_rec {room : Nat} {s : St} (ok : StOk room s) (file : Int) : ∀ x ∈ (pOpen s file).2.2, x.length ≤ room := by
  have h2 : (pRead s file).2.length ≤ room := by
    unfold pRead
    split
    · exact Nat.zero_le _
    · split
      · exact Nat.zero_le _
      · exact ok.len _
  have h1 : ∀ x ∈ scanRecs (pRead s file).2, x.length ≤ room := by
    unfold scanRecs
    intro x hx
    obtain ⟨y, hy, rfl⟩ := List.mem_map.1 hx
    exact Nat.le_trans ((scanP_sum (pRead s file).2.length 0 (pRead s file).2 (Nat.le_refl _)).2.2 y hy) h2
  unfold pOpen
  split
  · intro x hx; cases hx
  · split
    · intro x hx; cases hx
    · split
      · intro x hx; cases hx
      · exact h1
structure LogIs (room : Nat) (s : St) (g : Lg) (b : List Nat) (q : Int × St × Lg) : Prop where
  eq : pLog room s 2 g b = q
/-- One record at hand. -/
structure OneRec (W : World) (lo g c : Nat) (ua : Option Addr) (b0 : List Nat) (uc : Nat) : Prop where
  cell : W.cell? ⟨g, 0, none⟩ = some (.slice ua b0.length uc)
  row : Row .u8 W (.slice ua b0.length uc) (natI b0)
  b8 : ∀ c ∈ b0, c < 256
  top : ∀ k, blockOf (.slice ua b0.length uc) k → lo ≤ k ∧ k < W.heap.size
  len : b0.length ≤ 10
theorem one_rec {lo : Nat} {u : Value} {us : List Value} {xss : List (List Nat)} (h : LOwn lo W u us xss) (hs : Shorts xss) (hl : xss.length = 1) (hb : ∀ y ∈ us, ∀ k, blockOf y k → lo ≤ k) :
    ∃ g c ua b0 uc, u = .slice (some ⟨g, 0, none⟩) 1 c ∧ OneRec W lo g c ua b0 uc := by
  obtain ⟨b0, rfl⟩ := List.length_eq_one_iff.1 hl
  obtain ⟨y, rfl⟩ := List.length_eq_one_iff.1 (h.len.trans hl)
  have hr : Row .u8 W y (natI b0) := h.row 0 (by simp) (by simp)
  have hlt := h.lt y (by simp)
  have hlo := hb y (by simp)
  obtain ⟨ua, uc, rfl, _⟩ := id hr
  rw [natI_length] at *
  rcases h.own.2 with ⟨_, h0⟩ | ⟨g, cap, cur, rfl, _⟩
  · exact absurd h0 (by simp)
  · refine ⟨g, cap, ua, b0, uc, rfl, ?_, hr, (hs.2 b0 (by simp)).2, fun k hk => ⟨hlo k hk, hlt k hk⟩, (hs.2 b0 (by simp)).1⟩
    have := World.ownsRow.cells h.own (g := g) rfl 0 (.slice ua b0.length uc) rfl
    rw [add_none] at this
    exact this
theorem OneRec.below {lo g c : Nat} {ua : Option Addr} {b0 : List Nat} {uc : Nat} (h : OneRec W lo g c ua b0 uc) (hb : Below W.heap.size W W2) : OneRec W2 lo g c ua b0 uc :=
  ⟨below_cell hb h.cell, row_keeps h.row hb, h.b8, fun k hk => ⟨(h.top k hk).1, Nat.lt_of_lt_of_le (h.top k hk).2 hb.size⟩, h.len⟩
theorem OneRec.keeps {C : Foot} {lo g c : Nat} {ua : Option Addr} {b0 : List Nat} {uc : Nat} (h : OneRec W lo g c ua b0 uc) (hk : Keeps C W W2) (hn : ∀ k, C k → k < lo) : Row .u8 W2 (.slice ua b0.length uc) (natI b0) ∧ ∀ k, blockOf (.slice ua b0.length uc) k → k < W2.heap.size :=
  ⟨row_foot h.row hk (fun j hj hC => by have := (h.top j hj).1; have := hn j hC; omega), fun k hk2 => Nat.lt_of_lt_of_le (h.top k hk2).2 hk.size⟩
theorem lit_i64 (w : World) (z : Int) : Row .i64 (w.alloc (.cells #[.int .i64 z] 3)) (.slice (some ⟨w.heap.size, 0, none⟩) 1 1) [z] := row_of_fresh (fresh_lit w 0 3 .i64 [z] (Nat.zero_le _) (by simp))
end

set_option maxHeartbeats 16000000 in
theorem walk_JournalRuns (room : Int) (v : Value) (l : List Int) (w : World) (hroom : -9223372036854775808 ≤ room ∧ room ≤ 9223372036854775807) (hv : Row .i64 w v l) (hl : ∀ z ∈ l, -9223372036854775808 ≤ z ∧ z ≤ 9223372036854775807) :
    Calls Tryz.prog 3 #[.int .i64 room, v] w fun e w' => e = .returned (.bool true) ∧ Below w.heap.size w w' := by
  have HRM := Lib.hid hroom
  have HV := Lib.hid hv
  have HL := Lib.hid hl
  obtain ⟨q, hq, hq200⟩ := around_N room 200 (by decide)
  have HQ := Lib.hid hq
  obtain ⟨va, vc, rfl, hvc, hvm, -⟩ := hv
  clear hroom hl hq
  go_enter Tryz.func3, Tryz.ntmps3
  go_wp2_with fail
  refine (around_any room 200 w HRM.out (by decide) (by decide)).mono ?_
  rintro e w0 ⟨rfl, rfl⟩
  rw [HQ.out]
  clear HQ HRM
  obtain ⟨K, hK⟩ : ∃ K : Nat, 40 + q = K := ⟨_, rfl⟩
  have hKi : (40 : Int) + (q : Int) = (K : Int) := by omega
  have HK : Hid (K ≤ 240) := Lib.hid (by omega)
  clear hK
  go_wp2_with fail
  refine (fresh06_any K w (by have := HK.out; omega)).mono ?_
  rintro e w1 ⟨d, A1, rfl, hd, hb⟩
  have D1 := Lib.hid hd
  have B1 := Lib.hid hb
  clear hd hb hKi hq200
  go_wp2_with fail
  refine (newRS_any K w1).mono ?_
  rintro e w2 ⟨m, R0, rfl, hr, hR0, hb⟩
  have J2 : Hid (JD w.heap.size w2 A1 (fun k => R0 k ∧ k < w2.heap.size) d m K pNew pNew) := Lib.hid ⟨D1.out.below hb, Rsk.made hr hR0 B1.out.size, fun k h1 h2 => by have := D1.out.hi k h1; have := hR0 k h2.1; omega⟩
  have B2 := Lib.hid (below_cutJ B1.out hb)
  clear hr hR0 hb D1 B1
  generalize (fun k => R0 k ∧ k < w2.heap.size) = R2 at J2
  go_wp2_with fail
  refine (open_any J2.out.dk B2.out.size 2 (by have := HK.out; omega)).mono ?_
  rintro e w3 ⟨A3, lv, rv, us, rfl, ho⟩
  have O3 := Lib.hid ho
  have M3 := Lib.hid (mid_open J2.out ho)
  clear ho
  go_wp2_with fail
  refine (openR2_any M3.out (Nat.le_trans B2.out.size O3.out.keeps.size) J2.out.ok (by have := HK.out; omega)).mono ?_
  rintro e w4 ⟨nv, rv2, us2, rfl, hp⟩
  obtain ⟨js, _, _, hb⟩ := two_open (K := 1000) J2.out B2.out.size O3.out hp (Nat.le_trans (open_len J2.out.ok 2) (by have := HK.out; omega))
  have J4 : Hid (JS w.heap.size w4 A3 R2 d m K (pOpen pNew 2).2.1 lv nv (pOpen pNew 2).1 (1000 + 0)) := Lib.hid js
  have B4 := Lib.hid (B2.out.trans hb)
  clear js hb hp O3 M3 J2 B2
  generalize (pOpen pNew 2).2.1 = s4 at J4
  generalize (pOpen pNew 2).1 = c4 at *
  go_wp2_with fail
  go_loopw [8, 10, 11, 13, 14] (fun s8 s10 s11 s13 s14 wr => ∃ (i : Nat) (s : St) (c : Int) (A R : Foot) (lp np : Value), s14 = .int .i64 (i : Int) ∧ i ≤ l.length ∧ s10 = .int .i64 c ∧ s13 = .int .i64 c ∧ s8 = lp ∧ s11 = np ∧ Hid (JS w.heap.size wr A R d m K s lp np c (1000 + i)) ∧ Hid (Below w.heap.size w wr)) (fun _ _ _ _ s14 _ => l.length - (intOf s14).toNat)
  case atStart => exact ⟨0, s4, c4, A3, R2, lv, nv, rfl, Nat.zero_le _, rfl, rfl, rfl, rfl, J4, B4⟩
  case round =>
    obtain ⟨i, s, c, A, R, lp, np, rfl, hi, rfl, rfl, e8, e11, J, B⟩ := hrel
    replace e8 := e8.symm
    replace e11 := e11.symm
    subst e8
    subst e11
    clear J4 B4
    by_cases hlt : i < l.length ∧ i < 14
    · obtain ⟨h1, h14⟩ := hlt
      obtain ⟨z, hz, hzr⟩ : ∃ z : Int, (∃ b off, va = some ⟨b, off, none⟩ ∧ ∀ W, Below w.heap.size w W → W.cell? ⟨b, off + i, none⟩ = some (.int .i64 z)) ∧ -9223372036854775808 ≤ z ∧ z ≤ 9223372036854775807 := by
        refine ⟨l[i], ?_, HL.out _ (List.getElem_mem h1)⟩
        obtain ⟨a, c0, he, _, _, hne, _⟩ := HV.out
        injection he with he _ _
        subst he
        obtain ⟨b, off, hb, _⟩ := hne (fun h => by rw [h] at h1; exact absurd h1 (Nat.not_lt_zero _))
        refine ⟨b, off, hb, fun W hbw => ?_⟩
        obtain ⟨a, c0, he, _, _, hne, _⟩ := row_keeps HV.out hbw
        injection he with he _ _
        subst he
        obtain ⟨b2, off2, hb2, hc2⟩ := hne (fun h => by rw [h] at h1; exact absurd h1 (Nat.not_lt_zero _))
        rw [hb] at hb2
        injection hb2 with hb2
        injection hb2 with e1 e2
        subst e1 e2
        rw [hc2 i h1, List.getElem?_eq_getElem h1]
        rfl
      obtain ⟨b, off, rfl, hcell⟩ := hz
      have HZ := Lib.hid hcell
      have HZR := Lib.hid hzr
      obtain ⟨x, hx, hxl⟩ := around_N (wrap64 (z.tdiv 8)) 1048576 (by decide)
      have HX := Lib.hid hx
      obtain ⟨k8, hk, hkl⟩ := around_N z 8 (by decide)
      have HK8 := Lib.hid hk
      have c0 := hcell wr B.out
      have hi0 : (0 : Int) ≤ (i : Int) := by omega
      have hi1 : (i : Int) < (l.length : Int) := by omega
      have hi14 : (i : Int) < 14 := by omega
      have hcc := int_neJ c
      clear hcell hzr hx hk
      by_cases hcon : c ≠ 0 ∧ 3 < k8
      · obtain ⟨rfl, rfl⟩ : lp = .pointer none ∧ np = .pointer none := J.out.lg.elim (fun h => ⟨h.2.1, h.2.2⟩) (fun h => absurd h.1 hcon.1)
        have hk4 := hcon.2
        clear hcon
        go_wp2_with fail
        refine (around_any (wrap64 (z.tdiv 8)) 1048576 wr (wrap64_in _) (by decide) (by decide)).mono ?_
        rintro e w0 ⟨rfl, rfl⟩
        rw [HX.out]
        go_wp2_with fail
        refine (around_any z 8 wr HZR.out (by decide) (by decide)).mono ?_
        rintro e w0 ⟨rfl, rfl⟩
        rw [HK8.out]
        go_wp2_with fail
        go_roundw
        case rel => exact ⟨i + 1, s, c, A, R, _, _, by go_num, by omega, rfl, rfl, rfl, rfl, (J.out.le (Nat.le_succ _)).up1, B⟩
        case measure => simp [intOf]; omega
      have hlg : (lp = .pointer none ∧ np = .pointer none) ∨ ∃ lb nb, lp = .pointer (some ⟨lb, 0, none⟩) ∧ np = .pointer (some ⟨nb, 0, none⟩) := J.out.lg.elim (fun h => .inl ⟨h.2.1, h.2.2⟩) (fun ⟨_, lb, nb, _, h2, h3, _⟩ => .inr ⟨lb, nb, h2, h3⟩)
      go_wp2_with fail
      refine (around_any (wrap64 (z.tdiv 8)) 1048576 wr (wrap64_in _) (by decide) (by decide)).mono ?_
      rintro e w0 ⟨rfl, rfl⟩
      rw [HX.out]
      obtain ⟨w0, hw0⟩ : ∃ w0, w0 = wr := ⟨wr, rfl⟩
      subst hw0
      go_upto_region 12 with fail
      go_cut [68] (fun s68 wx => s68 = .bool false ∧ w0 = wx)
      case first =>
        rcases hlg with ⟨rfl, rfl⟩ | ⟨lb, nb, rfl, rfl⟩
        · go_wp2_with fail
          go_meet
          case rel => exact ⟨rfl, rfl⟩
        · go_wp2_with fail
          go_meet
          case rel => exact ⟨rfl, rfl⟩
      obtain ⟨rfl, rfl⟩ := hcut
      go_upto_region 14 with fail
      go_cut [73] (fun s73 wx => s73 = .int .i64 (k8 : Int) ∧ w0 = wx)
      case first =>
        go_wp2_with fail
        refine (around_any z 8 w0 HZR.out (by decide) (by decide)).mono ?_
        rintro e w1 ⟨rfl, rfl⟩
        rw [HK8.out]
        go_wp2_with fail
        go_meet
        case rel => exact ⟨rfl, rfl⟩
      obtain ⟨rfl, rfl⟩ := hcut
      apply_assumption
      clear HX HK8 HZR hvc hvm
      go_cut [8, 10, 11, 13] (fun s8 s10 s11 s13 wx => ∃ (s2 : St) (c2 : Int) (A2 R2 : Foot) (lp2 np2 : Value), s8 = lp2 ∧ s10 = .int .i64 c2 ∧ s11 = np2 ∧ s13 = .int .i64 c2 ∧ Hid (JS w.heap.size wx A2 R2 d m K s2 lp2 np2 c2 (1000 + i + 1)) ∧ Hid (Below w.heap.size w wx))
      case first =>
        rcases (show k8 = 0 ∨ k8 = 1 ∨ k8 = 2 ∨ k8 = 3 ∨ (3 < k8) by omega) with rfl | rfl | rfl | rfl | hk4
        · obtain ⟨a5, (ha5 : (x : Int).tmod 5 = (a5 : Int)), ha5l⟩ := tmodN x 5 (by decide)
          go_wp2_with fail
          refine (armS_any J.out.jd.dk.dk (a5 : Int) (by omega)).mono ?_
          rintro e w5 ⟨rfl, hu⟩
          obtain ⟨A5, jd, hk, hf, hb⟩ := J.out.jd.stepD hu B.out.size
          have D5 := Lib.hid jd
          have G5 := Lib.hid (J.out.lg.map (fun _ _ _ h => h.moveA hk hf))
          have B5 := Lib.hid (B.out.trans hb)
          clear hu jd hk hf hb J B c0
          go_wp2_with fail
          refine (armR_any D5.out.rf.dk (a5 : Int) (by omega)).mono ?_
          rintro e w6 ⟨rfl, hu⟩
          obtain ⟨R6, jd, hk, hf, hb⟩ := D5.out.stepR hu B5.out.size
          have J6 := Lib.hid ((JS.mk jd (G5.out.map (fun _ _ _ h => h.moveR hk hf))).le (Nat.le_succ (1000 + i)))
          have B6 := Lib.hid (B5.out.trans hb)
          clear hu jd hk hf hb D5 G5 B5 ha5 ha5l
          generalize pArm s (a5 : Int) = s6 at *
          go_wp2_with fail
          go_meet
          case rel => exact ⟨s6, c, A5, R6, _, _, rfl, rfl, rfl, rfl, J6, B6⟩
        · obtain ⟨a30, (ha30 : (x : Int).tmod 30 = (a30 : Int)), ha30l⟩ := tmodN x 30 (by decide)
          obtain ⟨y30, (hy30 : (x : Int).tdiv 30 = (y30 : Int)), hy30l⟩ := tdivN x 30
          obtain ⟨f3, (hf3 : (y30 : Int).tmod 300 = (f3 : Int)), hf3l⟩ := tmodN y30 300 (by decide)
          have hba : Below w0.heap.size w0 (w0.alloc (.cells #[.int .i64 (a30 : Int)] 3)) := (Below.refl _ w0).alloc (Nat.le_refl _) _
          have D5 := Lib.hid (J.out.jd.below hba)
          have B5 := Lib.hid (below_cutJ B.out hba)
          have K5 := Lib.hid (lit_i64 w0 (a30 : Int))
          have N5 : Hid ((¬ A w0.heap.size) ∧ ¬ R w0.heap.size) := Lib.hid ⟨fun h => by have := J.out.jd.dk.hi _ h; omega, fun h => by have := J.out.jd.rf.hi _ h; omega⟩
          have KR : Hid (∀ y ∈ [(a30 : Int)], -9223372036854775808 ≤ y ∧ y ≤ 9223372036854775807) := Lib.hid (fun y hy => by rw [List.mem_singleton.1 hy]; omega)
          clear hba J B
          go_wp2_with fail
          refine (crashS_any D5.out.dk.dk _ [(a30 : Int)] ((f3 : Int) - 100) K5.out (fun j hj hA => N5.out.1 ((show j = w0.heap.size from hj) ▸ hA)) KR.out (by omega) (by simp)).mono ?_
          rintro e w6 ⟨rfl, hu⟩
          obtain ⟨A6, jd, hk, hf, hb⟩ := D5.out.stepD hu B5.out.size
          have D6 := Lib.hid jd
          have OK6 := Lib.hid D5.out.ok
          have K6 := Lib.hid (row_foot K5.out hk (fun j hj hA => N5.out.1 ((show j = w0.heap.size from hj) ▸ hA)))
          have B6 := Lib.hid (B5.out.trans hb)
          clear hu jd hk hf hb D5 B5 K5 c0
          go_wp2_with fail
          refine (crashR_any D6.out.rf.dk OK6.out _ 1 [(a30 : Int)] ((f3 : Int) - 100) K6.out (fun j hj hA => N5.out.2 ((show j = w0.heap.size from hj) ▸ hA)) KR.out (by omega) (by simp)).mono ?_
          rintro e w7 ⟨rfl, hu⟩
          obtain ⟨R7, jd, hk, hf, hb⟩ := D6.out.stepR hu B6.out.size
          have D7 := Lib.hid jd
          have B7 := Lib.hid (B6.out.trans hb)
          clear hu jd hk hf hb D6 B6 K6 N5 KR OK6 ha30 hy30 hf3
          generalize pCrash s [(a30 : Int)] ((f3 : Int) - 100) = s7 at *
          go_wp2_with fail
          refine (open_any D7.out.dk B7.out.size 2 (by have := HK.out; omega)).mono ?_
          rintro e w8 ⟨A8, lv8, rv8, us8, rfl, ho⟩
          have O8 := Lib.hid ho
          have M8 := Lib.hid (mid_open D7.out ho)
          clear ho
          go_wp2_with fail
          refine (openR2_any M8.out (Nat.le_trans B7.out.size O8.out.keeps.size) D7.out.ok (by have := HK.out; omega)).mono ?_
          rintro e w9 ⟨nv9, rv9, us9, rfl, hp⟩
          obtain ⟨js, q1, q2, hb⟩ := two_open (K := 1000 + i + 1) D7.out B7.out.size O8.out hp (Nat.le_trans (open_len D7.out.ok 2) (by have := HK.out; omega))
          have J9 := Lib.hid js
          have B9 := Lib.hid (B7.out.trans hb)
          clear js hb hp O8 M8 q1 q2 D7 B7
          generalize pOpen s7 2 = q9 at *
          obtain ⟨c9, s9, xs9⟩ := q9
          go_wp2_with fail
          go_meet
          case rel => exact ⟨s9, c9, A8, R7, _, _, rfl, rfl, rfl, rfl, J9, B9⟩
        · obtain ⟨a30, (ha30 : (x : Int).tmod 30 = (a30 : Int)), ha30l⟩ := tmodN x 30 (by decide)
          obtain ⟨y30, (hy30 : (x : Int).tdiv 30 = (y30 : Int)), hy30l⟩ := tdivN x 30
          obtain ⟨f3, (hf3 : (y30 : Int).tmod 300 = (f3 : Int)), hf3l⟩ := tmodN y30 300 (by decide)
          have hba : Below w0.heap.size w0 (w0.alloc (.cells #[.int .i64 (a30 : Int)] 3)) := (Below.refl _ w0).alloc (Nat.le_refl _) _
          have D5 := Lib.hid (J.out.jd.below hba)
          have B5 := Lib.hid (below_cutJ B.out hba)
          have K5 := Lib.hid (lit_i64 w0 (a30 : Int))
          have N5 : Hid ((¬ A w0.heap.size) ∧ ¬ R w0.heap.size) := Lib.hid ⟨fun h => by have := J.out.jd.dk.hi _ h; omega, fun h => by have := J.out.jd.rf.hi _ h; omega⟩
          have KR : Hid (∀ y ∈ [(a30 : Int)], -9223372036854775808 ≤ y ∧ y ≤ 9223372036854775807) := Lib.hid (fun y hy => by rw [List.mem_singleton.1 hy]; omega)
          clear hba J B
          go_wp2_with fail
          refine (crashS_any D5.out.dk.dk _ [(a30 : Int)] ((f3 : Int) - 100) K5.out (fun j hj hA => N5.out.1 ((show j = w0.heap.size from hj) ▸ hA)) KR.out (by omega) (by simp)).mono ?_
          rintro e w6 ⟨rfl, hu⟩
          obtain ⟨A6, jd, hk, hf, hb⟩ := D5.out.stepD hu B5.out.size
          have D6 := Lib.hid jd
          have OK6 := Lib.hid D5.out.ok
          have K6 := Lib.hid (row_foot K5.out hk (fun j hj hA => N5.out.1 ((show j = w0.heap.size from hj) ▸ hA)))
          have B6 := Lib.hid (B5.out.trans hb)
          clear hu jd hk hf hb D5 B5 K5 c0
          go_wp2_with fail
          refine (crashR_any D6.out.rf.dk OK6.out _ 1 [(a30 : Int)] ((f3 : Int) - 100) K6.out (fun j hj hA => N5.out.2 ((show j = w0.heap.size from hj) ▸ hA)) KR.out (by omega) (by simp)).mono ?_
          rintro e w7 ⟨rfl, hu⟩
          obtain ⟨R7, jd, hk, hf, hb⟩ := D6.out.stepR hu B6.out.size
          have D7 := Lib.hid jd
          have B7 := Lib.hid (B6.out.trans hb)
          clear hu jd hk hf hb D6 B6 K6 N5 KR OK6 ha30 hy30 hf3
          generalize pCrash s [(a30 : Int)] ((f3 : Int) - 100) = s7 at *
          go_wp2_with fail
          refine (open_any D7.out.dk B7.out.size 2 (by have := HK.out; omega)).mono ?_
          rintro e w8 ⟨A8, lv8, rv8, us8, rfl, ho⟩
          have O8 := Lib.hid ho
          have M8 := Lib.hid (mid_open D7.out ho)
          clear ho
          go_wp2_with fail
          refine (openR2_any M8.out (Nat.le_trans B7.out.size O8.out.keeps.size) D7.out.ok (by have := HK.out; omega)).mono ?_
          rintro e w9 ⟨nv9, rv9, us9, rfl, hp⟩
          obtain ⟨js, q1, q2, hb⟩ := two_open (K := 1000 + i + 1) D7.out B7.out.size O8.out hp (Nat.le_trans (open_len D7.out.ok 2) (by have := HK.out; omega))
          have J9 := Lib.hid js
          have B9 := Lib.hid (B7.out.trans hb)
          clear js hb hp O8 M8 q1 q2 D7 B7
          generalize pOpen s7 2 = q9 at *
          obtain ⟨c9, s9, xs9⟩ := q9
          go_wp2_with fail
          go_meet
          case rel => exact ⟨s9, c9, A8, R7, _, _, rfl, rfl, rfl, rfl, J9, B9⟩
        · have D7 := Lib.hid J.out.jd
          have B7 := B
          clear J B c0
          go_wp2_with fail
          refine (open_any D7.out.dk B7.out.size 2 (by have := HK.out; omega)).mono ?_
          rintro e w8 ⟨A8, lv8, rv8, us8, rfl, ho⟩
          have O8 := Lib.hid ho
          have M8 := Lib.hid (mid_open D7.out ho)
          clear ho
          go_wp2_with fail
          refine (openR2_any M8.out (Nat.le_trans B7.out.size O8.out.keeps.size) D7.out.ok (by have := HK.out; omega)).mono ?_
          rintro e w9 ⟨nv9, rv9, us9, rfl, hp⟩
          obtain ⟨js, q1, q2, hb⟩ := two_open (K := 1000 + i + 1) D7.out B7.out.size O8.out hp (Nat.le_trans (open_len D7.out.ok 2) (by have := HK.out; omega))
          have J9 := Lib.hid js
          have B9 := Lib.hid (B7.out.trans hb)
          have Q1 := Lib.hid q1
          have Q2 := Lib.hid q2
          have QL := Lib.hid (open_len D7.out.ok 2)
          have QR := Lib.hid (open_rec D7.out.ok 2)
          clear js hb hp O8 M8 q1 q2 D7 B7
          generalize pOpen s 2 = q9 at *
          obtain ⟨c9, s9, xs9⟩ := q9
          go_wp2_with fail
          refine (sameLists_any rv8 rv9 us8 us9 xs9 xs9 w9 Q1.out Q2.out (fun x h => by have := QR.out x h; have := HK.out; omega) (fun x h => by have := QR.out x h; have := HK.out; omega) (by have := Q1.out.len; have := QL.out; have := HK.out; omega) (by have := Q2.out.len; have := QL.out; have := HK.out; omega)).mono ?_
          rintro e w10 ⟨rfl, hb⟩
          rw [decide_eq_true rfl]
          have J10 := Lib.hid (J9.out.below hb)
          have B10 := Lib.hid (below_cutJ B9.out hb)
          clear hb J9 B9 Q1 Q2 QL QR
          go_wp2_with fail
          go_meet
          case rel => exact ⟨s9, c9, A8, R, _, _, rfl, rfl, rfl, rfl, J10, B10⟩
        · obtain ⟨hc, lb, nb, g, rfl, rfl, hJL⟩ := J.out.lg.resolve_left (fun h => hcon ⟨h.1, hk4⟩)
          have hba : Below w0.heap.size w0 (w0.alloc (.cells #[.int .i64 (x : Int)] 3)) := (Below.refl _ w0).alloc (Nat.le_refl _) _
          have D5 := Lib.hid (J.out.jd.below hba)
          have L5 := Lib.hid (hJL.below hba)
          have B5 := Lib.hid (below_cutJ B.out hba)
          have K5 := Lib.hid (lit_i64 w0 (x : Int))
          have HC := Lib.hid hc
          clear hba J B hJL hcon hc
          go_wp2_with fail
          refine (records_len _ [(x : Int)] _ K5.out (fun y hy => by rw [List.mem_singleton.1 hy]; omega)).mono ?_
          rintro e w6 ⟨u, us6, xs6, rfl, hlo, hsh, hb, hnew, hlen⟩
          obtain ⟨g6, c6, ua, b0, uc, rfl, hone⟩ := one_rec hlo hsh (by rw [hlen]; simp) hnew
          have N6 : Hid ((∀ k, A k → k < (w0.alloc (.cells #[.int .i64 (x : Int)] 3)).heap.size) ∧ (∀ k, R k → k < (w0.alloc (.cells #[.int .i64 (x : Int)] 3)).heap.size) ∧ lb < (w0.alloc (.cells #[.int .i64 (x : Int)] 3)).heap.size ∧ nb < (w0.alloc (.cells #[.int .i64 (x : Int)] 3)).heap.size) := Lib.hid ⟨D5.out.dk.hi, D5.out.rf.hi, Laid.lt L5.out.l, Laid.lt L5.out.r⟩
          generalize hlo6 : (w0.alloc (.cells #[.int .i64 (x : Int)] 3)).heap.size = lo6 at hone N6
          have hdr : Below w6.heap.size w6 w6.drew := (Below.refl _ w6).drew
          have D6 := Lib.hid ((D5.out.below hb).below hdr)
          have L6 := Lib.hid ((L5.out.below hb).below hdr)
          have B6 := Lib.hid (below_cutJ (below_cutJ B5.out hb) hdr)
          have H6 := Lib.hid (hone.below hdr)
          have cg := hone.cell
          obtain ⟨q, hq⟩ : ∃ q, LogIs K s g b0 q := ⟨_, ⟨rfl⟩⟩
          have HQ := Lib.hid hq
          have CA : Hid (Calls Tryz.prog 15 #[.pointer (some ⟨lb, 0, none⟩), .slice ua b0.length uc] w6.drew (LogEnd w.heap.size w6.drew A d K 2 lb q)) := Lib.hid (by
            have := logAppend_any D6.out.dk B6.out.size L6.out.l L6.out.la L6.out.lo.1 (by have := L6.out.cnt; omega) H6.out.row H6.out.b8 (fun j hj => (H6.out.top j hj).2) (by have := H6.out.len; omega)
            rw [HQ.out.eq] at this
            exact this)
          have CB : Hid (∀ w7 A7, AppIs w.heap.size w6.drew A d K 2 lb q w7 A7 → Calls Tryz.prog 16 #[.pointer (some ⟨nb, 0, none⟩), .slice ua b0.length uc] w7 (LogREnd w.heap.size w7 R m K 2 nb q)) := Lib.hid (fun w7 A7 ha => by
            obtain ⟨m1, m2⟩ := mid_app D6.out L6.out ha
            obtain ⟨r1, r2⟩ := H6.out.keeps ha.keeps (fun k hk => hk.elim (N6.out.1 k) (fun e => e ▸ N6.out.2.2.1))
            have := logR_any m1 (Nat.le_trans B6.out.size ha.keeps.size) D6.out.ok m2 L6.out.nr (by have := L6.out.cnt; omega) r1 H6.out.b8 r2 (by have := H6.out.len; omega)
            rw [HQ.out.eq] at this
            exact this)
          have HN7 : Hid (q.2.2.n ≤ 1000 + i + 1) := Lib.hid (by have := plog_n K s 2 g b0; rw [HQ.out.eq] at this; have := L6.out.cnt; omega)
          have hqc := int_neJ q.1
          have hqn := int_neJ (q.2.2.n : Int)
          have hqu := up_ne q.2.2.up
          clear hlo hsh hb hnew hlen hone hdr D5 L5 B5 K5 hq HQ c0 hlo6
          go_wp2_with fail
          refine wp_region_any (by kernel_rfl) ?_
          change wpAny _ _ _ _ _ _ _ (World.drew _)
          refine wpAny_take (i := 0) (oi := { dst := some 85, op := Op.move (Operand.tmp 8), type := 28, pos := "law.go:113", after := #[], guard := none }) (v := .pointer (some ⟨lb, 0, none⟩)) rfl (by kernel_rfl) (by kernel_rfl) (by kernel_rfl) (fun _ _ _ h => h) (Or.inl ⟨by rfl, ?_⟩) ?_
          · (intro wq; go_simp; try with_reducible rfl)
          try simp only [Act.put, List.setIfInBounds_toArray, List.set_cons_zero, List.set_cons_succ]
          refine wpAny_take (i := 1) (oi := { dst := some 86, op := Op.move (Operand.tmp 19), type := 39, pos := "law.go:113", after := #[], guard := none }) (v := .slice ua b0.length uc) rfl (by kernel_rfl) (by kernel_rfl) (by kernel_rfl) (fun _ _ _ h => h) (Or.inl ⟨by rfl, ?_⟩) ?_
          · (intro wq; go_simp; try with_reducible rfl)
          try simp only [Act.put, List.setIfInBounds_toArray, List.set_cons_zero, List.set_cons_succ]
          refine wpAny_take (i := 3) (oi := { dst := some 88, op := Op.move (Operand.tmp 11), type := 33, pos := "law.go:113", after := #[], guard := none }) (v := .pointer (some ⟨nb, 0, none⟩)) rfl (by kernel_rfl) (by kernel_rfl) (by kernel_rfl) (fun _ _ _ h => h) (Or.inl ⟨by rfl, ?_⟩) ?_
          · (intro wq; go_simp; try with_reducible rfl)
          try simp only [Act.put, List.setIfInBounds_toArray, List.set_cons_zero, List.set_cons_succ]
          refine wpAny_take (i := 4) (oi := { dst := some 89, op := Op.move (Operand.tmp 19), type := 39, pos := "law.go:113", after := #[], guard := none }) (v := .slice ua b0.length uc) rfl (by kernel_rfl) (by kernel_rfl) (by kernel_rfl) (fun _ _ _ h => h) (Or.inl ⟨by rfl, ?_⟩) ?_
          · (intro wq; go_simp; try with_reducible rfl)
          try simp only [Act.put, List.setIfInBounds_toArray, List.set_cons_zero, List.set_cons_succ]
          refine wpAny_ready (rs := [2]) (by kernel_rfl) (by simp) ?_
          refine AllReady.cons (o := { dst := some 87, op := Op.call { callee := Callee.value (Operand.func 15), args := #[Operand.tmp 85, Operand.tmp 86], argTypes := #[28, 39] }, type := 30, pos := "law.go:113", after := #[{ on := 0, ground := Ground.data }, { on := 1, ground := Ground.data }], guard := none }) rfl (fun K9 hK => ?_) AllReady.nil
          go_simp
          (with_reducible refine (CA.out).mono ?_)
          rintro e w7 ⟨rfl, A7, ha⟩
          have HA7 := Lib.hid ha
          clear ha
          refine hK _ _ ?_
          clear hK K9
          try simp only [Act.put, List.setIfInBounds_toArray, List.set_cons_zero, List.set_cons_succ]
          refine wpAny_ready (rs := [5]) (by kernel_rfl) (by simp) ?_
          refine AllReady.cons (o := { dst := some 90, op := Op.call { callee := Callee.value (Operand.func 16), args := #[Operand.tmp 88, Operand.tmp 89], argTypes := #[33, 39] }, type := 30, pos := "law.go:113", after := #[{ on := 3, ground := Ground.data }, { on := 4, ground := Ground.data }, { on := 2, ground := Ground.chain }], guard := none }) rfl (fun K9 hK => ?_) AllReady.nil
          go_simp
          (with_reducible refine (CB.out _ _ HA7.out).mono ?_)
          rintro e w8 ⟨rfl, R8, hb8⟩
          obtain ⟨jd8, jl8, bl8⟩ := two_app D6.out B6.out.size L6.out HA7.out hb8 HN7.out
          have D8 := Lib.hid jd8
          have L8 := Lib.hid jl8
          have B8 := Lib.hid (B6.out.trans bl8)
          have HC8 := Lib.hid jl8.cells
          clear hb8 jd8 jl8 bl8 CA CB HA7 D6 L6 B6 H6 N6
          refine hK _ _ ?_
          clear hK K9
          try simp only [Act.put, List.setIfInBounds_toArray, List.set_cons_zero, List.set_cons_succ]
          refine wpAny_take (i := 6) (oi := { dst := some 91, op := Op.binOp BinOp.neq 30 (Operand.tmp 87) (Operand.tmp 90) 30, type := 4, pos := "law.go:113", after := #[{ on := 2, ground := Ground.data }, { on := 5, ground := Ground.data }], guard := none }) (v := .bool false) rfl (by kernel_rfl) (by kernel_rfl) (by kernel_rfl) (fun _ _ _ h => h) (Or.inl ⟨by rfl, ?_⟩) ?_
          · (intro wq; go_simp; try with_reducible rfl)
          try simp only [Act.put, List.setIfInBounds_toArray, List.set_cons_zero, List.set_cons_succ]
          refine wpAny_take (i := 7) (oi := { dst := some 92, op := Op.move (Operand.tmp 91), type := 4, pos := "law.go:113", after := #[{ on := 6, ground := Ground.data }, { on := 5, ground := Ground.chain }], guard := none }) (v := .bool false) rfl (by kernel_rfl) (by kernel_rfl) (by kernel_rfl) (fun _ _ _ h => h) (Or.inl ⟨by rfl, ?_⟩) ?_
          · (intro wq; go_simp; try with_reducible rfl)
          try simp only [Act.put, List.setIfInBounds_toArray, List.set_cons_zero, List.set_cons_succ]
          refine wpAny_of_held (S := fun X : World => X.cell? ⟨nb, 2, none⟩ = some (.int .i64 (q.2.2.n : Int)) ∧ X.cell? ⟨nb, 3, none⟩ = some (.bool (!q.2.2.up))) _ _ _ _ ?_
          refine wpAnyH_take (i := 8) (oi := { dst := some 93, op := Op.move (Operand.tmp 8), type := 28, pos := "law.go:113", after := #[{ on := 7, ground := Ground.guard }], guard := some (7, false) }) (v := .pointer (some ⟨lb, 0, none⟩)) rfl (by kernel_rfl) (by kernel_rfl) (by kernel_rfl) (fun _ _ _ h => h) (Or.inl ⟨by rfl, ?_⟩) HC8.out ?_
          · (intro wq hSw; (try dsimp only at hSw); go_simp; try with_reducible rfl)
          try simp only [Act.put, List.setIfInBounds_toArray, List.set_cons_zero, List.set_cons_succ]
          refine wpAnyH_take (i := 10) (oi := { dst := some 95, op := Op.move (Operand.tmp 11), type := 33, pos := "law.go:113", after := #[{ on := 7, ground := Ground.guard }], guard := some (7, false) }) (v := .pointer (some ⟨nb, 0, none⟩)) rfl (by kernel_rfl) (by kernel_rfl) (by kernel_rfl) (fun _ _ _ h => h) (Or.inl ⟨by rfl, ?_⟩) HC8.out ?_
          · (intro wq hSw; (try dsimp only at hSw); go_simp; try with_reducible rfl)
          try simp only [Act.put, List.setIfInBounds_toArray, List.set_cons_zero, List.set_cons_succ]
          refine wpAnyH_take (i := 11) (oi := { dst := some 96, op := Op.nilCheck (Operand.tmp 95), type := 0, pos := "law.go:113", after := #[{ on := 10, ground := Ground.data }, { on := 7, ground := Ground.guard }], guard := some (7, false) }) (v := .pointer (some ⟨nb, 0, none⟩)) rfl (by kernel_rfl) (by kernel_rfl) (by kernel_rfl) (fun _ _ _ h => h) (Or.inl ⟨by rfl, ?_⟩) HC8.out ?_
          · (intro wq hSw; (try dsimp only at hSw); go_simp; try with_reducible rfl)
          try simp only [Act.put, List.setIfInBounds_toArray, List.set_cons_zero, List.set_cons_succ]
          refine wpAnyH_take (i := 12) (oi := { dst := some 97, op := Op.fieldAddr 44 (Operand.tmp 96) 2, type := 0, pos := "law.go:113", after := #[{ on := 11, ground := Ground.data }, { on := 7, ground := Ground.guard }], guard := some (7, false) }) (v := .pointer (some ⟨nb, 2, none⟩)) rfl (by kernel_rfl) (by kernel_rfl) (by kernel_rfl) (fun _ _ _ h => h) (Or.inl ⟨by rfl, ?_⟩) HC8.out ?_
          · (intro wq hSw; (try dsimp only at hSw); go_simp; try with_reducible rfl)
          try simp only [Act.put, List.setIfInBounds_toArray, List.set_cons_zero, List.set_cons_succ]
          refine wpAnyH_take (i := 13) (oi := { dst := some 98, op := Op.load 3 (Operand.tmp 97), type := 3, pos := "law.go:113", after := #[{ on := 12, ground := Ground.data }, { on := 7, ground := Ground.guard }], guard := some (7, false) }) (v := .int .i64 (q.2.2.n : Int)) rfl (by kernel_rfl) (by kernel_rfl) (by kernel_rfl) (fun _ _ _ h => h) (Or.inl ⟨by rfl, ?_⟩) HC8.out ?_
          · (intro wq hSw; (try dsimp only at hSw); go_simp; try with_reducible rfl)
          try simp only [Act.put, List.setIfInBounds_toArray, List.set_cons_zero, List.set_cons_succ]
          refine wpAnyH_ready (rs := [9]) (by kernel_rfl) (by simp) ?_
          refine AllReadyH.cons (o := { dst := some 94, op := Op.call { callee := Callee.value (Operand.func 17), args := #[Operand.tmp 93], argTypes := #[28] }, type := 3, pos := "law.go:113", after := #[{ on := 8, ground := Ground.data }, { on := 7, ground := Ground.chain }, { on := 7, ground := Ground.guard }], guard := some (7, false) }) rfl (fun K9 hK => ?_) AllReadyH.nil
          go_simp
          refine (len_any L8.out.l).mono ?_
          rintro e w9 ⟨rfl, rfl⟩
          refine hK.out _ _ HC8.out (fun hHeld => ?_)
          clear hHeld hK K9
          try simp only [Act.put, List.setIfInBounds_toArray, List.set_cons_zero, List.set_cons_succ]
          refine wpAnyH_take (i := 14) (oi := { dst := some 99, op := Op.binOp BinOp.neq 3 (Operand.tmp 94) (Operand.tmp 98) 3, type := 4, pos := "law.go:113", after := #[{ on := 9, ground := Ground.data }, { on := 13, ground := Ground.data }, { on := 7, ground := Ground.guard }], guard := some (7, false) }) (v := .bool false) rfl (by kernel_rfl) (by kernel_rfl) (by kernel_rfl) (fun _ _ _ h => h) (Or.inl ⟨by rfl, ?_⟩) HC8.out ?_
          · (intro wq hSw; (try dsimp only at hSw); go_simp; try with_reducible rfl)
          try simp only [Act.put, List.setIfInBounds_toArray, List.set_cons_zero, List.set_cons_succ]
          refine wpAnyH_take (i := 15) (oi := { dst := some 100, op := Op.pick (Operand.tmp 92) (Operand.const (Value.bool true)) (Operand.tmp 99), type := 4, pos := "law.go:113", after := #[{ on := 7, ground := Ground.data }, { on := 14, ground := Ground.data }], guard := none }) (v := .bool false) rfl (by kernel_rfl) (by kernel_rfl) (by kernel_rfl) (fun _ _ _ h => h) (Or.inl ⟨by rfl, ?_⟩) HC8.out ?_
          · (intro wq hSw; (try dsimp only at hSw); go_simp; try with_reducible rfl)
          try simp only [Act.put, List.setIfInBounds_toArray, List.set_cons_zero, List.set_cons_succ]
          refine wpAnyH_take (i := 16) (oi := { dst := some 101, op := Op.move (Operand.tmp 100), type := 4, pos := "law.go:113", after := #[{ on := 15, ground := Ground.data }, { on := 9, ground := Ground.chain }], guard := none }) (v := .bool false) rfl (by kernel_rfl) (by kernel_rfl) (by kernel_rfl) (fun _ _ _ h => h) (Or.inl ⟨by rfl, ?_⟩) HC8.out ?_
          · (intro wq hSw; (try dsimp only at hSw); go_simp; try with_reducible rfl)
          try simp only [Act.put, List.setIfInBounds_toArray, List.set_cons_zero, List.set_cons_succ]
          refine wpAnyH_take (i := 17) (oi := { dst := some 102, op := Op.move (Operand.tmp 8), type := 28, pos := "law.go:113", after := #[{ on := 16, ground := Ground.guard }], guard := some (16, false) }) (v := .pointer (some ⟨lb, 0, none⟩)) rfl (by kernel_rfl) (by kernel_rfl) (by kernel_rfl) (fun _ _ _ h => h) (Or.inl ⟨by rfl, ?_⟩) HC8.out ?_
          · (intro wq hSw; (try dsimp only at hSw); go_simp; try with_reducible rfl)
          try simp only [Act.put, List.setIfInBounds_toArray, List.set_cons_zero, List.set_cons_succ]
          refine wpAnyH_take (i := 19) (oi := { dst := some 104, op := Op.move (Operand.tmp 11), type := 33, pos := "law.go:113", after := #[{ on := 16, ground := Ground.guard }], guard := some (16, false) }) (v := .pointer (some ⟨nb, 0, none⟩)) rfl (by kernel_rfl) (by kernel_rfl) (by kernel_rfl) (fun _ _ _ h => h) (Or.inl ⟨by rfl, ?_⟩) HC8.out ?_
          · (intro wq hSw; (try dsimp only at hSw); go_simp; try with_reducible rfl)
          try simp only [Act.put, List.setIfInBounds_toArray, List.set_cons_zero, List.set_cons_succ]
          refine wpAnyH_take (i := 20) (oi := { dst := some 105, op := Op.nilCheck (Operand.tmp 104), type := 0, pos := "law.go:113", after := #[{ on := 19, ground := Ground.data }, { on := 16, ground := Ground.guard }], guard := some (16, false) }) (v := .pointer (some ⟨nb, 0, none⟩)) rfl (by kernel_rfl) (by kernel_rfl) (by kernel_rfl) (fun _ _ _ h => h) (Or.inl ⟨by rfl, ?_⟩) HC8.out ?_
          · (intro wq hSw; (try dsimp only at hSw); go_simp; try with_reducible rfl)
          try simp only [Act.put, List.setIfInBounds_toArray, List.set_cons_zero, List.set_cons_succ]
          refine wpAnyH_take (i := 21) (oi := { dst := some 106, op := Op.fieldAddr 44 (Operand.tmp 105) 3, type := 0, pos := "law.go:113", after := #[{ on := 20, ground := Ground.data }, { on := 16, ground := Ground.guard }], guard := some (16, false) }) (v := .pointer (some ⟨nb, 3, none⟩)) rfl (by kernel_rfl) (by kernel_rfl) (by kernel_rfl) (fun _ _ _ h => h) (Or.inl ⟨by rfl, ?_⟩) HC8.out ?_
          · (intro wq hSw; (try dsimp only at hSw); go_simp; try with_reducible rfl)
          try simp only [Act.put, List.setIfInBounds_toArray, List.set_cons_zero, List.set_cons_succ]
          refine wpAnyH_take (i := 22) (oi := { dst := some 107, op := Op.load 4 (Operand.tmp 106), type := 4, pos := "law.go:113", after := #[{ on := 21, ground := Ground.data }, { on := 16, ground := Ground.guard }], guard := some (16, false) }) (v := .bool (!q.2.2.up)) rfl (by kernel_rfl) (by kernel_rfl) (by kernel_rfl) (fun _ _ _ h => h) (Or.inl ⟨by rfl, ?_⟩) HC8.out ?_
          · (intro wq hSw; (try dsimp only at hSw); go_simp; try with_reducible rfl)
          try simp only [Act.put, List.setIfInBounds_toArray, List.set_cons_zero, List.set_cons_succ]
          refine wpAnyH_ready (rs := [18]) (by kernel_rfl) (by simp) ?_
          refine AllReadyH.cons (o := { dst := some 103, op := Op.call { callee := Callee.value (Operand.func 18), args := #[Operand.tmp 102], argTypes := #[28] }, type := 4, pos := "law.go:113", after := #[{ on := 17, ground := Ground.data }, { on := 16, ground := Ground.chain }, { on := 16, ground := Ground.guard }], guard := some (16, false) }) rfl (fun K9 hK => ?_) AllReadyH.nil
          go_simp
          refine (up_any L8.out.l).mono ?_
          rintro e w10 ⟨rfl, rfl⟩
          refine hK.out _ _ HC8.out (fun hHeld => ?_)
          clear hHeld hK K9
          try simp only [Act.put, List.setIfInBounds_toArray, List.set_cons_zero, List.set_cons_succ]
          refine wpAnyH_take (i := 23) (oi := { dst := some 108, op := Op.binOp BinOp.eql 4 (Operand.tmp 103) (Operand.tmp 107) 4, type := 4, pos := "law.go:113", after := #[{ on := 18, ground := Ground.data }, { on := 22, ground := Ground.data }, { on := 16, ground := Ground.guard }], guard := some (16, false) }) (v := .bool false) rfl (by kernel_rfl) (by kernel_rfl) (by kernel_rfl) (fun _ _ _ h => h) (Or.inl ⟨by rfl, ?_⟩) HC8.out ?_
          · (intro wq hSw; (try dsimp only at hSw); go_simp; try with_reducible rfl)
          try simp only [Act.put, List.setIfInBounds_toArray, List.set_cons_zero, List.set_cons_succ]
          refine wpAnyH_take (i := 24) (oi := { dst := some 109, op := Op.pick (Operand.tmp 101) (Operand.const (Value.bool true)) (Operand.tmp 108), type := 4, pos := "law.go:113", after := #[{ on := 16, ground := Ground.data }, { on := 23, ground := Ground.data }], guard := none }) (v := .bool false) rfl (by kernel_rfl) (by kernel_rfl) (by kernel_rfl) (fun _ _ _ h => h) (Or.inl ⟨by rfl, ?_⟩) HC8.out ?_
          · (intro wq hSw; (try dsimp only at hSw); go_simp; try with_reducible rfl)
          try simp only [Act.put, List.setIfInBounds_toArray, List.set_cons_zero, List.set_cons_succ]
          refine wpAnyH_done (by kernel_rfl) ?_ _
          clear hqc hqn hqu
          go_wp2_with fail
          go_meet
          case rel => exact ⟨q.2.1, c, A7, R8, _, _, rfl, rfl, rfl, rfl, Lib.hid ⟨D8.out, .inr ⟨HC.out, lb, nb, q.2.2, rfl, rfl, L8.out⟩⟩, B8⟩
      obtain ⟨s2, c2, A2, R2, lp2, np2, e8, rfl, e11, rfl, J2, B2⟩ := hcut
      replace e8 := e8.symm
      replace e11 := e11.symm
      subst e8
      subst e11
      clear J B c0
      have hon2 := on_cases s2
      rcases hon2 with hon | hon
      · have R1 : Hid (pRead s2 2 = (0, s2.B 2)) := Lib.hid (read2_on hon)
        go_wp2_with fail
        refine (readS_any J2.out.jd.dk.dk 2).mono ?_
        rw [R1.out]
        rintro e wy ⟨vx, rfl, hx, hb⟩
        obtain ⟨xa, xc, rfl, -⟩ := fresh_elems hx
        have JY := Lib.hid (J2.out.below hb)
        have BY := Lib.hid (below_cutJ B2.out hb)
        obtain ⟨bb, fb, ad, cp, hr, hA⟩ := JY.out.jd.rf.dk
        have y3 := hr.dk.cell 3
        have y1 := hr.dk.cell 1
        have yb := hr.bcell (show 2 < 64 by decide)
        have hrow := hr.row 2 (by decide)
        unfold slV at hrow
        have X1 := Lib.hid hx
        have X2 := Lib.hid hrow
        have XL := Lib.hid (JY.out.jd.ok.len 2)
        rw [natI_length] at X1 ⊢
        simp only [List.getElem?_cons_succ, List.getElem?_cons_zero] at y1
        clear hrow
        rw [hon] at y3
        simp only [List.getElem?_cons_succ, List.getElem?_cons_zero, Bool.not_true] at y3
        clear hr hA hx hb hon R1 J2 B2
        generalize s2.B 2 = LB at *
        generalize ad 2 = a2 at *
        generalize cp 2 = p2 at *
        go_wp2_with fail
        refine (sameBytes_any (.slice xa LB.length xc) (.slice a2 LB.length p2) (natI LB) (natI LB) wy (Elems.of_fresh X1.out) (Elems.of_fresh X2.out) (by have := XL.out; have := HK.out; rw [natI_length]; omega) (by have := XL.out; have := HK.out; rw [natI_length]; omega)).mono ?_
        rintro e wz ⟨rfl, hb⟩
        rw [decide_eq_true (rfl : natI LB = natI LB)]
        have JZ := Lib.hid (JY.out.below hb)
        have BZ := Lib.hid (below_cutJ BY.out hb)
        have y4 := below_cell hb y3
        clear hb y1 yb y3 X1 X2 XL JY BY
        go_wp2_with fail
        go_roundw
        case rel => exact ⟨i + 1, s2, c2, A2, R2, lp2, np2, by go_num, by omega, rfl, rfl, rfl, rfl, JZ.out.up1, BZ⟩
        case measure => simp [intOf]; omega
      · have R1 : Hid (pRead s2 2 = (23, [])) := Lib.hid (read2_off hon)
        go_wp2_with fail
        refine (readS_any J2.out.jd.dk.dk 2).mono ?_
        rw [R1.out]
        rintro e wy ⟨vx, rfl, hx, hb⟩
        obtain ⟨xa, xc, rfl, -⟩ := fresh_elems hx
        have JY := Lib.hid (J2.out.below hb)
        have BY := Lib.hid (below_cutJ B2.out hb)
        obtain ⟨bb, fb, ad, cp, hr, hA⟩ := JY.out.jd.rf.dk
        have y3 := hr.dk.cell 3
        rw [hon] at y3
        simp only [List.getElem?_cons_succ, List.getElem?_cons_zero, Bool.not_false] at y3
        clear hr hA hx hb hon R1 J2 B2
        have JZ := JY
        have BZ := BY
        go_wp2_with fail
        go_roundw
        case rel => exact ⟨i + 1, s2, c2, A2, R2, lp2, np2, by go_num, by omega, rfl, rfl, rfl, rfl, JZ.out.up1, BZ⟩
        case measure => simp [intOf]; omega
    · have he : i = l.length ∨ 14 ≤ i := by omega
      have hcc := int_eqJ c
      go_wp2_with fail
      all_goals
        refine (lives6_any wr).mono ?_
        rintro e w9 ⟨rfl, hb⟩
        have B9 := Lib.hid (below_cutJ B.out hb)
        clear hb
        go_wp2_with fail
        go_ret
        exact ⟨rfl, B9.out⟩
end Go.Proofs.YtlljcnhcknmoaaaGreat
