/-
  DiskDurable: what was durable is there behind a crash.
-/
import Derived.Test.YtadnbakniibmfaaRdl
namespace Go.Proofs.Ytadnbakniibmfaa
open Go.RowKit Go.Shelf
set_option linter.unusedVariables false
set_option maxRecDepth 100000

theorem flipK_ge {B : Nat → List Nat} {D : Nat → Nat} : ∀ {ks : List Nat} {bit k p : Nat}, flipK B D ks bit = some (k, p) → 8 * D k ≤ p
  | [], _, _, _, h => by cases h
  | j :: t, bit, k, p, h => by
    have h2 : (if bit < 8 * ((B j).length - D j) then some (j, 8 * D j + bit) else flipK B D t (bit - 8 * ((B j).length - D j))) = some (k, p) := h
    split at h2
    · injection h2 with h2
      injection h2 with h3 h4
      subst h3
      omega
    · exact flipK_ge h2
/-- The durable part stands, whatever is behind it. -/
def PreN (B X : Nat → List Nat) (D : Nat → Nat) : Prop := ∀ k, ∃ t, X k = (B k).take (D k) ++ t ∧ D k + t.length ≤ (B k).length
theorem keep_pre {B : Nat → List Nat} {D : Nat → Nat} (keep : List Int) (hd : ∀ k, D k ≤ (B k).length) : PreN B (keepB B D keep) D := fun k => by
  refine ⟨((B k).drop (D k)).take (lostN (keepAt keep ((filesB B).idxOf k)) ((B k).length - D k)), ?_, ?_⟩
  · unfold keepB; rw [List.take_add]
  · rw [List.length_take, List.length_drop]; have := hd k; omega
theorem flip_pre {B X : Nat → List Nat} {D : Nat → Nat} (flip : Int) (hd : ∀ k, D k ≤ (B k).length) (h : PreN B X D) : PreN B (flipB X D flip) D := by
  unfold flipB
  split
  · split
    · rename_i kk p hf
      intro k
      obtain ⟨t, h1, h2⟩ := h k
      by_cases hk : k = kk
      · subst hk
        have hp := flipK_ge hf
        have hl : ((B k).take (D k)).length = D k := by rw [List.length_take]; have := hd k; omega
        refine ⟨t.set (p / 8 - D k) (flipN (((X k)[p / 8]?).getD 0) p), ?_, by rw [List.length_set]; exact h2⟩
        show setB X k _ k = _
        unfold setB
        rw [if_pos rfl]
        generalize flipN (((X k)[p / 8]?).getD 0) p = c
        rw [h1, List.set_append, if_neg (by omega), hl]
      · refine ⟨t, ?_, h2⟩
        show setB X kk _ k = _
        unfold setB
        rw [if_neg hk]
        exact h1
    · exact h
  · exact h
theorem crash_pre {s : St} (hd : ∀ k, s.D k ≤ (s.B k).length) (keep : List Int) (flip : Int) : PreN s.B (pCrash s keep flip).B s.D := flip_pre flip hd (keep_pre keep hd)

/-- u has what s has durable, and perhaps more behind it. -/
structure DurU (s u : St) : Prop where
  on : u.on = true
  left : u.left = -1
  dur : ∀ k, u.D k = (s.B k).length
  pre : ∀ k, ∃ t, u.B k = s.B k ++ t
structure SyncIs (s u : St) : Prop where
  eq : pSync (pArm s (-1)) = (0, u)
  dur : DurU s u
  B : u.B = s.B
theorem dur_sync {s : St} (h : s.on = true) : ∃ u, SyncIs s u := by
  obtain ⟨on, left, B, D⟩ := s
  have h' : on = true := h
  subst h'
  exact ⟨⟨true, -1, B, fun k => (B k).length⟩, rfl, ⟨rfl, rfl, fun _ => rfl, fun k => ⟨[], (List.append_nil _).symm⟩⟩, rfl⟩
theorem off_sync {s : St} (h : s.on = false) : (pSync (pArm s (-1))).1 = 23 := by
  obtain ⟨on, left, B, D⟩ := s
  have h' : on = false := h
  subst h'
  rfl
structure AppU (K : Nat) (s u : St) (file : Int) (zs : List Nat) (r : Int × St) : Prop where
  eq : pApp K u file zs = r
  dur : DurU s r.2
theorem dur_app {K : Nat} {s u : St} (h : DurU s u) (file : Int) (zs : List Nat) : ∃ r, AppU K s u file zs r := by
  obtain ⟨h1, h2, h3, h4⟩ := h
  obtain ⟨on, left, B, D⟩ := u
  have h1' : on = true := h1
  have h2' : left = -1 := h2
  subst h1' h2'
  by_cases hf : isF file = false
  · exact ⟨(1, ⟨true, -1, B, D⟩), by unfold pApp; rw [if_pos hf], ⟨rfl, rfl, h3, h4⟩⟩
  · by_cases hr : sumB B + zs.length ≤ K
    · refine ⟨(0, ⟨true, -1, setB B file.toNat (B file.toNat ++ zs), D⟩), ?_, ⟨rfl, rfl, h3, fun k => ?_⟩⟩
      · unfold pApp
        rw [if_neg hf, if_neg (fun h => by cases h), if_neg (fun h => h hr)]
        rfl
      · obtain ⟨t, ht⟩ := h4 k
        have ht' : B k = s.B k ++ t := ht
        by_cases hk : k = file.toNat
        · subst hk
          refine ⟨t ++ zs, ?_⟩
          show setB B _ _ _ = _
          unfold setB
          rw [if_pos rfl, ht', List.append_assoc]
        · refine ⟨t, ?_⟩
          show setB B _ _ _ = _
          unfold setB
          rw [if_neg hk]
          exact ht'
    · refine ⟨(22, ⟨true, -1, B, D⟩), ?_, ⟨rfl, rfl, h3, h4⟩⟩
      unfold pApp
      rw [if_neg hf, if_neg (fun h => by cases h), if_pos hr]
/-- What stands behind the crashes: of the copy, and of the disk. -/
structure EndU (s u c d : St) : Prop where
  con : c.on = true
  don : d.on = true
  uon : u.on = true
  same : ∀ k, c.B k = s.B k
  pre : ∀ k, ∃ t, d.B k = s.B k ++ t ∧ (d.B k).length ≤ (u.B k).length
theorem dur_copy {s u : St} (h : SyncIs s u) (keep : List Int) (flip : Int) : (pCrash u keep flip).on = true ∧ ∀ k, (pCrash u keep flip).B k = s.B k := by
  refine ⟨rfl, fun k => ?_⟩
  obtain ⟨t, h1, h2⟩ := crash_pre (s := u) (fun k => by rw [h.dur.dur, h.B]; exact Nat.le_refl _) keep flip k
  rw [h.B, h.dur.dur] at h2
  have h3 : t = [] := List.eq_nil_of_length_eq_zero (by omega)
  rw [h1, h.B, h.dur.dur, List.take_length, h3, List.append_nil]
theorem dur_end {s u : St} (h : DurU s u) {c : St} (hc : c.on = true ∧ ∀ k, c.B k = s.B k) (keep : List Int) (flip : Int) : EndU s u c (pCrash u keep flip) := by
  refine ⟨hc.1, rfl, h.on, hc.2, fun k => ?_⟩
  have hd : ∀ k, u.D k ≤ (u.B k).length := fun k => by
    obtain ⟨t, ht⟩ := h.pre k
    rw [h.dur, ht, List.length_append]; omega
  obtain ⟨t, h1, h2⟩ := crash_pre hd keep flip k
  obtain ⟨x, hx⟩ := h.pre k
  refine ⟨t, ?_, ?_⟩
  · rw [h1, h.dur, hx, List.take_append, List.take_length, Nat.sub_self, List.take_zero, List.append_nil]
  · rw [h1, List.length_append, List.length_take]; omega

theorem elems_takeD {k : IntKind} {w : World} {a : Option Addr} {n cap : Nat} {zs : List Int} (h : Elems k w (.slice a n cap) zs) (hn : n = zs.length) {m : Nat} (hm : m ≤ n) : Elems k w (.slice a m cap) (zs.take m) := by
  obtain ⟨a2, cap2, h1, h2⟩ := h
  injection h1 with h3 h4 h5
  subst h3 h5
  have hl : (zs.take m).length = m := by rw [List.length_take]; omega
  refine ⟨a, cap, by rw [hl], fun hne => ?_⟩
  obtain ⟨b, off, h6, h7⟩ := h2 (fun e => hne (by rw [e, List.take_nil]))
  refine ⟨b, off, h6, fun j hj => ?_⟩
  rw [hl] at hj
  rw [h7 j (by omega), List.getElem?_take_of_lt hj]

structure TwoD (n : Nat) (W : World) (A R : Foot) (d m K : Nat) (s t : St) : Prop where
  dk : Dsk n W A d K s
  rf : Rsk n W R m K t
  ar : ∀ k, A k → ¬ R k
structure ThreeD (n : Nat) (W : World) (A C R : Foot) (d c m K : Nat) (s x t : St) : Prop where
  two : TwoD n W A R d m K s t
  ck : Dsk n W C c K x
  ac : ∀ k, A k → ¬ C k
  cr : ∀ k, C k → ¬ R k
structure FourD (n : Nat) (W : World) (A C E R : Foot) (d c e m K : Nat) (s x y t : St) : Prop where
  three : ThreeD n W A C R d c m K s x t
  ek : Dsk n W E e K y
  ae : ∀ k, A k → ¬ E k
/-- A row of the law's own beside the disk. -/
structure KsIs (W : World) (A : Foot) (v : Value) (l : List Int) : Prop where
  row : Fresh 0 3 .i64 W v l
  away : ∀ j, v.ownBlock = some j → ¬ A j
section
variable {n : Nat} {W W2 : World} {A C E R : Foot} {d c e m K : Nat} {s s2 x y t : St} {v : Value} {l : List Int}
theorem TwoD.below (h : TwoD n W A R d m K s t) (hb : Below W.heap.size W W2) : TwoD n W2 A R d m K s t := ⟨h.dk.below hb, h.rf.below hb, h.ar⟩
theorem ThreeD.below (h : ThreeD n W A C R d c m K s x t) (hb : Below W.heap.size W W2) : ThreeD n W2 A C R d c m K s x t := ⟨h.two.below hb, h.ck.below hb, h.ac, h.cr⟩
theorem FourD.below (h : FourD n W A C E R d c e m K s x y t) (hb : Below W.heap.size W W2) : FourD n W2 A C E R d c e m K s x y t := ⟨h.three.below hb, h.ek.below hb, h.ae⟩
theorem KsIs.below (h : KsIs W A v l) (hb : Below W.heap.size W W2) : KsIs W2 A v l := ⟨own_foot2 h.row (Keeps.of_below hb) (fun j hj hn => by have := (h.row.lt j hj).2; omega), h.away⟩
theorem KsIs.keeps (h : KsIs W A v l) {A2 : Foot} (hk : Keeps A W W2) (hf : ∀ k, A2 k → A k ∨ W.heap.size ≤ k) : KsIs W2 A2 v l := ⟨own_foot2 h.row hk h.away, fun j hj h2 => (hf j h2).elim (h.away j hj) (fun h3 => by have := (h.row.lt j hj).2; omega)⟩
theorem TwoD.stepD (h : TwoD n W A R d m K s t) (hu : UpS W A d K s2 W2) (hn : n ≤ W.heap.size) : ∃ A2, TwoD n W2 A2 R d m K s2 t ∧ Below n W W2 ∧ (∀ k, A2 k → A k ∨ W.heap.size ≤ k) ∧ Keeps A W W2 := by
  obtain ⟨A2, hd, hk, hf, hb⟩ := h.dk.up hu hn
  exact ⟨A2, ⟨hd, h.rf.other hk (fun k h1 h2 => h.ar k h2 h1), fun k h1 h2 => (hf k h1).elim (fun h3 => h.ar k h3 h2) (fun h3 => by have := h.rf.hi k h2; omega)⟩, hb, hf, hk⟩
theorem ThreeD.stepD (h : ThreeD n W A C R d c m K s x t) (hu : UpS W A d K s2 W2) (hn : n ≤ W.heap.size) : ∃ A2, ThreeD n W2 A2 C R d c m K s2 x t ∧ Below n W W2 ∧ (∀ k, A2 k → A k ∨ W.heap.size ≤ k) ∧ Keeps A W W2 := by
  obtain ⟨A2, h2, hb, hf, hk⟩ := h.two.stepD hu hn
  exact ⟨A2, ⟨h2, h.ck.other hk (fun k h1 h3 => h.ac k h3 h1), fun k h1 h3 => (hf k h1).elim (fun h4 => h.ac k h4 h3) (fun h4 => by have := h.ck.hi k h3; omega), h.cr⟩, hb, hf, hk⟩
theorem ThreeD.stepC (h : ThreeD n W A C R d c m K s x t) (hu : UpS W C c K s2 W2) (hn : n ≤ W.heap.size) : ∃ C2, ThreeD n W2 A C2 R d c m K s s2 t ∧ Below n W W2 ∧ (∀ k, C2 k → C k ∨ W.heap.size ≤ k) ∧ Keeps C W W2 := by
  obtain ⟨C2, hd, hk, hf, hb⟩ := h.ck.up hu hn
  exact ⟨C2, ⟨⟨h.two.dk.other hk (fun k h1 h2 => h.ac k h1 h2), h.two.rf.other hk (fun k h1 h2 => h.cr k h2 h1), h.two.ar⟩, hd, fun k h1 h2 => (hf k h2).elim (fun h3 => h.ac k h1 h3) (fun h3 => by have := h.two.dk.hi k h1; omega), fun k h1 h2 => (hf k h1).elim (fun h3 => h.cr k h3 h2) (fun h3 => by have := h.two.rf.hi k h2; omega)⟩, hb, hf, hk⟩
theorem FourD.stepD (h : FourD n W A C E R d c e m K s x y t) (hu : UpS W A d K s2 W2) (hn : n ≤ W.heap.size) : ∃ A2, FourD n W2 A2 C E R d c e m K s2 x y t ∧ Below n W W2 ∧ (∀ k, A2 k → A k ∨ W.heap.size ≤ k) ∧ Keeps A W W2 := by
  obtain ⟨A2, h2, hb, hf, hk⟩ := h.three.stepD hu hn
  exact ⟨A2, ⟨h2, h.ek.other hk (fun k h1 h3 => h.ae k h3 h1), fun k h1 h3 => (hf k h1).elim (fun h4 => h.ae k h4 h3) (fun h4 => by have := h.ek.hi k h3; omega)⟩, hb, hf, hk⟩
theorem three_start {C0 : Foot} (h : TwoD n W A R d m K s t) (hc : DkS W2 C0 c K s) (hC : ∀ k, C0 k → W.heap.size ≤ k) (hb : Below W.heap.size W W2) (hn : n ≤ W.heap.size) : ∃ C, ThreeD n W2 A C R d c m K s s t :=
  ⟨fun k => C0 k ∧ k < W2.heap.size, h.below hb, Dsk.made (n := n) hc hC hn, fun k h1 h2 => by have := h.dk.hi k h1; have := hC k h2.1; omega, fun k h1 h2 => by have := h.rf.hi k h2; have := hC k h1.1; omega⟩
theorem four_start {E0 : Foot} (h : ThreeD n W A C R d c m K s x t) (hc : DkS W2 E0 e K s) (hC : ∀ k, E0 k → W.heap.size ≤ k) (hb : Below W.heap.size W W2) (hn : n ≤ W.heap.size) : ∃ E, FourD n W2 A C E R d c e m K s x s t :=
  ⟨fun k => E0 k ∧ k < W2.heap.size, h.below hb, Dsk.made (n := n) hc hC hn, fun k h1 h2 => by have := h.two.dk.hi k h1; have := hC k h2.1; omega⟩
end
theorem block_own {v : Value} {j : Nat} (h : v.ownBlock = some j) : blockOf v j := by
  cases v with
  | slice a n c =>
    cases a with
    | none => cases h
    | some a => injection h with h; exact h.symm
  | _ => cases h
theorem own_block {v : Value} {j : Nat} (h : blockOf v j) : v.ownBlock = some j := by
  cases v with
  | slice a n c =>
    cases a with
    | none => exact h.elim
    | some a => exact congrArg some (Eq.symm h)
  | _ => exact h.elim

set_option maxHeartbeats 16000000 in
theorem walk_DiskDurable (room : Int) (v : Value) (l : List Int) (v2 : Value) (l2 : List Int) (v3 : Value) (l3 : List Int) (flip : Int) (w : World) (hroom : -9223372036854775808 ≤ room ∧ room ≤ 9223372036854775807) (hv : Row .i64 w v l) (hl : ∀ z ∈ l, -9223372036854775808 ≤ z ∧ z ≤ 9223372036854775807) (hv2 : Row .i64 w v2 l2) (hl2 : ∀ z ∈ l2, -9223372036854775808 ≤ z ∧ z ≤ 9223372036854775807) (hv3 : Row .i64 w v3 l3) (hl3 : ∀ z ∈ l3, -9223372036854775808 ≤ z ∧ z ≤ 9223372036854775807) (hflip : -9223372036854775808 ≤ flip ∧ flip ≤ 9223372036854775807) :
    Calls Try.prog 4 #[.int .i64 room, v, v2, v3, .int .i64 flip] w fun e w' => e = .returned (.bool true) ∧ Below w.heap.size w w' := by
  obtain ⟨a2, cap2, rfl⟩ : ∃ a2 cap2, v2 = .slice a2 l2.length cap2 := by obtain ⟨a, c, h, _⟩ := hv2; exact ⟨a, c, h⟩
  have HRM := Lib.hid hroom
  have HV := Lib.hid hv
  have HL := Lib.hid hl
  have HV2 := Lib.hid hv2
  have HL2 := Lib.hid hl2
  have HV3 := Lib.hid hv3
  have HL3 : Hid (∀ z ∈ l3.take 4, -9223372036854775808 ≤ z ∧ z ≤ 9223372036854775807) := Lib.hid (fun z hz => hl3 z (List.mem_of_mem_take hz))
  have HFL := Lib.hid hflip
  clear hroom hv hl hv2 hl2 hv3 hl3 hflip
  go_enter Try.func4, Try.ntmps4
  go_wp2_with fail
  refine (made_any room v l w HRM.out HV.out HL.out).mono ?_
  rintro e w1 ⟨d, m, A1, R, K, s, rfl, hm, hb⟩
  have T1 : Hid (TwoD w.heap.size w1 A1 R d m K s s) := Lib.hid ⟨hm.dk, hm.rf, hm.sep⟩
  have B1 := Lib.hid hb
  have HK := Lib.hid hm.room.2
  clear hm hb HRM HV HL
  go_wp2_with fail
  refine (armS_any T1.out.dk.dk (-1) (by decide)).mono ?_
  rintro e w2 ⟨rfl, hu⟩
  obtain ⟨A2, ht, hb, -, -⟩ := T1.out.stepD hu B1.out.size
  have T2 := Lib.hid ht
  have B2 := Lib.hid (B1.out.trans hb)
  have hon2 : (pArm s (-1)).on = s.on := rfl
  clear hu ht hb T1 B1
  go_wp2_with fail
  refine (onS_any T2.out.dk.dk).mono ?_
  rintro e w0 ⟨rfl, rfl⟩
  rw [hon2]
  clear hon2
  cases hon : s.on
  · have OFF := Lib.hid (off_sync hon)
    clear hon
    go_wp2_with fail
    refine (syncS_any T2.out.dk.dk).mono ?_
    rintro e w3 ⟨rfl, hu⟩
    rw [OFF.out]
    obtain ⟨A3, ht, hb, -, -⟩ := T2.out.stepD hu B2.out.size
    have B3 := Lib.hid (B2.out.trans hb)
    clear hu ht hb T2 B2 OFF
    go_wp2_with fail
    refine (lives5_any w3).mono ?_
    rintro e w9 ⟨rfl, hb⟩
    have B9 := Lib.hid (below_cut B3.out B3.out.size hb)
    clear hb
    go_wp2_with fail
    go_ret
    exact ⟨rfl, B9.out⟩
  · obtain ⟨u, hu0⟩ := dur_sync hon
    have SY := Lib.hid hu0
    clear hu0 hon
    go_wp2_with fail
    refine (syncS_any T2.out.dk.dk).mono ?_
    rw [SY.out.eq]
    rintro e w3 ⟨rfl, hu⟩
    obtain ⟨A3, ht, hb, -, -⟩ := T2.out.stepD hu B2.out.size
    have T3 := Lib.hid ht
    have B3 := Lib.hid (B2.out.trans hb)
    clear hu ht hb T2 B2
    go_wp2_with fail
    refine (copyS_any T3.out.dk.dk).mono ?_
    rintro e w4 ⟨c, C0, rfl, hc, hC0, hb⟩
    obtain ⟨C4, ht⟩ := three_start T3.out hc hC0 hb B3.out.size
    have T4 := Lib.hid ht
    have B4 := Lib.hid (below_cut B3.out B3.out.size hb)
    clear hc hC0 ht hb T3 B3
    go_wp2_with fail
    refine (refInts_any v3 l3 4 w4 (row_keeps HV3.out B4.out) (by decide)).mono ?_
    rintro e w5 ⟨kv, rfl, hk, hb⟩
    have T5 := Lib.hid (T4.out.below hb)
    have B5 := Lib.hid (below_cut B4.out B4.out.size hb)
    have KC5 : Hid (KsIs w5 C4 kv (l3.take 4)) := Lib.hid ⟨fresh_mono hk (Nat.zero_le _), fun j hj h => by have := (hk.lt j hj).1; have := T4.out.ck.hi j h; omega⟩
    have KA5 : Hid (KsIs w5 A3 kv (l3.take 4)) := Lib.hid ⟨fresh_mono hk (Nat.zero_le _), fun j hj h => by have := (hk.lt j hj).1; have := T4.out.two.dk.hi j h; omega⟩
    clear hk hb T4 B4 HV3
    go_wp2_with fail
    refine (crashS_any T5.out.ck.dk kv (l3.take 4) flip (row_of_fresh KC5.out.row) (fun j hj => KC5.out.away j (own_block hj)) HL3.out HFL.out (by rw [List.length_take]; omega)).mono ?_
    rintro e w6 ⟨rfl, hu⟩
    obtain ⟨C6, ht, hb, -, hk⟩ := T5.out.stepC hu B5.out.size
    have KA6 : Hid (KsIs w6 A3 kv (l3.take 4)) := Lib.hid ⟨own_foot2 KC5.out.row hk KC5.out.away, KA5.out.away⟩
    have CP := Lib.hid (dur_copy SY.out (l3.take 4) flip)
    have T6 := Lib.hid ht
    have B6 := Lib.hid (B5.out.trans hb)
    clear hu ht hb hk T5 KC5 KA5 B5
    generalize pCrash u (l3.take 4) flip = x at *
    have U6 := Lib.hid SY.out.dur
    clear SY
    go_wp2_with fail
    go_loopw [15] (fun s15 wr => ∃ (i : Nat) (u : St) (A : Foot), s15 = .int .i64 (i : Int) ∧ i ≤ l2.length ∧ Hid (DurU s u) ∧ Hid (ThreeD w.heap.size wr A C6 R d c m K u x s) ∧ Hid (KsIs wr A kv (l3.take 4)) ∧ Hid (Below w.heap.size w wr)) (fun s15 _ => l2.length - (intOf s15).toNat)
    case atStart => exact ⟨0, u, A3, rfl, Nat.zero_le _, U6, T6, KA6, B6⟩
    case round =>
      obtain ⟨i, u, A, rfl, hi, U, T, KA, B⟩ := hrel
      clear U6 T6 KA6 B6
      by_cases hlt : i < l2.length ∧ i < 6
      · obtain ⟨h1, h6⟩ := hlt
        obtain ⟨z, hz, hzr⟩ : ∃ z : Int, (∃ b off, a2 = some ⟨b, off, none⟩ ∧ ∀ W, Below w.heap.size w W → W.cell? ⟨b, off + i, none⟩ = some (.int .i64 z)) ∧ -9223372036854775808 ≤ z ∧ z ≤ 9223372036854775807 := by
          refine ⟨l2[i], ?_, HL2.out _ (List.getElem_mem h1)⟩
          obtain ⟨a, c0, he, _, _, hne, _⟩ := HV2.out
          injection he with he _ _
          subst he
          obtain ⟨b, off, hb, _⟩ := hne (fun h => by rw [h] at h1; exact absurd h1 (Nat.not_lt_zero _))
          refine ⟨b, off, hb, fun W hbw => ?_⟩
          obtain ⟨a, c0, he, _, _, hne, _⟩ := row_keeps HV2.out hbw
          injection he with he _ _
          subst he
          obtain ⟨b2, off2, hb2, hc2⟩ := hne (fun h => by rw [h] at h1; exact absurd h1 (Nat.not_lt_zero _))
          rw [hb] at hb2
          injection hb2 with hb2
          injection hb2 with e1 e2
          subst e1 e2
          rw [hc2 i h1, List.getElem?_eq_getElem h1]
          rfl
        obtain ⟨b, off, rfl, hcell⟩ := hz
        have HZ := Lib.hid hcell
        have HZR := Lib.hid hzr
        have hw0 := Int.emod_nonneg z (show (256 : Int) ≠ 0 by decide)
        have hw1 := Int.emod_lt_of_pos z (show (0 : Int) < 256 by decide)
        obtain ⟨z8, hz8⟩ : ∃ z8 : Nat, IntKind.u8.wrap z = (z8 : Int) ∧ z8 < 256 := by
          refine ⟨(z % 256).toNat, ?_, by omega⟩
          rw [Int.toNat_of_nonneg hw0]
          rfl
        have H8 := Lib.hid hz8.2
        have hzw := hz8.1
        clear hcell hw0 hw1 hz8 hzr
        have hi0 : (0 : Int) ≤ (i : Int) := by omega
        have hi1 : (i : Int) < (l2.length : Int) := by omega
        have hi6 : (i : Int) < 6 := by omega
        have S0 : Hid (wr.drew.cell? ⟨b, off + i, none⟩ = some (.int .i64 z)) := Lib.hid (HZ.out _ (below_cut B.out B.out.size (below_drew' wr)))
        have hbx : Below wr.heap.size wr (wr.alloc (.cells #[.int .u8 (z8 : Int), .int .u8 7] 5)).drew := ((Below.refl _ wr).alloc (Nat.le_refl _) _).drew
        have TX := Lib.hid (T.out.below hbx)
        have KX := Lib.hid (KA.out.below hbx)
        have BX := Lib.hid (below_cut B.out B.out.size hbx)
        have SX : Hid ((wr.alloc (.cells #[.int .u8 (z8 : Int), .int .u8 7] 5)).drew.cell? ⟨b, off + i, none⟩ = some (.int .i64 z)) := Lib.hid (HZ.out _ BX.out)
        have SZ : Hid ((wr.alloc (.cells #[.int .u8 (z8 : Int), .int .u8 7] 5)).cell? ⟨b, off + i, none⟩ = some (.int .i64 z)) := Lib.hid (HZ.out _ (below_cut B.out B.out.size ((Below.refl _ wr).alloc (Nat.le_refl _) _)))
        have RX : Hid (Row .u8 (wr.alloc (.cells #[.int .u8 (z8 : Int), .int .u8 7] 5)).drew (.slice (some ⟨wr.heap.size, 0, none⟩) 2 2) (natI [z8, 7])) := Lib.hid (row_keeps (lit_u8 wr [z8, 7] (by simp)) (below_drew' _))
        have H2 : Hid (∀ c ∈ [z8, 7], c < 256) := Lib.hid (fun c hc => by
          rcases List.mem_cons.1 hc with h | h
          · rw [h]; exact H8.out
          · rw [List.mem_singleton.1 h]; decide)
        obtain ⟨r, hr⟩ := dur_app (K := K) U.out (aroundI z 3) [z8, 7]
        have AP := Lib.hid hr
        obtain ⟨rc, u9⟩ := r
        have U9 : Hid (DurU s u9) := Lib.hid hr.dur
        clear hbx hr T KA B U H8
        go_wp2_with fail
        go_region_held3 (fun w' : World => w'.cell? ⟨b, off + i, none⟩ = some (.int .i64 z)) (first | exact S0.out | exact SX.out | exact SZ.out | exact S9.out) (first
          | (go_at_call 8; refine (around_any z 3 _ HZR.out (by decide) (by decide)).mono ?_; rintro e w0 ⟨rfl, rfl⟩)
          | (go_at_call 23; refine (appS_any TX.out.two.dk.dk (aroundI z 3) _ 2 [z8, 7] RX.out H2.out (by simp)).mono ?_; rw [AP.out.eq]; rintro e w9 ⟨rfl, hu⟩; obtain ⟨A9, ht, hb, hf, hk⟩ := TX.out.stepD hu BX.out.size; have T9 := Lib.hid ht; have K9 := Lib.hid (KX.out.keeps hk hf); have B9 := Lib.hid (BX.out.trans hb); have S9 := Lib.hid (HZ.out _ B9.out); clear hu ht hb hf hk TX KX BX RX))
        all_goals
          clear hzw
          go_wp2_with fail
          go_roundw
          case rel => exact ⟨i + 1, u9, A9, by go_num, by omega, U9, T9, K9, B9⟩
          case measure => simp [intOf]; omega
      -- WAYS
      · rcases (show ¬ i < l2.length ∨ (i < l2.length ∧ ¬ i < 6) by omega) with h1 | ⟨h1, h6⟩
        · have q1 : ¬ ((i : Int) < (l2.length : Int)) := by omega
          clear hlt
          go_wp2_with fail
          clear q1 h1
          refine (copyS_any T.out.two.dk.dk).mono ?_
          rintro e w7 ⟨e7, E0, rfl, hc, hC0, hb⟩
          obtain ⟨E, ht⟩ := four_start T.out hc hC0 hb B.out.size
          have T7 := Lib.hid ht
          have K7 := Lib.hid (KA.out.below hb)
          have B7 := Lib.hid (below_cut B.out B.out.size hb)
          clear hc hC0 ht hb T KA B
          go_wp2_with fail
          refine (crashS_any T7.out.three.two.dk.dk kv (l3.take 4) flip (row_of_fresh K7.out.row) (fun j hj => K7.out.away j (own_block hj)) HL3.out HFL.out (by rw [List.length_take]; omega)).mono ?_
          rintro e w8 ⟨rfl, hu⟩
          obtain ⟨A8, ht, hb, -, -⟩ := T7.out.stepD hu B7.out.size
          have T8 := Lib.hid ht
          have B8 := Lib.hid (B7.out.trans hb)
          have EN := Lib.hid (dur_end U.out CP.out (l3.take 4) flip)
          have HVL : Hid (∀ k, (u.B k).length ≤ 51) := Lib.hid (fun k => Nat.le_trans ((dks_ok T7.out.three.two.dk.dk).len k) HK.out)
          clear hu ht hb T7 K7 B7 U CP
          generalize pCrash u (l3.take 4) flip = y at *
          go_wp2_with fail
          go_loopw [17] (fun s17 wr => ∃ (j : Nat), s17 = .int .i64 (j : Int) ∧ j ≤ 4 ∧ Hid (FourD w.heap.size wr A8 C6 E R d c e7 m K y x u s) ∧ Hid (Below w.heap.size w wr)) (fun s17 _ => 4 - (intOf s17).toNat)
          case atStart => exact ⟨0, rfl, by omega, T8, B8⟩
          case round =>
            obtain ⟨j, rfl, hj, T, B⟩ := hrel
            clear T8 B8
            by_cases hlt : j < 4
            · obtain ⟨L, hL⟩ : ∃ L, s.B j = L := ⟨_, rfl⟩
              obtain ⟨Z, hZ⟩ : ∃ Z, y.B j = Z := ⟨_, rfl⟩
              obtain ⟨V, hV⟩ : ∃ V, u.B j = V := ⟨_, rfl⟩
              obtain ⟨tt, htt, hle⟩ := EN.out.pre j
              have hvl := HVL.out j
              rw [hZ, hL] at htt
              rw [hZ, hV] at hle
              rw [hV] at hvl
              have R1 : Hid (pRead x (j : Int) = (0, L)) := Lib.hid (by rw [read_on EN.out.con hlt, EN.out.same, hL])
              have R2 : Hid (pRead y (j : Int) = (0, Z)) := Lib.hid (by rw [read_on EN.out.don hlt, hZ])
              have R3 : Hid (pRead u (j : Int) = (0, V)) := Lib.hid (by rw [read_on EN.out.uon hlt, hV])
              have HLS := Lib.hid hL
              obtain ⟨n1, hn1⟩ : ∃ n, L.length = n := ⟨_, rfl⟩
              obtain ⟨n2, hn2⟩ : ∃ n, Z.length = n := ⟨_, rfl⟩
              obtain ⟨n3, hn3⟩ : ∃ n, V.length = n := ⟨_, rfl⟩
              have hzt : (natI Z).take n1 = natI L := by unfold natI; rw [← List.map_take, htt, ← hn1, List.take_left]
              have hz12 : n1 ≤ n2 := by rw [← hn1, ← hn2, htt, List.length_append]; omega
              rw [hn2, hn3] at hle
              rw [hn3] at hvl
              have HZT := Lib.hid hzt
              have HN1 := Lib.hid hn1
              have HN2 := Lib.hid hn2
              have HN3 := Lib.hid hn3
              clear hL hZ hV htt hzt hn1 hn2 hn3
              have hj0 : (0 : Int) ≤ (j : Int) := by omega
              have hj1 : (j : Int) < 4 := by omega
              have hj2 : (j : Int) < 64 := by omega
              have q21 : ¬ (n2 < n1) := by omega
              have q32 : ¬ (n3 < n2) := by omega
              go_wp2_with fail
              refine (readS_any T.out.three.ck.dk (j : Int)).mono ?_
              rw [R1.out]
              rintro e wa ⟨vx, rfl, hx, hb⟩
              obtain ⟨xa, xc, hxv, hxc, -⟩ := fresh_elems hx
              rw [natI_length, HN1.out] at hxv
              subst hxv
              have X1 := Lib.hid hx
              have Ta := Lib.hid (T.out.below hb)
              have Ba := Lib.hid (below_cut B.out B.out.size hb)
              clear hx hb T B hxc
              go_wp2_with fail
              refine (readS_any Ta.out.three.two.dk.dk (j : Int)).mono ?_
              rw [R2.out]
              rintro e wb ⟨vz, rfl, hz, hb⟩
              obtain ⟨za, zc, hzv, hzc, -⟩ := fresh_elems hz
              rw [natI_length, HN2.out] at hzv hzc
              subst hzv
              have Z1 := Lib.hid hz
              have X2 := Lib.hid (fresh_keeps X1.out hb)
              have Tb := Lib.hid (Ta.out.below hb)
              have Bb := Lib.hid (below_cut Ba.out Ba.out.size hb)
              clear hz hb Ta Ba X1
              have zc1 : (n1 : Int) ≤ (zc : Int) := by omega
              have n10 : (0 : Int) ≤ (n1 : Int) := by omega
              obtain ⟨bb, fb, ad, cp, hr, hA⟩ := Tb.out.three.two.rf.dk
              have c1 := hr.dk.cell 1
              have cb := hr.bcell (show j < 64 by omega)
              have hrow := hr.row j (by omega)
              unfold slV at hrow
              rw [HLS.out, HN1.out] at cb hrow
              simp only [List.getElem?_cons_succ, List.getElem?_cons_zero] at c1
              have M1 := Lib.hid hrow
              clear hr hA hrow
              go_wp2_with fail
              refine (sameBytes_any (.slice xa n1 xc) (.slice (ad j) n1 (cp j)) (natI L) (natI L) wb (Elems.of_fresh X2.out) (Elems.of_fresh M1.out) (by rw [natI_length, HN1.out]; omega) (by rw [natI_length, HN1.out]; omega)).mono ?_
              rintro e wc ⟨rfl, hb⟩
              rw [decide_eq_true (rfl : natI L = natI L)]
              have Z2 := Lib.hid (fresh_keeps Z1.out hb)
              have X3 := Lib.hid (fresh_keeps X2.out hb)
              have Tc := Lib.hid (Tb.out.below hb)
              have Bc := Lib.hid (below_cut Bb.out Bb.out.size hb)
              clear hb Tb Bb X2 Z1 M1 c1 cb
              go_wp2_with fail
              refine (sameBytes_any (.slice za n1 zc) (.slice xa n1 xc) ((natI Z).take n1) (natI L) wc (elems_takeD (Elems.of_fresh Z2.out) (by rw [natI_length, HN2.out]) (by omega)) (Elems.of_fresh X3.out) (by rw [HZT.out, natI_length, HN1.out]; omega) (by rw [natI_length, HN1.out]; omega)).mono ?_
              rintro e wd ⟨rfl, hb⟩
              rw [decide_eq_true HZT.out]
              have Td := Lib.hid (Tc.out.below hb)
              have Bd := Lib.hid (below_cut Bc.out Bc.out.size hb)
              clear hb Tc Bc X3 Z2
              go_wp2_with fail
              refine (readS_any Td.out.ek.dk (j : Int)).mono ?_
              rw [R3.out]
              rintro e we ⟨vv, rfl, hv, hb⟩
              obtain ⟨va, vc, hvv, -, -⟩ := fresh_elems hv
              rw [natI_length, HN3.out] at hvv
              subst hvv
              have Te := Lib.hid (Td.out.below hb)
              have Be := Lib.hid (below_cut Bd.out Bd.out.size hb)
              clear hv hb Td Bd
              go_wp2_with fail
              go_roundw
              case rel => exact ⟨j + 1, by go_num, by omega, Te, Be⟩
              case measure => simp [intOf]; omega
            · obtain rfl : j = 4 := by omega
              go_wp2_with fail
              refine (lives5_any wr).mono ?_
              rintro e w9 ⟨rfl, hb⟩
              have B9 := Lib.hid (below_cut B.out B.out.size hb)
              clear hb
              go_wp2_with fail
              go_ret
              exact ⟨rfl, B9.out⟩
        · have q1 : (i : Int) < (l2.length : Int) := by omega
          have q6 : ¬ ((i : Int) < 6) := by omega
          clear hlt
          go_wp2_with fail
          clear q1 q6 h1 h6
          refine (copyS_any T.out.two.dk.dk).mono ?_
          rintro e w7 ⟨e7, E0, rfl, hc, hC0, hb⟩
          obtain ⟨E, ht⟩ := four_start T.out hc hC0 hb B.out.size
          have T7 := Lib.hid ht
          have K7 := Lib.hid (KA.out.below hb)
          have B7 := Lib.hid (below_cut B.out B.out.size hb)
          clear hc hC0 ht hb T KA B
          go_wp2_with fail
          refine (crashS_any T7.out.three.two.dk.dk kv (l3.take 4) flip (row_of_fresh K7.out.row) (fun j hj => K7.out.away j (own_block hj)) HL3.out HFL.out (by rw [List.length_take]; omega)).mono ?_
          rintro e w8 ⟨rfl, hu⟩
          obtain ⟨A8, ht, hb, -, -⟩ := T7.out.stepD hu B7.out.size
          have T8 := Lib.hid ht
          have B8 := Lib.hid (B7.out.trans hb)
          have EN := Lib.hid (dur_end U.out CP.out (l3.take 4) flip)
          have HVL : Hid (∀ k, (u.B k).length ≤ 51) := Lib.hid (fun k => Nat.le_trans ((dks_ok T7.out.three.two.dk.dk).len k) HK.out)
          clear hu ht hb T7 K7 B7 U CP
          generalize pCrash u (l3.take 4) flip = y at *
          go_wp2_with fail
          go_loopw [17] (fun s17 wr => ∃ (j : Nat), s17 = .int .i64 (j : Int) ∧ j ≤ 4 ∧ Hid (FourD w.heap.size wr A8 C6 E R d c e7 m K y x u s) ∧ Hid (Below w.heap.size w wr)) (fun s17 _ => 4 - (intOf s17).toNat)
          case atStart => exact ⟨0, rfl, by omega, T8, B8⟩
          case round =>
            obtain ⟨j, rfl, hj, T, B⟩ := hrel
            clear T8 B8
            by_cases hlt : j < 4
            · obtain ⟨L, hL⟩ : ∃ L, s.B j = L := ⟨_, rfl⟩
              obtain ⟨Z, hZ⟩ : ∃ Z, y.B j = Z := ⟨_, rfl⟩
              obtain ⟨V, hV⟩ : ∃ V, u.B j = V := ⟨_, rfl⟩
              obtain ⟨tt, htt, hle⟩ := EN.out.pre j
              have hvl := HVL.out j
              rw [hZ, hL] at htt
              rw [hZ, hV] at hle
              rw [hV] at hvl
              have R1 : Hid (pRead x (j : Int) = (0, L)) := Lib.hid (by rw [read_on EN.out.con hlt, EN.out.same, hL])
              have R2 : Hid (pRead y (j : Int) = (0, Z)) := Lib.hid (by rw [read_on EN.out.don hlt, hZ])
              have R3 : Hid (pRead u (j : Int) = (0, V)) := Lib.hid (by rw [read_on EN.out.uon hlt, hV])
              have HLS := Lib.hid hL
              obtain ⟨n1, hn1⟩ : ∃ n, L.length = n := ⟨_, rfl⟩
              obtain ⟨n2, hn2⟩ : ∃ n, Z.length = n := ⟨_, rfl⟩
              obtain ⟨n3, hn3⟩ : ∃ n, V.length = n := ⟨_, rfl⟩
              have hzt : (natI Z).take n1 = natI L := by unfold natI; rw [← List.map_take, htt, ← hn1, List.take_left]
              have hz12 : n1 ≤ n2 := by rw [← hn1, ← hn2, htt, List.length_append]; omega
              rw [hn2, hn3] at hle
              rw [hn3] at hvl
              have HZT := Lib.hid hzt
              have HN1 := Lib.hid hn1
              have HN2 := Lib.hid hn2
              have HN3 := Lib.hid hn3
              clear hL hZ hV htt hzt hn1 hn2 hn3
              have hj0 : (0 : Int) ≤ (j : Int) := by omega
              have hj1 : (j : Int) < 4 := by omega
              have hj2 : (j : Int) < 64 := by omega
              have q21 : ¬ (n2 < n1) := by omega
              have q32 : ¬ (n3 < n2) := by omega
              go_wp2_with fail
              refine (readS_any T.out.three.ck.dk (j : Int)).mono ?_
              rw [R1.out]
              rintro e wa ⟨vx, rfl, hx, hb⟩
              obtain ⟨xa, xc, hxv, hxc, -⟩ := fresh_elems hx
              rw [natI_length, HN1.out] at hxv
              subst hxv
              have X1 := Lib.hid hx
              have Ta := Lib.hid (T.out.below hb)
              have Ba := Lib.hid (below_cut B.out B.out.size hb)
              clear hx hb T B hxc
              go_wp2_with fail
              refine (readS_any Ta.out.three.two.dk.dk (j : Int)).mono ?_
              rw [R2.out]
              rintro e wb ⟨vz, rfl, hz, hb⟩
              obtain ⟨za, zc, hzv, hzc, -⟩ := fresh_elems hz
              rw [natI_length, HN2.out] at hzv hzc
              subst hzv
              have Z1 := Lib.hid hz
              have X2 := Lib.hid (fresh_keeps X1.out hb)
              have Tb := Lib.hid (Ta.out.below hb)
              have Bb := Lib.hid (below_cut Ba.out Ba.out.size hb)
              clear hz hb Ta Ba X1
              have zc1 : (n1 : Int) ≤ (zc : Int) := by omega
              have n10 : (0 : Int) ≤ (n1 : Int) := by omega
              obtain ⟨bb, fb, ad, cp, hr, hA⟩ := Tb.out.three.two.rf.dk
              have c1 := hr.dk.cell 1
              have cb := hr.bcell (show j < 64 by omega)
              have hrow := hr.row j (by omega)
              unfold slV at hrow
              rw [HLS.out, HN1.out] at cb hrow
              simp only [List.getElem?_cons_succ, List.getElem?_cons_zero] at c1
              have M1 := Lib.hid hrow
              clear hr hA hrow
              go_wp2_with fail
              refine (sameBytes_any (.slice xa n1 xc) (.slice (ad j) n1 (cp j)) (natI L) (natI L) wb (Elems.of_fresh X2.out) (Elems.of_fresh M1.out) (by rw [natI_length, HN1.out]; omega) (by rw [natI_length, HN1.out]; omega)).mono ?_
              rintro e wc ⟨rfl, hb⟩
              rw [decide_eq_true (rfl : natI L = natI L)]
              have Z2 := Lib.hid (fresh_keeps Z1.out hb)
              have X3 := Lib.hid (fresh_keeps X2.out hb)
              have Tc := Lib.hid (Tb.out.below hb)
              have Bc := Lib.hid (below_cut Bb.out Bb.out.size hb)
              clear hb Tb Bb X2 Z1 M1 c1 cb
              go_wp2_with fail
              refine (sameBytes_any (.slice za n1 zc) (.slice xa n1 xc) ((natI Z).take n1) (natI L) wc (elems_takeD (Elems.of_fresh Z2.out) (by rw [natI_length, HN2.out]) (by omega)) (Elems.of_fresh X3.out) (by rw [HZT.out, natI_length, HN1.out]; omega) (by rw [natI_length, HN1.out]; omega)).mono ?_
              rintro e wd ⟨rfl, hb⟩
              rw [decide_eq_true HZT.out]
              have Td := Lib.hid (Tc.out.below hb)
              have Bd := Lib.hid (below_cut Bc.out Bc.out.size hb)
              clear hb Tc Bc X3 Z2
              go_wp2_with fail
              refine (readS_any Td.out.ek.dk (j : Int)).mono ?_
              rw [R3.out]
              rintro e we ⟨vv, rfl, hv, hb⟩
              obtain ⟨va, vc, hvv, -, -⟩ := fresh_elems hv
              rw [natI_length, HN3.out] at hvv
              subst hvv
              have Te := Lib.hid (Td.out.below hb)
              have Be := Lib.hid (below_cut Bd.out Bd.out.size hb)
              clear hv hb Td Bd
              go_wp2_with fail
              go_roundw
              case rel => exact ⟨j + 1, by go_num, by omega, Te, Be⟩
              case measure => simp [intOf]; omega
            · obtain rfl : j = 4 := by omega
              go_wp2_with fail
              refine (lives5_any wr).mono ?_
              rintro e w9 ⟨rfl, hb⟩
              have B9 := Lib.hid (below_cut B.out B.out.size hb)
              clear hb
              go_wp2_with fail
              go_ret
              exact ⟨rfl, B9.out⟩
end Go.Proofs.Ytadnbakniibmfaa
