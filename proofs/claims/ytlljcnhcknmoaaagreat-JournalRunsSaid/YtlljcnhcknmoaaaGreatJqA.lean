/-
  The reference's journal over the reference's disk: what Truncate and Append keep of a state; Open; Append.
-/
import Derived.Test.YtlljcnhcknmoaaaGreatJdA
import Derived.Test.YtlljcnhcknmoaaaGreatRdB
import Derived.Deep.RegionHeld3
namespace Go.Proofs.YtlljcnhcknmoaaaGreat
open Go.RowKit Go.Shelf
set_option linter.unusedVariables false
set_option maxRecDepth 100000

theorem sum_setN (g : Nat → Nat) (k a : Nat) : ∀ n, ((List.range n).map fun j => if j = k then a else g j).sum + (if k < n then g k else 0) = (if k < n then a else 0) + ((List.range n).map g).sum
  | 0 => by simp
  | n + 1 => by
    have h := sum_setN g k a n
    rw [List.range_succ, List.map_append, List.map_append, List.sum_append, List.sum_append]
    simp only [List.map_cons, List.map_nil, List.sum_cons, List.sum_nil, Nat.add_zero]
    by_cases h1 : n = k
    · subst h1
      rw [if_neg (Nat.lt_irrefl _), if_neg (Nat.lt_irrefl _)] at h
      rw [if_pos rfl, if_pos (Nat.lt_succ_self _), if_pos (Nat.lt_succ_self _)]
      omega
    · rw [if_neg h1]
      by_cases h2 : k < n
      · rw [if_pos h2, if_pos h2] at h
        rw [if_pos (by omega), if_pos (by omega)]
        omega
      · rw [if_neg h2, if_neg h2] at h
        rw [if_neg (by omega), if_neg (by omega)]
        omega
theorem sumB_set (B : Nat → List Nat) {k : Nat} (hk : k < 64) (x : List Nat) : sumB (setB B k x) + (B k).length = x.length + sumB B := by
  have h := sum_setN (fun j => (B j).length) k x.length 64
  rw [if_pos hk, if_pos hk] at h
  have e : (fun j => (setB B k x j).length) = fun j => if j = k then x.length else (B j).length := by
    funext j; unfold setB; split <;> rfl
  unfold sumB
  rw [e]
  exact h
theorem stok_left {room : Nat} {s : St} (ok : StOk room s) (on : Bool) (x : Int) (hx : x = s.left ∨ x = max (s.left - 1) (-1)) : StOk room ⟨on, x, s.B, s.D⟩ :=
  ⟨ok.sum, ok.room, ok.b8, ok.dur, by have := ok.left; show -1 ≤ x ∧ x ≤ _; omega, ok.far⟩
theorem stok_step {room : Nat} {s : St} (ok : StOk room s) : StOk room (pStep s).2 := by
  unfold pStep
  split
  · exact stok_left ok _ _ (.inr rfl)
  · exact stok_left ok false s.left (.inl rfl)
theorem stok_set {room : Nat} {s : St} (ok : StOk room s) {k : Nat} (hk : k < 64) {x : List Nat} (hx : ∀ c ∈ x, c < 256) (hs : sumB (setB s.B k x) ≤ room) {d : Nat} (hd : d ≤ x.length) {D : Nat → Nat} (hD : ∀ j, D j = if j = k then d else s.D j) (on : Bool) (l : Int) (hl : l = s.left ∨ l = max (s.left - 1) (-1)) :
    StOk room ⟨on, l, setB s.B k x, D⟩ := by
  refine ⟨hs, ok.room, fun j => ?_, fun j => ?_, by have := ok.left; show -1 ≤ l ∧ l ≤ _; omega, fun j hj => ?_⟩
  · show ∀ c ∈ (if j = k then x else s.B j), c < 256
    split
    · exact hx
    · exact ok.b8 j
  · show D j ≤ (if j = k then x else s.B j).length
    rw [hD]
    split
    · exact hd
    · exact ok.dur j
  · show (if j = k then x else s.B j) = []
    rw [if_neg (by omega)]
    exact ok.far j hj
theorem dur_id (s : St) (k : Nat) (j : Nat) : s.D j = if j = k then s.D k else s.D j := by
  split
  · rename_i h; rw [h]
  · rfl
theorem stok_trunc {room : Nat} {s : St} (ok : StOk room s) (file size : Int) : StOk room (pTrunc s file size).2 := by
  unfold pTrunc
  split
  · exact ok
  · rename_i h
    have h := Decidable.not_not.1 h
    have hf : 0 ≤ file ∧ file < 64 := by have := h.1; unfold isF at this; exact of_decide_eq_true this
    have hk : file.toNat < 64 := by omega
    split
    · refine stok_set ok hk (fun c hc => ok.b8 _ c (List.mem_of_mem_take hc)) ?_ (d := min (s.D file.toNat) size.toNat) ?_ (fun j => rfl) _ _ (.inr rfl)
      · have h1 := sumB_set s.B hk ((s.B file.toNat).take size.toNat)
        have h2 := ok.sum
        rw [List.length_take] at h1
        omega
      · rw [List.length_take]
        have := ok.dur file.toNat
        omega
    · exact stok_left ok false s.left (.inl rfl)
theorem stok_app {room : Nat} {s : St} (ok : StOk room s) (file : Int) {zs : List Nat} (h8 : ∀ c ∈ zs, c < 256) : StOk room (pApp room s file zs).2 := by
  unfold pApp
  split
  · exact ok
  · rename_i hf
    split
    · exact ok
    · split
      · exact ok
      · rename_i hr
        have hf2 : 0 ≤ file ∧ file < 64 := by
          have : isF file = true := by cases h : isF file; exact absurd h hf; rfl
          unfold isF at this; exact of_decide_eq_true this
        have hk : file.toNat < 64 := by omega
        refine stok_step (s := { s with B := setB s.B file.toNat (s.B file.toNat ++ zs) }) ?_
        refine stok_set ok hk (fun c hc => (List.mem_append.1 hc).elim (ok.b8 _ c) (h8 c)) ?_ (d := s.D file.toNat) ?_ (dur_id s file.toNat) _ _ (.inl rfl)
        · have h1 := sumB_set s.B hk (s.B file.toNat ++ zs)
          rw [List.length_append] at h1
          omega
        · rw [List.length_append]
          have := ok.dur file.toNat
          omega
theorem stok_sync {room : Nat} {s : St} (ok : StOk room s) : StOk room (pSync s).2 := by
  unfold pSync
  split
  · exact ⟨ok.sum, ok.room, ok.b8, fun k => Nat.le_refl _, by have := ok.left; show -1 ≤ max (s.left - 1) (-1) ∧ max (s.left - 1) (-1) ≤ _; omega, ok.far⟩
  · exact stok_left ok false s.left (.inl rfl)

/-- The reference's log in memory. -/
def Jr (W : World) (r m : Nat) (file : Int) (n : Nat) (down : Bool) : Prop := Laid W r 44 [.pointer (some ⟨m, 0, none⟩), .int .i64 file, .int .i64 (n : Int), .bool down]
/-- Behind Open of the reference: its disk in the state r.2.1, in the blocks where it was. -/
structure OpenRIs (n : Nat) (w : World) (R : Foot) (m room : Nat) (file : Int) (r : Int × St × List (List Nat)) (w' : World) (lv rv : Value) (us : List Value) : Prop where
  rk : Rsk n w' R m room r.2.1
  keeps : Keeps R w w'
  own : LOwn w.heap.size w' rv us r.2.2
  bad : r.1 ≠ 0 → lv = .pointer none
  good : r.1 = 0 → ∃ g, lv = .pointer (some ⟨g, 0, none⟩) ∧ Jr w' g m file r.2.2.length false ∧ w.heap.size ≤ g ∧ g < w'.heap.size
def OpenREnd (n : Nat) (w : World) (R : Foot) (m room : Nat) (file : Int) (r : Int × St × List (List Nat)) (e : Ending) (w' : World) : Prop :=
  ∃ lv rv us, e = .returned (.tuple #[lv, rv, .int .i64 r.1]) ∧ OpenRIs n w R m room file r w' lv rv us
theorem openr_nothing {n : Nat} {w w' : World} {R : Foot} {m room : Nat} {file c : Int} {s : St} (hd : Rsk n w' R m room s) (hk : Keeps R w w') (hc : c ≠ 0) :
    OpenREnd n w R m room file (c, s, []) (.returned (.tuple #[.pointer none, .slice none 0 0, .int .i64 c])) w' :=
  ⟨_, _, [], rfl, ⟨hd, hk, lown_nil _ _, fun _ => rfl, fun h => absurd h hc⟩⟩

/-- A disk whose blocks stay where they are. -/
structure RkIs (n : Nat) (w w' : World) (R : Foot) (m bb fb room : Nat) (ad : Nat → Option Addr) (cp : Nat → Nat) (s : St) : Prop where
  rf : Rf w' m bb fb room (!s.on) (planS s) s.B s.D ad cp
  keeps : Keeps (fun g => g = m ∨ g = bb ∨ g = fb) w w'
theorem RkIs.rsk {n : Nat} {w w' : World} {R : Foot} {m bb fb room : Nat} {ad : Nat → Option Addr} {cp : Nat → Nat} {s s0 : St} (h : RkIs n w w' R m bb fb room ad cp s) (h0 : Rsk n w R m room s0) (hA : ∀ g, rfFoot m bb fb ad g → R g) : Rsk n w' R m room s :=
  ⟨⟨bb, fb, ad, cp, h.rf, hA⟩, h0.lo, fun k hk => Nat.lt_of_lt_of_le (h0.hi k hk) h.keeps.size⟩
theorem RkIs.all {n : Nat} {w w' : World} {R : Foot} {m bb fb room : Nat} {ad : Nat → Option Addr} {cp : Nat → Nat} {s : St} (h : RkIs n w w' R m bb fb room ad cp s) (hA : ∀ g, rfFoot m bb fb ad g → R g) : Keeps R w w' :=
  h.keeps.mono (fun g _ hg => hg.elim (fun e => hA g (.inl e)) (fun h => h.elim (fun e => hA g (.inr (.inl e))) (fun e => hA g (.inr (.inr (.inl e))))))
theorem RkIs.next {n : Nat} {w w1 w2 : World} {R : Foot} {m bb fb room : Nat} {ad : Nat → Option Addr} {cp : Nat → Nat} {s : St} {r : Int × St} {e : Ending} (h : RkIs n w w1 R m bb fb room ad cp s) (hr : ResK m bb fb room ad cp w1 r e w2) : RkIs n w w2 R m bb fb room ad cp r.2 :=
  ⟨hr.2.1, h.keeps.trans hr.2.2⟩
theorem RkIs.below {n : Nat} {w w1 w2 : World} {R : Foot} {m bb fb room : Nat} {ad : Nat → Option Addr} {cp : Nat → Nat} {s : St} (h : RkIs n w w1 R m bb fb room ad cp s) (hb : Below w1.heap.size w1 w2) : RkIs n w w2 R m bb fb room ad cp s :=
  ⟨h.rf.below hb, h.keeps.trans (Keeps.of_below_size hb)⟩

/-- The records of a scan of the disk's own bytes. -/
structure JRec (B : Nat) (w : World) (m bb fb : Nat) (v : Value) (us : List Value) (xs : List (List Nat)) : Prop where
  own : LOwn B w v us xs
  row : ∀ k, v.ownBlock = some k → k ≠ m ∧ k ≠ bb ∧ k ≠ fb
  els : ∀ y ∈ us, ∀ k, blockOf y k → k ≠ m ∧ k ≠ bb ∧ k ≠ fb
theorem JRec.next {B : Nat} {w w2 : World} {m bb fb room : Nat} {ad : Nat → Option Addr} {cp : Nat → Nat} {v : Value} {us : List Value} {xs : List (List Nat)} {r : Int × St} {e : Ending} (h : JRec B w m bb fb v us xs) (hr : ResK m bb fb room ad cp w r e w2) : JRec B w2 m bb fb v us xs :=
  ⟨lown_foot h.own hr.2.2 (fun k hk hg => by have := h.row k hk; rcases hg with e | e | e <;> omega) (fun y hy k hk hg => by have := h.els y hy k hk; rcases hg with e | e | e <;> omega), h.row, h.els⟩
theorem JRec.below {B : Nat} {w w2 : World} {m bb fb : Nat} {v : Value} {us : List Value} {xs : List (List Nat)} (h : JRec B w m bb fb v us xs) (hb : Below w.heap.size w w2) : JRec B w2 m bb fb v us xs :=
  ⟨lown_below h.own hb, h.row, h.els⟩

theorem openr_good {n : Nat} {w w3 : World} {R : Foot} {m bb fb room : Nat} {ad : Nat → Option Addr} {cp : Nat → Nat} {s : St} {file : Int} {y : Int × St} {P : Int × St × List (List Nat)} {ua : Option Addr} {uc : Nat} {us : List Value} {xs : List (List Nat)}
    (hP : P = if y.1 ≠ 0 then (y.1, y.2, []) else (0, y.2, xs)) (hy : y.1 = 0) (K : RkIs n w w3 R m bb fb room ad cp y.2) (J : JRec w.heap.size w3 m bb fb (.slice ua us.length uc) us xs) (hl : us.length = xs.length) (h0 : Rsk n w R m room s) (hA : ∀ g, rfFoot m bb fb ad g → R g) :
    OpenREnd n w R m room file P (.returned (.tuple #[.pointer (some ⟨w3.heap.size, 0, none⟩), .slice ua us.length uc, .int .i64 0])) (w3.alloc (.cells #[.pointer (some ⟨m, 0, none⟩), .int .i64 file, .int .i64 (us.length : Int), .bool false] 44)) := by
  rw [if_neg (fun h => h hy)] at hP
  rw [hP]
  have hba : Below w3.heap.size w3 (w3.alloc (.cells #[.pointer (some ⟨m, 0, none⟩), .int .i64 file, .int .i64 (us.length : Int), .bool false] 44)) := (Below.refl _ w3).alloc (Nat.le_refl _) _
  refine ⟨_, _, us, rfl, ⟨(K.below hba).rsk h0 hA, (K.below hba).all hA, (J.below hba).own, fun h => absurd rfl h, fun _ => ⟨w3.heap.size, rfl, ?_, K.keeps.size, by simp⟩⟩⟩
  show Laid _ _ _ _
  rw [← hl]
  exact Laid.new w3 _ _

set_option maxHeartbeats 8000000 in
theorem openR_any {n : Nat} {w : World} {R : Foot} {m room : Nat} {s : St} (h : Rsk n w R m room s) (hn : n ≤ w.heap.size) (ok : StOk room s) {k : Nat} (hk : k < 64) (hroom : room ≤ 100000) :
    Calls Tryz.prog 8 #[.pointer (some ⟨m, 0, none⟩), .int .i64 (k : Int)] w (OpenREnd n w R m room (k : Int) (pOpen s (k : Int))) := by
  have HR := Lib.hid h
  have HN := Lib.hid hn
  have HOK := Lib.hid ok
  obtain ⟨bb, fb, ad, cp, hr, hA⟩ := h.dk
  have HA := Lib.hid hA
  have c1 := hr.dk.cell 1
  have c3 := hr.dk.cell 3
  simp only [List.getElem?_cons_succ, List.getElem?_cons_zero] at c1 c3
  have HF : isF (k : Int) = true := isF_true (by omega)
  cases hon : s.on with
  | false =>
    have hrd : pRead s (k : Int) = (23, []) := by
      unfold pRead
      rw [HF, hon, if_neg (by decide), if_pos rfl]
    have hpo : pOpen s (k : Int) = (23, s, []) := by
      unfold pOpen
      rw [hrd, if_pos (by decide)]
    rw [hpo]
    rw [hon] at c3
    simp only [Bool.not_false] at c3
    clear hr hA ok hn h hpo hrd hon HF
    go_enter Tryz.func8, Tryz.ntmps8
    go_wp2_with fail
    refine bodyPost_ret (v := .tuple #[.pointer none, .slice none 0 0, .int .i64 23]) (by simp [results, Tryz.results8, go_sem]) rfl ?_
    exact openr_nothing HR.out (Keeps.refl _ _) (by decide)
  | true =>
    have hrd : pRead s (k : Int) = (0, s.B k) := by
      unfold pRead
      rw [HF, hon, if_neg (by decide), if_neg (by decide), Int.toNat_natCast]
    have HPO : Hid (pOpen s (k : Int) = if (pCutTo s (k : Int) (s.B k).length (scanSize (s.B k))).1 ≠ 0 then ((pCutTo s (k : Int) (s.B k).length (scanSize (s.B k))).1, (pCutTo s (k : Int) (s.B k).length (scanSize (s.B k))).2, []) else
        if (pSync (pCutTo s (k : Int) (s.B k).length (scanSize (s.B k))).2).1 ≠ 0 then ((pSync (pCutTo s (k : Int) (s.B k).length (scanSize (s.B k))).2).1, (pSync (pCutTo s (k : Int) (s.B k).length (scanSize (s.B k))).2).2, []) else
        (0, (pSync (pCutTo s (k : Int) (s.B k).length (scanSize (s.B k))).2).2, scanRecs (s.B k))) := by
      refine Lib.hid ?_
      conv => lhs; unfold pOpen
      rw [hrd, if_neg (fun h => h rfl)]
    rw [hon] at c3
    simp only [Bool.not_true] at c3
    have cb := hr.bcell hk
    have hrow := hr.row k hk
    have hlen : (s.B k).length ≤ 100000 := Nat.le_trans (ok.len k) hroom
    have hsl : scanSize (s.B k) ≤ (s.B k).length := (scanP_sum (s.B k).length 0 (s.B k) (Nat.le_refl _)).1
    have hown := hr.own k hk
    have hpl : PlainS (slV ad cp s.B k) := by
      rcases fresh_form hrow with ⟨hv, _⟩ | ⟨g, cap, hv, _⟩
      · exact .inl hv
      · exact .inr ⟨_, _, _, _, hv⟩
    have hblk : ∀ j, blockOf (slV ad cp s.B k) j → (slV ad cp s.B k).ownBlock = some j := by
      rcases fresh_form hrow with ⟨hv, _⟩ | ⟨g, cap, hv, _⟩
      · rw [hv]; intro j hj; exact hj.elim
      · rw [hv]; intro j hj; exact congrArg some (Eq.symm hj)
    have HSC : Hid (Calls Tryz.prog 26 #[.slice (ad k) (s.B k).length (cp k)] w (ScanOwn (slV ad cp s.B k) (s.B k) w)) :=
      Lib.hid (refScan_own (slV ad cp s.B k) (s.B k) w (row_of_fresh hrow) hpl (ok.b8 k) (fresh_block hrow) hlen)
    have HOWN := Lib.hid hown
    have HBLK := Lib.hid hblk
    have HLO : Hid (m < w.heap.size ∧ bb < w.heap.size ∧ fb < w.heap.size) := Lib.hid ⟨hr.dk.lt, hr.bt.lt, hr.ft.lt⟩
    have HK0 : Hid (RkIs n w w R m bb fb room ad cp s) := Lib.hid ⟨hr, Keeps.refl _ _⟩
    have HSV : Hid (slV ad cp s.B k = .slice (ad k) (s.B k).length (cp k)) := Lib.hid rfl
    have HBC : Hid (∀ W, Rf W m bb fb room (!s.on) (planS s) s.B s.D ad cp → W.cell? ⟨m, 1, none⟩ = some (.slice (some ⟨bb, 0, none⟩) 64 64) ∧ W.cell? ⟨bb, k, none⟩ = some (.slice (ad k) (s.B k).length (cp k))) :=
      Lib.hid (fun W hW => ⟨by have := hW.dk.cell 1; simpa only [List.getElem?_cons_succ, List.getElem?_cons_zero] using this, hW.bcell hk⟩)
    have hk0 : (0 : Int) ≤ (k : Int) := by omega
    have hk1 : (k : Int) < 64 := by omega
    clear hr hA ok hn h hrd hrow hown hpl hblk hon HF hroom
    generalize slV ad cp s.B k = v0 at *
    generalize hL : s.B k = l at *
    generalize ad k = a0 at *
    generalize cp k = c0 at *
    generalize hss : scanSize l = sz at *
    go_enter Tryz.func8, Tryz.ntmps8
    go_wp2_with fail
    refine HSC.out.mono ?_
    rintro e w1 ⟨u, us, rfl, hl, hb, hel⟩
    obtain ⟨ua, uc, rfl⟩ : ∃ ua uc, u = .slice ua us.length uc := by
      rcases hl.own.2 with ⟨h1, h2⟩ | ⟨g, cap, cur, h1, _⟩
      · exact ⟨none, 0, by rw [h1, h2]⟩
      · exact ⟨_, cap, h1⟩
    have hsz : ((scanP 0 l).map Prod.snd).sum = sz := hss
    rw [hsz]
    have K1 := Lib.hid (HK0.out.below hb)
    have J1 : Hid (JRec w.heap.size w1 m bb fb (.slice ua us.length uc) us (scanRecs l)) := Lib.hid ⟨hl, fun k hk => by have := (hl.own.lt k hk).1; have := HLO.out; omega, fun y hy k hk => HOWN.out k (HBLK.out k (hel y hy k hk))⟩
    have HRL : Hid (us.length = (scanRecs l).length) := Lib.hid hl.len
    have B1 := Lib.hid hb.size
    obtain ⟨b1, b2⟩ := HBC.out w1 K1.out.rf
    have hl100 : l.length ≤ 100000 := hlen
    clear hl hb hel hsz hss HSC HK0 cb c1 c3
    by_cases hc : sz < l.length
    · have hpc : pCutTo s (k : Int) l.length sz = pTrunc s (k : Int) (sz : Int) := by unfold pCutTo; rw [if_pos hc]
      rw [hpc] at HPO
      clear hpc
      have hlc : ¬ l.length ≤ sz := by omega
      go_wp2_with fail
      refine (truncK_any K1.out.rf HOK.out (k : Int) (sz : Int)).mono ?_
      rintro e w2 hres
      obtain rfl := hres.1
      have K2 := Lib.hid (K1.out.next hres)
      have J2 := Lib.hid (J1.out.next hres)
      have OK2 := Lib.hid (stok_trunc HOK.out (k : Int) (sz : Int))
      clear hres J1 b1 b2
      generalize pTrunc s (k : Int) (sz : Int) = t at *
      by_cases ht : t.1 = 0
      · have HPO2 : Hid (pOpen s (k : Int) = if (pSync t.2).1 ≠ 0 then ((pSync t.2).1, (pSync t.2).2, []) else (0, (pSync t.2).2, scanRecs l)) := Lib.hid (by rw [HPO.out, if_neg (fun h => h ht)])
        rw [ht]
        clear HPO
        go_wp2_with fail
        refine (syncK_any K2.out.rf OK2.out).mono ?_
        rintro e w3 hres
        obtain rfl := hres.1
        have K3 := Lib.hid (K2.out.next hres)
        have J3 := Lib.hid (J2.out.next hres)
        clear hres
        generalize pSync t.2 = y at *
        by_cases hy : y.1 = 0
        · rw [hy]
          go_wp2_with fail
          refine bodyPost_ret (v := .tuple #[.pointer (some ⟨w3.heap.size, 0, none⟩), .slice ua us.length uc, .int .i64 0]) (by simp [results, Tryz.results8, go_sem]) rfl ?_
          exact openr_good HPO2.out hy K3.out J3.out HRL.out HR.out HA.out
        · generalize hyc : y.1 = c at *
          go_wp2_with fail
          refine bodyPost_ret (v := .tuple #[.pointer none, .slice none 0 0, .int .i64 c]) (by simp [results, Tryz.results8, go_sem]) rfl ?_
          have hpo := HPO2.out
          rw [if_pos hy] at hpo
          rw [hpo]
          exact openr_nothing (K3.out.rsk HR.out HA.out) (K3.out.all HA.out) hy
      · generalize htc : t.1 = c at *
        go_wp2_with fail
        refine bodyPost_ret (v := .tuple #[.pointer none, .slice none 0 0, .int .i64 c]) (by simp [results, Tryz.results8, go_sem]) rfl ?_
        have hpo := HPO.out
        rw [if_pos ht] at hpo
        rw [hpo]
        exact openr_nothing (K2.out.rsk HR.out HA.out) (K2.out.all HA.out) ht
    · have hpc : pCutTo s (k : Int) l.length sz = (0, s) := by unfold pCutTo; rw [if_neg hc]
      rw [hpc] at HPO
      have HPO2 : Hid (pOpen s (k : Int) = if (pSync s).1 ≠ 0 then ((pSync s).1, (pSync s).2, []) else (0, (pSync s).2, scanRecs l)) := Lib.hid (by rw [HPO.out, if_neg (fun h => h rfl)])
      have hlc : l.length ≤ sz := by omega
      clear hpc HPO
      go_wp2_with fail
      refine (syncK_any K1.out.rf HOK.out).mono ?_
      rintro e w3 hres
      obtain rfl := hres.1
      have K3 := Lib.hid (K1.out.next hres)
      have J3 := Lib.hid (J1.out.next hres)
      clear hres b1 b2
      generalize pSync s = y at *
      by_cases hy : y.1 = 0
      · rw [hy]
        go_wp2_with fail
        refine bodyPost_ret (v := .tuple #[.pointer (some ⟨w3.heap.size, 0, none⟩), .slice ua us.length uc, .int .i64 0]) (by simp [results, Tryz.results8, go_sem]) rfl ?_
        exact openr_good HPO2.out hy K3.out J3.out HRL.out HR.out HA.out
      · generalize hyc : y.1 = c at *
        go_wp2_with fail
        refine bodyPost_ret (v := .tuple #[.pointer none, .slice none 0 0, .int .i64 c]) (by simp [results, Tryz.results8, go_sem]) rfl ?_
        have hpo := HPO2.out
        rw [if_pos hy] at hpo
        rw [hpo]
        exact openr_nothing (K3.out.rsk HR.out HA.out) (K3.out.all HA.out) hy

structure AppRIs (n : Nat) (w : World) (R : Foot) (m room : Nat) (file : Int) (r : Nat) (q : Int × St × Lg) (w' : World) (R2 : Foot) : Prop where
  rk : Rsk n w' R2 m room q.2.1
  lg : Jr w' r m file q.2.2.n (!q.2.2.up)
  keeps : Keeps (fun k => R k ∨ k = r) w w'
  foot : ∀ k, R2 k → R k ∨ w.heap.size ≤ k
  far : ¬ R2 r
def LogREnd (n : Nat) (w : World) (R : Foot) (m room : Nat) (file : Int) (r : Nat) (q : Int × St × Lg) (e : Ending) (w' : World) : Prop :=
  e = .returned (.int .i64 q.1) ∧ ∃ R2, AppRIs n w R m room file r q w' R2
/-- A log and its disk's blocks behind some steps of an Append. -/
structure LrIs (n : Nat) (w : World) (R : Foot) (m room : Nat) (file : Int) (r k : Nat) (down : Bool) (s : St) (w' : World) (R2 : Foot) : Prop where
  rk : Rsk n w' R2 m room s
  lg : Jr w' r m file k down
  keeps : Keeps (fun k => R k ∨ k = r) w w'
  foot : ∀ k, R2 k → R k ∨ w.heap.size ≤ k
  far : ¬ R2 r
section
variable {n : Nat} {w w1 w2 : World} {R R2 : Foot} {m room : Nat} {file : Int} {r k : Nat} {down : Bool} {s s2 : St}
theorem LrIs.below (h : LrIs n w R m room file r k down s w1 R2) (hb : Below w1.heap.size w1 w2) : LrIs n w R m room file r k down s w2 R2 :=
  ⟨h.rk.below hb, Laid.below h.lg hb, h.keeps.trans (Keeps.of_below_size hb), h.foot, h.far⟩
theorem LrIs.up (h : LrIs n w R m room file r k down s w1 R2) (hn : n ≤ w.heap.size) (hr : r < w.heap.size) (hu : UpR w1 R2 m room s2 w2) : ∃ R3, LrIs n w R m room file r k down s2 w2 R3 := by
  obtain ⟨R3, hd, hk, hf, _⟩ := h.rk.up hu (Nat.le_trans hn h.keeps.size)
  have hs := h.keeps.size
  refine ⟨R3, hd, Laid.keeps h.lg hk h.far, keeps_cut ((h.keeps.mono (fun k _ h => .inl h)).trans (hk.mono (fun j _ hj => (h.foot j hj).imp .inl id))), fun j hj => (hf j hj).elim (h.foot j) (fun h => .inr (by omega)), fun hA => ?_⟩
  rcases hf r hA with h1 | h1
  · exact h.far h1
  · omega
theorem LrIs.setD (h : LrIs n w R m room file r k down s w1 R2) (b : Bool) : LrIs n w R m room file r k b s (w1.setCell ⟨r, 3, none⟩ (.bool b)) R2 :=
  ⟨h.rk.other (keeps_set w1 r 3 _) (fun j hj e => h.far (e ▸ hj)), Laid.set h.lg 3 _, h.keeps.trans ((keeps_set w1 r 3 _).mono (fun j _ e => .inr e)), h.foot, h.far⟩
theorem LrIs.setN (h : LrIs n w R m room file r k down s w1 R2) : LrIs n w R m room file r (k + 1) down s (w1.setCell ⟨r, 2, none⟩ (.int .i64 ((k + 1 : Nat) : Int))) R2 :=
  ⟨h.rk.other (keeps_set w1 r 2 _) (fun j hj e => h.far (e ▸ hj)), Laid.set h.lg 2 _, h.keeps.trans ((keeps_set w1 r 2 _).mono (fun j _ e => .inr e)), h.foot, h.far⟩
theorem LrIs.cells (h : LrIs n w R m room file r k down s w1 R2) : w1.cell? ⟨r, 0, none⟩ = some (.pointer (some ⟨m, 0, none⟩)) ∧ w1.cell? ⟨r, 1, none⟩ = some (.int .i64 file) ∧ w1.cell? ⟨r, 2, none⟩ = some (.int .i64 (k : Int)) :=
  ⟨Laid.cell h.lg 0, Laid.cell h.lg 1, Laid.cell h.lg 2⟩
theorem log_bad {c : Int} (h : LrIs n w R m room file r k (c == 23) s w1 R2) : LogREnd n w R m room file r (c, s, ⟨k, c != 23⟩) (.returned (.int .i64 c)) w1 :=
  ⟨rfl, R2, h.rk, by show Jr w1 r m file k (!(c != 23)); rw [bne, Bool.not_not]; exact h.lg, h.keeps, h.foot, h.far⟩
end

set_option maxHeartbeats 8000000 in
theorem logR_any {n : Nat} {w : World} {R : Foot} {m room : Nat} {s : St} (h : Rsk n w R m room s) (hn : n ≤ w.heap.size) (ok : StOk room s) {r : Nat} {file : Int} {g : Lg} (hl : Jr w r m file g.n (!g.up)) (hr : ¬ R r) (hg : g.n ≤ 1000000)
    {v : Value} {bs : List Nat} (hv : Row .u8 w v (natI bs)) (h8 : ∀ c ∈ bs, c < 256) (hvb : ∀ j, blockOf v j → j < w.heap.size) (hlen : bs.length ≤ 200000) :
    Calls Tryz.prog 16 #[.pointer (some ⟨r, 0, none⟩), v] w (LogREnd n w R m room file r (pLog room s file g bs)) := by
  have HN := Lib.hid hn
  have HOK := Lib.hid ok
  have HV := Lib.hid hv
  have H8 := Lib.hid h8
  have HG := Lib.hid hg
  have HRL := Lib.hid (show r < w.heap.size from hl.lt)
  have L0 : Hid (LrIs n w R m room file r g.n (!g.up) s w R) := Lib.hid ⟨h, hl, Keeps.refl _ _, fun k hk => .inl hk, hr⟩
  obtain ⟨va, vc, rfl, _⟩ := hv
  rw [natI_length] at HV hvb ⊢
  have c3 := hl.cell 3
  simp only [List.getElem?_cons_succ, List.getElem?_cons_zero] at c3
  clear h hn ok hl hr hg h8
  by_cases hlong : 65536 < bs.length
  · have hq : pLog room s file g bs = (4, s, g) := log_long hlong
    rw [hq]
    clear hq hvb
    go_enter Tryz.func16, Tryz.ntmps16
    go_wp2_with fail
    go_ret
    exact ⟨rfl, R, L0.out.rk, L0.out.lg, L0.out.keeps, L0.out.foot, L0.out.far⟩
  by_cases hup : g.up = false
  · have hq : pLog room s file g bs = (23, s, g) := by unfold pLog; rw [if_neg hlong, if_pos hup]
    rw [hq]
    rw [hup] at c3
    simp only [Bool.not_false] at c3
    clear hq hvb hup
    go_enter Tryz.func16, Tryz.ntmps16
    go_wp2_with fail
    go_ret
    exact ⟨rfl, R, L0.out.rk, L0.out.lg, L0.out.keeps, L0.out.foot, L0.out.far⟩
  have hup2 : g.up = true := by cases hq : g.up; exact absurd hq hup; rfl
  rw [hup2] at c3 L0
  simp only [Bool.not_true] at c3 L0
  have HFL : Hid ((frameN (g.n : Int) bs).length ≤ 16777216) := Lib.hid (by have := frameN_len (n := (g.n : Int)) (b := bs) (by have := HG.out; omega) (by omega); omega)
  have HQ : Hid (pLog room s file g bs = if (pApp room s file (frameN (g.n : Int) bs)).1 ≠ 0 then ((pApp room s file (frameN (g.n : Int) bs)).1, (pApp room s file (frameN (g.n : Int) bs)).2, ⟨g.n, (pApp room s file (frameN (g.n : Int) bs)).1 != 23⟩) else
      if (pSync (pApp room s file (frameN (g.n : Int) bs)).2).1 ≠ 0 then ((pSync (pApp room s file (frameN (g.n : Int) bs)).2).1, (pSync (pApp room s file (frameN (g.n : Int) bs)).2).2, ⟨g.n, (pSync (pApp room s file (frameN (g.n : Int) bs)).2).1 != 23⟩) else
      (0, (pSync (pApp room s file (frameN (g.n : Int) bs)).2).2, ⟨g.n + 1, true⟩)) := by
    refine Lib.hid ?_
    conv => lhs; unfold pLog
    rw [if_neg hlong, if_neg hup]
  have HDR : Hid (Below w.heap.size w w.drew) := Lib.hid (Below.refl _ w).drew
  have L1 := Lib.hid (L0.out.below HDR.out)
  have HS1 := Lib.hid L1.out.cells
  have HV1 := Lib.hid (row_keeps HV.out HDR.out)
  have HOK2 := Lib.hid (stok_app HOK.out file (frameN_lt (n := (g.n : Int)) H8.out))
  have HFR : Hid (Calls Tryz.prog 39 #[.int .i64 (g.n : Int), .slice va bs.length vc] w.drew (Copies 5 .u8 (natI (frameN (g.n : Int) bs)) w.drew)) :=
    Lib.hid (refFrame_any (g.n : Int) (.slice va bs.length vc) bs w.drew (by have := HG.out; omega) HV1.out H8.out (by omega))
  clear hup hup2 hvb HDR HV1
  generalize frameN (g.n : Int) bs = F at *
  go_enter Tryz.func16, Tryz.ntmps16
  go_wp2_with fail
  go_region_held3 (fun w' : World => w'.cell? ⟨r, 0, none⟩ = some (.pointer (some ⟨m, 0, none⟩)) ∧ w'.cell? ⟨r, 1, none⟩ = some (.int .i64 file) ∧ w'.cell? ⟨r, 2, none⟩ = some (.int .i64 (g.n : Int))) (first | exact HS4.out | exact HS3.out | exact HS1.out) (first
    | (go_at_call 39; go_must (with_reducible refine (HFR.out).mono ?_); rintro e w3 ⟨f, rfl, hf3, hb3⟩
       obtain ⟨fa, fc, rfl, _⟩ := fresh_elems hf3
       rw [natI_length] at hf3 ⊢
       have HF3 := Lib.hid hf3
       have L3 := Lib.hid (L1.out.below hb3)
       have HS3 := Lib.hid L3.out.cells
       clear hf3 hb3)
    | (go_at_call 38; go_must (refine (appR_any L3.out.rk.dk HOK.out file fa fc F (row_of_fresh HF3.out) HFL.out).mono ?_); rintro e w4 ⟨rfl, hu⟩
       obtain ⟨R4, l4⟩ := L3.out.up HN.out HRL.out hu
       have L4 := Lib.hid l4
       have HS4 := Lib.hid L4.out.cells
       clear hu l4))
  clear L1 HS1 L3 HS3 HF3 HFR L0 c3 HS4
  generalize pApp room s file F = q at *
  by_cases hc : q.1 = 0
  · have HQ2 : Hid (pLog room s file g bs = if (pSync q.2).1 ≠ 0 then ((pSync q.2).1, (pSync q.2).2, ⟨g.n, (pSync q.2).1 != 23⟩) else (0, (pSync q.2).2, ⟨g.n + 1, true⟩)) := Lib.hid (by rw [HQ.out, if_neg (fun h => h hc)])
    rw [hc]
    obtain ⟨c0, c1, c2⟩ := L4.out.cells
    clear HQ
    go_wp2_with fail
    refine (syncR_any L4.out.rk.dk HOK2.out).mono ?_
    rintro e w5 ⟨rfl, hu⟩
    obtain ⟨R5, l5⟩ := L4.out.up HN.out HRL.out hu
    have L5 := Lib.hid l5
    clear hu l5 L4 HOK2 c0 c1 c2
    generalize pSync q.2 = y at *
    have c2 := L5.out.cells.2.2
    have c3 := L5.out.lg.cell 3
    have z3 := Laid.frozen L5.out.lg 3
    simp only [List.getElem?_cons_succ, List.getElem?_cons_zero] at c3
    by_cases hy : y.1 = 0
    · rw [hy]
      have L6 := Lib.hid (L5.out.setD false)
      have c4 := L6.out.cells.2.2
      have z4 := Laid.frozen L6.out.lg 2
      have hwn : IntKind.i64.wrap ((g.n : Int) + 1) = ((g.n + 1 : Nat) : Int) := by rw [wrap_i64]; unfold wrap64; have := HG.out; omega
      go_wp2_with fail
      rw [show (g.n : Int) + 1 = ((g.n + 1 : Nat) : Int) from (Int.natCast_succ g.n).symm]
      have L7 := L6.out.setN
      go_ret
      rw [HQ2.out, if_neg (fun h => h hy)]
      exact ⟨rfl, R5, L7.rk, L7.lg, L7.keeps, L7.foot, L7.far⟩
    · generalize hyc : y.1 = c at *
      have L6 := Lib.hid (L5.out.setD (c == 23))
      go_wp2_with fail
      go_ret
      rw [HQ2.out, if_pos hy]
      exact log_bad L6.out
  · generalize hqc : q.1 = c at *
    have c3 := L4.out.lg.cell 3
    have z3 := Laid.frozen L4.out.lg 3
    simp only [List.getElem?_cons_succ, List.getElem?_cons_zero] at c3
    have L6 := Lib.hid (L4.out.setD (c == 23))
    go_wp2_with fail
    go_ret
    rw [HQ.out, if_pos hc]
    exact log_bad L6.out
end Go.Proofs.YtlljcnhcknmoaaaGreat
