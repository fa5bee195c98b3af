/-
  The law DiskPrefix.
-/
import Derived.Test.YtadnbakniibmfaaDmx
namespace Go.Proofs.Ytadnbakniibmfaa
open Go.RowKit Go.Shelf
set_option linter.unusedVariables false
set_option maxRecDepth 100000

def PreI (s : St) (all : List Nat) (firm : Nat) : Prop := s.on = true ∧ s.left = -1 ∧ s.B = oneB 9 all ∧ s.D 9 = firm ∧ firm ≤ all.length
theorem pre_start : PreI pNew [] 0 := ⟨rfl, rfl, by funext j; unfold oneB setB pNew; split <;> rfl, rfl, Nat.le_refl _⟩
theorem pre_app {s : St} {all b : List Nat} {firm : Nat} (h : PreI s all firm) (hr : all.length + b.length ≤ 1000) : (pApp 1000 s 9 b).1 = 0 ∧ PreI (pApp 1000 s 9 b).2 (all ++ b) firm := by
  obtain ⟨h1, h2, h3, h4, h5⟩ := h
  have ha := app_one (room := 1000) (k := 9) (by decide) h1 h2 h3 (zs := b) hr
  have ha2 : pApp 1000 s 9 b = (0, ⟨true, -1, oneB 9 (all ++ b), s.D⟩) := ha
  rw [ha2]
  exact ⟨rfl, rfl, rfl, rfl, h4, by rw [List.length_append]; omega⟩
theorem pre_sync {s : St} {all : List Nat} {firm : Nat} (h : PreI s all firm) : PreI (pSync s).2 all all.length := by
  obtain ⟨h1, h2, h3, h4, h5⟩ := h
  rw [sync_one h1 h2]
  exact ⟨rfl, rfl, h3, by show (s.B 9).length = _; rw [h3, oneB_at], Nat.le_refl _⟩
/-- The bits of a byte that are one. -/
def popF : Nat → Nat → Nat
  | 0, _ => 0
  | f + 1, k => k % 2 + popF f (k / 2)
theorem popF_zero : ∀ f, popF f 0 = 0
  | 0 => rfl
  | f + 1 => by unfold popF; rw [Nat.zero_mod, Nat.zero_div, popF_zero f]
theorem popF_step {f k : Nat} (hk : 0 < k) (hf : k < 2 ^ f) : ∃ g, f = g + 1 ∧ k / 2 < 2 ^ g ∧ popF f k = k % 2 + popF g (k / 2) := by
  rcases f with _ | g
  · simp at hf; omega
  · exact ⟨g, rfl, by rw [Nat.pow_succ] at hf; omega, rfl⟩
def sumK (K : Nat → Nat) : Nat → Nat
  | 0 => 0
  | i + 1 => sumK K i + popF 8 (K i)
theorem sumK_none : ∀ n, sumK (fun _ => 0) n = 0
  | 0 => rfl
  | n + 1 => by unfold sumK; rw [sumK_none n, popF_zero]
theorem sumK_one (q v : Nat) : ∀ n, sumK (fun i => if i = q then v else 0) n = if q < n then popF 8 v else 0
  | 0 => rfl
  | n + 1 => by
    unfold sumK
    rw [sumK_one q v n]
    by_cases h : n = q
    · subst h
      rw [if_neg (by omega), if_pos rfl, if_pos (by omega)]
      omega
    · rw [if_neg h, popF_zero]
      by_cases h2 : q < n
      · rw [if_pos h2, if_pos (by omega)]; rfl
      · rw [if_neg h2, if_neg (by omega)]
theorem pop_bit : ∀ m : Fin 8, popF 8 (2 ^ (7 - m.val)) = 1 ∧ 2 ^ (7 - m.val) < 256 := by decide
theorem xor_same_fin : ∀ x : Fin 256, bits BinOp.xor IntKind.u8 (x.val : Int) (x.val : Int) = ((0 : Nat) : Int) := by decide +kernel
theorem xor_flip_fin : ∀ (m : Fin 8) (x : Fin 256), bits BinOp.xor IntKind.u8 ((x.val ^^^ (2 ^ (7 - m.val)) : Nat) : Int) (x.val : Int) = ((2 ^ (7 - m.val) : Nat) : Int) := by decide +kernel
theorem xor_same {c : Nat} (h : c < 256) : bits BinOp.xor IntKind.u8 (c : Int) (c : Int) = ((0 : Nat) : Int) := xor_same_fin ⟨c, h⟩
theorem xor_flip {c : Nat} (h : c < 256) (p : Nat) : bits BinOp.xor IntKind.u8 (flipN c p : Int) (c : Int) = ((2 ^ (7 - p % 8) : Nat) : Int) := xor_flip_fin ⟨p % 8, by omega⟩ ⟨c, h⟩
theorem turn_get {zs : List Nat} {p i : Nat} (h1 : i < (turn zs p).length) (h2 : i < zs.length) : (turn zs p)[i] = if i = p / 8 then flipN zs[i] p else zs[i] := by
  simp only [turn, List.getElem_set]
  by_cases h : p / 8 = i
  · subst h
    rw [if_pos rfl, if_pos rfl, List.getElem?_eq_getElem h2]
    rfl
  · rw [if_neg h, if_neg (fun e => h e.symm)]
/-- What is read behind the crash. -/
def PreE (s : St) (all : List Nat) (firm : Nat) (keep flip : Int) (X : List Nat) (K : Nat → Nat) : Prop :=
  pRead (pCrash s [keep] flip) 9 = (0, X) ∧ (X.length : Int) = (firm : Int) + max 0 (min keep ((all.length : Int) - (firm : Int))) ∧ X.length ≤ all.length ∧ firm ≤ X.length ∧ X.take firm = all.take firm ∧
  (∀ i (h1 : i < X.length) (h2 : i < all.length), bits BinOp.xor IntKind.u8 (X[i] : Int) (all[i] : Int) = (K i : Int) ∧ K i < 256) ∧ sumK K X.length = (if 0 ≤ flip ∧ firm < X.length then 1 else 0) ∧ ∀ c ∈ X, c < 256
theorem pre_b8 {s : St} {all : List Nat} {firm : Nat} {keep flip : Int} {X : List Nat} {K : Nat → Nat} (h : PreE s all firm keep flip X K) (_ : ∀ c ∈ all, c < 256) : ∀ c ∈ X, c < 256 := h.2.2.2.2.2.2.2
theorem pre_end {s : St} {all : List Nat} {firm : Nat} (h : PreI s all firm) (h8 : ∀ c ∈ all, c < 256) (keep flip : Int) : ∃ X K, PreE s all firm keep flip X K := by
  obtain ⟨on, left, B, D⟩ := s
  obtain ⟨h1, h2, h3, h4, h5⟩ := h
  have h1' : on = true := h1
  have h2' : left = -1 := h2
  have h3' : B = oneB 9 all := h3
  have h4' : D 9 = firm := h4
  subst h1' h2' h3' h4'
  have hc := crash_one (k := 9) (by decide) all true (-1) D [keep] flip
  have hrd : ∀ X, (pCrash ⟨true, -1, oneB 9 all, D⟩ [keep] flip).B = oneB 9 X → pRead (pCrash ⟨true, -1, oneB 9 all, D⟩ [keep] flip) 9 = (0, X) := fun X hX => by
    obtain ⟨r1, r2⟩ := read_one (k := 9) (by decide) (s := pCrash ⟨true, -1, oneB 9 all, D⟩ [keep] flip) rfl hX
    exact Prod.ext r1 r2
  have hka : keepAt [keep] 0 = keep := rfl
  rw [hka] at hc
  have hm : D 9 + lostN keep (all.length - D 9) ≤ all.length := by unfold lostN; omega
  have hn : ((D 9 + lostN keep (all.length - D 9) : Nat) : Int) = (D 9 : Int) + max 0 (min keep ((all.length : Int) - (D 9 : Int))) := by unfold lostN; omega
  generalize hmm : D 9 + lostN keep (all.length - D 9) = m at *
  have hfm : D 9 ≤ m := by omega
  have hl : (all.take m).length = m := by rw [List.length_take]; omega
  unfold crashL at hc
  rw [hmm, hl] at hc
  by_cases hcc : 0 ≤ flip ∧ 0 < m - D 9
  · rw [if_pos hcc] at hc
    generalize hp : 8 * D 9 + flip.toNat % (8 * (m - D 9)) = p at *
    have hpm : flip.toNat % (8 * (m - D 9)) < 8 * (m - D 9) := Nat.mod_lt _ (by omega)
    have hp8 : p / 8 < m := by omega
    have hpf : D 9 ≤ p / 8 := by omega
    refine ⟨turn (all.take m) p, fun i => if i = p / 8 then 2 ^ (7 - p % 8) else 0, hrd _ hc, by rw [turn_len, hl]; exact hn, by rw [turn_len, hl]; exact hm, by rw [turn_len, hl]; exact hfm, ?_, fun i i1 i2 => ?_, ?_, turn_lt (fun c hc => h8 c (List.mem_of_mem_take hc)) (by rw [hl]; exact hp8)⟩
    · unfold turn
      rw [List.take_set_of_le hpf, List.take_take, Nat.min_eq_left hfm]
    · have hi : i < m := by rw [turn_len, hl] at i1; exact i1
      have hci := h8 all[i] (List.getElem_mem i2)
      have hpb := pop_bit ⟨p % 8, by omega⟩
      have e := turn_get (zs := all.take m) (p := p) i1 (by rw [hl]; exact hi)
      rw [List.getElem_take] at e
      by_cases hip : i = p / 8
      · rw [if_pos hip] at e
        have hk : (fun i => if i = p / 8 then 2 ^ (7 - p % 8) else 0) i = 2 ^ (7 - p % 8) := if_pos hip
        rw [e, hk, xor_flip hci p]
        exact ⟨rfl, hpb.2⟩
      · rw [if_neg hip] at e
        have hk : (fun i => if i = p / 8 then 2 ^ (7 - p % 8) else 0) i = 0 := if_neg hip
        rw [e, hk, xor_same hci]
        exact ⟨rfl, by decide⟩
    · rw [turn_len, hl, sumK_one, if_pos hp8, if_pos ⟨hcc.1, by omega⟩]
      exact (pop_bit ⟨p % 8, by omega⟩).1
  · rw [if_neg hcc] at hc
    refine ⟨all.take m, fun _ => 0, hrd _ hc, by rw [hl]; exact hn, by rw [hl]; exact hm, by rw [hl]; exact hfm, ?_, fun i i1 i2 => ?_, ?_, fun c hc => h8 c (List.mem_of_mem_take hc)⟩
    · rw [List.take_take, Nat.min_eq_left hfm]
    · rw [List.getElem_take, xor_same (h8 all[i] (List.getElem_mem i2))]
      exact ⟨rfl, show 0 < 256 by decide⟩
    · rw [hl, sumK_none, if_neg (fun h => hcc ⟨h.1, by omega⟩)]
/-- Slices of bytes that came in. -/
def PartsW (W : World) (a : Option Addr) (n : Nat) : Prop := ∀ i, i < n → ∃ b off u zs, a = some ⟨b, off, none⟩ ∧ W.cell? ⟨b, off + i, none⟩ = some u ∧ Row .u8 W u zs ∧ ∀ c ∈ zs, 0 ≤ c ∧ c ≤ 255
theorem PartsW.below {W W2 : World} {a : Option Addr} {n : Nat} (h : PartsW W a n) (hb : Below W.heap.size W W2) : PartsW W2 a n := fun i hi => by
  obtain ⟨b, off, u, zs, h1, h2, h3, h4⟩ := h i hi
  exact ⟨b, off, u, zs, h1, (hb.cell (p := ⟨b, off + i, none⟩) (World.block_lt_of_cell? _ _ h2)).trans h2, row_keeps h3 hb, h4⟩
theorem fresh_spanZ {B : Nat} {e : TypeId} {k : IntKind} {w : World} {v : Value} {zs : List Int} (h : Fresh B e k w v zs) : ∀ j, blockOf v j → B ≤ j ∧ j < w.heap.size := by
  intro j hj
  rcases h.2 with ⟨rfl, _⟩ | ⟨g, cap, cur, rfl, hb, h3, _⟩
  · exact hj.elim
  · have : j = g := hj
    subst this
    exact ⟨hb, (Array.getElem?_eq_some_iff.1 h3).1⟩
theorem around_6 (n : Int) : ∃ q : Nat, aroundI n 6 = (q : Int) ∧ q < 6 := by
  have h1 := Int.emod_nonneg (if n < 0 then -(n + 1) else n) (show ((6 : Nat) : Int) ≠ 0 by omega)
  have h2 := Int.emod_lt_of_pos (if n < 0 then -(n + 1) else n) (show (0 : Int) < ((6 : Nat) : Int) by omega)
  unfold aroundI
  exact ⟨((if n < 0 then -(n + 1) else n) % ((6 : Nat) : Int)).toNat, by omega, by omega⟩
theorem natI_at {l : List Nat} {i : Nat} (h : i < l.length) : (natI l)[i]?.getD 0 = (l[i] : Int) := by
  unfold natI
  rw [List.getElem?_map, List.getElem?_eq_getElem h]
  rfl
theorem below_drew {B : Nat} (w : World) : Below B w w.drew := by
  first
  | exact (Below.refl _ _).drew
  | exact (Below.refl B w).draw
  | exact ⟨Nat.le_refl _, fun _ _ => rfl, rfl⟩
  | constructor <;> intros <;> rfl
theorem below_chain {a b c e : World} (h1 : Below a.heap.size a b) (h2 : Below b.heap.size b c) (h3 : Below c.heap.size c e) : Below a.heap.size a e :=
  (h1.trans (h2.mono h1.size)).trans (h3.mono (h1.trans (h2.mono h1.size)).size)
def ElsFor (W0 : World) (v : Value) (zs : List Int) : Prop := ∀ W, Below W0.heap.size W0 W → Elems .u8 W v zs
theorem popF_le : ∀ f k, popF f k ≤ f
  | 0, _ => Nat.le_refl _
  | f + 1, k => by have := popF_le f (k / 2); unfold popF; omega
theorem sumK_le (K : Nat → Nat) : ∀ n, sumK K n ≤ 8 * n
  | 0 => Nat.le_refl _
  | n + 1 => by have := sumK_le K n; have := popF_le 8 (K n); unfold sumK; omega
/-- The bytes that were appended, in a block of their own. -/
structure AllIs (n : Nat) (W : World) (A : Foot) (v : Value) (all : List Nat) : Prop where
  own : Fresh n 5 .u8 W v (natI all)
  far : ∀ k, v.ownBlock = some k → ¬ A k
  b8 : ∀ c ∈ all, c < 256
theorem AllIs.below {n : Nat} {W W2 : World} {A : Foot} {v : Value} {all : List Nat} (h : AllIs n W A v all) (hb : Below W.heap.size W W2) : AllIs n W2 A v all := ⟨fresh_keeps h.own hb, h.far, h.b8⟩
theorem AllIs.move {n : Nat} {W W2 : World} {A A2 : Foot} {v : Value} {all : List Nat} (h : AllIs n W A v all) (hk : Keeps A W W2) (hf : ∀ k, A2 k → A k ∨ W.heap.size ≤ k) : AllIs n W2 A2 v all :=
  ⟨own_foot2 h.own hk h.far, fun k hk2 hA => (hf k hA).elim (h.far k hk2) (fun e => by have := (h.own.lt k hk2).2; omega), h.b8⟩

theorem AllIs.grow {n : Nat} {W W2 : World} {A : Foot} {v v2 : Value} {all own : List Nat} (h : AllIs n W A v all) (hA : ∀ k, A k → k < W.heap.size) (hown : Fresh n 5 .u8 W2 v2 (natI all ++ natI own))
    (hat : v2.ownBlock = v.ownBlock ∨ v2.ownBlock = some W.heap.size) (h8 : ∀ c ∈ own, c < 256) : AllIs n W2 A v2 (all ++ own) := by
  refine ⟨by rw [natI_append]; exact hown, fun k hk hAk => ?_, fun c hc => (List.mem_append.1 hc).elim (h.b8 c) (h8 c)⟩
  rcases hat with e | e
  · exact h.far k (by rw [← e]; exact hk) hAk
  · have e2 := e.symm.trans hk
    injection e2 with e2
    have := hA k hAk
    omega

theorem partsW_of {W : World} {x : Addr} {l c base : Nat} {A : Nat → Option Addr} {L C : Nat → Nat} {Z : Nat → List Int} (hl : l ≤ c) (h : ∀ r, r < c → W.cell? (x.add r) = some (.slice (A r) (L r) (C r)) ∧ L r ≤ C r ∧ C r ≤ maxLen ∧ (Z r).length = C r ∧ (∀ n ∈ Z r, (Lit.int .u8 n).wf = true) ∧ (A r = none → C r = 0) ∧ ∀ a', A r = some a' → base ≤ a'.block ∧ ∀ c, c < C r → W.cell? (a'.add c) = some (.int .u8 ((Z r).getD c 0))) : PartsW W (some x) l := by
  intro i hi
  obtain ⟨h1, h2, h3, h4, h5, h6, h7⟩ := h i (by omega)
  obtain ⟨b, off, s⟩ := x
  have h0 : W.cell? ⟨b, off, s⟩ = some (.slice (A 0) (L 0) (C 0)) := (h 0 (by omega)).1
  have hs : s = none := by
    cases s with
    | none => rfl
    | some s =>
      unfold World.cell? at h0
      simp at h0
      split at h0 <;> simp_all
  subst hs
  have e2 : (⟨b, off, none⟩ : Addr).add i = ⟨b, off + i, none⟩ := by unfold Addr.add; split <;> simp_all
  rw [e2] at h1
  refine ⟨b, off, .slice (A i) (L i) (C i), (Z i).take (L i), rfl, h1, ?_, fun n hn => ?_⟩
  · cases hA : A i with
    | none =>
      have hc := h6 hA
      have hL : L i = 0 := by omega
      rw [hc, hL, List.take_zero]
      exact row_none _ _
    | some a' => exact row_some h2 h3 h4 (fun c hc => (h7 a' hA).2 c (by omega))
  · have hw := h5 n (List.mem_of_mem_take hn)
    simp only [Lit.wf, Bool.and_eq_true, decide_eq_true_eq] at hw
    exact hw

set_option maxHeartbeats 16000000 in
theorem walk_DiskPrefix (pa : Option Addr) (pn pc : Nat) (sy keep flip : Int) (w : World) (hp : PartsW w pa pn) (hsy : -9223372036854775808 ≤ sy ∧ sy ≤ 9223372036854775807) (hkeep : -9223372036854775808 ≤ keep ∧ keep ≤ 9223372036854775807) (hflip : -9223372036854775808 ≤ flip ∧ flip ≤ 9223372036854775807) :
    Calls Try.prog 5 #[.slice pa pn pc, .int .i64 sy, .int .i64 keep, .int .i64 flip] w fun e w' => e = .returned (.bool true) ∧ Below w.heap.size w w' := by
  have HP := Lib.hid hp
  have HSY := Lib.hid hsy
  have HKP := Lib.hid hkeep
  have HFL := Lib.hid hflip
  obtain ⟨q, hq, hq6⟩ := around_6 sy
  have HQ : Hid (aroundI sy (6 : Nat) = (q : Int)) := Lib.hid hq
  clear hp hsy hkeep hflip hq
  go_enter Try.func5, Try.ntmps5
  go_wp2_with fail
  refine (newS_any 1000 w (by decide)).mono ?_
  rintro e w1 ⟨d, A0, rfl, hd, hA0, hb⟩
  have D1 : Hid (Dsk w.heap.size w1 (fun k => A0 k ∧ k < w1.heap.size) d 1000 pNew) := Lib.hid (Dsk.made (n := w.heap.size) hd hA0 (Nat.le_refl _))
  have B1 := Lib.hid hb
  clear hd hA0 hb
  generalize (fun k => A0 k ∧ k < w1.heap.size) = A1 at D1
  go_wp2_with fail
  refine (around_any sy 6 w1 HSY.out (by decide) (by decide)).mono ?_
  rintro e w0 ⟨rfl, rfl⟩
  rw [HQ.out]
  have I1 := Lib.hid pre_start
  have A1I : Hid (AllIs w.heap.size w1 A1 (.slice none 0 0) []) := Lib.hid ⟨fresh_nil _ _ _ _, fun k h => (by cases h), fun c h => by simp at h⟩
  go_wp2_with fail
  go_loopw [11, 12, 14] (fun s11 s12 s14 wr => ∃ (i firm m : Nat) (all : List Nat) (s : St) (A : Foot) (aa : Option Addr) (ac : Nat), s14 = .int .i64 (i : Int) ∧ s12 = .int .i64 (firm : Int) ∧ s11 = .slice aa m ac ∧ i ≤ 6 ∧ m ≤ 20 * i ∧ firm ≤ m ∧ Hid (all.length = m) ∧ Hid (PreI s all firm) ∧ Hid (Dsk w.heap.size wr A d 1000 s) ∧ Hid (AllIs w.heap.size wr A (.slice aa m ac) all) ∧ Hid (Below w.heap.size w wr)) (fun _ _ s14 _ => 6 - (intOf s14).toNat)
  case atStart => exact ⟨0, 0, 0, [], pNew, A1, none, 0, rfl, rfl, rfl, Nat.zero_le _, Nat.zero_le _, Nat.le_refl _, Lib.hid rfl, I1, D1, A1I, B1⟩
  case round =>
    obtain ⟨i, firm, m, all, s, A, aa, ac, rfl, rfl, rfl, hi6, hm, hfm, HL, HI, HD, HA, HB⟩ := hrel
    clear I1 D1 A1I B1
    by_cases hlt : i < pn ∧ i < 6
    · obtain ⟨h1, h2⟩ := hlt
      obtain ⟨bb, off, u, zs, rfl, hcell, hrow, hrng⟩ := (HP.out.below HB.out) i h1
      obtain ⟨hbs, h8⟩ := natI_toNats2 (zs := zs.take 20) (fun n h => hrng n (List.mem_of_mem_take h))
      have hl20 : (toNats (zs.take 20)).length ≤ 20 := by rw [toNats_length, List.length_take]; omega
      generalize toNats (zs.take 20) = own at *
      have HBS := Lib.hid hbs
      have H8 := Lib.hid h8
      have HRW := Lib.hid hrow
      clear hbs h8 hrow hrng
      go_wp2_with fail
      refine (refFew_any u zs 20 _ HRW.out (by decide)).mono ?_
      rintro e w2 ⟨ov, rfl, ho, hb⟩
      rw [← HBS.out] at ho
      have hsp := fresh_spanZ ho
      obtain ⟨oa, oc, rfl, _⟩ := fresh_elems ho
      have hro := row_of_fresh ho
      rw [natI_length] at hro hsp
      rw [natI_length]
      generalize hon : own.length = k at *
      have HON := Lib.hid hon
      have D2 := Lib.hid (HD.out.below hb)
      have A2 := Lib.hid (HA.out.below hb)
      have O2 := Lib.hid (And.intro hro (fun j hj hA => by have := hsp j hj; have := HD.out.hi j hA; omega : ∀ j, blockOf (.slice oa k oc) j → ¬ A j))
      have B2 := Lib.hid (HB.out.trans (hb.mono HB.out.size))
      obtain ⟨p1, p2⟩ := pre_app HI.out (b := own) (by rw [HL.out, hon]; omega)
      have I3 := Lib.hid p2
      clear ho hsp hro hb hon p1 p2 HD HA HB HRW HBS hcell HI
      go_wp2_with fail
      have hop := appS_any D2.out.dk 9 oa oc own (by rw [HON.out]; exact O2.out.1) H8.out (by rw [HON.out]; omega)
      rw [HON.out] at hop
      refine hop.mono ?_
      clear hop
      generalize pApp 1000 s 9 own = r at *
      obtain ⟨rc, s2⟩ := r
      rintro e w3 ⟨rfl, hu⟩
      obtain ⟨A3, hd, hk, hf, hb⟩ := D2.out.up hu B2.out.size
      have D3 := Lib.hid hd
      have A3I := Lib.hid (A2.out.move hk hf)
      have O3 := Lib.hid (row_foot O2.out.1 hk O2.out.2)
      have B3 := Lib.hid (B2.out.trans hb)
      clear hu hd hk hf hb D2 A2 O2 B2
      have hml : m + k ≤ 20 * (i + 1) := by have := HON.out; omega
      by_cases hiq : i = q
      · subst hiq
        go_wp2_with (at_builtin; go_must (refine wpList_append_buf rfl _ _ 33 rfl w.heap.size (.slice aa m ac) (natI all) rfl A3I.out.own _ (natI own) rfl (.inl ⟨rfl, O3.out⟩) (by rw [natI_length, natI_length, HL.out, HON.out]; omega) B3.out.size ?_); intro b4 n4 c4 w4 hn4 hfr4 hgr4 hat4; have HG4 := Lib.hid (And.intro hn4 (And.intro hfr4 (And.intro hgr4 hat4))); clear hn4 hfr4 hgr4 hat4)
        have hn4 : n4 = m + k := by rw [HG4.out.1, List.length_append, natI_length, natI_length, HL.out, HON.out]
        subst hn4
        have hkg : Keeps (fun j => Value.ownBlock (.slice aa m ac) = some j) w3 w4 := Keeps.of_grown HG4.out.2.2.1 (fun k h => h)
        have D4 := Lib.hid (D3.out.other hkg (fun k h1 h2 => A3I.out.far k h2 h1))
        have B4 := Lib.hid (B3.out.trans (hkg.below (B := w.heap.size) B3.out.size (fun k hk => (A3I.out.own.lt k hk).1)))
        have A4I := Lib.hid (A3I.out.grow D3.out.hi HG4.out.2.1 HG4.out.2.2.2 H8.out)
        have HL4 : Hid ((all ++ own).length = m + k) := Lib.hid (by rw [List.length_append, HL.out, HON.out])
        clear hkg HG4 D3 B3 A3I O3
        refine (syncS_any D4.out.dk).mono ?_
        have I5 := Lib.hid (pre_sync I3.out)
        rw [HL4.out] at I5
        generalize pSync s2 = r2 at *
        obtain ⟨rc2, s4⟩ := r2
        rintro e w5 ⟨rfl, hu⟩
        obtain ⟨A5, hd, hk, hf, hb⟩ := D4.out.up hu B4.out.size
        have D5 := Lib.hid hd
        have A5I := Lib.hid (A4I.out.move hk hf)
        have B5 := Lib.hid (B4.out.trans hb)
        clear hu hd hk hf hb D4 A4I B4
        go_wp2_with fail
        exact ⟨⟨i + 1, m + k, m + k, all ++ own, s4, A5, b4, c4, by rw [Int.natCast_add]; rfl, rfl, rfl, by omega, hml, Nat.le_refl _, HL4, I5, D5, A5I, B5⟩, by simp only [intOf]; omega⟩
      · go_wp2_with (at_builtin; go_must (refine wpList_append_buf rfl _ _ 33 rfl w.heap.size (.slice aa m ac) (natI all) rfl A3I.out.own _ (natI own) rfl (.inl ⟨rfl, O3.out⟩) (by rw [natI_length, natI_length, HL.out, HON.out]; omega) B3.out.size ?_); intro b4 n4 c4 w4 hn4 hfr4 hgr4 hat4; have HG4 := Lib.hid (And.intro hn4 (And.intro hfr4 (And.intro hgr4 hat4))); clear hn4 hfr4 hgr4 hat4)
        have hn4 : n4 = m + k := by rw [HG4.out.1, List.length_append, natI_length, natI_length, HL.out, HON.out]
        subst hn4
        have hkg : Keeps (fun j => Value.ownBlock (.slice aa m ac) = some j) w3 w4 := Keeps.of_grown HG4.out.2.2.1 (fun k h => h)
        have D4 := Lib.hid (D3.out.other hkg (fun k h1 h2 => A3I.out.far k h2 h1))
        have B4 := Lib.hid (B3.out.trans (hkg.below (B := w.heap.size) B3.out.size (fun k hk => (A3I.out.own.lt k hk).1)))
        have A4I := Lib.hid (A3I.out.grow D3.out.hi HG4.out.2.1 HG4.out.2.2.2 H8.out)
        have HL4 : Hid ((all ++ own).length = m + k) := Lib.hid (by rw [List.length_append, HL.out, HON.out])
        exact ⟨⟨i + 1, firm, m + k, all ++ own, s2, A3, b4, c4, by rw [Int.natCast_add]; rfl, rfl, rfl, by omega, hml, by omega, HL4, I3, D4, A4I, B4⟩, by simp only [intOf]; omega⟩
    · have hne : ¬ i < pn ∨ (i < pn ∧ ¬ i < 6) := by omega
      obtain ⟨X, K, hE⟩ := pre_end HI.out HA.out.b8 keep flip
      have HE := Lib.hid hE
      have HB8 := Lib.hid HA.out.b8
      have hxl := hE.2.1
      have hxa := hE.2.2.1
      have hxf := hE.2.2.2.1
      rw [HL.out] at hxl hxa
      generalize hnx : X.length = nx at *
      have HNX := Lib.hid hnx
      have hm120 : m ≤ 120 := by omega
      clear hE hlt hm hi6 hnx
      rcases hne with hne | ⟨hn1, hn2⟩
      all_goals
        have D10 := Lib.hid (HD.out.below ((Below.refl _ _).alloc (Nat.le_refl _) (.cells #[.int .i64 keep] 3)))
        have N10 := Lib.hid HD.out.hi
        have A10 := Lib.hid (HA.out.below ((Below.refl _ _).alloc (Nat.le_refl _) (.cells #[.int .i64 keep] 3)))
        have B10 := Lib.hid (HB.out.alloc HB.out.size (.cells #[.int .i64 keep] 3))
        rename_i wr _ _
        have R10 : Hid (Row .i64 (wr.alloc (.cells #[.int .i64 keep] 3)) (.slice (some ⟨wr.heap.size, 0, none⟩) 1 1) [keep]) := Lib.hid (row_of_fresh (fresh_lit wr 0 3 .i64 [keep] (Nat.zero_le _) (by simp)))
        clear HD HA HB HI
        go_wp2_with fail
        refine (crashS_any D10.out.dk _ [keep] flip R10.out (fun j hj hA => by have : j = wr.heap.size := hj; have := N10.out j hA; omega) (fun x hx => by rw [List.mem_singleton.1 hx]; exact HKP.out) HFL.out (by simp)).mono ?_
        rintro e w11 ⟨rfl, hu⟩
        obtain ⟨A11, hd, hk, hf, hb⟩ := D10.out.up hu B10.out.size
        have D11 := Lib.hid hd
        have A11I := Lib.hid (A10.out.move hk hf)
        have B11 := Lib.hid (B10.out.trans hb)
        clear hu hd hk hf hb D10 A10 B10 N10 R10
        have HRD := Lib.hid HE.out.1
        have HEE := Lib.hid HE.out.2.2.2.2
        have HE8 := Lib.hid (pre_b8 HE.out HB8.out)
        clear HE
        generalize pCrash s [keep] flip = s3 at *
        go_wp2_with fail
        have hop := readS_any D11.out.dk 9
        rw [HRD.out] at hop
        refine hop.mono ?_
        clear hop
        rintro e w12 ⟨xv, rfl, hx, hb⟩
        obtain ⟨xa, xc, rfl, hxc, hxe⟩ := fresh_elems hx
        rw [natI_length, HNX.out] at hx hxc hxe
        rw [natI_length, HNX.out]
        have HX := Lib.hid hx
        have HXE := Lib.hid hxe
        have A12I := Lib.hid (A11I.out.below hb)
        have B12 := Lib.hid (B11.out.trans (hb.mono B11.out.size))
        clear hx hb hxe D11 A11I B11 HRD
        go_wp2_with fail
        go_loopw [19, 20] (fun s19 s20 wr => ∃ (i t : Nat), s20 = .int .i64 (i : Int) ∧ s19 = .int .i64 (t : Int) ∧ i ≤ nx ∧ t ≤ 8 * i ∧ Hid (sumK K i = t) ∧ Hid (Below w12.heap.size w12 wr)) (fun _ s20 _ => nx - (intOf s20).toNat)
        case atStart => exact ⟨0, 0, rfl, rfl, Nat.zero_le _, Nat.zero_le _, Lib.hid rfl, Lib.hid (Below.refl _ _)⟩
        case round =>
          obtain ⟨i, t, rfl, rfl, hi, ht, HT, HW⟩ := hrel
          have hxw := fresh_keeps HX.out HW.out
          have haw := A12I.out.below HW.out
          have HXW := Lib.hid hxw
          have HAW := Lib.hid haw
          by_cases hlt : i < nx
          · obtain ⟨a1, c1, he1, _, hc1⟩ := fresh_elems hxw
            injection he1 with he6 he7 he8
            subst he6
            obtain ⟨b1, o1, rfl, hc1'⟩ := hc1 (fun e => by have := congrArg List.length e; rw [natI_length, HNX.out] at this; simp at this; omega)
            have hcx := hc1' i (by rw [natI_length, HNX.out]; exact hlt)
            rw [natI_at (show i < X.length by rw [HNX.out]; exact hlt)] at hcx
            obtain ⟨a2, c2, he2, _, hc2⟩ := fresh_elems haw.own
            injection he2 with he3 he4 he5
            subst he3
            obtain ⟨b2, o2, rfl, hc3⟩ := hc2 (fun e => by have := congrArg List.length e; rw [natI_length, HL.out] at this; simp at this; omega)
            have hca := hc3 i (by rw [natI_length, HL.out]; omega)
            rw [natI_at (show i < all.length by rw [HL.out]; omega)] at hca
            obtain ⟨hk1, hk2⟩ := HEE.out.2.1 i (by rw [HNX.out]; exact hlt) (by rw [HL.out]; omega)
            have HK1 := Lib.hid hk1
            have HT2 := Lib.hid (show sumK K (i + 1) = t + popF 8 (K i) by unfold sumK; rw [HT.out])
            have hx8 : X[i]'(by rw [HNX.out]; exact hlt) < 256 := HE8.out _ (List.getElem_mem _)
            have ha8 := A12I.out.b8 (all[i]'(by rw [HL.out]; omega)) (List.getElem_mem _)
            generalize X[i]'(by rw [HNX.out]; exact hlt) = xi at *
            generalize all[i]'(by rw [HL.out]; omega) = ai at *
            generalize K i = ki at *
            clear hk1 he4 he5 he7 he8 hc1 hc1' hc2 hc3 hxw haw
            go_wp2_with fail
            go_region
            rw [HK1.out]
            go_wp2_with fail
            go_loop [19, 21] (fun s19 s21 => ∃ (f k2 t2 : Nat), s21 = .int .u8 (k2 : Int) ∧ s19 = .int .i64 (t2 : Int) ∧ k2 < 256 ∧ t2 ≤ t + 8 ∧ Hid (k2 < 2 ^ f ∧ t2 + popF f k2 = t + popF 8 ki)) (fun _ s21 => (intOf s21).toNat)
            case atStart => exact ⟨8, ki, t, rfl, rfl, hk2, by omega, Lib.hid ⟨hk2, rfl⟩⟩
            case round =>
              obtain ⟨f, k2, t2, rfl, rfl, hk3, ht2, HF⟩ := hrel
              by_cases hk0 : 0 < k2
              · obtain ⟨g, e1, e2, e3⟩ := popF_step hk0 HF.out.1
                have HF2 : Hid (k2 / 2 < 2 ^ g ∧ (t2 + k2 % 2) + popF g (k2 / 2) = t + popF 8 ki) := Lib.hid ⟨e2, by have := HF.out.2; omega⟩
                have ht3 : t2 + k2 % 2 ≤ t + 8 := by have := HF2.out.2; have := popF_le 8 ki; omega
                clear e1 e2 e3 HF
                go_wp2_with fail
                exact ⟨⟨g, k2 / 2, t2 + k2 % 2, by rfl, by rw [Int.natCast_add]; rfl, by omega, ht3, HF2⟩, by simp only [intOf]; omega⟩
              · have hke : k2 = 0 := by omega
                subst hke
                have hte : t2 = t + popF 8 ki := by have := HF.out.2; rw [popF_zero] at this; omega
                have ht3 : t2 ≤ 8 * (i + 1) := by have := popF_le 8 ki; omega
                have HT3 := Lib.hid (HT2.out.trans hte.symm)
                clear hte hk0 hk3 HF
                go_wp2_with fail
                exact ⟨⟨i + 1, t2, by rw [Int.natCast_add]; rfl, rfl, hlt, ht3, HT3, Lib.hid (HW.out.trans (below_drew _))⟩, by simp only [intOf]; omega⟩
          · have hie : i = nx := by omega
            subst hie
            have hte : t = if 0 ≤ flip ∧ firm < i then 1 else 0 := by
              have h := HEE.out.2.2.1
              rw [HNX.out] at h
              exact HT.out.symm.trans h
            clear hlt hi
            by_cases hc : 0 ≤ flip ∧ firm < i
            · rw [if_pos hc] at hte
              subst hte
              rw [show ((1 : Nat) : Int) = 1 from rfl]
              obtain ⟨hc1, hc2⟩ := hc
              obtain ⟨a1, c1, he1, hcx, _⟩ := fresh_elems hxw
              injection he1 with he6 he7 he8
              subst he8
              subst he6
              clear he7
              obtain ⟨a2, c2, he2, hca, _⟩ := fresh_elems haw.own
              injection he2 with he3 he4 he9
              subst he9
              subst he3
              clear he4
              rw [natI_length, HNX.out] at hcx
              rw [natI_length, HL.out] at hca
              have hfx : firm ≤ xc := by omega
              have hfa : firm ≤ ac := by omega
              have hfx2 : (firm : Int) ≤ (xc : Int) := by omega
              have hfa2 : (firm : Int) ≤ (ac : Int) := by omega
              have HX1 : Hid (ElsFor _ (.slice xa firm xc) ((natI X).take firm)) := Lib.hid (fun W h => elems_take (m := firm) (Elems.of_fresh (fresh_keeps HXW.out h)) (by rw [natI_length, HNX.out]) (by omega))
              have HA1 : Hid (ElsFor _ (.slice aa firm ac) ((natI all).take firm)) := Lib.hid (fun W h => elems_take (m := firm) (Elems.of_fresh (HAW.out.below h).own) (by rw [natI_length, HL.out]) (by omega))
              have HTK := Lib.hid (show (natI X).take firm = (natI all).take firm from by unfold natI; rw [← List.map_take, ← List.map_take, HEE.out.1])
              have B14 := Lib.hid (B12.out.trans (HW.out.mono B12.out.size))
              have HL1 := Lib.hid (show ((natI X).take firm).length ≤ 1000000 by rw [List.length_take, natI_length, HNX.out]; omega)
              have HL2 := Lib.hid (show ((natI all).take firm).length ≤ 1000000 by rw [List.length_take, natI_length, HL.out]; omega)
              have CS : Hid (∀ W, Below wr.heap.size wr W → Calls Try.prog 25 #[.slice xa firm xc, .slice aa firm ac] W fun e w' => e = .returned (.bool true) ∧ Below W.heap.size W w') := Lib.hid (fun W h => by
                have h2 := sameBytes_any _ _ ((natI X).take firm) ((natI all).take firm) W (HX1.out W h) (HA1.out W h) HL1.out HL2.out
                rw [← decide_eq_true HTK.out]
                exact h2)
              clear hxw haw HX1 HA1 HL1 HL2 HTK
              go_wp2_with fail
              generalize hnz : (firm : Int) + max 0 (min keep ((m : Int) - (firm : Int))) = nz at *
              clear hxl hnz
              iterate 1 (try clear hc1); try clear hc2
              try clear ht
              try clear HP
              try clear HSY
              try clear HKP
              try clear HFL
              try clear HQ
              try clear HB8
              try clear HEE
              try clear HE8
              try clear HT
              try clear hxa
              try clear hm120
              try clear HXE
              go_region_held3 (fun _ : World => True) (first | trivial) (first
                | (go_at_call 25; with_reducible refine (CS.out _ (by first | exact Below.refl _ _ | exact below_drew _)).mono ?_; rintro e w15 ⟨rfl, hb⟩; have B15 := Lib.hid (below_chain B14.out (by first | exact Below.refl _ _ | exact below_drew _) hb); clear hb)
                | (go_at_call 15; with_reducible refine (lives5_any _).mono ?_; rintro e wl ⟨rfl, hb⟩; have BL := Lib.hid (below_chain B15.out (by first | exact Below.refl _ _ | exact below_drew _) hb); clear hb))
              go_wp2_with fail
              go_ret
              exact ⟨rfl, BL.out⟩
            · rw [if_neg hc] at hte
              subst hte
              clear hxw haw
              rcases (show flip < 0 ∨ (0 ≤ flip ∧ ¬ firm < i) by omega) with hfl | ⟨hfl, hfi⟩
              all_goals
                clear hc
                go_wp2_with fail
                refine (lives5_any _).mono ?_
                rintro e wl ⟨rfl, hb⟩
                have B15 := Lib.hid (B12.out.trans (HW.out.mono B12.out.size))
                have BL := Lib.hid (B15.out.trans (hb.mono B15.out.size))
                clear hb
                go_wp2_with fail
                go_ret
                exact ⟨rfl, BL.out⟩
end Go.Proofs.Ytadnbakniibmfaa
