/-
  Lists of byte slices that are read only; their comparison; the records that the reference builds. The records that the reference builds from numbers: a few short ones, whatever they are. An append that leaves the slice appended to as it was; the example of the laws of package journal.
-/
import Derived.Test.YtjoablphojkimaaGreatDoorJrC
import Derived.Deep.RegionHeld3
namespace Go.Proofs.YtjoablphojkimaaGreatDoor
open Go.RowKit Go.Shelf
set_option linter.unusedVariables false
set_option maxRecDepth 100000

structure LRow (W : World) (v : Value) (us : List Value) (xss : List (List Nat)) : Prop where
  len : us.length = xss.length
  form : ∃ a cap, v = .slice a us.length cap ∧ us.length ≤ cap ∧ cap ≤ 9223372036854775807 ∧ (us ≠ [] → ∃ b off, a = some ⟨b, off, none⟩ ∧ ∀ j (hj : j < us.length), W.cell? ⟨b, off + j, none⟩ = some us[j])
  row : ∀ j (hj : j < us.length) (hx : j < xss.length), Row .u8 W us[j] (natI xss[j])

theorem lrow_of_own {B : Nat} {W : World} {v : Value} {us : List Value} {xss : List (List Nat)} (h : LOwn B W v us xss) : LRow W v us xss := by
  refine ⟨h.len, ?_, h.row⟩
  have hown := h.own
  rcases h.own.2 with ⟨rfl, h0⟩ | ⟨g, cap, cur, rfl, _, _, hc, hm, _⟩
  · have hnil : us = [] := List.eq_nil_of_length_eq_zero h0
    exact ⟨none, 0, by rw [hnil]; rfl, by rw [hnil]; exact Nat.le_refl _, by decide, fun h => absurd hnil h⟩
  · refine ⟨_, cap, rfl, hc, by unfold maxLen at hm; omega, fun _ => ⟨g, 0, rfl, fun j hj => ?_⟩⟩
    have := World.ownsRow.cells hown (g := g) rfl j us[j] (List.getElem?_eq_getElem hj)
    rw [add_none] at this
    exact this
theorem lrow_below {W W2 : World} {v : Value} {us : List Value} {xss : List (List Nat)} (h : LRow W v us xss) (hb : Below W.heap.size W W2) : LRow W2 v us xss := by
  refine ⟨h.len, ?_, fun j hj hx => row_keeps (h.row j hj hx) hb⟩
  obtain ⟨a, cap, h1, h2, h3, h4⟩ := h.form
  refine ⟨a, cap, h1, h2, h3, fun hne => ?_⟩
  obtain ⟨b, off, e, hc⟩ := h4 hne
  exact ⟨b, off, e, fun j hj => (hb.cell (p := ⟨b, off + j, none⟩) (World.block_lt_of_cell? _ _ (hc j hj))).trans (hc j hj)⟩
theorem lrow_take {W : World} {a : Option Addr} {n m cap : Nat} {us : List Value} {xss : List (List Nat)} (h : LRow W (.slice a n cap) us xss) (hm : m ≤ n) : LRow W (.slice a m cap) (us.take m) (xss.take m) := by
  obtain ⟨a', cap', h1, h2, h3, h4⟩ := h.form
  injection h1 with h1 h5 h6
  subst h1 h5 h6
  have hl : (us.take m).length = m := by rw [List.length_take]; omega
  refine ⟨by rw [hl, List.length_take, ← h.len]; omega, ⟨a, cap, by rw [hl], by rw [hl]; omega, h3, fun hne => ?_⟩, fun j hj hx => ?_⟩
  · obtain ⟨b, off, e, hc⟩ := h4 (fun e => by rw [e] at hne; simp at hne)
    refine ⟨b, off, e, fun j hj => ?_⟩
    rw [hl] at hj
    rw [hc j (by omega), List.getElem_take]
  · rw [hl] at hj
    rw [List.getElem_take, List.getElem_take]
    exact h.row j (by omega) _

theorem natI_inj {a b : List Nat} : natI a = natI b ↔ a = b :=
  ⟨fun h => by have := congrArg toNats h; rwa [toNats_natI, toNats_natI] at this, fun h => by rw [h]⟩

def SameLEnd (xss yss : List (List Nat)) (w : World) (e : Ending) (w' : World) : Prop := e = .returned (.bool (decide (xss = yss))) ∧ Below w.heap.size w w'

set_option maxRecDepth 100000 in
set_option maxHeartbeats 4000000 in
theorem sameLists_any (u v : Value) (us vs : List Value) (xss yss : List (List Nat)) (w : World) (hu : LRow w u us xss) (hv : LRow w v vs yss) (hx : ∀ x ∈ xss, x.length ≤ 100000) (hy : ∀ x ∈ yss, x.length ≤ 100000) (hlen : us.length ≤ 200000) (hlen2 : vs.length ≤ 200000) :
    Calls Tryz.prog 68 #[u, v] w (SameLEnd xss yss w) := by
  have HU := Lib.hid hu
  have HV := Lib.hid hv
  have HX := Lib.hid hx
  have HY := Lib.hid hy
  have HUL := Lib.hid hu.len
  have HVL := Lib.hid hv.len
  obtain ⟨a, ca, rfl, hca, hma, hfa⟩ := hu.form
  obtain ⟨b, cb, rfl, hcb, hmb, hfb⟩ := hv.form
  have HFA := Lib.hid hfa
  have HFB := Lib.hid hfb
  clear hu hv hx hy hfa hfb
  by_cases hl : us.length = vs.length
  · have HL := Lib.hid hl
    rw [← hl] at hcb hlen2 ⊢
    clear hl
    go_enter Tryz.func68, Tryz.ntmps68
    go_wp2_with fail
    go_loopw [5] (fun i wr => ∃ k : Nat, k ≤ us.length ∧ i = .int .i64 (k : Int) ∧ Hid (xss.take k = yss.take k) ∧ Below w.heap.size w wr) (fun i _ => us.length - (intOf i).toNat)
    case atStart => exact ⟨0, Nat.zero_le _, rfl, Lib.hid rfl, Below.refl _ _⟩
    case round =>
      obtain ⟨k, hk, rfl, HT, hbel⟩ := hrel
      by_cases hlt : k < us.length
      · have hlx : k < xss.length := by have := HUL.out; omega
        have hly : k < yss.length := by have := HVL.out; have := HL.out; omega
        have hlv : k < vs.length := by have := HL.out; omega
        obtain ⟨ba, oa, rfl, hcx⟩ := HFA.out (fun h => by rw [h] at hlt; simp at hlt)
        obtain ⟨bb, ob, rfl, hcy⟩ := HFB.out (fun h => by rw [h] at hlv; simp at hlv)
        have e1 := (hbel.cell (p := ⟨ba, oa + k, none⟩) (World.block_lt_of_cell? _ _ (hcx k hlt))).trans (hcx k hlt)
        have e2 := (hbel.cell (p := ⟨bb, ob + k, none⟩) (World.block_lt_of_cell? _ _ (hcy k hlv))).trans (hcy k hlv)
        have r1 := row_keeps (HU.out.row k hlt hlx) hbel
        have r2 := row_keeps (HV.out.row k hlv hly) hbel
        have l1 := HX.out _ (List.getElem_mem hlx)
        have l2 := HY.out _ (List.getElem_mem hly)
        have HTT : Hid (xss[k] = yss[k] → xss.take (k + 1) = yss.take (k + 1)) := Lib.hid (fun e => by rw [List.take_succ_eq_append_getElem hlx, List.take_succ_eq_append_getElem hly, HT.out, e])
        have HNE : Hid (xss[k] ≠ yss[k] → xss ≠ yss) := Lib.hid (fun h e => h (by subst e; rfl))
        clear hcx hcy
        generalize xss[k] = x at *
        generalize yss[k] = y at *
        generalize us[k] = uk at *
        generalize vs[k] = vk at *
        obtain ⟨xa, xc, rfl, _, _, _, _⟩ := id r1
        obtain ⟨ya, yc, rfl, _, _, _, _⟩ := id r2
        simp only [natI_length] at *
        have S0 : Hid (wr.drew.cell? ⟨ba, oa + k, none⟩ = some (.slice xa x.length xc) ∧ wr.drew.cell? ⟨bb, ob + k, none⟩ = some (.slice ya y.length yc)) := Lib.hid ⟨e1, e2⟩
        have HS := Lib.hid (fun (W : World) h1 h2 => sameBytes_any (.slice xa x.length xc) (.slice ya y.length yc) (natI x) (natI y) W h1 h2 (by rw [natI_length]; omega) (by rw [natI_length]; omega))
        have HR := Lib.hid (And.intro (Elems.of_row (row_keeps r1 (Below.refl _ wr).drew)) (Elems.of_row (row_keeps r2 (Below.refl _ wr).drew)))
        have HBW := Lib.hid hbel
        clear e1 e2 r1 r2 hbel
        go_wp2_with fail
        go_region_held3 (fun W : World => W.cell? ⟨ba, oa + k, none⟩ = some (.slice xa x.length xc) ∧ W.cell? ⟨bb, ob + k, none⟩ = some (.slice ya y.length yc)) (first | exact S0.out | exact S3.out)
          (first | (go_at_call 61; refine (HS.out _ HR.out.1 HR.out.2).mono ?_; rintro e w3 ⟨rfl, hb3⟩; have S3 := Lib.hid (And.intro ((hb3.cell (p := ⟨ba, oa + k, none⟩) (World.block_lt_of_cell? _ _ S0.out.1)).trans S0.out.1) ((hb3.cell (p := ⟨bb, ob + k, none⟩) (World.block_lt_of_cell? _ _ S0.out.2)).trans S0.out.2)); have HB3 := Lib.hid hb3; clear hb3))
        have hbb := below_then (HBW.out.trans ((Below.refl _ wr).drew)) HB3.out
        by_cases hxy : x = y
        · rw [decide_eq_true (natI_inj.2 hxy)]
          have HT1 := Lib.hid (HTT.out hxy)
          clear hxy
          go_wp2_with fail
          go_roundw
          case rel => exact ⟨k + 1, by omega, by go_num, HT1, hbb⟩
          case measure => simp [intOf]; omega
        · rw [decide_eq_false (fun h => hxy (natI_inj.1 h))]
          have HN := Lib.hid (decide_eq_false (HNE.out hxy))
          clear hxy
          go_wp2_with fail
          go_ret
          exact ⟨by rw [HN.out]; rfl, hbb⟩
      · have he : k = us.length := by omega
        have HE : Hid (xss = yss) := Lib.hid (by
          have h1 := HT.out
          rwa [List.take_of_length_le (by have := HUL.out; omega), List.take_of_length_le (by have := HVL.out; have := HL.out; omega)] at h1)
        have HD := Lib.hid (decide_eq_true HE.out)
        clear HE
        go_wp2_with fail
        go_ret
        exact ⟨by rw [HD.out]; rfl, hbel⟩
  · have hne : xss ≠ yss := fun e => hl (by rw [HUL.out, HVL.out, e])
    have HNE := Lib.hid (decide_eq_false hne)
    go_enter Tryz.func68, Tryz.ntmps68
    go_wp2_with fail
    go_ret
    exact ⟨by rw [HNE.out]; rfl, Below.refl _ _⟩

/-- Few and short records. -/
def Shorts (xss : List (List Nat)) : Prop := xss.length ≤ 6 ∧ ∀ x ∈ xss, x.length ≤ 10 ∧ ∀ c ∈ x, c < 256
/-- As RecsEnd: and the records lie in new blocks. -/
def RecsNew (w : World) (e : Ending) (w' : World) : Prop := ∃ u us xss, e = .returned u ∧ LOwn w.heap.size w' u us xss ∧ Shorts xss ∧ Below w.heap.size w w' ∧ ∀ y ∈ us, ∀ k, blockOf y k → w.heap.size ≤ k
/-- As RecsNew: and there are as many as there are numbers, up to 6. -/
def RecsLen (zs : List Int) (w : World) (e : Ending) (w' : World) : Prop := ∃ u us xss, e = .returned u ∧ LOwn w.heap.size w' u us xss ∧ Shorts xss ∧ Below w.heap.size w w' ∧ (∀ y ∈ us, ∀ k, blockOf y k → w.heap.size ≤ k) ∧ xss.length = min zs.length 6
def RecsEnd (w : World) (e : Ending) (w' : World) : Prop := ∃ u us xss, e = .returned u ∧ LOwn w.heap.size w' u us xss ∧ Shorts xss ∧ Below w.heap.size w w'

theorem run_append_keep {W : World} {B g n cap : Nat} {zs : List Int} (hn : n = zs.length) (hown : Fresh B 5 .u8 W (.slice (some ⟨g, 0, none⟩) n cap) zs) {ty : TypeId} {h m c : Nat} {ys : List Int} (hm : ys.length = m)
    (hnews : ∀ j u, (ys.map (Value.int .u8))[j]? = some u → W.cell? ((⟨h, 0, none⟩ : Addr).add j) = some u) (hlen : zs.length + m ≤ 1000000) (hB : B ≤ W.heap.size) :
    ∃ v' w', (Builtin.append_ #[33, 33] ty #[.slice (some ⟨g, 0, none⟩) n cap, .slice (some ⟨h, 0, none⟩) m c]).run Tryz.prog W = .ok v' w' ∧ Fresh B 5 .u8 w' v' (zs ++ ys) ∧ W.grownBy w' (some g) ∧ Elems .u8 w' (.slice (some ⟨g, 0, none⟩) n cap) zs := by
  subst hn
  obtain ⟨i0, hi, hz0, hz1, hz2⟩ := info_parts info_u8
  obtain ⟨v', w', h1, h2, h3, _, h5⟩ := run_append_own_at (P := Tryz.prog) W B 33 ty 5 i0 (.int .u8 0) 1 1 under_bytes hi hz0 hz1 hz2 rfl (by decide) (.slice (some ⟨g, 0, none⟩) zs.length cap) zs.length (zs.map (Value.int .u8)) hown ⟨h, 0, none⟩ m c (ys.map (Value.int .u8)) (by simp; exact hm) hnews (by
      intro q hq
      obtain ⟨z, _, rfl⟩ := List.mem_map.1 hq
      rfl) (by unfold maxLen; omega) (by omega) hB
  have hf : Fresh B 5 .u8 w' v' (zs ++ ys) := by
    unfold Fresh
    rw [List.length_append, List.map_append, hm]
    exact h2
  refine ⟨v', w', h1, hf, h3, ?_⟩
  by_cases hroom : zs.length + m ≤ cap
  · have hv : v' = .slice (some ⟨g, 0, none⟩) (zs.length + m) cap := by
      rcases hown.2 with ⟨e, _⟩ | ⟨g', cap', cur, e, _, hg, hc1, _, hcs, _⟩
      · cases e
      · injection e with e1 _ e3
        injection e1 with e1
        injection e1 with e1
        subst e1 e3
        have hr := run_append_room (P := Tryz.prog) W 33 ty 5 i0 under_bytes hi g zs.length cap cur hg ⟨h, 0, none⟩ m c (ys.map (Value.int .u8)) (by rw [hz1]; simp; exact hm) hnews (by
          intro q hq
          obtain ⟨z, _, rfl⟩ := List.mem_map.1 hq
          rfl) hroom (by rw [hz1]; simp; omega)
        rw [hr] at h1
        injection h1 with h1
        exact h1.symm
    subst hv
    refine ⟨_, cap, rfl, fun hne => ?_⟩
    obtain ⟨a, c', e, _, hc⟩ := fresh_elems hf
    obtain ⟨b, off, e2, hcc⟩ := hc (fun e => by have := congrArg List.length e; rw [List.length_append, List.length_nil] at this; exact hne (List.eq_nil_of_length_eq_zero (by omega)))
    injection e with e3
    rw [e2] at e3
    refine ⟨b, off, e3, fun j hj => ?_⟩
    have := hcc j (by rw [List.length_append]; omega)
    rw [List.getElem?_append_left hj] at this
    exact this
  · obtain ⟨a, c', e, _, hc⟩ := fresh_elems hown
    injection e with e3
    have hr := run_append_grow (P := Tryz.prog) W 33 ty 5 i0 (.int .u8 0) under_bytes hi hz0 ⟨g, 0, none⟩ zs.length cap (zs.map (Value.int .u8)) (by rw [hz1]; simp) (fun j u hu => World.ownsRow.cells hown (g := g) rfl j u hu) ⟨h, 0, none⟩ m c (ys.map (Value.int .u8)) (by rw [hz1]; simp; exact hm) hnews (by omega) (by omega) (growslice_fits (by omega) (by rw [hz2]; omega))
    rw [hr] at h1
    injection h1 with _ h1
    refine ⟨_, cap, rfl, fun hne => ?_⟩
    obtain ⟨b, off, e2, hcc⟩ := hc hne
    refine ⟨b, off, e3.trans e2, fun j hj => ?_⟩
    rw [← h1]
    have hc1 := hcc j hj
    exact (World.cell?_of_block (w := W) (a := ⟨b, off + j, none⟩) (Below.heap_alloc W.drew _ _ (World.block_lt_of_cell? _ _ hc1))).trans hc1

/-- At the list of a plain region's operations. -/
theorem wpList_append_keep {W : World} {ops : Array Oper} {rest : List Oper} {o : Oper} {a : Act} {Q : Exit → Act → World → Prop} (hgd : o.guard = none) (s x : Operand)
    (ho : o.op = .call { callee := .builtin .append, args := #[s, x], argTypes := #[33, 33] })
    (B g n cap : Nat) (zs : List Int) (hv : a.eval s = .slice (some ⟨g, 0, none⟩) n cap) (hn : n = zs.length) (hown : Fresh B 5 .u8 W (.slice (some ⟨g, 0, none⟩) n cap) zs) (h m c : Nat) (ys : List Int) (hx : a.eval x = .slice (some ⟨h, 0, none⟩) m c) (hm : ys.length = m)
    (hnews : ∀ j u, (ys.map (Value.int .u8))[j]? = some u → W.cell? ((⟨h, 0, none⟩ : Addr).add j) = some u) (hlen : zs.length + m ≤ 1000000) (hB : B ≤ W.heap.size)
    (hk : ∀ v' w', Fresh B 5 .u8 w' v' (zs ++ ys) → W.grownBy w' (some g) → Elems .u8 w' (.slice (some ⟨g, 0, none⟩) n cap) zs → wpList Tryz.prog ops Q rest (a.put o.dst v') w') : wpList Tryz.prog ops Q (o :: rest) a W := by
  refine wpList_plain hgd fun K hK => ?_
  obtain ⟨v', w', hr, h1, h2, h3⟩ := run_append_keep (ty := o.type) hn hown (h := h) (m := m) (c := c) hm hnews hlen hB
  unfold Oper.wp execOp
  simp only [ho, resolve, invoke, builtin, Sem.run_bind, Sem.run_pure, Result.andThen_ok, List.map_toArray, List.map_cons, List.map_nil, hv, hx, hr]
  exact hK _ _ (hk v' w' h1 h2 h3)

theorem fresh_far {A : Foot} {B g n c : Nat} {e : TypeId} {k : IntKind} {w w' : World} {zs : List Int} (h : Fresh B e k w (.slice (some ⟨g, 0, none⟩) n c) zs) (hk : Keeps A w w') (hg : ¬ A g) : Fresh B e k w' (.slice (some ⟨g, 0, none⟩) n c) zs :=
  own_foot h hk (fun j hj => by cases hj; exact hg)

theorem elems_below {k : IntKind} {w w' : World} {v : Value} {zs : List Int} (h : Elems k w v zs) (hb : Below w.heap.size w w') : Elems k w' v zs := by
  obtain ⟨a, cap, h1, h2⟩ := h
  refine ⟨a, cap, h1, fun hne => ?_⟩
  obtain ⟨b, off, e, hc⟩ := h2 hne
  exact ⟨b, off, e, fun j hj => (hb.cell (p := ⟨b, off + j, none⟩) (World.block_lt_of_cell? _ _ (hc j hj))).trans (hc j hj)⟩

theorem frameN_ge4 (n : Int) (b : List Nat) : 4 ≤ (frameN n b).length := by
  unfold frameN coreN
  have h1 := varN_pos (varN (zigN n) ++ (varN b.length ++ b)).length
  have h2 := varN_pos (zigN n)
  have h3 := varN_pos b.length
  have h4 := varN_pos (bytesN frameL (varN (zigN n) ++ (varN b.length ++ b)))
  simp only [List.length_append] at *
  omega
theorem core07 : coreN 0 [7] = [0, 1, 7] := by
  unfold coreN
  rw [show zigN 0 = 0 by decide, varN_small (show 0 < 128 by decide), show ([7] : List Nat).length = 1 from rfl, varN_small (show 1 < 128 by decide)]
  rfl
theorem frame07 : frameN 0 [7] = (varN 3 ++ [0, 1, 7]) ++ varN (bytesN frameL [0, 1, 7]) := by
  unfold frameN
  rw [core07]
  rfl
theorem frame07_len : 4 < (frameN 0 [7]).length ∧ (frameN 0 [7]).length ≤ 41 := by
  have h1 := frameN_len (n := 0) (by decide) (b := [7]) (by decide)
  rw [show ([7] : List Nat).length = 1 from rfl] at h1
  refine ⟨?_, by omega⟩
  rw [frame07, List.length_append, List.length_append]
  have h2 := varN_pos 3
  have h3 := varN_pos (bytesN frameL [0, 1, 7])
  have h4 : ([0, 1, 7] : List Nat).length = 3 := rfl
  omega
theorem scan07 : scanP 0 (frameN 0 [7] ++ [3, 0, 1]) = [([7], (frameN 0 [7]).length)] := by
  have h := scanP_frames [[7]] 0 [3, 0, 1] (by decide) (by decide)
  have e : framesN 0 [[7]] = frameN 0 [7] := by
    rw [framesN, framesN, List.append_nil]; rfl
  have e3 : scanP (0 + ([[7]] : List (List Nat)).length) [3, 0, 1] = [] := by
    refine scanP_no fun hp => ?_
    have h1 := hp.length_le
    have h2 := frameN_ge4 ((0 + ([[7]] : List (List Nat)).length : Nat) : Int) (headN [3, 0, 1])
    have h3 : ([3, 0, 1] : List Nat).length = 3 := rfl
    omega
  rw [e, e3, List.append_nil] at h
  rw [h, pairsN, pairsN]
  rfl

set_option maxRecDepth 100000 in
set_option maxHeartbeats 4000000 in
theorem lives6_any (w : World) :
    Calls Tryz.prog 30 #[] w fun e w' => e = .returned (.bool true) ∧ Below w.heap.size w w' := by
  have HFL := Lib.hid frame07_len
  have HFR := Lib.hid (fun (v : Value) (w : World) h1 h2 => devFrame_any 0 v [7] w (by decide) h1 (by decide) h2 (by decide))
  have HF8 := Lib.hid (frameN_lt (n := 0) (b := [7]) (by decide))
  have HFE := Lib.hid frame07
  have HSC := Lib.hid scan07
  have HH := Lib.hid (bytesN_lt frameL [0, 1, 7])
  generalize frameN 0 [7] = F at *
  go_enter Tryz.func30, Tryz.ntmps30
  go_wp2_with fail
  have hb0 : Below w.heap.size w (w.alloc (.cells #[.int .u8 7] 5)) := (Below.refl _ w).alloc (Nat.le_refl _) _
  have hs0 : (w.alloc (.cells #[.int .u8 7] 5)).heap.size = w.heap.size + 1 := by simp
  have hr0 : Row .u8 (w.alloc (.cells #[.int .u8 7] 5)) (.slice (some ⟨w.heap.size, 0, none⟩) 1 1) (natI [7]) := row_of_fresh (fresh_lit w w.heap.size 5 .u8 [7] (Nat.le_refl _) (by simp))
  generalize w.alloc (.cells #[.int .u8 7] 5) = w0 at *
  refine (HFR.out _ _ hr0 (fun j hj => by have : j = w.heap.size := hj; omega)).mono ?_
  rintro e w1 ⟨f, rfl, hf1, hb1⟩
  have hb01 := below_then hb0 hb1
  have hs1 := hb1.size
  have HF1 := Lib.hid (fresh_mono hf1 (show w.heap.size ≤ w0.heap.size by omega))
  obtain ⟨gf, cf, rfl, hgf, hgl, hcf⟩ := fresh_some (fresh_mono hf1 (show w.heap.size ≤ w0.heap.size by omega)) (fun e => by have h1 := congrArg List.length e; rw [natI_length, List.length_nil] at h1; have := HFL.out; omega)
  simp only [natI_length] at *
  clear hr0 hf1 hb1 hb0
  go_wp2_with fail
  -- the writer, and three bytes
  have hW2 : Wr ((w1.alloc (.cells #[.slice none 0 0] 35)).alloc (.cells #[.int .u8 0, .int .u8 1, .int .u8 7] 5)) w1.heap.size w1.heap.size [] := wr_below (wr_new w1) ((Below.refl _ _).alloc (Nat.le_refl _) _)
  have hr2 : Row .u8 ((w1.alloc (.cells #[.slice none 0 0] 35)).alloc (.cells #[.int .u8 0, .int .u8 1, .int .u8 7] 5)) (.slice (some ⟨w1.heap.size + 1, 0, none⟩) 3 3) (natI [0, 1, 7]) := by
    have := row_of_fresh (fresh_lit (w1.alloc (.cells #[.slice none 0 0] 35)) 0 5 .u8 [0, 1, 7] (Nat.zero_le _) (by simp))
    rw [World.size_alloc] at this
    exact this
  have hb2 : Below w1.heap.size w1 ((w1.alloc (.cells #[.slice none 0 0] 35)).alloc (.cells #[.int .u8 0, .int .u8 1, .int .u8 7] 5)) := ((Below.refl _ w1).alloc (Nat.le_refl _) _).alloc (by simp) _
  have hs2 : ((w1.alloc (.cells #[.slice none 0 0] 35)).alloc (.cells #[.int .u8 0, .int .u8 1, .int .u8 7] 5)).heap.size = w1.heap.size + 2 := by simp
  generalize (w1.alloc (.cells #[.slice none 0 0] 35)).alloc (.cells #[.int .u8 0, .int .u8 1, .int .u8 7] 5) = w2 at *
  have HF2 := Lib.hid (fresh_keeps HF1.out hb2)
  have hb02 := below_then hb01 hb2
  refine (devRaw_any _ _ [] _ [0, 1, 7] w2 hW2 hr2 (fun j hj => by have : j = w1.heap.size + 1 := hj; omega) (by simp)).mono ?_
  rintro e w3 ⟨rfl, g3, hw3, hg3, hk3⟩
  rw [List.nil_append] at hw3
  have hb03 := below_foot hb02 hk3 (by omega) (fun k hk => by omega)
  have HF3 := Lib.hid (fresh_far HF2.out hk3 (by omega))
  have hs3 := hk3.size
  have HW3 := Lib.hid hw3
  clear hW2 hr2 hb2 hk3 hw3 hb01 hb02 HF1 HF2
  go_wp2_with fail
  -- the hash of three bytes
  have hr4 : Row .u8 (w3.alloc (.cells #[.int .u8 0, .int .u8 1, .int .u8 7] 5)) (.slice (some ⟨w3.heap.size, 0, none⟩) 3 3) (natI [0, 1, 7]) := row_of_fresh (fresh_lit w3 0 5 .u8 [0, 1, 7] (Nat.zero_le _) (by simp))
  have hf4 : Fresh 0 5 .u8 (w3.alloc (.cells #[.int .u8 0, .int .u8 1, .int .u8 7] 5)) (.slice (some ⟨w3.heap.size, 0, none⟩) 3 3) (natI [0, 1, 7]) := fresh_lit w3 0 5 .u8 [0, 1, 7] (Nat.zero_le _) (by simp)
  have hb4 : Below w3.heap.size w3 (w3.alloc (.cells #[.int .u8 0, .int .u8 1, .int .u8 7] 5)) := (Below.refl _ w3).alloc (Nat.le_refl _) _
  have hs4 : (w3.alloc (.cells #[.int .u8 0, .int .u8 1, .int .u8 7] 5)).heap.size = w3.heap.size + 1 := by simp
  generalize w3.alloc (.cells #[.int .u8 0, .int .u8 1, .int .u8 7] 5) = w4 at *
  have hby := Bytes.of_fresh hf4 (by simp [natI]) (natI_range (by decide))
  rw [toNats_natI] at hby
  refine (bytes_any _ _ [0, 1, 7] w4 (by decide) hby (fun j hj => by have : j = w3.heap.size := hj; omega) (by simp)).mono ?_
  rintro e w5 ⟨rfl, hb5⟩
  have hb45 := below_then hb4 hb5
  have HW5 := Lib.hid (wr_below HW3.out hb45)
  have HF5 := Lib.hid (fresh_keeps HF3.out hb45)
  have hb05 := below_then hb03 hb45
  have hs5 := hb45.size
  have HE : Hid (bytesN (strN { data := #[102, 114, 97, 109, 101] }) [0, 1, 7] = bytesN frameL [0, 1, 7]) := Lib.hid rfl
  rw [HE.out]
  generalize bytesN frameL [0, 1, 7] = h at *
  clear hr4 hf4 hb4 hby hb5 hb45 HE HW3 HF3 hb03
  go_wp2_with fail
  refine (devUint_any _ _ _ h w5 HW5.out HH.out (by have := varN_len10 (n := 3) (by decide); rw [List.length_append]; simp; omega)).mono ?_
  rintro e w6 ⟨rfl, g6, hw6, hg6, hk6⟩
  have hl5 := HW5.out.lts
  have hb06 := below_foot hb05 hk6 (by omega) (fun k hk => by omega)
  have HF6 := Lib.hid (fresh_far HF5.out hk6 (by omega))
  have hs6 := hk6.size
  rw [show [0, 1, 7].length = 3 from rfl, ← HFE.out] at hw6
  have HW6 := Lib.hid hw6
  clear hk6 hw6 HW5 HF5 hb05 HFE
  have hfl4 := HFL.out.1
  have HF7 := Lib.hid (fresh_keeps HF6.out ((Below.refl _ w6).alloc (Nat.le_refl _) (.cells #[.int .u8 3, .int .u8 0, .int .u8 1] 5)))
  have HN7 : Hid (∀ j u, (([3, 0, 1] : List Int).map (Value.int .u8))[j]? = some u → (w6.alloc (.cells #[.int .u8 3, .int .u8 0, .int .u8 1] 5)).cell? ((⟨w6.heap.size, 0, none⟩ : Addr).add j) = some u) := Lib.hid (fun j u hu => by
    rw [add_none, Nat.zero_add]
    exact ((Laid.new w6 5 [.int .u8 3, .int .u8 0, .int .u8 1]).cell j).trans hu)
  have HNA : Hid (natI F ++ [3, 0, 1] = natI (F ++ [3, 0, 1])) := Lib.hid (by simp [natI])
  have HNL : Hid (F.length = (natI F).length) := Lib.hid (natI_length F).symm
  have HNB : Hid ((natI F).length + 3 ≤ 1000000) := Lib.hid (by have := HFL.out.2; rw [natI_length]; omega)
  have hb7 : Below w6.heap.size w6 (w6.alloc (.cells #[.int .u8 3, .int .u8 0, .int .u8 1] 5)) := (Below.refl _ w6).alloc (Nat.le_refl _) _
  have HW7 := Lib.hid (wr_below HW6.out hb7)
  have HB7 := Lib.hid (below_then hb06 hb7)
  have hs7 : (w6.alloc (.cells #[.int .u8 3, .int .u8 0, .int .u8 1] 5)).heap.size = w6.heap.size + 1 := by simp
  have HS7 := Lib.hid hs7
  clear hb7 hs7 HF6 HW6 hb06
  go_wp2_with (at_builtin; go_must (refine wpList_append_keep rfl _ _ rfl w.heap.size gf F.length cf (natI F) rfl HNL.out HF7.out w6.heap.size 3 3 [3, 0, 1] rfl rfl HN7.out HNB.out HB7.out.size ?_); intro v8 w8 hf8 hg8 he8; have HG8 := Lib.hid (And.intro hf8 (And.intro hg8 he8)); clear hf8 hg8 he8)
  obtain ⟨hf8, hg8, he8⟩ := HG8.out
  rw [HNA.out] at hf8
  have hsg8 := hg8.size
  have hs7 := HS7.out
  have hb8 : Below w.heap.size w w8 := HB7.out.grown hg8 HB7.out.size (fun k e => by cases e; exact hgf)
  have hl6 := HW7.out.lts
  have HW8 := Lib.hid (wr_keeps HW7.out (Keeps.of_grown (A := fun k => k = gf) hg8 (fun k e => by cases e; rfl)) (by omega) (by omega))
  have HE8 := Lib.hid he8
  have hlen8 : (F ++ [3, 0, 1]).length ≤ 100000 := by have := HFL.out.2; rw [List.length_append]; simp; omega
  have h88 : ∀ c ∈ F ++ [3, 0, 1], c < 256 := fun c hc => by
    rcases List.mem_append.1 hc with h1 | h1
    · exact HF8.out c h1
    · simp at h1; omega
  have HSCN := Lib.hid (devScan_any v8 (F ++ [3, 0, 1]) w8 (row_of_fresh hf8) h88 (fresh_block hf8) hlen8)
  clear hf8 hg8 he8 HG8 HF7 HW7 HB7 HN7 hlen8 h88
  refine HSCN.out.mono ?_
  rintro e w9 ⟨u, us, rfl, ho9, hb9⟩
  rw [HSC.out] at ho9 ⊢
  rw [show ((([([7], F.length)] : List (List Nat × Nat)).map Prod.snd).sum : Nat) = F.length by simp] 
  rw [show ([([7], F.length)] : List (List Nat × Nat)).map Prod.fst = [[7]] from rfl] at ho9
  have HO9 := Lib.hid ho9
  have HW9 := Lib.hid (wr_below HW8.out hb9)
  have HE9 := Lib.hid (elems_below HE8.out hb9)
  have hb09 := below_then hb8 hb9
  clear ho9 hb9 HSCN HW8 HE8 hb8 HSC
  go_wp2_with fail
  refine (devDone_any _ _ _ w9 HW9.out (by have := HFL.out.2; omega)).mono ?_
  rintro e w10 ⟨q, rfl, hq, hb10⟩
  have HQ := Lib.hid hq
  have HE10 := Lib.hid (elems_below HE9.out hb10)
  have HO10 := Lib.hid (lown_below HO9.out hb10)
  have hb010 := below_then hb09 hb10
  clear hq hb10 HO9 HE9 hb09
  go_wp2_with fail
  refine (sameBytes_any _ q (natI F) (natI F) w10 HE10.out (Elems.of_fresh HQ.out) (by have := HFL.out.2; rw [natI_length]; omega) (by have := HFL.out.2; rw [natI_length]; omega)).mono ?_
  rintro e w11 ⟨rfl, hb11⟩
  rw [decide_eq_true (rfl : natI F = natI F)]
  have HO11 := Lib.hid (lown_below HO10.out hb11)
  have hb011 := below_then hb010 hb11
  clear hb11 HO10 hb010 HQ HE10
  go_wp2_with fail
  have hb12 : Below w11.heap.size w11 ((w11.alloc (.cells #[.int .u8 7] 5)).alloc (.cells #[.slice (some ⟨w11.heap.size, 0, none⟩) 1 1] 33)) := ((Below.refl _ w11).alloc (Nat.le_refl _) _).alloc (by simp) _
  have hr12 : Row .u8 ((w11.alloc (.cells #[.int .u8 7] 5)).alloc (.cells #[.slice (some ⟨w11.heap.size, 0, none⟩) 1 1] 33)) (.slice (some ⟨w11.heap.size, 0, none⟩) 1 1) (natI [7]) :=
    row_keeps (row_of_fresh (fresh_lit w11 0 5 .u8 [7] (Nat.zero_le _) (by simp))) ((Below.refl _ _).alloc (Nat.le_refl _) _)
  have hc12 : ((w11.alloc (.cells #[.int .u8 7] 5)).alloc (.cells #[.slice (some ⟨w11.heap.size, 0, none⟩) 1 1] 33)).cell? ⟨w11.heap.size + 1, 0, none⟩ = some (.slice (some ⟨w11.heap.size, 0, none⟩) 1 1) := by
    have := (Boxed.new (w11.alloc (.cells #[.int .u8 7] 5)) 33 (.slice (some ⟨w11.heap.size, 0, none⟩) 1 1)).cell
    rwa [World.size_alloc] at this
  generalize (w11.alloc (.cells #[.int .u8 7] 5)).alloc (.cells #[.slice (some ⟨w11.heap.size, 0, none⟩) 1 1] 33) = w12 at *
  have hl12 : LRow w12 (.slice (some ⟨w11.heap.size + 1, 0, none⟩) 1 1) [.slice (some ⟨w11.heap.size, 0, none⟩) 1 1] [[7]] :=
    ⟨rfl, ⟨_, 1, rfl, Nat.le_refl _, by decide, fun _ => ⟨w11.heap.size + 1, 0, rfl, fun j hj => by
      obtain rfl : j = 0 := by simpa using hj
      exact hc12⟩⟩, fun j hj hx => by
      obtain rfl : j = 0 := by simpa using hj
      exact hr12⟩
  refine (sameLists_any _ _ us _ [[7]] [[7]] w12 (lrow_of_own (lown_below HO11.out hb12)) hl12 (by simp) (by simp) (by rw [HO11.out.len]; simp) (by simp)).mono ?_
  rintro e w13 ⟨rfl, hb13⟩
  rw [decide_eq_true (rfl : ([[7]] : List (List Nat)) = [[7]])]
  have hbe := below_then (below_then hb011 hb12) hb13
  clear hb12 hr12 hc12 hl12 hb13 hb011 HO11
  go_wp2_with fail
  go_ret
  exact ⟨rfl, hbe⟩
end Go.Proofs.YtjoablphojkimaaGreatDoor
