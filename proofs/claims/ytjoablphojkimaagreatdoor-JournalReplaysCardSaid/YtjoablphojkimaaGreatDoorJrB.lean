/-
  Package journal: the iterator of records. Package journal: a slice of byte slices that a call has made; Scan.
-/
import Derived.Test.YtjoablphojkimaaGreatDoorJrA
import Derived.Sort.CutIn
import Derived.Maps.OwnIn
import Derived.Maps.AppendAt
namespace Go.Proofs.YtjoablphojkimaaGreatDoor
open Go.RowKit Go.Shelf
set_option linter.unusedVariables false
set_option maxRecDepth 100000

attribute [local go_sem] Oper.semAt_some

/-- A slice from a place on. -/
theorem row_drop {W : World} {b off cap n m : Nat} {k : IntKind} {l : List Int} (h : Row k W (.slice (some ⟨b, off, none⟩) n cap) l) (hm : m ≤ n) {off2 n2 c2 : Nat} (hn2 : n2 = n - m) (hoc : (c2 = cap - m ∧ off2 = off + m) ∨ (cap = m ∧ c2 = 0 ∧ off2 = off)) :
    Row k W (.slice (some ⟨b, off2, none⟩) n2 c2) (l.drop m) := by
  obtain ⟨a', cap', e1, h2, h3, h4, h5⟩ := h
  injection e1 with e1 e2 e3
  subst e1 e2 e3 hn2
  have hl : (l.drop m).length = l.length - m := List.length_drop
  rcases hoc with ⟨rfl, rfl⟩ | ⟨h6, rfl, rfl⟩
  · refine ⟨_, cap - m, by rw [hl], by rw [hl]; omega, by omega, fun hne => ⟨b, off + m, rfl, fun j hj => ?_⟩, fun h => by cases h⟩
    obtain ⟨b', off', e4, hc⟩ := h4 (fun h => by rw [h] at hne; simp at hne)
    cases e4
    rw [hl] at hj
    have := hc (m + j) (by omega)
    rw [← Nat.add_assoc] at this
    rw [this, List.getElem?_drop]
  · have hz : l.length - m = 0 := by omega
    have hnil : l.drop m = [] := List.drop_of_length_le (by omega)
    rw [hnil, hz]
    exact ⟨_, 0, rfl, Nat.le_refl _, by decide, fun h => (h rfl).elim, fun h => by cases h⟩

def recE (x : List Nat × Nat) (vs : Array Value) (W : World) : Prop := ∃ v, vs = #[v, .int .i64 (x.2 : Int)] ∧ Fresh 0 5 .u8 W v (natI x.1) ∧ (∀ c ∈ x.1, c < 256)
def recT (vs : Array Value) : Foot := match vs[0]? with
  | some v => blockOf v
  | none => fun _ => False

theorem recordsOf_any (a : Option Addr) (len cap : Nat) (w : World) :
    Calls Tryz.prog 93 #[.slice a len cap] w fun e w' =>
      e = .returned (.func (.func 110) #[] #[.pointer (some ⟨w.heap.size, 0, none⟩)]) ∧ w' = w.alloc (.cells #[.slice a len cap] 33) := by
  go_enter Tryz.func93, Tryz.ntmps93
  go_wp2
  go_ret
  exact ⟨rfl, rfl⟩

/-- The state of the iterator behind k records. -/
structure RecIs (W : World) (Bb : Nat) (sv : Value) (l : List Nat) (J : List (List Nat × Nat) → Foot → World → Prop) (r b k : Nat) (pre : List (List Nat × Nat)) (rest : List Nat) (A1 : Foot) (wr : World) (s4 : Value) : Prop where
  len : pre.length = k
  all : scanP 0 l = pre ++ scanP k rest
  le : k + rest.length ≤ l.length
  b8 : ∀ c ∈ rest, c < 256
  row : Row .u8 wr s4 (natI rest)
  src : ∀ j, blockOf s4 j → blockOf sv j
  rx : Rx wr r b (rest, 0)
  j : J pre A1 wr
  nr : ¬ A1 r
  nb : ¬ A1 b
  ns : ∀ j, blockOf sv j → ¬ A1 j ∧ j < W.heap.size
  rW : W.heap.size ≤ r
  bW : W.heap.size ≤ b
  blt : b < wr.heap.size
  size : W.heap.size ≤ wr.heap.size

set_option maxRecDepth 100000 in
set_option maxHeartbeats 4000000 in
theorem records_gives (Bb : Nat) (sv : Value) (l : List Nat) (w : World) (hb : w.cell? ⟨Bb, 0, none⟩ = some sv) (hl : Row .u8 w sv (natI l)) (h8 : ∀ c ∈ l, c < 256) (hlen : l.length ≤ 100000) :
    GivesT Tryz.prog 110 #[.pointer (some ⟨Bb, 0, none⟩)] recE recT (fun k => k = Bb ∨ blockOf sv k) (scanP 0 l) w := by
  intro lo J Jx A W hQ hJ hJx hY h0
  have hQb := hQ Bb (.inl rfl)
  have cb := (World.cell?_of_block hQb.1).trans hb
  have hrow : Row .u8 W sv (natI l) := by
    obtain ⟨a, cap, rfl, h2, h3, h4, h5⟩ := hl
    refine ⟨a, cap, rfl, h2, h3, fun hne => ?_, h5⟩
    obtain ⟨b, off, rfl, hc⟩ := h4 hne
    exact ⟨b, off, rfl, fun j hj => (World.cell?_of_block (hQ b (.inr rfl)).1).trans (hc j hj)⟩
  have HSB := Lib.hid (fun j hj => (⟨(hQ j (.inr hj)).2.1, (hQ j (.inr hj)).2.2⟩ : ¬ A j ∧ j < W.heap.size))
  have hBlt := hQb.2.2
  have HROW := Lib.hid hrow
  have H8 := Lib.hid h8
  have HL := Lib.hid hlen
  have HJ := Lib.hid hJ
  have HJX := Lib.hid hJx
  have HY := Lib.hid hY
  have H0 := Lib.hid h0
  clear hb hl hQ hQb hrow h8 hlen hJ hJx hY h0
  obtain ⟨a, cap, rfl, _, _, _, _⟩ := HROW.out
  rw [natI_length] at *
  refine callsIn_of_wp Tryz.func110 rfl trivial ?_ rfl
  simp only [Tryz.ntmps110, List.size_toArray, List.length_cons, List.length_nil, Nat.reduceAdd, Nat.reduceSub, Array.replicate_succ, Array.replicate_zero, List.push_toArray, List.append_toArray, List.nil_append, List.cons_append]
  have hmx : Tryz.prog.follows .mixedOrders = true := by kernel_rfl
  gi_upto_region 0 with fail
  gi_cut [3, 4] from 8 (fun s3 s4 wx => ∃ r b, s3 = .pointer (some ⟨r, 0, none⟩) ∧ s4 = .slice a l.length cap ∧ Hid (Rx wx r b (l, 0) ∧ Below W.heap.size W wx ∧ W.heap.size ≤ r ∧ W.heap.size ≤ b ∧ b < wx.heap.size))
  case first =>
    gi_region_with_o (refine ⟨trivial, rfl, ?_⟩; gi_at_call 17; refine (callsIn_wide.2 (devRead_any _ l _ (row_keeps HROW.out (Below.refl _ _).drew) H8.out (by have := HL.out; omega))).mono ?_; rintro e w' ⟨r, b, rfl, hw, hr, hb, hb2, hbl⟩; have cb2 := (hbl.cell (p := ⟨Bb, 0, none⟩) hBlt).trans cb; have HR := Lib.hid (And.intro (rx_of hw) (And.intro hbl (And.intro hr (And.intro hb hb2)))); clear hw hr hb hb2 hbl)
    all_goals
      gi_wp2_with fail
      gi_meet
      exact ⟨r, b, rfl, rfl, Lib.hid ⟨HR.out.1, (Below.refl _ W).drew.trans HR.out.2.1, HR.out.2.2.1, HR.out.2.2.2.1, HR.out.2.2.2.2⟩⟩
  case rest =>
    obtain ⟨r, b, rfl, rfl, HR⟩ := hcut
    gi_wp2_with fail
    gi_loopw [4, 5] (fun s4 s5 wr => ∃ (k : Nat) (pre : List (List Nat × Nat)) (rest : List Nat) (A1 : Foot), s5 = .int .i64 (k : Int) ∧ (∃ a4 c4, s4 = .slice a4 rest.length c4) ∧ Hid (RecIs W Bb (.slice a l.length cap) l J r b k pre rest A1 wr s4))
      (fun _ s5 _ => l.length + 1 - (intOf s5).toNat)
    case atStart =>
      obtain ⟨h1, h2, h3, h4, h5⟩ := HR.out
      have hA := HJ.out.bound _ _ _ H0.out
      exact ⟨0, [], l, A, rfl, ⟨a, cap, rfl⟩, Lib.hid ⟨rfl, rfl, by omega, H8.out, row_below HROW.out (fun j hj => (HSB.out j hj).2) h2, fun _ h => h, h1,
        HJ.out.abide _ _ _ _ H0.out ((Keeps.of_below h2).mono (fun k hk h => by omega)), fun h => by have := hA r h; omega, fun h => by have := hA b h; omega, HSB.out, h3, h4, h5, h2.size⟩⟩
    case round =>
      obtain ⟨k, pre, rest, A1, rfl, ⟨a4, c4, rfl⟩, HI⟩ := hrel
      clear HR cb
      gi_wp2_with fail
      have hkr : k ≤ 100000 ∧ rest.length ≤ 100000 := by have := HI.out.le; have := HL.out; omega
      have hblt := HI.out.blt
      have hrlt := HI.out.rx.lts
      refine ⟨trivial, rfl, (callsIn_wide.2 (nextRecord_any r b (rest, 0) wr HI.out.rx HI.out.b8 (show rest.length ≤ 1000000 by omega) hblt)).mono ?_⟩
      rintro e w1 ⟨v1, rfl, hf1, hx1, hk1⟩
      have hA := HJ.out.bound _ _ _ HI.out.j
      have hs1 := hk1.size
      have HX1 := Lib.hid hx1
      have HF1 : Hid (Fresh wr.heap.size 5 .u8 w1 v1 (natI (headN rest))) := Lib.hid hf1
      have HH8 := Lib.hid (headN_lt HI.out.b8)
      have HHL := Lib.hid (headN_len rest)
      have HR1 := Lib.hid (row_foot HI.out.row hk1 (fun j hj hn => by have := (HI.out.ns j (HI.out.src j hj)).2; have := HI.out.rW; omega))
      have HJ1 := Lib.hid (HJ.out.abide _ _ _ _ HI.out.j (hk1.mono (fun i _ h => (⟨by have := HI.out.rW; omega, fun ha => HI.out.nr (h ▸ ha)⟩ : W.heap.size ≤ i ∧ ¬ A1 i))))
      clear hf1 hx1 hk1
      gi_wp2_with fail
      refine ⟨trivial, rfl, (callsIn_wide.2 (devFrame_any (k : Int) v1 (headN rest) w1 (by omega) (row_of_fresh HF1.out) HH8.out (fresh_block HF1.out) (by have := HHL.out; omega))).mono ?_⟩
      rintro e w2 ⟨v2, rfl, hf2, hb2⟩
      have hs2 := hb2.size
      have HX2 := Lib.hid (rx_below HX1.out (by omega) hb2)
      have HF2 := Lib.hid (fresh_keeps HF1.out hb2)
      have HR2 := Lib.hid (row_keeps HR1.out hb2)
      have HJ2 := Lib.hid (HJ.out.abide _ _ _ _ HJ1.out ((Keeps.of_below hb2).mono (fun i hi h => by omega)))
      have HV2 := Lib.hid hf2
      have HN := Lib.hid (next_here (n := (k : Int)) (by omega) (show rest.length ≤ 1000000 by omega))
      have HY1 : Hid (frameN (k : Int) (headN rest) <+: rest → scanP k rest = (headN rest, (frameN (k : Int) (headN rest)).length) :: scanP (k + 1) (rest.drop (frameN (k : Int) (headN rest)).length)) := Lib.hid scanP_yes
      have HY0 : Hid (¬ frameN (k : Int) (headN rest) <+: rest → scanP k rest = []) := Lib.hid scanP_no
      have HFP := Lib.hid (frameN_pos (k : Int) (headN rest))
      have HF8 := Lib.hid (frameN_lt (n := (k : Int)) HH8.out)
      clear hf2 hb2 HX1 HF1 HR1 HJ1
      generalize frameN (k : Int) (headN rest) = F at *
      generalize headN rest = X at *
      obtain ⟨fa, fc, rfl, _, _⟩ := fresh_elems HV2.out
      rw [natI_length] at *
      gi_wp2_with fail
      refine ⟨trivial, rfl, (callsIn_wide.2 (hasPrefix_any _ _ rest F w2 HR2.out (row_of_fresh HV2.out) HI.out.b8 HF8.out)).mono ?_⟩
      rintro e w3 ⟨rfl, rfl⟩
      by_cases hp : F <+: rest
      · rw [decide_eq_true hp]
        have hm := hp.length_le
        have hall := HI.out.all
        rw [HY1.out hp] at hall
        have hpre : pre ++ [(X, F.length)] <+: scanP 0 l := ⟨scanP (k + 1) (rest.drop F.length), by rw [hall]; simp⟩
        have hv1 : ∀ j, blockOf v1 j → wr.heap.size ≤ j ∧ j < w3.heap.size := fun j hj => by
          rcases fresh_form HF2.out with ⟨h1, _⟩ | ⟨g, c, h1, h2, h3, _⟩
          · rw [h1] at hj; exact hj.elim
          · rw [h1] at hj; have : j = g := hj; omega
        have hyy := HY.out pre (X, F.length) #[v1, .int .i64 (F.length : Int)] A1 w3 hpre ⟨v1, rfl, fresh_mono HF2.out (Nat.zero_le _), HH8.out⟩
          (fun j hj => by have h1 := hv1 j hj; have h2 := HI.out.size; exact ⟨fun ha => by have := hA j ha; omega, h1.2, by omega⟩) HJ2.out
        obtain ⟨fn, tmps, assign, body, hy, hR⟩ := hyy
        obtain ⟨b4, o4, rfl⟩ : ∃ b4 o4, a4 = some ⟨b4, o4, none⟩ := by
          obtain ⟨x, c, h1, _, _, h4, _⟩ := HR2.out
          obtain ⟨b', o', h5, _⟩ := h4 (fun h => by have h6 := congrArg List.length h; rw [natI_length, List.length_nil] at h6; have := HFP.out; omega)
          injection h1 with h1
          exact ⟨b', o', h1.trans h5⟩
        have HPR := Lib.hid hpre
        have HAL := Lib.hid hall
        have HP := Lib.hid hp
        have HV1 := Lib.hid hv1
        have HAB := Lib.hid hA
        have hcap : rest.length ≤ c4 ∧ c4 ≤ 9223372036854775807 := by
          obtain ⟨x, c, h1, h2, h3, _⟩ := HR2.out
          injection h1 with h1 h4 h5
          rw [natI_length] at h2
          omega
        obtain ⟨hcap1, hcap2⟩ := hcap
        have hmx2 : (F.length : Int) ≤ 9223372036854775807 := by omega
        clear hpre hall hp hv1 hA
        gi_wp2_with fail
        refine ⟨rfl, hR.mono ?_⟩
        clear hy hR
        rintro e W4 ⟨A2, hr, (⟨rfl, hJ4⟩ | ⟨rfl, hJ4⟩)⟩
        · have hr2 : ¬ A2 r := hr.not HI.out.nr (fun ht => by have := (HV1.out r ht).1; omega) (by omega)
          have hb2 : ¬ A2 b := hr.not HI.out.nb (fun ht => by have := (HV1.out b ht).1; omega) (by omega)
          have hs4 : ∀ j, blockOf (.slice a l.length cap) j → ¬ A2 j ∧ j < W.heap.size := fun j hj => by
            have h1 := HI.out.ns j hj
            have h2 := HI.out.size
            exact ⟨hr.not h1.1 (fun ht => by have := (HV1.out j ht).1; omega) (by omega), h1.2⟩
          have hrow4 := row_foot HR2.out hr.keeps (fun j hj hn => by
            have h1 := HI.out.ns j (HI.out.src j hj)
            have h2 := HI.out.size
            rcases hn with hn | hn
            · exact h1.1 hn
            · have := (HV1.out j hn).1; omega)
          have hn := HN.out HP.out
          have hx2 := HX2.out
          rw [hn.1] at hx2
          have hx4 := rx_keeps hx2 hr.keeps (fun h => h.elim HI.out.nr (fun ht => by have := (HV1.out r ht).1; omega)) (fun h => h.elim HI.out.nb (fun ht => by have := (HV1.out b ht).1; omega))
          have hsz4 := hr.keeps.size
          have hfp := HFP.out
          have hle := HI.out.le
          have hdr : natI (rest.drop F.length) = (natI rest).drop F.length := by simp [natI]
          -- the state behind the round, whatever the slice's form
          have fin : ∀ (o5 n5 c5 : Nat), n5 = rest.length - F.length → ((c5 = c4 - F.length ∧ o5 = o4 + F.length) ∨ (c4 = F.length ∧ c5 = 0 ∧ o5 = o4)) →
              Hid (RecIs W Bb (.slice a l.length cap) l J r b (k + 1) (pre ++ [(X, F.length)]) (rest.drop F.length) A2 W4 (.slice (some ⟨b4, o5, none⟩) n5 c5)) := fun o5 n5 c5 h5 h6 => Lib.hid {
            len := by rw [List.length_append, HI.out.len]; rfl
            all := by rw [HAL.out]; simp
            le := by rw [List.length_drop]; omega
            b8 := fun c hc => HI.out.b8 c (List.mem_of_mem_drop hc)
            row := by rw [hdr]; exact row_drop hrow4 hm h5 h6
            src := fun j hj => HI.out.src j hj
            rx := hx4
            j := hJ4
            nr := hr2
            nb := hb2
            ns := hs4
            rW := HI.out.rW
            bW := HI.out.bW
            blt := by omega
            size := by have := HI.out.size; omega }
          have FIN := Lib.hid fin
          clear hr hJ4 hr2 hb2 hs4 hrow4 hn hx2 hx4 hdr fin
          by_cases hc4 : c4 = F.length
          · subst hc4
            gi_wp2_with fail
            go_roundw
            case rel => exact ⟨k + 1, pre ++ [(X, F.length)], rest.drop F.length, A2, by go_num, ⟨some ⟨b4, o4, none⟩, 0, by rw [List.length_drop, show rest.length - F.length = 0 by omega]⟩, FIN.out o4 0 0 (by omega) (.inr ⟨trivial, rfl, rfl⟩)⟩
            case measure => simp [intOf]; omega
          · gi_wp2_with fail
            go_roundw
            case rel => exact ⟨k + 1, pre ++ [(X, F.length)], rest.drop F.length, A2, by go_num, ⟨_, _, by rw [List.length_drop]⟩, FIN.out _ _ _ rfl (.inl ⟨rfl, rfl⟩)⟩
            case measure => simp [intOf]; omega
        · gi_wp2_with fail
          refine bodyPost_ret (results_none rfl _ _ _) rfl ?_
          exact ⟨⟨_, rfl⟩, A2, .inr ⟨_, HPR.out, hJ4⟩⟩
      · rw [decide_eq_false hp]
        have hall := HI.out.all
        rw [HY0.out hp, List.append_nil] at hall
        have HAL := Lib.hid hall
        clear hall hp
        gi_wp2_with fail
        refine ⟨fun f h => (by cases h), ?_⟩
        gi_wp2_with fail
        refine bodyPost_ret (results_none rfl _ _ _) rfl ?_
        exact ⟨⟨_, rfl⟩, A1, .inl (by rw [HAL.out]; exact HJ2.out)⟩

attribute [local go_sem] Oper.semAt_some

theorem info_sl : (Tryz.prog.info? 33).map (fun i => (i.zero, i.size, i.bytes)) = some (some (.slice none 0 0), 1, 24) := by kernel_rfl

theorem own_foot {A : Foot} {B : Nat} {e : TypeId} {s n : Nat} {W W2 : World} {v : Value} {cs : List Value} (h : W.ownsRow B e s v n cs) (hk : Keeps A W W2) (ho : ∀ k, v.ownBlock = some k → ¬ A k) : W2.ownsRow B e s v n cs := by
  refine ⟨h.1, ?_⟩
  rcases h.2 with hn | ⟨g, cap, cur, rfl, h2, h3, h4⟩
  · exact .inl hn
  · exact .inr ⟨g, cap, cur, rfl, h2, hk.obj h3 (ho g rfl), h4⟩

theorem own_shape {B : Nat} {e : TypeId} {s n : Nat} {W : World} {v : Value} {cs : List Value} (h : W.ownsRow B e s v n cs) (hn : n ≠ 0) : ∃ g cap, v = .slice (some ⟨g, 0, none⟩) n cap := by
  rcases h.2 with ⟨_, h0⟩ | ⟨g, cap, cur, rfl, _⟩
  · exact absurd h0 hn
  · exact ⟨g, cap, rfl⟩

/-- The slice v holds the byte slices us, whose bytes are xss; its row is the call's own, none of the byte slices lies in it. -/
structure LOwn (B : Nat) (W : World) (v : Value) (us : List Value) (xss : List (List Nat)) : Prop where
  own : W.ownsRow B 33 1 v us.length us
  len : us.length = xss.length
  row : ∀ j (hj : j < us.length) (hx : j < xss.length), Row .u8 W us[j] (natI xss[j])
  lt : ∀ u ∈ us, ∀ k, blockOf u k → k < W.heap.size
  ne : ∀ u ∈ us, ∀ k, blockOf u k → v.ownBlock ≠ some k

theorem lown_nil (B : Nat) (W : World) : LOwn B W (.slice none 0 0) [] [] :=
  ⟨World.ownsRow_nil W B _ 1, rfl, fun j hj => by simp at hj, fun u hu => by simp at hu, fun u hu => by simp at hu⟩
theorem lown_foot {A : Foot} {B : Nat} {W W2 : World} {v : Value} {us : List Value} {xss : List (List Nat)} (h : LOwn B W v us xss) (hk : Keeps A W W2) (ho : ∀ k, v.ownBlock = some k → ¬ A k) (he : ∀ u ∈ us, ∀ k, blockOf u k → ¬ A k) : LOwn B W2 v us xss :=
  ⟨own_foot h.own hk ho, h.len, fun j hj hx => row_foot (h.row j hj hx) hk (he _ (List.getElem_mem hj)), fun u hu k hb => Nat.lt_of_lt_of_le (h.lt u hu k hb) hk.size, h.ne⟩
theorem lown_below {B : Nat} {W W2 : World} {v : Value} {us : List Value} {xss : List (List Nat)} (h : LOwn B W v us xss) (hb : Below W.heap.size W W2) : LOwn B W2 v us xss :=
  lown_foot h (Keeps.of_below hb) (fun k hk hn => by have := (h.own.lt k hk).2; omega) (fun u hu k hk hn => by have := h.lt u hu k hk; omega)
theorem lown_snoc {B : Nat} {W W2 : World} {v v' u : Value} {us : List Value} {xss : List (List Nat)} {x : List Nat} (h : LOwn B W v us xss) (hu : Row .u8 W u (natI x)) (hul : ∀ k, blockOf u k → k < W.heap.size ∧ v.ownBlock ≠ some k)
    (ho : W2.ownsRow B 33 1 v' (us.length + 1) (us ++ [u])) (hg : W.grownBy W2 v.ownBlock) (hat : v'.ownBlock = v.ownBlock ∨ v'.ownBlock = some W.heap.size) : LOwn B W2 v' (us ++ [u]) (xss ++ [x]) := by
  have hk : Keeps (fun k => v.ownBlock = some k) W W2 := Keeps.of_grown hg (fun k h => h)
  have hall : ∀ y ∈ us ++ [u], ∀ k, blockOf y k → k < W.heap.size ∧ v.ownBlock ≠ some k := by
    intro y hy k hb
    rcases List.mem_append.1 hy with hy | hy
    · exact ⟨h.lt y hy k hb, h.ne y hy k hb⟩
    · have : y = u := by simpa using hy
      rw [this] at hb; exact hul k hb
  refine ⟨by rw [List.length_append]; exact ho, by rw [List.length_append, List.length_append, h.len]; rfl, fun j hj hx => ?_, fun y hy k hb => Nat.lt_of_lt_of_le (hall y hy k hb).1 hk.size, fun y hy k hb hn => ?_⟩
  · by_cases h1 : j < us.length
    · rw [List.getElem_append_left h1, List.getElem_append_left (by rw [← h.len]; exact h1)]
      exact row_foot (h.row j h1 _) hk (fun k hb => h.ne _ (List.getElem_mem h1) k hb)
    · rw [List.length_append] at hj
      have e1 : (us ++ [u])[j] = u := by
        rw [List.getElem_append_right (by omega)]; simp
      have e2 : (xss ++ [x])[j] = x := by
        rw [List.getElem_append_right (by rw [← h.len]; omega)]; simp
      rw [e1, e2]
      exact row_foot hu hk (fun k hb => (hul k hb).2)
  · rcases hat with e | e
    · exact (hall y hy k hb).2 (e ▸ hn)
    · rw [e] at hn
      have := (hall y hy k hb).1
      injection hn with hn
      omega

/-- The blocks that the loop of Scan owns. -/
def scanA (R S : Nat) (u : Value) (us : List Value) : Foot := fun k => k = R ∨ k = S ∨ u.ownBlock = some k ∨ ∃ y ∈ us, blockOf y k

structure ScanIs (w : World) (R S : Nat) (pre : List (List Nat × Nat)) (A : Foot) (W : World) (u : Value) (us : List Value) : Prop where
  foot : A = scanA R S u us
  recs : Boxed W R 57 u
  size : Boxed W S 3 (.int .i64 (((pre.map Prod.snd).sum : Nat) : Int))
  own : LOwn w.heap.size W u us (pre.map Prod.fst)
  below : Below w.heap.size w W
  ge : ∀ k, A k → w.heap.size ≤ k
  lt : ∀ k, A k → k < W.heap.size
  ne : u.ownBlock ≠ some R ∧ u.ownBlock ≠ some S
  el : ∀ y ∈ us, ∀ k, blockOf y k → k ≠ R ∧ k ≠ S

theorem ScanIs.keep {w : World} {R S : Nat} {pre : List (List Nat × Nat)} {A : Foot} {W W2 : World} {u : Value} {us : List Value} {C : Foot} (h : ScanIs w R S pre A W u us) (hk : Keeps C W W2) (hC : ∀ k, A k → ¬ C k) (hB : ∀ k, C k → w.heap.size ≤ k) : ScanIs w R S pre A W2 u us := by
  have hf := h.foot
  have h1 : A R := by rw [hf]; exact .inl rfl
  have h2 : A S := by rw [hf]; exact .inr (.inl rfl)
  exact { foot := hf, recs := hk.obj h.recs (hC R h1), size := hk.obj h.size (hC S h2),
          own := lown_foot h.own hk (fun k hk => hC k (by rw [hf]; exact .inr (.inr (.inl hk)))) (fun y hy k hk => hC k (by rw [hf]; exact .inr (.inr (.inr ⟨y, hy, hk⟩)))),
          below := h.below.trans (hk.below h.below.size hB), ge := h.ge, lt := fun k hk' => Nat.lt_of_lt_of_le (h.lt k hk') hk.size, ne := h.ne, el := h.el }

/-- What a round of Scan's loop begins with. -/
structure ScanAx (w : World) (R S : Nat) (pre : List (List Nat × Nat)) (x : List Nat × Nat) (A : Foot) (W : World) (u : Value) (us : List Value) (v : Value) (A0 : Foot) : Prop where
  is : ScanIs w R S pre A0 W u us
  fr : Fresh 0 5 .u8 W v (natI x.1)
  foot : ∀ k, A k ↔ A0 k ∨ blockOf v k
  new : ∀ k, blockOf v k → ¬ A0 k ∧ w.heap.size ≤ k ∧ k < W.heap.size

theorem own_block {B : Nat} {e : TypeId} {k : IntKind} {w : World} {v : Value} {zs : List Int} (h : Fresh B e k w v zs) : ∀ j, v.ownBlock = some j → blockOf v j := by
  intro j hj
  rcases fresh_form h with ⟨rfl, _⟩ | ⟨g, c, rfl, _⟩
  · cases hj
  · have : g = j := by simpa [Value.ownBlock] using hj
    exact this.symm

theorem scan_sum_le {l : List Nat} {pre : List (List Nat × Nat)} (h : pre <+: scanP 0 l) : (pre.map Prod.snd).sum ≤ l.length ∧ pre.length ≤ l.length := by
  obtain ⟨t, ht⟩ := h
  obtain ⟨h1, h2, _⟩ := scanP_sum l.length 0 l (Nat.le_refl _)
  rw [← ht] at h1 h2
  rw [List.map_append, List.sum_append] at h1
  rw [List.length_append] at h2
  omega

def ScanEnd (l : List Nat) (w : World) (e : Ending) (w' : World) : Prop :=
  ∃ u us, e = .returned (.tuple #[u, .int .i64 ((((scanP 0 l).map Prod.snd).sum : Nat) : Int)]) ∧ LOwn w.heap.size w' u us ((scanP 0 l).map Prod.fst) ∧ Below w.heap.size w w'

/-- As ScanEnd: and the records lie in new blocks. -/
def ScanNew (l : List Nat) (w : World) (e : Ending) (w' : World) : Prop :=
  ∃ u us, e = .returned (.tuple #[u, .int .i64 ((((scanP 0 l).map Prod.snd).sum : Nat) : Int)]) ∧ LOwn w.heap.size w' u us ((scanP 0 l).map Prod.fst) ∧ Below w.heap.size w w' ∧ ∀ y ∈ us, ∀ k, blockOf y k → w.heap.size ≤ k

set_option maxRecDepth 100000 in
set_option maxHeartbeats 4000000 in
theorem devScan_new (v : Value) (l : List Nat) (w : World) (hv : Row .u8 w v (natI l)) (h8 : ∀ c ∈ l, c < 256) (hvb : ∀ j, blockOf v j → j < w.heap.size) (hlen : l.length ≤ 100000) :
    Calls Tryz.prog 62 #[v] w (ScanNew l w) := by
  obtain ⟨i0, hi, hz0, hz1, hz2⟩ := info_parts info_sl
  have HV := Lib.hid hv
  have HB := Lib.hid hvb
  obtain ⟨a, cap, rfl, _, _, _, _⟩ := hv
  rw [natI_length] at *
  refine (callsIn_wide (n := 0)).1 ?_
  refine callsIn_of_wp_marks Tryz.func62 rfl trivial ?_ rfl
  simp only [Tryz.ntmps62, List.size_toArray, List.length_cons, List.length_nil, Nat.reduceAdd, Nat.reduceSub, Array.replicate_succ, Array.replicate_zero, List.push_toArray, List.append_toArray, List.nil_append, List.cons_append]
  gi_wp2_with fail
  refine ⟨trivial, rfl, (callsIn_wide.2 (recordsOf_any _ _ _ _)).mono ?_⟩
  rintro e w' ⟨rfl, rfl⟩
  gi_wp2_with fail
  simp only [Nat.add_assoc, Nat.reduceAdd]
  obtain ⟨W3, hW3⟩ : ∃ W3, ((w.alloc (Obj.cells #[Value.slice none 0 0] 57)).alloc (.cells #[.int .i64 0] 3)).alloc (.cells #[.slice a l.length cap] 33) = W3 := ⟨_, rfl⟩
  rw [hW3]
  have z3 : W3.heap.size = w.heap.size + 3 := by rw [← hW3]; simp
  have bl3 : Below w.heap.size w W3 := by rw [← hW3]; exact (((Below.refl _ w).alloc (Nat.le_refl _) _).alloc (by simp) _).alloc (by simp; omega) _
  have r3 : Boxed W3 w.heap.size 57 (.slice none 0 0) := by rw [← hW3]; exact ((Boxed.new w _ _).alloc _).alloc _
  have s3 : Boxed W3 (w.heap.size + 1) 3 (.int .i64 0) := by
    rw [← hW3]
    have := Boxed.new (w.alloc (Obj.cells #[Value.slice none 0 0] 57)) 3 (.int .i64 0)
    rw [World.size_alloc] at this
    exact this.alloc _
  have c3 : W3.cell? ⟨w.heap.size + 2, 0, none⟩ = some (.slice a l.length cap) := by
    rw [← hW3]
    have := (Boxed.new ((w.alloc (Obj.cells #[Value.slice none 0 0] 57)).alloc (.cells #[.int .i64 0] 3)) 33 (.slice a l.length cap)).cell
    rwa [World.size_alloc, World.size_alloc] at this
  have row3 := row_below HV.out HB.out bl3
  clear hW3
  have hg := records_gives (w.heap.size + 2) _ l W3 c3 row3 h8 hlen
  refine wp_rangeT (gf := 110) (lb := #[.pointer (some ⟨w.heap.size + 2, 0, none⟩)]) rfl (enters_of Tryz.func110 (by kernel_rfl) rfl) hg (scanA w.heap.size (w.heap.size + 1) (.slice none 0 0) [])
    ?hq (fun x vs W1 h => (by obtain ⟨v, rfl, _⟩ := h; rfl))
    (fun pre A1 W1 => ∃ u us, ScanIs w w.heap.size (w.heap.size + 1) pre A1 W1 u us) (fun _ _ _ _ => False) ?inv ?invx
    ⟨_, [], ⟨rfl, r3, s3, lown_nil _ _, bl3, ?ge0, ?lt0, ⟨by simp [Value.ownBlock], by simp [Value.ownBlock]⟩, fun y hy => by simp at hy⟩⟩
    (fun pre x a1 A1 W1 => ∃ u us v A0, ScanAx w w.heap.size (w.heap.size + 1) pre x A1 W1 u us v A0 ∧ a1 = { tmps := #[.slice a l.length cap, undef, .slice none 0 0, .int .i64 0, .pointer (some ⟨w.heap.size, 0, none⟩), .pointer (some ⟨w.heap.size + 1, 0, none⟩), v, .int .i64 (x.2 : Int), .slice a l.length cap, .func (.func 110) #[] #[.pointer (some ⟨w.heap.size + 2, 0, none⟩)], v, .int .i64 (x.2 : Int), undef, undef, undef, undef, undef, undef, undef, undef, undef], defers := [] })
    ?invA ?assign ?body ?done ?stop
  case hq =>
    intro k hk
    refine ⟨rfl, ?_, ?_⟩
    · rintro (h | h | h | ⟨y, hy, _⟩)
      · rcases hk with hk | hk
        · omega
        · have := HB.out k hk; omega
      · rcases hk with hk | hk
        · omega
        · have := HB.out k hk; omega
      · cases h
      · simp at hy
    · rcases hk with hk | hk
      · omega
      · have := HB.out k hk; omega
  case ge0 =>
    rintro k (h | h | h | ⟨y, hy, _⟩)
    · omega
    · omega
    · cases h
    · simp at hy
  case lt0 =>
    rintro k (h | h | h | ⟨y, hy, _⟩)
    · omega
    · omega
    · cases h
    · simp at hy
  case inv =>
    refine ⟨?_, fun s A1 W1 ⟨u, us, h⟩ => h.lt⟩
    rintro pre A1 W1 W4 ⟨u, us, h⟩ hk
    exact ⟨u, us, h.keep hk (fun k ha hn => hn.2 ha) (fun k hk => by omega)⟩
  case invx => exact fun c => ⟨fun _ _ _ _ h _ => h.elim, fun _ _ _ h => h.elim⟩
  case invA =>
    intro pre x a1
    refine ⟨?_, ?_⟩
    · rintro s A1 W1 W4 ⟨u, us, v, A0, h, h2⟩ hk
      refine ⟨u, us, v, A0, ⟨h.is.keep hk (fun k ha hn => hn.2 ((h.foot k).2 (.inl ha))) (fun k hk => by omega), own_foot h.fr hk (fun k hk hn => hn.2 ((h.foot k).2 (.inr (own_block h.fr k hk)))), h.foot, fun k hk' => ?_⟩, h2⟩
      have := h.new k hk'
      exact ⟨this.1, this.2.1, Nat.lt_of_lt_of_le this.2.2 hk.size⟩
    · rintro s A1 W1 ⟨u, us, v, A0, h, h2⟩ k hk
      rcases (h.foot k).1 hk with hk | hk
      · exact h.is.lt k hk
      · exact (h.new k hk).2.2
  case assign =>
    rintro l2 pre x vs A1 W1 K hpre ⟨v, rfl, hf, hx8⟩ htr ⟨u, us, h⟩ hK
    gi_wp2
    refine hK _ _ _ (RoundT.take (Keeps.refl _ _)) ⟨u, us, v, A1, ⟨h, hf, fun k => Iff.rfl, fun k hk => ?_⟩, rfl⟩
    have := htr k hk
    exact ⟨this.1, by omega, this.2.1⟩
  case body =>
    rintro l2 pre x a1 A1 W1 hl2 hn2 hr2 hpre ⟨u, us, v, A0, h, rfl⟩
    obtain ⟨hsum, hpl⟩ := scan_sum_le hpre
    rw [List.map_append, List.sum_append, List.map_singleton, List.sum_singleton] at hsum
    rw [List.length_append, List.length_singleton] at hpl
    obtain ⟨va, vc, rfl, _, _⟩ := fresh_elems h.fr
    have hul : us.length ≤ 100000 := by rw [h.is.own.len, List.length_map]; omega
    have hsb := h.is.size
    have hrc := h.is.recs.cell
    have hrf := h.is.recs.frozen
    have hsc := hsb.cell
    have hsf := hsb.frozen
    have hRS := h.is.ne
    have HH := Lib.hid h
    have HPS : Hid (((pre ++ [x]).map Prod.snd).sum = (pre.map Prod.snd).sum + x.2 ∧ (pre ++ [x]).map Prod.fst = pre.map Prod.fst ++ [x.1]) := Lib.hid (by simp)
    have hown1 := own_foot h.is.own.own ((Keeps.refl (fun _ => False) W1).alloc (.cells #[.slice va (natI x.1).length vc] 33)) (fun _ _ h => h)
    have HO1 := Lib.hid hown1
    have HRS := Lib.hid hRS
    have hWlt := h.is.below.size
    clear h hown1 hRS hg hpre
    have hsm : (pre.map Prod.snd).sum + x.2 ≤ 100000 := by omega
    gi_wp2_with (gi_at_builtin; refine wpListIn_append_own_at _ rfl _ _ 57 rfl w.heap.size 33 i0 (.slice none 0 0) 1 24 Tryz.underlying57 hi hz0 hz1 hz2 rfl (by decide) u us.length us rfl HO1.out ⟨W1.heap.size, 0, none⟩ 1 1 [.slice va (natI x.1).length vc] rfl rfl (cell_one_new _ _ _) (by simp [Value.oneCell']) (by unfold maxLen; omega) (by omega) (by simp; omega) ?_; intro u2 w2 hown2 hgrow2 _ hat2; obtain ⟨g2, cap2, rfl⟩ := own_shape hown2 (by omega); have hb2 := (HH.out.is.recs.alloc _).kept hgrow2 (fun e => HRS.out.1 e.symm); have hc2 := hb2.cell; have hf2 := hb2.frozen; have hs2 := (HH.out.is.size.alloc _).kept hgrow2 (fun e => HRS.out.2 e.symm); have hsc2 := hs2.cell; have hsf2 := hs2.frozen)
    have h := HH.out
    have hAR : A1 w.heap.size := (h.foot _).2 (.inl (by rw [h.is.foot]; exact .inl rfl))
    have hAS : A1 (w.heap.size + 1) := (h.foot _).2 (.inl (by rw [h.is.foot]; exact .inr (.inl rfl)))
    have hk1 : Keeps A1 W1 w2 := ((Keeps.refl A1 W1).alloc _).trans (Keeps.of_grown hgrow2 (fun k e => (h.foot _).2 (.inl (by rw [h.is.foot]; exact .inr (.inr (.inl e))))))
    have hnew : ∀ k, blockOf (.slice va (natI x.1).length vc) k → k < (W1.alloc (.cells #[.slice va (natI x.1).length vc] 33)).heap.size ∧ u.ownBlock ≠ some k := fun k hk => by
      have h1 := h.new k hk
      refine ⟨by simp; omega, fun e => h1.1 (by rw [h.is.foot]; exact .inr (.inr (.inl e)))⟩
    have hl1 := lown_below h.is.own ((Below.refl _ W1).alloc (Nat.le_refl _) (.cells #[.slice va (natI x.1).length vc] 33))
    have hu1 := row_keeps (row_of_fresh h.fr) ((Below.refl _ W1).alloc (Nat.le_refl _) (.cells #[.slice va (natI x.1).length vc] 33))
    have hl2 := lown_snoc hl1 hu1 hnew hown2 hgrow2 hat2
    have hne2 : ∀ k, Value.ownBlock (.slice (some ⟨g2, 0, none⟩) (us.length + 1) cap2) = some k → A1 k ∨ W1.heap.size < k := fun k hk => by
      rcases hat2 with e | e
      · exact .inl ((h.foot _).2 (.inl (by rw [h.is.foot]; exact .inr (.inr (.inl (e ▸ hk))))))
      · rw [e] at hk; injection hk with hk; rw [World.size_alloc] at hk; right; omega
    have hR := h.is.lt _ (by rw [h.is.foot]; exact .inl rfl : A0 w.heap.size)
    have hS := h.is.lt _ (by rw [h.is.foot]; exact .inr (.inl rfl) : A0 (w.heap.size + 1))
    have hnR : Value.ownBlock (.slice (some ⟨g2, 0, none⟩) (us.length + 1) cap2) ≠ some w.heap.size := fun e => by
      rcases hat2 with e2 | e2
      · exact HRS.out.1 (e2 ▸ e)
      · rw [e2] at e; injection e with e; rw [World.size_alloc] at e; omega
    have hnS : Value.ownBlock (.slice (some ⟨g2, 0, none⟩) (us.length + 1) cap2) ≠ some (w.heap.size + 1) := fun e => by
      rcases hat2 with e2 | e2
      · exact HRS.out.2 (e2 ▸ e)
      · rw [e2] at e; injection e with e; rw [World.size_alloc] at e; omega
    have hel : ∀ y ∈ us ++ [.slice va (natI x.1).length vc], ∀ k, blockOf y k → A1 k ∧ k ≠ w.heap.size ∧ k ≠ w.heap.size + 1 := fun y hy k hk => by
      rcases List.mem_append.1 hy with hy | hy
      · exact ⟨(h.foot _).2 (.inl (by rw [h.is.foot]; exact .inr (.inr (.inr ⟨y, hy, hk⟩)))), h.is.el y hy k hk⟩
      · have e : y = .slice va (natI x.1).length vc := by simpa using hy
        rw [e] at hk
        have h1 := h.new k hk
        exact ⟨(h.foot _).2 (.inr hk), fun e => h1.1 (by rw [e, h.is.foot]; exact .inl rfl), fun e => h1.1 (by rw [e, h.is.foot]; exact .inr (.inl rfl))⟩
    have hw : wrap64 (((pre.map Prod.snd).sum : Nat) + (x.2 : Int)) = ((((pre ++ [x]).map Prod.snd).sum : Nat) : Int) := by rw [HPS.out.1]; unfold wrap64; omega
    have hw2 : (((pre.map Prod.snd).sum : Nat) : Int) + (x.2 : Int) = ((((pre ++ [x]).map Prod.snd).sum : Nat) : Int) := by rw [HPS.out.1]; omega
    first | rw [hw] | rw [hw2]
    generalize hy : (((pre ++ [x]).map Prod.snd).sum : Nat) = sm at *
    have kk : Keeps A1 W1 ((w2.setCell ⟨w.heap.size, 0, none⟩ (.slice (some ⟨g2, 0, none⟩) (us.length + 1) cap2)).setCell ⟨w.heap.size + 1, 0, none⟩ (.int .i64 (sm : Int))) := (hk1.setCell _ _ hAR).setCell _ _ hAS
    have kRS : Keeps (fun k => k = w.heap.size ∨ k = w.heap.size + 1) w2 ((w2.setCell ⟨w.heap.size, 0, none⟩ (.slice (some ⟨g2, 0, none⟩) (us.length + 1) cap2)).setCell ⟨w.heap.size + 1, 0, none⟩ (.int .i64 (sm : Int))) := ((Keeps.refl _ _).setCell _ _ (.inl rfl)).setCell _ _ (.inr rfl)
    have hA1 : ∀ k, A1 k → w.heap.size ≤ k := fun k hk => by
      rcases (h.foot k).1 hk with hk | hk
      · exact h.is.ge k hk
      · exact (h.new k hk).2.1
    have hA1l : ∀ k, A1 k → k < W1.heap.size := fun k hk => by
      rcases (h.foot k).1 hk with hk | hk
      · exact h.is.lt k hk
      · exact (h.new k hk).2.2
    have hown3 : ∀ k, Value.ownBlock (.slice (some ⟨g2, 0, none⟩) (us.length + 1) cap2) = some k → k < w2.heap.size := fun k hk => (hown2.lt k hk).2
    refine ⟨scanA w.heap.size (w.heap.size + 1) (.slice (some ⟨g2, 0, none⟩) (us.length + 1) cap2) (us ++ [.slice va (natI x.1).length vc]), ⟨kk, ?_⟩, _, _, ⟨rfl, ?_, ?_, ?_, ?_, ?_, ?_, ⟨hnR, hnS⟩, fun y hy k hk => (hel y hy k hk).2⟩⟩
    · rintro k (h1 | h1 | h1 | ⟨y, hy, h1⟩)
      · rw [h1]; exact .inl hAR
      · rw [h1]; exact .inl hAS
      · rcases hne2 k h1 with h2 | h2
        · exact .inl h2
        · right; omega
      · exact .inl (hel y hy k h1).1
    · exact (keeps_set _ (w.heap.size + 1) 0 _).obj (hb2.set _) (by omega)
    · rw [hy]
      have hs3 : Boxed (w2.setCell ⟨w.heap.size, 0, none⟩ (.slice (some ⟨g2, 0, none⟩) (us.length + 1) cap2)) (w.heap.size + 1) 3 (.int .i64 (((pre.map Prod.snd).sum : Nat) : Int)) := (keeps_set w2 w.heap.size 0 _).obj hs2 (by omega)
      exact hs3.set _
    · rw [HPS.out.2]
      exact lown_foot hl2 kRS (fun k hk hn => by rcases hn with hn | hn; (exact hnR (hn ▸ hk)); (exact hnS (hn ▸ hk))) (fun y hy k hk hn => by have := (hel y hy k hk).2; omega)
    · exact h.is.below.trans (kk.below h.is.below.size hA1)
    · rintro k (h1 | h1 | h1 | ⟨y, hy, h1⟩)
      · omega
      · omega
      · rcases hne2 k h1 with h2 | h2
        · exact hA1 k h2
        · omega
      · exact hA1 k (hel y hy k h1).1
    · intro k hk
      have hsz := kk.size
      have hsz2 := kRS.size
      rcases hk with h1 | h1 | h1 | ⟨y, hy, h1⟩
      · omega
      · omega
      · have := hown3 k h1; omega
      · have := hA1l k (hel y hy k h1).1; omega
  case done =>
    rintro D A2 W2 hD hnD ⟨u, us, h⟩ hK
    have hrc := h.recs.cell
    have hsc := h.size.cell
    have HH := Lib.hid h
    clear h hg
    gi_wp2
    gi_region
    gi_wp2
    have hkD : Keeps (fun k => k = D) W2 (W2.drew.putObj D (.deferred none)) := (Keeps.refl _ W2).drew.putObj D _ rfl
    refine ⟨by simp, .inl ⟨_, _, rfl, run_takeDeferred (w := W2.drew) hK, ?_⟩⟩
    refine ⟨_, results_tmp2 rfl _ _ _, u, us, rfl, ?_, ?_, fun y hy k hk => HH.out.ge k (by rw [HH.out.foot]; exact .inr (.inr (.inr ⟨y, hy, hk⟩)))⟩
    · exact lown_foot HH.out.own hkD (fun k hk e => hnD (by rw [← e, HH.out.foot]; exact .inr (.inr (.inl hk)))) (fun y hy k hk e => hnD (by rw [← e, HH.out.foot]; exact .inr (.inr (.inr ⟨y, hy, hk⟩))))
    · exact HH.out.below.trans (hkD.below HH.out.below.size (fun k hk => by omega))
  case stop =>
    intro D c pre A2 W2 hD hnD hpre h hK
    exact h.elim
theorem devScan_any (v : Value) (l : List Nat) (w : World) (hv : Row .u8 w v (natI l)) (h8 : ∀ c ∈ l, c < 256) (hvb : ∀ j, blockOf v j → j < w.heap.size) (hlen : l.length ≤ 100000) :
    Calls Tryz.prog 62 #[v] w (ScanEnd l w) :=
  (devScan_new v l w hv h8 hvb hlen).mono fun e w' ⟨u, us, h1, h2, h3, _⟩ => ⟨u, us, h1, h2, h3⟩
end Go.Proofs.YtjoablphojkimaaGreatDoor
