/-
  Package disk: all bytes made durable; Sync. Package disk: loose bytes lost. Package disk: the number of loose bytes; a bit inverted. Package disk: a loose bit inverted; Rot. Package disk: a failure of the power. Package disk: a copy of a disk.
-/
import Derived.Test.YtjoablphojkimaaGreatDoorDmk
namespace Go.Proofs.YtjoablphojkimaaGreatDoor
open Go.RowKit Go.Shelf
set_option linter.unusedVariables false
set_option maxRecDepth 100000

def keyAt (es : List Fl) (i : Nat) : Nat := ((es.map Fl.key)[i]?).getD 0
theorem keys_row {B : Nat} {W : World} {v : Value} {es : List Fl} (hv : Fresh B 3 .i64 W v (keysF es)) :
    ∃ a cap, v = .slice a es.length cap ∧ ∀ i, i < es.length → ∃ g, a = some ⟨g, 0, none⟩ ∧ B ≤ g ∧ g < W.heap.size ∧ W.cell? ⟨g, i, none⟩ = some (.int .i64 (keyAt es i : Int)) := by
  have hl : (keysF es).length = es.length := by simp [keysF]
  rcases fresh_form hv with ⟨rfl, h0⟩ | ⟨g, cap, rfl, hg, hlt, hc, hm⟩
  · have : es = [] := by simpa [keysF] using h0
    subst this
    exact ⟨none, 0, rfl, fun i hi => absurd hi (Nat.not_lt_zero _)⟩
  · refine ⟨_, cap, by rw [hl], fun i hi => ⟨g, rfl, hg, hlt, ?_⟩⟩
    have := fresh_cell hv (j := i) (by rw [hl]; exact hi)
    rw [this]
    congr 2
    unfold keysF keyAt
    rw [List.getElem?_map, List.getElem?_map, List.getElem?_eq_getElem hi]
    rfl
theorem key_find {es : List Fl} (hs : es.Pairwise (fun f g => f.key < g.key)) {f : Fl} (hf : f ∈ es) : findF f.key es = some f := by
  induction es with
  | nil => simp at hf
  | cons g t ih =>
    obtain ⟨h1, h2⟩ := List.pairwise_cons.1 hs
    unfold findF at *
    rcases List.mem_cons.1 hf with rfl | hf
    · rw [List.find?_cons_of_pos (by simp)]
    · rw [List.find?_cons_of_neg (by have := h1 f hf; simp; omega)]
      exact ih h2 hf
theorem key_at {W : World} {d b room : Nat} {on : Bool} {left : Int} {es : List Fl} (h : Dk W d b room on left es) {i : Nat} (hi : i < es.length) :
    keyAt es i < 64 ∧ bytesOf (keyAt es i) es ≠ [] ∧ (es.map Fl.key).take (i + 1) = (es.map Fl.key).take i ++ [keyAt es i] ∧ keyAt es i = (es[i]).key := by
  have hk : keyAt es i = (es[i]).key := by unfold keyAt; simp [hi]
  have hok := h.ok _ (List.getElem_mem hi)
  refine ⟨by rw [hk]; exact hok.key, ?_, ?_, hk⟩
  · unfold bytesOf
    rw [hk, key_find h.sorted (List.getElem_mem hi)]
    exact hok.ne
  · rw [List.take_add_one, List.getElem?_map, List.getElem?_eq_getElem hi, hk]
    rfl
theorem key_none {es : List Fl} {j : Nat} (h : j ∉ es.map Fl.key) : bytesOf j es = [] ∧ durF j es = 0 :=
  ⟨bytes_none (fun f hf e => h (e ▸ List.mem_map_of_mem hf)), dur_none (fun f hf e => h (e ▸ List.mem_map_of_mem hf))⟩

theorem foot_after {d b : Nat} {x : Fl} {es : List Fl} {j : Nat} (h : dkFoot d b (afterF x es) j) : dkFoot d b es j ∨ x.val.ownBlock = some j := by
  rcases h with h | h | ⟨f, hf, hj⟩
  · exact .inl (.inl h)
  · exact .inl (.inr (.inl h))
  · unfold afterF at hf
    split at hf
    · exact .inl (.inr (.inr ⟨f, (mem_erase.1 hf).1, hj⟩))
    · rcases mem_ins.1 hf with rfl | hf
      · exact .inr hj
      · exact .inl (.inr (.inr ⟨f, (mem_erase.1 hf).1, hj⟩))
/-- A file of the map with another number of durable bytes. -/
theorem dk_write {W : World} {d b room : Nat} {on : Bool} {left : Int} {es : List Fl} (h : Dk W d b room on left es) {k : Nat} (hk : k < 64) (hne : bytesOf k es ≠ []) {a : Option Addr} {cap dur2 : Nat}
    (hct : contOf k es = .agg #[.slice a (bytesOf k es).length cap, .int .i64 (durF k es : Int)]) (hdu : dur2 ≤ (bytesOf k es).length) :
    ∃ W1, (Instr.mapUpdate 64 (.map (some b)) (.int .i64 (k : Int)) (.agg #[.slice a (bytesOf k es).length cap, .int .i64 (dur2 : Int)])).run Tryz.prog W = .ok () W1 ∧
      Dk W1 d b room on left (afterF ⟨k, .slice a (bytesOf k es).length cap, bytesOf k es, dur2⟩ es) ∧ Keeps (fun j => j = b) W W1 ∧ (∀ j, dkFoot d b (afterF ⟨k, .slice a (bytesOf k es).length cap, bytesOf k es, dur2⟩ es) j → dkFoot d b es j) := by
  have hap := file_apart h hct
  have hlen := dk_len h
  obtain ⟨w1, hrun, hown1, hg1⟩ := World.ownsMap.update h.mp law_int Tryz.underlying64 (show es.length < maxLen by unfold maxLen; omega) (key := .int .i64 (k : Int)) (val := .agg #[.slice a (bytesOf k es).length cap, .int .i64 (dur2 : Int)]) (key_int hk) rfl
  have hk1 := Keeps.of_grown (A := fun k => k = b) hg1 (fun k h => by injection h with h; exact h.symm)
  obtain ⟨a1, cap1, hct1, hrow, hln, h8⟩ := file_row h k
  have e2 : Value.slice a (bytesOf k es).length cap = .slice a1 (bytesOf k es).length cap1 := by
    have := hct.symm.trans hct1
    injection this with this
    have := congrArg (fun q : Array Value => q.toList) this
    injection this with h3 _
  rw [← e2] at hrow
  have hdb := laid_map h.dk h.mp
  refine ⟨w1, hrun, ?_, hk1, fun j hj => ?_⟩
  · rw [show DataW.held (.agg #[.slice a (bytesOf k es).length cap, .int .i64 (dur2 : Int)]) = DataW.held (cont (.slice a (bytesOf k es).length cap) dur2) from rfl, dm_put, put_md ⟨k, .slice a (bytesOf k es).length cap, bytesOf k es, dur2⟩] at hown1
    have hus := used_split k es
    refine dk_after (n := es.length + 1) (h.dk.keeps hk1 hdb) ?_ h.sorted (fun f hf2 => flok_keeps (h.ok f (mem_erase.1 hf2).1) hk1 (fun j hj e => row_map (h.ok f (mem_erase.1 hf2).1).row h.mp (by rw [hj, e]))) (h.sep.filter _)
      (fun _ => ⟨⟨own_foot2 hrow hk1 (fun j hj e => row_map hrow h.mp (by rw [hj, e])), h8, hne, hdu, hk⟩, fun f hf j hj hj2 => hap.1 f hf j hj2 hj⟩) ⟨by have := h.room; show usedF (eraseF k es) + (bytesOf k es).length ≤ room; omega, h.room.2⟩ h.left
    unfold afterF
    rw [if_neg hne]
    exact hown1
  · rcases foot_after hj with h1 | h1
    · exact h1
    · exact (hap.2 j h1).1

def SettleEnd (d b room : Nat) (on : Bool) (left : Int) (es : List Fl) (w : World) (e : Ending) (w' : World) : Prop :=
  e = .returned (.tuple #[]) ∧ ∃ es2, Dk w' d b room on left es2 ∧ (∀ k, bytesOf k es2 = bytesOf k es) ∧ (∀ k, durF k es2 = (bytesOf k es).length) ∧ (∀ j, dkFoot d b es2 j → dkFoot d b es j) ∧ Keeps (dkFoot d b es) w w'

/-- The disk while it is settled. -/
def Half (d b room : Nat) (on : Bool) (left : Int) (es : List Fl) (w : World) (i : Nat) (wr : World) : Prop :=
  ∃ es2, Dk wr d b room on left es2 ∧ (∀ k, bytesOf k es2 = bytesOf k es) ∧ (∀ k, durF k es2 = if k ∈ (es.map Fl.key).take i then (bytesOf k es).length else durF k es) ∧ (∀ j, dkFoot d b es2 j → dkFoot d b es j) ∧ Keeps (dkFoot d b es) w wr

set_option maxHeartbeats 4000000 in
theorem settle_any (d b room : Nat) (on : Bool) (left : Int) (es : List Fl) (w : World) (h : Dk w d b room on left es) :
    Calls Tryz.prog 44 #[.pointer (some ⟨d, 0, none⟩)] w (SettleEnd d b room on left es w) := by
  have HD := Lib.hid h
  have hn64 := dk_len h
  clear h
  go_enter Tryz.func44, Tryz.ntmps44
  go_wp2_with fail
  refine (files_any d b room on left es w HD.out).mono ?_
  rintro e w1 ⟨v, rfl, hv, hb⟩
  obtain ⟨a, cap, rfl, hrow⟩ := keys_row hv
  have HR := Lib.hid hrow
  have HB := Lib.hid hb
  clear hrow hb hv
  go_wp2_with fail
  go_loopw [8] (fun s8 wr => ∃ i : Nat, s8 = .int .i64 (i : Int) ∧ i ≤ es.length ∧ Hid (Half d b room on left es w1 i wr)) (fun s8 _ => es.length - (intOf s8).toNat)
  case atStart =>
    exact ⟨0, rfl, Nat.zero_le _, Lib.hid ⟨es, dk_below HD.out HB.out, fun _ => rfl, fun k => by simp, fun _ h => h, Keeps.refl _ _⟩⟩
  case round =>
    obtain ⟨i, rfl, hi, HH⟩ := hrel
    by_cases hlt : i < es.length
    · obtain ⟨es2, hd2, hby, hdu, hft, hkp⟩ := HH.out
      obtain ⟨g, rfl, hg1, hg2, hc⟩ := HR.out i hlt
      obtain ⟨hk64, hne, htk, hkat⟩ := key_at HD.out hlt
      have hcw := hkp.cell hc (fun hf => by have := HD.out.lt g hf; have := HB.out.size; omega)
      generalize keyAt es i = k at *
      have d1 := hd2.dk.cell 1
      have hlk := lookup_run hd2.mp hk64
      obtain ⟨a2, cap2, hct, hrow2, hlen2, _⟩ := file_row hd2 k
      have hne2 : bytesOf k es2 ≠ [] := by rw [hby]; exact hne
      have hkA : Keeps (fun j => wr.heap.size ≤ j) wr (wr.alloc (.cells #[.slice a2 (bytesOf k es2).length cap2, .int .i64 ((bytesOf k es2).length : Int)] 83)) := (Keeps.refl _ wr).alloc _
      have hdS := dk_keeps hd2 hkA (fun j hj hn => by have := hd2.lt j hj; omega)
      have hdD := dk_keeps hd2 hkA.drew (fun j hj hn => by have := hd2.lt j hj; omega)
      have d2 := hdS.dk.cell 1
      obtain ⟨W6, hrun, hd6, hk6, hf6⟩ := dk_write hdD hk64 hne2 hct (Nat.le_refl _)
      rw [hct] at hlk
      have hlx : Laid (wr.alloc (.cells #[.slice a2 (bytesOf k es2).length cap2, .int .i64 (durF k es2 : Int)] 83)) wr.heap.size 83 [.slice a2 (bytesOf k es2).length cap2, .int .i64 (durF k es2 : Int)] := Laid.new wr _ _
      have x0 := hlx.cell 0
      have x1 := hlx.cell 1
      have f1 := hlx.frozen 1
      have hly : Laid (wr.alloc (.cells #[.slice a2 (bytesOf k es2).length cap2, .int .i64 ((bytesOf k es2).length : Int)] 83)) wr.heap.size 83 [.slice a2 (bytesOf k es2).length cap2, .int .i64 ((bytesOf k es2).length : Int)] := Laid.new wr _ _
      have y0 := hly.cell 0
      have y1 := hly.cell 1
      simp only [List.getElem?_cons_succ, List.getElem?_cons_zero] at d1 d2 x0 x1 y0 y1
      have HN : Hid (Half d b room on left es w1 (i + 1) W6) := Lib.hid ⟨_, hd6, fun j => by
          rw [bytes_after]
          by_cases hj : j = k
          · rw [if_pos hj, hj]; exact hby k
          · rw [if_neg hj]; exact hby j, fun j => by
          rw [dur_after (Nat.le_refl _)]
          have hm : (j ∈ (es.map Fl.key).take (i + 1)) ↔ j ∈ (es.map Fl.key).take i ∨ j = k := by rw [htk, List.mem_append, List.mem_singleton]
          by_cases hj : j = k
          · rw [if_pos hj, if_pos (hm.2 (.inr hj)), hj]; exact congrArg List.length (hby k)
          · rw [if_neg hj, hdu j]
            by_cases hq : j ∈ (es.map Fl.key).take i
            · rw [if_pos hq, if_pos (hm.2 (.inl hq))]
            · rw [if_neg hq, if_neg (fun h => (hm.1 h).elim hq hj)],
        fun j hj => hft j (hf6 j hj),
        keeps_cut ((hkp.mono (fun j _ h => .inl h)).trans ((hkA.drew.mono (fun j _ h => .inr (Nat.le_trans hkp.size h))).trans (hk6.mono (fun j _ h => .inl (.inr (.inl h))))))⟩
      have HL2 := Lib.hid hlen2
      generalize bytesOf k es2 = bs at *
      generalize durF k es2 = du at *
      clear hd2 hby hdu hft hkp hc hne htk hkat hct hrow2 hne2 hkA hdS hdD hd6 hk6 hf6 hlx hly HH hlen2
      go_wp2_with fail
      go_region
      go_wp2_with fail
      exact ⟨⟨i + 1, by rw [Int.natCast_add]; rfl, by omega, HN⟩, by simp only [intOf]; omega⟩
    · have hie : i = es.length := by omega
      subst hie
      clear hlt
      go_wp2
      go_end0
      obtain ⟨es2, hd2, hby, hdu, hft, hkp⟩ := HH.out
      refine ⟨rfl, es2, hd2, hby, fun k => ?_, hft, (Keeps.of_below_size HB.out).trans (hkp.mono (fun j _ h => h))⟩
      rw [hdu k, List.take_of_length_le (by rw [List.length_map]; exact Nat.le_refl _)]
      by_cases hq : k ∈ es.map Fl.key
      · rw [if_pos hq]
      · rw [if_neg hq, (key_none hq).1, (key_none hq).2]; rfl

def SyncEnd (d b room : Nat) (on : Bool) (left : Int) (es : List Fl) (w : World) (e : Ending) (w' : World) : Prop :=
  (stepOn on left = false → e = .returned (.int .i64 23) ∧ Dk w' d b room false left es) ∧
  (stepOn on left = true → e = .returned (.int .i64 0) ∧ ∃ es2, Dk w' d b room on (max (left - 1) (-1)) es2 ∧ (∀ k, bytesOf k es2 = bytesOf k es) ∧ (∀ k, durF k es2 = (bytesOf k es).length) ∧ (∀ j, dkFoot d b es2 j → dkFoot d b es j)) ∧
  Keeps (dkFoot d b es) w w'

set_option maxHeartbeats 4000000 in
theorem sync_any (d b room : Nat) (on : Bool) (left : Int) (es : List Fl) (w : World) (h : Dk w d b room on left es) :
    Calls Tryz.prog 13 #[.pointer (some ⟨d, 0, none⟩)] w (SyncEnd d b room on left es w) := by
  have HD := Lib.hid h
  clear h
  go_enter Tryz.func13, Tryz.ntmps13
  go_wp2_with fail
  refine (step_any d b room on left es w HD.out).mono ?_
  rintro e w2 hst
  have HST := Lib.hid hst
  by_cases hon : stepOn on left = true
  · obtain ⟨rfl, hd2⟩ := hst.2.1 hon
    have HD2 := Lib.hid hd2
    have HON := Lib.hid hon
    clear hst hon hd2
    go_wp2_with fail
    refine (settle_any d b room on _ es w2 HD2.out).mono ?_
    rintro e w3 ⟨rfl, hse⟩
    have HSE := Lib.hid hse
    clear hse
    go_wp2_with fail
    go_ret
    obtain ⟨es2, h1, h2, h3, h4, h5⟩ := HSE.out
    exact ⟨fun h => absurd (HON.out.symm.trans h) (fun e => by cases e), fun _ => ⟨rfl, es2, h1, h2, h3, h4⟩, (HST.out.2.2.mono (fun j _ h => .inl h)).trans h5⟩
  · have hon2 : stepOn on left = false := by cases hq : stepOn on left; rfl; exact absurd hq hon
    obtain ⟨rfl, hd2⟩ := hst.1 hon2
    have HON := Lib.hid hon2
    have HD2 := Lib.hid hd2
    clear hst hd2 hon hon2
    go_wp2_with fail
    go_ret
    exact ⟨fun _ => ⟨rfl, HD2.out⟩, fun h => absurd h (by rw [HON.out]; exact Bool.false_ne_true), HST.out.2.2.mono (fun j _ h => .inl h)⟩

theorem own_len {a : Option Addr} {n n2 cap cap2 j : Nat} (h : (Value.slice a n cap).ownBlock = some j) : (Value.slice a n2 cap2).ownBlock = some j := by
  cases a with
  | none => cases h
  | some x => exact h
/-- The first bytes of a file put back. -/
theorem put_cut {w W : World} {d b room : Nat} {on : Bool} {left : Int} {es : List Fl} (h : Dk w d b room on left es) (hb : Below w.heap.size w W) {k : Nat} (hk : k < 64) {a : Option Addr} {cap : Nat}
    (hct : contOf k es = .agg #[.slice a (bytesOf k es).length cap, .int .i64 (durF k es : Int)]) {n dur2 : Nat} (hn : n ≤ (bytesOf k es).length) (hd2 : dur2 ≤ n) :
    Calls Tryz.prog 42 #[.pointer (some ⟨d, 0, none⟩), .int .i64 (k : Int), .agg #[.slice a n cap, .int .i64 (dur2 : Int)]] W (PutEnd d b room on left (afterF ⟨k, .slice a n cap, (bytesOf k es).take n, dur2⟩ es) W) := by
  have hD := dk_below h hb
  have hap := file_apart h hct
  obtain ⟨a1, cap1, hct1, hrow, hln, h8⟩ := file_row h k
  have e2 : Value.slice a (bytesOf k es).length cap = .slice a1 (bytesOf k es).length cap1 := by
    have := hct.symm.trans hct1
    injection this with this
    have := congrArg (fun q : Array Value => q.toList) this
    injection this with h3 _
  rw [← e2] at hrow
  have hlt : ((bytesOf k es).take n).length = n := by rw [List.length_take]; omega
  have hput := put_any d b room on left es k (.slice a n cap) ((bytesOf k es).take n) dur2 W hk hD.dk hD.mp hD.sorted
    (fun f hf => hD.ok f (mem_erase.1 hf).1) (hD.sep.filter _) (fun hne => ⟨⟨?_, fun c hc => h8 c (List.mem_of_mem_take hc), hne, by show dur2 ≤ ((bytesOf k es).take n).length; omega, hk⟩, fun f hf j hj hj2 => hap.1 f hf j hj2 (own_len hj)⟩)
    ⟨a, cap, by rw [hlt]⟩ ⟨?_, hD.room.2⟩ hD.left (dk_len hD)
  · exact hput
  · rcases fresh_form hrow with ⟨_, hz0⟩ | ⟨g, cap2, hv0, _, hg, hc, hm⟩
    · have : bytesOf k es = [] := List.eq_nil_of_length_eq_zero (by have := congrArg List.length hz0; rw [natI_length] at this; exact this)
      exact absurd (by rw [this, List.take_nil]) hne
    · have hv1 : a = some ⟨g, 0, none⟩ := by injection hv0
      subst hv1
      have h1 := fresh_first (g := g) (cap := cap) (zs := natI (bytesOf k es)) (by rw [natI_length]; exact hrow) (m := n) (by rw [natI_length]; exact hn)
      have h2 := own_foot2 h1 (Keeps.of_below hb) (fun j hj hn => by have := (h1.lt j hj).2; omega)
      show Fresh 0 5 .u8 W (.slice (some ⟨g, 0, none⟩) n cap) (natI ((bytesOf k es).take n))
      rw [natI_first]
      exact h2
  · have := used_split k es
    have := hD.room
    rw [hlt]
    omega

def lostN (q : Int) (lo : Nat) : Nat := (max 0 (min q (lo : Int))).toNat
def LoseEnd (d b room : Nat) (on : Bool) (left : Int) (es : List Fl) (k : Nat) (q : Int) (w : World) (e : Ending) (w' : World) : Prop :=
  e = .returned (.tuple #[]) ∧ ∃ v : Value, Dk w' d b room on left (afterF ⟨k, v, (bytesOf k es).take (durF k es + lostN q ((bytesOf k es).length - durF k es)), durF k es⟩ es) ∧ (∀ j, v.ownBlock = some j → dkFoot d b es j) ∧ Keeps (dkFoot d b es) w w'

set_option maxHeartbeats 4000000 in
theorem lose_any (d b room : Nat) (on : Bool) (left : Int) (es : List Fl) (k : Nat) (q : Int) (w : World) (h : Dk w d b room on left es) (hk : k < 64) (hq : -9223372036854775808 ≤ q ∧ q ≤ 9223372036854775807) :
    Calls Tryz.prog 46 #[.pointer (some ⟨d, 0, none⟩), .int .i64 (k : Int), .int .i64 q] w (LoseEnd d b room on left es k q w) := by
  have HD := Lib.hid h
  obtain ⟨a, cap, hct, hrow, hlen, _⟩ := file_row h k
  have HCT := Lib.hid hct
  have hlk := lookup_run h.mp hk
  have c1 := h.dk.cell 1
  have hdl := dur_le h k
  rw [hct] at hlk
  have HAP := Lib.hid (file_apart h hct)
  obtain ⟨m, hm⟩ : ∃ m, lostN q ((bytesOf k es).length - durF k es) = m := ⟨_, rfl⟩
  have HM := Lib.hid hm
  have hml : durF k es + m ≤ (bytesOf k es).length := by unfold lostN at hm; omega
  have hcap : (bytesOf k es).length ≤ cap := by
    obtain ⟨a3, c3, h3, h4, _⟩ := fresh_elems hrow
    injection h3 with _ h6 h7
    rw [natI_length] at h4
    omega
  have HP := Lib.hid (put_cut (W := w.alloc (.cells #[.slice a (durF k es + m) cap, .int .i64 (durF k es : Int)] 83)) h ((Below.refl _ w).alloc (Nat.le_refl _) _) hk hct (n := durF k es + m) (dur2 := durF k es) hml (Nat.le_add_right _ _))
  have hl0 : Laid (w.alloc (.cells #[.slice a (bytesOf k es).length cap, .int .i64 (durF k es : Int)] 83)) w.heap.size 83 [.slice a (bytesOf k es).length cap, .int .i64 (durF k es : Int)] := Laid.new w _ _
  have hl1 : Laid (w.alloc (.cells #[.slice a (durF k es + m) cap, .int .i64 (durF k es : Int)] 83)) w.heap.size 83 [.slice a (durF k es + m) cap, .int .i64 (durF k es : Int)] := Laid.new w _ _
  have x0 := hl0.cell 0
  have x1 := hl0.cell 1
  have f0 := hl0.frozen 0
  have y0 := hl1.cell 0
  have y1 := hl1.cell 1
  simp only [List.getElem?_cons_succ, List.getElem?_cons_zero] at c1 x0 x1 y0 y1
  obtain ⟨lo, hlo⟩ : ∃ lo : Nat, ((bytesOf k es).length : Int) - (durF k es : Int) = (lo : Int) := ⟨(bytesOf k es).length - durF k es, by omega⟩
  have hwl : IntKind.i64.wrap (((bytesOf k es).length : Int) - (durF k es : Int)) = (lo : Int) := by rw [wrap_i64]; unfold wrap64; omega
  have hwm : IntKind.i64.wrap ((durF k es : Int) + (m : Int)) = ((durF k es + m : Nat) : Int) := by rw [wrap_i64]; unfold wrap64; omega
  have hmm : ((durF k es : Int) + min (max q 0) (lo : Int)).toNat = durF k es + m := by unfold lostN at hm; omega
  have HMM := Lib.hid hmm
  have hmc : durF k es + m ≤ cap := by omega
  generalize hdu : durF k es = du at *
  generalize hbl : (bytesOf k es).length = n at *
  have HDU := Lib.hid hdu
  have HBL := Lib.hid hbl
  clear h hct hrow hdu hbl hl0 hl1 hmm hm hml hmc hwm
  go_enter Tryz.func46, Tryz.ntmps46
  go_wp2_with fail
  rw [HMM.out]
  refine HP.out.mono ?_
  rintro e w3 ⟨rfl, hd3, hk3⟩
  have HD3 := Lib.hid hd3
  have HK3 := Lib.hid hk3
  clear hd3 hk3
  go_wp2_with fail
  go_end0
  refine ⟨rfl, .slice a (du + m) cap, ?_, fun j hj => (HAP.out.2 j (own_len hj)).1, keeps_cut ((Keeps.of_below ((Below.refl _ w).alloc (Nat.le_refl _) _)).mono (fun j _ h => .inr h) |>.trans (HK3.out.mono (fun j _ h => .inl (.inr (.inl h)))))⟩
  rw [HDU.out, HBL.out]
  rw [HM.out]
  exact HD3.out

def sumG (g : Fl → Nat) (es : List Fl) : Nat := (es.map g).sum
def looseF (es : List Fl) : Nat := sumG (fun f => f.bs.length - f.dur) es
theorem left_sum (gf : Fl → Nat) {left : Lit → Bool} {es : List Fl} (hs : es.Pairwise (fun f g => f.key < g.key)) {f : Fl} (hf : f ∈ es) (hl : left (.int .i64 (f.key : Int)) = true) :
    sumG gf (leftF left es) = gf f + sumG gf (leftF (fun z => left z && !z.sameKey (.int .i64 (f.key : Int))) es) := by
  induction es with
  | nil => simp at hf
  | cons g es ih =>
    rw [List.pairwise_cons] at hs
    have key : ∀ (es' : List Fl), (∀ h ∈ es', h.key ≠ f.key) → leftF (fun z => left z && !z.sameKey (.int .i64 (f.key : Int))) es' = leftF left es' := by
      intro es' hne
      unfold leftF
      refine List.filter_congr fun h hh => ?_
      simp only [same_int, decide_eq_false (hne h hh), Bool.not_false, Bool.and_true]
    rcases List.mem_cons.1 hf with rfl | hf
    · have h1 := key es (fun h hh => by have := hs.1 h hh; omega)
      unfold leftF at *
      rw [List.filter_cons, if_pos hl, List.filter_cons, if_neg (by simp only [same_int, decide_true, Bool.not_true, Bool.and_false]; decide), h1]
      rfl
    · have hne : g.key ≠ f.key := by have := hs.1 f hf; omega
      have h1 := ih hs.2 hf
      unfold leftF at *
      rw [List.filter_cons, List.filter_cons]
      by_cases hg : left (.int .i64 (g.key : Int)) = true
      · rw [if_pos hg, if_pos (by simp only [same_int, decide_eq_false hne, hg]; rfl)]
        unfold sumG at *
        rw [List.map_cons, List.sum_cons, h1, List.map_cons, List.sum_cons]
        omega
      · rw [if_neg hg, if_neg (by rw [Bool.not_eq_true] at hg; simp only [hg, Bool.false_and]; decide)]
        exact h1
theorem loose_le (es : List Fl) : looseF es ≤ usedF es := by
  unfold looseF sumG usedF
  induction es with
  | nil => exact Nat.le_refl _
  | cons f t ih => simp only [List.map_cons, List.sum_cons]; omega

def LooseEnd (es : List Fl) (w : World) (e : Ending) (w' : World) : Prop := e = .returned (.int .i64 (looseF es : Int)) ∧ Below w.heap.size w w'

set_option maxHeartbeats 4000000 in
theorem loose_any (d b room : Nat) (on : Bool) (left : Int) (es : List Fl) (w : World) (h : Dk w d b room on left es) :
    Calls Tryz.prog 47 #[.pointer (some ⟨d, 0, none⟩)] w (LooseEnd es w) := by
  have HD := Lib.hid h
  have c1 := h.dk.cell 1
  simp only [List.getElem?_cons_succ, List.getElem?_cons_zero] at c1
  have hmp := h.mp
  have hul : looseF es ≤ 16777216 := Nat.le_trans (loose_le es) (Nat.le_trans h.room.1 h.room.2)
  clear h
  go_enter Tryz.func47, Tryz.ntmps47
  go_wp2_with (first
    | (at_range; refine wpList_range_own _ rfl _ 64 rfl 3 83 law_int Tryz.underlying64 rdC b es.length (dm (mdOf es)) rfl hmp ?_; intro w0 hrg0 hg0 hs0)
    | go_in)
  go_frame
  go_loopw [3] (fun s3 wr => ∃ (lf : Lit → Bool) (cnt acc : Nat), s3 = .int .i64 (acc : Int) ∧ Hid (wr.ranges Tryz.prog 3 rdC b w.heap.size es.length (dm (mdOf es)) lf cnt) ∧ Hid (looseF (leftF lf es) + acc = looseF es) ∧ Hid (Below w.heap.size w wr)) (fun _ wr => wr.rangeLeft b w.heap.size)
  case atStart => exact ⟨_, _, 0, rfl, Lib.hid hrg0, Lib.hid (by rw [left_start]; rfl), Lib.hid ((Below.refl _ w).grown hg0 (Nat.le_refl _) (fun k h => by cases h))⟩
  case round =>
    obtain ⟨lf, cnt, acc, rfl, HRG, HAC, HBE⟩ := hrel
    clear hmp hrg0 hg0
    go_wp2_with (first
      | (at_next; refine wpList_next_ranges (α := Value) (β := Value) _ rfl _ rfl 3 law_int rdC id id (fun k kl _ => ⟨k, rfl⟩) (fun v y _ => ⟨v, rfl⟩) b w.heap.size es.length _ _ _ rfl HRG.out ?_ ?_)
      | go_in)
    · intro _ hl0
      have hac := HAC.out
      rw [left_end hl0] at hac
      have hac2 : acc = looseF es := by rw [← hac]; show acc = 0 + acc; omega
      have HA2 := Lib.hid hac2
      clear hac hac2
      go_wp2
      go_ret
      exact ⟨by rw [← HA2.out]; rfl, HBE.out⟩
    · intro x c kl y yp w1 cnt1 hkey hlx hRv hat hrg1 hlt hg1 hs1 hen
      obtain ⟨rfl, _⟩ : y = DataW.held c ∧ yp = [] := by
        have h : (some (DataW.held c, ([] : List MemPlace)) : Option (DataW Value × List MemPlace)) = some (y, yp) := hRv
        injection h with h
        injection h with h1 h2
        exact ⟨h1.symm, h2.symm⟩
      obtain ⟨f, hfm, rfl, rfl, rfl⟩ := entry_file hkey hat
      have HLT := Lib.hid hlt
      have HFO := Lib.hid (HD.out.ok f hfm)
      have HST := Lib.hid (left_sum (fun f => f.bs.length - f.dur) HD.out.sorted hfm hlx)
      have HRG1 := Lib.hid hrg1
      have HB1 := Lib.hid (HBE.out.grown hg1 HBE.out.size (fun k h => by injection h with h; omega))
      obtain ⟨fa, fc, hfv, _⟩ := fresh_elems HFO.out.row
      rw [natI_length] at hfv
      unfold cont at hen ⊢
      rw [hfv] at hen ⊢
      obtain ⟨lo, hlo⟩ : ∃ lo, f.bs.length - f.dur = lo := ⟨_, rfl⟩
      have hsub : (f.bs.length : Int) - (f.dur : Int) = (lo : Int) := by have := HFO.out.dur; omega
      have hwl : IntKind.i64.wrap ((f.bs.length : Int) - (f.dur : Int)) = (lo : Int) := by rw [wrap_i64]; unfold wrap64; have := Nat.le_trans (used_mem hfm) (Nat.le_trans HD.out.room.1 HD.out.room.2); omega
      have hfl : acc + lo ≤ 16777216 := by have h1 := HAC.out; have h2 := HST.out; unfold looseF at h1 hul; simp only [hlo] at h2; omega
      have HLO := Lib.hid hlo
      clear hkey hlx hRv hat hrg1 hlt hg1 hfv hlo
      go_wp2
      refine ⟨⟨_, cnt1, acc + lo, by rw [Int.natCast_add], Lib.hid (HRG1.out.alloc _), Lib.hid (by have h1 := HST.out; have h2 := HAC.out; simp only [HLO.out] at h1; unfold looseF at *; omega), Lib.hid (HB1.out.alloc HB1.out.size _)⟩, ?_⟩
      rw [(HRG1.out.alloc _).left_eq, HRG.out.left_eq]
      exact HLT.out

/-! ### A bit inverted -/
def flipN (c bit : Nat) : Nat := c ^^^ (2 ^ (7 - bit % 8))
theorem flip8_fin : ∀ (m : Fin 8) (x : Fin 256), bits BinOp.xor IntKind.u8 (x.val : Int) ((2 : Int) ^ (7 - m.val) % 256) = ((x.val ^^^ (2 ^ (7 - m.val)) : Nat) : Int) ∧ x.val ^^^ (2 ^ (7 - m.val)) < 256 ∧ x.val ^^^ (2 ^ (7 - m.val)) ≠ x.val := by decide +kernel
theorem flip_bits {c : Nat} (bit : Nat) (h : c < 256) : bits BinOp.xor IntKind.u8 (c : Int) ((2 : Int) ^ (7 - bit % 8) % 256) = (flipN c bit : Int) ∧ flipN c bit < 256 ∧ flipN c bit ≠ c :=
  flip8_fin ⟨bit % 8, Nat.mod_lt _ (by decide)⟩ ⟨c, h⟩

def InvEnd (g off bit c : Nat) (w : World) (e : Ending) (w' : World) : Prop := e = .returned (.tuple #[]) ∧ w' = (w.setCell ⟨g, off + bit / 8, none⟩ (.int .u8 (flipN c bit : Int))).drew
set_option maxHeartbeats 4000000 in
theorem invert_any (g off n cap bit c : Nat) (w : World) (hc : w.cell? ⟨g, off + bit / 8, none⟩ = some (.int .u8 (c : Int))) (hf : w.frozen? ⟨g, off + bit / 8, none⟩ = false) (hlt : bit / 8 < n) (h8 : c < 256) (hb : bit ≤ 4611686018427387904) :
    Calls Tryz.prog 77 #[.slice (some ⟨g, off, none⟩) n cap, .int .i64 (bit : Int)] w (InvEnd g off bit c w) := by
  have hq : (bit : Int).tdiv 8 = ((bit / 8 : Nat) : Int) := rfl
  have hr : (bit : Int).tmod 8 = ((bit % 8 : Nat) : Int) := rfl
  have hr8 : bit % 8 < 8 := Nat.mod_lt _ (by decide)
  have HF := Lib.hid (flip_bits bit h8).1
  obtain ⟨m, hm⟩ : ∃ m, 7 - bit % 8 = m := ⟨_, rfl⟩
  have hs : (7 : Int) - ((bit % 8 : Nat) : Int) = (m : Int) := by omega
  go_enter Tryz.func77, Tryz.ntmps77
  go_wp2_with fail
  go_region
  subst hm
  rw [HF.out]
  go_end0
  exact ⟨rfl, rfl⟩

/-- A file with another byte. -/
def setF (k j y : Nat) (es : List Fl) : List Fl := es.map fun f => if f.key = k then { f with bs := f.bs.set j y } else f
theorem set_key (k j y : Nat) (f : Fl) : (if f.key = k then { f with bs := f.bs.set j y } else f : Fl).key = f.key := by split <;> rfl
theorem find_set (q k j y : Nat) (es : List Fl) : findF q (setF k j y es) = (findF q es).map fun f => if f.key = k then { f with bs := f.bs.set j y } else f := by
  unfold findF setF
  rw [List.find?_map]
  congr 2
  funext f
  simp only [Function.comp, set_key]
theorem bytes_set (q k j y : Nat) (es : List Fl) : bytesOf q (setF k j y es) = if q = k then (bytesOf k es).set j y else bytesOf q es := by
  unfold bytesOf
  rw [find_set]
  cases hf : findF q es with
  | none =>
    by_cases hq : q = k
    · rw [if_pos hq, ← hq, hf]; rfl
    · rw [if_neg hq]; rfl
  | some f =>
    obtain ⟨_, hk⟩ := find_mem hf
    by_cases hq : q = k
    · rw [if_pos hq, ← hq, hf]
      show (if f.key = q then { f with bs := f.bs.set j y } else f : Fl).bs = f.bs.set j y
      rw [if_pos hk]
    · rw [if_neg hq]
      show (if f.key = k then { f with bs := f.bs.set j y } else f : Fl).bs = f.bs
      rw [if_neg (by omega)]
theorem dur_set (q k j y : Nat) (es : List Fl) : durF q (setF k j y es) = durF q es := by
  unfold durF
  rw [find_set]
  cases hf : findF q es with
  | none => rfl
  | some f =>
    show (if f.key = k then { f with bs := f.bs.set j y } else f : Fl).dur = f.dur
    split <;> rfl
theorem natI_set (l : List Nat) (j y : Nat) : natI (l.set j y) = (natI l).set j (y : Int) := by simp [natI]
theorem set_val (k j y : Nat) (f : Fl) : (if f.key = k then { f with bs := f.bs.set j y } else f : Fl).val = f.val ∧ (if f.key = k then { f with bs := f.bs.set j y } else f : Fl).dur = f.dur ∧ (if f.key = k then { f with bs := f.bs.set j y } else f : Fl).bs.length = f.bs.length := by split <;> simp
/-- A store into a file's bytes. -/
theorem dk_set {W : World} {d b room : Nat} {on : Bool} {left : Int} {es : List Fl} (h : Dk W d b room on left es) {k g cap : Nat} {x : Value} (hct : contOf k es = .agg #[.slice (some ⟨g, 0, none⟩) (bytesOf k es).length cap, x]) {j y : Nat} (hj : j < (bytesOf k es).length) (hy : y < 256) :
    Dk (W.setCell ⟨g, j, none⟩ (.int .u8 (y : Int))).drew d b room on left (setF k j y es) ∧ (∀ q, dkFoot d b (setF k j y es) q → dkFoot d b es q) ∧ dkFoot d b es g := by
  have hap := file_apart h hct
  have hgf := hap.2 g rfl
  have hk : Keeps (fun q => q = g) W (W.setCell ⟨g, j, none⟩ (.int .u8 (y : Int))).drew := (keeps_set W g j _).drew
  have hmd : mdOf (setF k j y es) = mdOf es := by
    unfold mdOf setF
    rw [List.map_map]
    refine List.map_congr_left fun f _ => ?_
    obtain ⟨h1, h2, _⟩ := set_val k j y f
    simp only [Function.comp, set_key, h1, h2]
  have hln : (setF k j y es).length = es.length := by unfold setF; rw [List.length_map]
  have hus : usedF (setF k j y es) = usedF es := by
    unfold usedF setF
    rw [List.map_map]
    congr 1
    refine List.map_congr_left fun f _ => ?_
    exact (set_val k j y f).2.2
  refine ⟨⟨h.dk.keeps hk (fun e => hgf.2.1 e.symm), ?_, ?_, ?_, ?_, ⟨by rw [hus]; exact h.room.1, h.room.2⟩, h.left⟩, ?_, hgf.1⟩
  · rw [hmd, hln]
    exact ownsMap_keeps h.mp hk (fun e => hgf.2.2 e.symm)
  · unfold setF
    rw [List.pairwise_map]
    exact h.sorted.imp (fun hfg => by rw [set_key, set_key]; exact hfg)
  · intro f' hf'
    obtain ⟨f, hf, rfl⟩ := List.mem_map.1 hf'
    have hok := h.ok f hf
    by_cases hfk : f.key = k
    · rw [if_pos hfk]
      have hfind := key_find h.sorted hf
      rw [hfk] at hfind
      have hbf : bytesOf k es = f.bs := by unfold bytesOf; rw [hfind]
      have hvf : f.val = .slice (some ⟨g, 0, none⟩) (bytesOf k es).length cap := by
        unfold contOf at hct
        rw [hfind] at hct
        have h2 : Value.agg #[f.val, .int .i64 (f.dur : Int)] = Value.agg #[.slice (some ⟨g, 0, none⟩) (bytesOf k es).length cap, x] := hct
        injection h2 with h2
        have := congrArg (fun q : Array Value => q.toList) h2
        injection this with h3 h4
      have hrow := hok.row
      rw [hvf, hbf] at hrow
      have hst := fresh_store2 hrow (by rw [natI_length]) j (y : Int)
      refine ⟨?_, fun c hc => ?_, fun e => hok.ne (by have := congrArg List.length e; rw [List.length_set] at this; exact List.eq_nil_of_length_eq_zero this), by show f.dur ≤ (f.bs.set j y).length; rw [List.length_set]; exact hok.dur, hok.key⟩
      · show Fresh 0 5 .u8 _ f.val (natI (f.bs.set j y))
        rw [hvf, hbf, natI_set]
        exact own_foot2 hst.1 ((Keeps.refl (fun _ => False) _).drew) (fun _ _ h => h)
      · rcases List.mem_or_eq_of_mem_set hc with h1 | h1
        · exact hok.b8 c h1
        · rw [h1]; exact hy
    · rw [if_neg hfk]
      exact flok_keeps hok hk (fun q hq e => hap.1 f (mem_erase.2 ⟨hf, hfk⟩) q hq (by rw [e]; rfl))
  · unfold setF
    rw [List.pairwise_map]
    exact h.sep.imp (fun hfg q => by rw [(set_val k j y _).1, (set_val k j y _).1]; exact hfg q)
  · rintro q (hq | hq | ⟨f', hf', hq⟩)
    · exact .inl hq
    · exact .inr (.inl hq)
    · obtain ⟨f, hf, rfl⟩ := List.mem_map.1 hf'
      exact .inr (.inr ⟨f, hf, by rw [(set_val k j y f).1] at hq; exact hq⟩)

/-- The loose bit with a number: its file, and its number in the file. -/
def flipAt : List Fl → Nat → Option (Nat × Nat)
  | [], _ => none
  | f :: t, bit => if bit < 8 * (f.bs.length - f.dur) then some (f.key, 8 * f.dur + bit) else flipAt t (bit - 8 * (f.bs.length - f.dur))
def turnF (k p : Nat) (es : List Fl) : List Fl := setF k (p / 8) (flipN (((bytesOf k es)[p / 8]?).getD 0) p) es
def flipF (es : List Fl) (bit : Nat) : List Fl := match flipAt es bit with
  | some (k, p) => turnF k p es
  | none => es
def FlipEnd (d b room : Nat) (on : Bool) (left : Int) (es : List Fl) (bit : Nat) (w : World) (e : Ending) (w' : World) : Prop :=
  e = .returned (.tuple #[]) ∧ Dk w' d b room on left (flipF es bit) ∧ (∀ j, dkFoot d b (flipF es bit) j → dkFoot d b es j) ∧ Keeps (dkFoot d b es) w w'

/-- A bit of a file inverted. -/
theorem turn_any {W : World} {d b room : Nat} {on : Bool} {left : Int} {es : List Fl} (h : Dk W d b room on left es) {k g cap p : Nat} {x : Value} (hct : contOf k es = .agg #[.slice (some ⟨g, 0, none⟩) (bytesOf k es).length cap, x]) (hp : p / 8 < (bytesOf k es).length) {off bit : Nat} (hob : 8 * off + bit = p) {n c2 : Nat} (hn : bit / 8 < n) (hb : bit ≤ 4611686018427387904) :
    Calls Tryz.prog 77 #[.slice (some ⟨g, off, none⟩) n c2, .int .i64 (bit : Int)] W (fun e w' => e = .returned (.tuple #[]) ∧ Dk w' d b room on left (turnF k p es) ∧ (∀ q, dkFoot d b (turnF k p es) q → dkFoot d b es q) ∧ Keeps (dkFoot d b es) W w') := by
  obtain ⟨a1, cap1, hct1, hrow, hln, h8⟩ := file_row h k
  have e2 : Value.slice (some ⟨g, 0, none⟩) (bytesOf k es).length cap = .slice a1 (bytesOf k es).length cap1 := by
    have := hct.symm.trans hct1
    injection this with this
    have := congrArg (fun q : Array Value => q.toList) this
    injection this with h3 _
  rw [← e2] at hrow
  have ho : off + bit / 8 = p / 8 := by omega
  have hm : flipN (((bytesOf k es)[p / 8]?).getD 0) bit = flipN (((bytesOf k es)[p / 8]?).getD 0) p := by unfold flipN; rw [show bit % 8 = p % 8 by omega]
  have hc8 : ((bytesOf k es)[p / 8]?).getD 0 < 256 := by rw [List.getElem?_eq_getElem hp]; exact h8 _ (List.getElem_mem hp)
  have hcl := fresh_cell hrow (j := p / 8) (by rw [natI_length]; exact hp)
  have hfz := fresh_frozen2 hrow (by rw [natI_length]) (p / 8)
  have hcv : ((natI (bytesOf k es))[p / 8]?).getD 0 = ((((bytesOf k es)[p / 8]?).getD 0 : Nat) : Int) := by unfold natI; rw [List.getElem?_map, List.getElem?_eq_getElem hp]; rfl
  rw [hcv, ← ho] at hcl
  rw [← ho] at hfz
  refine (invert_any g off n c2 bit (((bytesOf k es)[p / 8]?).getD 0) W (by rw [ho] at hcl ⊢; exact hcl) hfz hn hc8 hb).mono ?_
  rintro e w' ⟨rfl, rfl⟩
  rw [ho, hm]
  obtain ⟨h1, h2, h3⟩ := dk_set h hct hp (y := flipN (((bytesOf k es)[p / 8]?).getD 0) p) (flip_bits p hc8).2.1
  exact ⟨rfl, h1, h2, (keeps_set W g (p / 8) _).drew.mono (fun j _ hj => by rw [hj]; exact h3)⟩

set_option maxHeartbeats 4000000 in
theorem flipLoose_any (d b room : Nat) (on : Bool) (left : Int) (es : List Fl) (bit : Nat) (w : World) (h : Dk w d b room on left es) (hbit : bit ≤ 4611686018427387904) :
    Calls Tryz.prog 48 #[.pointer (some ⟨d, 0, none⟩), .int .i64 (bit : Int)] w (FlipEnd d b room on left es bit w) := by
  have HD := Lib.hid h
  have hn64 := dk_len h
  clear h
  go_enter Tryz.func48, Tryz.ntmps48
  go_wp2_with fail
  refine (files_any d b room on left es w HD.out).mono ?_
  rintro e w1 ⟨v, rfl, hv, hb⟩
  obtain ⟨a, cap, rfl, hrow⟩ := keys_row hv
  have HR := Lib.hid hrow
  have HB := Lib.hid hb
  clear hrow hb hv
  go_wp2_with fail
  go_loopw [1, 11] (fun s1 s11 wr => ∃ i q : Nat, s1 = .int .i64 (q : Int) ∧ s11 = .int .i64 (i : Int) ∧ i ≤ es.length ∧ q ≤ bit ∧ Hid (flipAt (es.drop i) q = flipAt es bit) ∧ Hid (Below w1.heap.size w1 wr)) (fun _ s11 _ => es.length - (intOf s11).toNat)
  case atStart => exact ⟨0, bit, rfl, rfl, Nat.zero_le _, Nat.le_refl _, Lib.hid rfl, Lib.hid (Below.refl _ _)⟩
  case round =>
    obtain ⟨i, q, rfl, rfl, hi, hqb, HFA, HBE⟩ := hrel
    by_cases hlt : i < es.length
    · obtain ⟨g, rfl, hg1, hg2, hc⟩ := HR.out i hlt
      obtain ⟨hk64, hne, htk, hkat⟩ := key_at HD.out hlt
      have hcw := (HBE.out.cell (p := ⟨g, i, none⟩) hg2).trans hc
      have hdr : Dk wr d b room on left es := dk_below HD.out (HB.out.trans (HBE.out.mono HB.out.size))
      have hfind := key_find HD.out.sorted (List.getElem_mem hlt)
      have hdrop : es.drop i = es[i] :: es.drop (i + 1) := List.drop_eq_getElem_cons hlt
      rw [← hkat] at hfind
      have hfa := HFA.out
      rw [hdrop] at hfa
      generalize es[i] = f at *
      generalize keyAt es i = k at *
      have hbk : bytesOf k es = f.bs := by unfold bytesOf; rw [hfind]
      have hdk : durF k es = f.dur := by unfold durF; rw [hfind]
      have d1 := hdr.dk.cell 1
      have hlk := lookup_run hdr.mp hk64
      obtain ⟨a2, cap2, hct, hrow2, hlen2, _⟩ := file_row hdr k
      have HCT := Lib.hid hct
      rw [hct] at hlk
      have hdl := dur_le hdr k
      have hnel : 0 < (bytesOf k es).length := List.length_pos_iff.2 hne
      have hcap : (bytesOf k es).length ≤ cap2 := by
        obtain ⟨a3, c3, h3, h4, _⟩ := fresh_elems hrow2
        injection h3 with _ h6 h7
        rw [natI_length] at h4
        omega
      obtain ⟨g2, rfl⟩ : ∃ g2, a2 = some ⟨g2, 0, none⟩ := by
        rcases fresh_form hrow2 with ⟨_, h0⟩ | ⟨g2, c2, h2, _⟩
        · have := congrArg List.length h0
          rw [natI_length] at this
          simp at this
          exact absurd this hne
        · injection h2 with h2
          exact ⟨g2, h2⟩
      have hlx : Laid (wr.alloc (.cells #[.slice (some ⟨g2, 0, none⟩) (bytesOf k es).length cap2, .int .i64 (durF k es : Int)] 83)) wr.heap.size 83 [.slice (some ⟨g2, 0, none⟩) (bytesOf k es).length cap2, .int .i64 (durF k es : Int)] := Laid.new wr _ _
      have x0 := hlx.cell 0
      have x1 := hlx.cell 1
      simp only [List.getElem?_cons_succ, List.getElem?_cons_zero] at d1 x0 x1
      have hflip : flipAt (f :: es.drop (i + 1)) q = if q < 8 * ((bytesOf k es).length - durF k es) then some (k, 8 * durF k es + q) else flipAt (es.drop (i + 1)) (q - 8 * ((bytesOf k es).length - durF k es)) := by rw [hbk, hdk, hkat]; rfl
      rw [hflip] at hfa
      have HFB := Lib.hid hfa
      have HWA := Lib.hid (HBE.out.alloc HBE.out.size (.cells #[.slice (some ⟨g2, 0, none⟩) (bytesOf k es).length cap2, .int .i64 (durF k es : Int)] 83))
      have HDA := Lib.hid (dk_below hdr ((Below.refl _ wr).alloc (Nat.le_refl _) (.cells #[.slice (some ⟨g2, 0, none⟩) (bytesOf k es).length cap2, .int .i64 (durF k es : Int)] 83)))
      generalize hbl : (bytesOf k es).length = n at *
      generalize hdu : durF k es = du at *
      have HBL := Lib.hid hbl
      have HDU := Lib.hid hdu
      clear hc htk hkat hfind hdrop hbk hdk hct hrow2 hne hlx hfa hflip hbl hdu hdr
      by_cases hz : du = n
      · subst hz
        have HFC : Hid (flipAt (es.drop (i + 1)) q = flipAt es bit) := Lib.hid (by have := HFB.out; rw [if_neg (by omega)] at this; rw [← this]; congr 1; omega)
        go_wp2_with fail
        exact ⟨⟨i + 1, q, rfl, by rw [Int.natCast_add]; rfl, by omega, hqb, HFC, HWA⟩, by simp only [intOf]; omega⟩
      · have hdc : ¬ du = cap2 := by omega
        by_cases hqq : q < 8 * (n - du)
        · have hcmp : (q : Int) < ((n - du : Nat) : Int) * 8 := by omega
          have HFC : Hid (flipF es bit = turnF k (8 * du + q) es) := Lib.hid (by unfold flipF; rw [← HFB.out, if_pos hqq])
          have HN := Lib.hid hqq
          clear hqq
          go_wp2_with fail
          refine (turn_any (k := k) (p := 8 * du + q) (off := du) (bit := q) HDA.out (by rw [HBL.out]; exact HCT.out) (by rw [HBL.out]; have := HN.out; omega) rfl (by have := HN.out; omega) (by omega)).mono ?_
          rintro e w4 ⟨rfl, hd4, hf4, hk4⟩
          have HD4 := Lib.hid hd4
          have HK4 := Lib.hid (And.intro hf4 hk4)
          clear hd4 hf4 hk4
          go_wp2_with fail
          go_end0
          refine ⟨rfl, ?_, fun j hj => ?_, (Keeps.of_below_size (HB.out.trans (HWA.out.mono HB.out.size))).trans HK4.out.2⟩
          · rw [HFC.out]; exact HD4.out
          · rw [HFC.out] at hj; exact HK4.out.1 j hj
        · have hcmp : ¬ (q : Int) < ((n - du : Nat) : Int) * 8 := by omega
          have hsub : (q : Int) - ((n - du : Nat) : Int) * 8 = ((q - 8 * (n - du) : Nat) : Int) := by omega
          have HFC : Hid (flipAt (es.drop (i + 1)) (q - 8 * (n - du)) = flipAt es bit) := Lib.hid (by have := HFB.out; rw [if_neg hqq] at this; exact this)
          clear hqq
          go_wp2_with fail
          exact ⟨⟨i + 1, q - 8 * (n - du), rfl, by rw [Int.natCast_add]; rfl, by omega, by omega, HFC, HWA⟩, by simp only [intOf]; omega⟩
    · have hie : i = es.length := by omega
      subst hie
      have hfa := HFA.out
      rw [List.drop_length] at hfa
      have HFB : Hid (flipF es bit = es) := Lib.hid (by unfold flipF; rw [← hfa]; rfl)
      clear hlt hfa
      go_wp2
      go_end0
      refine ⟨rfl, ?_, fun j hj => by rw [HFB.out] at hj; exact hj, Keeps.of_below_size (HB.out.trans (HBE.out.mono HB.out.size))⟩
      rw [HFB.out]
      exact dk_below HD.out (HB.out.trans (HBE.out.mono HB.out.size))

def keepAt (keep : List Int) (i : Nat) : Int := (keep[i]?).getD 0
def rankF (es : List Fl) (k : Nat) : Nat := (es.map Fl.key).idxOf k
def lostB (es : List Fl) (keep : List Int) (k : Nat) : List Nat := (bytesOf k es).take (durF k es + lostN (keepAt keep (rankF es k)) ((bytesOf k es).length - durF k es))
/-- The disk while it loses bytes: i files are done. -/
def Losing (d b room : Nat) (on : Bool) (left : Int) (es : List Fl) (keep : List Int) (w : World) (i : Nat) (wr : World) : Prop :=
  ∃ es2, Dk wr d b room on left es2 ∧ (∀ k, bytesOf k es2 = if rankF es k < i then lostB es keep k else bytesOf k es) ∧ (∀ k, durF k es2 = durF k es) ∧ (∀ j, dkFoot d b es2 j → dkFoot d b es j) ∧ Keeps (dkFoot d b es) w wr

theorem keys_nodup {es : List Fl} (hs : es.Pairwise (fun f g => f.key < g.key)) : (es.map Fl.key).Nodup := by
  unfold List.Nodup
  rw [List.pairwise_map]
  exact hs.imp (fun h => by omega)
theorem rank_at {es : List Fl} (hs : es.Pairwise (fun f g => f.key < g.key)) {i : Nat} (hi : i < es.length) (k : Nat) : rankF es k = i ↔ k = keyAt es i := by
  have hl : i < (es.map Fl.key).length := by rw [List.length_map]; exact hi
  have hk : keyAt es i = (es.map Fl.key)[i] := by unfold keyAt; rw [List.getElem?_eq_getElem hl]; rfl
  constructor
  · intro h
    have h2 : (es.map Fl.key).idxOf k < (es.map Fl.key).length := by unfold rankF at h; omega
    have := List.getElem_idxOf h2
    rw [hk, ← this]
    congr 1
  · rintro rfl
    unfold rankF
    rw [hk]
    exact (keys_nodup hs).idxOf_getElem i hl
theorem lost_zero (lo : Nat) : lostN 0 lo = 0 := by unfold lostN; omega

def CrashEnd (d b room : Nat) (es : List Fl) (keep : List Int) (flip : Int) (w : World) (e : Ending) (w' : World) : Prop :=
  e = .returned (.tuple #[]) ∧ ∃ es1 es2, (∀ k, bytesOf k es1 = lostB es keep k) ∧ (∀ k, durF k es1 = durF k es) ∧ es1.Pairwise (fun f g => f.key < g.key) ∧ (∀ f ∈ es1, f.key < 64) ∧
    Dk w' d b room true (-1) es2 ∧ (∀ k, bytesOf k es2 = bytesOf k (if 0 ≤ flip ∧ 0 < looseF es1 then flipF es1 (flip.toNat % (8 * looseF es1)) else es1)) ∧ (∀ k, durF k es2 = (bytesOf k es2).length) ∧
    (∀ j, dkFoot d b es2 j → dkFoot d b es j) ∧ Keeps (dkFoot d b es) w w'

/-- The end of a failure: all bytes are durable, the power is on. -/
theorem crash_end {d b room : Nat} {on : Bool} {left : Int} {es es1 es2 : List Fl} {keep : List Int} {flip : Int} {w w1 w2 : World} (h1 : ∀ k, bytesOf k es1 = lostB es keep k) (h2 : ∀ k, durF k es1 = durF k es)
    (hd1 : Dk w1 d b room on left es1) (hes : ∀ k, bytesOf k es2 = bytesOf k (if 0 ≤ flip ∧ 0 < looseF es1 then flipF es1 (flip.toNat % (8 * looseF es1)) else es1)) (hdu : ∀ k, durF k es2 = (bytesOf k es2).length)
    (hf : ∀ j, dkFoot d b es2 j → dkFoot d b es j) (hk : Keeps (dkFoot d b es) w w2) (hd2 : Dk w2 d b room on left es2) :
    CrashEnd d b room es keep flip w (.returned (.tuple #[])) ((w2.setCell ⟨d, 2, none⟩ (.bool true)).setCell ⟨d, 3, none⟩ (.int .i64 (-1))) := by
  have h3 := dk_store hd2 2 (.bool true) (on' := true) (left' := left) rfl hd2.left
  have h4 := dk_store h3 3 (.int .i64 (-1)) (on' := true) (left' := -1) rfl (by decide)
  exact ⟨rfl, es1, es2, h1, h2, hd1.sorted, fun f hf => (hd1.ok f hf).key, h4, hes, hdu, hf, hk.trans (((keeps_set w2 d 2 _).trans (keeps_set _ d 3 _)).mono (fun j _ h => by rw [h]; exact .inl rfl))⟩

set_option maxHeartbeats 8000000 in
theorem crash_any (d b room : Nat) (on : Bool) (left : Int) (es : List Fl) (v : Value) (keep : List Int) (flip : Int) (w : World) (h : Dk w d b room on left es) (hv : Row .i64 w v keep) (hvb : ∀ j, blockOf v j → ¬ dkFoot d b es j)
    (hkr : ∀ x ∈ keep, -9223372036854775808 ≤ x ∧ x ≤ 9223372036854775807) (hfl : -9223372036854775808 ≤ flip ∧ flip ≤ 9223372036854775807) (hkl : keep.length ≤ 1000000) :
    Calls Tryz.prog 14 #[.pointer (some ⟨d, 0, none⟩), v, .int .i64 flip] w (CrashEnd d b room es keep flip w) := by
  have HD := Lib.hid h
  have hn64 := dk_len h
  obtain ⟨ka, kcap, rfl, _, _, hkc, _⟩ := hv
  have HKC := Lib.hid hkc
  have HVB := Lib.hid hvb
  have HKR := Lib.hid hkr
  have HFL := Lib.hid hfl
  clear h hkc hvb hkr hfl
  go_enter Tryz.func14, Tryz.ntmps14
  go_wp2_with fail
  refine (files_any d b room on left es w HD.out).mono ?_
  rintro e w1 ⟨u, rfl, hu, hb⟩
  obtain ⟨a, cap, rfl, hrow⟩ := keys_row hu
  have HR := Lib.hid hrow
  have HB := Lib.hid hb
  clear hrow hb hu
  go_wp2_with fail
  go_loopw [13] (fun s13 wr => ∃ i : Nat, s13 = .int .i64 (i : Int) ∧ i ≤ es.length ∧ Hid (Losing d b room on left es keep w1 i wr)) (fun s13 _ => es.length - (intOf s13).toNat)
  case atStart =>
    exact ⟨0, rfl, Nat.zero_le _, Lib.hid ⟨es, dk_below HD.out HB.out, fun k => by rw [if_neg (Nat.not_lt_zero _)], fun k => rfl, fun _ h => h, Keeps.refl _ _⟩⟩
  case round =>
    obtain ⟨i, rfl, hi, HH⟩ := hrel
    by_cases hlt : i < es.length
    · obtain ⟨es2, hd2, hby, hdu, hft, hkp⟩ := HH.out
      obtain ⟨g, rfl, hg1, hg2, hc⟩ := HR.out i hlt
      obtain ⟨hk64, hne, htk, hkat⟩ := key_at HD.out hlt
      have hcw := hkp.cell hc (fun hf => by have := HD.out.lt g hf; have := HB.out.size; omega)
      have hrk := rank_at HD.out.sorted hlt
      generalize keyAt es i = k at *
      have HD2 := Lib.hid hd2
      have hbk : bytesOf k es2 = bytesOf k es := by rw [hby, if_neg (by have := (hrk k).2 rfl; omega)]
      have hnext : ∀ (v3 : Value) (q : Int) (w3 : World), q = keepAt keep i → Dk w3 d b room on left (afterF ⟨k, v3, (bytesOf k es2).take (durF k es2 + lostN q ((bytesOf k es2).length - durF k es2)), durF k es2⟩ es2) →
          (∀ j, v3.ownBlock = some j → dkFoot d b es2 j) → Keeps (dkFoot d b es2) wr w3 → Losing d b room on left es keep w1 (i + 1) w3 := by
        rintro v3 q w3 rfl h1 h2 h3
        have hdl := dur_le hd2 k
        refine ⟨_, h1, fun j => ?_, fun j => ?_, fun j hj => ?_, hkp.trans (h3.mono (fun j _ hj => hft j hj))⟩
        · rw [bytes_after]
          by_cases hj : j = k
          · subst hj
            have hr := (hrk j).2 rfl
            rw [if_pos rfl, if_pos (by omega)]
            show (bytesOf j es2).take _ = lostB es keep j
            unfold lostB
            rw [hbk, hdu, hr]
          · have hr : rankF es j ≠ i := fun e => hj ((hrk j).1 e)
            rw [if_neg hj, hby]
            by_cases hq : rankF es j < i
            · rw [if_pos hq, if_pos (by omega)]
            · rw [if_neg hq, if_neg (by omega)]
        · rw [dur_after (by show durF k es2 ≤ (List.take _ _).length; rw [List.length_take]; omega)]
          by_cases hj : j = k
          · rw [if_pos hj, hj]; exact hdu k
          · rw [if_neg hj]; exact hdu j
        · rcases foot_after hj with h | h
          · exact hft j h
          · exact hft j (h2 j h)
      have HNX := Lib.hid hnext
      have HKP := Lib.hid hkp
      have HFT := Lib.hid hft
      clear hd2 hby hdu hft hkp hc hne htk hkat hrk hbk hnext HH
      by_cases hik : i < keep.length
      · obtain ⟨gk, off, rfl, hcells⟩ := HKC.out (fun e => by rw [e] at hik; simp at hik)
        have hck := hcells i hik
        have hgk := HVB.out gk rfl
        have hgl := World.block_lt_of_cell? _ _ hck
        have hck2 := HKP.out.cell ((HB.out.cell hgl).trans hck) hgk
        have hka : (keep[i]?).getD 0 = keepAt keep i := rfl
        have hkr2 : -9223372036854775808 ≤ keepAt keep i ∧ keepAt keep i ≤ 9223372036854775807 := by
          unfold keepAt
          rw [List.getElem?_eq_getElem hik]
          exact HKR.out _ (List.getElem_mem hik)
        rw [hka] at hck2
        obtain ⟨q, hq⟩ : ∃ q, keepAt keep i = q := ⟨_, rfl⟩
        rw [hq] at hck2 hkr2
        have HQ := Lib.hid hq
        clear hcells hck hgk hgl hka hq
        go_wp2_with fail
        refine (lose_any d b room on left es2 k q wr HD2.out hk64 hkr2).mono ?_
        rintro e w3 ⟨rfl, v3, h1, h2, h3⟩
        have HN : Hid (Losing d b room on left es keep w1 (i + 1) w3) := Lib.hid (HNX.out v3 q w3 HQ.out.symm h1 h2 h3)
        clear h1 h2 h3
        go_wp2_with fail
        exact ⟨⟨i + 1, by rw [Int.natCast_add]; rfl, by omega, HN⟩, by simp only [intOf]; omega⟩
      · have HQ : Hid (keepAt keep i = 0) := Lib.hid (by unfold keepAt; rw [List.getElem?_eq_none (by omega)]; rfl)
        go_wp2_with fail
        refine (lose_any d b room on left es2 k 0 wr HD2.out hk64 (by decide)).mono ?_
        rintro e w3 ⟨rfl, v3, h1, h2, h3⟩
        have HN : Hid (Losing d b room on left es keep w1 (i + 1) w3) := Lib.hid (HNX.out v3 0 w3 HQ.out.symm h1 h2 h3)
        clear h1 h2 h3
        go_wp2_with fail
        exact ⟨⟨i + 1, by rw [Int.natCast_add]; rfl, by omega, HN⟩, by simp only [intOf]; omega⟩
    · have hie : i = es.length := by omega
      subst hie
      clear hlt
      go_wp2_with fail
      obtain ⟨es2, hd2, hby, hdu, hft, hkp⟩ := HH.out
      have HD2 := Lib.hid hd2
      have hby2 : ∀ k, bytesOf k es2 = lostB es keep k := by
        intro k
        rw [hby]
        by_cases hq : rankF es k < es.length
        · rw [if_pos hq]
        · rw [if_neg hq]
          have hnm : k ∉ es.map Fl.key := fun hm => hq (by have := List.idxOf_lt_length_of_mem hm; rw [List.length_map] at this; exact this)
          unfold lostB
          rw [(key_none hnm).1, List.take_nil]
      have HBY := Lib.hid hby2
      have HDU := Lib.hid hdu
      have HFT := Lib.hid hft
      have HKP := Lib.hid ((Keeps.of_below_size HB.out : Keeps (dkFoot d b es) w w1).trans hkp)
      have hlo := Nat.le_trans (loose_le es2) (Nat.le_trans hd2.room.1 hd2.room.2)
      clear hd2 hby hby2 hdu hft hkp HH
      refine (loose_any d b room on left es2 wr HD2.out).mono ?_
      rintro e w4 ⟨rfl, hb4⟩
      have HD4 := Lib.hid (dk_below HD2.out hb4)
      have HB4 := Lib.hid hb4
      clear hb4
      obtain ⟨lo, hlo2⟩ : ∃ lo, looseF es2 = lo := ⟨_, rfl⟩
      have HLO := Lib.hid hlo2
      rw [hlo2] at hlo ⊢
      clear hlo2
      by_cases hfp : 0 ≤ flip
      · obtain ⟨fl, rfl⟩ := Int.eq_ofNat_of_zero_le hfp
        have hflb := HFL.out.2
        by_cases hl0 : 0 < lo
        · have hrem : (fl : Int).tmod ((lo : Int) * 8) = ((fl % (8 * lo) : Nat) : Int) := by rw [show (lo : Int) * 8 = ((8 * lo : Nat) : Int) by omega]; rfl
          have hw8 : IntKind.i64.wrap ((lo : Int) * 8) = (lo : Int) * 8 := by rw [wrap_i64]; unfold wrap64; omega
          have hn8 : ¬ (lo : Int) * 8 = 0 := by omega
          have hn9 : ¬ lo = 0 := by omega
          have hn10 : ¬ lo * 8 = 0 := by omega
          have HCO : Hid ((if 0 ≤ ((fl : Nat) : Int) ∧ 0 < looseF es2 then flipF es2 (((fl : Nat) : Int).toNat % (8 * looseF es2)) else es2) = flipF es2 (fl % (8 * lo))) := Lib.hid (by rw [HLO.out, if_pos ⟨hfp, hl0⟩, Int.toNat_natCast])
          have hbl : fl % (8 * lo) ≤ 4611686018427387904 := by have := Nat.mod_lt fl (show 0 < 8 * lo by omega); omega
          go_wp2_with fail
          have hmod : (fl : Int) % (8 * (lo : Int)) = ((fl % (8 * lo) : Nat) : Int) := by rw [show (8 : Int) * (lo : Int) = ((8 * lo : Nat) : Int) by omega]; rfl
          rw [hmod]
          refine (flipLoose_any d b room on left es2 (fl % (8 * lo)) w4 HD4.out hbl).mono ?_
          rintro e w5 ⟨rfl, h51, h52, h53⟩
          have HD5 := Lib.hid h51
          have HF5 := Lib.hid (And.intro h52 h53)
          clear h51 h52 h53 hmod hrem hw8 hn8 hn9 hn10
          go_wp2_with fail
          refine (settle_any d b room on left (flipF es2 (fl % (8 * lo))) w5 HD5.out).mono ?_
          rintro e w6 ⟨rfl, es6, h61, h62, h63, h64, h65⟩
          have H6 := Lib.hid (And.intro h61 (And.intro h62 (And.intro h63 (And.intro h64 h65))))
          have k2 := h61.dk.cell 2
          have z2 := h61.dk.frozen 2
          have hst := (dk_store h61 2 (.bool true) (on' := true) (left' := left) rfl h61.left).dk
          have k3 := hst.cell 3
          have z3 := hst.frozen 3
          simp only [List.getElem?_cons_succ, List.getElem?_cons_zero] at k2 k3
          clear h61 h62 h63 h64 h65 hst
          go_wp2_with fail
          go_end0
          obtain ⟨h61, h62, h63, h64, h65⟩ := H6.out
          exact crash_end HBY.out HDU.out HD2.out (fun k => by rw [HCO.out]; exact h62 k) (fun k => by rw [h63, h62]) (fun j hj => HFT.out j (HF5.out.1 j (h64 j hj))) (((HKP.out.trans (Keeps.of_below_size HB4.out)).trans (HF5.out.2.mono (fun j _ hj => HFT.out j hj))).trans (h65.mono (fun j _ hj => HFT.out j (HF5.out.1 j hj)))) h61
        · have HCO : Hid ((if 0 ≤ ((fl : Nat) : Int) ∧ 0 < looseF es2 then flipF es2 (((fl : Nat) : Int).toNat % (8 * looseF es2)) else es2) = es2) := Lib.hid (by rw [HLO.out, if_neg (fun h => hl0 h.2)])
          go_wp2_with fail
          refine (settle_any d b room on left es2 w4 HD4.out).mono ?_
          rintro e w6 ⟨rfl, es6, h61, h62, h63, h64, h65⟩
          have H6 := Lib.hid (And.intro h61 (And.intro h62 (And.intro h63 (And.intro h64 h65))))
          have k2 := h61.dk.cell 2
          have z2 := h61.dk.frozen 2
          have hst := (dk_store h61 2 (.bool true) (on' := true) (left' := left) rfl h61.left).dk
          have k3 := hst.cell 3
          have z3 := hst.frozen 3
          simp only [List.getElem?_cons_succ, List.getElem?_cons_zero] at k2 k3
          clear h61 h62 h63 h64 h65 hst
          go_wp2_with fail
          go_end0
          obtain ⟨h61, h62, h63, h64, h65⟩ := H6.out
          exact crash_end HBY.out HDU.out HD2.out (fun k => by rw [HCO.out]; exact h62 k) (fun k => by rw [h63, h62]) (fun j hj => HFT.out j (h64 j hj)) ((HKP.out.trans (Keeps.of_below_size HB4.out)).trans (h65.mono (fun j _ hj => HFT.out j hj))) h61
      · have HCO : Hid ((if 0 ≤ flip ∧ 0 < looseF es2 then flipF es2 (flip.toNat % (8 * looseF es2)) else es2) = es2) := Lib.hid (by rw [if_neg (fun h => hfp h.1)])
        go_wp2_with fail
        refine (settle_any d b room on left es2 w4 HD4.out).mono ?_
        rintro e w6 ⟨rfl, es6, h61, h62, h63, h64, h65⟩
        have H6 := Lib.hid (And.intro h61 (And.intro h62 (And.intro h63 (And.intro h64 h65))))
        have k2 := h61.dk.cell 2
        have z2 := h61.dk.frozen 2
        have hst := (dk_store h61 2 (.bool true) (on' := true) (left' := left) rfl h61.left).dk
        have k3 := hst.cell 3
        have z3 := hst.frozen 3
        simp only [List.getElem?_cons_succ, List.getElem?_cons_zero] at k2 k3
        clear h61 h62 h63 h64 h65 hst
        go_wp2_with fail
        go_end0
        obtain ⟨h61, h62, h63, h64, h65⟩ := H6.out
        exact crash_end HBY.out HDU.out HD2.out (fun k => by rw [HCO.out]; exact h62 k) (fun k => by rw [h63, h62]) (fun j hj => HFT.out j (h64 j hj)) ((HKP.out.trans (Keeps.of_below_size HB4.out)).trans (h65.mono (fun j _ hj => HFT.out j hj))) h61

theorem ranges_keeps {A : Foot} {W W2 : World} {b r n cnt : Nat} {D : DataW Value} {lf : Lit → Bool} (h : W.ranges Tryz.prog 3 rdC b r n D lf cnt) (hk : Keeps A W W2) (hb : ¬ A b) (hr : ¬ A r) : W2.ranges Tryz.prog 3 rdC b r n D lf cnt := by
  obtain ⟨es, clock, since, seen, c0, h1, F, hs, hD, h2, rest⟩ := h
  exact ⟨es, clock, since, seen, c0, hk.obj h1 hb, F, hs, hD, hk.obj h2 hr, rest⟩
theorem has_key {es : List Fl} {f : Fl} (hf : f ∈ es) : Maps.has (dm (mdOf es)) (.int .i64 (f.key : Int)) = true := by
  rw [dm, Maps.has_eq, List.any_eq_true]
  exact ⟨(.int .i64 (f.key : Int), .held (cont f.val f.dur)), List.mem_map.2 ⟨(f.key, cont f.val f.dur), List.mem_map.2 ⟨f, hf, rfl⟩, rfl⟩, by simp [Lit.sameKey]⟩
/-- A file put into the map. -/
theorem dk_add {W : World} {d b room : Nat} {on : Bool} {left : Int} {es : List Fl} (h : Dk W d b room on left es) {k : Nat} (hk : k < 64) {v : Value} {bs : List Nat} {dur : Nat} (hfl : FlOk W ⟨k, v, bs, dur⟩)
    (hap : ∀ f ∈ es, ∀ j, v.ownBlock = some j → f.val.ownBlock ≠ some j) (hroom : usedF es + bs.length ≤ room) :
    ∃ W1, (Instr.mapUpdate 64 (.map (some b)) (.int .i64 (k : Int)) (.agg #[v, .int .i64 (dur : Int)])).run Tryz.prog W = .ok () W1 ∧
      Dk W1 d b room on left (afterF ⟨k, v, bs, dur⟩ es) ∧ Keeps (fun j => j = b) W W1 := by
  have hlen := dk_len h
  obtain ⟨w1, hrun, hown1, hg1⟩ := World.ownsMap.update h.mp law_int Tryz.underlying64 (show es.length < maxLen by unfold maxLen; omega) (key := .int .i64 (k : Int)) (val := .agg #[v, .int .i64 (dur : Int)]) (key_int hk) rfl
  have hk1 := Keeps.of_grown (A := fun k => k = b) hg1 (fun k h => by injection h with h; exact h.symm)
  have hdb := laid_map h.dk h.mp
  refine ⟨w1, hrun, ?_, hk1⟩
  rw [show DataW.held (.agg #[v, .int .i64 (dur : Int)]) = DataW.held (cont v dur) from rfl, dm_put, put_md ⟨k, v, bs, dur⟩] at hown1
  have hus := used_erase_le k es
  refine dk_after (n := es.length + 1) (h.dk.keeps hk1 hdb) ?_ h.sorted (fun f hf2 => flok_keeps (h.ok f (mem_erase.1 hf2).1) hk1 (fun j hj e => row_map (h.ok f (mem_erase.1 hf2).1).row h.mp (by rw [hj, e]))) (h.sep.filter _)
    (fun _ => ⟨flok_keeps hfl hk1 (fun j hj e => row_map hfl.row h.mp (by rw [← e]; exact hj)), fun f hf j hj hj2 => hap f (mem_erase.1 hf).1 j hj hj2⟩) ⟨by show usedF (eraseF k es) + bs.length ≤ room; omega, h.room.2⟩ h.left
  unfold afterF
  rw [if_neg (show ¬ bs = [] from hfl.ne)]
  exact hown1

/-- The copy while it is made. -/
def Copying (d2 b2 room : Nat) (on : Bool) (left : Int) (es : List Fl) (lf : Lit → Bool) (n r : Nat) (wr : World) : Prop :=
  ∃ es2, Dk wr d2 b2 room on left es2 ∧ (∀ k, bytesOf k es2 = if lf (.int .i64 (k : Int)) = true then [] else bytesOf k es) ∧ (∀ k, durF k es2 = if lf (.int .i64 (k : Int)) = true then 0 else durF k es) ∧
    usedF es2 + usedF (leftF lf es) ≤ usedF es ∧ ∀ j, dkFoot d2 b2 es2 j → n ≤ j ∧ j ≠ r
def CopyEnd (room : Nat) (on : Bool) (left : Int) (es : List Fl) (w : World) (e : Ending) (w' : World) : Prop :=
  ∃ d2 b2 es2, e = .returned (.pointer (some ⟨d2, 0, none⟩)) ∧ Dk w' d2 b2 room on left es2 ∧ (∀ k, bytesOf k es2 = bytesOf k es) ∧ (∀ k, durF k es2 = durF k es) ∧ (∀ j, dkFoot d2 b2 es2 j → w.heap.size ≤ j) ∧ Below w.heap.size w w'

theorem copy_put {w wr w5 : World} {d2 b2 room m : Nat} {on : Bool} {left : Int} {es es2 : List Fl} {lf : Lit → Bool} {f : Fl} {va : Option Addr} {vc q : Nat} (hd2 : Dk wr d2 b2 room on left es2) (hd5 : Dk w5 d2 b2 room on left es2)
    (hv5 : Fresh m 5 .u8 w5 (.slice va f.bs.length vc) (natI f.bs)) (hm : wr.heap.size ≤ m) (hfo : FlOk w f) (hus : usedF es2 + usedF (leftF lf es) ≤ usedF es) (hst : usedF (leftF lf es) = f.bs.length + q) (hroom : usedF es ≤ room) :
    ∃ W1, (Instr.mapUpdate 64 (.map (some b2)) (.int .i64 (f.key : Int)) (.agg #[.slice va f.bs.length vc, .int .i64 (f.dur : Int)])).run Tryz.prog w5 = .ok () W1 ∧
      Dk W1 d2 b2 room on left (afterF ⟨f.key, .slice va f.bs.length vc, f.bs, f.dur⟩ es2) ∧ Keeps (fun j => j = b2) w5 W1 :=
  dk_add hd5 hfo.key ⟨fresh_mono hv5 (Nat.zero_le _), hfo.b8, hfo.ne, hfo.dur, hfo.key⟩
    (fun f2 hf2 j hj hj2 => by have h1 := (hv5.lt j hj).1; have h2 := hd2.lt j (.inr (.inr ⟨f2, hf2, hj2⟩)); omega) (by omega)

set_option maxHeartbeats 8000000 in
theorem copy_any (d b room : Nat) (on : Bool) (left : Int) (es : List Fl) (w : World) (h : Dk w d b room on left es) :
    Calls Tryz.prog 60 #[.pointer (some ⟨d, 0, none⟩)] w (CopyEnd room on left es w) := by
  have HD := Lib.hid h
  have c0 := h.dk.cell 0
  have c1 := h.dk.cell 1
  have c2 := h.dk.cell 2
  have c3 := h.dk.cell 3
  simp only [List.getElem?_cons_succ, List.getElem?_cons_zero] at c0 c1 c2 c3
  have hmp := h.mp
  have hln := dk_len h
  have hmk : ∀ (W : World) (n : Nat), (Instr.makeMap 64 (some (.int .i64 (n : Int)))).run Tryz.prog W = .ok (.map (some W.heap.size)) (W.alloc (.map #[] 0)) := fun _ _ => rfl
  have hb1 : Below w.heap.size w (w.alloc (.cells #[.int .i64 (room : Int), .map (some b), .bool on, .int .i64 left] 66)) := (Below.refl _ w).alloc (Nat.le_refl _) _
  have e1 := (h.dk.below hb1).cell 1
  have hl1 : Laid (w.alloc (.cells #[.int .i64 (room : Int), .map (some b), .bool on, .int .i64 left] 66)) w.heap.size 66 [.int .i64 (room : Int), .map (some b), .bool on, .int .i64 left] := Laid.new w _ _
  have hl2 := hl1.below ((Below.refl _ (w.alloc (.cells #[.int .i64 (room : Int), .map (some b), .bool on, .int .i64 left] 66))).alloc (Nat.le_refl _) (.map #[] 0))
  have x1 := hl2.cell 1
  have x2 := hl2.frozen 1
  simp only [List.getElem?_cons_succ, List.getElem?_cons_zero] at e1 x1
  have hb3 : Below w.heap.size w ((w.alloc (.cells #[.int .i64 (room : Int), .map (some (w.heap.size + 1)), .bool on, .int .i64 left] 66)).alloc (.map #[] 0)) := ((Below.refl _ w).alloc (Nat.le_refl _) _).alloc (by simp) _
  have hlz : Laid (w.alloc (.cells #[.int .i64 (room : Int), .map (some (w.heap.size + 1)), .bool on, .int .i64 left] 66)) w.heap.size 66 [.int .i64 (room : Int), .map (some (w.heap.size + 1)), .bool on, .int .i64 left] := Laid.new w _ _
  have hdn : Dk ((w.alloc (.cells #[.int .i64 (room : Int), .map (some (w.heap.size + 1)), .bool on, .int .i64 left] 66)).alloc (.map #[] 0)) w.heap.size (w.heap.size + 1) room on left [] := by
    refine ⟨hlz.below ((Below.refl _ _).alloc (Nat.le_refl _) _), ?_, List.Pairwise.nil, fun f hf => by simp at hf, List.Pairwise.nil, ⟨Nat.zero_le _, h.room.2⟩, h.left⟩
    have := World.ownsMap_made (w.alloc (.cells #[.int .i64 (room : Int), .map (some (w.heap.size + 1)), .bool on, .int .i64 left] 66)) Tryz.prog 3 rdC
    rw [World.size_alloc] at this
    exact this
  have HDN := Lib.hid hdn
  have HB3 := Lib.hid hb3
  have g1 := (h.dk.below hb3).cell 1
  simp only [List.getElem?_cons_succ, List.getElem?_cons_zero] at g1
  have g2 := g1
  clear h hdn hlz
  obtain ⟨W3, hW3⟩ : ∃ W3, ((w.alloc (.cells #[.int .i64 (room : Int), .map (some (w.heap.size + 1)), .bool on, .int .i64 left] 66)).alloc (.map #[] 0)) = W3 := ⟨_, rfl⟩
  rw [hW3] at HDN HB3 g2
  have HW3 := Lib.hid hW3
  have hmp3 : W3.ownsMap Tryz.prog 3 rdC b es.length (dm (mdOf es)) := by rw [← hW3]; exact ownsMap_keeps hmp (Keeps.of_below hb3) (by have := hmp.lt; omega)
  have HSZ : Hid (W3.heap.size = w.heap.size + 2) := Lib.hid (by rw [← hW3]; simp)
  clear hb3
  go_enter Tryz.func60, Tryz.ntmps60
  go_wp2_with (first
    | (at_len; refine wpList_len_own _ rfl _ 64 rfl 3 83 Tryz.underlying64 rdC b es.length (dm (mdOf es)) rfl (ownsMap_keeps hmp (Keeps.of_below hb1) (by have := hmp.lt; omega)) ?_)
    | (at_range; refine wpList_range_own _ rfl _ 64 rfl 3 83 law_int Tryz.underlying64 rdC b es.length (dm (mdOf es)) rfl hmp3 ?_; intro w0 hrg0 hg0 hs0)
    | go_in)
  clear hW3 hmk hmp c0 c1 c2 c3 e1 hl1 hl2 x1 x2 g1 hb1
  go_frame
  go_loopw [] (fun wr => ∃ (lf : Lit → Bool) (cnt : Nat), Hid (wr.ranges Tryz.prog 3 rdC b W3.heap.size es.length (dm (mdOf es)) lf cnt) ∧ Hid (Copying w.heap.size (w.heap.size + 1) room on left es lf w.heap.size W3.heap.size wr) ∧ Hid (Below w.heap.size w wr)) (fun wr => wr.rangeLeft b W3.heap.size)
  case atStart =>
    have hs3 := HSZ.out
    have hk0 : Keeps (fun _ => False) W3 w0 := Keeps.of_grown hg0 (fun k h => by cases h)
    refine ⟨_, _, Lib.hid hrg0, Lib.hid ⟨[], dk_keeps HDN.out hk0 (fun _ _ h => h), fun k => ?_, fun k => ?_, by rw [left_start]; exact Nat.le_of_eq (Nat.zero_add _), fun j hj => ?_⟩, Lib.hid (HB3.out.grown hg0 (by omega) (fun k h => by cases h))⟩
    · by_cases hh : Maps.has (dm (mdOf es)) (.int .i64 (k : Int)) = true
      · rw [if_pos hh]; rfl
      · rw [if_neg hh]; exact (bytes_none (es := es) (fun f hf e => hh (by rw [← e]; exact has_key hf))).symm
    · by_cases hh : Maps.has (dm (mdOf es)) (.int .i64 (k : Int)) = true
      · rw [if_pos hh]; rfl
      · rw [if_neg hh]; exact (dur_none (es := es) (fun f hf e => hh (by rw [← e]; exact has_key hf))).symm
    · rcases hj with h | h | ⟨f, hf, _⟩
      · omega
      · omega
      · simp at hf
  case round =>
    obtain ⟨lf, cnt, HRG, HCP, HBE⟩ := hrel
    clear hmp3 hrg0 hg0
    go_wp2_with (first
      | (at_next; refine wpList_next_ranges (α := Value) (β := Value) _ rfl _ rfl 3 law_int rdC id id (fun k kl _ => ⟨k, rfl⟩) (fun v y _ => ⟨v, rfl⟩) b W3.heap.size es.length _ _ _ rfl HRG.out ?_ ?_)
      | go_in)
    · intro _ hl0
      have HL0 := Lib.hid hl0
      clear hl0
      go_wp2
      go_ret
      obtain ⟨es2, hd2, hby, hdu, _, hft⟩ := HCP.out
      exact ⟨w.heap.size, w.heap.size + 1, es2, rfl, hd2, fun k => by rw [hby, HL0.out, if_neg Bool.false_ne_true], fun k => by rw [hdu, HL0.out, if_neg Bool.false_ne_true], fun j hj => (hft j hj).1, HBE.out⟩
    · intro x c kl y yp w1 cnt1 hkey hlx hRv hat hrg1 hlt hg1 hs1 hen
      obtain ⟨rfl, _⟩ : y = DataW.held c ∧ yp = [] := by
        have h : (some (DataW.held c, ([] : List MemPlace)) : Option (DataW Value × List MemPlace)) = some (y, yp) := hRv
        injection h with h
        injection h with h1 h2
        exact ⟨h1.symm, h2.symm⟩
      obtain ⟨f, hfm, rfl, rfl, rfl⟩ := entry_file hkey hat
      have HLT := Lib.hid hlt
      have HFO := Lib.hid (HD.out.ok f hfm)
      have HFM := Lib.hid hfm
      have HST := Lib.hid (left_step HD.out.sorted hfm hlx)
      have HRG1 := Lib.hid hrg1
      have hkw := Keeps.of_grown (A := fun k => k = W3.heap.size) hg1 (fun k h => by injection h with h; exact h.symm)
      obtain ⟨es2, hd2, hby, hdu, hus, hft⟩ := HCP.out
      have hd21 := dk_keeps hd2 hkw (fun k hk e => (hft k hk).2 e)
      have HB1 := Lib.hid (HBE.out.grown hg1 HBE.out.size (fun k h => by injection h with h; have := HSZ.out; omega))
      have hr1 := hrg1.lt
      obtain ⟨fa, fc, hfv, _⟩ := fresh_elems HFO.out.row
      rw [natI_length] at hfv
      unfold cont at hen ⊢
      rw [hfv] at hen ⊢
      have hb4 : Below w1.heap.size w1 (w1.alloc (.cells #[.slice fa f.bs.length fc, .int .i64 (f.dur : Int)] 83)).drew := ((Below.refl _ w1).alloc (Nat.le_refl _) _).drew
      have hd4 := dk_below hd21 hb4
      have hlx4 : Laid (w1.alloc (.cells #[.slice fa f.bs.length fc, .int .i64 (f.dur : Int)] 83)).drew w1.heap.size 83 [.slice fa f.bs.length fc, .int .i64 (f.dur : Int)] := Laid.new w1 _ _
      have HFR : Hid (Fresh 0 5 .u8 (w1.alloc (.cells #[.slice fa f.bs.length fc, .int .i64 (f.dur : Int)] 83)).drew (.slice fa f.bs.length fc) (natI f.bs)) := by
        have h1 := HFO.out.row
        rw [hfv] at h1
        exact Lib.hid (own_foot2 h1 (Keeps.of_below (HB1.out.trans (hb4.mono HB1.out.size))) (fun j hj hn => by have := (h1.lt j hj).2; omega))
      have hfl16 : f.bs.length ≤ 16777216 := Nat.le_trans (used_mem hfm) (Nat.le_trans HD.out.room.1 HD.out.room.2)
      have HFL := Lib.hid hfl16
      have HD4 := Lib.hid hd4
      have HS4 : Hid ((w1.alloc (.cells #[.slice fa f.bs.length fc, .int .i64 (f.dur : Int)] 83)).drew.cell? ⟨w.heap.size, 1, none⟩ = some (.map (some (w.heap.size + 1))) ∧ (w1.alloc (.cells #[.slice fa f.bs.length fc, .int .i64 (f.dur : Int)] 83)).drew.cell? ⟨w1.heap.size, 0, none⟩ = some (.slice fa f.bs.length fc) ∧ (w1.alloc (.cells #[.slice fa f.bs.length fc, .int .i64 (f.dur : Int)] 83)).drew.cell? ⟨w1.heap.size, 1, none⟩ = some (.int .i64 (f.dur : Int))) := by
        have z1 := hd4.dk.cell 1
        have z2 := hlx4.cell 0
        have z3 := hlx4.cell 1
        simp only [List.getElem?_cons_succ, List.getElem?_cons_zero] at z1 z2 z3
        exact Lib.hid ⟨z1, z2, z3⟩
      have HB4 := Lib.hid hb4
      have HUS := Lib.hid hus
      have HNE : Hid ((¬ w.heap.size = w.heap.size + 1) ∧ ¬ w1.heap.size = w.heap.size + 1) := Lib.hid ⟨by omega, by have := HSZ.out; omega⟩
      have HM4 : Hid (wr.heap.size ≤ (w1.alloc (.cells #[.slice fa f.bs.length fc, .int .i64 (f.dur : Int)] 83)).drew.heap.size) := Lib.hid (Nat.le_trans hkw.size hb4.size)
      have HES := Lib.hid (And.intro hby (And.intro hdu (And.intro hus hft)))
      have HH1 : Hid (w1.heap.size = wr.heap.size ∨ wr.heap.size ≤ w1.heap.size) := Lib.hid (.inr hkw.size)
      have HD2 := Lib.hid hd2
      have HR1 := Lib.hid hr1
      clear hkey hlx hRv hat hrg1 hlt hg1 hfv hkw hd2 hby hdu hus hft hd21 hb4 hd4 hlx4 hfm hfl16 hr1 hs1
      go_wp2_with fail
      go_region_held3 (fun w' : World => w'.cell? ⟨w.heap.size, 1, none⟩ = some (.map (some (w.heap.size + 1))) ∧ w'.cell? ⟨w1.heap.size, 0, none⟩ = some (.slice fa f.bs.length fc) ∧ w'.cell? ⟨w1.heap.size, 1, none⟩ = some (.int .i64 (f.dur : Int))) (first | exact HS6.out | exact HS5.out | exact HS4.out) (first
        | (go_at_call 49; go_must (refine (bclone_any _ (natI f.bs) _ HFR.out (by rw [natI_length]; have := HFL.out; omega)).mono ?_); rintro e w5 ⟨v, rfl, hv5, hb5⟩
           obtain ⟨va, vc, rfl, _⟩ := fresh_elems hv5
           rw [natI_length] at hv5 ⊢
           have HB5 := Lib.hid hb5
           have HS5 := Lib.hid (And.intro ((hb5.cell (World.block_lt_of_cell? _ _ HS4.out.1)).trans HS4.out.1) (And.intro ((hb5.cell (World.block_lt_of_cell? _ _ HS4.out.2.1)).trans HS4.out.2.1) ((hb5.cell (World.block_lt_of_cell? _ _ HS4.out.2.2)).trans HS4.out.2.2)))
           have hd5 := dk_below HD4.out hb5
           obtain ⟨w6, hrun, hd6, hk6⟩ := copy_put HD2.out hd5 hv5 HM4.out HFO.out HUS.out HST.out HD.out.room.1
           have HS6 := Lib.hid (And.intro (hk6.cell HS5.out.1 HNE.out.1) (And.intro (hk6.cell HS5.out.2.1 HNE.out.2) (hk6.cell HS5.out.2.2 HNE.out.2)))
           have HRUN := Lib.hid (And.intro hd6 (And.intro hk6 hv5))
           clear hb5 hv5 hd5 hd6 hk6))
      all_goals
        obtain ⟨hd6, hk6, hv5⟩ := HRUN.out
        obtain ⟨hby, hdu, hus, hft⟩ := HES.out
        have hk16 : Keeps (fun j => j = w.heap.size + 1) w1 w6 := ((Keeps.of_below_size (HB4.out.trans (HB5.out.mono HB4.out.size))).trans hk6)
        have hrg6 := ranges_keeps HRG1.out hk16 (by have := HD.out.mp.lt; omega) (by have := HSZ.out; omega)
        have hcp : Copying w.heap.size (w.heap.size + 1) room on left es (fun z => lf z && !z.sameKey (.int .i64 (f.key : Int))) w.heap.size W3.heap.size w6 := by
          have hfd := key_find HD.out.sorted HFM.out
          refine ⟨_, hd6, fun k => ?_, fun k => ?_, ?_, fun j hj => ?_⟩
          · rw [bytes_after]
            show (if k = f.key then f.bs else bytesOf k es2) = if (lf (.int .i64 (k : Int)) && !(Lit.int .i64 (k : Int)).sameKey (.int .i64 (f.key : Int))) = true then [] else bytesOf k es
            by_cases hk : k = f.key
            · subst hk
              rw [if_pos rfl, same_int, decide_eq_true rfl, if_neg (by simp)]
              unfold bytesOf
              rw [hfd]
            · rw [if_neg hk, same_int, decide_eq_false hk, hby]
              simp only [Bool.not_false, Bool.and_true]
          · rw [dur_after (x := ⟨f.key, .slice va f.bs.length vc, f.bs, f.dur⟩) HFO.out.dur]
            show (if k = f.key then f.dur else durF k es2) = if (lf (.int .i64 (k : Int)) && !(Lit.int .i64 (k : Int)).sameKey (.int .i64 (f.key : Int))) = true then 0 else durF k es
            by_cases hk : k = f.key
            · subst hk
              rw [if_pos rfl, same_int, decide_eq_true rfl, if_neg (by simp)]
              unfold durF
              rw [hfd]
            · rw [if_neg hk, same_int, decide_eq_false hk, hdu]
              simp only [Bool.not_false, Bool.and_true]
          · rw [used_after]
            show usedF (eraseF f.key es2) + f.bs.length + usedF (leftF _ es) ≤ usedF es
            have h1 := used_erase_le f.key es2
            have h2 := HST.out
            omega
          · rcases foot_after hj with h | h
            · exact hft j h
            · have h1 := (hv5.lt j h).1
              have h2 := HM4.out
              have h3 := HRG.out.lt
              have h4 := HBE.out.size
              omega
        have HC6 := Lib.hid hcp
        have HR6 := Lib.hid hrg6
        have HB6 := Lib.hid ((HB1.out.trans ((HB4.out.trans (HB5.out.mono HB4.out.size)).mono HB1.out.size)).trans (hk6.below (B := w.heap.size) (Nat.le_trans HB1.out.size (HB4.out.trans (HB5.out.mono HB4.out.size)).size) (fun j hj => by omega)))
        clear hd6 hk6 hv5 hby hdu hus hft hk16 hrg6 hcp
        go_wp2
        refine ⟨⟨_, cnt1, HR6, HC6, HB6⟩, ?_⟩
        rw [HR6.out.left_eq, HRG.out.left_eq]
        exact HLT.out
end Go.Proofs.YtjoablphojkimaaGreatDoor
