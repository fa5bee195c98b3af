/-
  The program's reader: lists, Text, Raw, Ints.
-/
import Derived.Test.YtigjcnjhmhepeaaDevF
namespace Go.Proofs.Ytigjcnjhmhepeaa
open Go.RowKit Go.Shelf
set_option linter.unusedVariables false

theorem made_zero (k : IntKind) (n : Nat) : (madeCells (Value.int k 0).cells (n * 1)).toList = (List.replicate n (0 : Int)).map (Value.int k) := by
  refine List.ext_getElem (by simp [madeCells]) fun j h1 h2 => ?_
  simp [madeCells, Value.cells, Nat.mod_one]

/-- make, of n zeros. -/
theorem wpList_make_fresh {W : World} {ops : Array Oper} {rest : List Oper} {o : Oper} {a : Act} {Q : Exit → Act → World → Prop} (hg : o.guard = none) (l c : Operand) (t : TypeId) (hop : o.op = Op.makeSlice t l c)
    (B : Nat) (e : TypeId) (i : TypeInfo) (k : IntKind) (bytes : Nat) (ht : Try.prog.underlying t = some (.slice e)) (hi : Try.prog.info? e = some i) (hz : i.zero = some (.int k 0)) (hsize : i.size = 1) (hby : i.bytes = bytes) (hb8 : bytes ≤ 8)
    (kl kc : IntKind) (L C : Int) (n : Nat) (hl : a.eval l = .int kl L) (hc : a.eval c = .int kc C) (hL : L = (n : Int)) (hC : C = (n : Int)) (hn : n ≤ 1000000000) (hB : B ≤ W.heap.size)
    (hK : ∀ w', Fresh B e k w' (.slice (some ⟨W.heap.size, 0, none⟩) n n) (List.replicate n 0) → Below W.heap.size W w' → w'.heap.size ≥ W.heap.size → wpList Try.prog ops Q rest (a.put o.dst (.slice (some ⟨W.heap.size, 0, none⟩) n n)) w') :
    wpList Try.prog ops Q (o :: rest) a W := by
  have h2 : i.bytes * n ≤ 281474976710656 := by
    rw [hby]
    have : bytes * n ≤ 8 * n := Nat.mul_le_mul_right _ hb8
    omega
  refine wpList_make_full W hg l c t hop B e i (.int k 0) 1 ht hi hz hsize kl kc L C n hl hc hL hC h2 (by unfold maxLen; omega) hB (fun w' h1 h2 => ?_)
  refine hK w' ?_ ((Below.refl _ W).grown h2 (Nat.le_refl _) (fun k h => by cases h)) h2.size
  unfold Fresh
  rw [List.length_replicate, ← made_zero]
  exact h1

theorem set_fill {pre : List Int} {k m : Nat} (hk : pre.length = k) (x : Int) : (pre ++ List.replicate (m + 1) 0).set k x = (pre ++ [x]) ++ List.replicate m 0 := by
  subst hk
  rw [List.set_append_right _ _ (Nat.le_refl _), Nat.sub_self, List.replicate_succ, List.set_cons_zero, List.append_assoc]
  rfl
theorem rUint_zero {s : RS} (h : (rUint s).2.2 ≠ 0) : (rUint s).1 = 0 := by
  unfold rUint at *
  by_cases h0 : s.2 = 0
  · rw [if_pos h0] at *
    cases hr : readVar 0 s.1 with
    | err k => rfl
    | val n r => rw [hr] at h; exact absurd rfl h
  · rw [if_neg h0]

theorem fresh_frozen2 {H : Nat} {e : TypeId} {k : IntKind} {w : World} {g cap n : Nat} {zs : List Int} (h : Fresh H e k w (.slice (some ⟨g, 0, none⟩) n cap) zs) (hn : n = zs.length) (j : Nat) : w.frozen? ⟨g, j, none⟩ = false := by
  subst hn; exact fresh_frozen h j

/-- A store into the list that is being filled: the reader minds it not. -/
theorem fill_store {t : TypeId} {k : IntKind} {W : World} {B r b n cap : Nat} {zs : List Int} {s : RS} {H : Nat} (hf : Fresh H t k W (.slice (some ⟨B, 0, none⟩) n cap) zs) (hn : n = zs.length) (hr : Rx W r b s) (hB : B ≠ r) (hb : b ≠ B) (j : Nat) (c : Int) :
    Fresh H t k (W.setCell ⟨B, j, none⟩ (.int k c)) (.slice (some ⟨B, 0, none⟩) n cap) (zs.set j c) ∧ Rx (W.setCell ⟨B, j, none⟩ (.int k c)) r b s ∧ Keeps (fun i => i = B) W (W.setCell ⟨B, j, none⟩ (.int k c)) :=
  ⟨(fresh_store2 hf hn j c).1, rx_keeps hr (keeps_set W B j _) (fun h => hB h.symm) hb, keeps_set W B j _⟩

/-- What a list reader gives: a slice of the call's own with the elements zs. -/
def ListEnd (t : TypeId) (k : IntKind) (r b : Nat) (zs : List Int) (s : RS) (w : World) (e : Ending) (w' : World) : Prop :=
  ∃ v, e = .returned v ∧ Fresh w.heap.size t k w' v zs ∧ Rx w' r b s ∧ Keeps (fun k => k = r) w w'

set_option maxRecDepth 100000 in
set_option maxHeartbeats 4000000 in
theorem devBytes_any (r b : Nat) (s : RS) (w : World) (h : Rx w r b s) (hs : ∀ c ∈ s.1, c < 256) (hb : b < w.heap.size) :
    Calls Try.prog 32 #[.pointer (some ⟨r, 0, none⟩), .func (.func 33) #[.pointer (some ⟨r, 0, none⟩)] #[]] w (ListEnd 5 .u8 r b (natI (rRaw s).1) (rRaw s).2 w) := by
  obtain ⟨i0, hi, hz0, hz1, hz2⟩ := info_parts info_u8
  have HRD := Lib.hid h
  have HLT := Lib.hid (rUint_lt hs)
  have HZ := Lib.hid (rUint_zero (s := s))
  have hr0 := h.lts
  have hdef : rRaw s = if (rLen s).2.2 ≠ 0 then ([], (rLen s).2) else ((rLen s).2.1.take (rLen s).1, ((rLen s).2.1.drop (rLen s).1, 0)) := rfl
  have HDF : Hid (rLen s = if (rUint s).2.2 ≠ 0 then (0, (rUint s).2) else if (rUint s).2.1.length < (rUint s).1 then (0, ((rUint s).2.1, 3)) else rUint s) := Lib.hid rfl
  have HDR := Lib.hid hdef
  clear h hdef
  go_enter Try.func32, Try.ntmps32
  go_wp2_with fail
  refine (devRdUint_any r b s w HRD.out).mono ?_
  rintro e w1 ⟨rfl, hrd, hk⟩
  have HR1 := Lib.hid hrd
  have HK1 := Lib.hid hk
  clear hk HRD
  generalize rRaw s = out at *
  generalize rLen s = len at *
  generalize rUint s = q at *
  obtain ⟨n, l1, e1⟩ := q
  obtain ⟨l', h1, h2⟩ := hrd
  simp only at *
  have hsh := h1.short
  simp only at hsh
  obtain ⟨a, cap, hc0, hc1, hf0, hf1, hcap, hcm, _, _, _, _, _⟩ := h1.cells
  simp only at *
  by_cases he : e1 = 0
  · subst he
    obtain rfl : l' = l1 := h2 rfl
    by_cases hlt : l'.length < n
    · have HO : Hid (out = ([], (l', 3))) := Lib.hid (by rw [HDR.out, HDF.out]; simp [hlt])
      have HRX := Lib.hid (rw_err h1 3)
      clear h1 h2 hcap hcm
      have hn64 := HLT.out
      go_wp2_with fail
      go_ret
      rw [HO.out]
      exact ⟨_, rfl, fresh_nil _ _ _ _, rx_of HRX.out, HK1.out.trans (keeps_set w1 r 1 _)⟩
    · have HO : Hid (out = (l'.take n, (l'.drop n, 0))) := Lib.hid (by rw [HDR.out, HDF.out]; simp [hlt])
      have hn : n ≤ l'.length := by omega
      clear h1 h2 hcap hcm
      have hn64 := HLT.out
      go_wp2_with (at_make; go_must (refine wpList_make_fresh rfl _ _ 23 rfl w.heap.size 5 i0 .u8 1 under_bytes hi hz0 hz1 hz2 (by decide) _ _ _ _ n rfl rfl rfl rfl (by omega) HK1.out.size ?_); intro w2 hfr hbe hsz)
      have hBw : w.heap.size ≤ w1.heap.size := HK1.out.size
      have hw2 := (hfr.lt _ rfl).2
      have HF0 := Lib.hid hfr
      have HR0 : Hid (Rw w2 r b (l', 0)) := Lib.hid (rw_keeps HR1.out.ok (Keeps.of_below hbe) (by omega) (by omega))
      have HK0 : Hid (Keeps (fun k => k = r) w w2) := Lib.hid (HK1.out.trans (Keeps.of_below_size hbe))
      generalize w1.heap.size = B at *
      clear hfr hbe hsz HR1 HK1 hc0 hc1 hf0 hf1
      go_loopw [25] (fun iv wr => ∃ k : Nat, k ≤ n ∧ iv = .int .i64 (k : Int) ∧ Hid (Fresh w.heap.size 5 .u8 wr (.slice (some ⟨B, 0, none⟩) n n) (natI (l'.take k) ++ List.replicate (n - k) 0)) ∧ Hid (Rw wr r b (l'.drop k, 0)) ∧ Hid (Keeps (fun k => k = r) w wr)) (fun iv _ => n - (intOf iv).toNat)
      case atStart => exact ⟨0, Nat.zero_le _, rfl, HF0, HR0, HK0⟩
      case round =>
        obtain ⟨k, hk, rfl, HF, HR, HK⟩ := hrel
        clear HF0 HR0 HK0
        by_cases hlt2 : k < n
        · go_wp2_with fail
          refine (devNext_any r b (l'.drop k, 0) wr HR.out).mono ?_
          rintro e2 w3 ⟨rfl, hrd3, hk3⟩
          have hlk : k < l'.length := by omega
          have hv : rNext (l'.drop k, 0) = (l'[k], (l'.drop (k + 1), 0)) := by rw [List.drop_eq_getElem_cons hlk]; rfl
          rw [hv] at hrd3 ⊢
          have hln : (natI (l'.take k)).length = k := by rw [natI_length, List.length_take]; omega
          have HF3 : Fresh w.heap.size 5 .u8 w3 (.slice (some ⟨B, 0, none⟩) n n) (natI (l'.take k) ++ List.replicate (n - k) 0) := fresh_foot HF.out hk3 (fun j hj e => by omega)
          have hzl : n = (natI (l'.take k) ++ List.replicate (n - k) 0).length := by rw [List.length_append, hln, List.length_replicate]; omega
          have hcB := fresh_cell HF3 (j := k) (by omega)
          have hfB := fresh_frozen2 HF3 hzl k
          obtain ⟨hs1, hs2, hs3⟩ := fill_store HF3 hzl (rx_of hrd3) (by omega) (by omega) k (l'[k] : Int)
          have HS1 : Hid (Fresh w.heap.size 5 .u8 (w3.setCell ⟨B, k, none⟩ (.int .u8 (l'[k] : Int))) (.slice (some ⟨B, 0, none⟩) n n) (natI (l'.take (k + 1)) ++ List.replicate (n - (k + 1)) 0)) := by
            rw [show n - k = (n - (k + 1)) + 1 by omega, set_fill hln] at hs1
            rw [List.take_succ_eq_append_getElem hlk, natI_append]
            exact Lib.hid hs1
          have hs2' := hs2.ok
          obtain ⟨a2, cap2, hd0, hd1, hg0, hg1, _⟩ := hs2'.cells
          simp only at hd1
          have HS2 := Lib.hid hs2'
          have HK3 : Hid (Keeps (fun k => k = r) w (w3.setCell ⟨B, k, none⟩ (.int .u8 (l'[k] : Int)))) := Lib.hid (keeps_own (HK.out.trans hk3) hBw _)
          generalize l'[k] = c at *
          generalize (natI (l'.take k) ++ List.replicate (n - k) 0)[k]?.getD 0 = old at *
          clear hs1 hs2 hs2' hs3 HF3 hrd3 HF HR HK hk3 hln hzl
          go_wp2_with fail
          go_roundw
          case rel => exact ⟨k + 1, by omega, by go_num, HS1, HS2, HK3⟩
          case measure => simp [intOf]; omega
        · obtain rfl : k = n := by omega
          go_wp2_with fail
          go_ret
          rw [HO.out]
          refine ⟨_, rfl, ?_, rx_of HR.out, HK.out⟩
          have := HF.out
          rw [Nat.sub_self, List.replicate_zero, List.append_nil] at this
          exact this
  · have hn0 : n = 0 := HZ.out he
    subst hn0
    have HO : Hid (out = ([], (l1, e1))) := Lib.hid (by rw [HDR.out, HDF.out]; simp [he])
    have hn64 := HLT.out
    go_wp2_with (at_make; go_must (refine wpList_make_fresh rfl _ _ 23 rfl w.heap.size 5 i0 .u8 1 under_bytes hi hz0 hz1 hz2 (by decide) _ _ _ _ 0 rfl rfl rfl rfl (by omega) HK1.out.size ?_); intro w2 hfr hbe hsz)
    have hBw : w.heap.size ≤ w1.heap.size := HK1.out.size
    have HF0 := Lib.hid hfr
    have HR0 : Hid (Rx w2 r b (l1, e1)) := Lib.hid (rx_keeps HR1.out (Keeps.of_below hbe) (by omega) (by omega))
    have HK0 : Hid (Keeps (fun k => k = r) w w2) := Lib.hid (HK1.out.trans (Keeps.of_below_size hbe))
    clear hfr hbe hsz HR1 HK1 hc0 hc1 hf0 hf1
    go_loopw [25] (fun iv wr => iv = .int .i64 0 ∧ w2 = wr) (fun iv _ => 0)
    case atStart => exact ⟨rfl, rfl⟩
    case round =>
      obtain ⟨rfl, rfl⟩ := hrel
      go_wp2_with fail
      go_ret
      rw [HO.out]
      exact ⟨_, rfl, HF0.out, HR0.out, HK0.out⟩

theorem under_ints : Try.prog.underlying 22 = some (.slice 3) := by kernel_rfl
theorem rMany_succ (n : Nat) (s : RS) : rMany (n + 1) s = ((rInt s).1 :: (rMany n (rInt s).2).1, (rMany n (rInt s).2).2) := rfl

set_option maxHeartbeats 1000000 in
theorem devRdRaw_any (r b : Nat) (s : RS) (w : World) (h : Rx w r b s) (hs : ∀ c ∈ s.1, c < 256) (hb : b < w.heap.size) :
    Calls Try.prog 21 #[.pointer (some ⟨r, 0, none⟩)] w (ListEnd 5 .u8 r b (natI (rRaw s).1) (rRaw s).2 w) := by
  have HC := Lib.hid (devBytes_any r b s w h hs hb)
  clear h
  unfold ListEnd at HC
  go_enter Try.func21, Try.ntmps21
  go_wp2_with fail
  refine HC.out.mono ?_
  rintro e w1 ⟨v, rfl, h1, h2, h3⟩
  have H1 := Lib.hid (And.intro h1 (And.intro h2 h3))
  clear h1 h2 h3
  go_wp2_with fail
  go_ret
  exact ⟨_, rfl, H1.out.1, H1.out.2.1, H1.out.2.2⟩

end Go.Proofs.Ytigjcnjhmhepeaa
