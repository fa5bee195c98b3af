/-
  append of a row to a slice of the call's own, as one law; the reference's encodings of truth values, byte slices and lists.
-/
import Derived.Test.YtghilgkkpbhoiaaWireA
import Derived.Laws.OwnMore
namespace Go.Proofs.Ytghilgkkpbhoiaa
open Go.RowKit Go.Shelf
set_option linter.unusedVariables false

theorem add_none (b off j : Nat) : (⟨b, off, none⟩ : Addr).add j = ⟨b, off + j, none⟩ := by unfold Addr.add; split <;> simp_all

/-- append(own, row...): the new slice holds both. -/
theorem wpList_append_fresh {w : World} {ops : Array Oper} {rest : List Oper} {o : Oper} {a : Act} {Q : Exit → Act → World → Prop} (hgd : o.guard = none) (s x : Operand) (t : TypeId)
    (ho : o.op = .call { callee := .builtin .append, args := #[s, x], argTypes := #[t, t] })
    (B : Nat) (e : TypeId) (i : TypeInfo) (k : IntKind) (bytes : Nat) (ht : Try.prog.underlying t = some (.slice e)) (hi : Try.prog.info? e = some i) (hz : i.zero = some (.int k 0))
    (hsize : i.size = 1) (hby : i.bytes = bytes) (hb8 : bytes ≤ 8) (v : Value) (zs : List Int) (hs : a.eval s = v) (hown : Fresh B e k w v zs) (u : Value) (ys : List Int) (hx : a.eval x = u) (hu : Row k w u ys)
    (hlen : zs.length + ys.length ≤ 1000000000) (hbase : B ≤ w.heap.size)
    (h : ∀ v' w', Fresh B e k w' v' (zs ++ ys) → w.grownBy w' v.ownBlock → wpList Try.prog ops Q rest (a.put o.dst v') w') : wpList Try.prog ops Q (o :: rest) a w := by
  obtain ⟨p, cap, rfl, hcap, hcm, hne, hnil⟩ := hu
  have hm1 : zs.length + ys.length ≤ maxLen := by unfold maxLen; omega
  have hm2 : (zs.length + ys.length) * bytes ≤ 140737488355328 := by
    have : (zs.length + ys.length) * bytes ≤ (zs.length + ys.length) * 8 := Nat.mul_le_mul_left _ hb8
    omega
  rcases p with _ | p
  · obtain ⟨rfl, rfl⟩ := hnil rfl
    refine wpList_append_own_none hgd s x t ho B e i 1 ht hi v _ _ hs hown hx ?_
    refine h v w (by rw [List.append_nil]; exact hown) ⟨rfl, rfl, rfl, Nat.le_refl _, fun _ _ _ => rfl⟩
  · refine wpList_append_own w hgd s x t ho B e i (.int k 0) 1 bytes ht hi hz hsize hby rfl (by decide) v zs.length (zs.map (Value.int k)) hs hown p ys.length cap (ys.map (Value.int k)) hx (by simp) ?_ ?_ hm1 hm2 hbase ?_
    · intro j q hq
      have hj : j < ys.length := by
        rcases Nat.lt_or_ge j ys.length with h | h
        · exact h
        · rw [List.getElem?_eq_none (by simp; omega)] at hq; cases hq
      obtain ⟨b, off, hp, hc⟩ := hne (fun h => by rw [h] at hj; simp at hj)
      injection hp with hp
      subst hp
      rw [add_none, hc j hj, ← hq, List.getElem?_map, List.getElem?_eq_getElem hj]; rfl
    · intro q hq
      obtain ⟨z, _, rfl⟩ := List.mem_map.1 hq
      rfl
    · intro v' w' h1 h2 _
      refine h v' w' ?_ h2
      unfold Fresh
      rw [List.length_append, List.map_append]
      exact h1

/-- A literal of a slice is the call's own. -/
theorem fresh_lit (w : World) (B : Nat) (e : TypeId) (k : IntKind) (zs : List Int) (hB : B ≤ w.heap.size) (hz : zs.length ≤ 1000000) :
    Fresh B e k (w.alloc (.cells (zs.map (Value.int k)).toArray e)) (.slice (some ⟨w.heap.size, 0, none⟩) zs.length zs.length) zs := by
  refine ⟨by simp, .inr ⟨w.heap.size, zs.length, (zs.map (Value.int k)).toArray, rfl, hB, World.alloc_heap_new w _, Nat.le_refl _, by unfold maxLen; omega, by simp, List.take_of_length_le (by simp)⟩⟩

/-- A slice that a call has made, behind what has been appended to it. -/
theorem below_grown {B : Nat} {w W W' : World} {e : TypeId} {k : IntKind} {v : Value} {zs : List Int} (hb : Below B w W) (hf : Fresh B e k W v zs) (hg : W.grownBy W' v.ownBlock) (hB : B ≤ W.heap.size) : Below B w W' :=
  hb.grown hg hB (fun k hk => (hf.lt k hk).1)

theorem fresh_mono {B B' : Nat} {e : TypeId} {k : IntKind} {w : World} {v : Value} {zs : List Int} (h : Fresh B e k w v zs) (hB : B' ≤ B) : Fresh B' e k w v zs := by
  refine ⟨h.1, ?_⟩
  rcases h.2 with hn | ⟨g, cap, cur, e1, h1, h2⟩
  · exact .inl hn
  · exact .inr ⟨g, cap, cur, e1, by omega, h2⟩

/-- What has been made, told from an earlier world on. -/
theorem copies_from {e : TypeId} {k : IntKind} {zs : List Int} {w w1 : World} {en : Ending} {w' : World} (h : Copies e k zs w1 en w') (hb : Below w.heap.size w w1) : Copies e k zs w en w' := by
  obtain ⟨v, rfl, h1, h2⟩ := h
  exact ⟨v, rfl, fresh_mono h1 hb.size, below_then hb h2⟩

set_option maxHeartbeats 400000 in
theorem refInt_any (n : Int) (w : World) (hn : -9223372036854775808 ≤ n ∧ n ≤ 9223372036854775807) :
    Calls Try.prog 41 #[.int .i64 n] w (Copies 5 .u8 (natI (varN (zigN n))) w) := by
  have HZ := Lib.hid (zigN_lt hn)
  have HN := Lib.hid hn
  clear hn
  go_enter Try.func41, Try.ntmps41
  go_wp2_with fail
  refine (refZig_any n w HN.out).mono ?_
  rintro e w1 ⟨rfl, rfl⟩
  go_wp2_with fail
  refine (refVar_any (zigN n) w HZ.out).mono ?_
  rintro e w2 ⟨v, rfl, h1, h2⟩
  have H1 := Lib.hid h1
  clear h1
  go_wp2_with fail
  go_ret
  exact copies_mk H1.out h2

def boolN (b : Bool) : List Nat := [if b then 1 else 0]

set_option maxHeartbeats 400000 in
theorem refBool_any (b : Bool) (w : World) :
    Calls Try.prog 42 #[.bool b] w (Copies 5 .u8 (natI (boolN b)) w) := by
  have h0 := Lib.hid (fresh_lit w w.heap.size 5 .u8 [0] (Nat.le_refl _) (by simp))
  have h1 := Lib.hid (fresh_lit w w.heap.size 5 .u8 [1] (Nat.le_refl _) (by simp))
  cases b
  all_goals
    go_enter Try.func42, Try.ntmps42
    go_wp2
    go_ret
  · exact copies_mk h0.out ((Below.refl _ w).alloc (Nat.le_refl _) _)
  · exact copies_mk h1.out ((Below.refl _ w).alloc (Nat.le_refl _) _)

set_option maxHeartbeats 1000000 in
theorem refRaw_any (v : Value) (zs : List Int) (w : World) (hv : Row .u8 w v zs) (hlen : zs.length ≤ 1000000) :
    Calls Try.prog 43 #[v] w (Copies 5 .u8 (natI (varN zs.length) ++ zs) w) := by
  obtain ⟨i0, hi, hz0, hz1, hz2⟩ := info_parts info_u8
  have HR := Lib.hid hv
  have h10 : (natI (varN zs.length)).length + zs.length ≤ 1000000000 := by
    rw [natI_length]; have := varN_len10 (n := zs.length) (by omega); omega
  have H10 := Lib.hid h10
  obtain ⟨p, cap, rfl, hcap, hcm, hne, hnil⟩ := hv
  clear hne hnil h10
  go_enter Try.func43, Try.ntmps43
  go_wp2_with fail
  refine (refVar_any zs.length w (by omega)).mono ?_
  rintro e w1 ⟨v1, rfl, h1, hb1⟩
  have H1 := Lib.hid h1
  clear h1
  go_wp2_with (at_builtin; refine wpList_append_fresh rfl _ _ 24 rfl w.heap.size 5 i0 .u8 1 Try.underlying24 hi hz0 hz1 hz2 (by decide) _ _ rfl H1.out _ _ rfl (row_keeps HR.out hb1) H10.out hb1.size ?_; intro v2 w2 hfr hgrow; have hb2 : Below w.heap.size w w2 := below_grown hb1 H1.out hgrow hb1.size; have HFR := Lib.hid hfr; clear hfr hgrow)
  go_ret
  exact copies_mk HFR.out hb2

/-- A list's elements, encoded. -/
def zigsN (l : List Int) : List Nat := l.flatMap fun n => varN (zigN n)
theorem zigsN_snoc (l : List Int) (n : Int) : zigsN (l ++ [n]) = zigsN l ++ varN (zigN n) := by simp [zigsN]
theorem zigsN_take {l : List Int} {k : Nat} (hk : k < l.length) : zigsN (l.take (k + 1)) = zigsN (l.take k) ++ varN (zigN l[k]) := by
  rw [List.take_succ_eq_append_getElem hk, zigsN_snoc]
theorem zigsN_len {l : List Int} (h : ∀ n ∈ l, -9223372036854775808 ≤ n ∧ n ≤ 9223372036854775807) : (zigsN l).length ≤ 10 * l.length := by
  induction l with
  | nil => simp [zigsN]
  | cons n l ih =>
    have h1 := varN_len10 (zigN_lt (h n (by simp)))
    have h2 := ih (fun m hm => h m (by simp [hm]))
    have : zigsN (n :: l) = varN (zigN n) ++ zigsN l := by simp [zigsN]
    rw [this, List.length_append, List.length_cons]
    omega

set_option maxRecDepth 100000 in
set_option maxHeartbeats 2000000 in
theorem refIntsEnc_any (v : Value) (zs : List Int) (w : World) (hv : Row .i64 w v zs) (hr : ∀ n ∈ zs, -9223372036854775808 ≤ n ∧ n ≤ 9223372036854775807) (hlen : zs.length ≤ 1000000) :
    Calls Try.prog 44 #[v] w (Copies 5 .u8 (natI (varN zs.length ++ zigsN zs)) w) := by
  obtain ⟨i0, hi, hz0, hz1, hz2⟩ := info_parts info_u8
  have HRG := Lib.hid hr
  obtain ⟨p, cap, rfl, hcap, hcm, hne, hnil⟩ := hv
  have HNE := Lib.hid hne
  clear hne hnil hr
  go_enter Try.func44, Try.ntmps44
  go_wp2_with fail
  refine (refVar_any zs.length w (by omega)).mono ?_
  rintro e w1 ⟨v1, rfl, h1, hb1⟩
  have H1 := Lib.hid h1
  clear h1
  go_wp2_with fail
  go_loopw [3, 4] (fun out i wr => ∃ k : Nat, k ≤ zs.length ∧ i = .int .i64 (k : Int) ∧ Fresh w.heap.size 5 .u8 wr out (natI (varN zs.length ++ zigsN (zs.take k))) ∧ Below w.heap.size w wr) (fun _ i _ => zs.length - (intOf i).toNat)
  case atStart => exact ⟨0, Nat.zero_le _, rfl, by simpa [zigsN] using H1.out, hb1⟩
  case round =>
    obtain ⟨k, hk, rfl, hf, hbel⟩ := hrel
    have HF := Lib.hid hf
    clear hf
    by_cases hlt : k < zs.length
    · obtain ⟨b, off, rfl, hc⟩ := HNE.out (fun h => by rw [h] at hlt; simp at hlt)
      have hck := hc k hlt
      have hck := (hbel.cell (p := ⟨b, off + k, none⟩) (World.block_lt_of_cell? _ _ hck)).trans hck
      have hgk : zs[k]?.getD 0 = zs[k] := by simp [hlt]
      rw [hgk] at hck
      have HV := Lib.hid (HRG.out zs[k] (List.getElem_mem hlt))
      have HS := Lib.hid (zigsN_take hlt)
      have HL : Hid ((natI (varN zs.length ++ zigsN (zs.take k))).length + (natI (varN (zigN zs[k]))).length ≤ 1000000000) := by
        have e1 := varN_len10 (n := zs.length) (by omega)
        have e2 := zigsN_len (l := zs.take k) (fun n hn => HRG.out n (List.mem_of_mem_take hn))
        have e3 := varN_len10 (zigN_lt (HRG.out zs[k] (List.getElem_mem hlt)))
        have e4 : (zs.take k).length ≤ zs.length := by simp; omega
        rw [natI_length, natI_length, List.length_append]
        exact Lib.hid (by omega)
      clear hc hgk
      go_wp2_with fail
      refine (refInt_any zs[k] wr HV.out).mono ?_
      rintro e w2 ⟨v2, rfl, h2, hb2⟩
      have H2 := Lib.hid h2
      have HF2 := Lib.hid (fresh_keeps HF.out hb2)
      have hbel2 := below_then hbel hb2
      clear h2 HF hbel hb2
      go_wp2_with (at_builtin; refine wpList_append_fresh rfl _ _ 24 rfl w.heap.size 5 i0 .u8 1 Try.underlying24 hi hz0 hz1 hz2 (by decide) _ _ rfl HF2.out _ _ rfl (row_of_fresh H2.out) HL.out hbel2.size ?_; intro v3 w3 hfr hgrow; have hb3 : Below w.heap.size w w3 := below_grown hbel2 HF2.out hgrow hbel2.size; have HFR := Lib.hid hfr; clear hfr hgrow)
      go_roundw
      case rel => exact ⟨k + 1, by omega, by go_num, by rw [HS.out, ← List.append_assoc, natI_append]; exact HFR.out, hb3⟩
      case measure => simp [intOf]; omega
    · obtain rfl : k = zs.length := by omega
      rw [List.take_length] at HF
      go_wp2_with fail
      go_ret
      exact copies_mk HF.out hbel
end Go.Proofs.Ytghilgkkpbhoiaa
