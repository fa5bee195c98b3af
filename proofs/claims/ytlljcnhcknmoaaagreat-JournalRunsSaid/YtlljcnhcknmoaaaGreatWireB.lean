/-
  append of a row to a slice of the call's own, as one law; the reference's encodings of truth values, byte slices and lists.
-/
import Derived.Test.YtlljcnhcknmoaaaGreatWireA
import Derived.Laws.OwnMore
namespace Go.Proofs.YtlljcnhcknmoaaaGreat
open Go.RowKit Go.Shelf
set_option linter.unusedVariables false
set_option maxRecDepth 100000

theorem add_none (b off j : Nat) : (⟨b, off, none⟩ : Addr).add j = ⟨b, off + j, none⟩ := by unfold Addr.add; split <;> simp_all

/-- append(own, row...): the new slice holds both. -/
theorem wpList_append_fresh {w : World} {ops : Array Oper} {rest : List Oper} {o : Oper} {a : Act} {Q : Exit → Act → World → Prop} (hgd : o.guard = none) (s x : Operand) (t : TypeId)
    (ho : o.op = .call { callee := .builtin .append, args := #[s, x], argTypes := #[t, t] })
    (B : Nat) (e : TypeId) (i : TypeInfo) (k : IntKind) (bytes : Nat) (ht : Tryz.prog.underlying t = some (.slice e)) (hi : Tryz.prog.info? e = some i) (hz : i.zero = some (.int k 0))
    (hsize : i.size = 1) (hby : i.bytes = bytes) (hb8 : bytes ≤ 8) (v : Value) (zs : List Int) (hs : a.eval s = v) (hown : Fresh B e k w v zs) (u : Value) (ys : List Int) (hx : a.eval x = u) (hu : Row k w u ys)
    (hlen : zs.length + ys.length ≤ 1000000000) (hbase : B ≤ w.heap.size)
    (h : ∀ v' w', Fresh B e k w' v' (zs ++ ys) → w.grownBy w' v.ownBlock → wpList Tryz.prog ops Q rest (a.put o.dst v') w') : wpList Tryz.prog ops Q (o :: rest) a w := by
  obtain ⟨p, cap, rfl, hcap, hcm, hne, hnil⟩ := hu
  have hm1 : zs.length + ys.length ≤ maxLen := by unfold maxLen; omega
  have hm2 : (zs.length + ys.length) * bytes ≤ 140737488355328 := by
    have : (zs.length + ys.length) * bytes ≤ (zs.length + ys.length) * 8 := Nat.mul_le_mul_left _ hb8
    omega
  rcases p with _ | p
  · obtain ⟨rfl, rfl⟩ := hnil rfl
    refine wpList_append_own_none hgd s x t ho B e i 1 ht hi v _ _ hs hown hx ?_
    refine h v w (by rw [List.append_nil]; exact hown) ⟨rfl, rfl, rfl, Nat.le_refl _, fun _ _ _ => rfl⟩
  · refine wpList_append_own w hgd s x t ho B e i (.int k 0) 1 bytes ht hi hz hsize hby rfl (by decide) v zs.length (zs.map (Value.int k)) hs hown p ys.length cap (ys.map (Value.int k)) hx (by simp) ?_ ?_ hm1 hm2 hbase ?_
    · intro j q hq
      have hj : j < ys.length := by
        rcases Nat.lt_or_ge j ys.length with h | h
        · exact h
        · rw [List.getElem?_eq_none (by simp; omega)] at hq; cases hq
      obtain ⟨b, off, hp, hc⟩ := hne (fun h => by rw [h] at hj; simp at hj)
      injection hp with hp
      subst hp
      rw [add_none, hc j hj, ← hq, List.getElem?_map, List.getElem?_eq_getElem hj]; rfl
    · intro q hq
      obtain ⟨z, _, rfl⟩ := List.mem_map.1 hq
      rfl
    · intro v' w' h1 h2 _
      refine h v' w' ?_ h2
      unfold Fresh
      rw [List.length_append, List.map_append]
      exact h1

/-- A literal of a slice is the call's own. -/
theorem fresh_lit (w : World) (B : Nat) (e : TypeId) (k : IntKind) (zs : List Int) (hB : B ≤ w.heap.size) (hz : zs.length ≤ 1000000) :
    Fresh B e k (w.alloc (.cells (zs.map (Value.int k)).toArray e)) (.slice (some ⟨w.heap.size, 0, none⟩) zs.length zs.length) zs := by
  refine ⟨by simp, .inr ⟨w.heap.size, zs.length, (zs.map (Value.int k)).toArray, rfl, hB, World.alloc_heap_new w _, Nat.le_refl _, by unfold maxLen; omega, by simp, List.take_of_length_le (by simp)⟩⟩

/-- A slice that a call has made, behind what has been appended to it. -/
theorem below_grown {B : Nat} {w W W' : World} {e : TypeId} {k : IntKind} {v : Value} {zs : List Int} (hb : Below B w W) (hf : Fresh B e k W v zs) (hg : W.grownBy W' v.ownBlock) (hB : B ≤ W.heap.size) : Below B w W' :=
  hb.grown hg hB (fun k hk => (hf.lt k hk).1)

theorem fresh_mono {B B' : Nat} {e : TypeId} {k : IntKind} {w : World} {v : Value} {zs : List Int} (h : Fresh B e k w v zs) (hB : B' ≤ B) : Fresh B' e k w v zs := by
  refine ⟨h.1, ?_⟩
  rcases h.2 with hn | ⟨g, cap, cur, e1, h1, h2⟩
  · exact .inl hn
  · exact .inr ⟨g, cap, cur, e1, by omega, h2⟩

/-- What has been made, told from an earlier world on. -/
theorem copies_from {e : TypeId} {k : IntKind} {zs : List Int} {w w1 : World} {en : Ending} {w' : World} (h : Copies e k zs w1 en w') (hb : Below w.heap.size w w1) : Copies e k zs w en w' := by
  obtain ⟨v, rfl, h1, h2⟩ := h
  exact ⟨v, rfl, fresh_mono h1 hb.size, below_then hb h2⟩

set_option maxHeartbeats 400000 in
theorem refInt_any (n : Int) (w : World) (hn : -9223372036854775808 ≤ n ∧ n ≤ 9223372036854775807) :
    Calls Tryz.prog 74 #[.int .i64 n] w (Copies 5 .u8 (natI (varN (zigN n))) w) := by
  have HZ := Lib.hid (zigN_lt hn)
  have HN := Lib.hid hn
  clear hn
  go_enter Tryz.func74, Tryz.ntmps74
  go_wp2_with fail
  refine (refZig_any n w HN.out).mono ?_
  rintro e w1 ⟨rfl, rfl⟩
  go_wp2_with fail
  refine (refVar_any (zigN n) w HZ.out).mono ?_
  rintro e w2 ⟨v, rfl, h1, h2⟩
  have H1 := Lib.hid h1
  clear h1
  go_wp2_with fail
  go_ret
  exact copies_mk H1.out h2

def boolN (b : Bool) : List Nat := [if b then 1 else 0]

set_option maxHeartbeats 1000000 in
theorem refRaw_any (v : Value) (zs : List Int) (w : World) (hv : Row .u8 w v zs) (hlen : zs.length ≤ 1000000) :
    Calls Tryz.prog 58 #[v] w (Copies 5 .u8 (natI (varN zs.length) ++ zs) w) := by
  obtain ⟨i0, hi, hz0, hz1, hz2⟩ := info_parts info_u8
  have HR := Lib.hid hv
  have h10 : (natI (varN zs.length)).length + zs.length ≤ 1000000000 := by
    rw [natI_length]; have := varN_len10 (n := zs.length) (by omega); omega
  have H10 := Lib.hid h10
  obtain ⟨p, cap, rfl, hcap, hcm, hne, hnil⟩ := hv
  clear hne hnil h10
  go_enter Tryz.func58, Tryz.ntmps58
  go_wp2_with fail
  refine (refVar_any zs.length w (by omega)).mono ?_
  rintro e w1 ⟨v1, rfl, h1, hb1⟩
  have H1 := Lib.hid h1
  clear h1
  go_wp2_with (at_builtin; refine wpList_append_fresh rfl _ _ 39 rfl w.heap.size 5 i0 .u8 1 Tryz.underlying39 hi hz0 hz1 hz2 (by decide) _ _ rfl H1.out _ _ rfl (row_keeps HR.out hb1) H10.out hb1.size ?_; intro v2 w2 hfr hgrow; have hb2 : Below w.heap.size w w2 := below_grown hb1 H1.out hgrow hb1.size; have HFR := Lib.hid hfr; clear hfr hgrow)
  go_ret
  exact copies_mk HFR.out hb2

/-- A list's elements, encoded. -/
def zigsN (l : List Int) : List Nat := l.flatMap fun n => varN (zigN n)
theorem zigsN_snoc (l : List Int) (n : Int) : zigsN (l ++ [n]) = zigsN l ++ varN (zigN n) := by simp [zigsN]
theorem zigsN_take {l : List Int} {k : Nat} (hk : k < l.length) : zigsN (l.take (k + 1)) = zigsN (l.take k) ++ varN (zigN l[k]) := by
  rw [List.take_succ_eq_append_getElem hk, zigsN_snoc]
theorem zigsN_len {l : List Int} (h : ∀ n ∈ l, -9223372036854775808 ≤ n ∧ n ≤ 9223372036854775807) : (zigsN l).length ≤ 10 * l.length := by
  induction l with
  | nil => simp [zigsN]
  | cons n l ih =>
    have h1 := varN_len10 (zigN_lt (h n (by simp)))
    have h2 := ih (fun m hm => h m (by simp [hm]))
    have : zigsN (n :: l) = varN (zigN n) ++ zigsN l := by simp [zigsN]
    rw [this, List.length_append, List.length_cons]
    omega

end Go.Proofs.YtlljcnhcknmoaaaGreat
