/-
 Package frac: regions that make several variables (genFro.py makes this text).
-/
import Derived.Test.YtepakogbbomaoaaGreatDoorFcAO
import Derived.Deep.RegionHeld3
namespace Go.Proofs.YtepakogbbomaoaaGreatDoor
open Go.RowKit Go.Shelf
set_option linter.unusedVariables false
set_option maxRecDepth 100000
def optP (u : Value) : Option Nat → Value
 | none => u
 | some t => .pointer (some ⟨t, 0, none⟩)
def optV (u : Value) : Option Value → Value
 | none => u
 | some v => v
def cnt {α : Type} (o : Option α) : Nat := if o.isSome then 0 else 1
theorem cnt_some {α : Type} {o : Option α} (h : cnt o = 0) : ∃ t, o = some t := by
 cases o with
 | none => simp [cnt] at h
 | some t => exact ⟨t, rfl⟩
theorem not_some {α : Type} {o : Option α} (h : o.isSome = false) : o = none := by cases o with | none => rfl | some t => cases h
def ObP (L : Nat) (X : World) (o : Option Nat) : Prop := ∀ t, o = some t → L ≤ t ∧ IBox X t 0
def Oapart (o o' : Option Nat) : Prop := ∀ t, o = some t → o' ≠ some t
def OIv (X : World) (k : Option Value) (z : Int) : Prop := ∀ v, k = some v → ∃ (s : Bool) (a : Option Addr) (m c : Nat), v = .agg #[.bool s, .slice a m c] ∧ IAt X (.agg #[.bool s, .slice a m c]) z
theorem obp_none {L : Nat} {X : World} : ObP L X none := fun _ h => by cases h
theorem apart_none {o : Option Nat} : Oapart none o := fun _ h => by cases h
theorem oiv_none {X : World} {z : Int} : OIv X none z := fun _ h => by cases h
theorem ObP.below {L : Nat} {X Y : World} {o : Option Nat} (h : ObP L X o) (hb : Below X.heap.size X Y) : ObP L Y o := fun t e => ⟨(h t e).1, (h t e).2.below hb⟩
theorem OIv.below {X Y : World} {k : Option Value} {z : Int} (h : OIv X k z) (hb : Below X.heap.size X Y) : OIv Y k z := fun v e => by
 obtain ⟨s, a, m, c, e1, e2⟩ := h v e
 exact ⟨s, a, m, c, e1, iat_keeps e2 hb⟩
theorem obp_new {W0 X : World} (hb : Below W0.heap.size W0 X) : ObP W0.heap.size (X.alloc (.cells #[.bool false, .slice none 0 0] 32)) (some X.heap.size) := fun t e => by
 injection e with e
 subst e
 exact ⟨hb.size, IBox.new (iat_zero X)⟩
theorem apart_new {L : Nat} {X : World} {o : Option Nat} (h : ObP L X o) : Oapart (some X.heap.size) o := fun t e e2 => by
 injection e with e
 subst e
 exact absurd (h _ e2).2.lt (Nat.lt_irrefl _)
theorem apart_new' {L : Nat} {X : World} {o : Option Nat} (h : ObP L X o) : Oapart o (some X.heap.size) := fun t e e2 => by
 injection e2 with e2
 subst e2
 exact absurd (h _ e).2.lt (Nat.lt_irrefl _)
theorem oiv_new {X : World} {z : Int} {s : Bool} {a : Option Addr} {m c : Nat} (h : IAt X (.agg #[.bool s, .slice a m c]) z) : OIv X (some (.agg #[.bool s, .slice a m c])) z := fun v e => by
 injection e with e
 subst e
 exact ⟨s, a, m, c, rfl, h⟩
def optS (u : Value) : Option Nat → Value
 | none => u
 | some g => .slice (some ⟨g, 0, none⟩) 1 1
def optT (u : Value) : Option (Value × Value) → Value
 | none => u
 | some v => .tuple #[v.1, v.2]
def optA (u : Value) : Option (Value × Value) → Value
 | none => u
 | some v => v.1
def optE (u : Value) : Option (Value × Value) → Value
 | none => u
 | some v => v.2
open Classical in
noncomputable def limF (z : Int) : Int := if big z then 0 else z
open Classical in
noncomputable def ecF (z : Int) : Int := if big z then 4 else 0
theorem rend_limF {W : World} {b : Bool} {a : Option Addr} {m k : Nat} {z c : Int} (h : RIs W b a m k z c) : c = ecF z ∧ IAt W (.agg #[.bool b, .slice a m k]) (limF z) := by
 unfold ecF limF
 rcases h with ⟨h1, h2, h3⟩ | ⟨h1, h2, h3, h4, h5, h6⟩
 ·rw [if_neg h1, if_neg h1]; exact ⟨h2, h3⟩
 ·rw [if_pos h1, if_pos h1]; subst h3; subst h4; subst h5; subst h6; exact ⟨h2, iat_zero _⟩
theorem is_some {α : Type} {o : Option α} (h : o.isSome = true) : ∃ t, o = some t := by cases o with | none => cases h | some t => exact ⟨t, rfl⟩
def OSl (X : World) (k : Option Nat) (z : Int) : Prop := ∀ g, k = some g → g < X.heap.size ∧ ∃ (s : Bool) (a : Option Addr) (m c : Nat), X.cell? ⟨g, 0, none⟩ = some (.bool s) ∧ X.cell? ⟨g, 1, none⟩ = some (.slice a m c) ∧ IAt X (.agg #[.bool s, .slice a m c]) z
def OIv2 (X : World) (r : Option (Value × Value)) (z : Int) : Prop := ∀ v, r = some v → ∃ (s : Bool) (a : Option Addr) (m c : Nat), v = (.agg #[.bool s, .slice a m c], .int .i64 (ecF z)) ∧ IAt X (.agg #[.bool s, .slice a m c]) (limF z)
theorem osl_none {X : World} {z : Int} : OSl X none z := fun _ h => by cases h
theorem oiv2_none {X : World} {z : Int} : OIv2 X none z := fun _ h => by cases h
theorem OSl.below {X Y : World} {k : Option Nat} {z : Int} (h : OSl X k z) (hb : Below X.heap.size X Y) : OSl Y k z := fun g e => by
 obtain ⟨h1, s, a, m, c, e1, e2, e3⟩ := h g e
 exact ⟨Nat.lt_of_lt_of_le h1 hb.size, s, a, m, c, (hb.cell (p := ⟨g, 0, none⟩) h1).trans e1, (hb.cell (p := ⟨g, 1, none⟩) h1).trans e2, iat_keeps e3 hb⟩
theorem OIv2.below {X Y : World} {k : Option (Value × Value)} {z : Int} (h : OIv2 X k z) (hb : Below X.heap.size X Y) : OIv2 Y k z := fun v e => by
 obtain ⟨s, a, m, c, e1, e2⟩ := h v e
 exact ⟨s, a, m, c, e1, iat_keeps e2 hb⟩
theorem osl_new {X : World} {z : Int} {s : Bool} {a : Option Addr} {m c : Nat} (h : IAt X (.agg #[.bool s, .slice a m c]) z) : OSl (X.alloc (.cells #[.bool s, .slice a m c] 32)) (some X.heap.size) z := fun g e => by
 injection e with e
 subst e
 have hl := Laid.new X 32 [.bool s, .slice a m c]
 exact ⟨hl.lt, s, a, m, c, hl.cell 0, hl.cell 1, iat_keeps h (below_one _ _)⟩
theorem oiv2_new {X : World} {z : Int} {s : Bool} {a : Option Addr} {m c : Nat} (h : IAt X (.agg #[.bool s, .slice a m c]) (limF z)) : OIv2 X (some (.agg #[.bool s, .slice a m c], .int .i64 (ecF z))) z := fun v e => by
 injection e with e
 subst e
 exact ⟨s, a, m, c, rfl, h⟩
section
variable {P : Program} {ops : Array Oper} {Q : Exit → Act → World → Prop} {md : Region.Mode} {S : World → Prop}
theorem wpAnyH_more {n k : Nat} {listed : Array Bool} {a : Act} {w : World} (hne : Region.ready md ops listed ≠ []) (h0 : 0 < n)
  (h : ∀ m, n = m + 1 → ∀ i ∈ Region.ready md ops listed, wpOp P ops Q i (fun a' w' => S w' ∧ wpAnyH P md ops Q S (m + k) (listed.setIfInBounds i true) a' w') a w) : wpAnyH P md ops Q S (n + k) listed a w := by
 obtain ⟨m, rfl⟩ : ∃ m, n = m + 1 := ⟨n - 1, by omega⟩
 rw [show m + 1 + k = (m + k) + 1 by omega]
 exact wpAnyH_all rfl hne (h m rfl)
end
def opsMu1 : Array Oper := #[⟨some 17, Op.load 32 (.tmp 4), 32, "frac.go:77", #[], none⟩,
 ⟨some 18, Op.load 32 (.tmp 7), 32, "frac.go:77", #[], none⟩,
 ⟨some 19, Op.call ⟨.value (.func 41), #[.tmp 17, .tmp 18], #[32, 32]⟩, 32, "frac.go:77", #[⟨0, .data⟩, ⟨1, .data⟩], none⟩,
 ⟨some 20, Op.load 32 (.tmp 6), 32, "frac.go:77", #[], none⟩,
 ⟨some 21, Op.load 32 (.tmp 5), 32, "frac.go:77", #[], none⟩,
 ⟨some 22, Op.call ⟨.value (.func 41), #[.tmp 20, .tmp 21], #[32, 32]⟩, 32, "frac.go:77", #[⟨3, .data⟩, ⟨4, .data⟩, ⟨2, .chain⟩], none⟩,
 ⟨some 10, Op.alloc 32, 0, "frac.go:77", #[], none⟩,
 ⟨some 11, Op.alloc 32, 0, "frac.go:77", #[], none⟩,
 ⟨none, Op.store 32 (.tmp 10) (.tmp 19), 0, "frac.go:77", #[⟨6, .data⟩, ⟨2, .data⟩, ⟨5, .chain⟩, ⟨0, .phase⟩, ⟨1, .phase⟩, ⟨2, .phase⟩, ⟨3, .textOnly .lateStores⟩, ⟨4, .textOnly .lateStores⟩, ⟨5, .textOnly .lateStoresUnsure⟩, ⟨6, .phase⟩, ⟨7, .phase⟩], none⟩,
 ⟨none, Op.store 32 (.tmp 11) (.tmp 22), 0, "frac.go:77", #[⟨7, .data⟩, ⟨5, .data⟩, ⟨8, .chain⟩, ⟨0, .phase⟩, ⟨1, .phase⟩, ⟨2, .phase⟩, ⟨3, .phase⟩, ⟨4, .phase⟩, ⟨5, .phase⟩, ⟨6, .phase⟩, ⟨7, .phase⟩, ⟨8, .phase⟩], none⟩]
set_option maxHeartbeats 8000000 in
theorem regMu1 {Q : Exit → Act → World → Prop} (hQ : ∀ c a d v w, Q (.panic c) (Act.put a (some d) v) w → Q (.panic c) a w) {W0 : World} {dd : List Deferred} {u0 u1 u2 u3 u8 u9 G0 Gb Ge J1 Gt Gg G5 Gn J0 G7 Gx Gu Gp J5 Gc Gk J4 Gf Gv Gh J8 Gz Gr Gw Gd Gi J2 J7 G1 G9 Gm J6 Ga Gs G2 J9 G3 Gl Go G8 G6 Gq G4 J3 Gj Gy : Value} {b4 : Nat} {s4 : Bool} {a4 : Option Addr} {m4 c4 : Nat} {b5 : Nat} {s5 : Bool} {a5 : Option Addr} {m5 c5 : Nat} {b6 : Nat} {s6 : Bool} {a6 : Option Addr} {m6 c6 : Nat} {b7 : Nat} {s7 : Bool} {a7 : Option Addr} {m7 c7 : Nat} {z19 z22 : Int}
  (LD : Hid (∀ X : World, Below W0.heap.size W0 X → X.cell? ⟨b4, 0, none⟩ = some (.bool s4) ∧ X.cell? ⟨b4, 1, none⟩ = some (.slice a4 m4 c4) ∧ X.cell? ⟨b5, 0, none⟩ = some (.bool s5) ∧ X.cell? ⟨b5, 1, none⟩ = some (.slice a5 m5 c5) ∧ X.cell? ⟨b6, 0, none⟩ = some (.bool s6) ∧ X.cell? ⟨b6, 1, none⟩ = some (.slice a6 m6 c6) ∧ X.cell? ⟨b7, 0, none⟩ = some (.bool s7) ∧ X.cell? ⟨b7, 1, none⟩ = some (.slice a7 m7 c7)))
  (C19 : Hid (∀ X, Below W0.heap.size W0 X → Calls Tryz.prog 41 #[.agg #[.bool s4, .slice a4 m4 c4], .agg #[.bool s7, .slice a7 m7 c7]] X (IEnd z19 X)))
  (C22 : Hid (∀ X, Below W0.heap.size W0 X → Calls Tryz.prog 41 #[.agg #[.bool s6, .slice a6 m6 c6], .agg #[.bool s5, .slice a5 m5 c5]] X (IEnd z22 X)))
  (leaf : ∀ (X : World) (t10 t11 : Nat) (v19 v22 : Value), Hid (Below W0.heap.size W0 X) → Hid (IBox X t10 z19) → Hid (IBox X t11 z22) → W0.heap.size ≤ t10 → W0.heap.size ≤ t11 → t10 ≠ t11 → Q .normal ⟨#[u0, u1, u2, u3, .pointer (some ⟨b4, 0, none⟩), .pointer (some ⟨b5, 0, none⟩), .pointer (some ⟨b6, 0, none⟩), .pointer (some ⟨b7, 0, none⟩), u8, u9, .pointer (some ⟨t10, 0, none⟩), .pointer (some ⟨t11, 0, none⟩), Ge, J1, Gt, Gg, G5, .agg #[.bool s4, .slice a4 m4 c4], .agg #[.bool s7, .slice a7 m7 c7], v19, .agg #[.bool s6, .slice a6 m6 c6], .agg #[.bool s5, .slice a5 m5 c5], v22, J5, Gc, Gk, J4, Gf, Gv, Gh, J8, Gz, Gr, Gw, Gd, Gi, J2, J7, G1, G9, Gm, J6, Ga, Gs, G2, J9, G3, Gl, Go, G8, G6, Gq, G4, J3, Gj, Gy], dd⟩ X) :
  (Code.region 1 opsMu1 true).wp Tryz.prog Q ⟨#[u0, u1, u2, u3, .pointer (some ⟨b4, 0, none⟩), .pointer (some ⟨b5, 0, none⟩), .pointer (some ⟨b6, 0, none⟩), .pointer (some ⟨b7, 0, none⟩), u8, u9, G0, Gb, Ge, J1, Gt, Gg, G5, Gn, J0, G7, Gx, Gu, Gp, J5, Gc, Gk, J4, Gf, Gv, Gh, J8, Gz, Gr, Gw, Gd, Gi, J2, J7, G1, G9, Gm, J6, Ga, Gs, G2, J9, G3, Gl, Go, G8, G6, Gq, G4, J3, Gj, Gy], dd⟩ W0 := by
 have RDY : ∀ x10 x11 x19 x22 : Bool, ((Region.ready .any opsMu1 #[true, true, x19, true, true, x22, x10, x11, false, false]).all fun i => (i == 6 && !x10) || ((i == 7 && !x11) || ((i == 2 && (!x19)) || ((i == 5 && (!x22 && (x19))) || ((i == 8 && (x10 && (x11 && (x19 && (x22)))))))))) = true := by decide +kernel
 have RNE : ∀ x10 x11 x19 x22 : Bool, Region.ready .any opsMu1 #[true, true, x19, true, true, x22, x10, x11, false, false] ≠ [] := by decide +kernel
 have key : ∀ (n : Nat) (o10 o11 : Option Nat) (k19 : Option Value) (k22 : Option Value) (X : World), cnt o10 + cnt o11 + cnt k19 + cnt k22 = n → Below W0.heap.size W0 X → ObP W0.heap.size X o10 → ObP W0.heap.size X o11 → Oapart o10 o11 → OIv X k19 z19 → OIv X k22 z22 → wpAnyH Tryz.prog .any opsMu1 Q (fun X => Below W0.heap.size W0 X) (n + 2) #[true, true, k19.isSome, true, true, k22.isSome, o10.isSome, o11.isSome, false, false] ⟨#[u0, u1, u2, u3, .pointer (some ⟨b4, 0, none⟩), .pointer (some ⟨b5, 0, none⟩), .pointer (some ⟨b6, 0, none⟩), .pointer (some ⟨b7, 0, none⟩), u8, u9, optP G0 o10, optP Gb o11, Ge, J1, Gt, Gg, G5, .agg #[.bool s4, .slice a4 m4 c4], .agg #[.bool s7, .slice a7 m7 c7], optV G7 k19, .agg #[.bool s6, .slice a6 m6 c6], .agg #[.bool s5, .slice a5 m5 c5], optV Gp k22, J5, Gc, Gk, J4, Gf, Gv, Gh, J8, Gz, Gr, Gw, Gd, Gi, J2, J7, G1, G9, Gm, J6, Ga, Gs, G2, J9, G3, Gl, Go, G8, G6, Gq, G4, J3, Gj, Gy], dd⟩ X := by
  intro n
  induction n using Nat.strongRecOn with
  | ind n ih =>
  intro o10 o11 k19 k22 X hc hB hO10 hO11 hD10x11 hV19 hV22
  rcases Nat.eq_zero_or_pos n with h0 | h0
  ·subst h0
   clear ih
   obtain ⟨t10, rfl⟩ := cnt_some (o := o10) (by omega)
   obtain ⟨t11, rfl⟩ := cnt_some (o := o11) (by omega)
   obtain ⟨v19, rfl⟩ := cnt_some (o := k19) (by omega)
   obtain ⟨v22, rfl⟩ := cnt_some (o := k22) (by omega)
   obtain ⟨L10, T10⟩ := hO10 t10 rfl
   obtain ⟨L11, T11⟩ := hO11 t11 rfl
   have D10x11 : t10 ≠ t11 := fun e => hD10x11 t10 rfl (congrArg some e.symm)
   obtain ⟨s19v, a19v, m19v, c19v, rfl, hi19⟩ := hV19 _ rfl
   obtain ⟨s22v, a22v, m22v, c22v, rfl, hi22⟩ := hV22 _ rfl
   clear hO10 hO11 hD10x11 hV19 hV22 hc
   simp only [optP, optV, Option.isSome]
   refine wpAnyH_ready (rs := [8]) (by kernel_rfl) (by simp) ?_
   obtain ⟨_, _, _, _, l10, _⟩ := id T10
   obtain ⟨r0, r1, r2, r3⟩ := cells2 l10
   refine AllReadyH.cons (o := ⟨none, Op.store 32 (.tmp 10) (.tmp 19), 0, "frac.go:77", #[⟨6, .data⟩, ⟨2, .data⟩, ⟨5, .chain⟩, ⟨0, .phase⟩, ⟨1, .phase⟩, ⟨2, .phase⟩, ⟨3, .textOnly .lateStores⟩, ⟨4, .textOnly .lateStores⟩, ⟨5, .textOnly .lateStoresUnsure⟩, ⟨6, .phase⟩, ⟨7, .phase⟩], none⟩) rfl (fun K hK => ?_) AllReadyH.nil
   go_simp
   refine hK.out _ _ ?_ (fun hHeld => ?_)
   ·exact below_set2 hB L10
   clear hK K r0 r1 r2 r3 hHeld
   try simp only [List.setIfInBounds_toArray, List.set_cons_zero, List.set_cons_succ]
   have T10y1 := T10.store (s := s19v) (a := a19v) (m := m19v) (c := c19v) hi19
   have T11y1 := T10.other (s := s19v) (a := a19v) (m := m19v) (c := c19v) T11 (Ne.symm D10x11)
   have hi22y1 := iat_set (iat_set hi22 l10 0 (.bool s19v)) (l10.set 0 (.bool s19v)) 1 (.slice a19v m19v c19v)
   have hBy1 := below_set2 (p := t10) (u := .bool s19v) (v := .slice a19v m19v c19v) hB L10
   clear l10 hB T10 T11 hi19 hi22
   generalize (X.setCell ⟨t10, 0, none⟩ (.bool s19v)).setCell ⟨t10, 1, none⟩ (.slice a19v m19v c19v) = Y1 at *
   refine wpAnyH_ready (rs := [9]) (by kernel_rfl) (by simp) ?_
   obtain ⟨_, _, _, _, l11, _⟩ := id T11y1
   obtain ⟨r0, r1, r2, r3⟩ := cells2 l11
   refine AllReadyH.cons (o := ⟨none, Op.store 32 (.tmp 11) (.tmp 22), 0, "frac.go:77", #[⟨7, .data⟩, ⟨5, .data⟩, ⟨8, .chain⟩, ⟨0, .phase⟩, ⟨1, .phase⟩, ⟨2, .phase⟩, ⟨3, .phase⟩, ⟨4, .phase⟩, ⟨5, .phase⟩, ⟨6, .phase⟩, ⟨7, .phase⟩, ⟨8, .phase⟩], none⟩) rfl (fun K hK => ?_) AllReadyH.nil
   go_simp
   refine hK.out _ _ ?_ (fun hHeld => ?_)
   ·exact below_set2 hBy1 L11
   clear hK K r0 r1 r2 r3 hHeld
   try simp only [List.setIfInBounds_toArray, List.set_cons_zero, List.set_cons_succ]
   have T11y2 := T11y1.store (s := s22v) (a := a22v) (m := m22v) (c := c22v) hi22y1
   have T10y2 := T11y1.other (s := s22v) (a := a22v) (m := m22v) (c := c22v) T10y1 (Ne.symm (Ne.symm D10x11))
   have hBy2 := below_set2 (p := t11) (u := .bool s22v) (v := .slice a22v m22v c22v) hBy1 L11
   clear l11 hBy1 T10y1 T11y1 hi22y1
   generalize (Y1.setCell ⟨t11, 0, none⟩ (.bool s22v)).setCell ⟨t11, 1, none⟩ (.slice a22v m22v c22v) = Y2 at *
   refine wpAnyH_done (by kernel_rfl) ?_ _
   exact leaf Y2 t10 t11 _ _ (Lib.hid hBy2) (Lib.hid T10y2) (Lib.hid T11y2) L10 L11 D10x11
  ·refine wpAnyH_more (ops := opsMu1) (RNE _ _ _ _) h0 (fun m hm i hi => ?_)
   have hcase := List.all_eq_true.1 (RDY _ _ _ _) i hi
   simp only [Bool.or_eq_true, Bool.and_eq_true, beq_iff_eq, Bool.not_eq_true'] at hcase
   clear hi h0
   rcases hcase with ⟨rfl, hb⟩ | ⟨rfl, hb⟩ | ⟨rfl, hb⟩ | ⟨rfl, hb, g0⟩ | ⟨rfl, e0, e1, e2, e3⟩
   ·obtain rfl := not_some hb
    refine (AllReadyH.cons (o := ⟨some 10, Op.alloc 32, 0, "frac.go:77", #[], none⟩) rfl (fun K hK => ?_) AllReadyH.nil) 6 (List.mem_singleton.2 rfl)
    go_simp
    have hb1 := below_one X (.cells #[.bool false, .slice none 0 0] 32)
    refine hK.out _ _ ?_ (fun hHeld => ?_)
    ·exact below_then hB hb1
    clear hK K
    try simp only [List.setIfInBounds_toArray, List.set_cons_zero, List.set_cons_succ]
    subst hm
    exact ih m (by omega) (some X.heap.size) o11 k19 k22 _ (by simp only [cnt, Option.isSome] at hc ⊢; simp at hc ⊢; omega) (below_then hB hb1) (obp_new hB) (hO11.below hb1) (apart_new hO11) (hV19.below hb1) (hV22.below hb1)
   ·obtain rfl := not_some hb
    refine (AllReadyH.cons (o := ⟨some 11, Op.alloc 32, 0, "frac.go:77", #[], none⟩) rfl (fun K hK => ?_) AllReadyH.nil) 7 (List.mem_singleton.2 rfl)
    go_simp
    have hb1 := below_one X (.cells #[.bool false, .slice none 0 0] 32)
    refine hK.out _ _ ?_ (fun hHeld => ?_)
    ·exact below_then hB hb1
    clear hK K
    try simp only [List.setIfInBounds_toArray, List.set_cons_zero, List.set_cons_succ]
    subst hm
    exact ih m (by omega) o10 (some X.heap.size) k19 k22 _ (by simp only [cnt, Option.isSome] at hc ⊢; simp at hc ⊢; omega) (below_then hB hb1) (hO10.below hb1) (obp_new hB) (apart_new' hO10) (hV19.below hb1) (hV22.below hb1)
   ·obtain rfl := not_some hb
    have C := C19.out X hB
    unfold IEnd at C
    have HC := Lib.hid C
    clear C
    refine (AllReadyH.cons (o := ⟨some 19, Op.call ⟨.value (.func 41), #[.tmp 17, .tmp 18], #[32, 32]⟩, 32, "frac.go:77", #[⟨0, .data⟩, ⟨1, .data⟩], none⟩) rfl (fun K hK => ?_) AllReadyH.nil) 2 (List.mem_singleton.2 rfl)
    go_simp
    go_at_call 41
    refine HC.out.mono ?_
    rintro e w5 ⟨b5, a5, m5, k5, rfl, hx5, hb5⟩
    go_wp2_with fail
    refine hK.out _ _ ?_ (fun hHeld => ?_)
    ·exact below_then hB hb5
    clear hK K
    try simp only [List.setIfInBounds_toArray, List.set_cons_zero, List.set_cons_succ]
    subst hm
    exact ih m (by omega) o10 o11 (some (.agg #[.bool b5, .slice a5 m5 k5])) k22 _ (by simp only [cnt, Option.isSome] at hc ⊢; simp at hc ⊢; omega) (below_then hB hb5) (hO10.below hb5) (hO11.below hb5) hD10x11 (oiv_new hx5) (hV22.below hb5)
   ·obtain rfl := not_some hb
    obtain ⟨w19, rfl⟩ := is_some g0
    have C := C22.out X hB
    unfold IEnd at C
    have HC := Lib.hid C
    clear C
    refine (AllReadyH.cons (o := ⟨some 22, Op.call ⟨.value (.func 41), #[.tmp 20, .tmp 21], #[32, 32]⟩, 32, "frac.go:77", #[⟨3, .data⟩, ⟨4, .data⟩, ⟨2, .chain⟩], none⟩) rfl (fun K hK => ?_) AllReadyH.nil) 5 (List.mem_singleton.2 rfl)
    go_simp
    go_at_call 41
    refine HC.out.mono ?_
    rintro e w5 ⟨b5, a5, m5, k5, rfl, hx5, hb5⟩
    go_wp2_with fail
    refine hK.out _ _ ?_ (fun hHeld => ?_)
    ·exact below_then hB hb5
    clear hK K
    try simp only [List.setIfInBounds_toArray, List.set_cons_zero, List.set_cons_succ]
    subst hm
    exact ih m (by omega) o10 o11 (some _) (some (.agg #[.bool b5, .slice a5 m5 k5])) _ (by simp only [cnt, Option.isSome] at hc ⊢; simp at hc ⊢; omega) (below_then hB hb5) (hO10.below hb5) (hO11.below hb5) hD10x11 (hV19.below hb5) (oiv_new hx5)
   ·exfalso
    simp only [cnt, e0, e1, e2, e3] at hc
    simp at hc
    omega
 refine wp_region_held_drew (S := fun X => Below W0.heap.size W0 X) (by kernel_rfl) (Below.refl _ _).drew (fun hHeld => ?_)
 refine wpAnyH_take (i := 0) (oi := ⟨some 17, Op.load 32 (.tmp 4), 32, "frac.go:77", #[], none⟩) (v := ?_) rfl (by kernel_rfl) (by kernel_rfl) (by kernel_rfl) (fun c a w => hQ c a _ _ w) (Or.inl ⟨by rfl, ?_⟩) (by assumption) ?_
 rotate_left
 ·(intro wq hSw; have hLD := LD.out wq hSw; obtain ⟨f0, f1, f2, f3, f4, f5, f6, f7⟩ := hLD; go_simp; try with_reducible rfl)
 try simp only [Act.put, List.setIfInBounds_toArray, List.set_cons_zero, List.set_cons_succ]
 refine wpAnyH_take (i := 1) (oi := ⟨some 18, Op.load 32 (.tmp 7), 32, "frac.go:77", #[], none⟩) (v := ?_) rfl (by kernel_rfl) (by kernel_rfl) (by kernel_rfl) (fun c a w => hQ c a _ _ w) (Or.inl ⟨by rfl, ?_⟩) (by assumption) ?_
 rotate_left
 ·(intro wq hSw; have hLD := LD.out wq hSw; obtain ⟨f0, f1, f2, f3, f4, f5, f6, f7⟩ := hLD; go_simp; try with_reducible rfl)
 try simp only [Act.put, List.setIfInBounds_toArray, List.set_cons_zero, List.set_cons_succ]
 refine wpAnyH_take (i := 3) (oi := ⟨some 20, Op.load 32 (.tmp 6), 32, "frac.go:77", #[], none⟩) (v := ?_) rfl (by kernel_rfl) (by kernel_rfl) (by kernel_rfl) (fun c a w => hQ c a _ _ w) (Or.inl ⟨by rfl, ?_⟩) (by assumption) ?_
 rotate_left
 ·(intro wq hSw; have hLD := LD.out wq hSw; obtain ⟨f0, f1, f2, f3, f4, f5, f6, f7⟩ := hLD; go_simp; try with_reducible rfl)
 try simp only [Act.put, List.setIfInBounds_toArray, List.set_cons_zero, List.set_cons_succ]
 refine wpAnyH_take (i := 4) (oi := ⟨some 21, Op.load 32 (.tmp 5), 32, "frac.go:77", #[], none⟩) (v := ?_) rfl (by kernel_rfl) (by kernel_rfl) (by kernel_rfl) (fun c a w => hQ c a _ _ w) (Or.inl ⟨by rfl, ?_⟩) (by assumption) ?_
 rotate_left
 ·(intro wq hSw; have hLD := LD.out wq hSw; obtain ⟨f0, f1, f2, f3, f4, f5, f6, f7⟩ := hLD; go_simp; try with_reducible rfl)
 try simp only [Act.put, List.setIfInBounds_toArray, List.set_cons_zero, List.set_cons_succ]
 exact key _ none none none none _ rfl (Below.refl _ _).drew obp_none obp_none apart_none oiv_none oiv_none
def opsMu2 : Array Oper := #[⟨some 24, Op.load 32 (.tmp 4), 32, "frac.go:78", #[], none⟩,
 ⟨some 25, Op.load 32 (.tmp 10), 32, "frac.go:78", #[], none⟩,
 ⟨some 26, Op.call ⟨.value (.func 42), #[.tmp 24, .tmp 25], #[32, 32]⟩, 32, "frac.go:78", #[⟨0, .data⟩, ⟨1, .data⟩], none⟩,
 ⟨some 27, Op.load 32 (.tmp 6), 32, "frac.go:78", #[], none⟩,
 ⟨some 28, Op.load 32 (.tmp 11), 32, "frac.go:78", #[], none⟩,
 ⟨some 29, Op.call ⟨.value (.func 42), #[.tmp 27, .tmp 28], #[32, 32]⟩, 32, "frac.go:78", #[⟨3, .data⟩, ⟨4, .data⟩, ⟨2, .chain⟩], none⟩,
 ⟨some 30, Op.buildSlice 108 1 #[(0, .tmp 29)], 108, "frac.go:78", #[⟨5, .data⟩], none⟩,
 ⟨some 31, Op.call ⟨.value (.func 36), #[.tmp 26, .tmp 30], #[32, 108]⟩, 44, "frac.go:78", #[⟨2, .data⟩, ⟨6, .data⟩, ⟨5, .chain⟩], none⟩,
 ⟨some 23, Op.move (.tmp 31), 44, "frac.go:78", #[⟨7, .data⟩], none⟩,
 ⟨some 32, Op.extract (.tmp 23) 0, 32, "frac.go:78", #[⟨8, .data⟩], none⟩,
 ⟨some 33, Op.extract (.tmp 23) 1, 41, "frac.go:78", #[⟨8, .data⟩, ⟨12, .gcOnly .lateStores⟩], none⟩,
 ⟨some 12, Op.alloc 32, 0, "frac.go:78", #[], none⟩,
 ⟨none, Op.store 32 (.tmp 12) (.tmp 32), 0, "frac.go:78", #[⟨11, .data⟩, ⟨9, .data⟩, ⟨7, .chain⟩, ⟨0, .phase⟩, ⟨1, .phase⟩, ⟨2, .phase⟩, ⟨3, .phase⟩, ⟨4, .phase⟩, ⟨5, .phase⟩, ⟨6, .phase⟩, ⟨7, .phase⟩, ⟨8, .phase⟩, ⟨9, .phase⟩, ⟨10, .textOnly .lateStores⟩, ⟨11, .phase⟩], none⟩,
 ⟨some 13, Op.assign (.tmp 33), 41, "frac.go:78", #[⟨10, .data⟩, ⟨12, .chain⟩, ⟨0, .phase⟩, ⟨1, .phase⟩, ⟨2, .phase⟩, ⟨3, .phase⟩, ⟨4, .phase⟩, ⟨5, .phase⟩, ⟨6, .phase⟩, ⟨7, .phase⟩, ⟨8, .phase⟩, ⟨9, .phase⟩, ⟨10, .phase⟩, ⟨11, .phase⟩, ⟨12, .phase⟩], none⟩]
set_option maxHeartbeats 8000000 in
theorem regMu2 {Q : Exit → Act → World → Prop} (hQ : ∀ c a d v w, Q (.panic c) (Act.put a (some d) v) w → Q (.panic c) a w) {W0 : World} {dd : List Deferred} {u0 u1 u2 u3 u5 u7 u8 u9 Gc Gz Gr Ge G4 Gl Gy G6 Gv Gs Gn J3 Ga Gi J2 Gd Gt Gf J6 Gx Gp Gu Gb Gg J0 J5 G0 G8 Gk J4 G9 Gq G1 J7 G2 Gj Gm G7 G5 Go G3 J1 Gh Gw : Value} {b4 : Nat} {s4 : Bool} {a4 : Option Addr} {m4 c4 : Nat} {b10 : Nat} {s10 : Bool} {a10 : Option Addr} {m10 c10 : Nat} {b6 : Nat} {s6 : Bool} {a6 : Option Addr} {m6 c6 : Nat} {b11 : Nat} {s11 : Bool} {a11 : Option Addr} {m11 c11 : Nat} {z26 z29 : Int}
  (LD : Hid (∀ X : World, Below W0.heap.size W0 X → X.cell? ⟨b4, 0, none⟩ = some (.bool s4) ∧ X.cell? ⟨b4, 1, none⟩ = some (.slice a4 m4 c4) ∧ X.cell? ⟨b10, 0, none⟩ = some (.bool s10) ∧ X.cell? ⟨b10, 1, none⟩ = some (.slice a10 m10 c10) ∧ X.cell? ⟨b6, 0, none⟩ = some (.bool s6) ∧ X.cell? ⟨b6, 1, none⟩ = some (.slice a6 m6 c6) ∧ X.cell? ⟨b11, 0, none⟩ = some (.bool s11) ∧ X.cell? ⟨b11, 1, none⟩ = some (.slice a11 m11 c11)))
  (C26 : Hid (∀ X, Below W0.heap.size W0 X → Calls Tryz.prog 42 #[.agg #[.bool s4, .slice a4 m4 c4], .agg #[.bool s10, .slice a10 m10 c10]] X (IEnd z26 X)))
  (C29 : Hid (∀ X, Below W0.heap.size W0 X → Calls Tryz.prog 42 #[.agg #[.bool s6, .slice a6 m6 c6], .agg #[.bool s11, .slice a11 m11 c11]] X (IEnd z29 X)))
  (C31 : Hid (∀ X u g s a m c, Below W0.heap.size W0 X → IAt X u z26 → IAt X (.agg #[.bool s, .slice a m c]) z29 → g < X.heap.size → X.cell? ⟨g, 0, none⟩ = some (.bool s) → X.cell? ⟨g, 1, none⟩ = some (.slice a m c) → Calls Tryz.prog 36 #[u, .slice (some ⟨g, 0, none⟩) 1 1] X (REndW (z26 * z29) X)))
  (leaf : ∀ (X : World) (t12 : Nat) (v26 v29 v30 v31 v23 v32 : Value), Hid (Below W0.heap.size W0 X) → Hid (IBox X t12 (limF (z26 * z29))) → W0.heap.size ≤ t12 → Q .normal ⟨#[u0, u1, u2, u3, .pointer (some ⟨b4, 0, none⟩), u5, .pointer (some ⟨b6, 0, none⟩), u7, u8, u9, .pointer (some ⟨b10, 0, none⟩), .pointer (some ⟨b11, 0, none⟩), .pointer (some ⟨t12, 0, none⟩), .int .i64 (ecF (z26 * z29)), Gr, Ge, G4, Gl, Gy, G6, Gv, Gs, Gn, v23, .agg #[.bool s4, .slice a4 m4 c4], .agg #[.bool s10, .slice a10 m10 c10], v26, .agg #[.bool s6, .slice a6 m6 c6], .agg #[.bool s11, .slice a11 m11 c11], v29, v30, v31, v32, .int .i64 (ecF (z26 * z29)), Gb, Gg, J0, J5, G0, G8, Gk, J4, G9, Gq, G1, J7, G2, Gj, Gm, G7, G5, Go, G3, J1, Gh, Gw], dd⟩ X) :
  (Code.region 2 opsMu2 true).wp Tryz.prog Q ⟨#[u0, u1, u2, u3, .pointer (some ⟨b4, 0, none⟩), u5, .pointer (some ⟨b6, 0, none⟩), u7, u8, u9, .pointer (some ⟨b10, 0, none⟩), .pointer (some ⟨b11, 0, none⟩), Gc, Gz, Gr, Ge, G4, Gl, Gy, G6, Gv, Gs, Gn, J3, Ga, Gi, J2, Gd, Gt, Gf, J6, Gx, Gp, Gu, Gb, Gg, J0, J5, G0, G8, Gk, J4, G9, Gq, G1, J7, G2, Gj, Gm, G7, G5, Go, G3, J1, Gh, Gw], dd⟩ W0 := by
 have RDY : ∀ x12 x26 x29 x30 x31 : Bool, ((Region.ready .any opsMu2 #[true, true, x26, true, true, x29, x30, x31, x31, x31, x31, x12, false, false]).all fun i => (i == 11 && !x12) || ((i == 2 && (!x26)) || ((i == 5 && (!x29 && (x26))) || ((i == 6 && (!x30 && (x29))) || ((i == 7 && (!x31 && (x26 && (x29 && (x30))))) || ((i == 12 && (x12 && (x26 && (x29 && (x30 && (x31)))))))))))) = true := by decide +kernel
 have RNE : ∀ x12 x26 x29 x30 x31 : Bool, Region.ready .any opsMu2 #[true, true, x26, true, true, x29, x30, x31, x31, x31, x31, x12, false, false] ≠ [] := by decide +kernel
 have FR8 : ∀ x12 : Bool, Region.free .any opsMu2 #[true, true, true, true, true, true, true, true, false, false, false, x12, false, false] 8 = true ∧ (Region.ready .any opsMu2 #[true, true, true, true, true, true, true, true, false, false, false, x12, false, false]).contains 8 = true := by decide +kernel
 have FR9 : ∀ x12 : Bool, Region.free .any opsMu2 #[true, true, true, true, true, true, true, true, true, false, false, x12, false, false] 9 = true ∧ (Region.ready .any opsMu2 #[true, true, true, true, true, true, true, true, true, false, false, x12, false, false]).contains 9 = true := by decide +kernel
 have FR10 : ∀ x12 : Bool, Region.free .any opsMu2 #[true, true, true, true, true, true, true, true, true, true, false, x12, false, false] 10 = true ∧ (Region.ready .any opsMu2 #[true, true, true, true, true, true, true, true, true, true, false, x12, false, false]).contains 10 = true := by decide +kernel
 have key : ∀ (n : Nat) (o12 : Option Nat) (k26 : Option Value) (k29 : Option Value) (g30 : Option Nat) (r31 : Option (Value × Value)) (X : World), cnt o12 + cnt k26 + cnt k29 + cnt g30 + 4 * cnt r31 = n → Below W0.heap.size W0 X → ObP W0.heap.size X o12 → OIv X k26 z26 → OIv X k29 z29 → OSl X g30 z29 → OIv2 X r31 (z26 * z29) → wpAnyH Tryz.prog .any opsMu2 Q (fun X => Below W0.heap.size W0 X) (n + 2) #[true, true, k26.isSome, true, true, k29.isSome, g30.isSome, r31.isSome, r31.isSome, r31.isSome, r31.isSome, o12.isSome, false, false] ⟨#[u0, u1, u2, u3, .pointer (some ⟨b4, 0, none⟩), u5, .pointer (some ⟨b6, 0, none⟩), u7, u8, u9, .pointer (some ⟨b10, 0, none⟩), .pointer (some ⟨b11, 0, none⟩), optP Gc o12, Gz, Gr, Ge, G4, Gl, Gy, G6, Gv, Gs, Gn, optT J3 r31, .agg #[.bool s4, .slice a4 m4 c4], .agg #[.bool s10, .slice a10 m10 c10], optV J2 k26, .agg #[.bool s6, .slice a6 m6 c6], .agg #[.bool s11, .slice a11 m11 c11], optV Gf k29, optS J6 g30, optT Gx r31, optA Gp r31, optE Gu r31, Gb, Gg, J0, J5, G0, G8, Gk, J4, G9, Gq, G1, J7, G2, Gj, Gm, G7, G5, Go, G3, J1, Gh, Gw], dd⟩ X := by
  intro n
  induction n using Nat.strongRecOn with
  | ind n ih =>
  intro o12 k26 k29 g30 r31 X hc hB hO12 hV26 hV29 hV30 hV31
  rcases Nat.eq_zero_or_pos n with h0 | h0
  ·subst h0
   clear ih
   obtain ⟨t12, rfl⟩ := cnt_some (o := o12) (by omega)
   obtain ⟨v26, rfl⟩ := cnt_some (o := k26) (by omega)
   obtain ⟨v29, rfl⟩ := cnt_some (o := k29) (by omega)
   obtain ⟨v30, rfl⟩ := cnt_some (o := g30) (by omega)
   obtain ⟨v31, rfl⟩ := cnt_some (o := r31) (by omega)
   obtain ⟨L12, T12⟩ := hO12 t12 rfl
   obtain ⟨s26v, a26v, m26v, c26v, rfl, hi26⟩ := hV26 _ rfl
   obtain ⟨s29v, a29v, m29v, c29v, rfl, hi29⟩ := hV29 _ rfl
   obtain ⟨s31v, a31v, m31v, c31v, rfl, hi31⟩ := hV31 _ rfl
   have hi32 := hi31
   clear hO12 hV26 hV29 hV30 hV31 hc
   simp only [optP, optV, optS, optT, optA, optE, Option.isSome]
   refine wpAnyH_ready (rs := [12]) (by kernel_rfl) (by simp) ?_
   obtain ⟨_, _, _, _, l12, _⟩ := id T12
   obtain ⟨r0, r1, r2, r3⟩ := cells2 l12
   refine AllReadyH.cons (o := ⟨none, Op.store 32 (.tmp 12) (.tmp 32), 0, "frac.go:78", #[⟨11, .data⟩, ⟨9, .data⟩, ⟨7, .chain⟩, ⟨0, .phase⟩, ⟨1, .phase⟩, ⟨2, .phase⟩, ⟨3, .phase⟩, ⟨4, .phase⟩, ⟨5, .phase⟩, ⟨6, .phase⟩, ⟨7, .phase⟩, ⟨8, .phase⟩, ⟨9, .phase⟩, ⟨10, .textOnly .lateStores⟩, ⟨11, .phase⟩], none⟩) rfl (fun K hK => ?_) AllReadyH.nil
   go_simp
   refine hK.out _ _ ?_ (fun hHeld => ?_)
   ·exact below_set2 hB L12
   clear hK K r0 r1 r2 r3 hHeld
   try simp only [List.setIfInBounds_toArray, List.set_cons_zero, List.set_cons_succ]
   have T12y1 := T12.store (s := s31v) (a := a31v) (m := m31v) (c := c31v) hi32
   have hBy1 := below_set2 (p := t12) (u := .bool s31v) (v := .slice a31v m31v c31v) hB L12
   clear l12 hB T12 hi32
   generalize (X.setCell ⟨t12, 0, none⟩ (.bool s31v)).setCell ⟨t12, 1, none⟩ (.slice a31v m31v c31v) = Y1 at *
   refine wpAnyH_ready (rs := [13]) (by kernel_rfl) (by simp) ?_
   refine AllReadyH.cons (o := ⟨some 13, Op.assign (.tmp 33), 41, "frac.go:78", #[⟨10, .data⟩, ⟨12, .chain⟩, ⟨0, .phase⟩, ⟨1, .phase⟩, ⟨2, .phase⟩, ⟨3, .phase⟩, ⟨4, .phase⟩, ⟨5, .phase⟩, ⟨6, .phase⟩, ⟨7, .phase⟩, ⟨8, .phase⟩, ⟨9, .phase⟩, ⟨10, .phase⟩, ⟨11, .phase⟩, ⟨12, .phase⟩], none⟩) rfl (fun K hK => ?_) AllReadyH.nil
   go_simp
   refine hK.out _ _ hBy1 (fun hHeld => ?_)
   clear hK K hHeld
   try simp only [List.setIfInBounds_toArray, List.set_cons_zero, List.set_cons_succ]
   refine wpAnyH_done (by kernel_rfl) ?_ _
   exact leaf Y1 t12 _ _ _ _ _ _ (Lib.hid hBy1) (Lib.hid T12y1) L12
  ·refine wpAnyH_more (ops := opsMu2) (RNE _ _ _ _ _) h0 (fun m hm i hi => ?_)
   have hcase := List.all_eq_true.1 (RDY _ _ _ _ _) i hi
   simp only [Bool.or_eq_true, Bool.and_eq_true, beq_iff_eq, Bool.not_eq_true'] at hcase
   clear hi h0
   rcases hcase with ⟨rfl, hb⟩ | ⟨rfl, hb⟩ | ⟨rfl, hb, g0⟩ | ⟨rfl, hb, g0⟩ | ⟨rfl, hb, g0, g1, g2⟩ | ⟨rfl, e0, e1, e2, e3, e4⟩
   ·obtain rfl := not_some hb
    refine (AllReadyH.cons (o := ⟨some 12, Op.alloc 32, 0, "frac.go:78", #[], none⟩) rfl (fun K hK => ?_) AllReadyH.nil) 11 (List.mem_singleton.2 rfl)
    go_simp
    have hb1 := below_one X (.cells #[.bool false, .slice none 0 0] 32)
    refine hK.out _ _ ?_ (fun hHeld => ?_)
    ·exact below_then hB hb1
    clear hK K
    try simp only [List.setIfInBounds_toArray, List.set_cons_zero, List.set_cons_succ]
    subst hm
    exact ih m (by omega) (some X.heap.size) k26 k29 g30 r31 _ (by simp only [cnt, Option.isSome] at hc ⊢; simp at hc ⊢; omega) (below_then hB hb1) (obp_new hB) (hV26.below hb1) (hV29.below hb1) (hV30.below hb1) (hV31.below hb1)
   ·obtain rfl := not_some hb
    have C := C26.out X hB
    unfold IEnd at C
    have HC := Lib.hid C
    clear C
    refine (AllReadyH.cons (o := ⟨some 26, Op.call ⟨.value (.func 42), #[.tmp 24, .tmp 25], #[32, 32]⟩, 32, "frac.go:78", #[⟨0, .data⟩, ⟨1, .data⟩], none⟩) rfl (fun K hK => ?_) AllReadyH.nil) 2 (List.mem_singleton.2 rfl)
    go_simp
    go_at_call 42
    refine HC.out.mono ?_
    rintro e w5 ⟨b5, a5, m5, k5, rfl, hx5, hb5⟩
    go_wp2_with fail
    refine hK.out _ _ ?_ (fun hHeld => ?_)
    ·exact below_then hB hb5
    clear hK K
    try simp only [List.setIfInBounds_toArray, List.set_cons_zero, List.set_cons_succ]
    subst hm
    exact ih m (by omega) o12 (some (.agg #[.bool b5, .slice a5 m5 k5])) k29 g30 r31 _ (by simp only [cnt, Option.isSome] at hc ⊢; simp at hc ⊢; omega) (below_then hB hb5) (hO12.below hb5) (oiv_new hx5) (hV29.below hb5) (hV30.below hb5) (hV31.below hb5)
   ·obtain rfl := not_some hb
    obtain ⟨w26, rfl⟩ := is_some g0
    have C := C29.out X hB
    unfold IEnd at C
    have HC := Lib.hid C
    clear C
    refine (AllReadyH.cons (o := ⟨some 29, Op.call ⟨.value (.func 42), #[.tmp 27, .tmp 28], #[32, 32]⟩, 32, "frac.go:78", #[⟨3, .data⟩, ⟨4, .data⟩, ⟨2, .chain⟩], none⟩) rfl (fun K hK => ?_) AllReadyH.nil) 5 (List.mem_singleton.2 rfl)
    go_simp
    go_at_call 42
    refine HC.out.mono ?_
    rintro e w5 ⟨b5, a5, m5, k5, rfl, hx5, hb5⟩
    go_wp2_with fail
    refine hK.out _ _ ?_ (fun hHeld => ?_)
    ·exact below_then hB hb5
    clear hK K
    try simp only [List.setIfInBounds_toArray, List.set_cons_zero, List.set_cons_succ]
    subst hm
    exact ih m (by omega) o12 (some _) (some (.agg #[.bool b5, .slice a5 m5 k5])) g30 r31 _ (by simp only [cnt, Option.isSome] at hc ⊢; simp at hc ⊢; omega) (below_then hB hb5) (hO12.below hb5) (hV26.below hb5) (oiv_new hx5) (hV30.below hb5) (hV31.below hb5)
   ·obtain rfl := not_some hb
    obtain ⟨w29, rfl⟩ := is_some g0
    obtain ⟨sb, ab, mb, cb, rfl, hib⟩ := hV29 _ rfl
    have hb1 := below_one X (.cells #[.bool sb, .slice ab mb cb] 32)
    simp only [optV]
    refine (AllReadyH.cons (o := ⟨some 30, Op.buildSlice 108 1 #[(0, .tmp 29)], 108, "frac.go:78", #[⟨5, .data⟩], none⟩) rfl (fun K hK => ?_) AllReadyH.nil) 6 (List.mem_singleton.2 rfl)
    go_simp
    refine hK.out _ _ ?_ (fun hHeld => ?_)
    ·exact below_then hB hb1
    clear hK K
    try simp only [List.setIfInBounds_toArray, List.set_cons_zero, List.set_cons_succ]
    subst hm
    exact ih m (by omega) o12 k26 (some _) (some X.heap.size) r31 _ (by simp only [cnt, Option.isSome] at hc ⊢; simp at hc ⊢; omega) (below_then hB hb1) (hO12.below hb1) (hV26.below hb1) (hV29.below hb1) (osl_new hib) (hV31.below hb1)
   ·obtain rfl := not_some hb
    obtain ⟨w26, rfl⟩ := is_some g0
    obtain ⟨w29, rfl⟩ := is_some g1
    obtain ⟨w30, rfl⟩ := is_some g2
    obtain ⟨sb, ab, mb, cb, rfl, hib⟩ := hV26 _ rfl
    obtain ⟨hgl, sg, ag, mg, cg, hg0, hg1, hig⟩ := hV30 _ rfl
    have HC := Lib.hid (C31.out X _ _ _ _ _ _ hB hib hig hgl hg0 hg1)
    simp only [optV, optS]
    refine (AllReadyH.cons (o := ⟨some 31, Op.call ⟨.value (.func 36), #[.tmp 26, .tmp 30], #[32, 108]⟩, 44, "frac.go:78", #[⟨2, .data⟩, ⟨6, .data⟩, ⟨5, .chain⟩], none⟩) rfl (fun K hK => ?_) AllReadyH.nil) 7 (List.mem_singleton.2 rfl)
    go_simp
    go_at_call 36
    refine HC.out.mono ?_
    rintro e w5 hw5
    obtain ⟨b5, a5, m5, k5, c5, rfl, hr5, hb5⟩ := rend_form hw5
    obtain ⟨rfl, hx5⟩ := rend_limF hr5
    go_wp2_with fail
    refine hK.out _ _ ?_ (fun hHeld => ?_)
    ·exact below_then hB hb5
    clear hK K
    try simp only [List.setIfInBounds_toArray, List.set_cons_zero, List.set_cons_succ]
    subst hm
    obtain ⟨m, rfl⟩ : ∃ m2, m = m2 + 3 := ⟨m - 3, by simp only [cnt, Option.isSome] at hc; simp at hc; omega⟩
    refine wpAnyH_take (i := 8) (oi := ⟨some 23, Op.move (.tmp 31), 44, "frac.go:78", #[⟨7, .data⟩], none⟩) (v := ?_) rfl (by kernel_rfl) (FR8 _).1 (FR8 _).2 (fun c a w => hQ c a _ _ w) (Or.inl ⟨by rfl, ?_⟩) (by assumption) ?_
    rotate_left
    ·(intro wq hSw; go_simp; try with_reducible rfl)
    try simp only [Act.put, List.setIfInBounds_toArray, List.set_cons_zero, List.set_cons_succ]
    refine wpAnyH_take (i := 9) (oi := ⟨some 32, Op.extract (.tmp 23) 0, 32, "frac.go:78", #[⟨8, .data⟩], none⟩) (v := ?_) rfl (by kernel_rfl) (FR9 _).1 (FR9 _).2 (fun c a w => hQ c a _ _ w) (Or.inl ⟨by rfl, ?_⟩) (by assumption) ?_
    rotate_left
    ·(intro wq hSw; go_simp; try with_reducible rfl)
    try simp only [Act.put, List.setIfInBounds_toArray, List.set_cons_zero, List.set_cons_succ]
    refine wpAnyH_take (i := 10) (oi := ⟨some 33, Op.extract (.tmp 23) 1, 41, "frac.go:78", #[⟨8, .data⟩, ⟨12, .gcOnly .lateStores⟩], none⟩) (v := ?_) rfl (by kernel_rfl) (FR10 _).1 (FR10 _).2 (fun c a w => hQ c a _ _ w) (Or.inl ⟨by rfl, ?_⟩) (by assumption) ?_
    rotate_left
    ·(intro wq hSw; go_simp; try with_reducible rfl)
    try simp only [Act.put, List.setIfInBounds_toArray, List.set_cons_zero, List.set_cons_succ]
    exact ih m (by omega) o12 (some _) (some _) (some _) (some (.agg #[.bool b5, .slice a5 m5 k5], .int .i64 (ecF (z26 * z29)))) _ (by simp only [cnt, Option.isSome] at hc ⊢; simp at hc ⊢; omega) (below_then hB hb5) (hO12.below hb5) (hV26.below hb5) (hV29.below hb5) (hV30.below hb5) (oiv2_new hx5)
   ·exfalso
    simp only [cnt, e0, e1, e2, e3, e4] at hc
    simp at hc
    omega
 refine wp_region_held_drew (S := fun X => Below W0.heap.size W0 X) (by kernel_rfl) (Below.refl _ _).drew (fun hHeld => ?_)
 refine wpAnyH_take (i := 0) (oi := ⟨some 24, Op.load 32 (.tmp 4), 32, "frac.go:78", #[], none⟩) (v := ?_) rfl (by kernel_rfl) (by kernel_rfl) (by kernel_rfl) (fun c a w => hQ c a _ _ w) (Or.inl ⟨by rfl, ?_⟩) (by assumption) ?_
 rotate_left
 ·(intro wq hSw; have hLD := LD.out wq hSw; obtain ⟨f0, f1, f2, f3, f4, f5, f6, f7⟩ := hLD; go_simp; try with_reducible rfl)
 try simp only [Act.put, List.setIfInBounds_toArray, List.set_cons_zero, List.set_cons_succ]
 refine wpAnyH_take (i := 1) (oi := ⟨some 25, Op.load 32 (.tmp 10), 32, "frac.go:78", #[], none⟩) (v := ?_) rfl (by kernel_rfl) (by kernel_rfl) (by kernel_rfl) (fun c a w => hQ c a _ _ w) (Or.inl ⟨by rfl, ?_⟩) (by assumption) ?_
 rotate_left
 ·(intro wq hSw; have hLD := LD.out wq hSw; obtain ⟨f0, f1, f2, f3, f4, f5, f6, f7⟩ := hLD; go_simp; try with_reducible rfl)
 try simp only [Act.put, List.setIfInBounds_toArray, List.set_cons_zero, List.set_cons_succ]
 refine wpAnyH_take (i := 3) (oi := ⟨some 27, Op.load 32 (.tmp 6), 32, "frac.go:78", #[], none⟩) (v := ?_) rfl (by kernel_rfl) (by kernel_rfl) (by kernel_rfl) (fun c a w => hQ c a _ _ w) (Or.inl ⟨by rfl, ?_⟩) (by assumption) ?_
 rotate_left
 ·(intro wq hSw; have hLD := LD.out wq hSw; obtain ⟨f0, f1, f2, f3, f4, f5, f6, f7⟩ := hLD; go_simp; try with_reducible rfl)
 try simp only [Act.put, List.setIfInBounds_toArray, List.set_cons_zero, List.set_cons_succ]
 refine wpAnyH_take (i := 4) (oi := ⟨some 28, Op.load 32 (.tmp 11), 32, "frac.go:78", #[], none⟩) (v := ?_) rfl (by kernel_rfl) (by kernel_rfl) (by kernel_rfl) (fun c a w => hQ c a _ _ w) (Or.inl ⟨by rfl, ?_⟩) (by assumption) ?_
 rotate_left
 ·(intro wq hSw; have hLD := LD.out wq hSw; obtain ⟨f0, f1, f2, f3, f4, f5, f6, f7⟩ := hLD; go_simp; try with_reducible rfl)
 try simp only [Act.put, List.setIfInBounds_toArray, List.set_cons_zero, List.set_cons_succ]
 exact key _ none none none none none _ rfl (Below.refl _ _).drew obp_none oiv_none oiv_none osl_none oiv2_none
def opsMu3 : Array Oper := #[⟨some 35, Op.load 32 (.tmp 5), 32, "frac.go:79", #[], none⟩,
 ⟨some 36, Op.load 32 (.tmp 11), 32, "frac.go:79", #[], none⟩,
 ⟨some 37, Op.call ⟨.value (.func 42), #[.tmp 35, .tmp 36], #[32, 32]⟩, 32, "frac.go:79", #[⟨0, .data⟩, ⟨1, .data⟩], none⟩,
 ⟨some 38, Op.load 32 (.tmp 7), 32, "frac.go:79", #[], none⟩,
 ⟨some 39, Op.load 32 (.tmp 10), 32, "frac.go:79", #[], none⟩,
 ⟨some 40, Op.call ⟨.value (.func 42), #[.tmp 38, .tmp 39], #[32, 32]⟩, 32, "frac.go:79", #[⟨3, .data⟩, ⟨4, .data⟩, ⟨2, .chain⟩], none⟩,
 ⟨some 41, Op.buildSlice 108 1 #[(0, .tmp 40)], 108, "frac.go:79", #[⟨5, .data⟩], none⟩,
 ⟨some 42, Op.call ⟨.value (.func 36), #[.tmp 37, .tmp 41], #[32, 108]⟩, 44, "frac.go:79", #[⟨2, .data⟩, ⟨6, .data⟩, ⟨5, .chain⟩], none⟩,
 ⟨some 34, Op.move (.tmp 42), 44, "frac.go:79", #[⟨7, .data⟩], none⟩,
 ⟨some 43, Op.extract (.tmp 34) 0, 32, "frac.go:79", #[⟨8, .data⟩], none⟩,
 ⟨some 44, Op.extract (.tmp 34) 1, 41, "frac.go:79", #[⟨8, .data⟩, ⟨12, .gcOnly .lateStores⟩], none⟩,
 ⟨some 14, Op.alloc 32, 0, "frac.go:79", #[], none⟩,
 ⟨none, Op.store 32 (.tmp 14) (.tmp 43), 0, "frac.go:79", #[⟨11, .data⟩, ⟨9, .data⟩, ⟨7, .chain⟩, ⟨0, .phase⟩, ⟨1, .phase⟩, ⟨2, .phase⟩, ⟨3, .phase⟩, ⟨4, .phase⟩, ⟨5, .phase⟩, ⟨6, .phase⟩, ⟨7, .phase⟩, ⟨8, .phase⟩, ⟨9, .phase⟩, ⟨10, .textOnly .lateStores⟩, ⟨11, .phase⟩], none⟩,
 ⟨some 15, Op.assign (.tmp 44), 41, "frac.go:79", #[⟨10, .data⟩, ⟨12, .chain⟩, ⟨0, .phase⟩, ⟨1, .phase⟩, ⟨2, .phase⟩, ⟨3, .phase⟩, ⟨4, .phase⟩, ⟨5, .phase⟩, ⟨6, .phase⟩, ⟨7, .phase⟩, ⟨8, .phase⟩, ⟨9, .phase⟩, ⟨10, .phase⟩, ⟨11, .phase⟩, ⟨12, .phase⟩], none⟩]
set_option maxHeartbeats 8000000 in
theorem regMu3 {Q : Exit → Act → World → Prop} (hQ : ∀ c a d v w, Q (.panic c) (Act.put a (some d) v) w → Q (.panic c) a w) {W0 : World} {dd : List Deferred} {u0 u1 u2 u3 u4 u6 u8 u9 Gc J0 Gs Ge G4 Gl Gz G5 Gw Gt Gn J4 Ga Gi J3 Gd Gu Gf J7 Gy Gp Gv Gb Gg J1 J6 G0 G7 Gk J5 G8 Gq G1 Gr G2 Gj Gm G6 G9 Go G3 J2 Gh Gx : Value} {b5 : Nat} {s5 : Bool} {a5 : Option Addr} {m5 c5 : Nat} {b11 : Nat} {s11 : Bool} {a11 : Option Addr} {m11 c11 : Nat} {b7 : Nat} {s7 : Bool} {a7 : Option Addr} {m7 c7 : Nat} {b10 : Nat} {s10 : Bool} {a10 : Option Addr} {m10 c10 : Nat} {z37 z40 : Int}
  (LD : Hid (∀ X : World, Below W0.heap.size W0 X → X.cell? ⟨b5, 0, none⟩ = some (.bool s5) ∧ X.cell? ⟨b5, 1, none⟩ = some (.slice a5 m5 c5) ∧ X.cell? ⟨b11, 0, none⟩ = some (.bool s11) ∧ X.cell? ⟨b11, 1, none⟩ = some (.slice a11 m11 c11) ∧ X.cell? ⟨b7, 0, none⟩ = some (.bool s7) ∧ X.cell? ⟨b7, 1, none⟩ = some (.slice a7 m7 c7) ∧ X.cell? ⟨b10, 0, none⟩ = some (.bool s10) ∧ X.cell? ⟨b10, 1, none⟩ = some (.slice a10 m10 c10)))
  (C37 : Hid (∀ X, Below W0.heap.size W0 X → Calls Tryz.prog 42 #[.agg #[.bool s5, .slice a5 m5 c5], .agg #[.bool s11, .slice a11 m11 c11]] X (IEnd z37 X)))
  (C40 : Hid (∀ X, Below W0.heap.size W0 X → Calls Tryz.prog 42 #[.agg #[.bool s7, .slice a7 m7 c7], .agg #[.bool s10, .slice a10 m10 c10]] X (IEnd z40 X)))
  (C42 : Hid (∀ X u g s a m c, Below W0.heap.size W0 X → IAt X u z37 → IAt X (.agg #[.bool s, .slice a m c]) z40 → g < X.heap.size → X.cell? ⟨g, 0, none⟩ = some (.bool s) → X.cell? ⟨g, 1, none⟩ = some (.slice a m c) → Calls Tryz.prog 36 #[u, .slice (some ⟨g, 0, none⟩) 1 1] X (REndW (z37 * z40) X)))
  (leaf : ∀ (X : World) (t14 : Nat) (v37 v40 v41 v42 v34 v43 : Value), Hid (Below W0.heap.size W0 X) → Hid (IBox X t14 (limF (z37 * z40))) → W0.heap.size ≤ t14 → Q .normal ⟨#[u0, u1, u2, u3, u4, .pointer (some ⟨b5, 0, none⟩), u6, .pointer (some ⟨b7, 0, none⟩), u8, u9, .pointer (some ⟨b10, 0, none⟩), .pointer (some ⟨b11, 0, none⟩), Gc, J0, .pointer (some ⟨t14, 0, none⟩), .int .i64 (ecF (z37 * z40)), G4, Gl, Gz, G5, Gw, Gt, Gn, J4, Ga, Gi, J3, Gd, Gu, Gf, J7, Gy, Gp, Gv, v34, .agg #[.bool s5, .slice a5 m5 c5], .agg #[.bool s11, .slice a11 m11 c11], v37, .agg #[.bool s7, .slice a7 m7 c7], .agg #[.bool s10, .slice a10 m10 c10], v40, v41, v42, v43, .int .i64 (ecF (z37 * z40)), Gr, G2, Gj, Gm, G6, G9, Go, G3, J2, Gh, Gx], dd⟩ X) :
  (Code.region 3 opsMu3 true).wp Tryz.prog Q ⟨#[u0, u1, u2, u3, u4, .pointer (some ⟨b5, 0, none⟩), u6, .pointer (some ⟨b7, 0, none⟩), u8, u9, .pointer (some ⟨b10, 0, none⟩), .pointer (some ⟨b11, 0, none⟩), Gc, J0, Gs, Ge, G4, Gl, Gz, G5, Gw, Gt, Gn, J4, Ga, Gi, J3, Gd, Gu, Gf, J7, Gy, Gp, Gv, Gb, Gg, J1, J6, G0, G7, Gk, J5, G8, Gq, G1, Gr, G2, Gj, Gm, G6, G9, Go, G3, J2, Gh, Gx], dd⟩ W0 := by
 have RDY : ∀ x14 x37 x40 x41 x42 : Bool, ((Region.ready .any opsMu3 #[true, true, x37, true, true, x40, x41, x42, x42, x42, x42, x14, false, false]).all fun i => (i == 11 && !x14) || ((i == 2 && (!x37)) || ((i == 5 && (!x40 && (x37))) || ((i == 6 && (!x41 && (x40))) || ((i == 7 && (!x42 && (x37 && (x40 && (x41))))) || ((i == 12 && (x14 && (x37 && (x40 && (x41 && (x42)))))))))))) = true := by decide +kernel
 have RNE : ∀ x14 x37 x40 x41 x42 : Bool, Region.ready .any opsMu3 #[true, true, x37, true, true, x40, x41, x42, x42, x42, x42, x14, false, false] ≠ [] := by decide +kernel
 have FR8 : ∀ x14 : Bool, Region.free .any opsMu3 #[true, true, true, true, true, true, true, true, false, false, false, x14, false, false] 8 = true ∧ (Region.ready .any opsMu3 #[true, true, true, true, true, true, true, true, false, false, false, x14, false, false]).contains 8 = true := by decide +kernel
 have FR9 : ∀ x14 : Bool, Region.free .any opsMu3 #[true, true, true, true, true, true, true, true, true, false, false, x14, false, false] 9 = true ∧ (Region.ready .any opsMu3 #[true, true, true, true, true, true, true, true, true, false, false, x14, false, false]).contains 9 = true := by decide +kernel
 have FR10 : ∀ x14 : Bool, Region.free .any opsMu3 #[true, true, true, true, true, true, true, true, true, true, false, x14, false, false] 10 = true ∧ (Region.ready .any opsMu3 #[true, true, true, true, true, true, true, true, true, true, false, x14, false, false]).contains 10 = true := by decide +kernel
 have key : ∀ (n : Nat) (o14 : Option Nat) (k37 : Option Value) (k40 : Option Value) (g41 : Option Nat) (r42 : Option (Value × Value)) (X : World), cnt o14 + cnt k37 + cnt k40 + cnt g41 + 4 * cnt r42 = n → Below W0.heap.size W0 X → ObP W0.heap.size X o14 → OIv X k37 z37 → OIv X k40 z40 → OSl X g41 z40 → OIv2 X r42 (z37 * z40) → wpAnyH Tryz.prog .any opsMu3 Q (fun X => Below W0.heap.size W0 X) (n + 2) #[true, true, k37.isSome, true, true, k40.isSome, g41.isSome, r42.isSome, r42.isSome, r42.isSome, r42.isSome, o14.isSome, false, false] ⟨#[u0, u1, u2, u3, u4, .pointer (some ⟨b5, 0, none⟩), u6, .pointer (some ⟨b7, 0, none⟩), u8, u9, .pointer (some ⟨b10, 0, none⟩), .pointer (some ⟨b11, 0, none⟩), Gc, J0, optP Gs o14, Ge, G4, Gl, Gz, G5, Gw, Gt, Gn, J4, Ga, Gi, J3, Gd, Gu, Gf, J7, Gy, Gp, Gv, optT Gb r42, .agg #[.bool s5, .slice a5 m5 c5], .agg #[.bool s11, .slice a11 m11 c11], optV J6 k37, .agg #[.bool s7, .slice a7 m7 c7], .agg #[.bool s10, .slice a10 m10 c10], optV Gk k40, optS J5 g41, optT G8 r42, optA Gq r42, optE G1 r42, Gr, G2, Gj, Gm, G6, G9, Go, G3, J2, Gh, Gx], dd⟩ X := by
  intro n
  induction n using Nat.strongRecOn with
  | ind n ih =>
  intro o14 k37 k40 g41 r42 X hc hB hO14 hV37 hV40 hV41 hV42
  rcases Nat.eq_zero_or_pos n with h0 | h0
  ·subst h0
   clear ih
   obtain ⟨t14, rfl⟩ := cnt_some (o := o14) (by omega)
   obtain ⟨v37, rfl⟩ := cnt_some (o := k37) (by omega)
   obtain ⟨v40, rfl⟩ := cnt_some (o := k40) (by omega)
   obtain ⟨v41, rfl⟩ := cnt_some (o := g41) (by omega)
   obtain ⟨v42, rfl⟩ := cnt_some (o := r42) (by omega)
   obtain ⟨L14, T14⟩ := hO14 t14 rfl
   obtain ⟨s37v, a37v, m37v, c37v, rfl, hi37⟩ := hV37 _ rfl
   obtain ⟨s40v, a40v, m40v, c40v, rfl, hi40⟩ := hV40 _ rfl
   obtain ⟨s42v, a42v, m42v, c42v, rfl, hi42⟩ := hV42 _ rfl
   have hi43 := hi42
   clear hO14 hV37 hV40 hV41 hV42 hc
   simp only [optP, optV, optS, optT, optA, optE, Option.isSome]
   refine wpAnyH_ready (rs := [12]) (by kernel_rfl) (by simp) ?_
   obtain ⟨_, _, _, _, l14, _⟩ := id T14
   obtain ⟨r0, r1, r2, r3⟩ := cells2 l14
   refine AllReadyH.cons (o := ⟨none, Op.store 32 (.tmp 14) (.tmp 43), 0, "frac.go:79", #[⟨11, .data⟩, ⟨9, .data⟩, ⟨7, .chain⟩, ⟨0, .phase⟩, ⟨1, .phase⟩, ⟨2, .phase⟩, ⟨3, .phase⟩, ⟨4, .phase⟩, ⟨5, .phase⟩, ⟨6, .phase⟩, ⟨7, .phase⟩, ⟨8, .phase⟩, ⟨9, .phase⟩, ⟨10, .textOnly .lateStores⟩, ⟨11, .phase⟩], none⟩) rfl (fun K hK => ?_) AllReadyH.nil
   go_simp
   refine hK.out _ _ ?_ (fun hHeld => ?_)
   ·exact below_set2 hB L14
   clear hK K r0 r1 r2 r3 hHeld
   try simp only [List.setIfInBounds_toArray, List.set_cons_zero, List.set_cons_succ]
   have T14y1 := T14.store (s := s42v) (a := a42v) (m := m42v) (c := c42v) hi43
   have hBy1 := below_set2 (p := t14) (u := .bool s42v) (v := .slice a42v m42v c42v) hB L14
   clear l14 hB T14 hi43
   generalize (X.setCell ⟨t14, 0, none⟩ (.bool s42v)).setCell ⟨t14, 1, none⟩ (.slice a42v m42v c42v) = Y1 at *
   refine wpAnyH_ready (rs := [13]) (by kernel_rfl) (by simp) ?_
   refine AllReadyH.cons (o := ⟨some 15, Op.assign (.tmp 44), 41, "frac.go:79", #[⟨10, .data⟩, ⟨12, .chain⟩, ⟨0, .phase⟩, ⟨1, .phase⟩, ⟨2, .phase⟩, ⟨3, .phase⟩, ⟨4, .phase⟩, ⟨5, .phase⟩, ⟨6, .phase⟩, ⟨7, .phase⟩, ⟨8, .phase⟩, ⟨9, .phase⟩, ⟨10, .phase⟩, ⟨11, .phase⟩, ⟨12, .phase⟩], none⟩) rfl (fun K hK => ?_) AllReadyH.nil
   go_simp
   refine hK.out _ _ hBy1 (fun hHeld => ?_)
   clear hK K hHeld
   try simp only [List.setIfInBounds_toArray, List.set_cons_zero, List.set_cons_succ]
   refine wpAnyH_done (by kernel_rfl) ?_ _
   exact leaf Y1 t14 _ _ _ _ _ _ (Lib.hid hBy1) (Lib.hid T14y1) L14
  ·refine wpAnyH_more (ops := opsMu3) (RNE _ _ _ _ _) h0 (fun m hm i hi => ?_)
   have hcase := List.all_eq_true.1 (RDY _ _ _ _ _) i hi
   simp only [Bool.or_eq_true, Bool.and_eq_true, beq_iff_eq, Bool.not_eq_true'] at hcase
   clear hi h0
   rcases hcase with ⟨rfl, hb⟩ | ⟨rfl, hb⟩ | ⟨rfl, hb, g0⟩ | ⟨rfl, hb, g0⟩ | ⟨rfl, hb, g0, g1, g2⟩ | ⟨rfl, e0, e1, e2, e3, e4⟩
   ·obtain rfl := not_some hb
    refine (AllReadyH.cons (o := ⟨some 14, Op.alloc 32, 0, "frac.go:79", #[], none⟩) rfl (fun K hK => ?_) AllReadyH.nil) 11 (List.mem_singleton.2 rfl)
    go_simp
    have hb1 := below_one X (.cells #[.bool false, .slice none 0 0] 32)
    refine hK.out _ _ ?_ (fun hHeld => ?_)
    ·exact below_then hB hb1
    clear hK K
    try simp only [List.setIfInBounds_toArray, List.set_cons_zero, List.set_cons_succ]
    subst hm
    exact ih m (by omega) (some X.heap.size) k37 k40 g41 r42 _ (by simp only [cnt, Option.isSome] at hc ⊢; simp at hc ⊢; omega) (below_then hB hb1) (obp_new hB) (hV37.below hb1) (hV40.below hb1) (hV41.below hb1) (hV42.below hb1)
   ·obtain rfl := not_some hb
    have C := C37.out X hB
    unfold IEnd at C
    have HC := Lib.hid C
    clear C
    refine (AllReadyH.cons (o := ⟨some 37, Op.call ⟨.value (.func 42), #[.tmp 35, .tmp 36], #[32, 32]⟩, 32, "frac.go:79", #[⟨0, .data⟩, ⟨1, .data⟩], none⟩) rfl (fun K hK => ?_) AllReadyH.nil) 2 (List.mem_singleton.2 rfl)
    go_simp
    go_at_call 42
    refine HC.out.mono ?_
    rintro e w5 ⟨b5, a5, m5, k5, rfl, hx5, hb5⟩
    go_wp2_with fail
    refine hK.out _ _ ?_ (fun hHeld => ?_)
    ·exact below_then hB hb5
    clear hK K
    try simp only [List.setIfInBounds_toArray, List.set_cons_zero, List.set_cons_succ]
    subst hm
    exact ih m (by omega) o14 (some (.agg #[.bool b5, .slice a5 m5 k5])) k40 g41 r42 _ (by simp only [cnt, Option.isSome] at hc ⊢; simp at hc ⊢; omega) (below_then hB hb5) (hO14.below hb5) (oiv_new hx5) (hV40.below hb5) (hV41.below hb5) (hV42.below hb5)
   ·obtain rfl := not_some hb
    obtain ⟨w37, rfl⟩ := is_some g0
    have C := C40.out X hB
    unfold IEnd at C
    have HC := Lib.hid C
    clear C
    refine (AllReadyH.cons (o := ⟨some 40, Op.call ⟨.value (.func 42), #[.tmp 38, .tmp 39], #[32, 32]⟩, 32, "frac.go:79", #[⟨3, .data⟩, ⟨4, .data⟩, ⟨2, .chain⟩], none⟩) rfl (fun K hK => ?_) AllReadyH.nil) 5 (List.mem_singleton.2 rfl)
    go_simp
    go_at_call 42
    refine HC.out.mono ?_
    rintro e w5 ⟨b5, a5, m5, k5, rfl, hx5, hb5⟩
    go_wp2_with fail
    refine hK.out _ _ ?_ (fun hHeld => ?_)
    ·exact below_then hB hb5
    clear hK K
    try simp only [List.setIfInBounds_toArray, List.set_cons_zero, List.set_cons_succ]
    subst hm
    exact ih m (by omega) o14 (some _) (some (.agg #[.bool b5, .slice a5 m5 k5])) g41 r42 _ (by simp only [cnt, Option.isSome] at hc ⊢; simp at hc ⊢; omega) (below_then hB hb5) (hO14.below hb5) (hV37.below hb5) (oiv_new hx5) (hV41.below hb5) (hV42.below hb5)
   ·obtain rfl := not_some hb
    obtain ⟨w40, rfl⟩ := is_some g0
    obtain ⟨sb, ab, mb, cb, rfl, hib⟩ := hV40 _ rfl
    have hb1 := below_one X (.cells #[.bool sb, .slice ab mb cb] 32)
    simp only [optV]
    refine (AllReadyH.cons (o := ⟨some 41, Op.buildSlice 108 1 #[(0, .tmp 40)], 108, "frac.go:79", #[⟨5, .data⟩], none⟩) rfl (fun K hK => ?_) AllReadyH.nil) 6 (List.mem_singleton.2 rfl)
    go_simp
    refine hK.out _ _ ?_ (fun hHeld => ?_)
    ·exact below_then hB hb1
    clear hK K
    try simp only [List.setIfInBounds_toArray, List.set_cons_zero, List.set_cons_succ]
    subst hm
    exact ih m (by omega) o14 k37 (some _) (some X.heap.size) r42 _ (by simp only [cnt, Option.isSome] at hc ⊢; simp at hc ⊢; omega) (below_then hB hb1) (hO14.below hb1) (hV37.below hb1) (hV40.below hb1) (osl_new hib) (hV42.below hb1)
   ·obtain rfl := not_some hb
    obtain ⟨w37, rfl⟩ := is_some g0
    obtain ⟨w40, rfl⟩ := is_some g1
    obtain ⟨w41, rfl⟩ := is_some g2
    obtain ⟨sb, ab, mb, cb, rfl, hib⟩ := hV37 _ rfl
    obtain ⟨hgl, sg, ag, mg, cg, hg0, hg1, hig⟩ := hV41 _ rfl
    have HC := Lib.hid (C42.out X _ _ _ _ _ _ hB hib hig hgl hg0 hg1)
    simp only [optV, optS]
    refine (AllReadyH.cons (o := ⟨some 42, Op.call ⟨.value (.func 36), #[.tmp 37, .tmp 41], #[32, 108]⟩, 44, "frac.go:79", #[⟨2, .data⟩, ⟨6, .data⟩, ⟨5, .chain⟩], none⟩) rfl (fun K hK => ?_) AllReadyH.nil) 7 (List.mem_singleton.2 rfl)
    go_simp
    go_at_call 36
    refine HC.out.mono ?_
    rintro e w5 hw5
    obtain ⟨b5, a5, m5, k5, c5, rfl, hr5, hb5⟩ := rend_form hw5
    obtain ⟨rfl, hx5⟩ := rend_limF hr5
    go_wp2_with fail
    refine hK.out _ _ ?_ (fun hHeld => ?_)
    ·exact below_then hB hb5
    clear hK K
    try simp only [List.setIfInBounds_toArray, List.set_cons_zero, List.set_cons_succ]
    subst hm
    obtain ⟨m, rfl⟩ : ∃ m2, m = m2 + 3 := ⟨m - 3, by simp only [cnt, Option.isSome] at hc; simp at hc; omega⟩
    refine wpAnyH_take (i := 8) (oi := ⟨some 34, Op.move (.tmp 42), 44, "frac.go:79", #[⟨7, .data⟩], none⟩) (v := ?_) rfl (by kernel_rfl) (FR8 _).1 (FR8 _).2 (fun c a w => hQ c a _ _ w) (Or.inl ⟨by rfl, ?_⟩) (by assumption) ?_
    rotate_left
    ·(intro wq hSw; go_simp; try with_reducible rfl)
    try simp only [Act.put, List.setIfInBounds_toArray, List.set_cons_zero, List.set_cons_succ]
    refine wpAnyH_take (i := 9) (oi := ⟨some 43, Op.extract (.tmp 34) 0, 32, "frac.go:79", #[⟨8, .data⟩], none⟩) (v := ?_) rfl (by kernel_rfl) (FR9 _).1 (FR9 _).2 (fun c a w => hQ c a _ _ w) (Or.inl ⟨by rfl, ?_⟩) (by assumption) ?_
    rotate_left
    ·(intro wq hSw; go_simp; try with_reducible rfl)
    try simp only [Act.put, List.setIfInBounds_toArray, List.set_cons_zero, List.set_cons_succ]
    refine wpAnyH_take (i := 10) (oi := ⟨some 44, Op.extract (.tmp 34) 1, 41, "frac.go:79", #[⟨8, .data⟩, ⟨12, .gcOnly .lateStores⟩], none⟩) (v := ?_) rfl (by kernel_rfl) (FR10 _).1 (FR10 _).2 (fun c a w => hQ c a _ _ w) (Or.inl ⟨by rfl, ?_⟩) (by assumption) ?_
    rotate_left
    ·(intro wq hSw; go_simp; try with_reducible rfl)
    try simp only [Act.put, List.setIfInBounds_toArray, List.set_cons_zero, List.set_cons_succ]
    exact ih m (by omega) o14 (some _) (some _) (some _) (some (.agg #[.bool b5, .slice a5 m5 k5], .int .i64 (ecF (z37 * z40)))) _ (by simp only [cnt, Option.isSome] at hc ⊢; simp at hc ⊢; omega) (below_then hB hb5) (hO14.below hb5) (hV37.below hb5) (hV40.below hb5) (hV41.below hb5) (oiv2_new hx5)
   ·exfalso
    simp only [cnt, e0, e1, e2, e3, e4] at hc
    simp at hc
    omega
 refine wp_region_held_drew (S := fun X => Below W0.heap.size W0 X) (by kernel_rfl) (Below.refl _ _).drew (fun hHeld => ?_)
 refine wpAnyH_take (i := 0) (oi := ⟨some 35, Op.load 32 (.tmp 5), 32, "frac.go:79", #[], none⟩) (v := ?_) rfl (by kernel_rfl) (by kernel_rfl) (by kernel_rfl) (fun c a w => hQ c a _ _ w) (Or.inl ⟨by rfl, ?_⟩) (by assumption) ?_
 rotate_left
 ·(intro wq hSw; have hLD := LD.out wq hSw; obtain ⟨f0, f1, f2, f3, f4, f5, f6, f7⟩ := hLD; go_simp; try with_reducible rfl)
 try simp only [Act.put, List.setIfInBounds_toArray, List.set_cons_zero, List.set_cons_succ]
 refine wpAnyH_take (i := 1) (oi := ⟨some 36, Op.load 32 (.tmp 11), 32, "frac.go:79", #[], none⟩) (v := ?_) rfl (by kernel_rfl) (by kernel_rfl) (by kernel_rfl) (fun c a w => hQ c a _ _ w) (Or.inl ⟨by rfl, ?_⟩) (by assumption) ?_
 rotate_left
 ·(intro wq hSw; have hLD := LD.out wq hSw; obtain ⟨f0, f1, f2, f3, f4, f5, f6, f7⟩ := hLD; go_simp; try with_reducible rfl)
 try simp only [Act.put, List.setIfInBounds_toArray, List.set_cons_zero, List.set_cons_succ]
 refine wpAnyH_take (i := 3) (oi := ⟨some 38, Op.load 32 (.tmp 7), 32, "frac.go:79", #[], none⟩) (v := ?_) rfl (by kernel_rfl) (by kernel_rfl) (by kernel_rfl) (fun c a w => hQ c a _ _ w) (Or.inl ⟨by rfl, ?_⟩) (by assumption) ?_
 rotate_left
 ·(intro wq hSw; have hLD := LD.out wq hSw; obtain ⟨f0, f1, f2, f3, f4, f5, f6, f7⟩ := hLD; go_simp; try with_reducible rfl)
 try simp only [Act.put, List.setIfInBounds_toArray, List.set_cons_zero, List.set_cons_succ]
 refine wpAnyH_take (i := 4) (oi := ⟨some 39, Op.load 32 (.tmp 10), 32, "frac.go:79", #[], none⟩) (v := ?_) rfl (by kernel_rfl) (by kernel_rfl) (by kernel_rfl) (fun c a w => hQ c a _ _ w) (Or.inl ⟨by rfl, ?_⟩) (by assumption) ?_
 rotate_left
 ·(intro wq hSw; have hLD := LD.out wq hSw; obtain ⟨f0, f1, f2, f3, f4, f5, f6, f7⟩ := hLD; go_simp; try with_reducible rfl)
 try simp only [Act.put, List.setIfInBounds_toArray, List.set_cons_zero, List.set_cons_succ]
 exact key _ none none none none none _ rfl (Below.refl _ _).drew obp_none oiv_none oiv_none osl_none oiv2_none
def opsAd1 : Array Oper := #[⟨some 22, Op.fieldAddr 34 (.tmp 2) 0, 0, "frac.go:36", #[], none⟩,
 ⟨some 23, Op.load 32 (.tmp 22), 32, "frac.go:36", #[⟨0, .data⟩], none⟩,
 ⟨some 24, Op.load 34 (.tmp 2), 34, "frac.go:36", #[], none⟩,
 ⟨some 25, Op.call ⟨.value (.func 34), #[.tmp 24], #[34]⟩, 32, "frac.go:36", #[⟨2, .data⟩], none⟩,
 ⟨some 26, Op.fieldAddr 34 (.tmp 3) 0, 0, "frac.go:36", #[⟨13, .gcOnly .lateStores⟩], none⟩,
 ⟨some 27, Op.load 32 (.tmp 26), 32, "frac.go:36", #[⟨4, .data⟩, ⟨13, .gcOnly .lateStores⟩], none⟩,
 ⟨some 28, Op.load 34 (.tmp 3), 34, "frac.go:36", #[], none⟩,
 ⟨some 29, Op.call ⟨.value (.func 34), #[.tmp 28], #[34]⟩, 32, "frac.go:36", #[⟨6, .data⟩, ⟨3, .chain⟩], none⟩,
 ⟨some 6, Op.alloc 32, 0, "frac.go:36", #[], none⟩,
 ⟨some 7, Op.alloc 32, 0, "frac.go:36", #[], none⟩,
 ⟨some 8, Op.alloc 32, 0, "frac.go:36", #[], none⟩,
 ⟨some 9, Op.alloc 32, 0, "frac.go:36", #[], none⟩,
 ⟨none, Op.store 32 (.tmp 6) (.tmp 23), 0, "frac.go:36", #[⟨8, .data⟩, ⟨1, .data⟩, ⟨7, .chain⟩, ⟨0, .phase⟩, ⟨1, .phase⟩, ⟨2, .textOnly .lateStores⟩, ⟨3, .textOnly .lateStoresUnsure⟩, ⟨4, .textOnly .lateStores⟩, ⟨5, .textOnly .lateStores⟩, ⟨6, .textOnly .lateStores⟩, ⟨7, .textOnly .lateStoresUnsure⟩, ⟨8, .phase⟩, ⟨9, .phase⟩, ⟨10, .phase⟩, ⟨11, .phase⟩], none⟩,
 ⟨none, Op.store 32 (.tmp 7) (.tmp 25), 0, "frac.go:36", #[⟨9, .data⟩, ⟨3, .data⟩, ⟨12, .chain⟩, ⟨0, .phase⟩, ⟨1, .phase⟩, ⟨2, .phase⟩, ⟨3, .phase⟩, ⟨4, .textOnly .lateStores⟩, ⟨5, .textOnly .lateStores⟩, ⟨6, .textOnly .lateStores⟩, ⟨7, .textOnly .lateStoresUnsure⟩, ⟨8, .phase⟩, ⟨9, .phase⟩, ⟨10, .phase⟩, ⟨11, .phase⟩, ⟨12, .phase⟩], none⟩,
 ⟨none, Op.store 32 (.tmp 8) (.tmp 27), 0, "frac.go:36", #[⟨10, .data⟩, ⟨5, .data⟩, ⟨13, .chain⟩, ⟨0, .phase⟩, ⟨1, .phase⟩, ⟨2, .phase⟩, ⟨3, .phase⟩, ⟨4, .phase⟩, ⟨5, .phase⟩, ⟨6, .textOnly .lateStores⟩, ⟨7, .textOnly .lateStoresUnsure⟩, ⟨8, .phase⟩, ⟨9, .phase⟩, ⟨10, .phase⟩, ⟨11, .phase⟩, ⟨12, .phase⟩, ⟨13, .phase⟩], none⟩,
 ⟨none, Op.store 32 (.tmp 9) (.tmp 29), 0, "frac.go:36", #[⟨11, .data⟩, ⟨7, .data⟩, ⟨14, .chain⟩, ⟨0, .phase⟩, ⟨1, .phase⟩, ⟨2, .phase⟩, ⟨3, .phase⟩, ⟨4, .phase⟩, ⟨5, .phase⟩, ⟨6, .phase⟩, ⟨7, .phase⟩, ⟨8, .phase⟩, ⟨9, .phase⟩, ⟨10, .phase⟩, ⟨11, .phase⟩, ⟨12, .phase⟩, ⟨13, .phase⟩, ⟨14, .phase⟩], none⟩]
set_option maxHeartbeats 8000000 in
theorem regAd1 {Q : Exit → Act → World → Prop} (hQ : ∀ c a d v w, Q (.panic c) (Act.put a (some d) v) w → Q (.panic c) a w) {W0 : World} {dd : List Deferred} {u0 u1 u4 u5 u6 u7 u8 u9 J0 J6 Gg U1 Jx Gh Gd Jc Gu J2 Jy Jh Je Gy G3 Gk Jj G4 Gs Gi G7 U0 Gq Gt Gf J8 Gv Jl Gb Js Jv U3 J5 Gr Jp G8 Jq Ju Gl J3 J4 Go G1 Gw J9 Jz Gj Gz Jr Ga Jf G9 Jn G0 G6 Ja U2 Jk Jd Gc Gx Ji G5 Jw Jm Jb J1 J7 Jg Gn Jo Gm Gp Ge Jt G2 : Value} {b2 : Nat} {s2 : Bool} {a2 : Option Addr} {m2 c2 : Nat} {s2x : Bool} {a2x : Option Addr} {m2x c2x : Nat} {b3 : Nat} {s3 : Bool} {a3 : Option Addr} {m3 c3 : Nat} {s3x : Bool} {a3x : Option Addr} {m3x c3x : Nat} {z25 z29 z23 z27 : Int}
  (LD : Hid (∀ X : World, Below W0.heap.size W0 X → X.cell? ⟨b2, 0, none⟩ = some (.bool s2) ∧ X.cell? ⟨b2, 1, none⟩ = some (.slice a2 m2 c2) ∧ X.cell? ⟨b2, 2, none⟩ = some (.bool s2x) ∧ X.cell? ⟨b2, 3, none⟩ = some (.slice a2x m2x c2x) ∧ X.cell? ⟨b3, 0, none⟩ = some (.bool s3) ∧ X.cell? ⟨b3, 1, none⟩ = some (.slice a3 m3 c3) ∧ X.cell? ⟨b3, 2, none⟩ = some (.bool s3x) ∧ X.cell? ⟨b3, 3, none⟩ = some (.slice a3x m3x c3x)))
  (I23 : Hid (IAt W0 (.agg #[.bool s2, .slice a2 m2 c2]) z23))
  (I27 : Hid (IAt W0 (.agg #[.bool s3, .slice a3 m3 c3]) z27))
  (C25 : Hid (∀ X, Below W0.heap.size W0 X → Calls Tryz.prog 34 #[.agg #[.bool s2, .slice a2 m2 c2, .bool s2x, .slice a2x m2x c2x]] X (IEnd z25 X)))
  (C29 : Hid (∀ X, Below W0.heap.size W0 X → Calls Tryz.prog 34 #[.agg #[.bool s3, .slice a3 m3 c3, .bool s3x, .slice a3x m3x c3x]] X (IEnd z29 X)))
  (leaf : ∀ (X : World) (t6 t7 t8 t9 : Nat) (v25 v29 : Value), Hid (Below W0.heap.size W0 X) → Hid (IBox X t6 z23) → Hid (IBox X t7 z25) → Hid (IBox X t8 z27) → Hid (IBox X t9 z29) → W0.heap.size ≤ t6 → W0.heap.size ≤ t7 → W0.heap.size ≤ t8 → W0.heap.size ≤ t9 → t6 ≠ t7 → t6 ≠ t8 → t6 ≠ t9 → t7 ≠ t8 → t7 ≠ t9 → t8 ≠ t9 → Q .normal ⟨#[u0, u1, .pointer (some ⟨b2, 0, none⟩), .pointer (some ⟨b3, 0, none⟩), u4, u5, .pointer (some ⟨t6, 0, none⟩), .pointer (some ⟨t7, 0, none⟩), .pointer (some ⟨t8, 0, none⟩), .pointer (some ⟨t9, 0, none⟩), J0, J6, Gg, U1, Jx, Gh, Gd, Jc, Gu, J2, Jy, Jh, .pointer (some ⟨b2, 0, none⟩), .agg #[.bool s2, .slice a2 m2 c2], .agg #[.bool s2, .slice a2 m2 c2, .bool s2x, .slice a2x m2x c2x], v25, .pointer (some ⟨b3, 0, none⟩), .agg #[.bool s3, .slice a3 m3 c3], .agg #[.bool s3, .slice a3 m3 c3, .bool s3x, .slice a3x m3x c3x], v29, G7, U0, Gq, Gt, Gf, J8, Gv, Jl, Gb, Js, Jv, U3, J5, Gr, Jp, G8, Jq, Ju, Gl, J3, J4, Go, G1, Gw, J9, Jz, Gj, Gz, Jr, Ga, Jf, G9, Jn, G0, G6, Ja, U2, Jk, Jd, Gc, Gx, Ji, G5, Jw, Jm, Jb, J1, J7, Jg, Gn, Jo, Gm, Gp, Ge, Jt, G2], dd⟩ X) :
  (Code.region 1 opsAd1 true).wp Tryz.prog Q ⟨#[u0, u1, .pointer (some ⟨b2, 0, none⟩), .pointer (some ⟨b3, 0, none⟩), u4, u5, u6, u7, u8, u9, J0, J6, Gg, U1, Jx, Gh, Gd, Jc, Gu, J2, Jy, Jh, Je, Gy, G3, Gk, Jj, G4, Gs, Gi, G7, U0, Gq, Gt, Gf, J8, Gv, Jl, Gb, Js, Jv, U3, J5, Gr, Jp, G8, Jq, Ju, Gl, J3, J4, Go, G1, Gw, J9, Jz, Gj, Gz, Jr, Ga, Jf, G9, Jn, G0, G6, Ja, U2, Jk, Jd, Gc, Gx, Ji, G5, Jw, Jm, Jb, J1, J7, Jg, Gn, Jo, Gm, Gp, Ge, Jt, G2], dd⟩ W0 := by
 have RDY : ∀ x6 x7 x8 x9 x25 x29 : Bool, ((Region.ready .any opsAd1 #[true, true, true, x25, true, true, true, x29, x6, x7, x8, x9, false, false, false, false]).all fun i => (i == 8 && !x6) || ((i == 9 && !x7) || ((i == 10 && !x8) || ((i == 11 && !x9) || ((i == 3 && (!x25)) || ((i == 7 && (!x29 && (x25))) || ((i == 12 && (x6 && (x7 && (x8 && (x9 && (x29))))))))))))) = true := by decide +kernel
 have RNE : ∀ x6 x7 x8 x9 x25 x29 : Bool, Region.ready .any opsAd1 #[true, true, true, x25, true, true, true, x29, x6, x7, x8, x9, false, false, false, false] ≠ [] := by decide +kernel
 have key : ∀ (n : Nat) (o6 o7 o8 o9 : Option Nat) (k25 : Option Value) (k29 : Option Value) (X : World), cnt o6 + cnt o7 + cnt o8 + cnt o9 + cnt k25 + cnt k29 = n → Below W0.heap.size W0 X → ObP W0.heap.size X o6 → ObP W0.heap.size X o7 → ObP W0.heap.size X o8 → ObP W0.heap.size X o9 → Oapart o6 o7 → Oapart o6 o8 → Oapart o6 o9 → Oapart o7 o8 → Oapart o7 o9 → Oapart o8 o9 → OIv X k25 z25 → OIv X k29 z29 → (k29.isSome = true → k25.isSome = true) → wpAnyH Tryz.prog .any opsAd1 Q (fun X => Below W0.heap.size W0 X) (n + 4) #[true, true, true, k25.isSome, true, true, true, k29.isSome, o6.isSome, o7.isSome, o8.isSome, o9.isSome, false, false, false, false] ⟨#[u0, u1, .pointer (some ⟨b2, 0, none⟩), .pointer (some ⟨b3, 0, none⟩), u4, u5, optP u6 o6, optP u7 o7, optP u8 o8, optP u9 o9, J0, J6, Gg, U1, Jx, Gh, Gd, Jc, Gu, J2, Jy, Jh, .pointer (some ⟨b2, 0, none⟩), .agg #[.bool s2, .slice a2 m2 c2], .agg #[.bool s2, .slice a2 m2 c2, .bool s2x, .slice a2x m2x c2x], optV Gk k25, .pointer (some ⟨b3, 0, none⟩), .agg #[.bool s3, .slice a3 m3 c3], .agg #[.bool s3, .slice a3 m3 c3, .bool s3x, .slice a3x m3x c3x], optV Gi k29, G7, U0, Gq, Gt, Gf, J8, Gv, Jl, Gb, Js, Jv, U3, J5, Gr, Jp, G8, Jq, Ju, Gl, J3, J4, Go, G1, Gw, J9, Jz, Gj, Gz, Jr, Ga, Jf, G9, Jn, G0, G6, Ja, U2, Jk, Jd, Gc, Gx, Ji, G5, Jw, Jm, Jb, J1, J7, Jg, Gn, Jo, Gm, Gp, Ge, Jt, G2], dd⟩ X := by
  intro n
  induction n using Nat.strongRecOn with
  | ind n ih =>
  intro o6 o7 o8 o9 k25 k29 X hc hB hO6 hO7 hO8 hO9 hD6x7 hD6x8 hD6x9 hD7x8 hD7x9 hD8x9 hV25 hV29 hI0
  rcases Nat.eq_zero_or_pos n with h0 | h0
  ·subst h0
   clear ih
   obtain ⟨t6, rfl⟩ := cnt_some (o := o6) (by omega)
   obtain ⟨t7, rfl⟩ := cnt_some (o := o7) (by omega)
   obtain ⟨t8, rfl⟩ := cnt_some (o := o8) (by omega)
   obtain ⟨t9, rfl⟩ := cnt_some (o := o9) (by omega)
   obtain ⟨v25, rfl⟩ := cnt_some (o := k25) (by omega)
   obtain ⟨v29, rfl⟩ := cnt_some (o := k29) (by omega)
   obtain ⟨L6, T6⟩ := hO6 t6 rfl
   obtain ⟨L7, T7⟩ := hO7 t7 rfl
   obtain ⟨L8, T8⟩ := hO8 t8 rfl
   obtain ⟨L9, T9⟩ := hO9 t9 rfl
   have D6x7 : t6 ≠ t7 := fun e => hD6x7 t6 rfl (congrArg some e.symm)
   have D6x8 : t6 ≠ t8 := fun e => hD6x8 t6 rfl (congrArg some e.symm)
   have D6x9 : t6 ≠ t9 := fun e => hD6x9 t6 rfl (congrArg some e.symm)
   have D7x8 : t7 ≠ t8 := fun e => hD7x8 t7 rfl (congrArg some e.symm)
   have D7x9 : t7 ≠ t9 := fun e => hD7x9 t7 rfl (congrArg some e.symm)
   have D8x9 : t8 ≠ t9 := fun e => hD8x9 t8 rfl (congrArg some e.symm)
   obtain ⟨s25v, a25v, m25v, c25v, rfl, hi25⟩ := hV25 _ rfl
   obtain ⟨s29v, a29v, m29v, c29v, rfl, hi29⟩ := hV29 _ rfl
   have hi23 := iat_keeps I23.out hB
   have hi27 := iat_keeps I27.out hB
   clear hO6 hO7 hO8 hO9 hD6x7 hD6x8 hD6x9 hD7x8 hD7x9 hD8x9 hV25 hV29 hc
   simp only [optP, optV, Option.isSome]
   refine wpAnyH_ready (rs := [12]) (by kernel_rfl) (by simp) ?_
   obtain ⟨_, _, _, _, l6, _⟩ := id T6
   obtain ⟨r0, r1, r2, r3⟩ := cells2 l6
   refine AllReadyH.cons (o := ⟨none, Op.store 32 (.tmp 6) (.tmp 23), 0, "frac.go:36", #[⟨8, .data⟩, ⟨1, .data⟩, ⟨7, .chain⟩, ⟨0, .phase⟩, ⟨1, .phase⟩, ⟨2, .textOnly .lateStores⟩, ⟨3, .textOnly .lateStoresUnsure⟩, ⟨4, .textOnly .lateStores⟩, ⟨5, .textOnly .lateStores⟩, ⟨6, .textOnly .lateStores⟩, ⟨7, .textOnly .lateStoresUnsure⟩, ⟨8, .phase⟩, ⟨9, .phase⟩, ⟨10, .phase⟩, ⟨11, .phase⟩], none⟩) rfl (fun K hK => ?_) AllReadyH.nil
   go_simp
   refine hK.out _ _ ?_ (fun hHeld => ?_)
   ·exact below_set2 hB L6
   clear hK K r0 r1 r2 r3 hHeld
   try simp only [List.setIfInBounds_toArray, List.set_cons_zero, List.set_cons_succ]
   have T6y1 := T6.store (s := s2) (a := a2) (m := m2) (c := c2) hi23
   have T7y1 := T6.other (s := s2) (a := a2) (m := m2) (c := c2) T7 (Ne.symm D6x7)
   have T8y1 := T6.other (s := s2) (a := a2) (m := m2) (c := c2) T8 (Ne.symm D6x8)
   have T9y1 := T6.other (s := s2) (a := a2) (m := m2) (c := c2) T9 (Ne.symm D6x9)
   have hi25y1 := iat_set (iat_set hi25 l6 0 (.bool s2)) (l6.set 0 (.bool s2)) 1 (.slice a2 m2 c2)
   have hi27y1 := iat_set (iat_set hi27 l6 0 (.bool s2)) (l6.set 0 (.bool s2)) 1 (.slice a2 m2 c2)
   have hi29y1 := iat_set (iat_set hi29 l6 0 (.bool s2)) (l6.set 0 (.bool s2)) 1 (.slice a2 m2 c2)
   have hBy1 := below_set2 (p := t6) (u := .bool s2) (v := .slice a2 m2 c2) hB L6
   clear l6 hB T6 T7 T8 T9 hi23 hi25 hi27 hi29
   generalize (X.setCell ⟨t6, 0, none⟩ (.bool s2)).setCell ⟨t6, 1, none⟩ (.slice a2 m2 c2) = Y1 at *
   refine wpAnyH_ready (rs := [13]) (by kernel_rfl) (by simp) ?_
   obtain ⟨_, _, _, _, l7, _⟩ := id T7y1
   obtain ⟨r0, r1, r2, r3⟩ := cells2 l7
   refine AllReadyH.cons (o := ⟨none, Op.store 32 (.tmp 7) (.tmp 25), 0, "frac.go:36", #[⟨9, .data⟩, ⟨3, .data⟩, ⟨12, .chain⟩, ⟨0, .phase⟩, ⟨1, .phase⟩, ⟨2, .phase⟩, ⟨3, .phase⟩, ⟨4, .textOnly .lateStores⟩, ⟨5, .textOnly .lateStores⟩, ⟨6, .textOnly .lateStores⟩, ⟨7, .textOnly .lateStoresUnsure⟩, ⟨8, .phase⟩, ⟨9, .phase⟩, ⟨10, .phase⟩, ⟨11, .phase⟩, ⟨12, .phase⟩], none⟩) rfl (fun K hK => ?_) AllReadyH.nil
   go_simp
   refine hK.out _ _ ?_ (fun hHeld => ?_)
   ·exact below_set2 hBy1 L7
   clear hK K r0 r1 r2 r3 hHeld
   try simp only [List.setIfInBounds_toArray, List.set_cons_zero, List.set_cons_succ]
   have T7y2 := T7y1.store (s := s25v) (a := a25v) (m := m25v) (c := c25v) hi25y1
   have T6y2 := T7y1.other (s := s25v) (a := a25v) (m := m25v) (c := c25v) T6y1 (Ne.symm (Ne.symm D6x7))
   have T8y2 := T7y1.other (s := s25v) (a := a25v) (m := m25v) (c := c25v) T8y1 (Ne.symm D7x8)
   have T9y2 := T7y1.other (s := s25v) (a := a25v) (m := m25v) (c := c25v) T9y1 (Ne.symm D7x9)
   have hi27y2 := iat_set (iat_set hi27y1 l7 0 (.bool s25v)) (l7.set 0 (.bool s25v)) 1 (.slice a25v m25v c25v)
   have hi29y2 := iat_set (iat_set hi29y1 l7 0 (.bool s25v)) (l7.set 0 (.bool s25v)) 1 (.slice a25v m25v c25v)
   have hBy2 := below_set2 (p := t7) (u := .bool s25v) (v := .slice a25v m25v c25v) hBy1 L7
   clear l7 hBy1 T6y1 T7y1 T8y1 T9y1 hi25y1 hi27y1 hi29y1
   generalize (Y1.setCell ⟨t7, 0, none⟩ (.bool s25v)).setCell ⟨t7, 1, none⟩ (.slice a25v m25v c25v) = Y2 at *
   refine wpAnyH_ready (rs := [14]) (by kernel_rfl) (by simp) ?_
   obtain ⟨_, _, _, _, l8, _⟩ := id T8y2
   obtain ⟨r0, r1, r2, r3⟩ := cells2 l8
   refine AllReadyH.cons (o := ⟨none, Op.store 32 (.tmp 8) (.tmp 27), 0, "frac.go:36", #[⟨10, .data⟩, ⟨5, .data⟩, ⟨13, .chain⟩, ⟨0, .phase⟩, ⟨1, .phase⟩, ⟨2, .phase⟩, ⟨3, .phase⟩, ⟨4, .phase⟩, ⟨5, .phase⟩, ⟨6, .textOnly .lateStores⟩, ⟨7, .textOnly .lateStoresUnsure⟩, ⟨8, .phase⟩, ⟨9, .phase⟩, ⟨10, .phase⟩, ⟨11, .phase⟩, ⟨12, .phase⟩, ⟨13, .phase⟩], none⟩) rfl (fun K hK => ?_) AllReadyH.nil
   go_simp
   refine hK.out _ _ ?_ (fun hHeld => ?_)
   ·exact below_set2 hBy2 L8
   clear hK K r0 r1 r2 r3 hHeld
   try simp only [List.setIfInBounds_toArray, List.set_cons_zero, List.set_cons_succ]
   have T8y3 := T8y2.store (s := s3) (a := a3) (m := m3) (c := c3) hi27y2
   have T6y3 := T8y2.other (s := s3) (a := a3) (m := m3) (c := c3) T6y2 (Ne.symm (Ne.symm D6x8))
   have T7y3 := T8y2.other (s := s3) (a := a3) (m := m3) (c := c3) T7y2 (Ne.symm (Ne.symm D7x8))
   have T9y3 := T8y2.other (s := s3) (a := a3) (m := m3) (c := c3) T9y2 (Ne.symm D8x9)
   have hi29y3 := iat_set (iat_set hi29y2 l8 0 (.bool s3)) (l8.set 0 (.bool s3)) 1 (.slice a3 m3 c3)
   have hBy3 := below_set2 (p := t8) (u := .bool s3) (v := .slice a3 m3 c3) hBy2 L8
   clear l8 hBy2 T6y2 T7y2 T8y2 T9y2 hi27y2 hi29y2
   generalize (Y2.setCell ⟨t8, 0, none⟩ (.bool s3)).setCell ⟨t8, 1, none⟩ (.slice a3 m3 c3) = Y3 at *
   refine wpAnyH_ready (rs := [15]) (by kernel_rfl) (by simp) ?_
   obtain ⟨_, _, _, _, l9, _⟩ := id T9y3
   obtain ⟨r0, r1, r2, r3⟩ := cells2 l9
   refine AllReadyH.cons (o := ⟨none, Op.store 32 (.tmp 9) (.tmp 29), 0, "frac.go:36", #[⟨11, .data⟩, ⟨7, .data⟩, ⟨14, .chain⟩, ⟨0, .phase⟩, ⟨1, .phase⟩, ⟨2, .phase⟩, ⟨3, .phase⟩, ⟨4, .phase⟩, ⟨5, .phase⟩, ⟨6, .phase⟩, ⟨7, .phase⟩, ⟨8, .phase⟩, ⟨9, .phase⟩, ⟨10, .phase⟩, ⟨11, .phase⟩, ⟨12, .phase⟩, ⟨13, .phase⟩, ⟨14, .phase⟩], none⟩) rfl (fun K hK => ?_) AllReadyH.nil
   go_simp
   refine hK.out _ _ ?_ (fun hHeld => ?_)
   ·exact below_set2 hBy3 L9
   clear hK K r0 r1 r2 r3 hHeld
   try simp only [List.setIfInBounds_toArray, List.set_cons_zero, List.set_cons_succ]
   have T9y4 := T9y3.store (s := s29v) (a := a29v) (m := m29v) (c := c29v) hi29y3
   have T6y4 := T9y3.other (s := s29v) (a := a29v) (m := m29v) (c := c29v) T6y3 (Ne.symm (Ne.symm D6x9))
   have T7y4 := T9y3.other (s := s29v) (a := a29v) (m := m29v) (c := c29v) T7y3 (Ne.symm (Ne.symm D7x9))
   have T8y4 := T9y3.other (s := s29v) (a := a29v) (m := m29v) (c := c29v) T8y3 (Ne.symm (Ne.symm D8x9))
   have hBy4 := below_set2 (p := t9) (u := .bool s29v) (v := .slice a29v m29v c29v) hBy3 L9
   clear l9 hBy3 T6y3 T7y3 T8y3 T9y3 hi29y3
   generalize (Y3.setCell ⟨t9, 0, none⟩ (.bool s29v)).setCell ⟨t9, 1, none⟩ (.slice a29v m29v c29v) = Y4 at *
   refine wpAnyH_done (by kernel_rfl) ?_ _
   exact leaf Y4 t6 t7 t8 t9 _ _ (Lib.hid hBy4) (Lib.hid T6y4) (Lib.hid T7y4) (Lib.hid T8y4) (Lib.hid T9y4) L6 L7 L8 L9 D6x7 D6x8 D6x9 D7x8 D7x9 D8x9
  ·refine wpAnyH_more (ops := opsAd1) (RNE _ _ _ _ _ _) h0 (fun m hm i hi => ?_)
   have hcase := List.all_eq_true.1 (RDY _ _ _ _ _ _) i hi
   simp only [Bool.or_eq_true, Bool.and_eq_true, beq_iff_eq, Bool.not_eq_true'] at hcase
   clear hi h0
   rcases hcase with ⟨rfl, hb⟩ | ⟨rfl, hb⟩ | ⟨rfl, hb⟩ | ⟨rfl, hb⟩ | ⟨rfl, hb⟩ | ⟨rfl, hb, g0⟩ | ⟨rfl, e0, e1, e2, e3, e4⟩
   ·obtain rfl := not_some hb
    refine (AllReadyH.cons (o := ⟨some 6, Op.alloc 32, 0, "frac.go:36", #[], none⟩) rfl (fun K hK => ?_) AllReadyH.nil) 8 (List.mem_singleton.2 rfl)
    go_simp
    have hb1 := below_one X (.cells #[.bool false, .slice none 0 0] 32)
    refine hK.out _ _ ?_ (fun hHeld => ?_)
    ·exact below_then hB hb1
    clear hK K
    try simp only [List.setIfInBounds_toArray, List.set_cons_zero, List.set_cons_succ]
    subst hm
    exact ih m (by omega) (some X.heap.size) o7 o8 o9 k25 k29 _ (by simp only [cnt, Option.isSome] at hc ⊢; simp at hc ⊢; omega) (below_then hB hb1) (obp_new hB) (hO7.below hb1) (hO8.below hb1) (hO9.below hb1) (apart_new hO7) (apart_new hO8) (apart_new hO9) hD7x8 hD7x9 hD8x9 (hV25.below hb1) (hV29.below hb1) hI0
   ·obtain rfl := not_some hb
    refine (AllReadyH.cons (o := ⟨some 7, Op.alloc 32, 0, "frac.go:36", #[], none⟩) rfl (fun K hK => ?_) AllReadyH.nil) 9 (List.mem_singleton.2 rfl)
    go_simp
    have hb1 := below_one X (.cells #[.bool false, .slice none 0 0] 32)
    refine hK.out _ _ ?_ (fun hHeld => ?_)
    ·exact below_then hB hb1
    clear hK K
    try simp only [List.setIfInBounds_toArray, List.set_cons_zero, List.set_cons_succ]
    subst hm
    exact ih m (by omega) o6 (some X.heap.size) o8 o9 k25 k29 _ (by simp only [cnt, Option.isSome] at hc ⊢; simp at hc ⊢; omega) (below_then hB hb1) (hO6.below hb1) (obp_new hB) (hO8.below hb1) (hO9.below hb1) (apart_new' hO6) hD6x8 hD6x9 (apart_new hO8) (apart_new hO9) hD8x9 (hV25.below hb1) (hV29.below hb1) hI0
   ·obtain rfl := not_some hb
    refine (AllReadyH.cons (o := ⟨some 8, Op.alloc 32, 0, "frac.go:36", #[], none⟩) rfl (fun K hK => ?_) AllReadyH.nil) 10 (List.mem_singleton.2 rfl)
    go_simp
    have hb1 := below_one X (.cells #[.bool false, .slice none 0 0] 32)
    refine hK.out _ _ ?_ (fun hHeld => ?_)
    ·exact below_then hB hb1
    clear hK K
    try simp only [List.setIfInBounds_toArray, List.set_cons_zero, List.set_cons_succ]
    subst hm
    exact ih m (by omega) o6 o7 (some X.heap.size) o9 k25 k29 _ (by simp only [cnt, Option.isSome] at hc ⊢; simp at hc ⊢; omega) (below_then hB hb1) (hO6.below hb1) (hO7.below hb1) (obp_new hB) (hO9.below hb1) hD6x7 (apart_new' hO6) hD6x9 (apart_new' hO7) hD7x9 (apart_new hO9) (hV25.below hb1) (hV29.below hb1) hI0
   ·obtain rfl := not_some hb
    refine (AllReadyH.cons (o := ⟨some 9, Op.alloc 32, 0, "frac.go:36", #[], none⟩) rfl (fun K hK => ?_) AllReadyH.nil) 11 (List.mem_singleton.2 rfl)
    go_simp
    have hb1 := below_one X (.cells #[.bool false, .slice none 0 0] 32)
    refine hK.out _ _ ?_ (fun hHeld => ?_)
    ·exact below_then hB hb1
    clear hK K
    try simp only [List.setIfInBounds_toArray, List.set_cons_zero, List.set_cons_succ]
    subst hm
    exact ih m (by omega) o6 o7 o8 (some X.heap.size) k25 k29 _ (by simp only [cnt, Option.isSome] at hc ⊢; simp at hc ⊢; omega) (below_then hB hb1) (hO6.below hb1) (hO7.below hb1) (hO8.below hb1) (obp_new hB) hD6x7 hD6x8 (apart_new' hO6) hD7x8 (apart_new' hO7) (apart_new' hO8) (hV25.below hb1) (hV29.below hb1) hI0
   ·obtain rfl := not_some hb
    have C := C25.out X hB
    unfold IEnd at C
    have HC := Lib.hid C
    clear C
    refine (AllReadyH.cons (o := ⟨some 25, Op.call ⟨.value (.func 34), #[.tmp 24], #[34]⟩, 32, "frac.go:36", #[⟨2, .data⟩], none⟩) rfl (fun K hK => ?_) AllReadyH.nil) 3 (List.mem_singleton.2 rfl)
    go_simp
    go_at_call 34
    refine HC.out.mono ?_
    rintro e w5 ⟨b5, a5, m5, k5, rfl, hx5, hb5⟩
    go_wp2_with fail
    refine hK.out _ _ ?_ (fun hHeld => ?_)
    ·exact below_then hB hb5
    clear hK K
    try simp only [List.setIfInBounds_toArray, List.set_cons_zero, List.set_cons_succ]
    subst hm
    exact ih m (by omega) o6 o7 o8 o9 (some (.agg #[.bool b5, .slice a5 m5 k5])) k29 _ (by simp only [cnt, Option.isSome] at hc ⊢; simp at hc ⊢; omega) (below_then hB hb5) (hO6.below hb5) (hO7.below hb5) (hO8.below hb5) (hO9.below hb5) hD6x7 hD6x8 hD6x9 hD7x8 hD7x9 hD8x9 (oiv_new hx5) (hV29.below hb5) (fun _ => rfl)
   ·obtain rfl := not_some hb
    obtain ⟨w25, rfl⟩ := is_some g0
    have C := C29.out X hB
    unfold IEnd at C
    have HC := Lib.hid C
    clear C
    refine (AllReadyH.cons (o := ⟨some 29, Op.call ⟨.value (.func 34), #[.tmp 28], #[34]⟩, 32, "frac.go:36", #[⟨6, .data⟩, ⟨3, .chain⟩], none⟩) rfl (fun K hK => ?_) AllReadyH.nil) 7 (List.mem_singleton.2 rfl)
    go_simp
    go_at_call 34
    refine HC.out.mono ?_
    rintro e w5 ⟨b5, a5, m5, k5, rfl, hx5, hb5⟩
    go_wp2_with fail
    refine hK.out _ _ ?_ (fun hHeld => ?_)
    ·exact below_then hB hb5
    clear hK K
    try simp only [List.setIfInBounds_toArray, List.set_cons_zero, List.set_cons_succ]
    subst hm
    exact ih m (by omega) o6 o7 o8 o9 (some _) (some (.agg #[.bool b5, .slice a5 m5 k5])) _ (by simp only [cnt, Option.isSome] at hc ⊢; simp at hc ⊢; omega) (below_then hB hb5) (hO6.below hb5) (hO7.below hb5) (hO8.below hb5) (hO9.below hb5) hD6x7 hD6x8 hD6x9 hD7x8 hD7x9 hD8x9 (hV25.below hb5) (oiv_new hx5) (fun _ => rfl)
   ·exfalso
    have f0 := hI0 e4
    simp only [cnt, e0, e1, e2, e3, e4, f0] at hc
    simp at hc
    omega
 refine wp_region_held_drew (S := fun X => Below W0.heap.size W0 X) (by kernel_rfl) (Below.refl _ _).drew (fun hHeld => ?_)
 refine wpAnyH_take (i := 0) (oi := ⟨some 22, Op.fieldAddr 34 (.tmp 2) 0, 0, "frac.go:36", #[], none⟩) (v := ?_) rfl (by kernel_rfl) (by kernel_rfl) (by kernel_rfl) (fun c a w => hQ c a _ _ w) (Or.inl ⟨by rfl, ?_⟩) (by assumption) ?_
 rotate_left
 ·(intro wq hSw; go_simp; try with_reducible rfl)
 try simp only [Act.put, List.setIfInBounds_toArray, List.set_cons_zero, List.set_cons_succ]
 refine wpAnyH_take (i := 1) (oi := ⟨some 23, Op.load 32 (.tmp 22), 32, "frac.go:36", #[⟨0, .data⟩], none⟩) (v := ?_) rfl (by kernel_rfl) (by kernel_rfl) (by kernel_rfl) (fun c a w => hQ c a _ _ w) (Or.inl ⟨by rfl, ?_⟩) (by assumption) ?_
 rotate_left
 ·(intro wq hSw; have hLD := LD.out wq hSw; obtain ⟨f0, f1, f2, f3, f4, f5, f6, f7⟩ := hLD; go_simp; try with_reducible rfl)
 try simp only [Act.put, List.setIfInBounds_toArray, List.set_cons_zero, List.set_cons_succ]
 refine wpAnyH_take (i := 2) (oi := ⟨some 24, Op.load 34 (.tmp 2), 34, "frac.go:36", #[], none⟩) (v := ?_) rfl (by kernel_rfl) (by kernel_rfl) (by kernel_rfl) (fun c a w => hQ c a _ _ w) (Or.inl ⟨by rfl, ?_⟩) (by assumption) ?_
 rotate_left
 ·(intro wq hSw; have hLD := LD.out wq hSw; obtain ⟨f0, f1, f2, f3, f4, f5, f6, f7⟩ := hLD; go_simp; try with_reducible rfl)
 try simp only [Act.put, List.setIfInBounds_toArray, List.set_cons_zero, List.set_cons_succ]
 refine wpAnyH_take (i := 4) (oi := ⟨some 26, Op.fieldAddr 34 (.tmp 3) 0, 0, "frac.go:36", #[⟨13, .gcOnly .lateStores⟩], none⟩) (v := ?_) rfl (by kernel_rfl) (by kernel_rfl) (by kernel_rfl) (fun c a w => hQ c a _ _ w) (Or.inl ⟨by rfl, ?_⟩) (by assumption) ?_
 rotate_left
 ·(intro wq hSw; go_simp; try with_reducible rfl)
 try simp only [Act.put, List.setIfInBounds_toArray, List.set_cons_zero, List.set_cons_succ]
 refine wpAnyH_take (i := 5) (oi := ⟨some 27, Op.load 32 (.tmp 26), 32, "frac.go:36", #[⟨4, .data⟩, ⟨13, .gcOnly .lateStores⟩], none⟩) (v := ?_) rfl (by kernel_rfl) (by kernel_rfl) (by kernel_rfl) (fun c a w => hQ c a _ _ w) (Or.inl ⟨by rfl, ?_⟩) (by assumption) ?_
 rotate_left
 ·(intro wq hSw; have hLD := LD.out wq hSw; obtain ⟨f0, f1, f2, f3, f4, f5, f6, f7⟩ := hLD; go_simp; try with_reducible rfl)
 try simp only [Act.put, List.setIfInBounds_toArray, List.set_cons_zero, List.set_cons_succ]
 refine wpAnyH_take (i := 6) (oi := ⟨some 28, Op.load 34 (.tmp 3), 34, "frac.go:36", #[], none⟩) (v := ?_) rfl (by kernel_rfl) (by kernel_rfl) (by kernel_rfl) (fun c a w => hQ c a _ _ w) (Or.inl ⟨by rfl, ?_⟩) (by assumption) ?_
 rotate_left
 ·(intro wq hSw; have hLD := LD.out wq hSw; obtain ⟨f0, f1, f2, f3, f4, f5, f6, f7⟩ := hLD; go_simp; try with_reducible rfl)
 try simp only [Act.put, List.setIfInBounds_toArray, List.set_cons_zero, List.set_cons_succ]
 exact key _ none none none none none none _ rfl (Below.refl _ _).drew obp_none obp_none obp_none obp_none apart_none apart_none apart_none apart_none apart_none apart_none oiv_none oiv_none (fun h => by cases h)
def opsAd3 : Array Oper := #[⟨some 33, Op.load 32 (.tmp 7), 32, "frac.go:38", #[], none⟩,
 ⟨some 34, Op.load 32 (.tmp 10), 32, "frac.go:38", #[], none⟩,
 ⟨some 35, Op.call ⟨.value (.func 42), #[.tmp 33, .tmp 34], #[32, 32]⟩, 32, "frac.go:38", #[⟨0, .data⟩, ⟨1, .data⟩], none⟩,
 ⟨some 36, Op.load 32 (.tmp 9), 32, "frac.go:38", #[], none⟩,
 ⟨some 37, Op.load 32 (.tmp 10), 32, "frac.go:38", #[], none⟩,
 ⟨some 38, Op.call ⟨.value (.func 42), #[.tmp 36, .tmp 37], #[32, 32]⟩, 32, "frac.go:38", #[⟨3, .data⟩, ⟨4, .data⟩, ⟨2, .chain⟩], none⟩,
 ⟨some 11, Op.alloc 32, 0, "frac.go:38", #[], none⟩,
 ⟨some 12, Op.alloc 32, 0, "frac.go:38", #[], none⟩,
 ⟨none, Op.store 32 (.tmp 11) (.tmp 35), 0, "frac.go:38", #[⟨6, .data⟩, ⟨2, .data⟩, ⟨5, .chain⟩, ⟨0, .phase⟩, ⟨1, .phase⟩, ⟨2, .phase⟩, ⟨3, .textOnly .lateStores⟩, ⟨4, .textOnly .lateStores⟩, ⟨5, .textOnly .lateStoresUnsure⟩, ⟨6, .phase⟩, ⟨7, .phase⟩], none⟩,
 ⟨none, Op.store 32 (.tmp 12) (.tmp 38), 0, "frac.go:38", #[⟨7, .data⟩, ⟨5, .data⟩, ⟨8, .chain⟩, ⟨0, .phase⟩, ⟨1, .phase⟩, ⟨2, .phase⟩, ⟨3, .phase⟩, ⟨4, .phase⟩, ⟨5, .phase⟩, ⟨6, .phase⟩, ⟨7, .phase⟩, ⟨8, .phase⟩], none⟩]
set_option maxHeartbeats 8000000 in
theorem regAd3 {Q : Exit → Act → World → Prop} (hQ : ∀ c a d v w, Q (.panic c) (Act.put a (some d) v) w → Q (.panic c) a w) {W0 : World} {dd : List Deferred} {u0 u1 u2 u3 u4 u5 u6 u8 J5 Gg U0 Jw Gh Gd Jb Gu J1 Jx Jg Jd Gy G3 Gk Ji G4 Gs Gi G7 Jz Gq Gt Gf J7 Gv Jk Gb Jr Ju U2 J4 Gr Jo G8 Jp Jt Gl J2 J3 Go G1 Gw J8 Jy Gj Gz Jq Ga Je G9 Jm G0 G6 J9 U1 Jj Jc Gc Gx Jh G5 Jv Jl Ja J0 J6 Jf Gn Jn Gm Gp Ge Js G2 : Value} {b7 : Nat} {s7 : Bool} {a7 : Option Addr} {m7 c7 : Nat} {b9 : Nat} {s9 : Bool} {a9 : Option Addr} {m9 c9 : Nat} {b10 : Nat} {s10 : Bool} {a10 : Option Addr} {m10 c10 : Nat} {z35 z38 : Int}
  (LD : Hid (∀ X : World, Below W0.heap.size W0 X → X.cell? ⟨b7, 0, none⟩ = some (.bool s7) ∧ X.cell? ⟨b7, 1, none⟩ = some (.slice a7 m7 c7) ∧ X.cell? ⟨b9, 0, none⟩ = some (.bool s9) ∧ X.cell? ⟨b9, 1, none⟩ = some (.slice a9 m9 c9) ∧ X.cell? ⟨b10, 0, none⟩ = some (.bool s10) ∧ X.cell? ⟨b10, 1, none⟩ = some (.slice a10 m10 c10)))
  (C35 : Hid (∀ X, Below W0.heap.size W0 X → Calls Tryz.prog 42 #[.agg #[.bool s7, .slice a7 m7 c7], .agg #[.bool s10, .slice a10 m10 c10]] X (IEnd z35 X)))
  (C38 : Hid (∀ X, Below W0.heap.size W0 X → Calls Tryz.prog 42 #[.agg #[.bool s9, .slice a9 m9 c9], .agg #[.bool s10, .slice a10 m10 c10]] X (IEnd z38 X)))
  (leaf : ∀ (X : World) (t11 t12 : Nat) (v35 v38 : Value), Hid (Below W0.heap.size W0 X) → Hid (IBox X t11 z35) → Hid (IBox X t12 z38) → W0.heap.size ≤ t11 → W0.heap.size ≤ t12 → t11 ≠ t12 → Q .normal ⟨#[u0, u1, u2, u3, u4, u5, u6, .pointer (some ⟨b7, 0, none⟩), u8, .pointer (some ⟨b9, 0, none⟩), .pointer (some ⟨b10, 0, none⟩), .pointer (some ⟨t11, 0, none⟩), .pointer (some ⟨t12, 0, none⟩), U0, Jw, Gh, Gd, Jb, Gu, J1, Jx, Jg, Jd, Gy, G3, Gk, Ji, G4, Gs, Gi, G7, Jz, Gq, .agg #[.bool s7, .slice a7 m7 c7], .agg #[.bool s10, .slice a10 m10 c10], v35, .agg #[.bool s9, .slice a9 m9 c9], .agg #[.bool s10, .slice a10 m10 c10], v38, Jr, Ju, U2, J4, Gr, Jo, G8, Jp, Jt, Gl, J2, J3, Go, G1, Gw, J8, Jy, Gj, Gz, Jq, Ga, Je, G9, Jm, G0, G6, J9, U1, Jj, Jc, Gc, Gx, Jh, G5, Jv, Jl, Ja, J0, J6, Jf, Gn, Jn, Gm, Gp, Ge, Js, G2], dd⟩ X) :
  (Code.region 3 opsAd3 true).wp Tryz.prog Q ⟨#[u0, u1, u2, u3, u4, u5, u6, .pointer (some ⟨b7, 0, none⟩), u8, .pointer (some ⟨b9, 0, none⟩), .pointer (some ⟨b10, 0, none⟩), J5, Gg, U0, Jw, Gh, Gd, Jb, Gu, J1, Jx, Jg, Jd, Gy, G3, Gk, Ji, G4, Gs, Gi, G7, Jz, Gq, Gt, Gf, J7, Gv, Jk, Gb, Jr, Ju, U2, J4, Gr, Jo, G8, Jp, Jt, Gl, J2, J3, Go, G1, Gw, J8, Jy, Gj, Gz, Jq, Ga, Je, G9, Jm, G0, G6, J9, U1, Jj, Jc, Gc, Gx, Jh, G5, Jv, Jl, Ja, J0, J6, Jf, Gn, Jn, Gm, Gp, Ge, Js, G2], dd⟩ W0 := by
 have RDY : ∀ x11 x12 x35 x38 : Bool, ((Region.ready .any opsAd3 #[true, true, x35, true, true, x38, x11, x12, false, false]).all fun i => (i == 6 && !x11) || ((i == 7 && !x12) || ((i == 2 && (!x35)) || ((i == 5 && (!x38 && (x35))) || ((i == 8 && (x11 && (x12 && (x35 && (x38)))))))))) = true := by decide +kernel
 have RNE : ∀ x11 x12 x35 x38 : Bool, Region.ready .any opsAd3 #[true, true, x35, true, true, x38, x11, x12, false, false] ≠ [] := by decide +kernel
 have key : ∀ (n : Nat) (o11 o12 : Option Nat) (k35 : Option Value) (k38 : Option Value) (X : World), cnt o11 + cnt o12 + cnt k35 + cnt k38 = n → Below W0.heap.size W0 X → ObP W0.heap.size X o11 → ObP W0.heap.size X o12 → Oapart o11 o12 → OIv X k35 z35 → OIv X k38 z38 → wpAnyH Tryz.prog .any opsAd3 Q (fun X => Below W0.heap.size W0 X) (n + 2) #[true, true, k35.isSome, true, true, k38.isSome, o11.isSome, o12.isSome, false, false] ⟨#[u0, u1, u2, u3, u4, u5, u6, .pointer (some ⟨b7, 0, none⟩), u8, .pointer (some ⟨b9, 0, none⟩), .pointer (some ⟨b10, 0, none⟩), optP J5 o11, optP Gg o12, U0, Jw, Gh, Gd, Jb, Gu, J1, Jx, Jg, Jd, Gy, G3, Gk, Ji, G4, Gs, Gi, G7, Jz, Gq, .agg #[.bool s7, .slice a7 m7 c7], .agg #[.bool s10, .slice a10 m10 c10], optV J7 k35, .agg #[.bool s9, .slice a9 m9 c9], .agg #[.bool s10, .slice a10 m10 c10], optV Gb k38, Jr, Ju, U2, J4, Gr, Jo, G8, Jp, Jt, Gl, J2, J3, Go, G1, Gw, J8, Jy, Gj, Gz, Jq, Ga, Je, G9, Jm, G0, G6, J9, U1, Jj, Jc, Gc, Gx, Jh, G5, Jv, Jl, Ja, J0, J6, Jf, Gn, Jn, Gm, Gp, Ge, Js, G2], dd⟩ X := by
  intro n
  induction n using Nat.strongRecOn with
  | ind n ih =>
  intro o11 o12 k35 k38 X hc hB hO11 hO12 hD11x12 hV35 hV38
  rcases Nat.eq_zero_or_pos n with h0 | h0
  ·subst h0
   clear ih
   obtain ⟨t11, rfl⟩ := cnt_some (o := o11) (by omega)
   obtain ⟨t12, rfl⟩ := cnt_some (o := o12) (by omega)
   obtain ⟨v35, rfl⟩ := cnt_some (o := k35) (by omega)
   obtain ⟨v38, rfl⟩ := cnt_some (o := k38) (by omega)
   obtain ⟨L11, T11⟩ := hO11 t11 rfl
   obtain ⟨L12, T12⟩ := hO12 t12 rfl
   have D11x12 : t11 ≠ t12 := fun e => hD11x12 t11 rfl (congrArg some e.symm)
   obtain ⟨s35v, a35v, m35v, c35v, rfl, hi35⟩ := hV35 _ rfl
   obtain ⟨s38v, a38v, m38v, c38v, rfl, hi38⟩ := hV38 _ rfl
   clear hO11 hO12 hD11x12 hV35 hV38 hc
   simp only [optP, optV, Option.isSome]
   refine wpAnyH_ready (rs := [8]) (by kernel_rfl) (by simp) ?_
   obtain ⟨_, _, _, _, l11, _⟩ := id T11
   obtain ⟨r0, r1, r2, r3⟩ := cells2 l11
   refine AllReadyH.cons (o := ⟨none, Op.store 32 (.tmp 11) (.tmp 35), 0, "frac.go:38", #[⟨6, .data⟩, ⟨2, .data⟩, ⟨5, .chain⟩, ⟨0, .phase⟩, ⟨1, .phase⟩, ⟨2, .phase⟩, ⟨3, .textOnly .lateStores⟩, ⟨4, .textOnly .lateStores⟩, ⟨5, .textOnly .lateStoresUnsure⟩, ⟨6, .phase⟩, ⟨7, .phase⟩], none⟩) rfl (fun K hK => ?_) AllReadyH.nil
   go_simp
   refine hK.out _ _ ?_ (fun hHeld => ?_)
   ·exact below_set2 hB L11
   clear hK K r0 r1 r2 r3 hHeld
   try simp only [List.setIfInBounds_toArray, List.set_cons_zero, List.set_cons_succ]
   have T11y1 := T11.store (s := s35v) (a := a35v) (m := m35v) (c := c35v) hi35
   have T12y1 := T11.other (s := s35v) (a := a35v) (m := m35v) (c := c35v) T12 (Ne.symm D11x12)
   have hi38y1 := iat_set (iat_set hi38 l11 0 (.bool s35v)) (l11.set 0 (.bool s35v)) 1 (.slice a35v m35v c35v)
   have hBy1 := below_set2 (p := t11) (u := .bool s35v) (v := .slice a35v m35v c35v) hB L11
   clear l11 hB T11 T12 hi35 hi38
   generalize (X.setCell ⟨t11, 0, none⟩ (.bool s35v)).setCell ⟨t11, 1, none⟩ (.slice a35v m35v c35v) = Y1 at *
   refine wpAnyH_ready (rs := [9]) (by kernel_rfl) (by simp) ?_
   obtain ⟨_, _, _, _, l12, _⟩ := id T12y1
   obtain ⟨r0, r1, r2, r3⟩ := cells2 l12
   refine AllReadyH.cons (o := ⟨none, Op.store 32 (.tmp 12) (.tmp 38), 0, "frac.go:38", #[⟨7, .data⟩, ⟨5, .data⟩, ⟨8, .chain⟩, ⟨0, .phase⟩, ⟨1, .phase⟩, ⟨2, .phase⟩, ⟨3, .phase⟩, ⟨4, .phase⟩, ⟨5, .phase⟩, ⟨6, .phase⟩, ⟨7, .phase⟩, ⟨8, .phase⟩], none⟩) rfl (fun K hK => ?_) AllReadyH.nil
   go_simp
   refine hK.out _ _ ?_ (fun hHeld => ?_)
   ·exact below_set2 hBy1 L12
   clear hK K r0 r1 r2 r3 hHeld
   try simp only [List.setIfInBounds_toArray, List.set_cons_zero, List.set_cons_succ]
   have T12y2 := T12y1.store (s := s38v) (a := a38v) (m := m38v) (c := c38v) hi38y1
   have T11y2 := T12y1.other (s := s38v) (a := a38v) (m := m38v) (c := c38v) T11y1 (Ne.symm (Ne.symm D11x12))
   have hBy2 := below_set2 (p := t12) (u := .bool s38v) (v := .slice a38v m38v c38v) hBy1 L12
   clear l12 hBy1 T11y1 T12y1 hi38y1
   generalize (Y1.setCell ⟨t12, 0, none⟩ (.bool s38v)).setCell ⟨t12, 1, none⟩ (.slice a38v m38v c38v) = Y2 at *
   refine wpAnyH_done (by kernel_rfl) ?_ _
   exact leaf Y2 t11 t12 _ _ (Lib.hid hBy2) (Lib.hid T11y2) (Lib.hid T12y2) L11 L12 D11x12
  ·refine wpAnyH_more (ops := opsAd3) (RNE _ _ _ _) h0 (fun m hm i hi => ?_)
   have hcase := List.all_eq_true.1 (RDY _ _ _ _) i hi
   simp only [Bool.or_eq_true, Bool.and_eq_true, beq_iff_eq, Bool.not_eq_true'] at hcase
   clear hi h0
   rcases hcase with ⟨rfl, hb⟩ | ⟨rfl, hb⟩ | ⟨rfl, hb⟩ | ⟨rfl, hb, g0⟩ | ⟨rfl, e0, e1, e2, e3⟩
   ·obtain rfl := not_some hb
    refine (AllReadyH.cons (o := ⟨some 11, Op.alloc 32, 0, "frac.go:38", #[], none⟩) rfl (fun K hK => ?_) AllReadyH.nil) 6 (List.mem_singleton.2 rfl)
    go_simp
    have hb1 := below_one X (.cells #[.bool false, .slice none 0 0] 32)
    refine hK.out _ _ ?_ (fun hHeld => ?_)
    ·exact below_then hB hb1
    clear hK K
    try simp only [List.setIfInBounds_toArray, List.set_cons_zero, List.set_cons_succ]
    subst hm
    exact ih m (by omega) (some X.heap.size) o12 k35 k38 _ (by simp only [cnt, Option.isSome] at hc ⊢; simp at hc ⊢; omega) (below_then hB hb1) (obp_new hB) (hO12.below hb1) (apart_new hO12) (hV35.below hb1) (hV38.below hb1)
   ·obtain rfl := not_some hb
    refine (AllReadyH.cons (o := ⟨some 12, Op.alloc 32, 0, "frac.go:38", #[], none⟩) rfl (fun K hK => ?_) AllReadyH.nil) 7 (List.mem_singleton.2 rfl)
    go_simp
    have hb1 := below_one X (.cells #[.bool false, .slice none 0 0] 32)
    refine hK.out _ _ ?_ (fun hHeld => ?_)
    ·exact below_then hB hb1
    clear hK K
    try simp only [List.setIfInBounds_toArray, List.set_cons_zero, List.set_cons_succ]
    subst hm
    exact ih m (by omega) o11 (some X.heap.size) k35 k38 _ (by simp only [cnt, Option.isSome] at hc ⊢; simp at hc ⊢; omega) (below_then hB hb1) (hO11.below hb1) (obp_new hB) (apart_new' hO11) (hV35.below hb1) (hV38.below hb1)
   ·obtain rfl := not_some hb
    have C := C35.out X hB
    unfold IEnd at C
    have HC := Lib.hid C
    clear C
    refine (AllReadyH.cons (o := ⟨some 35, Op.call ⟨.value (.func 42), #[.tmp 33, .tmp 34], #[32, 32]⟩, 32, "frac.go:38", #[⟨0, .data⟩, ⟨1, .data⟩], none⟩) rfl (fun K hK => ?_) AllReadyH.nil) 2 (List.mem_singleton.2 rfl)
    go_simp
    go_at_call 42
    refine HC.out.mono ?_
    rintro e w5 ⟨b5, a5, m5, k5, rfl, hx5, hb5⟩
    go_wp2_with fail
    refine hK.out _ _ ?_ (fun hHeld => ?_)
    ·exact below_then hB hb5
    clear hK K
    try simp only [List.setIfInBounds_toArray, List.set_cons_zero, List.set_cons_succ]
    subst hm
    exact ih m (by omega) o11 o12 (some (.agg #[.bool b5, .slice a5 m5 k5])) k38 _ (by simp only [cnt, Option.isSome] at hc ⊢; simp at hc ⊢; omega) (below_then hB hb5) (hO11.below hb5) (hO12.below hb5) hD11x12 (oiv_new hx5) (hV38.below hb5)
   ·obtain rfl := not_some hb
    obtain ⟨w35, rfl⟩ := is_some g0
    have C := C38.out X hB
    unfold IEnd at C
    have HC := Lib.hid C
    clear C
    refine (AllReadyH.cons (o := ⟨some 38, Op.call ⟨.value (.func 42), #[.tmp 36, .tmp 37], #[32, 32]⟩, 32, "frac.go:38", #[⟨3, .data⟩, ⟨4, .data⟩, ⟨2, .chain⟩], none⟩) rfl (fun K hK => ?_) AllReadyH.nil) 5 (List.mem_singleton.2 rfl)
    go_simp
    go_at_call 42
    refine HC.out.mono ?_
    rintro e w5 ⟨b5, a5, m5, k5, rfl, hx5, hb5⟩
    go_wp2_with fail
    refine hK.out _ _ ?_ (fun hHeld => ?_)
    ·exact below_then hB hb5
    clear hK K
    try simp only [List.setIfInBounds_toArray, List.set_cons_zero, List.set_cons_succ]
    subst hm
    exact ih m (by omega) o11 o12 (some _) (some (.agg #[.bool b5, .slice a5 m5 k5])) _ (by simp only [cnt, Option.isSome] at hc ⊢; simp at hc ⊢; omega) (below_then hB hb5) (hO11.below hb5) (hO12.below hb5) hD11x12 (hV35.below hb5) (oiv_new hx5)
   ·exfalso
    simp only [cnt, e0, e1, e2, e3] at hc
    simp at hc
    omega
 refine wp_region_held_drew (S := fun X => Below W0.heap.size W0 X) (by kernel_rfl) (Below.refl _ _).drew (fun hHeld => ?_)
 refine wpAnyH_take (i := 0) (oi := ⟨some 33, Op.load 32 (.tmp 7), 32, "frac.go:38", #[], none⟩) (v := ?_) rfl (by kernel_rfl) (by kernel_rfl) (by kernel_rfl) (fun c a w => hQ c a _ _ w) (Or.inl ⟨by rfl, ?_⟩) (by assumption) ?_
 rotate_left
 ·(intro wq hSw; have hLD := LD.out wq hSw; obtain ⟨f0, f1, f2, f3, f4, f5⟩ := hLD; go_simp; try with_reducible rfl)
 try simp only [Act.put, List.setIfInBounds_toArray, List.set_cons_zero, List.set_cons_succ]
 refine wpAnyH_take (i := 1) (oi := ⟨some 34, Op.load 32 (.tmp 10), 32, "frac.go:38", #[], none⟩) (v := ?_) rfl (by kernel_rfl) (by kernel_rfl) (by kernel_rfl) (fun c a w => hQ c a _ _ w) (Or.inl ⟨by rfl, ?_⟩) (by assumption) ?_
 rotate_left
 ·(intro wq hSw; have hLD := LD.out wq hSw; obtain ⟨f0, f1, f2, f3, f4, f5⟩ := hLD; go_simp; try with_reducible rfl)
 try simp only [Act.put, List.setIfInBounds_toArray, List.set_cons_zero, List.set_cons_succ]
 refine wpAnyH_take (i := 3) (oi := ⟨some 36, Op.load 32 (.tmp 9), 32, "frac.go:38", #[], none⟩) (v := ?_) rfl (by kernel_rfl) (by kernel_rfl) (by kernel_rfl) (fun c a w => hQ c a _ _ w) (Or.inl ⟨by rfl, ?_⟩) (by assumption) ?_
 rotate_left
 ·(intro wq hSw; have hLD := LD.out wq hSw; obtain ⟨f0, f1, f2, f3, f4, f5⟩ := hLD; go_simp; try with_reducible rfl)
 try simp only [Act.put, List.setIfInBounds_toArray, List.set_cons_zero, List.set_cons_succ]
 refine wpAnyH_take (i := 4) (oi := ⟨some 37, Op.load 32 (.tmp 10), 32, "frac.go:38", #[], none⟩) (v := ?_) rfl (by kernel_rfl) (by kernel_rfl) (by kernel_rfl) (fun c a w => hQ c a _ _ w) (Or.inl ⟨by rfl, ?_⟩) (by assumption) ?_
 rotate_left
 ·(intro wq hSw; have hLD := LD.out wq hSw; obtain ⟨f0, f1, f2, f3, f4, f5⟩ := hLD; go_simp; try with_reducible rfl)
 try simp only [Act.put, List.setIfInBounds_toArray, List.set_cons_zero, List.set_cons_succ]
 exact key _ none none none none _ rfl (Below.refl _ _).drew obp_none obp_none apart_none oiv_none oiv_none
def opsDv3 : Array Oper := #[⟨some 12, Op.load 34 (.tmp 3), 34, "frac.go:67", #[], none⟩,
 ⟨some 13, Op.call ⟨.value (.func 34), #[.tmp 12], #[34]⟩, 32, "frac.go:67", #[⟨0, .data⟩], none⟩,
 ⟨some 14, Op.fieldAddr 34 (.tmp 3) 0, 0, "frac.go:67", #[⟨6, .gcOnly .lateStores⟩], none⟩,
 ⟨some 15, Op.load 32 (.tmp 14), 32, "frac.go:67", #[⟨2, .data⟩, ⟨6, .gcOnly .lateStores⟩], none⟩,
 ⟨some 6, Op.alloc 32, 0, "frac.go:67", #[], none⟩,
 ⟨some 7, Op.alloc 32, 0, "frac.go:67", #[], none⟩,
 ⟨none, Op.store 32 (.tmp 6) (.tmp 13), 0, "frac.go:67", #[⟨4, .data⟩, ⟨1, .data⟩, ⟨1, .chain⟩, ⟨0, .phase⟩, ⟨1, .phase⟩, ⟨2, .textOnly .lateStores⟩, ⟨3, .textOnly .lateStores⟩, ⟨4, .phase⟩, ⟨5, .phase⟩], none⟩,
 ⟨none, Op.store 32 (.tmp 7) (.tmp 15), 0, "frac.go:67", #[⟨5, .data⟩, ⟨3, .data⟩, ⟨6, .chain⟩, ⟨0, .phase⟩, ⟨1, .phase⟩, ⟨2, .phase⟩, ⟨3, .phase⟩, ⟨4, .phase⟩, ⟨5, .phase⟩, ⟨6, .phase⟩], none⟩]
set_option maxHeartbeats 8000000 in
theorem regDv3 {Q : Exit → Act → World → Prop} (hQ : ∀ c a d v w, Q (.panic c) (Act.put a (some d) v) w → Q (.panic c) a w) {W0 : World} {dd : List Deferred} {u0 u1 u2 u4 u5 u6 u7 u8 u9 G0 G3 G5 Gi Gc G7 G1 Ga Gh G2 Gf Gd Gb Gk G4 G9 Gj G6 Ge G8 Gl Gg : Value} {b3 : Nat} {s3 : Bool} {a3 : Option Addr} {m3 c3 : Nat} {s3x : Bool} {a3x : Option Addr} {m3x c3x : Nat} {z13 z15 : Int}
  (LD : Hid (∀ X : World, Below W0.heap.size W0 X → X.cell? ⟨b3, 0, none⟩ = some (.bool s3) ∧ X.cell? ⟨b3, 1, none⟩ = some (.slice a3 m3 c3) ∧ X.cell? ⟨b3, 2, none⟩ = some (.bool s3x) ∧ X.cell? ⟨b3, 3, none⟩ = some (.slice a3x m3x c3x)))
  (I15 : Hid (IAt W0 (.agg #[.bool s3, .slice a3 m3 c3]) z15))
  (C13 : Hid (∀ X, Below W0.heap.size W0 X → Calls Tryz.prog 34 #[.agg #[.bool s3, .slice a3 m3 c3, .bool s3x, .slice a3x m3x c3x]] X (IEnd z13 X)))
  (leaf : ∀ (X : World) (t6 t7 : Nat) (v13 : Value), Hid (Below W0.heap.size W0 X) → Hid (IBox X t6 z13) → Hid (IBox X t7 z15) → W0.heap.size ≤ t6 → W0.heap.size ≤ t7 → t6 ≠ t7 → Q .normal ⟨#[u0, u1, u2, .pointer (some ⟨b3, 0, none⟩), u4, u5, .pointer (some ⟨t6, 0, none⟩), .pointer (some ⟨t7, 0, none⟩), u8, u9, G0, G3, .agg #[.bool s3, .slice a3 m3 c3, .bool s3x, .slice a3x m3x c3x], v13, .pointer (some ⟨b3, 0, none⟩), .agg #[.bool s3, .slice a3 m3 c3], G1, Ga, Gh, G2, Gf, Gd, Gb, Gk, G4, G9, Gj, G6, Ge, G8, Gl, Gg], dd⟩ X) :
  (Code.region 3 opsDv3 true).wp Tryz.prog Q ⟨#[u0, u1, u2, .pointer (some ⟨b3, 0, none⟩), u4, u5, u6, u7, u8, u9, G0, G3, G5, Gi, Gc, G7, G1, Ga, Gh, G2, Gf, Gd, Gb, Gk, G4, G9, Gj, G6, Ge, G8, Gl, Gg], dd⟩ W0 := by
 have RDY : ∀ x6 x7 x13 : Bool, ((Region.ready .any opsDv3 #[true, x13, true, true, x6, x7, false, false]).all fun i => (i == 4 && !x6) || ((i == 5 && !x7) || ((i == 1 && (!x13)) || ((i == 6 && (x6 && (x7 && (x13)))))))) = true := by decide +kernel
 have RNE : ∀ x6 x7 x13 : Bool, Region.ready .any opsDv3 #[true, x13, true, true, x6, x7, false, false] ≠ [] := by decide +kernel
 have key : ∀ (n : Nat) (o6 o7 : Option Nat) (k13 : Option Value) (X : World), cnt o6 + cnt o7 + cnt k13 = n → Below W0.heap.size W0 X → ObP W0.heap.size X o6 → ObP W0.heap.size X o7 → Oapart o6 o7 → OIv X k13 z13 → wpAnyH Tryz.prog .any opsDv3 Q (fun X => Below W0.heap.size W0 X) (n + 2) #[true, k13.isSome, true, true, o6.isSome, o7.isSome, false, false] ⟨#[u0, u1, u2, .pointer (some ⟨b3, 0, none⟩), u4, u5, optP u6 o6, optP u7 o7, u8, u9, G0, G3, .agg #[.bool s3, .slice a3 m3 c3, .bool s3x, .slice a3x m3x c3x], optV Gi k13, .pointer (some ⟨b3, 0, none⟩), .agg #[.bool s3, .slice a3 m3 c3], G1, Ga, Gh, G2, Gf, Gd, Gb, Gk, G4, G9, Gj, G6, Ge, G8, Gl, Gg], dd⟩ X := by
  intro n
  induction n using Nat.strongRecOn with
  | ind n ih =>
  intro o6 o7 k13 X hc hB hO6 hO7 hD6x7 hV13
  rcases Nat.eq_zero_or_pos n with h0 | h0
  ·subst h0
   clear ih
   obtain ⟨t6, rfl⟩ := cnt_some (o := o6) (by omega)
   obtain ⟨t7, rfl⟩ := cnt_some (o := o7) (by omega)
   obtain ⟨v13, rfl⟩ := cnt_some (o := k13) (by omega)
   obtain ⟨L6, T6⟩ := hO6 t6 rfl
   obtain ⟨L7, T7⟩ := hO7 t7 rfl
   have D6x7 : t6 ≠ t7 := fun e => hD6x7 t6 rfl (congrArg some e.symm)
   obtain ⟨s13v, a13v, m13v, c13v, rfl, hi13⟩ := hV13 _ rfl
   have hi15 := iat_keeps I15.out hB
   clear hO6 hO7 hD6x7 hV13 hc
   simp only [optP, optV, Option.isSome]
   refine wpAnyH_ready (rs := [6]) (by kernel_rfl) (by simp) ?_
   obtain ⟨_, _, _, _, l6, _⟩ := id T6
   obtain ⟨r0, r1, r2, r3⟩ := cells2 l6
   refine AllReadyH.cons (o := ⟨none, Op.store 32 (.tmp 6) (.tmp 13), 0, "frac.go:67", #[⟨4, .data⟩, ⟨1, .data⟩, ⟨1, .chain⟩, ⟨0, .phase⟩, ⟨1, .phase⟩, ⟨2, .textOnly .lateStores⟩, ⟨3, .textOnly .lateStores⟩, ⟨4, .phase⟩, ⟨5, .phase⟩], none⟩) rfl (fun K hK => ?_) AllReadyH.nil
   go_simp
   refine hK.out _ _ ?_ (fun hHeld => ?_)
   ·exact below_set2 hB L6
   clear hK K r0 r1 r2 r3 hHeld
   try simp only [List.setIfInBounds_toArray, List.set_cons_zero, List.set_cons_succ]
   have T6y1 := T6.store (s := s13v) (a := a13v) (m := m13v) (c := c13v) hi13
   have T7y1 := T6.other (s := s13v) (a := a13v) (m := m13v) (c := c13v) T7 (Ne.symm D6x7)
   have hi15y1 := iat_set (iat_set hi15 l6 0 (.bool s13v)) (l6.set 0 (.bool s13v)) 1 (.slice a13v m13v c13v)
   have hBy1 := below_set2 (p := t6) (u := .bool s13v) (v := .slice a13v m13v c13v) hB L6
   clear l6 hB T6 T7 hi13 hi15
   generalize (X.setCell ⟨t6, 0, none⟩ (.bool s13v)).setCell ⟨t6, 1, none⟩ (.slice a13v m13v c13v) = Y1 at *
   refine wpAnyH_ready (rs := [7]) (by kernel_rfl) (by simp) ?_
   obtain ⟨_, _, _, _, l7, _⟩ := id T7y1
   obtain ⟨r0, r1, r2, r3⟩ := cells2 l7
   refine AllReadyH.cons (o := ⟨none, Op.store 32 (.tmp 7) (.tmp 15), 0, "frac.go:67", #[⟨5, .data⟩, ⟨3, .data⟩, ⟨6, .chain⟩, ⟨0, .phase⟩, ⟨1, .phase⟩, ⟨2, .phase⟩, ⟨3, .phase⟩, ⟨4, .phase⟩, ⟨5, .phase⟩, ⟨6, .phase⟩], none⟩) rfl (fun K hK => ?_) AllReadyH.nil
   go_simp
   refine hK.out _ _ ?_ (fun hHeld => ?_)
   ·exact below_set2 hBy1 L7
   clear hK K r0 r1 r2 r3 hHeld
   try simp only [List.setIfInBounds_toArray, List.set_cons_zero, List.set_cons_succ]
   have T7y2 := T7y1.store (s := s3) (a := a3) (m := m3) (c := c3) hi15y1
   have T6y2 := T7y1.other (s := s3) (a := a3) (m := m3) (c := c3) T6y1 (Ne.symm (Ne.symm D6x7))
   have hBy2 := below_set2 (p := t7) (u := .bool s3) (v := .slice a3 m3 c3) hBy1 L7
   clear l7 hBy1 T6y1 T7y1 hi15y1
   generalize (Y1.setCell ⟨t7, 0, none⟩ (.bool s3)).setCell ⟨t7, 1, none⟩ (.slice a3 m3 c3) = Y2 at *
   refine wpAnyH_done (by kernel_rfl) ?_ _
   exact leaf Y2 t6 t7 _ (Lib.hid hBy2) (Lib.hid T6y2) (Lib.hid T7y2) L6 L7 D6x7
  ·refine wpAnyH_more (ops := opsDv3) (RNE _ _ _) h0 (fun m hm i hi => ?_)
   have hcase := List.all_eq_true.1 (RDY _ _ _) i hi
   simp only [Bool.or_eq_true, Bool.and_eq_true, beq_iff_eq, Bool.not_eq_true'] at hcase
   clear hi h0
   rcases hcase with ⟨rfl, hb⟩ | ⟨rfl, hb⟩ | ⟨rfl, hb⟩ | ⟨rfl, e0, e1, e2⟩
   ·obtain rfl := not_some hb
    refine (AllReadyH.cons (o := ⟨some 6, Op.alloc 32, 0, "frac.go:67", #[], none⟩) rfl (fun K hK => ?_) AllReadyH.nil) 4 (List.mem_singleton.2 rfl)
    go_simp
    have hb1 := below_one X (.cells #[.bool false, .slice none 0 0] 32)
    refine hK.out _ _ ?_ (fun hHeld => ?_)
    ·exact below_then hB hb1
    clear hK K
    try simp only [List.setIfInBounds_toArray, List.set_cons_zero, List.set_cons_succ]
    subst hm
    exact ih m (by omega) (some X.heap.size) o7 k13 _ (by simp only [cnt, Option.isSome] at hc ⊢; simp at hc ⊢; omega) (below_then hB hb1) (obp_new hB) (hO7.below hb1) (apart_new hO7) (hV13.below hb1)
   ·obtain rfl := not_some hb
    refine (AllReadyH.cons (o := ⟨some 7, Op.alloc 32, 0, "frac.go:67", #[], none⟩) rfl (fun K hK => ?_) AllReadyH.nil) 5 (List.mem_singleton.2 rfl)
    go_simp
    have hb1 := below_one X (.cells #[.bool false, .slice none 0 0] 32)
    refine hK.out _ _ ?_ (fun hHeld => ?_)
    ·exact below_then hB hb1
    clear hK K
    try simp only [List.setIfInBounds_toArray, List.set_cons_zero, List.set_cons_succ]
    subst hm
    exact ih m (by omega) o6 (some X.heap.size) k13 _ (by simp only [cnt, Option.isSome] at hc ⊢; simp at hc ⊢; omega) (below_then hB hb1) (hO6.below hb1) (obp_new hB) (apart_new' hO6) (hV13.below hb1)
   ·obtain rfl := not_some hb
    have C := C13.out X hB
    unfold IEnd at C
    have HC := Lib.hid C
    clear C
    refine (AllReadyH.cons (o := ⟨some 13, Op.call ⟨.value (.func 34), #[.tmp 12], #[34]⟩, 32, "frac.go:67", #[⟨0, .data⟩], none⟩) rfl (fun K hK => ?_) AllReadyH.nil) 1 (List.mem_singleton.2 rfl)
    go_simp
    go_at_call 34
    refine HC.out.mono ?_
    rintro e w5 ⟨b5, a5, m5, k5, rfl, hx5, hb5⟩
    go_wp2_with fail
    refine hK.out _ _ ?_ (fun hHeld => ?_)
    ·exact below_then hB hb5
    clear hK K
    try simp only [List.setIfInBounds_toArray, List.set_cons_zero, List.set_cons_succ]
    subst hm
    exact ih m (by omega) o6 o7 (some (.agg #[.bool b5, .slice a5 m5 k5])) _ (by simp only [cnt, Option.isSome] at hc ⊢; simp at hc ⊢; omega) (below_then hB hb5) (hO6.below hb5) (hO7.below hb5) hD6x7 (oiv_new hx5)
   ·exfalso
    simp only [cnt, e0, e1, e2] at hc
    simp at hc
    omega
 refine wp_region_held_drew (S := fun X => Below W0.heap.size W0 X) (by kernel_rfl) (Below.refl _ _).drew (fun hHeld => ?_)
 refine wpAnyH_take (i := 0) (oi := ⟨some 12, Op.load 34 (.tmp 3), 34, "frac.go:67", #[], none⟩) (v := ?_) rfl (by kernel_rfl) (by kernel_rfl) (by kernel_rfl) (fun c a w => hQ c a _ _ w) (Or.inl ⟨by rfl, ?_⟩) (by assumption) ?_
 rotate_left
 ·(intro wq hSw; have hLD := LD.out wq hSw; obtain ⟨f0, f1, f2, f3⟩ := hLD; go_simp; try with_reducible rfl)
 try simp only [Act.put, List.setIfInBounds_toArray, List.set_cons_zero, List.set_cons_succ]
 refine wpAnyH_take (i := 2) (oi := ⟨some 14, Op.fieldAddr 34 (.tmp 3) 0, 0, "frac.go:67", #[⟨6, .gcOnly .lateStores⟩], none⟩) (v := ?_) rfl (by kernel_rfl) (by kernel_rfl) (by kernel_rfl) (fun c a w => hQ c a _ _ w) (Or.inl ⟨by rfl, ?_⟩) (by assumption) ?_
 rotate_left
 ·(intro wq hSw; go_simp; try with_reducible rfl)
 try simp only [Act.put, List.setIfInBounds_toArray, List.set_cons_zero, List.set_cons_succ]
 refine wpAnyH_take (i := 3) (oi := ⟨some 15, Op.load 32 (.tmp 14), 32, "frac.go:67", #[⟨2, .data⟩, ⟨6, .gcOnly .lateStores⟩], none⟩) (v := ?_) rfl (by kernel_rfl) (by kernel_rfl) (by kernel_rfl) (fun c a w => hQ c a _ _ w) (Or.inl ⟨by rfl, ?_⟩) (by assumption) ?_
 rotate_left
 ·(intro wq hSw; have hLD := LD.out wq hSw; obtain ⟨f0, f1, f2, f3⟩ := hLD; go_simp; try with_reducible rfl)
 try simp only [Act.put, List.setIfInBounds_toArray, List.set_cons_zero, List.set_cons_succ]
 exact key _ none none none _ rfl (Below.refl _ _).drew obp_none obp_none apart_none oiv_none
def opsCp1 : Array Oper := #[⟨some 11, Op.load 34 (.tmp 2), 34, "frac.go:118", #[], none⟩,
 ⟨some 12, Op.call ⟨.value (.func 34), #[.tmp 11], #[34]⟩, 32, "frac.go:118", #[⟨0, .data⟩], none⟩,
 ⟨some 13, Op.load 34 (.tmp 3), 34, "frac.go:118", #[], none⟩,
 ⟨some 14, Op.call ⟨.value (.func 34), #[.tmp 13], #[34]⟩, 32, "frac.go:118", #[⟨2, .data⟩, ⟨1, .chain⟩], none⟩,
 ⟨some 5, Op.alloc 32, 0, "frac.go:118", #[], none⟩,
 ⟨some 6, Op.alloc 32, 0, "frac.go:118", #[], none⟩,
 ⟨none, Op.store 32 (.tmp 5) (.tmp 12), 0, "frac.go:118", #[⟨4, .data⟩, ⟨1, .data⟩, ⟨3, .chain⟩, ⟨0, .phase⟩, ⟨1, .phase⟩, ⟨2, .textOnly .lateStores⟩, ⟨3, .textOnly .lateStoresUnsure⟩, ⟨4, .phase⟩, ⟨5, .phase⟩], none⟩,
 ⟨none, Op.store 32 (.tmp 6) (.tmp 14), 0, "frac.go:118", #[⟨5, .data⟩, ⟨3, .data⟩, ⟨6, .chain⟩, ⟨0, .phase⟩, ⟨1, .phase⟩, ⟨2, .phase⟩, ⟨3, .phase⟩, ⟨4, .phase⟩, ⟨5, .phase⟩, ⟨6, .phase⟩], none⟩]
set_option maxHeartbeats 8000000 in
theorem regCp1 {Q : Exit → Act → World → Prop} (hQ : ∀ c a d v w, Q (.panic c) (Act.put a (some d) v) w → Q (.panic c) a w) {W0 : World} {dd : List Deferred} {u0 u1 u4 u5 u6 u7 u8 u9 G0 Ga Ge J1 Gu Gg G5 Gn J0 G6 Gy Gv Gp J5 Gb Gk J4 Gf Gw Gh J8 Gz Gr Gx Gd Gi J2 J7 G1 G8 Gm J6 G9 Gs G2 Gt G3 Gl Go G7 Gc Gq G4 J3 Gj : Value} {b2 : Nat} {s2 : Bool} {a2 : Option Addr} {m2 c2 : Nat} {s2x : Bool} {a2x : Option Addr} {m2x c2x : Nat} {b3 : Nat} {s3 : Bool} {a3 : Option Addr} {m3 c3 : Nat} {s3x : Bool} {a3x : Option Addr} {m3x c3x : Nat} {z12 z14 : Int}
  (LD : Hid (∀ X : World, Below W0.heap.size W0 X → X.cell? ⟨b2, 0, none⟩ = some (.bool s2) ∧ X.cell? ⟨b2, 1, none⟩ = some (.slice a2 m2 c2) ∧ X.cell? ⟨b2, 2, none⟩ = some (.bool s2x) ∧ X.cell? ⟨b2, 3, none⟩ = some (.slice a2x m2x c2x) ∧ X.cell? ⟨b3, 0, none⟩ = some (.bool s3) ∧ X.cell? ⟨b3, 1, none⟩ = some (.slice a3 m3 c3) ∧ X.cell? ⟨b3, 2, none⟩ = some (.bool s3x) ∧ X.cell? ⟨b3, 3, none⟩ = some (.slice a3x m3x c3x)))
  (C12 : Hid (∀ X, Below W0.heap.size W0 X → Calls Tryz.prog 34 #[.agg #[.bool s2, .slice a2 m2 c2, .bool s2x, .slice a2x m2x c2x]] X (IEnd z12 X)))
  (C14 : Hid (∀ X, Below W0.heap.size W0 X → Calls Tryz.prog 34 #[.agg #[.bool s3, .slice a3 m3 c3, .bool s3x, .slice a3x m3x c3x]] X (IEnd z14 X)))
  (leaf : ∀ (X : World) (t5 t6 : Nat) (v12 v14 : Value), Hid (Below W0.heap.size W0 X) → Hid (IBox X t5 z12) → Hid (IBox X t6 z14) → W0.heap.size ≤ t5 → W0.heap.size ≤ t6 → t5 ≠ t6 → Q .normal ⟨#[u0, u1, .pointer (some ⟨b2, 0, none⟩), .pointer (some ⟨b3, 0, none⟩), u4, .pointer (some ⟨t5, 0, none⟩), .pointer (some ⟨t6, 0, none⟩), u7, u8, u9, G0, .agg #[.bool s2, .slice a2 m2 c2, .bool s2x, .slice a2x m2x c2x], v12, .agg #[.bool s3, .slice a3 m3 c3, .bool s3x, .slice a3x m3x c3x], v14, Gg, G5, Gn, J0, G6, Gy, Gv, Gp, J5, Gb, Gk, J4, Gf, Gw, Gh, J8, Gz, Gr, Gx, Gd, Gi, J2, J7, G1, G8, Gm, J6, G9, Gs, G2, Gt, G3, Gl, Go, G7, Gc, Gq, G4, J3, Gj], dd⟩ X) :
  (Code.region 1 opsCp1 true).wp Tryz.prog Q ⟨#[u0, u1, .pointer (some ⟨b2, 0, none⟩), .pointer (some ⟨b3, 0, none⟩), u4, u5, u6, u7, u8, u9, G0, Ga, Ge, J1, Gu, Gg, G5, Gn, J0, G6, Gy, Gv, Gp, J5, Gb, Gk, J4, Gf, Gw, Gh, J8, Gz, Gr, Gx, Gd, Gi, J2, J7, G1, G8, Gm, J6, G9, Gs, G2, Gt, G3, Gl, Go, G7, Gc, Gq, G4, J3, Gj], dd⟩ W0 := by
 have RDY : ∀ x5 x6 x12 x14 : Bool, ((Region.ready .any opsCp1 #[true, x12, true, x14, x5, x6, false, false]).all fun i => (i == 4 && !x5) || ((i == 5 && !x6) || ((i == 1 && (!x12)) || ((i == 3 && (!x14 && (x12))) || ((i == 6 && (x5 && (x6 && (x12 && (x14)))))))))) = true := by decide +kernel
 have RNE : ∀ x5 x6 x12 x14 : Bool, Region.ready .any opsCp1 #[true, x12, true, x14, x5, x6, false, false] ≠ [] := by decide +kernel
 have key : ∀ (n : Nat) (o5 o6 : Option Nat) (k12 : Option Value) (k14 : Option Value) (X : World), cnt o5 + cnt o6 + cnt k12 + cnt k14 = n → Below W0.heap.size W0 X → ObP W0.heap.size X o5 → ObP W0.heap.size X o6 → Oapart o5 o6 → OIv X k12 z12 → OIv X k14 z14 → wpAnyH Tryz.prog .any opsCp1 Q (fun X => Below W0.heap.size W0 X) (n + 2) #[true, k12.isSome, true, k14.isSome, o5.isSome, o6.isSome, false, false] ⟨#[u0, u1, .pointer (some ⟨b2, 0, none⟩), .pointer (some ⟨b3, 0, none⟩), u4, optP u5 o5, optP u6 o6, u7, u8, u9, G0, .agg #[.bool s2, .slice a2 m2 c2, .bool s2x, .slice a2x m2x c2x], optV Ge k12, .agg #[.bool s3, .slice a3 m3 c3, .bool s3x, .slice a3x m3x c3x], optV Gu k14, Gg, G5, Gn, J0, G6, Gy, Gv, Gp, J5, Gb, Gk, J4, Gf, Gw, Gh, J8, Gz, Gr, Gx, Gd, Gi, J2, J7, G1, G8, Gm, J6, G9, Gs, G2, Gt, G3, Gl, Go, G7, Gc, Gq, G4, J3, Gj], dd⟩ X := by
  intro n
  induction n using Nat.strongRecOn with
  | ind n ih =>
  intro o5 o6 k12 k14 X hc hB hO5 hO6 hD5x6 hV12 hV14
  rcases Nat.eq_zero_or_pos n with h0 | h0
  ·subst h0
   clear ih
   obtain ⟨t5, rfl⟩ := cnt_some (o := o5) (by omega)
   obtain ⟨t6, rfl⟩ := cnt_some (o := o6) (by omega)
   obtain ⟨v12, rfl⟩ := cnt_some (o := k12) (by omega)
   obtain ⟨v14, rfl⟩ := cnt_some (o := k14) (by omega)
   obtain ⟨L5, T5⟩ := hO5 t5 rfl
   obtain ⟨L6, T6⟩ := hO6 t6 rfl
   have D5x6 : t5 ≠ t6 := fun e => hD5x6 t5 rfl (congrArg some e.symm)
   obtain ⟨s12v, a12v, m12v, c12v, rfl, hi12⟩ := hV12 _ rfl
   obtain ⟨s14v, a14v, m14v, c14v, rfl, hi14⟩ := hV14 _ rfl
   clear hO5 hO6 hD5x6 hV12 hV14 hc
   simp only [optP, optV, Option.isSome]
   refine wpAnyH_ready (rs := [6]) (by kernel_rfl) (by simp) ?_
   obtain ⟨_, _, _, _, l5, _⟩ := id T5
   obtain ⟨r0, r1, r2, r3⟩ := cells2 l5
   refine AllReadyH.cons (o := ⟨none, Op.store 32 (.tmp 5) (.tmp 12), 0, "frac.go:118", #[⟨4, .data⟩, ⟨1, .data⟩, ⟨3, .chain⟩, ⟨0, .phase⟩, ⟨1, .phase⟩, ⟨2, .textOnly .lateStores⟩, ⟨3, .textOnly .lateStoresUnsure⟩, ⟨4, .phase⟩, ⟨5, .phase⟩], none⟩) rfl (fun K hK => ?_) AllReadyH.nil
   go_simp
   refine hK.out _ _ ?_ (fun hHeld => ?_)
   ·exact below_set2 hB L5
   clear hK K r0 r1 r2 r3 hHeld
   try simp only [List.setIfInBounds_toArray, List.set_cons_zero, List.set_cons_succ]
   have T5y1 := T5.store (s := s12v) (a := a12v) (m := m12v) (c := c12v) hi12
   have T6y1 := T5.other (s := s12v) (a := a12v) (m := m12v) (c := c12v) T6 (Ne.symm D5x6)
   have hi14y1 := iat_set (iat_set hi14 l5 0 (.bool s12v)) (l5.set 0 (.bool s12v)) 1 (.slice a12v m12v c12v)
   have hBy1 := below_set2 (p := t5) (u := .bool s12v) (v := .slice a12v m12v c12v) hB L5
   clear l5 hB T5 T6 hi12 hi14
   generalize (X.setCell ⟨t5, 0, none⟩ (.bool s12v)).setCell ⟨t5, 1, none⟩ (.slice a12v m12v c12v) = Y1 at *
   refine wpAnyH_ready (rs := [7]) (by kernel_rfl) (by simp) ?_
   obtain ⟨_, _, _, _, l6, _⟩ := id T6y1
   obtain ⟨r0, r1, r2, r3⟩ := cells2 l6
   refine AllReadyH.cons (o := ⟨none, Op.store 32 (.tmp 6) (.tmp 14), 0, "frac.go:118", #[⟨5, .data⟩, ⟨3, .data⟩, ⟨6, .chain⟩, ⟨0, .phase⟩, ⟨1, .phase⟩, ⟨2, .phase⟩, ⟨3, .phase⟩, ⟨4, .phase⟩, ⟨5, .phase⟩, ⟨6, .phase⟩], none⟩) rfl (fun K hK => ?_) AllReadyH.nil
   go_simp
   refine hK.out _ _ ?_ (fun hHeld => ?_)
   ·exact below_set2 hBy1 L6
   clear hK K r0 r1 r2 r3 hHeld
   try simp only [List.setIfInBounds_toArray, List.set_cons_zero, List.set_cons_succ]
   have T6y2 := T6y1.store (s := s14v) (a := a14v) (m := m14v) (c := c14v) hi14y1
   have T5y2 := T6y1.other (s := s14v) (a := a14v) (m := m14v) (c := c14v) T5y1 (Ne.symm (Ne.symm D5x6))
   have hBy2 := below_set2 (p := t6) (u := .bool s14v) (v := .slice a14v m14v c14v) hBy1 L6
   clear l6 hBy1 T5y1 T6y1 hi14y1
   generalize (Y1.setCell ⟨t6, 0, none⟩ (.bool s14v)).setCell ⟨t6, 1, none⟩ (.slice a14v m14v c14v) = Y2 at *
   refine wpAnyH_done (by kernel_rfl) ?_ _
   exact leaf Y2 t5 t6 _ _ (Lib.hid hBy2) (Lib.hid T5y2) (Lib.hid T6y2) L5 L6 D5x6
  ·refine wpAnyH_more (ops := opsCp1) (RNE _ _ _ _) h0 (fun m hm i hi => ?_)
   have hcase := List.all_eq_true.1 (RDY _ _ _ _) i hi
   simp only [Bool.or_eq_true, Bool.and_eq_true, beq_iff_eq, Bool.not_eq_true'] at hcase
   clear hi h0
   rcases hcase with ⟨rfl, hb⟩ | ⟨rfl, hb⟩ | ⟨rfl, hb⟩ | ⟨rfl, hb, g0⟩ | ⟨rfl, e0, e1, e2, e3⟩
   ·obtain rfl := not_some hb
    refine (AllReadyH.cons (o := ⟨some 5, Op.alloc 32, 0, "frac.go:118", #[], none⟩) rfl (fun K hK => ?_) AllReadyH.nil) 4 (List.mem_singleton.2 rfl)
    go_simp
    have hb1 := below_one X (.cells #[.bool false, .slice none 0 0] 32)
    refine hK.out _ _ ?_ (fun hHeld => ?_)
    ·exact below_then hB hb1
    clear hK K
    try simp only [List.setIfInBounds_toArray, List.set_cons_zero, List.set_cons_succ]
    subst hm
    exact ih m (by omega) (some X.heap.size) o6 k12 k14 _ (by simp only [cnt, Option.isSome] at hc ⊢; simp at hc ⊢; omega) (below_then hB hb1) (obp_new hB) (hO6.below hb1) (apart_new hO6) (hV12.below hb1) (hV14.below hb1)
   ·obtain rfl := not_some hb
    refine (AllReadyH.cons (o := ⟨some 6, Op.alloc 32, 0, "frac.go:118", #[], none⟩) rfl (fun K hK => ?_) AllReadyH.nil) 5 (List.mem_singleton.2 rfl)
    go_simp
    have hb1 := below_one X (.cells #[.bool false, .slice none 0 0] 32)
    refine hK.out _ _ ?_ (fun hHeld => ?_)
    ·exact below_then hB hb1
    clear hK K
    try simp only [List.setIfInBounds_toArray, List.set_cons_zero, List.set_cons_succ]
    subst hm
    exact ih m (by omega) o5 (some X.heap.size) k12 k14 _ (by simp only [cnt, Option.isSome] at hc ⊢; simp at hc ⊢; omega) (below_then hB hb1) (hO5.below hb1) (obp_new hB) (apart_new' hO5) (hV12.below hb1) (hV14.below hb1)
   ·obtain rfl := not_some hb
    have C := C12.out X hB
    unfold IEnd at C
    have HC := Lib.hid C
    clear C
    refine (AllReadyH.cons (o := ⟨some 12, Op.call ⟨.value (.func 34), #[.tmp 11], #[34]⟩, 32, "frac.go:118", #[⟨0, .data⟩], none⟩) rfl (fun K hK => ?_) AllReadyH.nil) 1 (List.mem_singleton.2 rfl)
    go_simp
    go_at_call 34
    refine HC.out.mono ?_
    rintro e w5 ⟨b5, a5, m5, k5, rfl, hx5, hb5⟩
    go_wp2_with fail
    refine hK.out _ _ ?_ (fun hHeld => ?_)
    ·exact below_then hB hb5
    clear hK K
    try simp only [List.setIfInBounds_toArray, List.set_cons_zero, List.set_cons_succ]
    subst hm
    exact ih m (by omega) o5 o6 (some (.agg #[.bool b5, .slice a5 m5 k5])) k14 _ (by simp only [cnt, Option.isSome] at hc ⊢; simp at hc ⊢; omega) (below_then hB hb5) (hO5.below hb5) (hO6.below hb5) hD5x6 (oiv_new hx5) (hV14.below hb5)
   ·obtain rfl := not_some hb
    obtain ⟨w12, rfl⟩ := is_some g0
    have C := C14.out X hB
    unfold IEnd at C
    have HC := Lib.hid C
    clear C
    refine (AllReadyH.cons (o := ⟨some 14, Op.call ⟨.value (.func 34), #[.tmp 13], #[34]⟩, 32, "frac.go:118", #[⟨2, .data⟩, ⟨1, .chain⟩], none⟩) rfl (fun K hK => ?_) AllReadyH.nil) 3 (List.mem_singleton.2 rfl)
    go_simp
    go_at_call 34
    refine HC.out.mono ?_
    rintro e w5 ⟨b5, a5, m5, k5, rfl, hx5, hb5⟩
    go_wp2_with fail
    refine hK.out _ _ ?_ (fun hHeld => ?_)
    ·exact below_then hB hb5
    clear hK K
    try simp only [List.setIfInBounds_toArray, List.set_cons_zero, List.set_cons_succ]
    subst hm
    exact ih m (by omega) o5 o6 (some _) (some (.agg #[.bool b5, .slice a5 m5 k5])) _ (by simp only [cnt, Option.isSome] at hc ⊢; simp at hc ⊢; omega) (below_then hB hb5) (hO5.below hb5) (hO6.below hb5) hD5x6 (hV12.below hb5) (oiv_new hx5)
   ·exfalso
    simp only [cnt, e0, e1, e2, e3] at hc
    simp at hc
    omega
 refine wp_region_held_drew (S := fun X => Below W0.heap.size W0 X) (by kernel_rfl) (Below.refl _ _).drew (fun hHeld => ?_)
 refine wpAnyH_take (i := 0) (oi := ⟨some 11, Op.load 34 (.tmp 2), 34, "frac.go:118", #[], none⟩) (v := ?_) rfl (by kernel_rfl) (by kernel_rfl) (by kernel_rfl) (fun c a w => hQ c a _ _ w) (Or.inl ⟨by rfl, ?_⟩) (by assumption) ?_
 rotate_left
 ·(intro wq hSw; have hLD := LD.out wq hSw; obtain ⟨f0, f1, f2, f3, f4, f5, f6, f7⟩ := hLD; go_simp; try with_reducible rfl)
 try simp only [Act.put, List.setIfInBounds_toArray, List.set_cons_zero, List.set_cons_succ]
 refine wpAnyH_take (i := 2) (oi := ⟨some 13, Op.load 34 (.tmp 3), 34, "frac.go:118", #[], none⟩) (v := ?_) rfl (by kernel_rfl) (by kernel_rfl) (by kernel_rfl) (fun c a w => hQ c a _ _ w) (Or.inl ⟨by rfl, ?_⟩) (by assumption) ?_
 rotate_left
 ·(intro wq hSw; have hLD := LD.out wq hSw; obtain ⟨f0, f1, f2, f3, f4, f5, f6, f7⟩ := hLD; go_simp; try with_reducible rfl)
 try simp only [Act.put, List.setIfInBounds_toArray, List.set_cons_zero, List.set_cons_succ]
 exact key _ none none none none _ rfl (Below.refl _ _).drew obp_none obp_none apart_none oiv_none oiv_none
end Go.Proofs.YtepakogbbomaoaaGreatDoor
