/-
 FracOrder: the rest of the function from regions 22, 26 and 30 on, each a theorem. (tools/genLor.py makes this text.)
-/
import Derived.Test.YtepakogbbomaoaaGreatDoorFowO
import Derived.Test.YtepakogbbomaoaaGreatDoorOrfO
import Derived.Deep.RegionHeld3
import Derived.Deep.DeepCutAuto
namespace Go.Proofs.YtepakogbbomaoaaGreatDoor
open Go.RowKit Go.Shelf
set_option linter.unusedVariables false
set_option maxRecDepth 100000
def restC : Nat → Code → Code
 | 0, c => c
 | n + 1, .seq _ y => restC n y
 | _ + 1, c => c
theorem iboxS {W : World} {b : Nat} {z : Int} {s : Bool} {a : Option Addr} {m c : Nat} (hl : Laid W b 32 [.bool false, .slice none 0 0]) (h : IAt W (.agg #[.bool s, .slice a m c]) z) :
  IBox ((W.setCell ⟨b, 0, none⟩ (.bool s)).setCell ⟨b, 1, none⟩ (.slice a m c)) b z := IBox.store (n := 0) ⟨false, none, 0, 0, hl, iat_zero W⟩ h
set_option maxHeartbeats 16000000 in
theorem tail30 {w wr W : World} {gx cx' : Nat} {sA tA sB tB sC tC : Bool} {aA dA aB dB aC dC : Option Addr} {mA iA cA jA mB iB cB jB mC iC cC jC : Nat} {p1 q1 p2 q2 p3 q3 nP dP nQ dQ nR dR nS dS nM dM ab bc ac sg e9 y9 z9 : Int} {u0 u1 u2 u3 u5 u6 u7 u8 u10 u11 u12 u13 u14 u15 u16 u17 u18 u19 u20 u21 u22 u23 u24 u25 u26 u27 u28 u29 u30 u31 u32 u33 u34 u35 u36 u37 u38 u39 u40 u41 u42 u43 u44 u45 u46 u47 u48 u49 u50 u51 u52 u53 u54 u55 u56 u57 u58 u59 u60 u61 u62 u63 u64 u65 u66 u67 u68 u69 u70 u71 u72 u73 u74 u75 u76 u77 u78 u79 u80 u81 u82 u83 u84 u85 u86 u87 u88 u89 u90 u91 u92 u93 u94 u95 u96 u97 u98 u99 u100 u101 u102 u103 u104 u105 u106 u107 u108 u109 u110 u111 u112 u113 u114 u115 u116 u117 u118 u119 u120 u121 u122 u123 u124 u125 u126 u127 u128 u129 u130 u131 u132 u133 u134 u135 u136 u137 u138 u139 u140 u141 u142 u143 u144 u145 u146 u147 u148 u149 u150 u151 u152 u153 u154 u155 u156 u157 u158 u159 u160 u161 u162 u163 u164 u165 u166 u167 u168 u169 u170 u171 u172 u173 u174 u175 u176 u177 u178 u179 u180 u181 u182 u183 u184 u185 u186 u187 u188 u189 u190 u191 u192 u193 u194 u195 u196 u197 u198 u199 u200 u201 u202 u203 u204 u205 u206 u207 u208 u209 u210 u211 u212 u213 u214 u215 u216 u217 u218 u219 u220 u221 u222 u223 u224 u225 u226 u227 u228 u229 u230 u231 u232 u233 u234 u235 u236 u237 u238 u239 u240 u241 u242 u243 u244 u245 u246 u247 u248 u249 u250 u251 u252 u253 u254 u255 u256 u257 u258 u259 u260 u261 u262 u263 u264 u265 u266 u267 : Value} (XA : Hid (∀ X : World, Below wr.heap.size wr X → X.cell? ⟨gx, 0, none⟩ = some (.bool sA) ∧ X.cell? ⟨gx, 1, none⟩ = some (.slice aA mA cA) ∧ X.cell? ⟨gx, 2, none⟩ = some (.bool tA) ∧ X.cell? ⟨gx, 3, none⟩ = some (.slice dA iA jA))) (XB : Hid (∀ X : World, Below wr.heap.size wr X → X.cell? ⟨gx, 4, none⟩ = some (.bool sB) ∧ X.cell? ⟨gx, 5, none⟩ = some (.slice aB mB cB) ∧ X.cell? ⟨gx, 6, none⟩ = some (.bool tB) ∧ X.cell? ⟨gx, 7, none⟩ = some (.slice dB iB jB))) (XC : Hid (∀ X : World, Below wr.heap.size wr X → X.cell? ⟨gx, 8, none⟩ = some (.bool sC) ∧ X.cell? ⟨gx, 9, none⟩ = some (.slice aC mC cC) ∧ X.cell? ⟨gx, 10, none⟩ = some (.bool tC) ∧ X.cell? ⟨gx, 11, none⟩ = some (.slice dC iC jC))) (FA : Hid (∀ X : World, Below wr.heap.size wr X → FAt X (.agg #[.bool sA, .slice aA mA cA, .bool tA, .slice dA iA jA]) p1 q1)) (FB : Hid (∀ X : World, Below wr.heap.size wr X → FAt X (.agg #[.bool sB, .slice aB mB cB, .bool tB, .slice dB iB jB]) p2 q2)) (FC : Hid (∀ X : World, Below wr.heap.size wr X → FAt X (.agg #[.bool sC, .slice aC mC cC, .bool tC, .slice dC iC jC]) p3 q3)) (OF : Hid (OrdF p1 q1 p2 q2 p3 q3 nP dP nQ dQ nR dR nS dS nM dM ab bc ac sg e9 y9 z9)) (LV : Hid (∀ X : World, Calls Tryz.prog 18 #[] X (VEnd (KX (.bool true)) X))) (HB : Hid (Below w.heap.size w wr)) (HW : Hid (Below wr.heap.size wr W)) :
  Code.wp Tryz.prog (restC 14 (Tryz.f3.body.getD .skip)) (bodyPost Tryz.prog Tryz.f3 fun e w' => e = .returned (.bool true) ∧ Below w.heap.size w w') ⟨List.toArray (u0 :: u1 :: u2 :: u3 :: (.slice (some ⟨gx, 0, none⟩) 3 cx') :: u5 :: u6 :: u7 :: u8 :: (.int .i64 ab) :: u10 :: u11 :: u12 :: u13 :: u14 :: u15 :: u16 :: u17 :: u18 :: u19 :: u20 :: u21 :: u22 :: u23 :: u24 :: u25 :: u26 :: u27 :: u28 :: u29 :: u30 :: u31 :: u32 :: u33 :: u34 :: u35 :: u36 :: u37 :: u38 :: u39 :: u40 :: u41 :: u42 :: u43 :: u44 :: u45 :: u46 :: u47 :: u48 :: u49 :: u50 :: u51 :: u52 :: u53 :: u54 :: u55 :: u56 :: u57 :: u58 :: u59 :: u60 :: u61 :: u62 :: u63 :: u64 :: u65 :: u66 :: u67 :: u68 :: u69 :: u70 :: u71 :: u72 :: u73 :: u74 :: u75 :: u76 :: u77 :: u78 :: u79 :: u80 :: u81 :: u82 :: u83 :: u84 :: u85 :: u86 :: u87 :: u88 :: u89 :: u90 :: u91 :: u92 :: u93 :: u94 :: u95 :: u96 :: u97 :: u98 :: u99 :: u100 :: u101 :: u102 :: u103 :: u104 :: u105 :: u106 :: u107 :: u108 :: u109 :: u110 :: u111 :: u112 :: u113 :: u114 :: u115 :: u116 :: u117 :: u118 :: u119 :: u120 :: u121 :: u122 :: u123 :: u124 :: u125 :: u126 :: u127 :: u128 :: u129 :: u130 :: u131 :: u132 :: u133 :: u134 :: u135 :: u136 :: u137 :: u138 :: u139 :: u140 :: u141 :: u142 :: u143 :: u144 :: u145 :: u146 :: u147 :: u148 :: u149 :: u150 :: u151 :: u152 :: u153 :: u154 :: u155 :: u156 :: u157 :: u158 :: u159 :: u160 :: u161 :: u162 :: u163 :: u164 :: u165 :: u166 :: u167 :: u168 :: u169 :: u170 :: u171 :: u172 :: u173 :: u174 :: u175 :: u176 :: u177 :: u178 :: u179 :: u180 :: u181 :: u182 :: u183 :: u184 :: u185 :: u186 :: u187 :: u188 :: u189 :: u190 :: u191 :: u192 :: u193 :: u194 :: u195 :: u196 :: u197 :: u198 :: u199 :: u200 :: u201 :: u202 :: u203 :: u204 :: u205 :: u206 :: u207 :: u208 :: u209 :: u210 :: u211 :: u212 :: u213 :: u214 :: u215 :: u216 :: u217 :: u218 :: u219 :: u220 :: u221 :: u222 :: u223 :: u224 :: u225 :: u226 :: u227 :: u228 :: u229 :: u230 :: u231 :: u232 :: u233 :: u234 :: u235 :: u236 :: u237 :: u238 :: u239 :: u240 :: u241 :: u242 :: u243 :: u244 :: u245 :: u246 :: u247 :: u248 :: u249 :: u250 :: u251 :: u252 :: u253 :: u254 :: u255 :: u256 :: u257 :: u258 :: u259 :: u260 :: u261 :: u262 :: u263 :: u264 :: u265 :: u266 :: u267 :: []), []⟩ W := by
 conv => arg 2; whnf
 go_wp2_with fail
 have hnd : ([213, 214, 215, 216, 217, 218, 219, 220, 221, 212, 222, 223, 19] : List Nat).Nodup := by decide
 refine region_abs [213, 214, 215, 216, 217, 218, 219, 220, 221, 212, 222, 223, 19] (getK [KX (.slice (some ⟨gx, 0, none⟩) 3 cx'), KX (.pointer (some ⟨gx, 0, none⟩)), KX (.agg #[.bool sA, .slice aA mA cA, .bool tA, .slice dA iA jA]), KI p1, KX (.slice (some ⟨gx, 0, none⟩) 3 cx'), KX (.pointer (some ⟨gx, 4, none⟩)), KX (.agg #[.bool sB, .slice aB mB cB, .bool tB, .slice dB iB jB]), KI p2, KTI y9, KTI y9, KI (limF y9), KX (.int .i64 (ecF y9)), KA W.heap.size 32 [.bool false, .slice none 0 0]]) 13 2 [11] [0, 1, 2, 3, 4, 5, 6, 7, 8, 9, 10, 12] (by kernel_rfl) rfl (by kernel_rfl) (by kernel_rfl) (by kernel_rfl) (by kernel_rfl) (by kernel_rfl) (fun _ _ d _ _ h => by cases d <;> exact h) (getK_mono ⟨m_x, m_x, m_x, m_i, m_x, m_x, m_x, m_i, m_ti, m_ti, m_i, m_x, m_a, trivial⟩) ⟨?_, trivial⟩ ⟨?_, ?_, ?_, ?_, ?_, ?_, ?_, ?_, ?_, ?_, ?_, ?_, trivial⟩ ?_
 ·intro x w hB hd
  obtain ⟨k9, -⟩ := deps_k (ds := [9]) (by kernel_rfl) hd
  obtain ⟨y, e, hy⟩ := k9
  exact st_eager rfl (want_none rfl) rfl rfl hnd (fun W => x_ext1 rfl ((eval_in hnd rfl (by simp)).trans e)) rfl
 ·intro x w hB hd
  exact st_val rfl (want_none rfl) rfl rfl hnd (x_move rfl (eval_out rfl rfl)) (Below.refl _ _) rfl
 ·intro x w hB hd
  obtain ⟨k0, -⟩ := deps_k (ds := [0]) (by kernel_rfl) hd
  exact st_val rfl (want_none rfl) rfl rfl hnd (x_ixF (k := 0) rfl ((eval_in hnd rfl (by simp)).trans k0) rfl (by decide)) (Below.refl _ _) rfl
 ·intro x w hB hd
  obtain ⟨k1, -⟩ := deps_k (ds := [1]) (by kernel_rfl) hd
  exact st_val rfl (want_none rfl) rfl rfl hnd (x_ldF (n := 0) rfl ((eval_in hnd rfl (by simp)).trans k1) (XA.out w (below_then HW.out hB)).1 (XA.out w (below_then HW.out hB)).2.1 (XA.out w (below_then HW.out hB)).2.2.1 (XA.out w (below_then HW.out hB)).2.2.2) (Below.refl _ _) rfl
 ·intro x w hB hd
  obtain ⟨k2, -⟩ := deps_k (ds := [2]) (by kernel_rfl) hd
  exact st_call rfl (want_none rfl) rfl rfl hnd (x_call1 rfl ((eval_in hnd rfl (by simp)).trans k2) rfl (by kernel_rfl)) (OF.out.num1 w _ (FA.out w (below_then HW.out hB)))
 ·intro x w hB hd
  exact st_val rfl (want_none rfl) rfl rfl hnd (x_move rfl (eval_out rfl rfl)) (Below.refl _ _) rfl
 ·intro x w hB hd
  obtain ⟨k4, -⟩ := deps_k (ds := [4]) (by kernel_rfl) hd
  exact st_val rfl (want_none rfl) rfl rfl hnd (x_ixF (k := 1) rfl ((eval_in hnd rfl (by simp)).trans k4) rfl (by decide)) (Below.refl _ _) rfl
 ·intro x w hB hd
  obtain ⟨k5, -⟩ := deps_k (ds := [5]) (by kernel_rfl) hd
  exact st_val rfl (want_none rfl) rfl rfl hnd (x_ldF (n := 4) rfl ((eval_in hnd rfl (by simp)).trans k5) (XB.out w (below_then HW.out hB)).1 (XB.out w (below_then HW.out hB)).2.1 (XB.out w (below_then HW.out hB)).2.2.1 (XB.out w (below_then HW.out hB)).2.2.2) (Below.refl _ _) rfl
 ·intro x w hB hd
  obtain ⟨k6, k3, -⟩ := deps_k (ds := [6, 3]) (by kernel_rfl) hd
  exact st_call rfl (want_none rfl) rfl rfl hnd (x_call1 rfl ((eval_in hnd rfl (by simp)).trans k6) rfl (by kernel_rfl)) (OF.out.num2 w _ (FB.out w (below_then HW.out hB)))
 ·intro x w hB hd
  obtain ⟨k3, k7, k7, -⟩ := deps_k (ds := [3, 7, 7]) (by kernel_rfl) hd
  exact st_call rfl (want_none rfl) rfl rfl hnd (x_call2 rfl (eval_in hnd rfl (by simp)) (eval_in hnd rfl (by simp)) rfl (by kernel_rfl)) (OF.out.addN w _ _ k3 k7)
 ·intro x w hB hd
  obtain ⟨k8, -⟩ := deps_k (ds := [8]) (by kernel_rfl) hd
  exact st_val rfl (want_none rfl) rfl rfl hnd (x_move rfl (eval_in hnd rfl (by simp))) (Below.refl _ _) k8
 ·intro x w hB hd
  obtain ⟨k9, -⟩ := deps_k (ds := [9]) (by kernel_rfl) hd
  obtain ⟨y, e, hy⟩ := k9
  exact st_val rfl (want_none rfl) rfl rfl hnd (x_ext rfl ((eval_in hnd rfl (by simp)).trans e)) (Below.refl _ _) hy
 ·intro x w hB hd
  exact st_val rfl (want_none rfl) rfl rfl hnd (x_allocI rfl) (below_one w _) (ka_new _ _ hB.size)
 ·intro x w42 hB H
  obtain ⟨tY, e3, L3, l3⟩ := H 12 (by decide)
  obtain ⟨sv, av, mv, cv, e8⟩ := iat_shape (H 10 (by decide))
  have e9 : x 11 = .int .i64 (ecF y9) := H 11 (by decide)
  have h8 := H 10 (by decide)
  refine tail_store (i := 13) (by kernel_rfl) rfl (want_none rfl) rfl (x_stI rfl ((eval_in hnd rfl (by simp)).trans e3) ((eval_in hnd rfl (by simp)).trans e8) (cells2 l3)) ?_
  refine tail_assign (i := 14) (by kernel_rfl) rfl (want_none rfl) rfl (x_asg rfl ((eval_in hnd rfl (by simp)).trans e9)) ?_
  refine wpAnyH_done (by kernel_rfl) ?_ _
  have HBn := Lib.hid hB
  have TY := Lib.hid (iboxS l3 (e8 ▸ h8))
  have HL3 := Lib.hid L3
  clear H hB l3 h8 hnd
  simp only [frm, e3, e8, e9, List.setIfInBounds_toArray, List.set_cons_zero, List.set_cons_succ]
  clear e3 e8 e9
  have hB5 := Lib.hid (below_set2 (p := tY) (u := .bool sv) (v := .slice av mv cv) HBn.out HL3.out)
  generalize (w42.setCell ⟨tY, 0, none⟩ (.bool sv)).setCell ⟨tY, 1, none⟩ (.slice av mv cv) = w43 at *
  have U := Lib.hid (below_then HW.out hB5.out)
  clear HW
  have HW := U
  clear U
  clear hB5 HBn HL3
  go_wp2_with fail
  have hnd : ([225, 226, 227, 228, 229, 230, 231, 232, 233, 224, 234, 235, 21] : List Nat).Nodup := by decide
  refine region_abs [225, 226, 227, 228, 229, 230, 231, 232, 233, 224, 234, 235, 21] (getK [KX (.slice (some ⟨gx, 0, none⟩) 3 cx'), KX (.pointer (some ⟨gx, 0, none⟩)), KX (.agg #[.bool sA, .slice aA mA cA, .bool tA, .slice dA iA jA]), KI q1, KX (.slice (some ⟨gx, 0, none⟩) 3 cx'), KX (.pointer (some ⟨gx, 4, none⟩)), KX (.agg #[.bool sB, .slice aB mB cB, .bool tB, .slice dB iB jB]), KI q2, KTI z9, KTI z9, KI (limF z9), KX (.int .i64 (ecF z9)), KA w43.heap.size 32 [.bool false, .slice none 0 0]]) 13 2 [11] [0, 1, 2, 3, 4, 5, 6, 7, 8, 9, 10, 12] (by kernel_rfl) rfl (by kernel_rfl) (by kernel_rfl) (by kernel_rfl) (by kernel_rfl) (by kernel_rfl) (fun _ _ d _ _ h => by cases d <;> exact h) (getK_mono ⟨m_x, m_x, m_x, m_i, m_x, m_x, m_x, m_i, m_ti, m_ti, m_i, m_x, m_a, trivial⟩) ⟨?_, trivial⟩ ⟨?_, ?_, ?_, ?_, ?_, ?_, ?_, ?_, ?_, ?_, ?_, ?_, trivial⟩ ?_
  ·intro x w hB hd
   obtain ⟨k9, -⟩ := deps_k (ds := [9]) (by kernel_rfl) hd
   obtain ⟨y, e, hy⟩ := k9
   exact st_eager rfl (want_none rfl) rfl rfl hnd (fun W => x_ext1 rfl ((eval_in hnd rfl (by simp)).trans e)) rfl
  ·intro x w hB hd
   exact st_val rfl (want_none rfl) rfl rfl hnd (x_move rfl (eval_out rfl rfl)) (Below.refl _ _) rfl
  ·intro x w hB hd
   obtain ⟨k0, -⟩ := deps_k (ds := [0]) (by kernel_rfl) hd
   exact st_val rfl (want_none rfl) rfl rfl hnd (x_ixF (k := 0) rfl ((eval_in hnd rfl (by simp)).trans k0) rfl (by decide)) (Below.refl _ _) rfl
  ·intro x w hB hd
   obtain ⟨k1, -⟩ := deps_k (ds := [1]) (by kernel_rfl) hd
   exact st_val rfl (want_none rfl) rfl rfl hnd (x_ldF (n := 0) rfl ((eval_in hnd rfl (by simp)).trans k1) (XA.out w (below_then HW.out hB)).1 (XA.out w (below_then HW.out hB)).2.1 (XA.out w (below_then HW.out hB)).2.2.1 (XA.out w (below_then HW.out hB)).2.2.2) (Below.refl _ _) rfl
  ·intro x w hB hd
   obtain ⟨k2, -⟩ := deps_k (ds := [2]) (by kernel_rfl) hd
   exact st_call rfl (want_none rfl) rfl rfl hnd (x_call1 rfl ((eval_in hnd rfl (by simp)).trans k2) rfl (by kernel_rfl)) (OF.out.den1 w _ (FA.out w (below_then HW.out hB)))
  ·intro x w hB hd
   exact st_val rfl (want_none rfl) rfl rfl hnd (x_move rfl (eval_out rfl rfl)) (Below.refl _ _) rfl
  ·intro x w hB hd
   obtain ⟨k4, -⟩ := deps_k (ds := [4]) (by kernel_rfl) hd
   exact st_val rfl (want_none rfl) rfl rfl hnd (x_ixF (k := 1) rfl ((eval_in hnd rfl (by simp)).trans k4) rfl (by decide)) (Below.refl _ _) rfl
  ·intro x w hB hd
   obtain ⟨k5, -⟩ := deps_k (ds := [5]) (by kernel_rfl) hd
   exact st_val rfl (want_none rfl) rfl rfl hnd (x_ldF (n := 4) rfl ((eval_in hnd rfl (by simp)).trans k5) (XB.out w (below_then HW.out hB)).1 (XB.out w (below_then HW.out hB)).2.1 (XB.out w (below_then HW.out hB)).2.2.1 (XB.out w (below_then HW.out hB)).2.2.2) (Below.refl _ _) rfl
  ·intro x w hB hd
   obtain ⟨k6, k3, -⟩ := deps_k (ds := [6, 3]) (by kernel_rfl) hd
   exact st_call rfl (want_none rfl) rfl rfl hnd (x_call1 rfl ((eval_in hnd rfl (by simp)).trans k6) rfl (by kernel_rfl)) (OF.out.den2 w _ (FB.out w (below_then HW.out hB)))
  ·intro x w hB hd
   obtain ⟨k3, k7, k7, -⟩ := deps_k (ds := [3, 7, 7]) (by kernel_rfl) hd
   exact st_call rfl (want_none rfl) rfl rfl hnd (x_call2 rfl (eval_in hnd rfl (by simp)) (eval_in hnd rfl (by simp)) rfl (by kernel_rfl)) (OF.out.addD w _ _ k3 k7)
  ·intro x w hB hd
   obtain ⟨k8, -⟩ := deps_k (ds := [8]) (by kernel_rfl) hd
   exact st_val rfl (want_none rfl) rfl rfl hnd (x_move rfl (eval_in hnd rfl (by simp))) (Below.refl _ _) k8
  ·intro x w hB hd
   obtain ⟨k9, -⟩ := deps_k (ds := [9]) (by kernel_rfl) hd
   obtain ⟨y, e, hy⟩ := k9
   exact st_val rfl (want_none rfl) rfl rfl hnd (x_ext rfl ((eval_in hnd rfl (by simp)).trans e)) (Below.refl _ _) hy
  ·intro x w hB hd
   exact st_val rfl (want_none rfl) rfl rfl hnd (x_allocI rfl) (below_one w _) (ka_new _ _ hB.size)
  ·intro x w44 hB H
   obtain ⟨tZ, e3, L3, l3⟩ := H 12 (by decide)
   obtain ⟨sv, av, mv, cv, e8⟩ := iat_shape (H 10 (by decide))
   have e9 : x 11 = .int .i64 (ecF z9) := H 11 (by decide)
   have h8 := H 10 (by decide)
   refine tail_store (i := 13) (by kernel_rfl) rfl (want_none rfl) rfl (x_stI rfl ((eval_in hnd rfl (by simp)).trans e3) ((eval_in hnd rfl (by simp)).trans e8) (cells2 l3)) ?_
   refine tail_assign (i := 14) (by kernel_rfl) rfl (want_none rfl) rfl (x_asg rfl ((eval_in hnd rfl (by simp)).trans e9)) ?_
   refine wpAnyH_done (by kernel_rfl) ?_ _
   have HBn := Lib.hid hB
   have TZ := Lib.hid (iboxS l3 (e8 ▸ h8))
   have HL3 := Lib.hid L3
   clear H hB l3 h8 hnd
   simp only [frm, e3, e8, e9, List.setIfInBounds_toArray, List.set_cons_zero, List.set_cons_succ]
   clear e3 e8 e9
   have hB5 := Lib.hid (below_set2 (p := tZ) (u := .bool sv) (v := .slice av mv cv) HBn.out HL3.out)
   generalize (w44.setCell ⟨tZ, 0, none⟩ (.bool sv)).setCell ⟨tZ, 1, none⟩ (.slice av mv cv) = w45 at *
   have U := Lib.hid (TY.out.below hB5.out)
   clear TY
   have TY := U
   clear U
   have U := Lib.hid (below_then HW.out hB5.out)
   clear HW
   have HW := U
   clear U
   clear hB5 HBn HL3
   obtain ⟨sY, aY, mY, cY, ⟨cY0, cY1⟩, hY⟩ := TY.out.open
   obtain ⟨sZ, aZ, mZ, cZ, ⟨cZ0, cZ1⟩, hZ⟩ := TZ.out.open
   obtain ⟨el1, el2, el3, el4⟩ := OF.out.lims
   rw [el2] at hY
   rw [el4] at hZ
   clear el1 el2 el3 el4
   go_wp2_with fail
   have C := OF.out.make w45 _ _ hY hZ
   unfold VEnd at C
   have HC := Lib.hid C
   clear C hY hZ cY0 cY1 cZ0 cZ1
   go_must (refine HC.out.mono ?_)
   rintro e w46 ⟨v5, rfl, ⟨y5, rfl, hx5⟩, hb5⟩
   obtain ⟨srx, trx, arx, drx, mrx, irx, crx, jrx, rfl⟩ := fat_shape hx5
   clear HC TY TZ
   have hbb := below_then hb5 (below_one w46 (.cells #[.bool srx, .slice arx mrx crx, .bool trx, .slice drx irx jrx] 34))
   have U := Lib.hid (below_then HW.out hbb)
   clear HW
   have HW := U
   clear U
   have TM := Lib.hid (FBox.new hx5)
   clear hx5 hb5 hbb
   obtain ⟨sM, tM0, aM, dM_, mM, iM, cM, jM, ⟨cM0, cM1, cM2, cM3⟩, _, hM⟩ := TM.out.open
   rcases Classical.em (ab = 0) with h0 | h0
   ·go_wp2_with fail
    have C := LV.out (w46.alloc (.cells #[.bool srx, .slice arx mrx crx, .bool trx, .slice drx irx jrx] 34))
    unfold VEnd at C
    have HC := Lib.hid C
    clear C
    go_must (refine HC.out.mono ?_)
    rintro e w90 ⟨v5, rfl, hv5, hb5⟩
    obtain rfl := hv5
    go_wp2_with fail
    go_ret
    exact ⟨rfl, below_then HB.out (below_then HW.out hb5)⟩
   ·go_wp2_with fail
    generalize w46.alloc (.cells #[.bool srx, .slice arx mrx crx, .bool trx, .slice drx irx jrx] 34) = w91 at *
    generalize w46.heap.size = tM at *
    have ltM := TM.out.lt
    have CE : Hid (∀ X : World, Below w91.heap.size w91 X → X.cell? ⟨tM, 0, none⟩ = some (.bool sM) ∧ X.cell? ⟨tM, 1, none⟩ = some (.slice aM mM cM) ∧ X.cell? ⟨tM, 2, none⟩ = some (.bool tM0) ∧ X.cell? ⟨tM, 3, none⟩ = some (.slice dM_ iM jM) ∧ X.cell? ⟨gx, 0, none⟩ = some (.bool sA) ∧ X.cell? ⟨gx, 1, none⟩ = some (.slice aA mA cA) ∧ X.cell? ⟨gx, 2, none⟩ = some (.bool tA) ∧ X.cell? ⟨gx, 3, none⟩ = some (.slice dA iA jA) ∧ X.cell? ⟨gx, 4, none⟩ = some (.bool sB) ∧ X.cell? ⟨gx, 5, none⟩ = some (.slice aB mB cB) ∧ X.cell? ⟨gx, 6, none⟩ = some (.bool tB) ∧ X.cell? ⟨gx, 7, none⟩ = some (.slice dB iB jB)) := Lib.hid (fun X h => by obtain ⟨a0, a1, a2, a3⟩ := XA.out X (below_then HW.out h); obtain ⟨b0, b1, b2, b3⟩ := XB.out X (below_then HW.out h); exact ⟨(h.cell (p := ⟨tM, 0, none⟩) ltM).trans cM0, (h.cell (p := ⟨tM, 1, none⟩) ltM).trans cM1, (h.cell (p := ⟨tM, 2, none⟩) ltM).trans cM2, (h.cell (p := ⟨tM, 3, none⟩) ltM).trans cM3, a0, a1, a2, a3, b0, b1, b2, b3⟩)
    have A1 : Hid (∀ X, Below w91.heap.size w91 X → Calls Tryz.prog 9 #[.agg #[.bool sA, .slice aA mA cA, .bool tA, .slice dA iA jA], .agg #[.bool sM, .slice aM mM cM, .bool tM0, .slice dM_ iM jM]] X (fun e w' => e = .returned (.int .i64 ab) ∧ Below X.heap.size X w')) := Lib.hid (fun X h => (OF.out.cam X _ _ (FA.out X (below_then HW.out h)) (fat_keeps hM h)).mono (fun _ _ => vx_end))
    have A2 : Hid (∀ X, Below w91.heap.size w91 X → Calls Tryz.prog 9 #[.agg #[.bool sM, .slice aM mM cM, .bool tM0, .slice dM_ iM jM], .agg #[.bool sB, .slice aB mB cB, .bool tB, .slice dB iB jB]] X (fun e w' => e = .returned (.int .i64 ab) ∧ Below X.heap.size X w')) := Lib.hid (fun X h => (OF.out.cmb X _ _ (fat_keeps hM h) (FB.out X (below_then HW.out h))).mono (fun _ _ => vx_end))
    have A3 : Hid (∀ X, Below w91.heap.size w91 X → Calls Tryz.prog 18 #[] X (fun e w' => e = .returned (.bool true) ∧ Below X.heap.size X w')) := Lib.hid (fun X h => (LV.out X).mono (fun _ _ => vx_end))
    have HB0 : Hid (Below w91.heap.size w91 w91.drew) := Lib.hid (Below.refl _ _).drew
    clear TM hM ltM cM0 cM1 cM2 cM3
    go_region_held3 (fun X : World => X.cell? ⟨tM, 0, none⟩ = some (.bool sM) ∧ X.cell? ⟨tM, 1, none⟩ = some (.slice aM mM cM) ∧ X.cell? ⟨tM, 2, none⟩ = some (.bool tM0) ∧ X.cell? ⟨tM, 3, none⟩ = some (.slice dM_ iM jM) ∧ X.cell? ⟨gx, 0, none⟩ = some (.bool sA) ∧ X.cell? ⟨gx, 1, none⟩ = some (.slice aA mA cA) ∧ X.cell? ⟨gx, 2, none⟩ = some (.bool tA) ∧ X.cell? ⟨gx, 3, none⟩ = some (.slice dA iA jA) ∧ X.cell? ⟨gx, 4, none⟩ = some (.bool sB) ∧ X.cell? ⟨gx, 5, none⟩ = some (.slice aB mB cB) ∧ X.cell? ⟨gx, 6, none⟩ = some (.bool tB) ∧ X.cell? ⟨gx, 7, none⟩ = some (.slice dB iB jB)) (with_reducible first | exact CE.out _ HB0.out | exact CE.out _ HB1.out | exact CE.out _ HB12.out | exact CE.out _ HB123.out) (first
     | (go_at_call 9; (with_reducible refine (A1.out _ HB0.out).mono ?_); rintro e w23 ⟨rfl, hb⟩; have HB1 := Lib.hid (below_then HB0.out hb); clear hb HB0)
     | (go_at_call 9; (with_reducible refine (A2.out _ HB1.out).mono ?_); rintro e w24 ⟨rfl, hb⟩; have HB12 := Lib.hid (below_then HB1.out hb); clear hb HB1)
     | (go_at_call 18; (with_reducible refine (A3.out _ HB12.out).mono ?_); rintro e w25 ⟨rfl, hb⟩; have HB123 := Lib.hid (below_then HB12.out hb); clear hb HB12))
    all_goals
     go_wp2_with fail
     go_ret
     exact ⟨rfl, below_then HB.out (below_then HW.out HB123.out)⟩
set_option maxHeartbeats 16000000 in
theorem tail26 {w wr W : World} {gx cx' : Nat} {sA tA sB tB sC tC : Bool} {aA dA aB dB aC dC : Option Addr} {mA iA cA jA mB iB cB jB mC iC cC jC : Nat} {p1 q1 p2 q2 p3 q3 nP dP nQ dQ nR dR nS dS nM dM ab bc ac sg e9 y9 z9 : Int} {u0 u1 u2 u3 u5 u6 u7 u8 u10 u11 u12 u13 u14 u15 u16 u17 u18 u19 u20 u21 u22 u23 u24 u25 u26 u27 u28 u29 u30 u31 u32 u33 u34 u35 u36 u37 u38 u39 u40 u41 u42 u43 u44 u45 u46 u47 u48 u49 u50 u51 u52 u53 u54 u55 u56 u57 u58 u59 u60 u61 u62 u63 u64 u65 u66 u67 u68 u69 u70 u71 u72 u73 u74 u75 u76 u77 u78 u79 u80 u81 u82 u83 u84 u85 u86 u87 u88 u89 u90 u91 u92 u93 u94 u95 u96 u97 u98 u99 u100 u101 u102 u103 u104 u105 u106 u107 u108 u109 u110 u111 u112 u113 u114 u115 u116 u117 u118 u119 u120 u121 u122 u123 u124 u125 u126 u127 u128 u129 u130 u131 u132 u133 u134 u135 u136 u137 u138 u139 u140 u141 u142 u143 u144 u145 u146 u147 u148 u149 u150 u151 u152 u153 u154 u155 u156 u157 u158 u159 u160 u161 u162 u163 u164 u165 u166 u167 u168 u169 u170 u171 u172 u173 u174 u175 u176 u177 u178 u179 u180 u181 u182 u183 u184 u185 u186 u187 u188 u189 u190 u191 u192 u193 u194 u195 u196 u197 u198 u199 u200 u201 u202 u203 u204 u205 u206 u207 u208 u209 u210 u211 u212 u213 u214 u215 u216 u217 u218 u219 u220 u221 u222 u223 u224 u225 u226 u227 u228 u229 u230 u231 u232 u233 u234 u235 u236 u237 u238 u239 u240 u241 u242 u243 u244 u245 u246 u247 u248 u249 u250 u251 u252 u253 u254 u255 u256 u257 u258 u259 u260 u261 u262 u263 u264 u265 u266 u267 : Value} (XA : Hid (∀ X : World, Below wr.heap.size wr X → X.cell? ⟨gx, 0, none⟩ = some (.bool sA) ∧ X.cell? ⟨gx, 1, none⟩ = some (.slice aA mA cA) ∧ X.cell? ⟨gx, 2, none⟩ = some (.bool tA) ∧ X.cell? ⟨gx, 3, none⟩ = some (.slice dA iA jA))) (XB : Hid (∀ X : World, Below wr.heap.size wr X → X.cell? ⟨gx, 4, none⟩ = some (.bool sB) ∧ X.cell? ⟨gx, 5, none⟩ = some (.slice aB mB cB) ∧ X.cell? ⟨gx, 6, none⟩ = some (.bool tB) ∧ X.cell? ⟨gx, 7, none⟩ = some (.slice dB iB jB))) (XC : Hid (∀ X : World, Below wr.heap.size wr X → X.cell? ⟨gx, 8, none⟩ = some (.bool sC) ∧ X.cell? ⟨gx, 9, none⟩ = some (.slice aC mC cC) ∧ X.cell? ⟨gx, 10, none⟩ = some (.bool tC) ∧ X.cell? ⟨gx, 11, none⟩ = some (.slice dC iC jC))) (FA : Hid (∀ X : World, Below wr.heap.size wr X → FAt X (.agg #[.bool sA, .slice aA mA cA, .bool tA, .slice dA iA jA]) p1 q1)) (FB : Hid (∀ X : World, Below wr.heap.size wr X → FAt X (.agg #[.bool sB, .slice aB mB cB, .bool tB, .slice dB iB jB]) p2 q2)) (FC : Hid (∀ X : World, Below wr.heap.size wr X → FAt X (.agg #[.bool sC, .slice aC mC cC, .bool tC, .slice dC iC jC]) p3 q3)) (OF : Hid (OrdF p1 q1 p2 q2 p3 q3 nP dP nQ dQ nR dR nS dS nM dM ab bc ac sg e9 y9 z9)) (LV : Hid (∀ X : World, Calls Tryz.prog 18 #[] X (VEnd (KX (.bool true)) X))) (HB : Hid (Below w.heap.size w wr)) (HW : Hid (Below wr.heap.size wr W)) :
  Code.wp Tryz.prog (restC 11 (Tryz.f3.body.getD .skip)) (bodyPost Tryz.prog Tryz.f3 fun e w' => e = .returned (.bool true) ∧ Below w.heap.size w w') ⟨List.toArray (u0 :: u1 :: u2 :: u3 :: (.slice (some ⟨gx, 0, none⟩) 3 cx') :: u5 :: u6 :: u7 :: u8 :: (.int .i64 ab) :: u10 :: u11 :: u12 :: u13 :: u14 :: u15 :: u16 :: u17 :: u18 :: u19 :: u20 :: u21 :: u22 :: u23 :: u24 :: u25 :: u26 :: u27 :: u28 :: u29 :: u30 :: u31 :: u32 :: u33 :: u34 :: u35 :: u36 :: u37 :: u38 :: u39 :: u40 :: u41 :: u42 :: u43 :: u44 :: u45 :: u46 :: u47 :: u48 :: u49 :: u50 :: u51 :: u52 :: u53 :: u54 :: u55 :: u56 :: u57 :: u58 :: u59 :: u60 :: u61 :: u62 :: u63 :: u64 :: u65 :: u66 :: u67 :: u68 :: u69 :: u70 :: u71 :: u72 :: u73 :: u74 :: u75 :: u76 :: u77 :: u78 :: u79 :: u80 :: u81 :: u82 :: u83 :: u84 :: u85 :: u86 :: u87 :: u88 :: u89 :: u90 :: u91 :: u92 :: u93 :: u94 :: u95 :: u96 :: u97 :: u98 :: u99 :: u100 :: u101 :: u102 :: u103 :: u104 :: u105 :: u106 :: u107 :: u108 :: u109 :: u110 :: u111 :: u112 :: u113 :: u114 :: u115 :: u116 :: u117 :: u118 :: u119 :: u120 :: u121 :: u122 :: u123 :: u124 :: u125 :: u126 :: u127 :: u128 :: u129 :: u130 :: u131 :: u132 :: u133 :: u134 :: u135 :: u136 :: u137 :: u138 :: u139 :: u140 :: u141 :: u142 :: u143 :: u144 :: u145 :: u146 :: u147 :: u148 :: u149 :: u150 :: u151 :: u152 :: u153 :: u154 :: u155 :: u156 :: u157 :: u158 :: u159 :: u160 :: u161 :: u162 :: u163 :: u164 :: u165 :: u166 :: u167 :: u168 :: u169 :: u170 :: u171 :: u172 :: u173 :: u174 :: u175 :: u176 :: u177 :: u178 :: u179 :: u180 :: u181 :: u182 :: u183 :: u184 :: u185 :: u186 :: u187 :: u188 :: u189 :: u190 :: u191 :: u192 :: u193 :: u194 :: u195 :: u196 :: u197 :: u198 :: u199 :: u200 :: u201 :: u202 :: u203 :: u204 :: u205 :: u206 :: u207 :: u208 :: u209 :: u210 :: u211 :: u212 :: u213 :: u214 :: u215 :: u216 :: u217 :: u218 :: u219 :: u220 :: u221 :: u222 :: u223 :: u224 :: u225 :: u226 :: u227 :: u228 :: u229 :: u230 :: u231 :: u232 :: u233 :: u234 :: u235 :: u236 :: u237 :: u238 :: u239 :: u240 :: u241 :: u242 :: u243 :: u244 :: u245 :: u246 :: u247 :: u248 :: u249 :: u250 :: u251 :: u252 :: u253 :: u254 :: u255 :: u256 :: u257 :: u258 :: u259 :: u260 :: u261 :: u262 :: u263 :: u264 :: u265 :: u266 :: u267 :: []), []⟩ W := by
 conv => arg 2; whnf
 go_wp2_with fail
 have hnd : ([175, 176, 177, 178, 179, 180, 181, 174, 182, 183, 15] : List Nat).Nodup := by decide
 refine region_abs [175, 176, 177, 178, 179, 180, 181, 174, 182, 183, 15] (getK [KX (.slice (some ⟨gx, 0, none⟩) 3 cx'), KX (.pointer (some ⟨gx, 0, none⟩)), KX (.agg #[.bool sA, .slice aA mA cA, .bool tA, .slice dA iA jA]), KX (.slice (some ⟨gx, 0, none⟩) 3 cx'), KX (.pointer (some ⟨gx, 8, none⟩)), KX (.agg #[.bool sC, .slice aC mC cC, .bool tC, .slice dC iC jC]), KTF (0, nR, dR), KTF (0, nR, dR), KF nR dR, KX (.int .i64 0), KA W.heap.size 34 [.bool false, .slice none 0 0, .bool false, .slice none 0 0]]) 11 2 [9] [0, 1, 2, 3, 4, 5, 6, 7, 8, 10] (by kernel_rfl) rfl (by kernel_rfl) (by kernel_rfl) (by kernel_rfl) (by kernel_rfl) (by kernel_rfl) (fun _ _ d _ _ h => by cases d <;> exact h) (getK_mono ⟨m_x, m_x, m_x, m_x, m_x, m_x, m_tf, m_tf, m_f, m_x, m_a, trivial⟩) ⟨?_, trivial⟩ ⟨?_, ?_, ?_, ?_, ?_, ?_, ?_, ?_, ?_, ?_, trivial⟩ ?_
 ·intro x w hB hd
  obtain ⟨k7, -⟩ := deps_k (ds := [7]) (by kernel_rfl) hd
  obtain ⟨y, e, hy⟩ := k7
  exact st_eager rfl (want_none rfl) rfl rfl hnd (fun W => x_ext1 rfl ((eval_in hnd rfl (by simp)).trans e)) rfl
 ·intro x w hB hd
  exact st_val rfl (want_none rfl) rfl rfl hnd (x_move rfl (eval_out rfl rfl)) (Below.refl _ _) rfl
 ·intro x w hB hd
  obtain ⟨k0, -⟩ := deps_k (ds := [0]) (by kernel_rfl) hd
  exact st_val rfl (want_none rfl) rfl rfl hnd (x_ixF (k := 0) rfl ((eval_in hnd rfl (by simp)).trans k0) rfl (by decide)) (Below.refl _ _) rfl
 ·intro x w hB hd
  obtain ⟨k1, -⟩ := deps_k (ds := [1]) (by kernel_rfl) hd
  exact st_val rfl (want_none rfl) rfl rfl hnd (x_ldF (n := 0) rfl ((eval_in hnd rfl (by simp)).trans k1) (XA.out w (below_then HW.out hB)).1 (XA.out w (below_then HW.out hB)).2.1 (XA.out w (below_then HW.out hB)).2.2.1 (XA.out w (below_then HW.out hB)).2.2.2) (Below.refl _ _) rfl
 ·intro x w hB hd
  exact st_val rfl (want_none rfl) rfl rfl hnd (x_move rfl (eval_out rfl rfl)) (Below.refl _ _) rfl
 ·intro x w hB hd
  obtain ⟨k3, -⟩ := deps_k (ds := [3]) (by kernel_rfl) hd
  exact st_val rfl (want_none rfl) rfl rfl hnd (x_ixF (k := 2) rfl ((eval_in hnd rfl (by simp)).trans k3) rfl (by decide)) (Below.refl _ _) rfl
 ·intro x w hB hd
  obtain ⟨k4, -⟩ := deps_k (ds := [4]) (by kernel_rfl) hd
  exact st_val rfl (want_none rfl) rfl rfl hnd (x_ldF (n := 8) rfl ((eval_in hnd rfl (by simp)).trans k4) (XC.out w (below_then HW.out hB)).1 (XC.out w (below_then HW.out hB)).2.1 (XC.out w (below_then HW.out hB)).2.2.1 (XC.out w (below_then HW.out hB)).2.2.2) (Below.refl _ _) rfl
 ·intro x w hB hd
  obtain ⟨k2, k5, -⟩ := deps_k (ds := [2, 5]) (by kernel_rfl) hd
  exact st_call rfl (want_none rfl) rfl rfl hnd (x_call2 rfl ((eval_in hnd rfl (by simp)).trans k2) ((eval_in hnd rfl (by simp)).trans k5) rfl (by kernel_rfl)) (OF.out.mulR w _ _ (FA.out w (below_then HW.out hB)) (FC.out w (below_then HW.out hB)))
 ·intro x w hB hd
  obtain ⟨k6, -⟩ := deps_k (ds := [6]) (by kernel_rfl) hd
  exact st_val rfl (want_none rfl) rfl rfl hnd (x_move rfl (eval_in hnd rfl (by simp))) (Below.refl _ _) k6
 ·intro x w hB hd
  obtain ⟨k7, -⟩ := deps_k (ds := [7]) (by kernel_rfl) hd
  obtain ⟨y, e, hy⟩ := k7
  exact st_val rfl (want_none rfl) rfl rfl hnd (x_ext rfl ((eval_in hnd rfl (by simp)).trans e)) (Below.refl _ _) hy
 ·intro x w hB hd
  exact st_val rfl (want_none rfl) rfl rfl hnd (x_alloc rfl) (below_one w _) (ka_new _ _ hB.size)
 ·intro x w38 hB H
  obtain ⟨tR, e3, L3, l3⟩ := H 10 (by decide)
  obtain ⟨sv, tv, av, dv, mv, iv, cv, jv, e8⟩ := fat_shape (H 8 (by decide))
  have e9 : x 9 = .int .i64 (0) := H 9 (by decide)
  have h8 := H 8 (by decide)
  refine tail_store (i := 11) (by kernel_rfl) rfl (want_none rfl) rfl (x_stF rfl ((eval_in hnd rfl (by simp)).trans e3) ((eval_in hnd rfl (by simp)).trans e8) (cellsF l3)) ?_
  refine tail_assign (i := 12) (by kernel_rfl) rfl (want_none rfl) rfl (x_asg rfl ((eval_in hnd rfl (by simp)).trans e9)) ?_
  refine wpAnyH_done (by kernel_rfl) ?_ _
  have HBn := Lib.hid hB
  have TR := Lib.hid (FBox.store l3 (e8 ▸ h8))
  have HL3 := Lib.hid L3
  clear H hB l3 h8 hnd
  simp only [frm, e3, e8, e9, List.setIfInBounds_toArray, List.set_cons_zero, List.set_cons_succ]
  clear e3 e8 e9
  have hB5 := Lib.hid (below_set4 (p := tR) (u0 := .bool sv) (u1 := .slice av mv cv) (u2 := .bool tv) (u3 := .slice dv iv jv) HBn.out HL3.out)
  generalize (((w38.setCell ⟨tR, 0, none⟩ (.bool sv)).setCell ⟨tR, 1, none⟩ (.slice av mv cv)).setCell ⟨tR, 2, none⟩ (.bool tv)).setCell ⟨tR, 3, none⟩ (.slice dv iv jv) = w39 at *
  have U := Lib.hid (below_then HW.out hB5.out)
  clear HW
  have HW := U
  clear U
  clear hB5 HBn HL3
  go_wp2_with fail
  have hnd : ([185, 186, 187, 188, 189, 190, 191, 184, 192, 193, 17] : List Nat).Nodup := by decide
  refine region_abs [185, 186, 187, 188, 189, 190, 191, 184, 192, 193, 17] (getK [KX (.slice (some ⟨gx, 0, none⟩) 3 cx'), KX (.pointer (some ⟨gx, 4, none⟩)), KX (.agg #[.bool sB, .slice aB mB cB, .bool tB, .slice dB iB jB]), KX (.slice (some ⟨gx, 0, none⟩) 3 cx'), KX (.pointer (some ⟨gx, 8, none⟩)), KX (.agg #[.bool sC, .slice aC mC cC, .bool tC, .slice dC iC jC]), KTF (0, nS, dS), KTF (0, nS, dS), KF nS dS, KX (.int .i64 0), KA w39.heap.size 34 [.bool false, .slice none 0 0, .bool false, .slice none 0 0]]) 11 2 [9] [0, 1, 2, 3, 4, 5, 6, 7, 8, 10] (by kernel_rfl) rfl (by kernel_rfl) (by kernel_rfl) (by kernel_rfl) (by kernel_rfl) (by kernel_rfl) (fun _ _ d _ _ h => by cases d <;> exact h) (getK_mono ⟨m_x, m_x, m_x, m_x, m_x, m_x, m_tf, m_tf, m_f, m_x, m_a, trivial⟩) ⟨?_, trivial⟩ ⟨?_, ?_, ?_, ?_, ?_, ?_, ?_, ?_, ?_, ?_, trivial⟩ ?_
  ·intro x w hB hd
   obtain ⟨k7, -⟩ := deps_k (ds := [7]) (by kernel_rfl) hd
   obtain ⟨y, e, hy⟩ := k7
   exact st_eager rfl (want_none rfl) rfl rfl hnd (fun W => x_ext1 rfl ((eval_in hnd rfl (by simp)).trans e)) rfl
  ·intro x w hB hd
   exact st_val rfl (want_none rfl) rfl rfl hnd (x_move rfl (eval_out rfl rfl)) (Below.refl _ _) rfl
  ·intro x w hB hd
   obtain ⟨k0, -⟩ := deps_k (ds := [0]) (by kernel_rfl) hd
   exact st_val rfl (want_none rfl) rfl rfl hnd (x_ixF (k := 1) rfl ((eval_in hnd rfl (by simp)).trans k0) rfl (by decide)) (Below.refl _ _) rfl
  ·intro x w hB hd
   obtain ⟨k1, -⟩ := deps_k (ds := [1]) (by kernel_rfl) hd
   exact st_val rfl (want_none rfl) rfl rfl hnd (x_ldF (n := 4) rfl ((eval_in hnd rfl (by simp)).trans k1) (XB.out w (below_then HW.out hB)).1 (XB.out w (below_then HW.out hB)).2.1 (XB.out w (below_then HW.out hB)).2.2.1 (XB.out w (below_then HW.out hB)).2.2.2) (Below.refl _ _) rfl
  ·intro x w hB hd
   exact st_val rfl (want_none rfl) rfl rfl hnd (x_move rfl (eval_out rfl rfl)) (Below.refl _ _) rfl
  ·intro x w hB hd
   obtain ⟨k3, -⟩ := deps_k (ds := [3]) (by kernel_rfl) hd
   exact st_val rfl (want_none rfl) rfl rfl hnd (x_ixF (k := 2) rfl ((eval_in hnd rfl (by simp)).trans k3) rfl (by decide)) (Below.refl _ _) rfl
  ·intro x w hB hd
   obtain ⟨k4, -⟩ := deps_k (ds := [4]) (by kernel_rfl) hd
   exact st_val rfl (want_none rfl) rfl rfl hnd (x_ldF (n := 8) rfl ((eval_in hnd rfl (by simp)).trans k4) (XC.out w (below_then HW.out hB)).1 (XC.out w (below_then HW.out hB)).2.1 (XC.out w (below_then HW.out hB)).2.2.1 (XC.out w (below_then HW.out hB)).2.2.2) (Below.refl _ _) rfl
  ·intro x w hB hd
   obtain ⟨k2, k5, -⟩ := deps_k (ds := [2, 5]) (by kernel_rfl) hd
   exact st_call rfl (want_none rfl) rfl rfl hnd (x_call2 rfl ((eval_in hnd rfl (by simp)).trans k2) ((eval_in hnd rfl (by simp)).trans k5) rfl (by kernel_rfl)) (OF.out.mulS w _ _ (FB.out w (below_then HW.out hB)) (FC.out w (below_then HW.out hB)))
  ·intro x w hB hd
   obtain ⟨k6, -⟩ := deps_k (ds := [6]) (by kernel_rfl) hd
   exact st_val rfl (want_none rfl) rfl rfl hnd (x_move rfl (eval_in hnd rfl (by simp))) (Below.refl _ _) k6
  ·intro x w hB hd
   obtain ⟨k7, -⟩ := deps_k (ds := [7]) (by kernel_rfl) hd
   obtain ⟨y, e, hy⟩ := k7
   exact st_val rfl (want_none rfl) rfl rfl hnd (x_ext rfl ((eval_in hnd rfl (by simp)).trans e)) (Below.refl _ _) hy
  ·intro x w hB hd
   exact st_val rfl (want_none rfl) rfl rfl hnd (x_alloc rfl) (below_one w _) (ka_new _ _ hB.size)
  ·intro x w40 hB H
   obtain ⟨tS, e3, L3, l3⟩ := H 10 (by decide)
   obtain ⟨sv, tv, av, dv, mv, iv, cv, jv, e8⟩ := fat_shape (H 8 (by decide))
   have e9 : x 9 = .int .i64 (0) := H 9 (by decide)
   have h8 := H 8 (by decide)
   refine tail_store (i := 11) (by kernel_rfl) rfl (want_none rfl) rfl (x_stF rfl ((eval_in hnd rfl (by simp)).trans e3) ((eval_in hnd rfl (by simp)).trans e8) (cellsF l3)) ?_
   refine tail_assign (i := 12) (by kernel_rfl) rfl (want_none rfl) rfl (x_asg rfl ((eval_in hnd rfl (by simp)).trans e9)) ?_
   refine wpAnyH_done (by kernel_rfl) ?_ _
   have HBn := Lib.hid hB
   have TS := Lib.hid (FBox.store l3 (e8 ▸ h8))
   have HL3 := Lib.hid L3
   clear H hB l3 h8 hnd
   simp only [frm, e3, e8, e9, List.setIfInBounds_toArray, List.set_cons_zero, List.set_cons_succ]
   clear e3 e8 e9
   have hB5 := Lib.hid (below_set4 (p := tS) (u0 := .bool sv) (u1 := .slice av mv cv) (u2 := .bool tv) (u3 := .slice dv iv jv) HBn.out HL3.out)
   generalize (((w40.setCell ⟨tS, 0, none⟩ (.bool sv)).setCell ⟨tS, 1, none⟩ (.slice av mv cv)).setCell ⟨tS, 2, none⟩ (.bool tv)).setCell ⟨tS, 3, none⟩ (.slice dv iv jv) = w41 at *
   have U := Lib.hid (TR.out.below hB5.out)
   clear TR
   have TR := U
   clear U
   have U := Lib.hid (below_then HW.out hB5.out)
   clear HW
   have HW := U
   clear U
   clear hB5 HBn HL3
   obtain ⟨sR, tR0, aR, dR, mR, iR, cR, jR, ⟨cR0, cR1, cR2, cR3⟩, _, hR⟩ := TR.out.open
   obtain ⟨sS, tS0, aS, dS, mS, iS, cS, jS, ⟨cS0, cS1, cS2, cS3⟩, _, hS⟩ := TS.out.open
   have ltR := TR.out.lt
   have ltS := TS.out.lt
   have CE : Hid (∀ X : World, Below w41.heap.size w41 X → X.cell? ⟨tR, 0, none⟩ = some (.bool sR) ∧ X.cell? ⟨tR, 1, none⟩ = some (.slice aR mR cR) ∧ X.cell? ⟨tR, 2, none⟩ = some (.bool tR0) ∧ X.cell? ⟨tR, 3, none⟩ = some (.slice dR iR jR) ∧ X.cell? ⟨tS, 0, none⟩ = some (.bool sS) ∧ X.cell? ⟨tS, 1, none⟩ = some (.slice aS mS cS) ∧ X.cell? ⟨tS, 2, none⟩ = some (.bool tS0) ∧ X.cell? ⟨tS, 3, none⟩ = some (.slice dS iS jS) ∧ X.cell? ⟨gx, 8, none⟩ = some (.bool sC) ∧ X.cell? ⟨gx, 9, none⟩ = some (.slice aC mC cC) ∧ X.cell? ⟨gx, 10, none⟩ = some (.bool tC) ∧ X.cell? ⟨gx, 11, none⟩ = some (.slice dC iC jC)) := Lib.hid (fun X h => by obtain ⟨x0, x1, x2, x3⟩ := XC.out X (below_then HW.out h); exact ⟨(h.cell (p := ⟨tR, 0, none⟩) ltR).trans cR0, (h.cell (p := ⟨tR, 1, none⟩) ltR).trans cR1, (h.cell (p := ⟨tR, 2, none⟩) ltR).trans cR2, (h.cell (p := ⟨tR, 3, none⟩) ltR).trans cR3, (h.cell (p := ⟨tS, 0, none⟩) ltS).trans cS0, (h.cell (p := ⟨tS, 1, none⟩) ltS).trans cS1, (h.cell (p := ⟨tS, 2, none⟩) ltS).trans cS2, (h.cell (p := ⟨tS, 3, none⟩) ltS).trans cS3, x0, x1, x2, x3⟩)
   have A1 : Hid (∀ X, Below w41.heap.size w41 X → Calls Tryz.prog 9 #[.agg #[.bool sR, .slice aR mR cR, .bool tR0, .slice dR iR jR], .agg #[.bool sS, .slice aS mS cS, .bool tS0, .slice dS iS jS]] X (fun e w' => e = .returned (.int .i64 e9) ∧ Below X.heap.size X w')) := Lib.hid (fun X h => (OF.out.crs X _ _ (fat_keeps hR h) (fat_keeps hS h)).mono (fun _ _ => vx_end))
   have A2 : Hid (∀ X, Below w41.heap.size w41 X → Calls Tryz.prog 7 #[.agg #[.bool sC, .slice aC mC cC, .bool tC, .slice dC iC jC]] X (fun e w' => e = .returned (.int .i64 sg) ∧ Below X.heap.size X w')) := Lib.hid (fun X h => (OF.out.sgn X _ (FC.out X (below_then HW.out h))).mono (fun _ _ => vx_end))
   have HB0 : Hid (Below w41.heap.size w41 w41.drew) := Lib.hid (Below.refl _ _).drew
   have hwr := OF.out.wrp
   clear TR TS hR hS ltR ltS cR0 cR1 cR2 cR3 cS0 cS1 cS2 cS3
   go_wp2_with fail
   go_region_held3 (fun X : World => X.cell? ⟨tR, 0, none⟩ = some (.bool sR) ∧ X.cell? ⟨tR, 1, none⟩ = some (.slice aR mR cR) ∧ X.cell? ⟨tR, 2, none⟩ = some (.bool tR0) ∧ X.cell? ⟨tR, 3, none⟩ = some (.slice dR iR jR) ∧ X.cell? ⟨tS, 0, none⟩ = some (.bool sS) ∧ X.cell? ⟨tS, 1, none⟩ = some (.slice aS mS cS) ∧ X.cell? ⟨tS, 2, none⟩ = some (.bool tS0) ∧ X.cell? ⟨tS, 3, none⟩ = some (.slice dS iS jS) ∧ X.cell? ⟨gx, 8, none⟩ = some (.bool sC) ∧ X.cell? ⟨gx, 9, none⟩ = some (.slice aC mC cC) ∧ X.cell? ⟨gx, 10, none⟩ = some (.bool tC) ∧ X.cell? ⟨gx, 11, none⟩ = some (.slice dC iC jC)) (with_reducible first | exact CE.out _ HB0.out | exact CE.out _ HB1.out | exact CE.out _ HB12.out) (first
    | (go_at_call 9; (with_reducible refine (A1.out _ HB0.out).mono ?_); rintro e w23 ⟨rfl, hb⟩; have HB1 := Lib.hid (below_then HB0.out hb); clear hb HB0)
    | (go_at_call 7; (with_reducible refine (A2.out _ HB1.out).mono ?_); rintro e w24 ⟨rfl, hb⟩; have HB12 := Lib.hid (below_then HB1.out hb); clear hb HB1))
   have U := Lib.hid (below_then HW.out HB12.out)
   clear HW HB12 CE A1 A2 hwr
   have HW := U
   clear U
   rename_i K1 hK1 K0 hK0 hX
   have HK1 := Lib.hid hK1
   clear hK1
   go_wp2_with fail
   exact HK1.out _ _ (tail30 XA XB XC FA FB FC OF LV HB HW)
set_option maxHeartbeats 16000000 in
theorem tail22 {w wr W : World} {gx cx' : Nat} {sA tA sB tB sC tC : Bool} {aA dA aB dB aC dC : Option Addr} {mA iA cA jA mB iB cB jB mC iC cC jC : Nat} {p1 q1 p2 q2 p3 q3 nP dP nQ dQ nR dR nS dS nM dM ab bc ac sg e9 y9 z9 : Int} {u0 u1 u2 u3 u5 u6 u7 u8 u10 u11 u12 u13 u14 u15 u16 u17 u18 u19 u20 u21 u22 u23 u24 u25 u26 u27 u28 u29 u30 u31 u32 u33 u34 u35 u36 u37 u38 u39 u40 u41 u42 u43 u44 u45 u46 u47 u48 u49 u50 u51 u52 u53 u54 u55 u56 u57 u58 u59 u60 u61 u62 u63 u64 u65 u66 u67 u68 u69 u70 u71 u72 u73 u74 u75 u76 u77 u78 u79 u80 u81 u82 u83 u84 u85 u86 u87 u88 u89 u90 u91 u92 u93 u94 u95 u96 u97 u98 u99 u100 u101 u102 u103 u104 u105 u106 u107 u108 u109 u110 u111 u112 u113 u114 u115 u116 u117 u118 u119 u120 u121 u122 u123 u124 u125 u126 u127 u128 u129 u130 u131 u132 u133 u134 u135 u136 u137 u138 u139 u140 u141 u142 u143 u144 u145 u146 u147 u148 u149 u150 u151 u152 u153 u154 u155 u156 u157 u158 u159 u160 u161 u162 u163 u164 u165 u166 u167 u168 u169 u170 u171 u172 u173 u174 u175 u176 u177 u178 u179 u180 u181 u182 u183 u184 u185 u186 u187 u188 u189 u190 u191 u192 u193 u194 u195 u196 u197 u198 u199 u200 u201 u202 u203 u204 u205 u206 u207 u208 u209 u210 u211 u212 u213 u214 u215 u216 u217 u218 u219 u220 u221 u222 u223 u224 u225 u226 u227 u228 u229 u230 u231 u232 u233 u234 u235 u236 u237 u238 u239 u240 u241 u242 u243 u244 u245 u246 u247 u248 u249 u250 u251 u252 u253 u254 u255 u256 u257 u258 u259 u260 u261 u262 u263 u264 u265 u266 u267 : Value} (XA : Hid (∀ X : World, Below wr.heap.size wr X → X.cell? ⟨gx, 0, none⟩ = some (.bool sA) ∧ X.cell? ⟨gx, 1, none⟩ = some (.slice aA mA cA) ∧ X.cell? ⟨gx, 2, none⟩ = some (.bool tA) ∧ X.cell? ⟨gx, 3, none⟩ = some (.slice dA iA jA))) (XB : Hid (∀ X : World, Below wr.heap.size wr X → X.cell? ⟨gx, 4, none⟩ = some (.bool sB) ∧ X.cell? ⟨gx, 5, none⟩ = some (.slice aB mB cB) ∧ X.cell? ⟨gx, 6, none⟩ = some (.bool tB) ∧ X.cell? ⟨gx, 7, none⟩ = some (.slice dB iB jB))) (XC : Hid (∀ X : World, Below wr.heap.size wr X → X.cell? ⟨gx, 8, none⟩ = some (.bool sC) ∧ X.cell? ⟨gx, 9, none⟩ = some (.slice aC mC cC) ∧ X.cell? ⟨gx, 10, none⟩ = some (.bool tC) ∧ X.cell? ⟨gx, 11, none⟩ = some (.slice dC iC jC))) (FA : Hid (∀ X : World, Below wr.heap.size wr X → FAt X (.agg #[.bool sA, .slice aA mA cA, .bool tA, .slice dA iA jA]) p1 q1)) (FB : Hid (∀ X : World, Below wr.heap.size wr X → FAt X (.agg #[.bool sB, .slice aB mB cB, .bool tB, .slice dB iB jB]) p2 q2)) (FC : Hid (∀ X : World, Below wr.heap.size wr X → FAt X (.agg #[.bool sC, .slice aC mC cC, .bool tC, .slice dC iC jC]) p3 q3)) (OF : Hid (OrdF p1 q1 p2 q2 p3 q3 nP dP nQ dQ nR dR nS dS nM dM ab bc ac sg e9 y9 z9)) (LV : Hid (∀ X : World, Calls Tryz.prog 18 #[] X (VEnd (KX (.bool true)) X))) (HB : Hid (Below w.heap.size w wr)) (HW : Hid (Below wr.heap.size wr W)) :
  Code.wp Tryz.prog (restC 8 (Tryz.f3.body.getD .skip)) (bodyPost Tryz.prog Tryz.f3 fun e w' => e = .returned (.bool true) ∧ Below w.heap.size w w') ⟨List.toArray (u0 :: u1 :: u2 :: u3 :: (.slice (some ⟨gx, 0, none⟩) 3 cx') :: u5 :: u6 :: u7 :: u8 :: (.int .i64 ab) :: u10 :: u11 :: u12 :: u13 :: u14 :: u15 :: u16 :: u17 :: u18 :: u19 :: u20 :: u21 :: u22 :: u23 :: u24 :: u25 :: u26 :: u27 :: u28 :: u29 :: u30 :: u31 :: u32 :: u33 :: u34 :: u35 :: u36 :: u37 :: u38 :: u39 :: u40 :: u41 :: u42 :: u43 :: u44 :: u45 :: u46 :: u47 :: u48 :: u49 :: u50 :: u51 :: u52 :: u53 :: u54 :: u55 :: u56 :: u57 :: u58 :: u59 :: u60 :: u61 :: u62 :: u63 :: u64 :: u65 :: u66 :: u67 :: u68 :: u69 :: u70 :: u71 :: u72 :: u73 :: u74 :: u75 :: u76 :: u77 :: u78 :: u79 :: u80 :: u81 :: u82 :: u83 :: u84 :: u85 :: u86 :: u87 :: u88 :: u89 :: u90 :: u91 :: u92 :: u93 :: u94 :: u95 :: u96 :: u97 :: u98 :: u99 :: u100 :: u101 :: u102 :: u103 :: u104 :: u105 :: u106 :: u107 :: u108 :: u109 :: u110 :: u111 :: u112 :: u113 :: u114 :: u115 :: u116 :: u117 :: u118 :: u119 :: u120 :: u121 :: u122 :: u123 :: u124 :: u125 :: u126 :: u127 :: u128 :: u129 :: u130 :: u131 :: u132 :: u133 :: u134 :: u135 :: u136 :: u137 :: u138 :: u139 :: u140 :: u141 :: u142 :: u143 :: u144 :: u145 :: u146 :: u147 :: u148 :: u149 :: u150 :: u151 :: u152 :: u153 :: u154 :: u155 :: u156 :: u157 :: u158 :: u159 :: u160 :: u161 :: u162 :: u163 :: u164 :: u165 :: u166 :: u167 :: u168 :: u169 :: u170 :: u171 :: u172 :: u173 :: u174 :: u175 :: u176 :: u177 :: u178 :: u179 :: u180 :: u181 :: u182 :: u183 :: u184 :: u185 :: u186 :: u187 :: u188 :: u189 :: u190 :: u191 :: u192 :: u193 :: u194 :: u195 :: u196 :: u197 :: u198 :: u199 :: u200 :: u201 :: u202 :: u203 :: u204 :: u205 :: u206 :: u207 :: u208 :: u209 :: u210 :: u211 :: u212 :: u213 :: u214 :: u215 :: u216 :: u217 :: u218 :: u219 :: u220 :: u221 :: u222 :: u223 :: u224 :: u225 :: u226 :: u227 :: u228 :: u229 :: u230 :: u231 :: u232 :: u233 :: u234 :: u235 :: u236 :: u237 :: u238 :: u239 :: u240 :: u241 :: u242 :: u243 :: u244 :: u245 :: u246 :: u247 :: u248 :: u249 :: u250 :: u251 :: u252 :: u253 :: u254 :: u255 :: u256 :: u257 :: u258 :: u259 :: u260 :: u261 :: u262 :: u263 :: u264 :: u265 :: u266 :: u267 :: []), []⟩ W := by
 conv => arg 2; whnf
 go_wp2_with fail
 have hnd : ([142, 143, 144, 145, 146, 147, 148, 141, 149, 150, 11] : List Nat).Nodup := by decide
 refine region_abs [142, 143, 144, 145, 146, 147, 148, 141, 149, 150, 11] (getK [KX (.slice (some ⟨gx, 0, none⟩) 3 cx'), KX (.pointer (some ⟨gx, 0, none⟩)), KX (.agg #[.bool sA, .slice aA mA cA, .bool tA, .slice dA iA jA]), KX (.slice (some ⟨gx, 0, none⟩) 3 cx'), KX (.pointer (some ⟨gx, 8, none⟩)), KX (.agg #[.bool sC, .slice aC mC cC, .bool tC, .slice dC iC jC]), KTF (0, nP, dP), KTF (0, nP, dP), KF nP dP, KX (.int .i64 0), KA W.heap.size 34 [.bool false, .slice none 0 0, .bool false, .slice none 0 0]]) 11 2 [9] [0, 1, 2, 3, 4, 5, 6, 7, 8, 10] (by kernel_rfl) rfl (by kernel_rfl) (by kernel_rfl) (by kernel_rfl) (by kernel_rfl) (by kernel_rfl) (fun _ _ d _ _ h => by cases d <;> exact h) (getK_mono ⟨m_x, m_x, m_x, m_x, m_x, m_x, m_tf, m_tf, m_f, m_x, m_a, trivial⟩) ⟨?_, trivial⟩ ⟨?_, ?_, ?_, ?_, ?_, ?_, ?_, ?_, ?_, ?_, trivial⟩ ?_
 ·intro x w hB hd
  obtain ⟨k7, -⟩ := deps_k (ds := [7]) (by kernel_rfl) hd
  obtain ⟨y, e, hy⟩ := k7
  exact st_eager rfl (want_none rfl) rfl rfl hnd (fun W => x_ext1 rfl ((eval_in hnd rfl (by simp)).trans e)) rfl
 ·intro x w hB hd
  exact st_val rfl (want_none rfl) rfl rfl hnd (x_move rfl (eval_out rfl rfl)) (Below.refl _ _) rfl
 ·intro x w hB hd
  obtain ⟨k0, -⟩ := deps_k (ds := [0]) (by kernel_rfl) hd
  exact st_val rfl (want_none rfl) rfl rfl hnd (x_ixF (k := 0) rfl ((eval_in hnd rfl (by simp)).trans k0) rfl (by decide)) (Below.refl _ _) rfl
 ·intro x w hB hd
  obtain ⟨k1, -⟩ := deps_k (ds := [1]) (by kernel_rfl) hd
  exact st_val rfl (want_none rfl) rfl rfl hnd (x_ldF (n := 0) rfl ((eval_in hnd rfl (by simp)).trans k1) (XA.out w (below_then HW.out hB)).1 (XA.out w (below_then HW.out hB)).2.1 (XA.out w (below_then HW.out hB)).2.2.1 (XA.out w (below_then HW.out hB)).2.2.2) (Below.refl _ _) rfl
 ·intro x w hB hd
  exact st_val rfl (want_none rfl) rfl rfl hnd (x_move rfl (eval_out rfl rfl)) (Below.refl _ _) rfl
 ·intro x w hB hd
  obtain ⟨k3, -⟩ := deps_k (ds := [3]) (by kernel_rfl) hd
  exact st_val rfl (want_none rfl) rfl rfl hnd (x_ixF (k := 2) rfl ((eval_in hnd rfl (by simp)).trans k3) rfl (by decide)) (Below.refl _ _) rfl
 ·intro x w hB hd
  obtain ⟨k4, -⟩ := deps_k (ds := [4]) (by kernel_rfl) hd
  exact st_val rfl (want_none rfl) rfl rfl hnd (x_ldF (n := 8) rfl ((eval_in hnd rfl (by simp)).trans k4) (XC.out w (below_then HW.out hB)).1 (XC.out w (below_then HW.out hB)).2.1 (XC.out w (below_then HW.out hB)).2.2.1 (XC.out w (below_then HW.out hB)).2.2.2) (Below.refl _ _) rfl
 ·intro x w hB hd
  obtain ⟨k2, k5, -⟩ := deps_k (ds := [2, 5]) (by kernel_rfl) hd
  exact st_call rfl (want_none rfl) rfl rfl hnd (x_call2 rfl ((eval_in hnd rfl (by simp)).trans k2) ((eval_in hnd rfl (by simp)).trans k5) rfl (by kernel_rfl)) (OF.out.addP w _ _ (FA.out w (below_then HW.out hB)) (FC.out w (below_then HW.out hB)))
 ·intro x w hB hd
  obtain ⟨k6, -⟩ := deps_k (ds := [6]) (by kernel_rfl) hd
  exact st_val rfl (want_none rfl) rfl rfl hnd (x_move rfl (eval_in hnd rfl (by simp))) (Below.refl _ _) k6
 ·intro x w hB hd
  obtain ⟨k7, -⟩ := deps_k (ds := [7]) (by kernel_rfl) hd
  obtain ⟨y, e, hy⟩ := k7
  exact st_val rfl (want_none rfl) rfl rfl hnd (x_ext rfl ((eval_in hnd rfl (by simp)).trans e)) (Below.refl _ _) hy
 ·intro x w hB hd
  exact st_val rfl (want_none rfl) rfl rfl hnd (x_alloc rfl) (below_one w _) (ka_new _ _ hB.size)
 ·intro x w33 hB H
  obtain ⟨tP, e3, L3, l3⟩ := H 10 (by decide)
  obtain ⟨sv, tv, av, dv, mv, iv, cv, jv, e8⟩ := fat_shape (H 8 (by decide))
  have e9 : x 9 = .int .i64 (0) := H 9 (by decide)
  have h8 := H 8 (by decide)
  refine tail_store (i := 11) (by kernel_rfl) rfl (want_none rfl) rfl (x_stF rfl ((eval_in hnd rfl (by simp)).trans e3) ((eval_in hnd rfl (by simp)).trans e8) (cellsF l3)) ?_
  refine tail_assign (i := 12) (by kernel_rfl) rfl (want_none rfl) rfl (x_asg rfl ((eval_in hnd rfl (by simp)).trans e9)) ?_
  refine wpAnyH_done (by kernel_rfl) ?_ _
  have HBn := Lib.hid hB
  have TP := Lib.hid (FBox.store l3 (e8 ▸ h8))
  have HL3 := Lib.hid L3
  clear H hB l3 h8 hnd
  simp only [frm, e3, e8, e9, List.setIfInBounds_toArray, List.set_cons_zero, List.set_cons_succ]
  clear e3 e8 e9
  have hB5 := Lib.hid (below_set4 (p := tP) (u0 := .bool sv) (u1 := .slice av mv cv) (u2 := .bool tv) (u3 := .slice dv iv jv) HBn.out HL3.out)
  generalize (((w33.setCell ⟨tP, 0, none⟩ (.bool sv)).setCell ⟨tP, 1, none⟩ (.slice av mv cv)).setCell ⟨tP, 2, none⟩ (.bool tv)).setCell ⟨tP, 3, none⟩ (.slice dv iv jv) = w34 at *
  have U := Lib.hid (below_then HW.out hB5.out)
  clear HW
  have HW := U
  clear U
  clear hB5 HBn HL3
  go_wp2_with fail
  have hnd : ([152, 153, 154, 155, 156, 157, 158, 151, 159, 160, 13] : List Nat).Nodup := by decide
  refine region_abs [152, 153, 154, 155, 156, 157, 158, 151, 159, 160, 13] (getK [KX (.slice (some ⟨gx, 0, none⟩) 3 cx'), KX (.pointer (some ⟨gx, 4, none⟩)), KX (.agg #[.bool sB, .slice aB mB cB, .bool tB, .slice dB iB jB]), KX (.slice (some ⟨gx, 0, none⟩) 3 cx'), KX (.pointer (some ⟨gx, 8, none⟩)), KX (.agg #[.bool sC, .slice aC mC cC, .bool tC, .slice dC iC jC]), KTF (0, nQ, dQ), KTF (0, nQ, dQ), KF nQ dQ, KX (.int .i64 0), KA w34.heap.size 34 [.bool false, .slice none 0 0, .bool false, .slice none 0 0]]) 11 2 [9] [0, 1, 2, 3, 4, 5, 6, 7, 8, 10] (by kernel_rfl) rfl (by kernel_rfl) (by kernel_rfl) (by kernel_rfl) (by kernel_rfl) (by kernel_rfl) (fun _ _ d _ _ h => by cases d <;> exact h) (getK_mono ⟨m_x, m_x, m_x, m_x, m_x, m_x, m_tf, m_tf, m_f, m_x, m_a, trivial⟩) ⟨?_, trivial⟩ ⟨?_, ?_, ?_, ?_, ?_, ?_, ?_, ?_, ?_, ?_, trivial⟩ ?_
  ·intro x w hB hd
   obtain ⟨k7, -⟩ := deps_k (ds := [7]) (by kernel_rfl) hd
   obtain ⟨y, e, hy⟩ := k7
   exact st_eager rfl (want_none rfl) rfl rfl hnd (fun W => x_ext1 rfl ((eval_in hnd rfl (by simp)).trans e)) rfl
  ·intro x w hB hd
   exact st_val rfl (want_none rfl) rfl rfl hnd (x_move rfl (eval_out rfl rfl)) (Below.refl _ _) rfl
  ·intro x w hB hd
   obtain ⟨k0, -⟩ := deps_k (ds := [0]) (by kernel_rfl) hd
   exact st_val rfl (want_none rfl) rfl rfl hnd (x_ixF (k := 1) rfl ((eval_in hnd rfl (by simp)).trans k0) rfl (by decide)) (Below.refl _ _) rfl
  ·intro x w hB hd
   obtain ⟨k1, -⟩ := deps_k (ds := [1]) (by kernel_rfl) hd
   exact st_val rfl (want_none rfl) rfl rfl hnd (x_ldF (n := 4) rfl ((eval_in hnd rfl (by simp)).trans k1) (XB.out w (below_then HW.out hB)).1 (XB.out w (below_then HW.out hB)).2.1 (XB.out w (below_then HW.out hB)).2.2.1 (XB.out w (below_then HW.out hB)).2.2.2) (Below.refl _ _) rfl
  ·intro x w hB hd
   exact st_val rfl (want_none rfl) rfl rfl hnd (x_move rfl (eval_out rfl rfl)) (Below.refl _ _) rfl
  ·intro x w hB hd
   obtain ⟨k3, -⟩ := deps_k (ds := [3]) (by kernel_rfl) hd
   exact st_val rfl (want_none rfl) rfl rfl hnd (x_ixF (k := 2) rfl ((eval_in hnd rfl (by simp)).trans k3) rfl (by decide)) (Below.refl _ _) rfl
  ·intro x w hB hd
   obtain ⟨k4, -⟩ := deps_k (ds := [4]) (by kernel_rfl) hd
   exact st_val rfl (want_none rfl) rfl rfl hnd (x_ldF (n := 8) rfl ((eval_in hnd rfl (by simp)).trans k4) (XC.out w (below_then HW.out hB)).1 (XC.out w (below_then HW.out hB)).2.1 (XC.out w (below_then HW.out hB)).2.2.1 (XC.out w (below_then HW.out hB)).2.2.2) (Below.refl _ _) rfl
  ·intro x w hB hd
   obtain ⟨k2, k5, -⟩ := deps_k (ds := [2, 5]) (by kernel_rfl) hd
   exact st_call rfl (want_none rfl) rfl rfl hnd (x_call2 rfl ((eval_in hnd rfl (by simp)).trans k2) ((eval_in hnd rfl (by simp)).trans k5) rfl (by kernel_rfl)) (OF.out.addQ w _ _ (FB.out w (below_then HW.out hB)) (FC.out w (below_then HW.out hB)))
  ·intro x w hB hd
   obtain ⟨k6, -⟩ := deps_k (ds := [6]) (by kernel_rfl) hd
   exact st_val rfl (want_none rfl) rfl rfl hnd (x_move rfl (eval_in hnd rfl (by simp))) (Below.refl _ _) k6
  ·intro x w hB hd
   obtain ⟨k7, -⟩ := deps_k (ds := [7]) (by kernel_rfl) hd
   obtain ⟨y, e, hy⟩ := k7
   exact st_val rfl (want_none rfl) rfl rfl hnd (x_ext rfl ((eval_in hnd rfl (by simp)).trans e)) (Below.refl _ _) hy
  ·intro x w hB hd
   exact st_val rfl (want_none rfl) rfl rfl hnd (x_alloc rfl) (below_one w _) (ka_new _ _ hB.size)
  ·intro x w35 hB H
   obtain ⟨tQ, e3, L3, l3⟩ := H 10 (by decide)
   obtain ⟨sv, tv, av, dv, mv, iv, cv, jv, e8⟩ := fat_shape (H 8 (by decide))
   have e9 : x 9 = .int .i64 (0) := H 9 (by decide)
   have h8 := H 8 (by decide)
   refine tail_store (i := 11) (by kernel_rfl) rfl (want_none rfl) rfl (x_stF rfl ((eval_in hnd rfl (by simp)).trans e3) ((eval_in hnd rfl (by simp)).trans e8) (cellsF l3)) ?_
   refine tail_assign (i := 12) (by kernel_rfl) rfl (want_none rfl) rfl (x_asg rfl ((eval_in hnd rfl (by simp)).trans e9)) ?_
   refine wpAnyH_done (by kernel_rfl) ?_ _
   have HBn := Lib.hid hB
   have TQ := Lib.hid (FBox.store l3 (e8 ▸ h8))
   have HL3 := Lib.hid L3
   clear H hB l3 h8 hnd
   simp only [frm, e3, e8, e9, List.setIfInBounds_toArray, List.set_cons_zero, List.set_cons_succ]
   clear e3 e8 e9
   have hB5 := Lib.hid (below_set4 (p := tQ) (u0 := .bool sv) (u1 := .slice av mv cv) (u2 := .bool tv) (u3 := .slice dv iv jv) HBn.out HL3.out)
   generalize (((w35.setCell ⟨tQ, 0, none⟩ (.bool sv)).setCell ⟨tQ, 1, none⟩ (.slice av mv cv)).setCell ⟨tQ, 2, none⟩ (.bool tv)).setCell ⟨tQ, 3, none⟩ (.slice dv iv jv) = w36 at *
   have U := Lib.hid (TP.out.below hB5.out)
   clear TP
   have TP := U
   clear U
   have U := Lib.hid (below_then HW.out hB5.out)
   clear HW
   have HW := U
   clear U
   clear hB5 HBn HL3
   obtain ⟨sP, tP0, aP, dP, mP, iP, cP, jP, ⟨cP0, cP1, cP2, cP3⟩, _, hP⟩ := TP.out.open
   obtain ⟨sQ, tQ0, aQ, dQ, mQ, iQ, cQ, jQ, ⟨cQ0, cQ1, cQ2, cQ3⟩, _, hQ⟩ := TQ.out.open
   go_wp2_with fail
   have C := OF.out.cpq w36 _ _ hP hQ
   unfold VEnd at C
   have HC := Lib.hid C
   clear C hP hQ cP0 cP1 cP2 cP3 cQ0 cQ1 cQ2 cQ3
   go_must (refine HC.out.mono ?_)
   rintro e w37 ⟨v5, rfl, hv5, hb5⟩
   obtain rfl := hv5
   clear HC TP TQ
   have U := Lib.hid (below_then HW.out hb5)
   clear HW
   have HW := U
   clear U hb5
   rename_i K1 hK1 K0 hK0 K9 hK9
   have HK1 := Lib.hid hK1
   clear hK1
   go_wp2_with fail
   exact HK1.out _ _ (tail26 XA XB XC FA FB FC OF LV HB HW)
end Go.Proofs.YtepakogbbomaoaaGreatDoor
