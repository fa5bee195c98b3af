/-
 Package wide: Parse, at the text of an integer.
 Package wide: Parse, at the text of an integer: the walk.
 Texts of integers, plainly: which texts there are, how long they are, that no two integers have one.
 Package wide: Parse at texts of no integer.
-/
import Derived.Test.YtepakogbbomaoaaGreatDoorTxFO
import Derived.Test.YtepakogbbomaoaaGreatDoorRnCO
import Derived.Test.YtepakogbbomaoaaGreatDoorBgIO
import Derived.Lib.ConvBytes
namespace Go.Proofs.YtepakogbbomaoaaGreatDoor
open Go.RowKit Go.Shelf
set_option linter.unusedVariables false
set_option maxRecDepth 100000
attribute [local go_sem] Oper.semAt_some
def vT (l : List Nat) : Nat := l.foldl (fun a c => a * 10 + (c - 48)) 0
theorem vT_snoc (l : List Nat) (c : Nat) : vT (l ++ [c]) = vT l * 10 + (c - 48) := by unfold vT; rw [List.foldl_append]; rfl
theorem fold_from (m : List Nat) (a : Nat) : m.foldl (fun a c => a * 10 + (c - 48)) a = a * 10 ^ m.length + vT m := by
 induction m generalizing a with
 | nil => simp [vT]
 | cons c m ih =>
  unfold vT
  rw [List.foldl_cons, List.foldl_cons, ih, ih (0 * 10 + (c - 48)), List.length_cons, Nat.pow_succ, Nat.add_mul, Nat.mul_assoc, Nat.mul_comm 10 (10 ^ m.length), Nat.zero_mul, Nat.zero_add, Nat.add_assoc]
theorem vT_app (l m : List Nat) : vT (l ++ m) = vT l * 10 ^ m.length + vT m := by
 have := fold_from m (vT l)
 rw [← this]
 unfold vT
 rw [List.foldl_append]
theorem vT_cons (c : Nat) (m : List Nat) : vT (c :: m) = (c - 48) * 10 ^ m.length + vT m := by
 have := fold_from m (0 * 10 + (c - 48))
 rw [Nat.zero_mul, Nat.zero_add] at this
 rw [← this]
 unfold vT
 rw [List.foldl_cons, Nat.zero_mul, Nat.zero_add]
theorem vT_dec (D : List Nat) : vT (D.reverse.map (· + 48)) = valDT D := by
 induction D with
 | nil => rfl
 | cons d D ih =>
  rw [List.reverse_cons, List.map_append, List.map_cons, List.map_nil, vT_snoc, ih]
  simp only [valDT]
  omega
theorem vT_decN (m : Nat) : vT (decN m) = m := by
 unfold decN
 by_cases h : m = 0
 ·subst h; rfl
 ·rw [if_neg h, vT_dec, valD_digsT]
theorem decN_digit (m : Nat) : ∀ c ∈ decN m, digit8 c := by
 unfold decN
 intro c hc
 split at hc
 ·have : c = 48 := by simpa using hc
  unfold digit8; omega
 ·obtain ⟨d, hd, rfl⟩ := List.mem_map.1 hc
  have := digs_ltT m d (List.mem_reverse.1 hd)
  unfold digit8; omega
theorem decN_ne (m : Nat) : decN m ≠ [] := by
 unfold decN
 split
 ·simp
 ·rename_i h
  intro e
  have := congrArg List.length e
  have h2 := digs_len_posT h
  simp at this
  rw [this] at h2; simp at h2
theorem decN_num (m : Nat) : numT (decN m) := by
 refine ⟨decN_ne m, decN_digit m, fun h => ?_⟩
 by_cases h0 : m = 0
 ·subst h0; rfl
 ·exfalso
  unfold decN at h
  rw [if_neg h0, List.head?_map, List.head?_reverse] at h
  have hne : digsT m ≠ [] := fun e => by have := digs_len_posT h0; rw [e] at this; simp at this
  rw [List.getLast?_eq_some_getLast hne] at h
  have := digs_lastT hne
  simp at h
  omega
theorem decN_one {m : Nat} (h : m ≠ 0) : decN m ≠ [48] := by
 intro e
 have := vT_decN m
 rw [e] at this
 exact h this.symm
theorem vT_lt {l : List Nat} (h : ∀ c ∈ l, digit8 c) : vT l < 10 ^ l.length := by
 induction l with
 | nil => simp [vT]
 | cons c l ih =>
  have h1 := ih (fun x hx => h x (by simp [hx]))
  have h2 := h c (by simp)
  unfold digit8 at h2
  rw [vT_cons, List.length_cons, Nat.pow_succ]
  have h3 : (c - 48) * 10 ^ l.length ≤ 9 * 10 ^ l.length := Nat.mul_le_mul_right _ (by omega)
  generalize (c - 48) * 10 ^ l.length = p at *
  generalize 10 ^ l.length = q at *
  omega
def grp9 (l : List Nat) (k : Nat) : List Nat := (l.drop (9 * k)).take 9
theorem grp9_len (l : List Nat) (k : Nat) : (grp9 l k).length = min 9 (l.length - 9 * k) := by simp [grp9]
theorem take_grp (l : List Nat) (k : Nat) : l.take (9 * (k + 1)) = l.take (9 * k) ++ grp9 l k := by
 unfold grp9
 rw [show 9 * (k + 1) = 9 * k + 9 by omega, List.take_add]
theorem below_bytesW (B : Nat) (w : World) (s : ByteArray) (e : TypeId) (hB : B ≤ w.heap.size) : Below B w (Lib.bytesWorld w e s) :=
 ⟨rfl, rfl, rfl, by rw [Lib.bytesWorld_size]; omega, fun k hk => Lib.bytesWorld_at_old w e s k (by omega)⟩
theorem row_any {A : Foot} {k : IntKind} {w w' : World} {v : Value} {zs : List Int} (h : Row k w v zs) (hk : Keeps A w w') (hn : zs ≠ [] → ∀ j, blockOf v j → ¬ A j) : Row k w' v zs := by
 by_cases hz : zs = []
 ·subst hz
  obtain ⟨a, cap, rfl, h2, h3, h4, h5⟩ := h
  exact ⟨a, cap, rfl, h2, h3, fun h => (h rfl).elim, h5⟩
 ·exact row_foot h hk (hn hz)
theorem row_undefer {k : IntKind} {W : World} {v : Value} {zs : List Int} {D : Nat} {l : Option (List Deferred)} {o : Obj} (h : Row k W v zs) (hD : W.heap[D]? = some (.deferred l)) : Row k (W.putObj D o) v zs := by
 refine row_any h ((Keeps.refl (fun j => j = D) W).putObj D o rfl) (fun hz j hj hh => ?_)
 obtain ⟨p, c, rfl, _, _, h4, _⟩ := h
 obtain ⟨b, off, rfl, hc⟩ := h4 hz
 have h1 : j = b := hj
 have h2 : j = D := hh
 have h3 := hc 0 (by cases zs with | nil => exact (hz rfl).elim | cons a l => simp)
 rw [← h1, h2] at h3
 simp [World.cell?, hD] at h3
theorem rend_undefer {n : Int} {w : World} {e : Ending} {W : World} {D : Nat} {l : Option (List Deferred)} {o : Obj} (h : REndW n w e W) (hD : W.heap[D]? = some (.deferred l)) (hB : w.heap.size ≤ D) : REndW n w e (W.putObj D o) := by
 obtain ⟨x, c, rfl, h, hb⟩ := h
 refine ⟨x, c, rfl, ?_, hb.trans (((Keeps.refl (fun k => w.heap.size ≤ k) _).putObj D _ hB).below hb.size (fun _ h => h))⟩
 rcases h with ⟨h1, h2, v, h3, h4⟩ | h
 ·exact .inl ⟨h1, h2, v, h3, row_undefer h4 hD⟩
 ·exact .inr h
def PInv (B : Nat) (d : ByteArray) (cap : Nat) (w2 : World) (n : Nat) (A : Foot) (W : World) : Prop :=
 A B ∧ (∀ k, A k → k = B ∨ B + 4 ≤ k) ∧ (∀ k, A k → k < W.heap.size) ∧ Below B w2 W ∧ Row .u8 W (.slice (some ⟨B + 1, 0, none⟩) d.size cap) (natI (strB d)) ∧
  ∃ a m k, Laid W B 30 [.slice a m k] ∧ Row .u32 W (.slice a m k) (natI (digsW (vT ((strB d).take (9 * n))))) ∧ (natI (digsW (vT ((strB d).take (9 * n)))) ≠ [] → ∀ j, blockOf (.slice a m k) j → A j)
theorem PInv.keeps {B : Nat} {d : ByteArray} {cap : Nat} {w2 : World} {n : Nat} {A : Foot} {W W2 : World} (h : PInv B d cap w2 n A W) (hk : Keeps (fun k => B + 4 ≤ k ∧ ¬ A k) W W2) : PInv B d cap w2 n A W2 := by
 obtain ⟨h1, h2, h3, h4, h5, a, m, k, h6, h7, h8⟩ := h
 refine ⟨h1, h2, fun k hk2 => Nat.lt_of_lt_of_le (h3 k hk2) hk.size, h4.trans (hk.below (Nat.le_of_lt (h3 B h1)) (fun k hk2 => by omega)), row_foot h5 hk (fun j hj => ?_), a, m, k, h6.keeps hk (by omega), row_any h7 hk (fun hz j hj hh => hh.2 (h8 hz j hj)), h8⟩
 have : j = B + 1 := hj
 omega
set_option maxHeartbeats 8000000 in
theorem wParse_txt (n : Int) (w : World) (hlen : (txtN n).length ≤ 5000) :
  Calls Tryz.prog 61 #[.string (txtS n)] w (REndW n w) := by
 have hs := strB_txt n
 have hsz : (txtS n).size ≤ 5000 := by rw [← strB_length, hs]; exact hlen
 generalize txtS n = s at *
 obtain ⟨N, hN⟩ : ∃ N, n.natAbs = N := ⟨_, rfl⟩
 obtain ⟨na, hna⟩ : ∃ t, decide (n < 0) = t := ⟨_, rfl⟩
 have hdec : ∀ c ∈ decN N, digit8 c := decN_digit N
 have HS := Lib.hid hs
 have hNL : (decN N).length ≤ 5000 := by
  unfold txtN at hlen
  rw [hN] at hlen
  split at hlen
  ·simp at hlen; omega
  ·exact hlen
 have HSG : Hid (sgn na N = n) := Lib.hid (by rw [← hN, ← hna]; exact sgn_self n)
 have HL := Lib.hid (Laid.new w 32 [.bool false, .slice none 0 0])
 have HB0 := Lib.hid ((Below.refl _ w).alloc (Nat.le_refl _) (.cells #[.bool false, .slice none 0 0] 32))
 have HCP : Hid (∀ w1, Calls Tryz.prog 89 #[.string s, .string { data := #[45] }] w1 fun e w' => ∃ d : ByteArray, e = .returned (.tuple #[.string d, .bool na]) ∧ strB d = decN N ∧ w1 = w') := Lib.hid (fun w1 => by
  refine (cutPrefix_any s w1 (by omega)).mono ?_
  rintro e w' ⟨d, b, rfl, h, rfl⟩
  have ht : strB s = txtN n := hs
  unfold txtN at ht
  rw [hN] at ht
  rcases h with ⟨rfl, h1⟩ | ⟨rfl, rfl, h1⟩
  ·by_cases h2 : n < 0
   ·rw [if_pos h2, h1] at ht
    have e1 : na = true := by rw [← hna]; exact decide_eq_true h2
    rw [e1]
    exact ⟨d, rfl, by injection ht, rfl⟩
   ·rw [if_neg h2, h1] at ht
    have := hdec 45 (by rw [← ht]; simp)
    unfold digit8 at this
    omega
  ·by_cases h2 : n < 0
   ·rw [if_pos h2] at ht
    rw [ht] at h1
    exact absurd rfl h1
   ·rw [if_neg h2] at ht
    have e1 : na = false := by rw [← hna]; exact decide_eq_false h2
    rw [e1]
    exact ⟨d, rfl, ht, rfl⟩)
 have HN0 : Hid (na = true → N ≠ 0) := Lib.hid (fun h => by
  rw [← hna] at h
  have : n < 0 := by simpa using h
  omega)
 have HB48 : Hid (∀ d : ByteArray, strB d = decN N → na = true → (d.toList == [48]) = false) := Lib.hid (fun d hd h => by
  rw [beq_eq_false_iff_ne]
  intro e
  rw [ByteArray.toList_eq] at e
  have : strB d = [48] := by unfold strB; rw [e]; rfl
  rw [hd] at this
  exact decN_one (HN0.out h) this)
 clear hs hna hN hlen
 refine (callsIn_wide (n := 0)).1 ?_
 refine callsIn_of_wp_marks Tryz.func61 rfl trivial ?_ rfl
 simp only [Tryz.ntmps61, List.size_toArray, List.length_cons, List.length_nil, Nat.reduceAdd, Nat.reduceSub, Array.replicate_succ, Array.replicate_zero, List.push_toArray, List.append_toArray, List.nil_append, List.cons_append]
 gi_wp2_with fail
 generalize w.alloc (.cells #[.bool false, .slice none 0 0] 32) = w1 at *
 refine ⟨trivial, rfl, (callsIn_wide.2 (HCP.out w1)).mono ?_⟩
 rintro e w2 ⟨d, rfl, hd, rfl⟩
 have hds : d.size ≤ 5000 := by rw [← strB_length, hd]; exact hNL
 have hdn : numT (strB d) := by rw [hd]; exact decN_num N
 have HIN : Hid (Calls Tryz.prog 90 #[.string d] w1 fun e w' => e = .returned (.bool true) ∧ Below w1.heap.size w1 w') := Lib.hid (by
  refine (isNumber_any d w1 (by omega)).mono ?_
  rintro e w' ⟨b, rfl, hb, hbe⟩
  rw [hb.2 hdn]
  exact ⟨rfl, hbe⟩)
 have H48 := Lib.hid (HB48.out d hd)
 have HDD := Lib.hid hd
 clear hd hdn HCP HB48 hdec
 gi_wp2_with fail
 refine ⟨trivial, rfl, (callsIn_wide.2 HIN.out).mono ?_⟩
 rintro e w2 ⟨rfl, hb2⟩
 have HB2 := Lib.hid (below_then HB0.out hb2)
 have HL2 := Lib.hid (show Laid w2 w.heap.size 32 [.bool false, .slice none 0 0] from Laid.below HL.out hb2)
 clear hb2 HIN HB0 HL
 have hrow := row_bytes (w2.alloc (.cells #[.slice none 0 0] 30)) d (by unfold maxLen; omega)
 have hq := Lib.run_convert_string_bytes (P := Tryz.prog) (w2.alloc (.cells #[.slice none 0 0] 30)) 9 50 5 d under_str under_bytes Tryz.underlying5
 have hbe := below_bytesW w2.heap.size (w2.alloc (.cells #[.slice none 0 0] 30)) d 5 (by simp)
 have hszB := Lib.bytesWorld_size (w2.alloc (.cells #[.slice none 0 0] 30)) 5 d
 have hbx : Laid (Lib.bytesWorld (w2.alloc (.cells #[.slice none 0 0] 30)) 5 d) w2.heap.size 30 [.slice none 0 0] :=
  (Laid.new w2 30 [.slice none 0 0]).below (below_bytesW _ _ _ _ (Nat.le_refl _))
 have HROW := Lib.hid hrow
 have HBX := Lib.hid hbx
 have HBE := Lib.hid (((Below.refl w2.heap.size w2).alloc (Nat.le_refl _) (.cells #[.slice none 0 0] 30)).trans hbe)
 have HSZB := Lib.hid hszB
 clear hrow hbx hbe hszB
 cases na
 ·have hcap := grownCap_ge (w2.alloc (.cells #[.slice none 0 0] 30)) d.size 0 5
  generalize grownCap (w2.alloc (.cells #[.slice none 0 0] 30)) d.size 0 5 = dcap at *
  gi_wp2_with fail
  refine ⟨trivial, rfl, (callsIn_wide.2 (chunk9_any _ _ _ _)).mono ?_⟩
  rintro e w' ⟨rfl, rfl⟩
  rw [HSZB.out]
  gi_wp2_with fail
  obtain ⟨W3, hW3⟩ : ∃ W3, ((Lib.bytesWorld (w2.alloc (.cells #[.slice none 0 0] 30)) 5 d).alloc (.cells #[.slice (some ⟨w2.heap.size + 1, 0, none⟩) d.size dcap] 50)).alloc (.cells #[.int .i64 9] 3) = W3 := ⟨_, rfl⟩
  rw [hW3]
  have hs3 : W3.heap.size = w2.heap.size + 4 := by rw [← hW3]; simp [HSZB.out]
  have c2 : W3.cell? ⟨w2.heap.size + 1 + 1, 0, none⟩ = some (.slice (some ⟨w2.heap.size + 1, 0, none⟩) d.size dcap) := by
   have h1 := (Laid.new (Lib.bytesWorld (w2.alloc (.cells #[.slice none 0 0] 30)) 5 d) 50 [.slice (some ⟨w2.heap.size + 1, 0, none⟩) d.size dcap]).below ((Below.refl _ _).alloc (Nat.le_refl _) (.cells #[.int .i64 9] 3))
   rw [HSZB.out, World.size_alloc, hW3] at h1
   exact h1.cell 0
  have c3 : W3.cell? ⟨w2.heap.size + 1 + 1 + 1, 0, none⟩ = some (.int .i64 9) := by
   have h1 := Laid.new ((Lib.bytesWorld (w2.alloc (.cells #[.slice none 0 0] 30)) 5 d).alloc (.cells #[.slice (some ⟨w2.heap.size + 1, 0, none⟩) d.size dcap] 50)) 3 [.int .i64 9]
   rw [World.size_alloc, HSZB.out, World.size_alloc, hW3] at h1
   exact h1.cell 0
  have kb : Below (Lib.bytesWorld (w2.alloc (.cells #[.slice none 0 0] 30)) 5 d).heap.size (Lib.bytesWorld (w2.alloc (.cells #[.slice none 0 0] 30)) 5 d) W3 := by
   rw [← hW3]
   exact ((Below.refl _ _).alloc (Nat.le_refl _) _).alloc (by simp) _
  have bx3 : Laid W3 w2.heap.size 30 [.slice none 0 0] := HBX.out.below kb
  have r3 : Row .u8 W3 (.slice (some ⟨w2.heap.size + 1, 0, none⟩) d.size dcap) (natI (strB d)) := by
   have := row_keeps HROW.out kb
   rwa [World.size_alloc] at this
  have bl3 : Below w2.heap.size w2 W3 := below_then HBE.out kb
  clear kb
  generalize hB1 : w2.heap.size = B1 at *
  clear hW3
  have hg := chunk9_gives (B1 + 1) 0 d.size dcap (B1 + 1 + 1) (B1 + 1 + 1 + 1) W3 hcap (by omega) c2 c3
  refine wp_range (gf := 122) (lb := #[.pointer (some ⟨B1 + 1 + 1, 0, none⟩), .pointer (some ⟨B1 + 1 + 1 + 1, 0, none⟩)]) rfl (enters_of Tryz.func122 (by kernel_rfl) rfl) hg (fun k => k = B1)
   (fun k hk => ⟨rfl, by rcases hk with rfl | rfl <;> omega, by rcases hk with rfl | rfl <;> omega⟩) (fun _ => rfl)
   (fun pre A1 W1 => PInv B1 d dcap w2 pre.length A1 W1)
   (fun _ _ _ _ => False) ?inv ?invx ⟨rfl, fun k hk => .inl hk, fun k hk => by omega, bl3, r3, none, 0, 0, bx3, by have hz : digsW 0 = [] := (by simp [digsW]); (show Row .u32 W3 _ (natI (digsW 0))); rw [hz]; exact row_nil_of none 0 (fun _ => rfl) (by decide), fun _ _ h => h.elim⟩
   (fun pre x a1 A1 W1 => PInv B1 d dcap w2 pre.length A1 W1 ∧
    a1 = { tmps := #[.string s, undef, .pointer (some ⟨w.heap.size, 0, none⟩), .int .i64 0, .string d, .bool false, .pointer (some ⟨B1, 0, none⟩), .slice (some ⟨B1 + 1, 9 * x, none⟩) (min 9 (d.size - 9 * x)) (min 9 (d.size - 9 * x)), undef, undef, undef, undef, .string s, .int .i64 s.size, .bool (decide (5000 < (s.size : Int))), undef, .tuple #[.string d, .bool false], .string s, .tuple #[.string d, .bool false], .string d, .bool false, .string d, .bool true, .bool false, .bool false, .bool false, .bool false, undef, undef, .bool false, .bool false, undef, .string d, .slice (some ⟨B1 + 1, 0, none⟩) d.size dcap, .func (.func 122) #[] #[.pointer (some ⟨B1 + 1 + 1, 0, none⟩), .pointer (some ⟨B1 + 1 + 1 + 1, 0, none⟩)], .slice (some ⟨B1 + 1, 9 * x, none⟩) (min 9 (d.size - 9 * x)) (min 9 (d.size - 9 * x)), undef, undef, undef, undef, undef, undef, undef, undef, undef, undef, undef, undef, undef, undef, undef, undef, undef, undef, undef, undef, undef, undef, undef, undef, undef], defers := [] })
   ?invA ?assign ?body ?done ?stop
  case inv => exact ⟨fun s A1 W1 W2 h hk => h.keeps (hk.mono fun k _ hh => ⟨by omega, hh.2⟩), fun s A1 W1 h => h.2.2.1⟩
  case invx => exact fun c => ⟨fun _ _ _ _ h _ => h.elim, fun _ _ _ h => h.elim⟩
  case invA =>
   intro pre x a1
   exact ⟨fun s A1 W1 W2 h hk => ⟨h.1.keeps (hk.mono fun k _ hh => ⟨by omega, hh.2⟩), h.2⟩, fun s A1 W1 h => h.1.2.2.1⟩
  case assign =>
   intro l2 pre x A1 W1 K hpre hI hK
   unfold chunk9V
   gi_wp2_with fail
   exact hK _ _ _ (Round.refl _ _) ⟨hI, rfl⟩
  case body =>
   rintro l2 pre x a1 A1 W1 hl2 hn2 hr2 hpre ⟨hI, rfl⟩
   have hx : x = pre.length := by
    have := hpre.getElem (i := pre.length) (by simp)
    simpa using this
   have hxn : 9 * pre.length < d.size := by
    have := hpre.length_le
    rw [List.length_append, List.length_range, List.length_singleton] at this
    omega
   subst hx
   have hW1 : B1 + 4 ≤ W1.heap.size := by
    obtain ⟨r, hr⟩ := hr2
    have := (Array.getElem?_eq_some_iff.1 hr).1
    omega
   clear hr2 hg hn2 c2 c3 bx3 r3 bl3 hpre
   generalize hqp : pre.length = q at *
   have HG : Hid (min 9 (d.size - 9 * q) = (grp9 (strB d) q).length) := Lib.hid (by rw [grp9_len, strB_length])
   have hG9 : min 9 (d.size - 9 * q) ≤ 9 := Nat.min_le_left _ _
   have hGd : 9 * q + min 9 (d.size - 9 * q) ≤ d.size := by omega
   generalize min 9 (d.size - 9 * q) = G at *
   have HI := Lib.hid hI
   clear hI
   gi_wp2_with fail
   gi_loopw [8, 9, 11, 38] (fun fv vv _ iv wr => ∃ (j f v : Nat), fv = .int .u32 (f : Int) ∧ vv = .int .u32 (v : Int) ∧ iv = .int .i64 (j : Int) ∧ j ≤ G ∧ Hid (f = 10 ^ j) ∧ Hid (v = vT ((grp9 (strB d) q).take j)) ∧ Hid (Keeps (fun _ => False) W1 wr)) (fun _ _ _ iv _ => ((G : Int) - intOf iv).toNat)
   case atStart => exact ⟨0, 1, 0, rfl, rfl, rfl, Nat.zero_le _, Lib.hid rfl, Lib.hid rfl, Lib.hid (Keeps.refl _ _)⟩
   case round =>
    obtain ⟨j, f, v, rfl, rfl, rfl, hjG, HF, HV, HK⟩ := hrel
    rcases Nat.lt_or_ge j G with hj | hj
    ·have hc0 : ∃ c : Nat, W1.cell? ⟨B1 + 1, 9 * q + j, none⟩ = some (.int .u8 (c : Int)) ∧ 48 ≤ c ∧ c ≤ 57 ∧ vT ((grp9 (strB d) q).take (j + 1)) = vT ((grp9 (strB d) q).take j) * 10 + (c - 48) := by
      have hjl : 9 * q + j < (strB d).length := by rw [strB_length]; omega
      have hgl : j < (grp9 (strB d) q).length := by rw [← HG.out]; exact hj
      have he : (grp9 (strB d) q)[j]? = some ((strB d)[9 * q + j]'hjl) := by
       unfold grp9
       rw [List.getElem?_take, if_pos (by omega), List.getElem?_drop, List.getElem?_eq_getElem hjl]
      have hdg : digit8 ((strB d)[9 * q + j]'hjl) := by
       have := decN_digit N
       rw [← HDD.out] at this
       exact this _ (List.getElem_mem _)
      refine ⟨(strB d)[9 * q + j]'hjl, ?_, hdg.1, hdg.2, ?_⟩
      ·obtain ⟨_, _, _, _, h5, _⟩ := HI.out
       obtain ⟨a0, cap0, e0, _, _, h4, _⟩ := h5
       have hnn : natI (strB d) ≠ [] := by intro e; have := congrArg List.length e; rw [natI_length, List.length_nil] at this; omega
       obtain ⟨b, off, e1, hcs⟩ := h4 hnn
       injection e0 with e2 _ _
       rw [← e2] at e1
       injection e1 with e3
       injection e3 with e4 e5 _
       have := hcs (9 * q + j) (by rw [natI_length]; exact hjl)
       rw [← e4, ← e5, Nat.zero_add] at this
       rw [this]
       unfold natI
       rw [List.getElem?_map, List.getElem?_eq_getElem hjl]
       rfl
      ·rw [List.take_add_one, he]
       exact vT_snoc _ _
     obtain ⟨c, hc1, hc48, hc57, hvs⟩ := hc0
     have hf : f ≤ 100000000 := by
      rw [HF.out]
      exact Nat.pow_le_pow_right (by decide) (show j ≤ 8 by omega)
     have hv : v < 100000000 := by
      rw [HV.out]
      refine Nat.lt_of_lt_of_le (vT_lt fun x hx => ?_) (Nat.pow_le_pow_right (by decide) (show ((grp9 (strB d) q).take j).length ≤ 8 by rw [List.length_take]; omega))
      have h1 := decN_digit N
      rw [← HDD.out] at h1
      exact h1 x (List.drop_subset _ _ (List.take_subset _ _ (List.take_subset _ _ hx)))
     have hc := HK.out.cell hc1 (fun h => h)
     have HVS := Lib.hid hvs
     clear hc1 hvs
     gi_wp2_with fail
     refine ⟨⟨j + 1, f * 10, v * 10 + (c - 48), by go_num, ?_, by go_num, hj, Lib.hid (by rw [HF.out, Nat.pow_succ]), Lib.hid (by rw [HVS.out, ← HV.out]), HK⟩, ?_⟩
     ·congr 1; omega
     ·simp [intOf]; omega
    ·have hjg : j = G := by omega
     subst hjg
     obtain ⟨a, m, k, h6, h7, h8⟩ := HI.out.2.2.2.2.2
     have hl6 := h6.keeps HK.out (fun h => h)
     have HR7 := Lib.hid (row_foot h7 HK.out (fun _ _ h => h))
     have hc := hl6.cell 0
     have hlf := hl6.frozen
     have HL6 := Lib.hid hl6
     have H8 := Lib.hid h8
     clear h6 h7 h8 hl6
     have hdg : ∀ x ∈ strB d, digit8 x := by rw [HDD.out]; exact decN_digit N
     have hvl : v < 4294967296 := by
      rw [HV.out]
      refine Nat.lt_of_lt_of_le (vT_lt fun x hx => hdg x (List.drop_subset _ _ (List.take_subset _ _ (List.take_subset _ _ hx)))) (Nat.le_trans (Nat.pow_le_pow_right (by decide) (show ((grp9 (strB d) q).take j).length ≤ 9 by rw [List.length_take]; omega)) (by decide))
     have hfl : f < 4294967296 := by
      rw [HF.out]
      exact Nat.lt_of_le_of_lt (Nat.pow_le_pow_right (by decide) hG9) (by decide)
     have hdl : (digsW (vT ((strB d).take (9 * q)))).length ≤ 900000 := by
      have h1 : ((strB d).take (9 * q)).length ≤ 5000 := by rw [List.length_take, strB_length]; omega
      have h2 := digs_len_leW (k := ((strB d).take (9 * q)).length) (Nat.lt_of_lt_of_le (vT_lt fun x hx => hdg x (List.take_subset _ _ hx)) (Nat.pow_le_pow_left (by decide) _))
      omega
     clear hdg
     have hsc := scaled_at _ (vT ((strB d).take (9 * q))) f v wr HR7.out hfl hvl hdl
     gi_wp2_with fail
     refine ⟨trivial, rfl, (CallsIn.inRound l2 (callsIn_wide.2 hsc)).mono ?_⟩
     rintro e w5 ⟨a5, m5, k5, rfl, h51, h52, h53⟩
     have hl5 := HL6.out.below h52
     have hlf5 := hl5.frozen
     have hc5 := hl5.cell 0
     have HR5 := Lib.hid h51
     have HB5 := Lib.hid h52
     have H53 := Lib.hid h53
     have HL5 := Lib.hid hl5
     clear hc hlf hsc h51 h52 h53 hl5
     gi_wp2_with fail
     have kk : Keeps A1 W1 (w5.setCell ⟨B1, 0, none⟩ (.slice a5 m5 k5)) :=
      ((HK.out.mono (fun _ _ h => h.elim)).trans ⟨HB5.out.os, HB5.out.tape, HB5.out.output, HB5.out.size, fun i hi _ => HB5.out.block i hi⟩).setCell _ _ HI.out.1
     obtain ⟨p1, p2, p3, p4, p5, _⟩ := HI.out
     have hwr : W1.heap.size ≤ wr.heap.size := HK.out.size
     have hw5 : wr.heap.size ≤ w5.heap.size := HB5.out.size
     have hz6 : (w5.setCell ⟨B1, 0, none⟩ (.slice a5 m5 k5)).heap.size = w5.heap.size := by simp
     have hval : vT ((strB d).take (9 * q)) * f + v = vT ((strB d).take (9 * (q + 1))) := by
      have ht : (grp9 (strB d) q).take j = grp9 (strB d) q := List.take_of_length_le (by rw [← HG.out]; exact Nat.le_refl _)
      rw [HV.out, ht, take_grp, vT_app, ← HG.out, HF.out]
     rw [hval] at HR5
     refine ⟨fun k => A1 k ∨ (wr.heap.size ≤ k ∧ k < w5.heap.size), ⟨kk, fun k hk => hk.imp id (fun h => by omega)⟩, ?_⟩
     show PInv B1 d dcap w2 (pre ++ [q]).length _ _
     rw [List.length_append, List.length_singleton, hqp]
     refine ⟨.inl p1, fun k hk => ?_, fun k hk => ?_, p4.trans (kk.below (by omega) (fun k hk => by rcases p2 k hk with h | h <;> omega)), row_foot p5 kk (fun j hj hh => ?_), a5, m5, k5, HL5.out.set 0 _, row_any HR5.out ((Keeps.refl (fun k => k = B1) w5).setCell _ _ rfl) (fun _ j hj hh => ?_), fun hz j hj => .inr ⟨H53.out j hj, row_block HR5.out hz j hj⟩⟩
     ·rcases hk with hk | hk
      ·exact p2 k hk
      ·exact .inr (by omega)
     ·rw [hz6]
      rcases hk with hk | hk
      ·have := p3 k hk; omega
      ·exact hk.2
     ·have : j = B1 + 1 := hj
      rcases p2 j hh with h | h <;> omega
     ·have := H53.out j hj
      have h1 : j = B1 := hh
      omega
  case done =>
   rintro D A2 W2 hD hnD hI hdef
   rw [List.length_range] at hI
   have hval : vT ((strB d).take (9 * ((d.size + 8) / 9))) = N := by
    rw [List.take_of_length_le (by rw [strB_length]; omega), HDD.out]
    exact vT_decN N
   obtain ⟨p1, p2, p3, p4, p5, a, m, k, h6, h7, h8⟩ := hI
   rw [hval] at h7 h8
   have hc := h6.cell 0
   have hcf := h6.frozen
   clear hg c2 c3 bx3 r3 bl3 p5
   gi_wp2_with fail
   refine ⟨trivial, rfl, (callsIn_wide.2 (signed_any false _ N W2 h7)).mono ?_⟩
   rw [HSG.out]
   rintro e w4 ⟨b4, a4, m4, k4, rfl, hx4, hb4⟩
   clear hc hcf
   gi_wp2_with fail
   refine ⟨trivial, rfl, (callsIn_wide.2 (inRange_any _ _ _ hx4)).mono ?_⟩
   rintro e w5 hw5
   obtain ⟨b5, a5, m5, k5, c5, rfl, hx5, hb5⟩ := rend_form hw5
   have hb25 : Below w2.heap.size w2 w5 := by rw [hB1]; exact p4.trans ((hb4.trans (hb5.mono hb4.size)).mono (by have := p4.size; omega))
   have hl5 := HL2.out.below hb25
   have HB5 := Lib.hid (below_then HB2.out hb25)
   have HX5 := Lib.hid hx5
   have hK5 : w5.heap[D]? = some (.deferred (some [])) := by
    have hD2 := (Array.getElem?_eq_some_iff.1 hdef).1
    rw [hb5.block D (Nat.lt_of_lt_of_le hD2 hb4.size), hb4.block D hD2]
    exact hdef
   have HK5 := Lib.hid hK5
   have HLL := Lib.hid hl5
   obtain ⟨f0, f1, f2, f3⟩ := cells2 hl5
   clear hw5 hx5 hb5 hb4 hx4 h7 h8 h6 hb25 hdef hK5 hl5 p4
   gi_wp2_with fail
   have hlt := HL2.out.lt
   have hDn : D ≠ w.heap.size := by omega
   have hDl : D < w5.heap.size := (Array.getElem?_eq_some_iff.1 HK5.out).1
   have hK6 : ((w5.setCell ⟨w.heap.size, 0, none⟩ (.bool b5)).setCell ⟨w.heap.size, 1, none⟩ (.slice a5 m5 k5)).heap[D]? = some (.deferred (some [])) :=
    ((((Keeps.refl (fun k => k = w.heap.size) w5).setCell ⟨w.heap.size, 0, none⟩ (.bool b5) rfl).setCell ⟨w.heap.size, 1, none⟩ (.slice a5 m5 k5) rfl).same D hDl hDn).trans HK5.out
   have HR := rend_store HB5.out (Nat.le_refl _) HLL.out HX5.out
   have HL7 := (HLL.out.set 0 (.bool b5)).set 1 (.slice a5 m5 k5)
   generalize ((w5.setCell ⟨w.heap.size, 0, none⟩ (.bool b5)).setCell ⟨w.heap.size, 1, none⟩ (.slice a5 m5 k5)) = w7 at *
   refine ⟨by simp, .inl ⟨_, _, rfl, run_takeDeferred hK6, ?_⟩⟩
   have HL8 := HL7.keeps ((Keeps.refl (fun k => k = D) w7).putObj D (.deferred none) rfl) (fun e => hDn e.symm)
   have f0 := HL8.cell 0
   have f1 := HL8.cell 1
   simp at f0 f1
   refine ⟨.tuple #[.agg #[.bool b5, .slice a5 m5 k5], .int .i64 c5], by simp [results, Tryz.results61, go_sem, f0, f1], ?_⟩
   exact rend_undefer HR hK6 (by omega)
  case stop => exact fun _ _ _ _ _ _ _ _ h => h.elim
 ·have h48 := H48.out rfl
  have hcap := grownCap_ge (w2.alloc (.cells #[.slice none 0 0] 30)) d.size 0 5
  generalize grownCap (w2.alloc (.cells #[.slice none 0 0] 30)) d.size 0 5 = dcap at *
  gi_wp2_with fail
  refine ⟨trivial, rfl, (callsIn_wide.2 (chunk9_any _ _ _ _)).mono ?_⟩
  rintro e w' ⟨rfl, rfl⟩
  rw [HSZB.out]
  gi_wp2_with fail
  obtain ⟨W3, hW3⟩ : ∃ W3, ((Lib.bytesWorld (w2.alloc (.cells #[.slice none 0 0] 30)) 5 d).alloc (.cells #[.slice (some ⟨w2.heap.size + 1, 0, none⟩) d.size dcap] 50)).alloc (.cells #[.int .i64 9] 3) = W3 := ⟨_, rfl⟩
  rw [hW3]
  have hs3 : W3.heap.size = w2.heap.size + 4 := by rw [← hW3]; simp [HSZB.out]
  have c2 : W3.cell? ⟨w2.heap.size + 1 + 1, 0, none⟩ = some (.slice (some ⟨w2.heap.size + 1, 0, none⟩) d.size dcap) := by
   have h1 := (Laid.new (Lib.bytesWorld (w2.alloc (.cells #[.slice none 0 0] 30)) 5 d) 50 [.slice (some ⟨w2.heap.size + 1, 0, none⟩) d.size dcap]).below ((Below.refl _ _).alloc (Nat.le_refl _) (.cells #[.int .i64 9] 3))
   rw [HSZB.out, World.size_alloc, hW3] at h1
   exact h1.cell 0
  have c3 : W3.cell? ⟨w2.heap.size + 1 + 1 + 1, 0, none⟩ = some (.int .i64 9) := by
   have h1 := Laid.new ((Lib.bytesWorld (w2.alloc (.cells #[.slice none 0 0] 30)) 5 d).alloc (.cells #[.slice (some ⟨w2.heap.size + 1, 0, none⟩) d.size dcap] 50)) 3 [.int .i64 9]
   rw [World.size_alloc, HSZB.out, World.size_alloc, hW3] at h1
   exact h1.cell 0
  have kb : Below (Lib.bytesWorld (w2.alloc (.cells #[.slice none 0 0] 30)) 5 d).heap.size (Lib.bytesWorld (w2.alloc (.cells #[.slice none 0 0] 30)) 5 d) W3 := by
   rw [← hW3]
   exact ((Below.refl _ _).alloc (Nat.le_refl _) _).alloc (by simp) _
  have bx3 : Laid W3 w2.heap.size 30 [.slice none 0 0] := HBX.out.below kb
  have r3 : Row .u8 W3 (.slice (some ⟨w2.heap.size + 1, 0, none⟩) d.size dcap) (natI (strB d)) := by
   have := row_keeps HROW.out kb
   rwa [World.size_alloc] at this
  have bl3 : Below w2.heap.size w2 W3 := below_then HBE.out kb
  clear kb
  generalize hB1 : w2.heap.size = B1 at *
  clear hW3
  have hg := chunk9_gives (B1 + 1) 0 d.size dcap (B1 + 1 + 1) (B1 + 1 + 1 + 1) W3 hcap (by omega) c2 c3
  refine wp_range (gf := 122) (lb := #[.pointer (some ⟨B1 + 1 + 1, 0, none⟩), .pointer (some ⟨B1 + 1 + 1 + 1, 0, none⟩)]) rfl (enters_of Tryz.func122 (by kernel_rfl) rfl) hg (fun k => k = B1)
   (fun k hk => ⟨rfl, by rcases hk with rfl | rfl <;> omega, by rcases hk with rfl | rfl <;> omega⟩) (fun _ => rfl)
   (fun pre A1 W1 => PInv B1 d dcap w2 pre.length A1 W1)
   (fun _ _ _ _ => False) ?inv ?invx ⟨rfl, fun k hk => .inl hk, fun k hk => by omega, bl3, r3, none, 0, 0, bx3, by have hz : digsW 0 = [] := (by simp [digsW]); (show Row .u32 W3 _ (natI (digsW 0))); rw [hz]; exact row_nil_of none 0 (fun _ => rfl) (by decide), fun _ _ h => h.elim⟩
   (fun pre x a1 A1 W1 => PInv B1 d dcap w2 pre.length A1 W1 ∧
    a1 = { tmps := #[.string s, undef, .pointer (some ⟨w.heap.size, 0, none⟩), .int .i64 0, .string d, .bool true, .pointer (some ⟨B1, 0, none⟩), .slice (some ⟨B1 + 1, 9 * x, none⟩) (min 9 (d.size - 9 * x)) (min 9 (d.size - 9 * x)), undef, undef, undef, undef, .string s, .int .i64 s.size, .bool (decide (5000 < (s.size : Int))), undef, .tuple #[.string d, .bool true], .string s, .tuple #[.string d, .bool true], .string d, .bool true, .string d, .bool true, .bool false, .bool false, .bool true, .bool true, .string d, .bool false, .bool false, .bool false, undef, .string d, .slice (some ⟨B1 + 1, 0, none⟩) d.size dcap, .func (.func 122) #[] #[.pointer (some ⟨B1 + 1 + 1, 0, none⟩), .pointer (some ⟨B1 + 1 + 1 + 1, 0, none⟩)], .slice (some ⟨B1 + 1, 9 * x, none⟩) (min 9 (d.size - 9 * x)) (min 9 (d.size - 9 * x)), undef, undef, undef, undef, undef, undef, undef, undef, undef, undef, undef, undef, undef, undef, undef, undef, undef, undef, undef, undef, undef, undef, undef, undef, undef], defers := [] })
   ?invA ?assign ?body ?done ?stop
  case inv => exact ⟨fun s A1 W1 W2 h hk => h.keeps (hk.mono fun k _ hh => ⟨by omega, hh.2⟩), fun s A1 W1 h => h.2.2.1⟩
  case invx => exact fun c => ⟨fun _ _ _ _ h _ => h.elim, fun _ _ _ h => h.elim⟩
  case invA =>
   intro pre x a1
   exact ⟨fun s A1 W1 W2 h hk => ⟨h.1.keeps (hk.mono fun k _ hh => ⟨by omega, hh.2⟩), h.2⟩, fun s A1 W1 h => h.1.2.2.1⟩
  case assign =>
   intro l2 pre x A1 W1 K hpre hI hK
   unfold chunk9V
   gi_wp2_with fail
   exact hK _ _ _ (Round.refl _ _) ⟨hI, rfl⟩
  case body =>
   rintro l2 pre x a1 A1 W1 hl2 hn2 hr2 hpre ⟨hI, rfl⟩
   have hx : x = pre.length := by
    have := hpre.getElem (i := pre.length) (by simp)
    simpa using this
   have hxn : 9 * pre.length < d.size := by
    have := hpre.length_le
    rw [List.length_append, List.length_range, List.length_singleton] at this
    omega
   subst hx
   have hW1 : B1 + 4 ≤ W1.heap.size := by
    obtain ⟨r, hr⟩ := hr2
    have := (Array.getElem?_eq_some_iff.1 hr).1
    omega
   clear hr2 hg hn2 c2 c3 bx3 r3 bl3 hpre
   generalize hqp : pre.length = q at *
   have HG : Hid (min 9 (d.size - 9 * q) = (grp9 (strB d) q).length) := Lib.hid (by rw [grp9_len, strB_length])
   have hG9 : min 9 (d.size - 9 * q) ≤ 9 := Nat.min_le_left _ _
   have hGd : 9 * q + min 9 (d.size - 9 * q) ≤ d.size := by omega
   generalize min 9 (d.size - 9 * q) = G at *
   have HI := Lib.hid hI
   clear hI
   gi_wp2_with fail
   gi_loopw [8, 9, 11, 38] (fun fv vv _ iv wr => ∃ (j f v : Nat), fv = .int .u32 (f : Int) ∧ vv = .int .u32 (v : Int) ∧ iv = .int .i64 (j : Int) ∧ j ≤ G ∧ Hid (f = 10 ^ j) ∧ Hid (v = vT ((grp9 (strB d) q).take j)) ∧ Hid (Keeps (fun _ => False) W1 wr)) (fun _ _ _ iv _ => ((G : Int) - intOf iv).toNat)
   case atStart => exact ⟨0, 1, 0, rfl, rfl, rfl, Nat.zero_le _, Lib.hid rfl, Lib.hid rfl, Lib.hid (Keeps.refl _ _)⟩
   case round =>
    obtain ⟨j, f, v, rfl, rfl, rfl, hjG, HF, HV, HK⟩ := hrel
    rcases Nat.lt_or_ge j G with hj | hj
    ·have hc0 : ∃ c : Nat, W1.cell? ⟨B1 + 1, 9 * q + j, none⟩ = some (.int .u8 (c : Int)) ∧ 48 ≤ c ∧ c ≤ 57 ∧ vT ((grp9 (strB d) q).take (j + 1)) = vT ((grp9 (strB d) q).take j) * 10 + (c - 48) := by
      have hjl : 9 * q + j < (strB d).length := by rw [strB_length]; omega
      have hgl : j < (grp9 (strB d) q).length := by rw [← HG.out]; exact hj
      have he : (grp9 (strB d) q)[j]? = some ((strB d)[9 * q + j]'hjl) := by
       unfold grp9
       rw [List.getElem?_take, if_pos (by omega), List.getElem?_drop, List.getElem?_eq_getElem hjl]
      have hdg : digit8 ((strB d)[9 * q + j]'hjl) := by
       have := decN_digit N
       rw [← HDD.out] at this
       exact this _ (List.getElem_mem _)
      refine ⟨(strB d)[9 * q + j]'hjl, ?_, hdg.1, hdg.2, ?_⟩
      ·obtain ⟨_, _, _, _, h5, _⟩ := HI.out
       obtain ⟨a0, cap0, e0, _, _, h4, _⟩ := h5
       have hnn : natI (strB d) ≠ [] := by intro e; have := congrArg List.length e; rw [natI_length, List.length_nil] at this; omega
       obtain ⟨b, off, e1, hcs⟩ := h4 hnn
       injection e0 with e2 _ _
       rw [← e2] at e1
       injection e1 with e3
       injection e3 with e4 e5 _
       have := hcs (9 * q + j) (by rw [natI_length]; exact hjl)
       rw [← e4, ← e5, Nat.zero_add] at this
       rw [this]
       unfold natI
       rw [List.getElem?_map, List.getElem?_eq_getElem hjl]
       rfl
      ·rw [List.take_add_one, he]
       exact vT_snoc _ _
     obtain ⟨c, hc1, hc48, hc57, hvs⟩ := hc0
     have hf : f ≤ 100000000 := by
      rw [HF.out]
      exact Nat.pow_le_pow_right (by decide) (show j ≤ 8 by omega)
     have hv : v < 100000000 := by
      rw [HV.out]
      refine Nat.lt_of_lt_of_le (vT_lt fun x hx => ?_) (Nat.pow_le_pow_right (by decide) (show ((grp9 (strB d) q).take j).length ≤ 8 by rw [List.length_take]; omega))
      have h1 := decN_digit N
      rw [← HDD.out] at h1
      exact h1 x (List.drop_subset _ _ (List.take_subset _ _ (List.take_subset _ _ hx)))
     have hc := HK.out.cell hc1 (fun h => h)
     have HVS := Lib.hid hvs
     clear hc1 hvs
     gi_wp2_with fail
     refine ⟨⟨j + 1, f * 10, v * 10 + (c - 48), by go_num, ?_, by go_num, hj, Lib.hid (by rw [HF.out, Nat.pow_succ]), Lib.hid (by rw [HVS.out, ← HV.out]), HK⟩, ?_⟩
     ·congr 1; omega
     ·simp [intOf]; omega
    ·have hjg : j = G := by omega
     subst hjg
     obtain ⟨a, m, k, h6, h7, h8⟩ := HI.out.2.2.2.2.2
     have hl6 := h6.keeps HK.out (fun h => h)
     have HR7 := Lib.hid (row_foot h7 HK.out (fun _ _ h => h))
     have hc := hl6.cell 0
     have hlf := hl6.frozen
     have HL6 := Lib.hid hl6
     have H8 := Lib.hid h8
     clear h6 h7 h8 hl6
     have hdg : ∀ x ∈ strB d, digit8 x := by rw [HDD.out]; exact decN_digit N
     have hvl : v < 4294967296 := by
      rw [HV.out]
      refine Nat.lt_of_lt_of_le (vT_lt fun x hx => hdg x (List.drop_subset _ _ (List.take_subset _ _ (List.take_subset _ _ hx)))) (Nat.le_trans (Nat.pow_le_pow_right (by decide) (show ((grp9 (strB d) q).take j).length ≤ 9 by rw [List.length_take]; omega)) (by decide))
     have hfl : f < 4294967296 := by
      rw [HF.out]
      exact Nat.lt_of_le_of_lt (Nat.pow_le_pow_right (by decide) hG9) (by decide)
     have hdl : (digsW (vT ((strB d).take (9 * q)))).length ≤ 900000 := by
      have h1 : ((strB d).take (9 * q)).length ≤ 5000 := by rw [List.length_take, strB_length]; omega
      have h2 := digs_len_leW (k := ((strB d).take (9 * q)).length) (Nat.lt_of_lt_of_le (vT_lt fun x hx => hdg x (List.take_subset _ _ hx)) (Nat.pow_le_pow_left (by decide) _))
      omega
     clear hdg
     have hsc := scaled_at _ (vT ((strB d).take (9 * q))) f v wr HR7.out hfl hvl hdl
     gi_wp2_with fail
     refine ⟨trivial, rfl, (CallsIn.inRound l2 (callsIn_wide.2 hsc)).mono ?_⟩
     rintro e w5 ⟨a5, m5, k5, rfl, h51, h52, h53⟩
     have hl5 := HL6.out.below h52
     have hlf5 := hl5.frozen
     have hc5 := hl5.cell 0
     have HR5 := Lib.hid h51
     have HB5 := Lib.hid h52
     have H53 := Lib.hid h53
     have HL5 := Lib.hid hl5
     clear hc hlf hsc h51 h52 h53 hl5
     gi_wp2_with fail
     have kk : Keeps A1 W1 (w5.setCell ⟨B1, 0, none⟩ (.slice a5 m5 k5)) :=
      ((HK.out.mono (fun _ _ h => h.elim)).trans ⟨HB5.out.os, HB5.out.tape, HB5.out.output, HB5.out.size, fun i hi _ => HB5.out.block i hi⟩).setCell _ _ HI.out.1
     obtain ⟨p1, p2, p3, p4, p5, _⟩ := HI.out
     have hwr : W1.heap.size ≤ wr.heap.size := HK.out.size
     have hw5 : wr.heap.size ≤ w5.heap.size := HB5.out.size
     have hz6 : (w5.setCell ⟨B1, 0, none⟩ (.slice a5 m5 k5)).heap.size = w5.heap.size := by simp
     have hval : vT ((strB d).take (9 * q)) * f + v = vT ((strB d).take (9 * (q + 1))) := by
      have ht : (grp9 (strB d) q).take j = grp9 (strB d) q := List.take_of_length_le (by rw [← HG.out]; exact Nat.le_refl _)
      rw [HV.out, ht, take_grp, vT_app, ← HG.out, HF.out]
     rw [hval] at HR5
     refine ⟨fun k => A1 k ∨ (wr.heap.size ≤ k ∧ k < w5.heap.size), ⟨kk, fun k hk => hk.imp id (fun h => by omega)⟩, ?_⟩
     show PInv B1 d dcap w2 (pre ++ [q]).length _ _
     rw [List.length_append, List.length_singleton, hqp]
     refine ⟨.inl p1, fun k hk => ?_, fun k hk => ?_, p4.trans (kk.below (by omega) (fun k hk => by rcases p2 k hk with h | h <;> omega)), row_foot p5 kk (fun j hj hh => ?_), a5, m5, k5, HL5.out.set 0 _, row_any HR5.out ((Keeps.refl (fun k => k = B1) w5).setCell _ _ rfl) (fun _ j hj hh => ?_), fun hz j hj => .inr ⟨H53.out j hj, row_block HR5.out hz j hj⟩⟩
     ·rcases hk with hk | hk
      ·exact p2 k hk
      ·exact .inr (by omega)
     ·rw [hz6]
      rcases hk with hk | hk
      ·have := p3 k hk; omega
      ·exact hk.2
     ·have : j = B1 + 1 := hj
      rcases p2 j hh with h | h <;> omega
     ·have := H53.out j hj
      have h1 : j = B1 := hh
      omega
  case done =>
   rintro D A2 W2 hD hnD hI hdef
   rw [List.length_range] at hI
   have hval : vT ((strB d).take (9 * ((d.size + 8) / 9))) = N := by
    rw [List.take_of_length_le (by rw [strB_length]; omega), HDD.out]
    exact vT_decN N
   obtain ⟨p1, p2, p3, p4, p5, a, m, k, h6, h7, h8⟩ := hI
   rw [hval] at h7 h8
   have hc := h6.cell 0
   have hcf := h6.frozen
   clear hg c2 c3 bx3 r3 bl3 p5
   gi_wp2_with fail
   refine ⟨trivial, rfl, (callsIn_wide.2 (signed_any true _ N W2 h7)).mono ?_⟩
   rw [HSG.out]
   rintro e w4 ⟨b4, a4, m4, k4, rfl, hx4, hb4⟩
   clear hc hcf
   gi_wp2_with fail
   refine ⟨trivial, rfl, (callsIn_wide.2 (inRange_any _ _ _ hx4)).mono ?_⟩
   rintro e w5 hw5
   obtain ⟨b5, a5, m5, k5, c5, rfl, hx5, hb5⟩ := rend_form hw5
   have hb25 : Below w2.heap.size w2 w5 := by rw [hB1]; exact p4.trans ((hb4.trans (hb5.mono hb4.size)).mono (by have := p4.size; omega))
   have hl5 := HL2.out.below hb25
   have HB5 := Lib.hid (below_then HB2.out hb25)
   have HX5 := Lib.hid hx5
   have hK5 : w5.heap[D]? = some (.deferred (some [])) := by
    have hD2 := (Array.getElem?_eq_some_iff.1 hdef).1
    rw [hb5.block D (Nat.lt_of_lt_of_le hD2 hb4.size), hb4.block D hD2]
    exact hdef
   have HK5 := Lib.hid hK5
   have HLL := Lib.hid hl5
   obtain ⟨f0, f1, f2, f3⟩ := cells2 hl5
   clear hw5 hx5 hb5 hb4 hx4 h7 h8 h6 hb25 hdef hK5 hl5 p4
   gi_wp2_with fail
   have hlt := HL2.out.lt
   have hDn : D ≠ w.heap.size := by omega
   have hDl : D < w5.heap.size := (Array.getElem?_eq_some_iff.1 HK5.out).1
   have hK6 : ((w5.setCell ⟨w.heap.size, 0, none⟩ (.bool b5)).setCell ⟨w.heap.size, 1, none⟩ (.slice a5 m5 k5)).heap[D]? = some (.deferred (some [])) :=
    ((((Keeps.refl (fun k => k = w.heap.size) w5).setCell ⟨w.heap.size, 0, none⟩ (.bool b5) rfl).setCell ⟨w.heap.size, 1, none⟩ (.slice a5 m5 k5) rfl).same D hDl hDn).trans HK5.out
   have HR := rend_store HB5.out (Nat.le_refl _) HLL.out HX5.out
   have HL7 := (HLL.out.set 0 (.bool b5)).set 1 (.slice a5 m5 k5)
   generalize ((w5.setCell ⟨w.heap.size, 0, none⟩ (.bool b5)).setCell ⟨w.heap.size, 1, none⟩ (.slice a5 m5 k5)) = w7 at *
   refine ⟨by simp, .inl ⟨_, _, rfl, run_takeDeferred hK6, ?_⟩⟩
   have HL8 := HL7.keeps ((Keeps.refl (fun k => k = D) w7).putObj D (.deferred none) rfl) (fun e => hDn e.symm)
   have f0 := HL8.cell 0
   have f1 := HL8.cell 1
   simp at f0 f1
   refine ⟨.tuple #[.agg #[.bool b5, .slice a5 m5 k5], .int .i64 c5], by simp [results, Tryz.results61, go_sem, f0, f1], ?_⟩
   exact rend_undefer HR hK6 (by omega)
  case stop => exact fun _ _ _ _ _ _ _ _ h => h.elim
theorem numT_dec {l : List Nat} (h : numT l) : decN (vT l) = l := by
 obtain ⟨h1, h2, h3⟩ := h
 obtain ⟨D, hD⟩ : ∃ D, D = l.reverse.map (· - 48) := ⟨_, rfl⟩
 have hl : D.reverse.map (· + 48) = l := by
  rw [hD, ← List.map_reverse, List.reverse_reverse, List.map_map]
  have : l.map ((· + 48) ∘ (· - 48)) = l.map id := by
   refine List.map_congr_left fun c hc => ?_
   have := h2 c hc
   unfold digit8 at this
   show c - 48 + 48 = c
   omega
  rw [this, List.map_id]
 have hv : vT l = valDT D := by rw [← hl]; exact vT_dec D
 have hd : ∀ c ∈ D, c < 10 := by
  intro c hc
  rw [hD] at hc
  obtain ⟨x, hx, rfl⟩ := List.mem_map.1 hc
  have := h2 x (List.mem_reverse.1 hx)
  unfold digit8 at this
  omega
 rcases Nat.eq_zero_or_pos (vT l) with h0 | h0
 ·-- the value 0: one digit
  have hlen : l = [48] := by
   match l, h1, h2, h3, h0 with
   | [c], _, h2, _, h0 =>
    have := h2 c (by simp)
    unfold digit8 at this
    rw [vT_cons] at h0
    simp [vT] at h0
    rw [show c = 48 by omega]
   | c :: d :: m, _, h2, h3, h0 =>
    exfalso
    have := h2 c (by simp)
    unfold digit8 at this
    have hne : c ≠ 48 := by
     intro e
     have := h3 (by rw [e]; rfl)
     simp at this
    rw [vT_cons] at h0
    have hp : 0 < (c - 48) * 10 ^ (d :: m).length := Nat.mul_pos (by omega) (Nat.pow_pos (by decide))
    omega
  rw [hlen]; rfl
 ·unfold decN
  rw [if_neg (by omega), hv]
  rw [digs_ofT hd, hl]
  intro hne
  -- the first digit is not 0
  have hlast : D.getLast hne = l.head h1 - 48 := by
   have : D.getLast? = some (l.head h1 - 48) := by
    rw [hD, List.getLast?_map, List.getLast?_reverse, List.head?_eq_some_head h1]; rfl
   rw [List.getLast?_eq_some_getLast hne] at this
   exact Option.some.inj this
  rw [hlast]
  have hh := h2 _ (List.head_mem h1)
  unfold digit8 at hh
  intro e
  have e48 : l.head h1 = 48 := by omega
  have hlen := h3 (by rw [List.head?_eq_some_head h1, e48])
  match l, h1, hlen, e48, h0 with
  | [c], _, _, e48, h0 =>
   have : c = 48 := e48
   subst this
   simp [vT] at h0
theorem decN_inj {a b : Nat} (h : decN a = decN b) : a = b := by
 have := congrArg vT h
 rwa [vT_decN, vT_decN] at this
theorem txtN_inj {a b : Int} (h : txtN a = txtN b) : a = b := by
 have hd : ∀ (m : Nat) (l : List Nat), decN m ≠ 45 :: l := by
  intro m l e
  have := decN_digit m 45 (by rw [e]; simp)
  unfold digit8 at this
  omega
 unfold txtN at h
 split at h <;> split at h
 ·have := decN_inj (List.cons.inj h).2; omega
 ·exact absurd h.symm (hd _ _)
 ·exact absurd h (hd _ _)
 ·have := decN_inj h; omega
theorem decN_len {m k : Nat} (h : m < 10 ^ k) (hk : 1 ≤ k) : (decN m).length ≤ k := by
 unfold decN
 split
 ·simpa using hk
 ·simpa using digs_len_leT h
theorem txtN_len {n : Int} {k : Nat} (h : n.natAbs < 10 ^ k) (hk : 1 ≤ k) : (txtN n).length ≤ k + 1 := by
 have := decN_len h hk
 unfold txtN
 split
 ·simpa using this
 ·omega
theorem txt_num {l : List Nat} (h : numT l) : txtN (vT l : Int) = l ∧ (l ≠ [48] → txtN (-(vT l : Int)) = 45 :: l) := by
 have h1 := numT_dec h
 constructor
 ·unfold txtN
  rw [if_neg (by omega), Int.natAbs_natCast, h1]
 ·intro hz
  have h0 : vT l ≠ 0 := by
   intro e
   rw [e] at h1
   exact hz h1.symm
  unfold txtN
  rw [if_pos (by omega), Int.natAbs_neg, Int.natAbs_natCast, h1]
def BadEnd (w : World) (e : Ending) (w' : World) : Prop := e = .returned (.tuple #[.agg #[.bool false, .slice none 0 0], .int .i64 2]) ∧ Below w.heap.size w w'
set_option maxHeartbeats 2000000 in
theorem wParse_bad (s : ByteArray) (w : World) (h : ∀ n, strB s ≠ txtN n) (hs : s.size ≤ 5000) :
  Calls Tryz.prog 61 #[.string s] w (BadEnd w) := by
 have CP := fun w1 => cutPrefix_any s w1 (by omega)
 unfold CutEnd at CP
 have HCP := Lib.hid CP
 have HH := Lib.hid h
 have HL := Lib.hid (Laid.new w 32 [.bool false, .slice none 0 0])
 have HB0 := Lib.hid ((Below.refl _ w).alloc (Nat.le_refl _) (.cells #[.bool false, .slice none 0 0] 32))
 clear CP h
 refine (callsIn_wide (n := 0)).1 ?_
 refine callsIn_of_wp_marks Tryz.func61 rfl trivial ?_ rfl
 simp only [Tryz.ntmps61, List.size_toArray, List.length_cons, List.length_nil, Nat.reduceAdd, Nat.reduceSub, Array.replicate_succ, Array.replicate_zero, List.push_toArray, List.append_toArray, List.nil_append, List.cons_append]
 gi_wp2_with fail
 generalize w.alloc (.cells #[.bool false, .slice none 0 0] 32) = w1 at *
 refine ⟨trivial, rfl, (callsIn_wide.2 (HCP.out w1)).mono ?_⟩
 rintro e w2 ⟨d, na, rfl, hd, rfl⟩
 have hds : d.size ≤ 5000 := by
  have h1 := strB_length s
  have h2 := strB_length d
  rcases hd with ⟨_, h⟩ | ⟨_, h, _⟩
  ·rw [h, List.length_cons] at h1; omega
  ·rw [h]; exact hs
 have HIN := Lib.hid (isNumber_any d w1 (by omega))
 have HD := Lib.hid hd
 clear hd HCP
 gi_wp2_with fail
 refine ⟨trivial, rfl, (callsIn_wide.2 HIN.out).mono ?_⟩
 rintro e w2 ⟨ok, rfl, hok, hb2⟩
 have HOK := Lib.hid hok
 have HL2 := Lib.hid (show Laid w2 w.heap.size 32 [.bool false, .slice none 0 0] from Laid.below HL.out hb2)
 have HB2 := Lib.hid (below_then HB0.out hb2)
 have BADH : Hid (ok = true → na = true ∧ (d.toList == [48]) = true) := Lib.hid (fun h => by
  have hn := HOK.out.1 h
  rcases HD.out with ⟨h1, h2⟩ | ⟨h1, h2, h3⟩
  ·refine ⟨h1, ?_⟩
   have h3 : strB d = [48] := by
    rcases Classical.em (strB d = [48]) with h4 | h4
    ·exact h4
    ·exact absurd (h2.trans ((txt_num hn).2 h4).symm) (HH.out _)
   rw [ByteArray.toList_eq]
   have h4 : d.data.toList.map UInt8.toNat = [48] := h3
   generalize d.data.toList = l at *
   cases l with
   | nil => simp at h4
   | cons c l =>
    rw [List.map_cons] at h4
    have e1 := (List.cons.inj h4).1
    have e2 : l = [] := List.map_eq_nil_iff.1 (List.cons.inj h4).2
    have e3 : c = 48 := UInt8.toNat_inj.1 e1
    rw [e2, e3]; rfl
  ·exfalso
   subst h2
   exact HH.out _ ((txt_num hn).1.symm))
 obtain ⟨f0, f1, f2, f3⟩ := cells2 HL2.out
 have HBE : Hid (Below w.heap.size w ((w2.setCell ⟨w.heap.size, 0, none⟩ (.bool false)).setCell ⟨w.heap.size, 1, none⟩ (.slice none 0 0))) := Lib.hid ((HB2.out.setCell (p := ⟨w.heap.size, 0, none⟩) (Nat.le_refl _) _).setCell (p := ⟨w.heap.size, 1, none⟩) (Nat.le_refl _) _)
 clear hb2 hok HIN HL HB0
 cases ok
 ·gi_wp2_with fail
  refine ⟨.tuple #[.agg #[.bool false, .slice none 0 0], .int .i64 2], by simp [results, Tryz.results61, go_sem, f0, f1], ?_⟩
  exact ⟨rfl, HBE.out⟩
 ·obtain ⟨e1, e2⟩ := BADH.out rfl
  subst e1
  gi_wp2_with fail
  refine ⟨.tuple #[.agg #[.bool false, .slice none 0 0], .int .i64 2], by simp [results, Tryz.results61, go_sem, f0, f1], ?_⟩
  exact ⟨rfl, HBE.out⟩
end Go.Proofs.YtepakogbbomaoaaGreatDoor
