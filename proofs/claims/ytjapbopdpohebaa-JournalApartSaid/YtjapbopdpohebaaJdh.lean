/-
  The law JournalApart: two logs on a disk.
-/
import Derived.Test.YtjapbopdpohebaaJde
namespace Go.Proofs.Ytjapbopdpohebaa
open Go.RowKit Go.Shelf
set_option linter.unusedVariables false
set_option maxRecDepth 100000

/-- A disk of which all is durable. -/
def st0 (B : Nat → List Nat) : St := ⟨true, -1, B, fun j => (B j).length⟩
/-- Two files. -/
def twoB (u v : List Nat) : Nat → List Nat := setB (setB (fun _ => []) 3 u) 4 v
theorem twoB_3 (u v : List Nat) : twoB u v 3 = u := by simp [twoB, setB]
theorem twoB_4 (u v : List Nat) : twoB u v 4 = v := by simp [twoB, setB]
theorem twoB_set3 (u v z : List Nat) : setB (twoB u v) 3 z = twoB z v := by
  funext j
  unfold twoB setB
  by_cases h3 : j = 3
  · rw [if_pos h3, h3]; simp
  · rw [if_neg h3, if_neg h3, if_neg h3]
theorem twoB_set4 (u v z : List Nat) : setB (twoB u v) 4 z = twoB u z := by
  funext j
  unfold twoB setB
  by_cases h4 : j = 4
  · rw [if_pos h4, if_pos h4]
  · rw [if_neg h4, if_neg h4, if_neg h4]
theorem sum_two (u v : List Nat) : sumB (twoB u v) = u.length + v.length := by
  have h1 := sum_put (fun j => if j = 3 then u.length else 0) 4 v.length rfl 64
  have h2 := sum_put (fun _ => 0) 3 u.length rfl 64
  rw [if_pos (by decide)] at h1 h2
  have h0 : ((List.range 64).map fun _ => 0).sum = 0 := by decide
  have e : (fun j => (twoB u v j).length) = fun j => if j = 4 then v.length else if j = 3 then u.length else 0 := by
    funext j
    unfold twoB setB
    split
    · rfl
    · split <;> rfl
  unfold sumB
  rw [e, h1, h2, h0]
  omega
theorem log_any {room k : Nat} (hk : k < 64) {B : Nat → List Nat} {n : Nat} {b : List Nat} (hb : b.length ≤ 65536) (hfit : sumB B + (frameN (n : Int) b).length ≤ room) :
    pLog room (st0 B) (k : Int) ⟨n, true⟩ b = (0, st0 (setB B k (B k ++ frameN (n : Int) b)), ⟨n + 1, true⟩) := by
  have ha : pApp room (st0 B) (k : Int) (frameN (n : Int) b) = (0, ⟨true, -1, setB B k (B k ++ frameN (n : Int) b), fun j => (B j).length⟩) := by
    unfold pApp
    rw [isF_true (by omega), if_neg (fun h => by cases h), if_neg (fun h => by cases h), if_neg (fun h => h hfit)]
    rfl
  unfold pLog
  rw [if_neg (by omega), if_neg (fun h => by cases h)]
  show (if (pApp room (st0 B) (k : Int) (frameN (n : Int) b)).1 ≠ 0 then _ else _) = _
  rw [ha, if_neg (fun h => h rfl)]
  rw [show pSync (((0 : Int), (⟨true, -1, setB B k (B k ++ frameN (n : Int) b), fun j => (B j).length⟩ : St)).2) = _ from sync_one rfl rfl, if_neg (fun h => h rfl)]
  rfl
theorem read_any2 {k : Nat} (hk : k < 64) {s : St} (hon : s.on = true) : (pRead s (k : Int)).1 = 0 ∧ (pRead s (k : Int)).2 = s.B k := by
  unfold pRead
  rw [isF_true (by omega), if_neg (fun h => by cases h), if_neg (by rw [hon]; decide), Int.toNat_natCast]
  exact ⟨rfl, rfl⟩
theorem open_gen {k : Nat} (hk : k < 64) {s : St} {xs : List (List Nat)} (hon : s.on = true) (hl : s.left = -1) (hB : s.B k = framesN 0 xs) (hx : ∀ x ∈ xs, x.length ≤ 1000000) (hn : xs.length ≤ 1000000) :
    pOpen s (k : Int) = (0, st0 s.B, xs) := by
  obtain ⟨h1, h2⟩ := read_any2 hk hon
  rw [hB] at h2
  have hsc : scanP 0 (framesN 0 xs) = pairsN 0 xs := by
    have := scanP_frames xs 0 [] (by omega) hx
    rw [List.append_nil, scanP_nil, List.append_nil] at this
    exact this
  have hsz : scanSize (framesN 0 xs) = (framesN 0 xs).length := by unfold scanSize; rw [hsc, pairsN_sum]
  have hrc : scanRecs (framesN 0 xs) = xs := by unfold scanRecs; rw [hsc, pairsN_fst]
  have hcut : pCutTo s (k : Int) (framesN 0 xs).length (framesN 0 xs).length = (0, s) := by unfold pCutTo; rw [if_neg (by omega)]
  have hsy := sync_one hon hl
  unfold pOpen
  rw [h1, h2, hsz, hrc, hcut, if_neg (fun h => h rfl), if_neg (fun h => h rfl), hsy, if_neg (fun h => h rfl)]
  rfl
theorem open_trash {k : Nat} (hk : k < 64) {s : St} {t : List Nat} (hon : s.on = true) (hl : s.left = -1) (hB : s.B k = t) (ht : t.length ≤ 3) :
    pOpen s (k : Int) = (0, st0 (setB s.B k []), []) := by
  have hsc : scanP 0 t = [] := scanP_no fun h => by
    have h1 := frameN_ge4 (0 : Nat) (headN t)
    have h2 := h.length_le
    omega
  obtain ⟨h1, h2⟩ := read_any2 hk hon
  rw [hB] at h2
  have hsz : scanSize t = 0 := by unfold scanSize; rw [hsc]; rfl
  have hrc : scanRecs t = [] := by unfold scanRecs; rw [hsc]; rfl
  obtain ⟨on, left, B, D⟩ := s
  have hon' : on = true := hon
  have hl' : left = -1 := hl
  have hB' : B k = t := hB
  subst hon' hl' hB'
  have hcut : ∃ D2, pCutTo ⟨true, -1, B, D⟩ (k : Int) (B k).length 0 = (0, ⟨true, -1, setB B k [], D2⟩) := by
    unfold pCutTo
    by_cases hc : 0 < (B k).length
    · rw [if_pos hc]
      refine ⟨setD D (k : Int).toNat (min (D (k : Int).toNat) ((0 : Nat) : Int).toNat), ?_⟩
      unfold pTrunc
      have hc : isF (k : Int) = true ∧ 0 ≤ ((0 : Nat) : Int) ∧ ((0 : Nat) : Int) ≤ ((B (k : Int).toNat).length : Int) := ⟨isF_true (by omega), by omega, by omega⟩
      rw [if_neg (fun h => h hc)]
      rfl
    · rw [if_neg hc]
      refine ⟨D, ?_⟩
      have e : setB B k [] = B := by
        funext j
        unfold setB
        by_cases hj : j = k
        · rw [if_pos hj, hj]; exact (List.eq_nil_of_length_eq_zero (by omega)).symm
        · rw [if_neg hj]
      rw [e]
  obtain ⟨D2, hcut⟩ := hcut
  have hsy := sync_one (s := ⟨true, -1, setB B k [], D2⟩) rfl rfl
  unfold pOpen
  rw [h1, h2, hsz, hrc, hcut, if_neg (fun h => h rfl), if_neg (fun h => h rfl), hsy, if_neg (fun h => h rfl)]
  rfl
theorem crash_none (B : Nat → List Nat) : pCrash (st0 B) [] (-1) = st0 B := by
  have h : flipB (keepB B (fun j => (B j).length) []) (fun j => (B j).length) (-1) = B := by
    unfold flipB
    rw [if_neg (by omega)]
    funext j
    unfold keepB
    exact List.take_of_length_le (Nat.le_add_right _ _)
  show (⟨true, -1, flipB (keepB B (fun j => (B j).length) []) (fun j => (B j).length) (-1), fun k => (flipB (keepB B (fun j => (B j).length) []) (fun j => (B j).length) (-1) k).length⟩ : St) = _
  rw [h]
  rfl
noncomputable def stT (xs ys : List (List Nat)) : St := st0 (twoB (framesN 0 xs) (framesN 0 ys))
def ApartStart (s1 : St) : Prop := (pOpen s1 3).1 = 0 ∧ (pOpen s1 3).2.2 = [] ∧ (pOpen (pOpen s1 3).2.1 4).1 = 0 ∧ (pOpen (pOpen s1 3).2.1 4).2.2 = [] ∧ (pOpen (pOpen s1 3).2.1 4).2.1 = stT [] []
theorem apart_start {own : List Nat} (ho : own.length ≤ 3) : ApartStart (pApp 5000 pNew 4 own).2 := by
  have ha : pApp 5000 pNew 4 own = (0, ⟨true, -1, twoB [] own, fun _ => 0⟩) := by
    unfold pApp
    rw [isF_true (by omega), if_neg (fun h => by cases h), if_neg (fun h => by cases h), if_neg (fun h => h (by
      have : sumB pNew.B = 0 := by
        have h := sum_two [] []
        have e : twoB [] [] = pNew.B := by funext j; unfold twoB setB pNew; split <;> simp
        rw [e] at h
        exact h
      omega))]
    show pStep ⟨true, -1, setB pNew.B (4 : Int).toNat (pNew.B (4 : Int).toNat ++ own), fun _ => 0⟩ = _
    have e : setB pNew.B (4 : Int).toNat (pNew.B (4 : Int).toNat ++ own) = twoB [] own := by
      funext j
      show setB (fun _ => []) 4 ([] ++ own) j = _
      unfold twoB setB
      split
      · rfl
      · split <;> rfl
    rw [e]
    rfl
  rw [ha]
  have h1 := open_gen (k := 3) (by decide) (s := ⟨true, -1, twoB [] own, fun _ => 0⟩) (xs := []) rfl rfl (twoB_3 [] own) (fun x h => by simp at h) (by decide)
  have h1' : pOpen ⟨true, -1, twoB [] own, fun _ => 0⟩ 3 = (0, st0 (twoB [] own), []) := h1
  have h2 := open_trash (k := 4) (by decide) (s := st0 (twoB [] own)) (t := own) rfl rfl (twoB_4 [] own) ho
  have h2' : pOpen (st0 (twoB [] own)) 4 = (0, st0 (setB (twoB [] own) 4 []), []) := h2
  unfold ApartStart
  show (pOpen ⟨true, -1, twoB [] own, fun _ => 0⟩ 3).1 = 0 ∧ (pOpen ⟨true, -1, twoB [] own, fun _ => 0⟩ 3).2.2 = [] ∧ (pOpen (pOpen ⟨true, -1, twoB [] own, fun _ => 0⟩ 3).2.1 4).1 = 0 ∧ (pOpen (pOpen ⟨true, -1, twoB [] own, fun _ => 0⟩ 3).2.1 4).2.2 = [] ∧ (pOpen (pOpen ⟨true, -1, twoB [] own, fun _ => 0⟩ 3).2.1 4).2.1 = stT [] []
  rw [h1', h2', twoB_set4]
  exact ⟨rfl, rfl, rfl, rfl, rfl⟩
theorem shorts_len {xs : List (List Nat)} (h : Shorts xs) (i : Nat) : (framesN 0 (xs.take i)).length ≤ 300 := by
  have h1 := framesN_le (xs.take i) 0 (fun x hx => (h.2 x (List.mem_of_mem_take hx)).1) (by rw [List.length_take]; have := h.1; omega)
  have h2 : (xs.take i).length ≤ 6 := by rw [List.length_take]; have := h.1; omega
  omega
theorem step_3 {xs ys : List (List Nat)} (hx : Shorts xs) (hy : Shorts ys) {i : Nat} (hi : i < xs.length) (j : Nat) :
    pLog 5000 (stT (xs.take i) (ys.take j)) 3 ⟨i, true⟩ xs[i] = (0, stT (xs.take (i + 1)) (ys.take j), ⟨i + 1, true⟩) := by
  have h10 := (hx.2 xs[i] (List.getElem_mem hi)).1
  have h1 := shorts_len hx i
  have h2 := shorts_len hy j
  have h6 := hx.1
  have h3 := frameN_len (n := (i : Int)) (b := xs[i]) (by omega) (by omega)
  have h := log_any (room := 5000) (k := 3) (by decide) (B := twoB (framesN 0 (xs.take i)) (framesN 0 (ys.take j))) (n := i) (b := xs[i]) (by omega) (by rw [sum_two]; omega)
  rw [twoB_3, ← frames_take hi, twoB_set3] at h
  exact h
theorem step_4 {xs ys : List (List Nat)} (hx : Shorts xs) (hy : Shorts ys) {j : Nat} (hj : j < ys.length) (i : Nat) :
    pLog 5000 (stT (xs.take i) (ys.take j)) 4 ⟨j, true⟩ ys[j] = (0, stT (xs.take i) (ys.take (j + 1)), ⟨j + 1, true⟩) := by
  have h10 := (hy.2 ys[j] (List.getElem_mem hj)).1
  have h1 := shorts_len hx i
  have h2 := shorts_len hy j
  have h6 := hy.1
  have h3 := frameN_len (n := (j : Int)) (b := ys[j]) (by omega) (by omega)
  have h := log_any (room := 5000) (k := 4) (by decide) (B := twoB (framesN 0 (xs.take i)) (framesN 0 (ys.take j))) (n := j) (b := ys[j]) (by omega) (by rw [sum_two]; omega)
  rw [twoB_4, ← frames_take hj, twoB_set4] at h
  exact h
theorem end_3 {xs ys : List (List Nat)} (hx : Shorts xs) : (pOpen (stT xs ys) 3).1 = 0 ∧ (pOpen (stT xs ys) 3).2.1 = stT xs ys ∧ (pOpen (stT xs ys) 3).2.2 = xs := by
  have h := open_gen (k := 3) (by decide) (s := stT xs ys) (xs := xs) rfl rfl (twoB_3 (framesN 0 xs) (framesN 0 ys)) (fun x h => by have := (hx.2 x h).1; omega) (by have := hx.1; omega)
  have h' : pOpen (stT xs ys) 3 = (0, stT xs ys, xs) := h
  rw [h']
  exact ⟨rfl, rfl, rfl⟩
theorem end_4 {xs ys : List (List Nat)} (hy : Shorts ys) : (pOpen (stT xs ys) 4).1 = 0 ∧ (pOpen (stT xs ys) 4).2.1 = stT xs ys ∧ (pOpen (stT xs ys) 4).2.2 = ys := by
  have h := open_gen (k := 4) (by decide) (s := stT xs ys) (xs := ys) rfl rfl (twoB_4 (framesN 0 xs) (framesN 0 ys)) (fun x h => by have := (hy.2 x h).1; omega) (by have := hy.1; omega)
  have h' : pOpen (stT xs ys) 4 = (0, stT xs ys, ys) := h
  rw [h']
  exact ⟨rfl, rfl, rfl⟩
/-- Two logs on a disk, and two lists of records beside them. -/
structure TwoL (n lo mid hi : Nat) (W : World) (A : Foot) (d ga gb : Nat) (s : St) (na nb : Nat) (u : Value) (us : List Value) (xs : List (List Nat)) (v : Value) (vs : List Value) (ys : List (List Nat)) : Prop where
  dk : Dsk n W A d 5000 s
  a : Jl W ga d 3 na true
  b : Jl W gb d 4 nb true
  gap : Gap lo hi A
  fa : ¬ A ga
  fb : ¬ A gb
  ne : ga ≠ gb
  la : n ≤ ga ∧ ga < lo
  lb : n ≤ gb ∧ gb < lo
  x : XsIs lo mid W u us xs
  y : XsIs mid hi W v vs ys
  ord : lo ≤ mid ∧ mid ≤ hi ∧ hi ≤ W.heap.size ∧ n ≤ lo
section
variable {n lo mid hi : Nat} {W W2 : World} {A A2 : Foot} {d ga gb : Nat} {s s2 : St} {na nb : Nat} {u : Value} {us : List Value} {xs : List (List Nat)} {v : Value} {vs : List Value} {ys : List (List Nat)}
theorem TwoL.below (h : TwoL n lo mid hi W A d ga gb s na nb u us xs v vs ys) (hb : Below W.heap.size W W2) : TwoL n lo mid hi W2 A d ga gb s na nb u us xs v vs ys :=
  ⟨h.dk.below hb, Laid.below h.a hb, Laid.below h.b hb, h.gap, h.fa, h.fb, h.ne, h.la, h.lb, h.x.below hb, h.y.below hb, h.ord.1, h.ord.2.1, Nat.le_trans h.ord.2.2.1 hb.size, h.ord.2.2.2⟩
theorem TwoL.recs (h : TwoL n lo mid hi W A d ga gb s na nb u us xs v vs ys) {C : Foot} (hk : Keeps C W W2) (hc : ∀ k, C k → A k ∨ k < lo) : XsIs lo mid W2 u us xs ∧ XsIs mid hi W2 v vs ys := by
  have h1 := h.ord
  constructor
  · exact h.x.keeps hk (fun k hk => by
      rcases hc k hk with h2 | h2
      · rcases h.gap k h2 with h3 | h3 <;> omega
      · omega)
  · exact h.y.keeps hk (fun k hk => by
      rcases hc k hk with h2 | h2
      · rcases h.gap k h2 with h3 | h3 <;> omega
      · omega)
theorem TwoL.move (h : TwoL n lo mid hi W A d ga gb s na nb u us xs v vs ys) (hd : Dsk n W2 A2 d 5000 s2) (hk : Keeps A W W2) (hf : ∀ k, A2 k → A k ∨ W.heap.size ≤ k) : TwoL n lo mid hi W2 A2 d ga gb s2 na nb u us xs v vs ys := by
  have h1 := h.ord
  have h2 := h.la
  have h3 := h.lb
  obtain ⟨hx, hy⟩ := h.recs hk (fun k hk => .inl hk)
  exact ⟨hd, Laid.keeps h.a hk h.fa, Laid.keeps h.b hk h.fb, gap_up h.gap hf h1.2.2.1, fun e => (hf _ e).elim h.fa (fun e => by omega), fun e => (hf _ e).elim h.fb (fun e => by omega), h.ne, h.la, h.lb, hx, hy, h1.1, h1.2.1, Nat.le_trans h1.2.2.1 hk.size, h1.2.2.2⟩
theorem TwoL.appA (h : TwoL n lo mid hi W A d ga gb s na nb u us xs v vs ys) {q : Int × St × Lg} (ha : AppIs n W A d 5000 3 ga q W2 A2) {m : Nat} (hq : q.2 = (s2, ⟨m, true⟩)) : TwoL n lo mid hi W2 A2 d ga gb s2 m nb u us xs v vs ys := by
  have h1 := h.ord
  have h2 := h.la
  have h3 := h.lb
  obtain ⟨hx, hy⟩ := h.recs ha.keeps (fun k hk => hk.imp id (fun e => by omega))
  have e1 : q.2.1 = s2 := congrArg Prod.fst hq
  have e2 : q.2.2 = ⟨m, true⟩ := congrArg Prod.snd hq
  have hd := ha.dk
  have hl := ha.lg
  rw [e1] at hd
  rw [e2] at hl
  exact ⟨hd, hl, Laid.keeps h.b ha.keeps (fun e => e.elim h.fb (fun e => h.ne e.symm)), gap_up h.gap ha.foot h1.2.2.1, ha.far, fun e => (ha.foot _ e).elim h.fb (fun e => by omega), h.ne, h.la, h.lb, hx, hy, h1.1, h1.2.1, Nat.le_trans h1.2.2.1 ha.keeps.size, h1.2.2.2⟩
theorem TwoL.appB (h : TwoL n lo mid hi W A d ga gb s na nb u us xs v vs ys) {q : Int × St × Lg} (ha : AppIs n W A d 5000 4 gb q W2 A2) {m : Nat} (hq : q.2 = (s2, ⟨m, true⟩)) : TwoL n lo mid hi W2 A2 d ga gb s2 na m u us xs v vs ys := by
  have h1 := h.ord
  have h2 := h.la
  have h3 := h.lb
  obtain ⟨hx, hy⟩ := h.recs ha.keeps (fun k hk => hk.imp id (fun e => by omega))
  have e1 : q.2.1 = s2 := congrArg Prod.fst hq
  have e2 : q.2.2 = ⟨m, true⟩ := congrArg Prod.snd hq
  have hd := ha.dk
  have hl := ha.lg
  rw [e1] at hd
  rw [e2] at hl
  exact ⟨hd, Laid.keeps h.a ha.keeps (fun e => e.elim h.fa (fun e => h.ne e)), hl, gap_up h.gap ha.foot h1.2.2.1, fun e => (ha.foot _ e).elim h.fa (fun e => by omega), ha.far, h.ne, h.la, h.lb, hx, hy, h1.1, h1.2.1, Nat.le_trans h1.2.2.1 ha.keeps.size, h1.2.2.2⟩
/-- i records of the one list are appended, j of the other. -/
def TI (n lo mid hi : Nat) (W : World) (A : Foot) (d ga gb i j : Nat) (u : Value) (us : List Value) (xs : List (List Nat)) (v : Value) (vs : List Value) (ys : List (List Nat)) : Prop :=
  TwoL n lo mid hi W A d ga gb (stT (xs.take i) (ys.take j)) (min i xs.length) (min j ys.length) u us xs v vs ys
variable {i j : Nat}
theorem TI.ja (h : TI n lo mid hi W A d ga gb i j u us xs v vs ys) (hil : i < xs.length) : Jl W ga d 3 i true := by
  have := TwoL.a h
  rw [Nat.min_eq_left (by omega)] at this
  exact this
theorem TI.jb (h : TI n lo mid hi W A d ga gb i j u us xs v vs ys) (hj : j < ys.length) : Jl W gb d 4 j true := by
  have := TwoL.b h
  rw [Nat.min_eq_left (by omega)] at this
  exact this
theorem TI.skipA (h : TI n lo mid hi W A d ga gb i j u us xs v vs ys) (hil : ¬ i < xs.length) : TI n lo mid hi W A d ga gb (i + 1) j u us xs v vs ys := by
  unfold TI at h ⊢
  rw [List.take_of_length_le (show xs.length ≤ i + 1 by omega), Nat.min_eq_right (show xs.length ≤ i + 1 by omega)]
  rw [List.take_of_length_le (show xs.length ≤ i by omega), Nat.min_eq_right (show xs.length ≤ i by omega)] at h
  exact h
theorem TI.skipB (h : TI n lo mid hi W A d ga gb i j u us xs v vs ys) (hj : ¬ j < ys.length) : TI n lo mid hi W A d ga gb i (j + 1) u us xs v vs ys := by
  unfold TI at h ⊢
  rw [List.take_of_length_le (show ys.length ≤ j + 1 by omega), Nat.min_eq_right (show ys.length ≤ j + 1 by omega)]
  rw [List.take_of_length_le (show ys.length ≤ j by omega), Nat.min_eq_right (show ys.length ≤ j by omega)] at h
  exact h
theorem TI.doA (h : TI n lo mid hi W A d ga gb i j u us xs v vs ys) (hx : Shorts xs) (hy : Shorts ys) (hil : i < xs.length) (ha : AppIs n W A d 5000 3 ga (pLog 5000 (stT (xs.take i) (ys.take j)) 3 ⟨i, true⟩ xs[i]) W2 A2) :
    TI n lo mid hi W2 A2 d ga gb (i + 1) j u us xs v vs ys := by
  unfold TI
  rw [Nat.min_eq_left (show i + 1 ≤ xs.length by omega)]
  exact TwoL.appA h ha (congrArg Prod.snd (step_3 hx hy hil j))
theorem TI.doB (h : TI n lo mid hi W A d ga gb i j u us xs v vs ys) (hx : Shorts xs) (hy : Shorts ys) (hj : j < ys.length) (ha : AppIs n W A d 5000 4 gb (pLog 5000 (stT (xs.take i) (ys.take j)) 4 ⟨j, true⟩ ys[j]) W2 A2) :
    TI n lo mid hi W2 A2 d ga gb i (j + 1) u us xs v vs ys := by
  unfold TI
  rw [Nat.min_eq_left (show j + 1 ≤ ys.length by omega)]
  exact TwoL.appB h ha (congrArg Prod.snd (step_4 hx hy hj i))
theorem TI.fin (h : TI n lo mid hi W A d ga gb 6 6 u us xs v vs ys) (hx : Shorts xs) (hy : Shorts ys) : TwoL n lo mid hi W A d ga gb (stT xs ys) xs.length ys.length u us xs v vs ys := by
  have h1 := hx.1
  have h2 := hy.1
  unfold TI at h
  rw [List.take_of_length_le h1, List.take_of_length_le h2, Nat.min_eq_right h1, Nat.min_eq_right h2] at h
  exact h
end
theorem slice_form {B : Nat} {W : World} {u : Value} {us : List Value} {xs : List (List Nat)} (h : LOwn B W u us xs) : ∃ a c, u = .slice a us.length c := by
  rcases h.own.2 with ⟨h1, h2⟩ | ⟨g, cap, cur, h1, _⟩
  · exact ⟨none, 0, by rw [h1, h2]⟩
  · exact ⟨_, cap, h1⟩

set_option maxHeartbeats 16000000 in
theorem walk_JournalApart (vl : Value) (l : List Int) (vm : Value) (m : List Int) (vr : Value) (rest : List Int) (w : World) (hvl : Row .i64 w vl l) (hlr : ∀ n ∈ l, -9223372036854775808 ≤ n ∧ n ≤ 9223372036854775807)
    (hvm : Row .i64 w vm m) (hmr : ∀ n ∈ m, -9223372036854775808 ≤ n ∧ n ≤ 9223372036854775807) (hvr : Row .u8 w vr rest) (hr : ∀ n ∈ rest, 0 ≤ n ∧ n ≤ 255) :
    Calls Try.prog 6 #[vl, vm, vr] w fun e w' => e = .returned (.bool true) ∧ Below w.heap.size w w' := by
  have HVL := Lib.hid hvl
  have HLR := Lib.hid hlr
  have HVM := Lib.hid hvm
  have HMR := Lib.hid hmr
  have HVR := Lib.hid hvr
  obtain ⟨hbs, h8⟩ := natI_toNats2 (zs := rest.take 3) (fun n h => hr n (List.mem_of_mem_take h))
  have hl3 : (toNats (rest.take 3)).length ≤ 3 := by rw [toNats_length, List.length_take]; omega
  generalize toNats (rest.take 3) = own at *
  have HBS := Lib.hid hbs
  have H8 := Lib.hid h8
  have HL3 := Lib.hid hl3
  have HAS := Lib.hid (apart_start hl3)
  clear hvl hlr hvm hmr hvr hr hbs h8 hl3
  go_enter Try.func6, Try.ntmps6
  go_wp2_with fail
  refine (fresh06_any 5000 w (by decide)).mono ?_
  rintro e w1 ⟨d, A1, rfl, hd, hb⟩
  have D1 := Lib.hid hd
  have B1 := Lib.hid hb
  clear hd hb
  go_wp2_with fail
  refine (refFew_any vr rest 3 w1 (row_keeps HVR.out B1.out) (by decide)).mono ?_
  rintro e w2 ⟨ov, rfl, hov, hb⟩
  rw [← HBS.out] at hov
  have D2 := Lib.hid (D1.out.below hb)
  have B2 := Lib.hid (B1.out.trans (hb.mono B1.out.size))
  obtain ⟨oa, oc, rfl, _⟩ := fresh_elems hov
  have hro := row_of_fresh hov
  rw [natI_length] at hro
  have HRO := Lib.hid hro
  clear hov hb hro D1 B1
  rw [natI_length]
  go_wp2_with fail
  refine (appS_any D2.out.dk 4 oa oc own HRO.out H8.out (by have := HL3.out; omega)).mono ?_
  rintro e w3 ⟨rfl, hu⟩
  obtain ⟨A3, hd, hk, hf, hb⟩ := D2.out.up hu B2.out.size
  have D3 := Lib.hid hd
  have B3 := Lib.hid (B2.out.trans hb)
  clear hu hd hk hf hb D2 B2 HRO
  generalize pApp 5000 pNew 4 own = z at *
  obtain ⟨zc, s1⟩ := z
  go_wp2_with fail
  refine (open_any D3.out B3.out.size 3 (by decide)).mono ?_
  rintro e w4 ⟨A4, lv, rv, us2, rfl, ho⟩
  obtain ⟨ga, rfl, hj, hg1, hg2, hg3, _⟩ := ho.good HAS.out.1
  rw [show (pOpen s1 3).1 = 0 from HAS.out.1]
  have hol := ho.own
  obtain ⟨ra, rc, rfl⟩ := slice_form hol
  have hl0 : us2.length = 0 := by rw [hol.len, show (pOpen s1 3).2.2 = [] from HAS.out.2.1]; rfl
  have D4 : Hid (Dsk w.heap.size w4 A4 d 5000 (pOpen s1 3).2.1) := Lib.hid ho.dk
  have J4 : Hid (Jl w4 ga d 3 0 true) := Lib.hid (by rw [show (pOpen s1 3).2.2 = [] from HAS.out.2.1] at hj; exact hj)
  have G4 : Hid (¬ A4 ga ∧ w.heap.size ≤ ga) := Lib.hid (And.intro hg3 (Nat.le_trans B3.out.size hg1))
  have B4 := Lib.hid (B3.out.trans ho.below)
  have HA2 : Hid ((pOpen (pOpen s1 3).2.1 4).1 = 0 ∧ (pOpen (pOpen s1 3).2.1 4).2.2 = [] ∧ (pOpen (pOpen s1 3).2.1 4).2.1 = stT [] []) := Lib.hid HAS.out.2.2
  generalize us2.length = n0 at *
  subst hl0
  clear ho hj hg1 hg2 hg3 hol D3 B3 HAS
  generalize pOpen s1 3 = z1 at *
  go_wp2_with fail
  refine (open_any D4.out B4.out.size 4 (by decide)).mono ?_
  rintro e w5 ⟨A5, lv5, rv5, us5, rfl, ho⟩
  obtain ⟨gb, rfl, hj, hg1, hg2, hg3, _⟩ := ho.good HA2.out.1
  rw [HA2.out.1]
  have hol := ho.own
  obtain ⟨ra5, rc5, rfl⟩ := slice_form hol
  have hl0 : us5.length = 0 := by rw [hol.len, HA2.out.2.1]; rfl
  have D5 : Hid (Dsk w.heap.size w5 A5 d 5000 (stT [] [])) := Lib.hid (by rw [← HA2.out.2.2]; exact ho.dk)
  have JA5 : Hid (Jl w5 ga d 3 0 true) := Lib.hid (Laid.keeps J4.out ho.keeps G4.out.1)
  have JB5 : Hid (Jl w5 gb d 4 0 true) := Lib.hid (by rw [HA2.out.2.1] at hj; exact hj)
  have G5 : Hid (¬ A5 ga ∧ w.heap.size ≤ ga ∧ ¬ A5 gb ∧ w.heap.size ≤ gb ∧ ga ≠ gb) := Lib.hid ⟨fun e => (ho.foot _ e).elim G4.out.1 (fun e => by have := J4.out.lt; omega), G4.out.2, hg3, Nat.le_trans B4.out.size hg1, fun e => by have := J4.out.lt; omega⟩
  have B5 := Lib.hid (B4.out.trans ho.below)
  generalize us5.length = n5 at *
  subst hl0
  clear ho hj hg1 hg2 hg3 hol D4 B4 J4 G4 HA2
  go_wp2_with fail
  refine (records_new vl l w5 (row_keeps HVL.out B5.out) HLR.out).mono ?_
  rintro e w6 ⟨u, us, xs, rfl, hlo, hsh, hb, hlw⟩
  have D6 := Lib.hid (D5.out.below hb)
  have JA6 : Hid (Jl w6 ga d 3 0 true) := Lib.hid (Laid.below JA5.out hb)
  have JB6 : Hid (Jl w6 gb d 4 0 true) := Lib.hid (Laid.below JB5.out hb)
  obtain ⟨ua, uc, rfl⟩ := slice_form hlo
  have X6 : Hid (XsIs w5.heap.size w6.heap.size w6 (.slice ua us.length uc) us xs) := Lib.hid ⟨hlo, fun k hk => (hlo.own.lt k hk).2, fun y hy k hk => ⟨hlw y hy k hk, hlo.lt y hy k hk⟩⟩
  have XL := Lib.hid hlo.len
  have HSX := Lib.hid hsh
  have B6 := Lib.hid (B5.out.trans (hb.mono B5.out.size))
  have Z6 := Lib.hid hb.size
  have LG := Lib.hid (And.intro JA5.out.lt JB5.out.lt)
  have N5 := Lib.hid D5.out.hi
  have hn6 : us.length ≤ 6 := by rw [hlo.len]; exact hsh.1
  clear hlo hsh hb hlw D5 JA5 JB5
  go_wp2_with fail
  refine (records_new vm m w6 (row_keeps HVM.out B6.out) HMR.out).mono ?_
  rintro e w7 ⟨v, vs, ys, rfl, hlo, hsh, hb, hlw⟩
  obtain ⟨va, vc, rfl⟩ := slice_form hlo
  have YL := Lib.hid hlo.len
  have HSY := Lib.hid hsh
  have hm6 : vs.length ≤ 6 := by rw [hlo.len]; exact hsh.1
  have T7 : Hid (TI w.heap.size w5.heap.size w6.heap.size w7.heap.size w7 A5 d ga gb 0 0 (.slice ua us.length uc) us xs (.slice va vs.length vc) vs ys) := Lib.hid (by
    unfold TI
    rw [Nat.zero_min, Nat.zero_min]
    exact ⟨D6.out.below hb, Laid.below JA6.out hb, Laid.below JB6.out hb, fun k hk => .inl (N5.out k hk), G5.out.1, G5.out.2.2.1, G5.out.2.2.2.2, ⟨G5.out.2.1, LG.out.1⟩, ⟨G5.out.2.2.2.1, LG.out.2⟩, X6.out.below hb, ⟨hlo, fun k hk => (hlo.own.lt k hk).2, fun y hy k hk => ⟨hlw y hy k hk, hlo.lt y hy k hk⟩⟩, Z6.out, hb.size, Nat.le_refl _, B5.out.size⟩)
  have B7 := Lib.hid (B6.out.trans (hb.mono B6.out.size))
  clear hlo hsh hb hlw D6 JA6 JB6 X6 B6 Z6 LG N5 G5 B5
  generalize w5.heap.size = lo at *
  generalize w6.heap.size = mid at *
  generalize w7.heap.size = hi at *
  go_wp2_with fail
  go_loopw [16] (fun s16 wr => ∃ (i : Nat) (A : Foot), s16 = .int .i64 (i : Int) ∧ i ≤ 6 ∧ Hid (TI w.heap.size lo mid hi wr A d ga gb i i (.slice ua us.length uc) us xs (.slice va vs.length vc) vs ys) ∧ Hid (Below w.heap.size w wr)) (fun s16 _ => 6 - (intOf s16).toNat)
  case atStart => exact ⟨0, A5, rfl, Nat.zero_le _, T7, B7⟩
  case round =>
    obtain ⟨i, A, rfl, hi6, HT, HB⟩ := hrel
    clear T7 B7
    by_cases hlt : i < 6
    · by_cases hx : i < us.length
      · have hxi : i < xs.length := by rw [← XL.out]; exact hx
        obtain ⟨bb, off, y, rfl, hcy, hry, hby⟩ := (TwoL.x HT.out).get hx
        have hx8 := HSX.out.2 (xs[i]) (List.getElem_mem hxi)
        have HY := Lib.hid (And.intro hry (And.intro hby hx8))
        have HXI := Lib.hid hxi
        clear hry hby hx8
        go_wp2_with fail
        refine (logAppend_any (g := ⟨i, true⟩) (TwoL.dk HT.out) HB.out.size (HT.out.ja HXI.out) (TwoL.fa HT.out) (TwoL.la HT.out).1 (by show i ≤ 1000000; omega) HY.out.1 HY.out.2.2.2 HY.out.2.1 (by have := HY.out.2.2.1; omega)).mono ?_
        rintro e w8 ⟨rfl, A8, ha⟩
        rw [step_3 HSX.out HSY.out HXI.out i]
        have T8 := Lib.hid (HT.out.doA HSX.out HSY.out HXI.out ha)
        have B8 := Lib.hid (HB.out.trans ha.below)
        clear ha HY HXI HT HB hcy
        by_cases hy : i < vs.length
        · have hyi : i < ys.length := by rw [← YL.out]; exact hy
          obtain ⟨b2, off2, y2, rfl, hcy, hry, hby⟩ := (TwoL.y T8.out).get hy
          have hx8 := HSY.out.2 (ys[i]) (List.getElem_mem hyi)
          have HY := Lib.hid (And.intro hry (And.intro hby hx8))
          have HYI := Lib.hid hyi
          clear hry hby hx8
          go_wp2_with fail
          refine (logAppend_any (g := ⟨i, true⟩) (TwoL.dk T8.out) B8.out.size (T8.out.jb HYI.out) (TwoL.fb T8.out) (TwoL.lb T8.out).1 (by show i ≤ 1000000; omega) HY.out.1 HY.out.2.2.2 HY.out.2.1 (by have := HY.out.2.2.1; omega)).mono ?_
          rintro e w9 ⟨rfl, A9, ha⟩
          rw [step_4 HSX.out HSY.out HYI.out (i + 1)]
          have T9 := Lib.hid (T8.out.doB HSX.out HSY.out HYI.out ha)
          have B9 := Lib.hid (B8.out.trans ha.below)
          clear ha HY HYI T8 B8 hcy
          go_wp2_with fail
          exact ⟨⟨i + 1, A9, by rw [Int.natCast_add]; rfl, by omega, T9, B9⟩, by simp only [intOf]; omega⟩
        · have T9 := Lib.hid (T8.out.skipB (by rw [← YL.out]; exact hy))
          clear T8
          go_wp2_with fail
          exact ⟨⟨i + 1, A8, by rw [Int.natCast_add]; rfl, by omega, T9, B8⟩, by simp only [intOf]; omega⟩
      · have T8 := Lib.hid (HT.out.skipA (by rw [← XL.out]; exact hx))
        clear HT
        by_cases hy : i < vs.length
        · have hyi : i < ys.length := by rw [← YL.out]; exact hy
          obtain ⟨b2, off2, y2, rfl, hcy, hry, hby⟩ := (TwoL.y T8.out).get hy
          have hx8 := HSY.out.2 (ys[i]) (List.getElem_mem hyi)
          have HY := Lib.hid (And.intro hry (And.intro hby hx8))
          have HYI := Lib.hid hyi
          clear hry hby hx8
          go_wp2_with fail
          refine (logAppend_any (g := ⟨i, true⟩) (TwoL.dk T8.out) HB.out.size (T8.out.jb HYI.out) (TwoL.fb T8.out) (TwoL.lb T8.out).1 (by show i ≤ 1000000; omega) HY.out.1 HY.out.2.2.2 HY.out.2.1 (by have := HY.out.2.2.1; omega)).mono ?_
          rintro e w9 ⟨rfl, A9, ha⟩
          rw [step_4 HSX.out HSY.out HYI.out (i + 1)]
          have T9 := Lib.hid (T8.out.doB HSX.out HSY.out HYI.out ha)
          have B9 := Lib.hid (HB.out.trans ha.below)
          clear ha HY HYI T8 HB hcy
          go_wp2_with fail
          exact ⟨⟨i + 1, A9, by rw [Int.natCast_add]; rfl, by omega, T9, B9⟩, by simp only [intOf]; omega⟩
        · have T9 := Lib.hid (T8.out.skipB (by rw [← YL.out]; exact hy))
          clear T8
          go_wp2_with fail
          exact ⟨⟨i + 1, A, by rw [Int.natCast_add]; rfl, by omega, T9, HB⟩, by simp only [intOf]; omega⟩
    · have hie : i = 6 := by omega
      subst hie
      have T6 := Lib.hid (HT.out.fin HSX.out HSY.out)
      obtain ⟨e31, e32, e33⟩ := end_3 (xs := xs) (ys := ys) HSX.out
      obtain ⟨e41, e42, e43⟩ := end_4 (xs := xs) (ys := ys) HSY.out
      have E31 : Hid ((pOpen (stT xs ys) 3).1 = 0) := Lib.hid e31
      have E32 : Hid ((pOpen (stT xs ys) 3).2.1 = stT xs ys) := Lib.hid e32
      have E33 : Hid ((pOpen (stT xs ys) 3).2.2 = xs) := Lib.hid e33
      have E41 : Hid ((pOpen (stT xs ys) 4).1 = 0) := Lib.hid e41
      have E42 : Hid ((pOpen (stT xs ys) 4).2.1 = stT xs ys) := Lib.hid e42
      have E43 : Hid ((pOpen (stT xs ys) 4).2.2 = ys) := Lib.hid e43
      clear hlt hi6 HT e31 e32 e33 e41 e42 e43
      go_wp2_with fail
      refine (crashS_any T6.out.dk.dk (.slice none 0 0) [] (-1) (row_none _ _) (fun j hj _ => hj.elim) (fun x hx => by simp at hx) (by decide) (by simp)).mono ?_
      rintro e w10 ⟨rfl, hu⟩
      rw [show pCrash (stT xs ys) [] (-1) = stT xs ys from crash_none _] at hu
      obtain ⟨A10, hd, hk, hf, hb⟩ := T6.out.dk.up hu HB.out.size
      have T10 := Lib.hid (T6.out.move hd hk hf)
      have B10 := Lib.hid (HB.out.trans hb)
      clear hu hd hk hf hb T6 HB
      go_wp2_with fail
      go_loopw [17] (fun s17 wr => ∃ (j : Nat) (A : Foot), s17 = .int .i64 (j : Int) ∧ j ≤ 2 ∧ Hid (TwoL w.heap.size lo mid hi wr A d ga gb (stT xs ys) xs.length ys.length (.slice ua us.length uc) us xs (.slice va vs.length vc) vs ys) ∧ Hid (Below w.heap.size w wr)) (fun s17 _ => 2 - (intOf s17).toNat)
      case atStart => exact ⟨0, A10, rfl, Nat.zero_le _, T10, B10⟩
      case round =>
        obtain ⟨j, A, rfl, hj2, HT, HB⟩ := hrel
        clear T10 B10
        by_cases hlt : j < 2
        · go_wp2_with fail
          refine (open_any HT.out.dk HB.out.size 3 (by decide)).mono ?_
          rintro e w11 ⟨A11, lv2, rv2, us3, rfl, ho⟩
          rw [E31.out]
          have hol := ho.own
          rw [E33.out] at hol
          have T11 := Lib.hid (HT.out.move (s2 := stT xs ys) (by rw [← E32.out]; exact ho.dk) ho.keeps ho.foot)
          have L11 := Lib.hid (And.intro hol (And.intro ho.far ho.els))
          have B11 := Lib.hid (HB.out.trans ho.below)
          clear ho hol HT HB
          go_wp2_with fail
          refine (open_any T11.out.dk B11.out.size 4 (by decide)).mono ?_
          rintro e w12 ⟨A12, lv3, rv3, us4, rfl, ho⟩
          rw [E41.out]
          have hol := ho.own
          rw [E43.out] at hol
          have T12 := Lib.hid (T11.out.move (s2 := stT xs ys) (by rw [← E42.out]; exact ho.dk) ho.keeps ho.foot)
          have L12 := Lib.hid (lown_foot L11.out.1 ho.keeps L11.out.2.1 (fun y hy k hk => (L11.out.2.2 y hy k hk).1))
          have M12 := Lib.hid hol
          have B12 := Lib.hid (B11.out.trans ho.below)
          clear ho hol T11 L11 B11
          go_wp2_with fail
          refine (sameLists_any _ _ us3 us xs xs w12 (lrow_of_own L12.out) (lrow_of_own T12.out.x.own) (fun x hx => by have := (HSX.out.2 x hx).1; omega) (fun x hx => by have := (HSX.out.2 x hx).1; omega) (by rw [L12.out.len, ← XL.out]; omega) (by omega)).mono ?_
          rintro e w13 ⟨rfl, hb⟩
          rw [decide_eq_true rfl]
          have T13 := Lib.hid (T12.out.below hb)
          have M13 := Lib.hid (lown_below M12.out hb)
          have B13 := Lib.hid (B12.out.trans (hb.mono B12.out.size))
          clear hb T12 L12 M12 B12
          go_wp2_with fail
          refine (sameLists_any _ _ us4 vs ys ys w13 (lrow_of_own M13.out) (lrow_of_own T13.out.y.own) (fun x hx => by have := (HSY.out.2 x hx).1; omega) (fun x hx => by have := (HSY.out.2 x hx).1; omega) (by rw [M13.out.len, ← YL.out]; omega) (by omega)).mono ?_
          rintro e w14 ⟨rfl, hb⟩
          rw [decide_eq_true rfl]
          have T14 := Lib.hid (T13.out.below hb)
          have B14 := Lib.hid (B13.out.trans (hb.mono B13.out.size))
          clear hb T13 M13 B13
          go_wp2_with fail
          exact ⟨⟨j + 1, A12, by rw [Int.natCast_add]; rfl, by omega, T14, B14⟩, by simp only [intOf]; omega⟩
        · have hje : j = 2 := by omega
          subst hje
          clear hlt hj2
          go_wp2_with fail
          refine (lives6_any _).mono ?_
          rintro e wl ⟨rfl, hb⟩
          have BL := Lib.hid (HB.out.trans (hb.mono HB.out.size))
          clear hb
          go_wp2_with fail
          go_ret
          exact ⟨rfl, BL.out⟩
end Go.Proofs.Ytjapbopdpohebaa
