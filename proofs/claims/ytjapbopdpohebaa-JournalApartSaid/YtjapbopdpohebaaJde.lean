/-
  The law JournalInverted.
-/
import Derived.Test.YtjapbopdpohebaaJdd
namespace Go.Proofs.Ytjapbopdpohebaa
open Go.RowKit Go.Shelf
set_option linter.unusedVariables false
set_option maxRecDepth 100000

theorem framesN_le : ∀ (xs : List (List Nat)) (n : Nat), (∀ x ∈ xs, x.length ≤ 10) → n + xs.length ≤ 1000000 → (framesN n xs).length ≤ 50 * xs.length
  | [], n, _, _ => by unfold framesN; exact Nat.zero_le _
  | x :: t, n, h, hn => by
    have h1 := framesN_le t (n + 1) (fun y hy => h y (by simp [hy])) (by rw [List.length_cons] at hn; omega)
    have h2 := frameN_len (n := (n : Int)) (b := x) (by rw [List.length_cons] at hn; omega) (by have := h x (by simp); omega)
    have h3 := h x (by simp)
    unfold framesN
    rw [List.length_append, List.length_cons]
    omega
/-- A disk with a log in file k, all of it durable. -/
noncomputable def stF (k : Nat) (xs : List (List Nat)) : St := ⟨true, -1, oneB k (framesN 0 xs), fun j => (oneB k (framesN 0 xs) j).length⟩
theorem open_new {k : Nat} (hk : k < 64) : (pOpen pNew (k : Int)).1 = 0 ∧ (pOpen pNew (k : Int)).2.2 = [] ∧ (pOpen pNew (k : Int)).2.1 = stF k [] := by
  have hB : pNew.B = oneB k (framesN 0 [] ++ []) := by rw [List.append_nil]; exact new_one k
  obtain ⟨h1, h2⟩ := read_one hk (s := pNew) rfl hB
  have hz : framesN 0 [] ++ [] = ([] : List Nat) := by rw [List.append_nil]; rfl
  rw [hz] at h2
  have hsz : scanSize [] = 0 := by unfold scanSize; rw [scanP_nil]; rfl
  have hrc : scanRecs [] = [] := by unfold scanRecs; rw [scanP_nil]; rfl
  have hcut : pCutTo pNew (k : Int) 0 0 = (0, pNew) := by unfold pCutTo; rw [if_neg (by decide)]
  have hsy := sync_one (s := pNew) rfl rfl
  unfold pOpen
  rw [h1, h2, hsz, hrc, List.length_nil, hcut, if_neg (fun h => h rfl), if_neg (fun h => h rfl), hsy, if_neg (fun h => h rfl)]
  refine ⟨rfl, rfl, ?_⟩
  have hB2 : pNew.B = oneB k (framesN 0 []) := new_one k
  unfold stF
  rw [← hB2]
theorem turn_behind {F R : List Nat} {p : Nat} (hp : 8 * F.length ≤ p) : ∃ t, turn (F ++ R) p = F ++ t ∧ t.length = R.length := by
  unfold turn
  rw [List.set_append_right _ _ (by omega)]
  exact ⟨_, rfl, by rw [List.length_set]⟩
theorem crash_behind (F R : List Nat) (q flip : Int) : ∃ t, crashL (F ++ R) F.length q flip = F ++ t ∧ t.length ≤ R.length := by
  have hz : ∀ m, (F ++ R).take (F.length + m) = F ++ R.take m := fun m => by rw [List.take_append, List.take_of_length_le (by omega)]; congr 2; omega
  unfold crashL
  rw [hz]
  split
  · obtain ⟨t, h1, h2⟩ := turn_behind (F := F) (R := R.take (lostN q ((F ++ R).length - F.length))) (p := 8 * F.length + flip.toNat % (8 * ((F ++ R.take (lostN q ((F ++ R).length - F.length))).length - F.length))) (by omega)
    exact ⟨t, h1, by rw [h2, List.length_take]; omega⟩
  · exact ⟨_, rfl, by rw [List.length_take]; omega⟩
def InvFacts (q : Int × St × Lg) (s3 : St) (xs : List (List Nat)) : Prop :=
  q.1 = 23 ∧ q.2.2 = ⟨xs.length, false⟩ ∧ (pOpen s3 0).1 = 0 ∧ ∃ more, (pOpen s3 0).2.2 = xs ++ more
theorem inv_facts {xs : List (List Nat)} (hx : Shorts xs) {own : List Nat} (ho : own.length ≤ 60) (keep flip : Int) :
    InvFacts (pLog 5000 (pArm (stF 0 xs) 0) 0 ⟨xs.length, true⟩ own) (pCrash (pLog 5000 (pArm (stF 0 xs) 0) 0 ⟨xs.length, true⟩ own).2.1 [keep] flip) xs := by
  have hfl := framesN_le xs 0 (fun x h => (hx.2 x h).1) (by have := hx.1; omega)
  have hf := frameN_len (n := (xs.length : Int)) (b := own) (by have := hx.1; omega) (by omega)
  have ha : pApp 5000 (pArm (stF 0 xs) 0) 0 (frameN (xs.length : Int) own) = (23, ⟨false, 0, oneB 0 (framesN 0 xs ++ frameN (xs.length : Int) own), (stF 0 xs).D⟩) := by
    unfold pApp
    rw [isF_true (by decide), if_neg (fun h => by cases h), if_neg (fun h => by cases h), if_neg (by
      show ¬ ¬ sumB (setB (fun _ => []) 0 (framesN 0 xs)) + _ ≤ 5000
      rw [sum_one (by decide)]
      have := hx.1
      exact fun h => h (by omega))]
    have e : setB (oneB 0 (framesN 0 xs)) 0 (oneB 0 (framesN 0 xs) 0 ++ frameN (xs.length : Int) own) = oneB 0 (framesN 0 xs ++ frameN (xs.length : Int) own) := by
      rw [oneB_at]
      funext j
      unfold oneB setB
      by_cases hj : j = 0
      · rw [if_pos hj, if_pos hj]
      · rw [if_neg hj, if_neg hj, if_neg hj]
    show pStep ⟨true, 0, setB (oneB 0 (framesN 0 xs)) 0 (oneB 0 (framesN 0 xs) 0 ++ frameN (xs.length : Int) own), _⟩ = _
    rw [e]
    rfl
  have hq : pLog 5000 (pArm (stF 0 xs) 0) 0 ⟨xs.length, true⟩ own = (23, ⟨false, 0, oneB 0 (framesN 0 xs ++ frameN (xs.length : Int) own), (stF 0 xs).D⟩, ⟨xs.length, false⟩) := by
    unfold pLog
    rw [if_neg (by omega), if_neg (fun h => by cases h)]
    show (if (pApp 5000 (pArm (stF 0 xs) 0) 0 (frameN (xs.length : Int) own)).1 ≠ 0 then _ else _) = _
    rw [ha, if_pos (by show (23 : Int) ≠ 0; decide)]
    rfl
  rw [hq]
  have hc := crash_one (k := 0) (by decide) (framesN 0 xs ++ frameN (xs.length : Int) own) false 0 (stF 0 xs).D [keep] flip
  have hd : (stF 0 xs).D 0 = (framesN 0 xs).length := by show (oneB 0 (framesN 0 xs) 0).length = _; rw [oneB_at]
  rw [hd] at hc
  obtain ⟨t, ht, _⟩ := crash_behind (framesN 0 xs) (frameN (xs.length : Int) own) (keepAt [keep] 0) flip
  rw [ht] at hc
  obtain ⟨o1, o2, _⟩ := open_one (k := 0) (by decide) (s := pCrash ⟨false, 0, oneB 0 (framesN 0 xs ++ frameN (xs.length : Int) own), (stF 0 xs).D⟩ [keep] flip) rfl rfl hc (fun x h => by have := (hx.2 x h).1; omega) (by have := hx.1; omega)
  exact ⟨rfl, rfl, o1, _, o2⟩

def FreshEnd (room : Nat) (w : World) (e : Ending) (w' : World) : Prop := ∃ d A, e = .returned (.pointer (some ⟨d, 0, none⟩)) ∧ Dsk w.heap.size w' A d room pNew ∧ Below w.heap.size w w'
theorem fresh06_any (room : Nat) (w : World) (h : room ≤ 16777216) : Calls Try.prog 7 #[.int .i64 (room : Int)] w (FreshEnd room w) := by
  have H := Lib.hid h
  go_enter Try.func7, Try.ntmps7
  go_wp2_with fail
  refine (newS_any room w (by omega)).mono ?_
  rintro e w1 ⟨d, A0, rfl, hd, hA0, hb⟩
  have D1 : Hid (Dsk w.heap.size w1 (fun k => A0 k ∧ k < w1.heap.size) d room pNew) := Lib.hid (by rw [Int.toNat_natCast] at hd; exact Dsk.made (n := w.heap.size) hd hA0 (Nat.le_refl _))
  have B1 := Lib.hid hb
  clear hd hA0 hb
  go_wp2_with fail
  go_ret
  exact ⟨d, _, rfl, D1.out, B1.out⟩

theorem frames_take {xs : List (List Nat)} {i : Nat} (hi : i < xs.length) : framesN 0 (xs.take (i + 1)) = framesN 0 (xs.take i) ++ frameN (i : Int) xs[i] := by
  rw [List.take_succ_eq_append_getElem hi, framesN_snoc, List.length_take, Nat.zero_add]
  congr 3
  omega
theorem stF_step {k : Nat} (hk : k < 64) {xs : List (List Nat)} (hx : Shorts xs) {i : Nat} (hi : i < xs.length) :
    (pLog 5000 (stF k (xs.take i)) (k : Int) ⟨i, true⟩ (xs[i])).1 = 0 ∧ (pLog 5000 (stF k (xs.take i)) (k : Int) ⟨i, true⟩ (xs[i])).2.1 = stF k (xs.take (i + 1)) ∧ (pLog 5000 (stF k (xs.take i)) (k : Int) ⟨i, true⟩ (xs[i])).2.2 = ⟨i + 1, true⟩ := by
  have hl : (xs.take i).length = i := by rw [List.length_take]; omega
  have h10 := (hx.2 (xs[i]) (List.getElem_mem hi)).1
  have hfl := framesN_le (xs.take i) 0 (fun x h => (hx.2 x (List.mem_of_mem_take h)).1) (by have := hx.1; omega)
  have hf := frameN_len (n := (i : Int)) (b := xs[i]) (by have := hx.1; omega) (by omega)
  have h := log_ok (room := 5000) hk (s := stF k (xs.take i)) (kept := xs.take i) rfl rfl rfl (b := xs[i]) (by omega) (by rw [hl]; have := hx.1; omega)
  rw [hl] at h
  rw [h, ← List.take_succ_eq_append_getElem hi]
  exact ⟨rfl, rfl, rfl⟩

/-- Records at hand, in blocks from lo to hi. -/
structure XsIs (lo hi : Nat) (W : World) (u : Value) (us : List Value) (xs : List (List Nat)) : Prop where
  own : LOwn lo W u us xs
  top : ∀ k, u.ownBlock = some k → k < hi
  els : ∀ y ∈ us, ∀ k, blockOf y k → lo ≤ k ∧ k < hi
theorem XsIs.keeps {lo hi : Nat} {W W2 : World} {u : Value} {us : List Value} {xs : List (List Nat)} {A : Foot} (h : XsIs lo hi W u us xs) (hk : Keeps A W W2) (hg : ∀ k, A k → k < lo ∨ hi ≤ k) : XsIs lo hi W2 u us xs :=
  ⟨lown_foot h.own hk (fun k hk hA => by
      have h1 := (h.own.own.lt k hk).1
      have h2 := h.top k hk
      rcases hg k hA with h3 | h3 <;> omega) (fun y hy k hk hA => by
      have h1 := h.els y hy k hk
      rcases hg k hA with h3 | h3 <;> omega), h.top, h.els⟩
theorem XsIs.below {lo hi : Nat} {W W2 : World} {u : Value} {us : List Value} {xs : List (List Nat)} (h : XsIs lo hi W u us xs) (hb : Below W.heap.size W W2) : XsIs lo hi W2 u us xs := ⟨lown_below h.own hb, h.top, h.els⟩
theorem XsIs.get {lo hi : Nat} {W : World} {a : Option Addr} {cap : Nat} {us : List Value} {xs : List (List Nat)} (h : XsIs lo hi W (.slice a us.length cap) us xs) {i : Nat} (hi : i < us.length) :
    ∃ b off y, a = some ⟨b, off, none⟩ ∧ W.cell? ⟨b, off + i, none⟩ = some y ∧ Row .u8 W y (natI (xs[i]'(by rw [← h.own.len]; exact hi))) ∧ ∀ j, blockOf y j → j < W.heap.size := by
  obtain ⟨a2, cap2, h1, _, _, h4⟩ := (lrow_of_own h.own).form
  injection h1 with h5 h6 h7
  subst h5
  obtain ⟨b, off, h8, h9⟩ := h4 (fun e => by rw [e] at hi; simp at hi)
  exact ⟨b, off, us[i], h8, h9 i hi, h.own.row i hi (by rw [← h.own.len]; exact hi), h.own.lt _ (List.getElem_mem hi)⟩

set_option maxHeartbeats 8000000 in
theorem walk_JournalInverted (vl : Value) (l : List Int) (vb : Value) (b : List Int) (keep flip : Int) (w : World) (hvl : Row .i64 w vl l) (hlr : ∀ n ∈ l, -9223372036854775808 ≤ n ∧ n ≤ 9223372036854775807) (hvb : Row .u8 w vb b) (hb : ∀ n ∈ b, 0 ≤ n ∧ n ≤ 255)
    (hkeep : -9223372036854775808 ≤ keep ∧ keep ≤ 9223372036854775807) (hflip : -9223372036854775808 ≤ flip ∧ flip ≤ 9223372036854775807) :
    Calls Try.prog 4 #[vl, vb, .int .i64 keep, .int .i64 flip] w fun e w' => e = .returned (.bool true) ∧ Below w.heap.size w w' := by
  have HVL := Lib.hid hvl
  have HLR := Lib.hid hlr
  have HVB := Lib.hid hvb
  have HKP := Lib.hid hkeep
  have HFLP := Lib.hid hflip
  obtain ⟨hbs, h8⟩ := natI_toNats2 (zs := b.take 60) (fun n hn => hb n (List.mem_of_mem_take hn))
  have hl60 : (toNats (b.take 60)).length ≤ 60 := by rw [toNats_length, List.length_take]; omega
  generalize toNats (b.take 60) = own at *
  have HBS := Lib.hid hbs
  have H8 := Lib.hid h8
  have HL6 := Lib.hid hl60
  obtain ⟨on1, on2, on3⟩ := open_new (k := 0) (by decide)
  have HON := Lib.hid (And.intro on1 (And.intro on2 on3))
  clear hvl hlr hvb hb hkeep hflip hbs h8 hl60 on1 on2 on3
  go_enter Try.func4, Try.ntmps4
  go_wp2_with fail
  refine (fresh06_any 5000 w (by decide)).mono ?_
  rintro e w1 ⟨d, A1, rfl, hd, hb⟩
  have D1 := Lib.hid hd
  have B1 := Lib.hid hb
  clear hd hb
  go_wp2_with fail
  refine (open_any D1.out B1.out.size 0 (by decide)).mono ?_
  rintro e w2 ⟨A2, lv, rv, us2, rfl, ho⟩
  have HN1 : Hid ((pOpen pNew 0).1 = 0) := Lib.hid HON.out.1
  have HN2 : Hid ((pOpen pNew 0).2.2 = []) := Lib.hid HON.out.2.1
  have HN3 : Hid ((pOpen pNew 0).2.1 = stF 0 []) := Lib.hid HON.out.2.2
  rw [HN1.out]
  obtain ⟨g, rfl, hj, hg1, hg2, hg3, _⟩ := ho.good HN1.out
  have D2 : Hid (Dsk w.heap.size w2 A2 d 5000 (stF 0 [])) := Lib.hid (by rw [← HN3.out]; exact ho.dk)
  have J2 : Hid (Jl w2 g d 0 0 true) := Lib.hid (by rw [HN2.out] at hj; exact hj)
  have G2 := Lib.hid (And.intro hg3 (Nat.le_trans B1.out.size hg1))
  have B2 := Lib.hid (B1.out.trans ho.below)
  clear ho hj hg1 hg2 hg3 D1 B1 HON HN1 HN2 HN3
  go_wp2_with fail
  refine (records_new vl l w2 (row_keeps HVL.out B2.out) HLR.out).mono ?_
  rintro e w3 ⟨u, us, xs, rfl, hlo, hsh, hb, hlw⟩
  have D3 := Lib.hid (D2.out.below hb)
  have J3 : Hid (Jl w3 g d 0 0 true) := Lib.hid (Laid.below J2.out hb)
  obtain ⟨ua, uc, rfl⟩ : ∃ ua uc, u = .slice ua us.length uc := by
    rcases hlo.own.2 with ⟨h1, h2⟩ | ⟨g, cap, cur, h1, _⟩
    · exact ⟨none, 0, by rw [h1, h2]⟩
    · exact ⟨_, cap, h1⟩
  have X3 : Hid (XsIs w2.heap.size w3.heap.size w3 (.slice ua us.length uc) us xs) := Lib.hid ⟨hlo, fun k hk => (hlo.own.lt k hk).2, fun y hy k hk => ⟨hlw y hy k hk, hlo.lt y hy k hk⟩⟩
  have XL := Lib.hid hlo.len
  have HSH := Lib.hid hsh
  have B3 := Lib.hid (B2.out.trans (hb.mono B2.out.size))
  have G3 : Hid (Gap w2.heap.size w3.heap.size A2 ∧ ¬ A2 g ∧ w.heap.size ≤ g ∧ g < w2.heap.size) := Lib.hid ⟨fun k hk => .inl (D2.out.hi k hk), G2.out.1, G2.out.2, J2.out.lt⟩
  have S3 := Lib.hid (Nat.le_refl w3.heap.size)
  have SZ := Lib.hid hb.size
  have hn6 : us.length ≤ 6 := by rw [hlo.len]; exact hsh.1
  clear hlo hsh hb hlw D2 J2 G2 B2
  go_wp2_with fail
  go_loopw [14] (fun s14 wr => ∃ (i : Nat) (A : Foot), s14 = .int .i64 (i : Int) ∧ i ≤ us.length ∧ Hid (Dsk w.heap.size wr A d 5000 (stF 0 (xs.take i))) ∧ Hid (Jl wr g d 0 i true) ∧ Hid (Gap w2.heap.size w3.heap.size A ∧ ¬ A g ∧ w.heap.size ≤ g ∧ g < w2.heap.size) ∧ Hid (XsIs w2.heap.size w3.heap.size wr (.slice ua us.length uc) us xs) ∧ Hid (Below w.heap.size w wr) ∧ Hid (w3.heap.size ≤ wr.heap.size)) (fun s14 _ => us.length - (intOf s14).toNat)
  case atStart => exact ⟨0, A2, rfl, Nat.zero_le _, D3, J3, G3, X3, B3, S3⟩
  case round =>
    obtain ⟨i, A, rfl, hi, HD, HJ, HG, HX, HB, HS⟩ := hrel
    clear D3 J3 G3 X3 B3 S3
    by_cases hlt : i < us.length
    · have hxi : i < xs.length := by rw [← XL.out]; exact hlt
      obtain ⟨bb, off, y, rfl, hcy, hry, hby⟩ := HX.out.get hlt
      obtain ⟨p1, p2, p3⟩ := stF_step (k := 0) (by decide) HSH.out hxi
      have hx8 := HSH.out.2 (xs[i]) (List.getElem_mem hxi)
      have HP := Lib.hid (And.intro p1 (And.intro p2 p3))
      have HY := Lib.hid (And.intro hry (And.intro hby hx8))
      clear p1 p2 p3 hry hby hx8
      go_wp2_with fail
      refine (logAppend_any (g := ⟨i, true⟩) HD.out HB.out.size HJ.out HG.out.2.1 HG.out.2.2.1 (by show i ≤ 1000000; omega) HY.out.1 HY.out.2.2.2 HY.out.2.1 (by have := HY.out.2.2.1; omega)).mono ?_
      rintro e w4 ⟨rfl, A4, ha⟩
      have hpa : (pLog 5000 (stF 0 (xs.take i)) 0 ⟨i, true⟩ (xs[i])).1 = 0 := HP.out.1
      have hpb : (pLog 5000 (stF 0 (xs.take i)) 0 ⟨i, true⟩ (xs[i])).2.1 = stF 0 (xs.take (i + 1)) := HP.out.2.1
      have hpc : (pLog 5000 (stF 0 (xs.take i)) 0 ⟨i, true⟩ (xs[i])).2.2 = ⟨i + 1, true⟩ := HP.out.2.2
      rw [hpa]
      have HD4 : Hid (Dsk w.heap.size w4 A4 d 5000 (stF 0 (xs.take (i + 1)))) := Lib.hid (by rw [← hpb]; exact ha.dk)
      have HJ4 : Hid (Jl w4 g d 0 (i + 1) true) := Lib.hid (by have := ha.lg; rw [hpc] at this; exact this)
      have HG4 : Hid (Gap w2.heap.size w3.heap.size A4 ∧ ¬ A4 g ∧ w.heap.size ≤ g ∧ g < w2.heap.size) := Lib.hid ⟨gap_up HG.out.1 ha.foot HS.out, ha.far, HG.out.2.2⟩
      have HX4 := Lib.hid (HX.out.keeps ha.keeps (fun k hk => hk.elim (HG.out.1 k) (fun h => .inl (by rw [h]; exact HG.out.2.2.2))))
      have HB4 := Lib.hid (HB.out.trans ha.below)
      have HS4 := Lib.hid (Nat.le_trans HS.out ha.keeps.size)
      clear ha hpa hpb hpc HP HY HD HJ HG HX HB HS hcy
      go_wp2_with fail
      exact ⟨⟨i + 1, A4, by rw [Int.natCast_add]; rfl, by omega, HD4, HJ4, HG4, HX4, HB4, HS4⟩, by simp only [intOf]; omega⟩
    · have hie : i = us.length := by omega
      subst hie
      clear hlt hi
      have hxt : xs.take us.length = xs := List.take_of_length_le (by rw [XL.out]; exact Nat.le_refl _)
      rw [hxt] at HD
      clear hxt
      go_wp2_with fail
      obtain ⟨hif1, hif2, hif3⟩ := inv_facts HSH.out (own := own) HL6.out keep flip
      have HIF : Hid (InvFacts (pLog 5000 (pArm (stF 0 xs) 0) 0 ⟨us.length, true⟩ own) (pCrash (pLog 5000 (pArm (stF 0 xs) 0) 0 ⟨us.length, true⟩ own).2.1 [keep] flip) xs) := Lib.hid (by rw [XL.out]; exact ⟨hif1, hif2, hif3⟩)
      clear hif1 hif2 hif3
      refine (armS_any HD.out.dk 0 (by decide)).mono ?_
      rintro e w5 ⟨rfl, hu⟩
      obtain ⟨A5, hd, hk, hf, hb⟩ := HD.out.up hu HB.out.size
      have D5 := Lib.hid hd
      have G5 : Hid (Gap w2.heap.size w3.heap.size A5 ∧ ¬ A5 g ∧ w.heap.size ≤ g ∧ g < w2.heap.size) := Lib.hid ⟨gap_up HG.out.1 hf HS.out, fun hA => (hf g hA).elim HG.out.2.1 (fun h => by have := HG.out.2.2.2; have := HS.out; have := SZ.out; omega), HG.out.2.2⟩
      have J5 : Hid (Jl w5 g d 0 us.length true) := Lib.hid (Laid.keeps HJ.out hk HG.out.2.1)
      have X5 := Lib.hid (HX.out.keeps hk HG.out.1)
      have B5 := Lib.hid (HB.out.trans hb)
      have S5 := Lib.hid (Nat.le_trans HS.out hk.size)
      clear hu hd hk hf hb HD HJ HG HX HB HS
      go_wp2_with fail
      refine (refFew_any vb b 60 w5 (row_keeps HVB.out B5.out) (by decide)).mono ?_
      rintro e w6 ⟨ov, rfl, hov, hb⟩
      rw [← HBS.out] at hov
      have HO6 := Lib.hid (And.intro (row_of_fresh hov) (fresh_block hov))
      have D6 := Lib.hid (D5.out.below hb)
      have J6 : Hid (Jl w6 g d 0 us.length true) := Lib.hid (Laid.below J5.out hb)
      have X6 := Lib.hid (X5.out.below hb)
      have B6 := Lib.hid (B5.out.trans (hb.mono B5.out.size))
      have S6 := Lib.hid (Nat.le_trans S5.out hb.size)
      clear hov hb D5 J5 X5 B5 S5
      go_wp2_with fail
      refine (logAppend_any (g := ⟨us.length, true⟩) D6.out B6.out.size J6.out G5.out.2.1 G5.out.2.2.1 (by show us.length ≤ 1000000; omega) HO6.out.1 H8.out HO6.out.2 (by have := HL6.out; omega)).mono ?_
      generalize pLog 5000 (pArm (stF 0 xs) 0) 0 ⟨us.length, true⟩ own = q at *
      rintro e w7 ⟨rfl, A7, ha⟩
      rw [HIF.out.1]
      have hq2 : q.2.2 = ⟨us.length, false⟩ := by rw [HIF.out.2.1, XL.out]
      have D7 := Lib.hid ha.dk
      have J7 : Hid (Jl w7 g d 0 us.length false) := Lib.hid (by have := ha.lg; rw [hq2] at this; exact this)
      have G7 : Hid (Gap w2.heap.size w3.heap.size A7 ∧ ¬ A7 g ∧ w.heap.size ≤ g ∧ g < w2.heap.size) := Lib.hid ⟨gap_up G5.out.1 ha.foot S6.out, ha.far, G5.out.2.2⟩
      have X7 := Lib.hid (X6.out.keeps ha.keeps (fun k hk => hk.elim (G5.out.1 k) (fun h => .inl (by rw [h]; exact G5.out.2.2.2))))
      have B7 := Lib.hid (B6.out.trans ha.below)
      have S7 := Lib.hid (Nat.le_trans S6.out ha.keeps.size)
      clear ha hq2 D6 J6 X6 B6 S6 G5 HO6
      go_wp2_with fail
      refine (up_any J7.out).mono ?_
      rintro e w8 ⟨rfl, rfl⟩
      go_wp2_with fail
      refine (logAppend_any (g := ⟨us.length, false⟩) (v := .slice none 0 0) (bs := []) D7.out B7.out.size J7.out G7.out.2.1 G7.out.2.2.1 (by show us.length ≤ 1000000; omega) (row_none _ _) (by decide) (fun j hj => hj.elim) (by decide)).mono ?_
      rw [log_down (b := []) (by decide)]
      rintro e w9 ⟨rfl, A9, ha⟩
      have D9 : Hid (Dsk w.heap.size w9 A9 d 5000 q.2.1) := Lib.hid ha.dk
      have J9 : Hid (Jl w9 g d 0 us.length false) := Lib.hid ha.lg
      have G9 : Hid (Gap w2.heap.size w3.heap.size A9 ∧ ¬ A9 g ∧ w.heap.size ≤ g ∧ g < w2.heap.size) := Lib.hid ⟨gap_up G7.out.1 ha.foot S7.out, ha.far, G7.out.2.2⟩
      have X9 := Lib.hid (X7.out.keeps ha.keeps (fun k hk => hk.elim (G7.out.1 k) (fun h => .inl (by rw [h]; exact G7.out.2.2.2))))
      have B9 := Lib.hid (B7.out.trans ha.below)
      have S9 := Lib.hid (Nat.le_trans S7.out ha.keeps.size)
      clear ha D7 J7 X7 B7 S7 G7
      go_wp2_with fail
      refine (len_any J9.out).mono ?_
      rintro e w10 ⟨rfl, rfl⟩
      have D10 := Lib.hid (D9.out.below ((Below.refl _ w10).alloc (Nat.le_refl _) (.cells #[.int .i64 keep] 3)))
      have N10 := Lib.hid D9.out.hi
      have J10 : Hid (Jl (w10.alloc (.cells #[.int .i64 keep] 3)) g d 0 us.length false) := Lib.hid (Laid.below J9.out ((Below.refl _ w10).alloc (Nat.le_refl _) (.cells #[.int .i64 keep] 3)))
      have X10 := Lib.hid (X9.out.below ((Below.refl _ w10).alloc (Nat.le_refl _) (.cells #[.int .i64 keep] 3)))
      have B10 := Lib.hid (B9.out.alloc B9.out.size (.cells #[.int .i64 keep] 3))
      have S10 := Lib.hid (Nat.le_trans S9.out ((Below.refl w10.heap.size w10).alloc (Nat.le_refl _) (.cells #[.int .i64 keep] 3)).size)
      have R10 : Hid (Row .i64 (w10.alloc (.cells #[.int .i64 keep] 3)) (.slice (some ⟨w10.heap.size, 0, none⟩) 1 1) [keep]) := Lib.hid (row_of_fresh (fresh_lit w10 0 3 .i64 [keep] (Nat.zero_le _) (by simp)))
      clear D9 J9 X9 B9 S9
      go_wp2_with fail
      refine (crashS_any D10.out.dk _ [keep] flip R10.out (fun j hj hA => by have : j = w10.heap.size := hj; have := N10.out j hA; omega) (fun x hx => by rw [List.mem_singleton.1 hx]; exact HKP.out) HFLP.out (by simp)).mono ?_
      rintro e w11 ⟨rfl, hu⟩
      obtain ⟨A11, hd, hk, hf, hb⟩ := D10.out.up hu B10.out.size
      have D11 := Lib.hid hd
      have G11 : Hid (Gap w2.heap.size w3.heap.size A11 ∧ ¬ A11 g ∧ w.heap.size ≤ g ∧ g < w2.heap.size) := Lib.hid ⟨gap_up G9.out.1 hf S10.out, fun hA => (hf g hA).elim G9.out.2.1 (fun h => by have := G9.out.2.2.2; have := S10.out; have := SZ.out; omega), G9.out.2.2⟩
      have J11 : Hid (Jl w11 g d 0 us.length false) := Lib.hid (Laid.keeps J10.out hk G9.out.2.1)
      have X11 := Lib.hid (X10.out.keeps hk G9.out.1)
      have B11 := Lib.hid (B10.out.trans hb)
      have S11 := Lib.hid (Nat.le_trans S10.out hk.size)
      have HIG : Hid (InvFacts q (pCrash q.2.1 [keep] flip) xs) := HIF
      clear hu hd hk hf hb D10 J10 X10 B10 S10 G9 N10 R10 HIF
      generalize pCrash q.2.1 [keep] flip = s3 at *
      go_wp2_with fail
      refine (logAppend_any (g := ⟨us.length, false⟩) (v := .slice none 0 0) (bs := []) D11.out B11.out.size J11.out G11.out.2.1 G11.out.2.2.1 (by show us.length ≤ 1000000; omega) (row_none _ _) (by decide) (fun j hj => hj.elim) (by decide)).mono ?_
      rw [log_down (b := []) (by decide)]
      rintro e w12 ⟨rfl, A12, ha⟩
      have D12 : Hid (Dsk w.heap.size w12 A12 d 5000 s3) := Lib.hid ha.dk
      have G12 : Hid (Gap w2.heap.size w3.heap.size A12) := Lib.hid (gap_up G11.out.1 ha.foot S11.out)
      have X12 := Lib.hid (X11.out.keeps ha.keeps (fun k hk => hk.elim (G11.out.1 k) (fun h => .inl (by rw [h]; exact G11.out.2.2.2))))
      have B12 := Lib.hid (B11.out.trans ha.below)
      clear ha D11 J11 X11 B11 S11 G11
      go_wp2_with fail
      refine (open_any D12.out B12.out.size 0 (by decide)).mono ?_
      rintro e w13 ⟨A13, lv2, rv2, us2, rfl, ho⟩
      rw [HIG.out.2.2.1]
      obtain ⟨more, hmore⟩ := HIG.out.2.2.2
      have hol := ho.own
      rw [hmore] at hol
      obtain ⟨ra, rc, rfl⟩ : ∃ ra rc, rv2 = .slice ra us2.length rc := by
        rcases hol.own.2 with ⟨h1, h2⟩ | ⟨g, cap, cur, h1, _⟩
        · exact ⟨none, 0, by rw [h1, h2]⟩
        · exact ⟨_, cap, h1⟩
      have hl2 := hol.len
      rw [List.length_append] at hl2
      have hle : us.length ≤ us2.length := by have := XL.out; omega
      have hlr := lrow_of_own hol
      have hcap : us2.length ≤ rc := by
        obtain ⟨a9, c9, h91, h92, _⟩ := hlr.form
        injection h91 with _ _ h93
        omega
      have hle2 : us.length ≤ rc := by omega
      have hle3 : (us.length : Int) ≤ (rc : Int) := by omega
      have LR := Lib.hid (lrow_take hlr hle)
      have hxt : (xs ++ more).take us.length = xs := by rw [XL.out, List.take_left' rfl]
      rw [hxt] at LR
      have X13 := Lib.hid (X12.out.keeps ho.keeps G12.out)
      have B13 := Lib.hid (B12.out.trans ho.below)
      have HTL : Hid ((us2.take us.length).length = us.length) := Lib.hid (by rw [List.length_take]; omega)
      clear ho hol hl2 hlr hcap hxt hmore D12 X12 B12 G12
      go_wp2_with fail
      refine (sameLists_any _ _ _ us xs xs w13 LR.out (lrow_of_own X13.out.own) (fun x hx => by have := (HSH.out.2 x hx).1; omega) (fun x hx => by have := (HSH.out.2 x hx).1; omega) (by rw [HTL.out]; omega) (by omega)).mono ?_
      rintro e w14 ⟨rfl, hb⟩
      rw [decide_eq_true rfl]
      have B14 := Lib.hid (B13.out.trans (hb.mono B13.out.size))
      clear hb X13 LR B13
      go_wp2_with fail
      refine (lives6_any w14).mono ?_
      rintro e wl ⟨rfl, hb⟩
      have BL := Lib.hid (B14.out.trans (hb.mono B14.out.size))
      clear hb
      go_wp2_with fail
      go_ret
      exact ⟨rfl, BL.out⟩
end Go.Proofs.Ytjapbopdpohebaa
