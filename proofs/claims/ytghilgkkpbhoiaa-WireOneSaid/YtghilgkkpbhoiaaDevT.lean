/-
  The walk of the law WireOne.
-/
import Derived.Test.YtghilgkkpbhoiaaDevS
namespace Go.Proofs.Ytghilgkkpbhoiaa
open Go.RowKit Go.Shelf
set_option linter.unusedVariables false

/-- A value within the ranges of its types, its parts not too long for a reader. -/
structure VV.okL (v : VV) : Prop where
  u : v.u < 18446744073709551616
  n : -9223372036854775808 ≤ v.n ∧ v.n ≤ 9223372036854775807
  b : ∀ c ∈ v.b, c < 256
  bl : v.b.length ≤ 200000
  l : ∀ n ∈ v.l, -9223372036854775808 ≤ n ∧ n ≤ 9223372036854775807
  ll : v.l.length ≤ 200000

theorem encVL_len {v : VV} (h : v.okL) : (encV v).length ≤ 2000020 := by
  unfold encV
  have h1 := varN_len10 h.u
  have h2 := varN_len10 (zigN_lt h.n)
  have h3 := varN_len10 (n := v.b.length) (by have := h.bl; omega)
  have h4 := varN_len10 (n := v.l.length) (by have := h.ll; omega)
  have h5 := zigsN_len h.l
  have h6 := h.bl
  have h7 := h.ll
  split
  · omega
  · split
    · omega
    · split
      · simp [boolN]
      · split
        · rw [List.length_append]; omega
        · rw [List.length_append]; omega
theorem encAllL_len {xs : List VV} (h : ∀ v ∈ xs, v.okL) : (encAll xs).length ≤ 2000020 * xs.length := by
  induction xs with
  | nil => simp [encAll]
  | cons v xs ih =>
    have e : encAll (v :: xs) = encV v ++ encAll xs := by simp [encAll]
    rw [e, List.length_append, List.length_cons]
    have := encVL_len (h v (by simp))
    have := ih (fun u hu => h u (by simp [hu]))
    omega

/-! ### What is read is a value of its kind, and it has one encoding -/
theorem rMany_range (n : Nat) : ∀ s : RS, (∀ c ∈ s.1, c < 256) → ∀ x ∈ (rMany n s).1, -9223372036854775808 ≤ x ∧ x ≤ 9223372036854775807 := by
  induction n with
  | zero => intro s _ x hx; simp [rMany] at hx
  | succ n ih =>
    intro s h8 x hx
    rcases List.mem_cons.1 (show x ∈ (rInt s).1 :: (rMany n (rInt s).2).1 from hx) with h | h
    · rw [h]; exact zagI_range (rUint_lt h8)
    · exact ih _ (fun c hc => h8 c ((rInt_suf s).subset hc)) x h
theorem rInts_range {s : RS} (h8 : ∀ c ∈ s.1, c < 256) : ∀ x ∈ (rInts s).1, -9223372036854775808 ≤ x ∧ x ≤ 9223372036854775807 := by
  intro x hx
  unfold rInts at hx
  split at hx
  · simp at hx
  · exact rMany_range _ _ (fun c hc => h8 c ((rLen_suf s).subset hc)) x hx
theorem rRead_okL (k : Int) {s : RS} (h8 : ∀ c ∈ s.1, c < 256) (hl : s.1.length ≤ 200000) : (rRead k s).1.okL := by
  have z0 : (-9223372036854775808 : Int) ≤ 0 ∧ (0 : Int) ≤ 9223372036854775807 := by decide
  have z1 : (-9223372036854775808 : Int) ≤ 1 ∧ (1 : Int) ≤ 9223372036854775807 := by decide
  have zu : (0 : Nat) < 18446744073709551616 := by decide
  have zn : ∀ c ∈ ([] : List Nat), c < 256 := fun c h => by simp at h
  have zl : ∀ n ∈ ([] : List Int), -9223372036854775808 ≤ n ∧ n ≤ 9223372036854775807 := fun c h => by simp at h
  unfold rRead
  split
  · exact ⟨rUint_lt h8, z0, zn, by simp, zl, by simp⟩
  · split
    · exact ⟨zu, zagI_range (rUint_lt h8), zn, by simp, zl, by simp⟩
    · split
      · refine ⟨zu, ?_, zn, by simp, zl, by simp⟩
        show (-9223372036854775808 : Int) ≤ (if (rBool s).1 then 1 else 0) ∧ _
        split
        · exact z1
        · exact z0
      · split
        · exact ⟨zu, z0, rRaw_lt h8, Nat.le_trans (rRaw_len s) hl, zl, by simp⟩
        · exact ⟨zu, z0, zn, by simp, rInts_range h8, Nat.le_trans (rInts_len s) hl⟩
theorem rRead_one (k : Int) {s : RS} (h8 : ∀ c ∈ s.1, c < 256) (h : (rRead k s).2.2 = 0) : s.2 = 0 ∧ s.1 = encV (rRead k s).1 ++ (rRead k s).2.1 := by
  by_cases h0 : k = 0
  · subst h0
    obtain ⟨h1, h2, _⟩ := rUint_one h8 (show (rUint s).2.2 = 0 from h)
    exact ⟨h1, h2⟩
  by_cases h1 : k = 1
  · subst h1
    exact rInt_one h8 (show (rInt s).2.2 = 0 from h)
  by_cases h2 : k = 2
  · subst h2
    obtain ⟨h3, h4⟩ := rBool_one (show (rBool s).2.2 = 0 from h)
    refine ⟨h3, ?_⟩
    show s.1 = boolN (decide ((if (rBool s).1 then (1 : Int) else 0) = 1)) ++ (rBool s).2.1
    have e : decide ((if (rBool s).1 then (1 : Int) else 0) = 1) = (rBool s).1 := by cases (rBool s).1 <;> rfl
    rw [e]
    exact h4
  by_cases h3 : k = 3 ∨ k = 4
  · have e : rRead k s = (⟨k, 0, 0, (rRaw s).1, []⟩, (rRaw s).2) := by unfold rRead; rw [if_neg h0, if_neg h1, if_neg h2, if_pos h3]
    rw [e] at h ⊢
    obtain ⟨h4, h5⟩ := rRaw_one h8 (show (rRaw s).2.2 = 0 from h)
    refine ⟨h4, ?_⟩
    have e2 : encV ⟨k, 0, 0, (rRaw s).1, []⟩ = varN (rRaw s).1.length ++ (rRaw s).1 := by unfold encV; rw [if_neg h0, if_neg h1, if_neg h2, if_pos h3]
    rw [e2]
    exact h5
  · have e : rRead k s = (⟨k, 0, 0, [], (rInts s).1⟩, (rInts s).2) := by unfold rRead; rw [if_neg h0, if_neg h1, if_neg h2, if_neg h3]
    rw [e] at h ⊢
    obtain ⟨h4, h5⟩ := rInts_one h8 (show (rInts s).2.2 = 0 from h)
    refine ⟨h4, ?_⟩
    have e2 : encV ⟨k, 0, 0, [], (rInts s).1⟩ = varN (rInts s).1.length ++ zigsN (rInts s).1 := by unfold encV; rw [if_neg h0, if_neg h1, if_neg h2, if_neg h3]
    rw [e2]
    exact h5
theorem rEnd_zero {s : RS} (h : rEnd s = 0) : s.2 = 0 ∧ s.1 = [] := by
  unfold rEnd at h
  split at h
  · exact absurd h (by decide)
  · rename_i h1
    refine ⟨h, ?_⟩
    by_cases h2 : s.1 = []
    · exact h2
    · exact absurd ⟨h, h2⟩ h1

/-- What has been read so far: values gs, state s, of the bytes L. -/
structure SoFar (L : List Nat) (gs : List VV) (s : RS) : Prop where
  ok : ∀ x ∈ gs, x.okL
  b8 : ∀ c ∈ s.1, c < 256
  len : s.1.length ≤ 200000
  enc : s.2 = 0 → L = encAll gs ++ s.1
theorem sofar_start {L : List Nat} (h8 : ∀ c ∈ L, c < 256) (hl : L.length ≤ 200000) : SoFar L [] (L, 0) :=
  ⟨fun x hx => by simp at hx, h8, hl, fun _ => rfl⟩
theorem sofar_step {L : List Nat} {gs : List VV} {s : RS} (h : SoFar L gs s) (k : Int) : SoFar L (gs ++ [(rRead k s).1]) (rRead k s).2 := by
  refine ⟨fun x hx => ?_, fun c hc => h.b8 c ((rRead_suf k s).subset hc), Nat.le_trans (rRead_suf k s).length_le h.len, fun h0 => ?_⟩
  · rcases List.mem_append.1 hx with hx | hx
    · exact h.ok x hx
    · have : x = (rRead k s).1 := by simpa using hx
      rw [this]
      exact rRead_okL k h.b8 h.len
  · obtain ⟨h1, h2⟩ := rRead_one k h.b8 h0
    rw [h.enc h1, h2]
    simp [encAll, List.append_assoc]
theorem sofar_end {L : List Nat} {gs : List VV} {s : RS} (h : SoFar L gs s) (h0 : rEnd s = 0) : encAll gs = L := by
  obtain ⟨h1, h2⟩ := rEnd_zero h0
  rw [h.enc h1, h2, List.append_nil]

set_option maxRecDepth 100000 in
set_option maxHeartbeats 4000000 in
theorem writeL_any (r g : Nat) (zs : List Nat) (vb vl : Value) (v : VV) (w : World) (h : Wr w r g zs) (hvb : Row .u8 w vb (natI v.b)) (hvl : Row .i64 w vl v.l)
    (hb : ∀ j, blockOf vb j ∨ blockOf vl j → j ≠ r ∧ j ≠ g ∧ j < w.heap.size) (ok : v.okL) (hlen : zs.length ≤ 100000000) :
    Calls Try.prog 14 #[.pointer (some ⟨r, 0, none⟩), .agg #[.int .i64 v.kind, .int .u64 (v.u : Int), .int .i64 v.n, vb, vl]] w (WrEnd r g (zs ++ encV v) w) := by
  obtain ⟨kind, vu, vn, b, l⟩ := v
  simp only at *
  have hL := Laid.new w 28 [.int .i64 kind, .int .u64 (vu : Int), .int .i64 vn, vb, vl]
  have c0 := hL.cell 0
  have c1 := hL.cell 1
  have c2 := hL.cell 2
  have c3 := hL.cell 3
  have c4 := hL.cell 4
  simp only [List.getElem?_cons_zero, List.getElem?_cons_succ] at c0 c1 c2 c3 c4
  have hbe : Below w.heap.size w (w.alloc (.cells #[.int .i64 kind, .int .u64 (vu : Int), .int .i64 vn, vb, vl] 28)) := (Below.refl _ w).alloc (Nat.le_refl _) _
  have HW := Lib.hid (wr_below h hbe)
  have HB := Lib.hid (row_keeps hvb hbe)
  have HL := Lib.hid (row_keeps hvl hbe)
  have hsz : (w.alloc (.cells #[.int .i64 kind, .int .u64 (vu : Int), .int .i64 vn, vb, vl] 28)).heap.size = w.heap.size + 1 := by simp
  have HBL : Hid (∀ j, blockOf vb j → j ≠ r ∧ j ≠ g) := Lib.hid (fun j hj => ⟨(hb j (.inl hj)).1, (hb j (.inl hj)).2.1⟩)
  have HLL : Hid (∀ j, blockOf vl j → j ≠ r ∧ j ≠ g ∧ j < (w.alloc (.cells #[.int .i64 kind, .int .u64 (vu : Int), .int .i64 vn, vb, vl] 28)).heap.size) := Lib.hid (fun j hj => by have := hb j (.inr hj); omega)
  have HWA : Hid (∀ zs e w', WrEnd r g zs (w.alloc (.cells #[.int .i64 kind, .int .u64 (vu : Int), .int .i64 vn, vb, vl] 28)) e w' → WrEnd r g zs w e w') := Lib.hid (fun zs e w' h => wr_end_alloc h)
  have HOK := Lib.hid ok
  have hq := conv_string (HB.out)
  clear hL hbe h hvb hvl hb ok
  have hk : kind = 0 ∨ kind = 1 ∨ kind = 2 ∨ kind = 3 ∨ kind = 4 ∨ (kind ≠ 0 ∧ kind ≠ 1 ∧ kind ≠ 2 ∧ kind ≠ 3 ∧ kind ≠ 4) := by omega
  rcases hk with rfl | rfl | rfl | rfl | rfl | ⟨h0, h1, h2, h3, h4⟩
  · go_enter Try.func14, Try.ntmps14
    go_wp2_with fail
    generalize w.alloc (.cells #[.int .i64 0, .int .u64 (vu : Int), .int .i64 vn, vb, vl] 28) = w0 at *
    refine (devUint_any r g zs vu w0 HW.out HOK.out.u (by omega)).mono ?_
    rintro e w1 ⟨rfl, he⟩
    have HE := Lib.hid he
    clear he
    go_wp2_with fail
    go_end0
    exact HWA.out _ _ _ ⟨rfl, HE.out⟩
  · go_enter Try.func14, Try.ntmps14
    go_wp2_with fail
    generalize w.alloc (.cells #[.int .i64 1, .int .u64 (vu : Int), .int .i64 vn, vb, vl] 28) = w0 at *
    refine (devInt_any r g zs vn w0 HW.out HOK.out.n (by omega)).mono ?_
    rintro e w1 ⟨rfl, he⟩
    have HE := Lib.hid he
    clear he
    go_wp2_with fail
    go_end0
    exact HWA.out _ _ _ ⟨rfl, HE.out⟩
  · go_enter Try.func14, Try.ntmps14
    go_wp2_with fail
    generalize w.alloc (.cells #[.int .i64 2, .int .u64 (vu : Int), .int .i64 vn, vb, vl] 28) = w0 at *
    refine (devBool_any r g zs (decide (vn = 1)) w0 HW.out (by omega)).mono ?_
    rintro e w1 ⟨rfl, he⟩
    have HE := Lib.hid he
    clear he
    go_wp2_with fail
    go_end0
    exact HWA.out _ _ _ ⟨rfl, HE.out⟩
  · have hbl : b.length ≤ 200000 := HOK.out.bl
    go_enter Try.func14, Try.ntmps14
    go_wp2_with fail
    generalize w.alloc (.cells #[.int .i64 3, .int .u64 (vu : Int), .int .i64 vn, vb, vl] 28) = w0 at *
    have HSS : Hid ((strOfNums (natI b)).size = b.length ∧ strB (strOfNums (natI b)) = b) := Lib.hid ⟨by rw [strOfNums_size, natI_length], strB_nums HOK.out.b⟩
    refine (devText_any r g zs (strOfNums (natI b)) w0 HW.out (by rw [HSS.out.1]; omega)).mono ?_
    rintro e w1 ⟨rfl, he⟩
    rw [HSS.out.1, HSS.out.2] at he
    have HE := Lib.hid he
    clear he
    go_wp2_with fail
    go_end0
    exact HWA.out _ _ _ ⟨rfl, HE.out⟩
  · have hbl : b.length ≤ 200000 := HOK.out.bl
    go_enter Try.func14, Try.ntmps14
    go_wp2_with fail
    generalize w.alloc (.cells #[.int .i64 4, .int .u64 (vu : Int), .int .i64 vn, vb, vl] 28) = w0 at *
    refine (devRaw_any r g zs vb b w0 HW.out HB.out HBL.out (by omega)).mono ?_
    rintro e w1 ⟨rfl, he⟩
    have HE := Lib.hid he
    clear he
    go_wp2_with fail
    go_end0
    exact HWA.out _ _ _ ⟨rfl, HE.out⟩
  · have hll : l.length ≤ 200000 := HOK.out.ll
    have c0' : (kind == 0) = false := by simp; omega
    have c1' : (kind == 1) = false := by simp; omega
    have c2' : (kind == 2) = false := by simp; omega
    have c3' : (kind == 3) = false := by simp; omega
    have c4' : (kind == 4) = false := by simp; omega
    have HC : Hid (encV ⟨kind, vu, vn, b, l⟩ = varN l.length ++ zigsN l) := Lib.hid (by unfold encV; rw [if_neg h0, if_neg h1, if_neg h2, if_neg (fun h => h.elim h3 h4)])
    clear h0 h1 h2 h3 h4
    go_enter Try.func14, Try.ntmps14
    go_wp2_with fail
    generalize w.alloc (.cells #[.int .i64 kind, .int .u64 (vu : Int), .int .i64 vn, vb, vl] 28) = w0 at *
    refine (devInts_any r g zs vl l w0 HW.out HL.out HLL.out HOK.out.l (by omega) (by omega)).mono ?_
    rintro e w1 ⟨rfl, he⟩
    have HE := Lib.hid he
    clear he
    go_wp2_with fail
    go_end0
    rw [HC.out]
    exact HWA.out _ _ _ ⟨rfl, HE.out⟩

set_option maxRecDepth 100000 in
set_option maxHeartbeats 4000000 in
theorem encodeL_any (lo hi : Nat) (v : Value) (xs : List VV) (w : World) (h : Gv lo hi w v xs) (hok : ∀ x ∈ xs, x.okL) (hlen : xs.length ≤ 10) :
    Calls Try.prog 26 #[v] w (Copies 5 .u8 (natI (encAll xs)) w) := by
  obtain ⟨a, cap, rfl, hcap, hcm⟩ := gv_form h
  have hhi : hi ≤ w.heap.size := by obtain ⟨_, _, _, h3, _⟩ := h; exact h3
  have HOK := Lib.hid hok
  have hbe : Below w.heap.size w (w.alloc (.cells #[.slice none 0 0] 32)) := (Below.refl _ w).alloc (Nat.le_refl _) _
  have HG := Lib.hid (gv_keeps h (Keeps.of_below hbe) (fun k _ hk hk2 => by omega))
  have hs0 : (w.alloc (.cells #[.slice none 0 0] 32)).heap.size = w.heap.size + 1 := by simp
  have HW := Lib.hid (wr_new w)
  clear h hok
  go_enter Try.func26, Try.ntmps26
  go_wp2_with fail
  generalize w.alloc (.cells #[.slice none 0 0] 32) = w0 at *
  go_loopw [4] (fun iv wr => ∃ k g : Nat, k ≤ xs.length ∧ iv = .int .i64 (k : Int) ∧ Hid (Wr wr w.heap.size g (encAll (xs.take k))) ∧ w.heap.size ≤ g ∧ Hid (Gv lo hi wr (.slice a xs.length cap) xs) ∧ Below w.heap.size w wr) (fun iv _ => xs.length - (intOf iv).toNat)
  case atStart => exact ⟨0, w.heap.size, Nat.zero_le _, rfl, HW, Nat.le_refl _, HG, hbe⟩
  case round =>
    obtain ⟨k, g, hk, rfl, HWr, hgg, HGr, hbel⟩ := hrel
    clear HW HG hbe
    have hlw := HWr.out.lts
    by_cases hlt : k < xs.length
    · obtain ⟨gg, vb, vl, rfl, hgl, hgh, c0, c1, c2, c3, c4, hrb, hrl, hbl⟩ := gv_at HGr.out hlt
      have HRB := Lib.hid hrb
      have HRL := Lib.hid hrl
      have HBL := Lib.hid hbl
      have HX := Lib.hid (HOK.out xs[k] (List.getElem_mem hlt))
      have HE := Lib.hid (encAll_take hlt)
      have HLN : Hid ((encAll (xs.take k)).length ≤ 100000000) := by
        have h1 := encAllL_len (xs := xs.take k) (fun u hu => HOK.out u (List.mem_of_mem_take hu))
        have h3 : (xs.take k).length ≤ 10 := by simp; omega
        exact Lib.hid (by omega)
      clear hrb hrl hbl
      generalize xs[k] = x at *
      go_wp2_with fail
      refine (writeL_any w.heap.size g _ vb vl x wr HWr.out HRB.out HRL.out (fun i hi => by have := HBL.out i hi; omega) HX.out HLN.out).mono ?_
      rintro e w2 ⟨rfl, g2, hw2, hg2, hk2⟩
      have HW2 := Lib.hid hw2
      have HG2 := Lib.hid (gv_keeps HGr.out hk2 (fun i hi hi2 => by omega))
      have hb2 := below_foot hbel hk2 (by omega) (fun i hi => by omega)
      have hgg2 : w.heap.size ≤ g2 := by omega
      clear hw2 hk2 hbel HGr HWr
      go_wp2_with fail
      go_roundw
      case rel => exact ⟨k + 1, g2, by omega, by go_num, Lib.hid (by rw [HE.out]; exact HW2.out), hgg2, HG2, hb2⟩
      case measure => simp [intOf]; omega
    · obtain rfl : k = xs.length := by omega
      rw [List.take_length] at HWr
      have HEN := Lib.hid (encAllL_len HOK.out)
      go_wp2_with fail
      refine (devDone_any w.heap.size g _ wr HWr.out (by have := HEN.out; omega)).mono ?_
      rintro e w5 ⟨v5, rfl, hv5, hb5⟩
      have H5 := Lib.hid (fresh_mono hv5 hbel.size)
      have hb6 := below_then hbel hb5
      clear hv5 hb5 hbel
      go_wp2_with fail
      go_ret
      exact copies_mk H5.out hb6

set_option maxRecDepth 100000 in
set_option maxHeartbeats 16000000 in
theorem walk_WireOne (vr : Value) (raw : List Int) (v : Value) (l : List Int) (at' c : Int) (vk : Value) (kinds : List Int) (w : World) (hvr : Row .u8 w vr raw) (hr : ∀ n ∈ raw, 0 ≤ n ∧ n ≤ 255) (hv : Row .i64 w v l) (hl : ∀ n ∈ l, -9223372036854775808 ≤ n ∧ n ≤ 9223372036854775807)
    (hat : -9223372036854775808 ≤ at' ∧ at' ≤ 9223372036854775807) (hc : 0 ≤ c ∧ c ≤ 255) (hvk : Row .i64 w vk kinds) (hk : ∀ n ∈ kinds, -9223372036854775808 ≤ n ∧ n ≤ 9223372036854775807) :
    Calls Try.prog 6 #[vr, v, .int .i64 at', .int .u8 c, vk] w fun e w' => e = .returned (.bool true) ∧ Below w.heap.size w w' := by
  have HV := Lib.hid (refVals_any v l w hv hl (row_short hv))
  have HVR := Lib.hid hvr
  have HAT := Lib.hid hat
  have HC := Lib.hid hc
  have HKR := Lib.hid hk
  have HRR : Hid (∀ n ∈ raw.take 60, 0 ≤ n ∧ n ≤ 255) := Lib.hid (fun n hn => hr n (List.mem_of_mem_take hn))
  have hrl : (raw.take 60).length ≤ 60 := by simp; omega
  obtain ⟨pk, ck, rfl, hkcap, hkcm, hkne, _⟩ := hvk
  have HKN := Lib.hid hkne
  clear hv hl hvr hat hc hk hr hkne
  generalize hrs : raw.take 60 = rs at *
  have HRS := Lib.hid hrs
  have L := Lib.hid (fun W => lives_any2 W)
  clear hrs
  go_enter Try.func6, Try.ntmps6
  go_wp2_with fail
  refine HV.out.mono ?_
  rintro e w1 ⟨v1, xs, rfl, hfv, hb1, hxl, hok⟩
  have hs1 := hb1.size
  have hG1 := gv_of_freshV hfv
  obtain ⟨a1, c1, rfl, hc1, hc1m⟩ := gv_form hG1
  have HG1 := Lib.hid hG1
  clear hfv HV hG1
  go_wp2_with fail
  refine (encode_any _ _ _ xs w1 HG1.out (fun x hx => (hok x hx).1) (by omega)).mono ?_
  rintro e w2 ⟨v2, rfl, hf2, hbw⟩
  have hb2 := below_foot hb1 (Keeps.of_below hbw) (by omega) (fun k hk => by omega)
  have hs2 := hbw.size
  have HG2 := Lib.hid (gv_keeps HG1.out (Keeps.of_below hbw) (fun k _ h1 h2 => by omega))
  have HZR := Lib.hid (natI_range (encAll_lt (fun x hx => (hok x hx).1)))
  have hzl : (natI (encAll xs)).length ≤ 160000 := by rw [natI_length]; have := encAll_len (fun x hx => (hok x hx).1); omega
  clear hbw hb1 HG1 hok
  generalize natI (encAll xs) = zs at *
  obtain ⟨a2, c2, rfl, hc2, _⟩ := fresh_elems hf2
  have HF2 := Lib.hid hf2
  clear hf2
  rcases Classical.em (0 < zs.length) with hz | hz
  obtain ⟨g2, c2', e1, hg2, hg2l, _⟩ := fresh_some HF2.out (fun h => by rw [h] at hz; simp at hz)
  obtain ⟨a2', ha2⟩ : ∃ x, x = a2 := ⟨_, rfl⟩
  obtain rfl : a2 = some ⟨g2, 0, none⟩ := by injection e1
  go_wp2_with fail
  refine (around_nat at' zs.length w2 HAT.out hz (by omega)).mono ?_
  rintro e w2b ⟨k, hk, rfl, rfl⟩
  have hcell := fresh_cell HF2.out hk
  have hfz := fresh_frozen2 HF2.out rfl k
  have HF3' := fresh_store2 HF2.out rfl k c
  have hzr := bytes_range_set HZR.out k HC.out
  have HG3' := gv_keeps HG2.out (keeps_set w2 g2 k (.int .u8 c)) (fun j _ h1 h2 => by omega)
  generalize zs[k]?.getD 0 = old at *
  go_wp2_with fail
  obtain ⟨zt, hzt⟩ : ∃ x, x = zs.set k c := ⟨_, rfl⟩
  obtain ⟨w3, hw3⟩ : ∃ x, x = w2.setCell ⟨g2, k, none⟩ (.int .u8 c) := ⟨_, rfl⟩
  have HZT : Hid (zt.length = zs.length ∧ ∀ n ∈ zt, 0 ≤ n ∧ n ≤ 255) := Lib.hid (by rw [hzt, List.length_set]; exact ⟨rfl, hzr⟩)
  have HF3 : Hid (Fresh w1.heap.size 5 .u8 w3 (.slice a2' zs.length c2) zt) := Lib.hid (by rw [hzt, hw3, ha2]; exact HF3'.1)
  have HG3 : Hid (Gv w.heap.size w1.heap.size w3 (.slice a1 xs.length c1) xs) := Lib.hid (by rw [hw3]; exact HG3')
  have hb3 : Below w.heap.size w w3 := by rw [hw3]; exact hb2.setCell (p := ⟨g2, k, none⟩) (by show w.heap.size ≤ g2; omega) _
  have hs3 : w2.heap.size ≤ w3.heap.size := by rw [hw3]; simp [World.setCell]
  rw [← hw3, ← ha2]
  clear hzt hw3 HF2 hb2 HZR HF3' hzr hcell hfz hg2 hg2l ha2 HG2 HG3'
  rotate_left
  go_wp2_with fail
  obtain ⟨a2', ha2⟩ : ∃ x, x = a2 := ⟨_, rfl⟩
  obtain ⟨zt, hzt⟩ : ∃ x, x = zs := ⟨_, rfl⟩
  obtain ⟨w3, hw3⟩ : ∃ x, x = w2 := ⟨_, rfl⟩
  have HZT : Hid (zt.length = zs.length ∧ ∀ n ∈ zt, 0 ≤ n ∧ n ≤ 255) := Lib.hid (by rw [hzt]; exact ⟨rfl, HZR.out⟩)
  have HF3 : Hid (Fresh w1.heap.size 5 .u8 w3 (.slice a2' zs.length c2) zt) := Lib.hid (by rw [hzt, hw3, ha2]; exact HF2.out)
  have HG3 : Hid (Gv w.heap.size w1.heap.size w3 (.slice a1 xs.length c1) xs) := Lib.hid (by rw [hw3]; exact HG2.out)
  have hb3 : Below w.heap.size w w3 := by rw [hw3]; exact hb2
  have hs3 : w2.heap.size ≤ w3.heap.size := by rw [hw3]; exact Nat.le_refl _
  rw [← hw3, ← ha2]
  clear hzt hw3 HF2 hb2 HZR ha2 HG2
  all_goals
    have HTL : Hid ((toNats zt).length ≤ 160000 ∧ (∀ d ∈ toNats zt, d < 256) ∧ natI (toNats zt) = zt) := Lib.hid ⟨by rw [toNats_length, HZT.out.1]; exact hzl, toNats_mem HZT.out.2, natI_toNats HZT.out.2⟩
    have HTS := Lib.hid (fresh_span HF3.out)
    refine (devRead_any (.slice a2' zs.length c2) (toNats zt) w3 (by rw [HTL.out.2.2]; exact row_of_fresh HF3.out) HTL.out.2.1 (by have := HTL.out.1; omega)).mono ?_
    rintro e w4 ⟨r, b, rfl, hr4, hrB, hbB, hbl, hbw⟩
    have hb4 := below_foot hb3 (Keeps.of_below hbw) (by omega) (fun j hj => by omega)
    have HR4 := Lib.hid (rx_of hr4)
    have HG4 := Lib.hid (gv_keeps HG3.out (Keeps.of_below hbw) (fun j _ h1 h2 => by omega))
    have HT4 := Lib.hid (row_keeps (row_of_fresh HF3.out) hbw)
    have hs4 := hbw.size
    have hrl4 := hr4.lts
    have HSF := Lib.hid (sofar_start HTL.out.2.1 (by have := HTL.out.1; omega))
    clear hr4 hbw hb3 HG3 HF3
    go_wp2_with fail
    go_loopw [14, 15] (fun gv iv wr => ∃ (k : Nat) (gs : List VV) (a : Option Addr) (cp hi : Nat) (s : RS), k ≤ xs.length ∧ iv = .int .i64 (k : Int) ∧ gv = .slice a gs.length cp ∧ Hid (gs.length = k) ∧ Hid (SoFar (toNats zt) gs s) ∧ Hid (Rx wr r b s) ∧ Hid (Gv w4.heap.size hi wr (.slice a gs.length cp) gs) ∧ Hid (Gv w.heap.size w1.heap.size wr (.slice a1 xs.length c1) xs) ∧ Hid (Keeps (fun j => j = r ∨ w4.heap.size ≤ j) w4 wr)) (fun _ iv _ => xs.length - (intOf iv).toNat)
    case atStart => exact ⟨0, [], none, 0, w4.heap.size, (toNats zt, 0), Nat.zero_le _, rfl, rfl, Lib.hid rfl, HSF, HR4, Lib.hid (gv_nil _ _ (Nat.le_refl _)), HG4, Lib.hid (Keeps.refl _ _)⟩
    case round =>
      obtain ⟨k, gs, a, cp, hi, s, hk, rfl, rfl, HGL, HS, HR, HGG, HG, HK⟩ := hrel
      clear HSF HR4 HG4
      have hzr := HK.out.size
      have hhi : hi ≤ wr.heap.size := by obtain ⟨_, _, _, h, _⟩ := HGG.out; exact h
      by_cases hlt : k < xs.length
      · obtain ⟨gg, vb, vl, rfl, hgl, hgh, d0, _, _, _, _, _, _, _⟩ := gv_at HG.out hlt
        have RA := Lib.hid (read_any r b xs[k].kind s wr HR.out HS.out.b8 (by have := HS.out.len; omega) (by omega))
        have HS2 := Lib.hid (sofar_step HS.out xs[k].kind)
        unfold GotEnd at RA
        generalize xs[k].kind = kd at *
        generalize (rRead kd s).1 = y at *
        generalize (rRead kd s).2 = s2 at *
        clear HS HR
        go_wp2_with fail
        refine RA.out.mono ?_
        rintro e w7 ⟨vb7, vl7, rfl, q1, q2, q3, q4, q5⟩
        have d7 := q4.cell d0 (show ¬ gg = r by omega)
        obtain ⟨pb, pbn, pbc, rfl⟩ : ∃ a n c, vb7 = .slice a n c := by obtain ⟨a, c, h, _⟩ := q1; exact ⟨a, _, c, h⟩
        obtain ⟨pl, pln, plc, rfl⟩ : ∃ a n c, vl7 = .slice a n c := by obtain ⟨a, c, h, _⟩ := q2; exact ⟨a, _, c, h⟩
        have hz7 := q4.size
        have hlit := laid_vals w7 [(.slice pb pbn pbc, .slice pl pln plc)] [y] (cs := #[.int .i64 y.kind, .int .u64 (y.u : Int), .int .i64 y.n, .slice pb pbn pbc, .slice pl pln plc]) rfl
        have hbL : Below w7.heap.size w7 (w7.alloc (.cells #[.int .i64 y.kind, .int .u64 (y.u : Int), .int .i64 y.n, .slice pb pbn pbc, .slice pl pln plc] 28)) := (Below.refl _ w7).alloc (Nat.le_refl _) _
        have hzL : (w7.alloc (.cells #[.int .i64 y.kind, .int .u64 (y.u : Int), .int .i64 y.n, .slice pb pbn pbc, .slice pl pln plc] 28)).heap.size = w7.heap.size + 1 := by simp
        have HLIT := Lib.hid hlit
        have HGG7 := Lib.hid (gv_keeps (gv_keeps HGG.out q4 (fun j h1 h2 => by omega)) (Keeps.of_below hbL) (fun j _ h1 h2 => by omega))
        have HG7 := Lib.hid (gv_keeps (gv_keeps HG.out q4 (fun j h1 h2 => by omega)) (Keeps.of_below hbL) (fun j _ h1 h2 => by omega))
        have HR7 := Lib.hid (rx_below q3 (by omega) hbL)
        have HK7 : Hid (Keeps (fun j => j = r ∨ w4.heap.size ≤ j) w4 (w7.alloc (.cells #[.int .i64 y.kind, .int .u64 (y.u : Int), .int .i64 y.n, .slice pb pbn pbc, .slice pl pln plc] 28))) := Lib.hid ((HK.out.trans (q4.mono fun j _ h => .inl h)).trans (Keeps.of_below_size hbL))
        have HPT := Lib.hid (part_of (lo := w4.heap.size) (hi := w7.heap.size) (o := Value.ownBlock (.slice a gs.length cp)) (y := y) (row_keeps q1 hbL) (row_keeps q2 hbL) (fun j hj => by
          have h1 := q5 j hj
          refine ⟨by omega, by omega, fun e => ?_⟩
          have h2 := (gv_own HGG.out j e).2
          omega))
        have hgl' : gs.length ≤ 10 := by have := HGL.out; omega
        clear q1 q2 q3 q4 q5 hlit hbL HGG HG HK RA d0
        go_wp2_with (at_builtin; go_must (refine wpList_append_gv rfl _ _ rfl w4.heap.size hi w7.heap.size _ gs rfl HGG7.out w7.heap.size 1 1 rfl [(.slice pb pbn pbc, .slice pl pln plc)] [y] rfl rfl HLIT.out (by simp [flatV, cellsV, Value.oneCell']) (fun j hp hx => by have : j = 0 := (by simpa using hp); subst this; exact HPT.out) (by omega) (by omega) (by omega) (by omega) ?_); intro b2 n2x c2x w8 hn2 hg2x hgrow; have HGG8' := Lib.hid hg2x; have hkg : Keeps (fun j => w4.heap.size ≤ j) (w7.alloc (.cells #[.int .i64 y.kind, .int .u64 (y.u : Int), .int .i64 y.n, .slice pb pbn pbc, .slice pl pln plc] 28)) w8 := Keeps.of_grown hgrow (fun j hj => (gv_own HGG7.out j hj).1); have HR8 := Lib.hid (rx_keeps HR7.out hkg (by omega) (by omega)); have HG8 := Lib.hid (gv_keeps HG7.out hkg (fun j h1 h2 => by omega)); have HK8 := Lib.hid (HK7.out.trans (hkg.mono fun j _ h => .inr h)); have HN2 := Lib.hid hn2; clear hg2x hgrow hkg HGG7 HG7 HR7 HK7 HLIT HPT hn2)
        have hn2 := HN2.out
        have HGG8 : Hid (Gv w4.heap.size w8.heap.size w8 (.slice b2 (gs ++ [y]).length c2x) (gs ++ [y])) := by rw [hn2] at HGG8'; exact HGG8'
        clear HGG8' d7
        go_roundw
        case rel => exact ⟨k + 1, gs ++ [y], b2, c2x, w8.heap.size, s2, by omega, by go_num, by rw [hn2], Lib.hid (by rw [List.length_append, HGL.out]; rfl), HS2, HR8, HGG8, HG8, HK8⟩
        case measure => simp [intOf]; omega
      · obtain rfl : k = xs.length := by omega
        have HTW := Lib.hid (row_foot HT4.out HK.out (fun j hj h => by have := HTS.out j hj; omega))
        have hbE := below_foot hb4 HK.out (by omega) (fun j hj => by omega)
        clear HG HK HT4
        go_wp2_with fail
        refine (devRdEnd_any r b s wr HR.out).mono ?_
        rintro e w5 ⟨rfl, rfl⟩
        rcases Classical.em (rEnd s = 0) with hE | hE
        rw [hE]
        have HEN := Lib.hid (sofar_end HS.out hE)
        go_wp2_with fail
        refine (encodeL_any _ _ _ gs wr HGG.out HS.out.ok (by have := HGL.out; omega)).mono ?_
        rintro e w5 ⟨v5, rfl, hf5, hbw⟩
        rw [HEN.out, HTL.out.2.2] at hf5
        have hF5 := Elems.of_fresh hf5
        have hT5 := Elems.of_row (row_keeps HTW.out hbw)
        have hb5 := below_foot hbE (Keeps.of_below hbw) (by omega) (fun j hj => by omega)
        have hs5 := hbw.size
        have HF5 := Lib.hid hF5
        have HT5 := Lib.hid hT5
        clear hf5 hF5 hT5 hbw hbE HTW
        go_wp2_with fail
        refine (sameBytes_any v5 _ zt zt w5 HF5.out (by have h := HT5.out; exact h) (by have := HZT.out.1; omega) (by have := HZT.out.1; omega)).mono ?_
        rintro e w6 ⟨rfl, hb⟩
        rw [decide_eq_true (rfl : zt = zt)]
        have hb6 := below_foot hb5 (Keeps.of_below hb) (by omega) (fun j hj => by omega)
        have hs6 : wr.heap.size ≤ w6.heap.size := Nat.le_trans hs5 hb.size
        clear hb hb5 HF5 HT5 hs5 HEN hE
        go_wp2_with fail
        rotate_left
        have hE1 : (((rEnd s : Nat) : Int) == 0) = false := by rw [beq_eq_false_iff_ne]; omega
        generalize rEnd s = E at *
        go_wp2_with fail
        obtain ⟨w6, hw6⟩ : ∃ x, x = wr := ⟨_, rfl⟩
        have hb6 : Below w.heap.size w w6 := by rw [hw6]; exact hbE
        have hs6 : wr.heap.size ≤ w6.heap.size := by rw [hw6]; exact Nat.le_refl _
        rw [← hw6]
        clear hw6 hbE HTW hE hE1
        all_goals
          clear HS HR HGG HGL HTS HTL HZT
          refine (refFew_any vr raw 60 w6 (row_keeps HVR.out hb6) (by decide)).mono ?_
          rintro e wA ⟨v4, rfl, hf4, hbw⟩
          rw [HRS.out] at hf4
          have hbA := below_foot hb6 (Keeps.of_below hbw) (by omega) (fun j hj => by omega)
          have hsA := hbw.size
          obtain ⟨a4, c4, rfl, _, _⟩ := fresh_elems hf4
          have HFN := Lib.hid (natI_toNats HRR.out)
          have HF8 := Lib.hid (toNats_mem HRR.out)
          have HFL : Hid ((toNats rs).length ≤ 60) := Lib.hid (by rw [toNats_length]; exact hrl)
          have HFS := Lib.hid (fresh_span hf4)
          have HF4 := Lib.hid (row_of_fresh hf4)
          clear hbw hf4 hb6
          go_wp2_with fail
          refine (devRead_any (.slice a4 rs.length c4) (toNats rs) wA (by rw [HFN.out]; exact HF4.out) HF8.out (by have := HFL.out; omega)).mono ?_
          rintro e wB ⟨rr, bb, rfl, hrB5, hrrB, hbbB, hbbl, hbw⟩
          have hbB := below_foot hbA (Keeps.of_below hbw) (by omega) (fun j hj => by omega)
          have HR5 := Lib.hid (rx_of hrB5)
          have HFR := Lib.hid (row_keeps HF4.out hbw)
          have hsB := hbw.size
          have hrrl := hrB5.lts
          have HSF := Lib.hid (sofar_start HF8.out (by have := HFL.out; omega))
          clear hrB5 hbw hbA HF4
          go_wp2_with fail
          go_loopw [14, 17] (fun gv iv wr => ∃ (k : Nat) (gs : List VV) (a : Option Addr) (cp hi : Nat) (s : RS), k ≤ 10 ∧ k ≤ kinds.length ∧ iv = .int .i64 (k : Int) ∧ gv = .slice a gs.length cp ∧ Hid (gs.length = k) ∧ Hid (SoFar (toNats rs) gs s) ∧ Hid (Rx wr rr bb s) ∧ Hid (Gv wB.heap.size hi wr (.slice a gs.length cp) gs) ∧ Hid (Keeps (fun j => j = rr ∨ wB.heap.size ≤ j) wB wr)) (fun _ iv _ => 10 - (intOf iv).toNat)
          case atStart => exact ⟨0, [], none, 0, wB.heap.size, (toNats rs, 0), by decide, Nat.zero_le _, rfl, rfl, Lib.hid rfl, HSF, HR5, Lib.hid (gv_nil _ _ (Nat.le_refl _)), Lib.hid (Keeps.refl _ _)⟩
          case round =>
            obtain ⟨k, gs, a, cp, hi, s, hk10, hkl, rfl, rfl, HGL, HS, HR, HGG, HK⟩ := hrel
            clear HSF HR5
            have hzr := HK.out.size
            have hhi : hi ≤ wr.heap.size := by obtain ⟨_, _, _, h, _⟩ := HGG.out; exact h
            have hbX := below_foot hbB HK.out (by omega) (fun j hj => by omega)
            by_cases hk1 : k < kinds.length
            · by_cases hk2 : k < 10
              · obtain ⟨bk, off, rfl, hck⟩ := HKN.out (fun h => by rw [h] at hk1; simp at hk1)
                have hck := hck k hk1
                have hgk : kinds[k]?.getD 0 = kinds[k] := by simp [hk1]
                rw [hgk] at hck
                have hck := (hbX.cell (p := ⟨bk, off + k, none⟩) (World.block_lt_of_cell? _ _ hck)).trans hck
                have HKK := Lib.hid (HKR.out kinds[k] (List.getElem_mem hk1))
                clear hgk
                generalize kinds[k] = kk at *
                go_wp2_with fail
                refine (devRdEnd_any rr bb s wr HR.out).mono ?_
                rintro e w5 ⟨rfl, rfl⟩
                by_cases hE0 : rEnd s = 0
                · rw [hE0]
                  clear hE0
                  go_wp2_with fail
                  refine (devRdEnd_any rr bb s wr HR.out).mono ?_
                  rintro e w5 ⟨rfl, rfl⟩
                  rcases Classical.em (rEnd s = 0) with hE | hE
                  · rw [hE]
                    have HEN := Lib.hid (sofar_end HS.out hE)
                    clear hE
                    go_wp2_with fail
                    refine (encodeL_any _ _ _ gs wr HGG.out HS.out.ok (by have := HGL.out; omega)).mono ?_
                    rintro e w7 ⟨v7, rfl, hf7, hbw⟩
                    rw [HEN.out, HFN.out] at hf7
                    have HF7 := Lib.hid (Elems.of_fresh hf7)
                    have HT7 := Lib.hid (Elems.of_row (row_keeps (row_foot HFR.out HK.out (fun j hj h => by have := HFS.out j hj; omega)) hbw))
                    have hb7 := below_foot hbX (Keeps.of_below hbw) (by omega) (fun j hj => by omega)
                    have hs7 := hbw.size
                    clear hf7 hbw HGG HR HS HK
                    go_wp2_with fail
                    refine (sameBytes_any v7 _ rs rs w7 HF7.out HT7.out (by omega) (by omega)).mono ?_
                    rintro e w8 ⟨rfl, hb⟩
                    rw [decide_eq_true (rfl : rs = rs)]
                    have hb8 := below_foot hb7 (Keeps.of_below hb) (by omega) (fun j hj => by omega)
                    clear hb hb7 HF7 HT7
                    go_wp2_with fail
                    refine (L.out w8).mono ?_
                    rintro e w9 ⟨rfl, hb⟩
                    have hb9 := below_then hb8 hb
                    go_wp2_with fail
                    go_ret
                    exact ⟨rfl, hb9⟩
                  · have hE1 : (((rEnd s : Nat) : Int) == 0) = false := by rw [beq_eq_false_iff_ne]; omega
                    have hE2 : (((rEnd s : Nat) : Int) != 0) = true := by rw [bne, hE1]; rfl
                    clear hE
                    generalize rEnd s = E at *
                    go_wp2_with fail
                    refine (L.out wr).mono ?_
                    rintro e w9 ⟨rfl, hb⟩
                    have hb9 := below_then hbX hb
                    go_wp2_with fail
                    go_ret
                    exact ⟨rfl, hb9⟩
                · have hE1 : (((rEnd s : Nat) : Int) == 0) = false := by rw [beq_eq_false_iff_ne]; omega
                  have hE2 : (((rEnd s : Nat) : Int) != 0) = true := by rw [bne, hE1]; rfl
                  clear hE0
                  generalize rEnd s = E2 at *
                  go_wp2_with fail
                  refine (around_any kk 6 wr HKK.out (by decide) (by decide)).mono ?_
                  rintro e w5 ⟨rfl, rfl⟩
                  rw [show ((6 : Nat) : Int) = 6 from rfl]
                  have RA := Lib.hid (read_any rr bb (aroundI kk 6) s wr HR.out HS.out.b8 (by have := HS.out.len; omega) (by omega))
                  have HS2 := Lib.hid (sofar_step HS.out (aroundI kk 6))
                  unfold GotEnd at RA
                  generalize aroundI kk 6 = kd at *
                  generalize (rRead kd s).1 = y at *
                  generalize (rRead kd s).2 = s2 at *
                  clear HS HR
                  go_wp2_with fail
                  refine RA.out.mono ?_
                  rintro e w7 ⟨vb7, vl7, rfl, q1, q2, q3, q4, q5⟩
                  obtain ⟨pb, pbn, pbc, rfl⟩ : ∃ a n c, vb7 = .slice a n c := by obtain ⟨a, c, h, _⟩ := q1; exact ⟨a, _, c, h⟩
                  obtain ⟨pl, pln, plc, rfl⟩ : ∃ a n c, vl7 = .slice a n c := by obtain ⟨a, c, h, _⟩ := q2; exact ⟨a, _, c, h⟩
                  have hz7 := q4.size
                  have hlit := laid_vals w7 [(.slice pb pbn pbc, .slice pl pln plc)] [y] (cs := #[.int .i64 y.kind, .int .u64 (y.u : Int), .int .i64 y.n, .slice pb pbn pbc, .slice pl pln plc]) rfl
                  have hbL : Below w7.heap.size w7 (w7.alloc (.cells #[.int .i64 y.kind, .int .u64 (y.u : Int), .int .i64 y.n, .slice pb pbn pbc, .slice pl pln plc] 28)) := (Below.refl _ w7).alloc (Nat.le_refl _) _
                  have hzL : (w7.alloc (.cells #[.int .i64 y.kind, .int .u64 (y.u : Int), .int .i64 y.n, .slice pb pbn pbc, .slice pl pln plc] 28)).heap.size = w7.heap.size + 1 := by simp
                  have HLIT := Lib.hid hlit
                  have HGG7 := Lib.hid (gv_keeps (gv_keeps HGG.out q4 (fun j h1 h2 => by omega)) (Keeps.of_below hbL) (fun j _ h1 h2 => by omega))
                  have HR7 := Lib.hid (rx_below q3 (by omega) hbL)
                  have HK7 : Hid (Keeps (fun j => j = rr ∨ wB.heap.size ≤ j) wB (w7.alloc (.cells #[.int .i64 y.kind, .int .u64 (y.u : Int), .int .i64 y.n, .slice pb pbn pbc, .slice pl pln plc] 28))) := Lib.hid ((HK.out.trans (q4.mono fun j _ h => .inl h)).trans (Keeps.of_below_size hbL))
                  have HPT := Lib.hid (part_of (lo := wB.heap.size) (hi := w7.heap.size) (o := Value.ownBlock (.slice a gs.length cp)) (y := y) (row_keeps q1 hbL) (row_keeps q2 hbL) (fun j hj => by
                    have h1 := q5 j hj
                    refine ⟨by omega, by omega, fun e => ?_⟩
                    have h2 := (gv_own HGG.out j e).2
                    omega))
                  have hgl' : gs.length ≤ 10 := by have := HGL.out; omega
                  clear q1 q2 q3 q4 q5 hlit hbL HGG HK RA
                  go_wp2_with (at_builtin; go_must (refine wpList_append_gv rfl _ _ rfl wB.heap.size hi w7.heap.size _ gs rfl HGG7.out w7.heap.size 1 1 rfl [(.slice pb pbn pbc, .slice pl pln plc)] [y] rfl rfl HLIT.out (by simp [flatV, cellsV, Value.oneCell']) (fun j hp hx => by have : j = 0 := (by simpa using hp); subst this; exact HPT.out) (by omega) (by omega) (by omega) (by omega) ?_); intro b2 n2x c2x w8 hn2 hg2x hgrow; have HGG8' := Lib.hid hg2x; have hkg : Keeps (fun j => wB.heap.size ≤ j) (w7.alloc (.cells #[.int .i64 y.kind, .int .u64 (y.u : Int), .int .i64 y.n, .slice pb pbn pbc, .slice pl pln plc] 28)) w8 := Keeps.of_grown hgrow (fun j hj => (gv_own HGG7.out j hj).1); have HR8 := Lib.hid (rx_keeps HR7.out hkg (by omega) (by omega)); have HK8 := Lib.hid (HK7.out.trans (hkg.mono fun j _ h => .inr h)); have HN2 := Lib.hid hn2; clear hg2x hgrow hkg HGG7 HR7 HK7 HLIT HPT hn2)
                  have hn2 := HN2.out
                  have HGG8 : Hid (Gv wB.heap.size w8.heap.size w8 (.slice b2 (gs ++ [y]).length c2x) (gs ++ [y])) := by rw [hn2] at HGG8'; exact HGG8'
                  clear HGG8'
                  go_roundw
                  case rel => exact ⟨k + 1, gs ++ [y], b2, c2x, w8.heap.size, s2, by omega, by omega, by go_num, by rw [hn2], Lib.hid (by rw [List.length_append, HGL.out]; rfl), HS2, HR8, HGG8, HK8⟩
                  case measure => simp [intOf]; omega
              · obtain rfl : k = 10 := by omega
                go_wp2_with fail
                refine (devRdEnd_any rr bb s wr HR.out).mono ?_
                rintro e w5 ⟨rfl, rfl⟩
                rcases Classical.em (rEnd s = 0) with hE | hE
                · rw [hE]
                  have HEN := Lib.hid (sofar_end HS.out hE)
                  clear hE
                  go_wp2_with fail
                  refine (encodeL_any _ _ _ gs wr HGG.out HS.out.ok (by have := HGL.out; omega)).mono ?_
                  rintro e w7 ⟨v7, rfl, hf7, hbw⟩
                  rw [HEN.out, HFN.out] at hf7
                  have HF7 := Lib.hid (Elems.of_fresh hf7)
                  have HT7 := Lib.hid (Elems.of_row (row_keeps (row_foot HFR.out HK.out (fun j hj h => by have := HFS.out j hj; omega)) hbw))
                  have hb7 := below_foot hbX (Keeps.of_below hbw) (by omega) (fun j hj => by omega)
                  have hs7 := hbw.size
                  clear hf7 hbw HGG HR HS HK
                  go_wp2_with fail
                  refine (sameBytes_any v7 _ rs rs w7 HF7.out HT7.out (by omega) (by omega)).mono ?_
                  rintro e w8 ⟨rfl, hb⟩
                  rw [decide_eq_true (rfl : rs = rs)]
                  have hb8 := below_foot hb7 (Keeps.of_below hb) (by omega) (fun j hj => by omega)
                  clear hb hb7 HF7 HT7
                  go_wp2_with fail
                  refine (L.out w8).mono ?_
                  rintro e w9 ⟨rfl, hb⟩
                  have hb9 := below_then hb8 hb
                  go_wp2_with fail
                  go_ret
                  exact ⟨rfl, hb9⟩
                · have hE1 : (((rEnd s : Nat) : Int) == 0) = false := by rw [beq_eq_false_iff_ne]; omega
                  have hE2 : (((rEnd s : Nat) : Int) != 0) = true := by rw [bne, hE1]; rfl
                  clear hE
                  generalize rEnd s = E at *
                  go_wp2_with fail
                  refine (L.out wr).mono ?_
                  rintro e w9 ⟨rfl, hb⟩
                  have hb9 := below_then hbX hb
                  go_wp2_with fail
                  go_ret
                  exact ⟨rfl, hb9⟩
            · obtain rfl : k = kinds.length := by omega
              go_wp2_with fail
              refine (devRdEnd_any rr bb s wr HR.out).mono ?_
              rintro e w5 ⟨rfl, rfl⟩
              rcases Classical.em (rEnd s = 0) with hE | hE
              · rw [hE]
                have HEN := Lib.hid (sofar_end HS.out hE)
                clear hE
                go_wp2_with fail
                refine (encodeL_any _ _ _ gs wr HGG.out HS.out.ok (by have := HGL.out; omega)).mono ?_
                rintro e w7 ⟨v7, rfl, hf7, hbw⟩
                rw [HEN.out, HFN.out] at hf7
                have HF7 := Lib.hid (Elems.of_fresh hf7)
                have HT7 := Lib.hid (Elems.of_row (row_keeps (row_foot HFR.out HK.out (fun j hj h => by have := HFS.out j hj; omega)) hbw))
                have hb7 := below_foot hbX (Keeps.of_below hbw) (by omega) (fun j hj => by omega)
                have hs7 := hbw.size
                clear hf7 hbw HGG HR HS HK
                go_wp2_with fail
                refine (sameBytes_any v7 _ rs rs w7 HF7.out HT7.out (by omega) (by omega)).mono ?_
                rintro e w8 ⟨rfl, hb⟩
                rw [decide_eq_true (rfl : rs = rs)]
                have hb8 := below_foot hb7 (Keeps.of_below hb) (by omega) (fun j hj => by omega)
                clear hb hb7 HF7 HT7
                go_wp2_with fail
                refine (L.out w8).mono ?_
                rintro e w9 ⟨rfl, hb⟩
                have hb9 := below_then hb8 hb
                go_wp2_with fail
                go_ret
                exact ⟨rfl, hb9⟩
              · have hE1 : (((rEnd s : Nat) : Int) == 0) = false := by rw [beq_eq_false_iff_ne]; omega
                have hE2 : (((rEnd s : Nat) : Int) != 0) = true := by rw [bne, hE1]; rfl
                clear hE
                generalize rEnd s = E at *
                go_wp2_with fail
                refine (L.out wr).mono ?_
                rintro e w9 ⟨rfl, hb⟩
                have hb9 := below_then hbX hb
                go_wp2_with fail
                go_ret
                exact ⟨rfl, hb9⟩
end Go.Proofs.Ytghilgkkpbhoiaa
