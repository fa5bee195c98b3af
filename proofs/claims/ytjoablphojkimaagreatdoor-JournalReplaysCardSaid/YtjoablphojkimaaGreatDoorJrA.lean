/-
  Package journal: the frame of a record. Package journal: reading a frame; comparing bytes with a prefix. Package journal, plain: the records of bytes.
-/
import Derived.Test.YtjoablphojkimaaGreatDoorDvB
import Derived.Test.YtjoablphojkimaaGreatDoorFtT
namespace Go.Proofs.YtjoablphojkimaaGreatDoor
open Go.RowKit Go.Shelf
set_option linter.unusedVariables false
set_option maxRecDepth 100000

theorem readVar_end2 (l : List Nat) : ∀ i n r, readVar i l = .val n r → r <:+ l := by
  induction l with
  | nil => intro i n r h; cases h
  | cons c l ih =>
    intro i n r h
    by_cases hb : badByte i c
    · rw [readVar_bad l hb] at h; cases h
    · by_cases h128 : c < 128
      · rw [readVar_last l hb h128] at h; cases h; exact List.suffix_cons _ _
      · rw [readVar_more l hb h128] at h
        cases hr : readVar (i + 1) l with
        | err e => rw [hr] at h; cases h
        | val m r' =>
          rw [hr] at h
          injection h with _ h2
          subst h2
          exact (ih _ _ _ hr).trans (List.suffix_cons _ _)
theorem rUint_suf (s : RS) : (rUint s).2.1 <:+ s.1 := by
  unfold rUint
  split
  · cases h : readVar 0 s.1 with
    | err e => exact List.suffix_refl _
    | val n r => exact readVar_end2 _ _ _ _ h
  · exact List.suffix_refl _
theorem rInt_suf (s : RS) : (rInt s).2.1 <:+ s.1 := rUint_suf s
theorem rLen_suf (s : RS) : (rLen s).2.1 <:+ s.1 := by
  unfold rLen
  split
  · exact rUint_suf s
  · split
    · exact rUint_suf s
    · exact rUint_suf s
theorem rRaw_suf (s : RS) : (rRaw s).2.1 <:+ s.1 := by
  unfold rRaw
  split
  · exact rLen_suf s
  · exact (List.drop_suffix _ _).trans (rLen_suf s)
theorem rRaw_lt {s : RS} (h : ∀ c ∈ s.1, c < 256) : ∀ c ∈ (rRaw s).1, c < 256 := by
  intro c hc
  unfold rRaw at hc
  split at hc
  · simp at hc
  · exact h c ((rLen_suf s).subset (List.mem_of_mem_take hc))
theorem rRaw_len (s : RS) : (rRaw s).1.length ≤ s.1.length := by
  unfold rRaw
  split
  · exact Nat.zero_le _
  · refine Nat.le_trans ?_ (rLen_suf s).length_le
    show ((rLen s).2.1.take _).length ≤ _
    rw [List.length_take]
    omega

def frameL : List Nat := strN { data := #[102, 114, 97, 109, 101] }
def coreN (n : Int) (b : List Nat) : List Nat := varN (zigN n) ++ (varN b.length ++ b)
noncomputable def frameN (n : Int) (b : List Nat) : List Nat := (varN (coreN n b).length ++ coreN n b) ++ varN (bytesN frameL (coreN n b))

theorem coreN_lt {n : Int} {b : List Nat} (h : ∀ c ∈ b, c < 256) : ∀ c ∈ coreN n b, c < 256 := by
  intro c hc
  unfold coreN at hc
  rcases List.mem_append.1 hc with h1 | h1
  · exact varN_lt _ c h1
  · rcases List.mem_append.1 h1 with h2 | h2
    · exact varN_lt _ c h2
    · exact h c h2
theorem coreN_len {n : Int} (hn : -9223372036854775808 ≤ n ∧ n ≤ 9223372036854775807) {b : List Nat} (hb : b.length ≤ 1000000) : (coreN n b).length ≤ b.length + 20 := by
  unfold coreN
  have h1 := varN_len10 (zigN_lt hn)
  have h2 := varN_len10 (n := b.length) (by omega)
  rw [List.length_append, List.length_append]
  omega
theorem bytesN_lt (s l : List Nat) : bytesN s l < 18446744073709551616 := by
  unfold bytesN sumN; exact mixN_lt _ _
theorem frameN_lt {n : Int} {b : List Nat} (h : ∀ c ∈ b, c < 256) : ∀ c ∈ frameN n b, c < 256 := by
  intro c hc
  unfold frameN at hc
  rcases List.mem_append.1 hc with h1 | h1
  · rcases List.mem_append.1 h1 with h2 | h2
    · exact varN_lt _ c h2
    · exact coreN_lt h c h2
  · exact varN_lt _ c h1
theorem frameN_len {n : Int} (hn : -9223372036854775808 ≤ n ∧ n ≤ 9223372036854775807) {b : List Nat} (hb : b.length ≤ 1000000) : (frameN n b).length ≤ b.length + 40 := by
  unfold frameN
  have h0 := coreN_len hn hb
  have h1 := varN_len10 (n := (coreN n b).length) (by omega)
  have h2 := varN_len10 (bytesN_lt frameL (coreN n b))
  rw [List.length_append, List.length_append]
  omega
theorem frameN_pos (n : Int) (b : List Nat) : 1 ≤ (frameN n b).length := by
  unfold frameN
  have := varN_pos (coreN n b).length
  rw [List.length_append, List.length_append]
  omega

set_option maxRecDepth 100000 in
set_option maxHeartbeats 4000000 in
theorem devFrame_any (n : Int) (v : Value) (ys : List Nat) (w : World) (hn : -9223372036854775808 ≤ n ∧ n ≤ 9223372036854775807) (hv : Row .u8 w v (natI ys)) (h8 : ∀ c ∈ ys, c < 256) (hb : ∀ j, blockOf v j → j < w.heap.size) (hlen : ys.length ≤ 1000000) :
    Calls Tryz.prog 65 #[.int .i64 n, v] w (Copies 5 .u8 (natI (frameN n ys)) w) := by
  have HV := Lib.hid hv
  have HB := Lib.hid hb
  have HC8 := Lib.hid (natI_range (coreN_lt (n := n) h8))
  have HCL := Lib.hid (coreN_len hn hlen)
  have HZ := Lib.hid (varN_len10 (zigN_lt hn))
  have HN := Lib.hid hn
  have HL := Lib.hid hlen
  have HH := Lib.hid (bytesN_lt frameL (coreN n ys))
  have HH10 := Lib.hid (varN_len10 (bytesN_lt frameL (coreN n ys)))
  have HC10 := Lib.hid (varN_len10 (n := (coreN n ys).length) (by have := HCL.out; omega))
  obtain ⟨va, vcap, rfl, _, _, _, _⟩ := hv
  rw [natI_length] at *
  clear hb h8 hn hlen
  go_enter Tryz.func65, Tryz.ntmps65
  go_wp2_with fail
  have hW1 : Wr ((w.alloc (.cells #[.slice none 0 0] 35)).alloc (.cells #[.slice none 0 0] 35)) w.heap.size w.heap.size [] := wr_below (wr_new w) ((Below.refl _ _).alloc (Nat.le_refl _) _)
  have hW2 : Wr ((w.alloc (.cells #[.slice none 0 0] 35)).alloc (.cells #[.slice none 0 0] 35)) (w.heap.size + 1) (w.heap.size + 1) [] := by
    have := wr_new (w.alloc (.cells #[.slice none 0 0] 35)); rwa [World.size_alloc] at this
  have hb0 : Below w.heap.size w ((w.alloc (.cells #[.slice none 0 0] 35)).alloc (.cells #[.slice none 0 0] 35)) := ((Below.refl _ w).alloc (Nat.le_refl _) _).alloc (by simp) _
  have hs0 : ((w.alloc (.cells #[.slice none 0 0] 35)).alloc (.cells #[.slice none 0 0] 35)).heap.size = w.heap.size + 2 := by simp
  generalize (w.alloc (.cells #[.slice none 0 0] 35)).alloc (.cells #[.slice none 0 0] 35) = w0 at *
  have HX := Lib.hid hW2
  refine (devInt_any _ _ [] n w0 hW1 HN.out (by simp)).mono ?_
  clear hW1 hW2
  rintro e w1 ⟨rfl, g1, hw1, hg1, hk1⟩
  rw [List.nil_append] at hw1
  have hb1 := below_foot hb0 hk1 (by omega) (fun k hk => by omega)
  have hs1 := hk1.size
  have HX1 := Lib.hid (wr_keeps HX.out hk1 (by omega) (by omega))
  have HW1 := Lib.hid hw1
  have hl1 := hw1.lts
  clear hb0 hk1 hw1 HX
  go_wp2_with fail
  refine (devRaw_any _ _ _ _ ys w1 HW1.out (row_below HV.out HB.out hb1) (fun j hj => by have := HB.out j hj; omega) (by have := HZ.out; have := HL.out; omega)).mono ?_
  rintro e w2 ⟨rfl, g2, hw2, hg2, hk2⟩
  have hb2 := below_foot hb1 hk2 (by omega) (fun k hk => by omega)
  have hs2 := hk2.size
  have HX2 := Lib.hid (wr_keeps HX1.out hk2 (by omega) (by omega))
  have HW2 : Hid (Wr w2 w.heap.size g2 (coreN n ys)) := Lib.hid hw2
  have hl2 := hw2.lts
  clear hb1 hk2 hw2 HX1 HW1 HV HB HZ HN
  generalize hC : coreN n ys = C at *
  have HF : Hid (frameN n ys = (varN C.length ++ C) ++ varN (bytesN frameL C)) := Lib.hid (by unfold frameN; rw [hC])
  clear hC
  go_wp2_with fail
  refine (devDone_any _ _ _ w2 HW2.out (by have := HCL.out; have := HL.out; omega)).mono ?_
  rintro e w3 ⟨p, rfl, hp, hb⟩
  have hb3 := below_foot hb2 (Keeps.of_below hb) (by omega) (fun k hk => by omega)
  have HX3 := Lib.hid (wr_below HX2.out hb)
  have HW3 := Lib.hid (wr_below HW2.out hb)
  have HP := Lib.hid hp
  have hs3 := hb.size
  have hx2 := HX2.out.lts
  obtain ⟨pa, pc, rfl, _, _⟩ := fresh_elems hp
  rw [natI_length] at *
  clear hb2 hb hp HW2 HX2
  go_wp2_with fail
  refine (devRaw_any _ _ _ _ C w3 HX3.out (row_of_fresh HP.out) (fun j hj => by rcases fresh_form HP.out with ⟨h1, _⟩ | ⟨g, c, h1, h2, h3, _⟩; (rw [h1] at hj; exact hj.elim); (rw [h1] at hj; have : j = g := hj; omega)) (by have := HCL.out; have := HL.out; simp; omega)).mono ?_
  rintro e w4 ⟨rfl, g4, hx4, hg4, hk4⟩
  rw [List.nil_append] at hx4
  have hb4 := below_foot hb3 hk4 (by omega) (fun k hk => by omega)
  have hs4 := hk4.size
  have hl3 := HW3.out.lts
  have hl4 := hx4.lts
  have HX4 := Lib.hid hx4
  have HW4 := Lib.hid (wr_keeps HW3.out hk4 (by omega) (by omega))
  clear hb3 hk4 hx4 HW3 HX3 HP
  go_wp2_with fail
  refine (devDone_any _ _ _ w4 HW4.out (by have := HCL.out; have := HL.out; omega)).mono ?_
  rintro e w5 ⟨q, rfl, hq, hb⟩
  have hb5 := below_foot hb4 (Keeps.of_below hb) (by omega) (fun k hk => by omega)
  have HX5 := Lib.hid (wr_below HX4.out hb)
  have HQ := Lib.hid hq
  have hs5 := hb.size
  obtain ⟨qa, qc, rfl, _, _⟩ := fresh_elems hq
  rw [natI_length] at *
  clear hb4 hb hq HW4 HX4
  go_wp2_with fail
  have hby := Bytes.of_fresh HQ.out (by rw [natI_length]; have := HCL.out; have := HL.out; omega) HC8.out
  rw [toNats_natI] at hby
  refine (bytes_any _ _ C w5 (by decide) hby (fresh_block HQ.out) (by have := HCL.out; have := HL.out; omega)).mono ?_
  clear hby
  rintro e w6 ⟨rfl, hb⟩
  have hb6 := below_foot hb5 (Keeps.of_below hb) (by omega) (fun k hk => by omega)
  have HX6 := Lib.hid (wr_below HX5.out hb)
  have hs6 := hb.size
  have HE : Hid (bytesN (strN { data := #[102, 114, 97, 109, 101] }) C = bytesN frameL C) := Lib.hid rfl
  rw [HE.out]
  generalize bytesN frameL C = h at *
  clear hb5 hb HX5 HQ HE
  go_wp2_with fail
  refine (devUint_any _ _ _ h w6 HX6.out HH.out (by have := HCL.out; have := HL.out; have := HC10.out; rw [List.length_append]; omega)).mono ?_
  rintro e w7 ⟨rfl, g7, hx7, hg7, hk7⟩
  have hb7 := below_foot hb6 hk7 (by omega) (fun k hk => by omega)
  have hs7 := hk7.size
  have HX7 := Lib.hid hx7
  clear hb6 hk7 hx7 HX6
  go_wp2_with fail
  refine (devDone_any _ _ _ w7 HX7.out (by have := HCL.out; have := HL.out; have := HC10.out; have := HH10.out; rw [List.length_append, List.length_append]; omega)).mono ?_
  rintro e w8 ⟨z, rfl, hz, hb⟩
  have hb8 := below_foot hb7 (Keeps.of_below hb) (by omega) (fun k hk => by omega)
  have HZ := Lib.hid hz
  clear hb7 hb hz HX7
  go_wp2_with fail
  go_ret
  have hz2 := fresh_mono HZ.out (show w.heap.size ≤ w7.heap.size by omega)
  rw [← HF.out] at hz2
  exact ⟨z, rfl, hz2, hb8⟩

theorem keeps_new {A B : Foot} {a b c : World} (h : Keeps A a b) (k : Keeps B b c) (hB : ∀ i, B i → A i ∨ a.heap.size ≤ i) : Keeps A a c :=
  ⟨k.os.trans h.os, k.tape.trans h.tape, k.output.trans h.output, Nat.le_trans h.size k.size, fun i hi hn =>
    (k.same i (Nat.lt_of_lt_of_le hi h.size) (fun hb => by rcases hB i hb with h1 | h1; exact hn h1; omega)).trans (h.same i hi hn)⟩

/-- What reading a frame gives: the bytes of the record, and the reader behind it. -/
def coreR (s : RS) : RS := ((rRaw s).1, 0)
def nextN (s : RS) : List Nat × RS := ((rRaw (rInt (coreR s)).2).1, (rUint (rRaw s).2).2)

theorem coreR_eq (s : RS) : coreR s = ((rRaw s).1, 0) := by rw [coreR]
theorem coreR_fst (s : RS) : (coreR s).1 = (rRaw s).1 := by rw [coreR_eq]
theorem nextN_fst (s : RS) : (nextN s).1 = (rRaw (rInt (coreR s)).2).1 := by rw [nextN]
theorem nextN_snd (s : RS) : (nextN s).2 = (rUint (rRaw s).2).2 := by rw [nextN]
theorem coreR_lt {s : RS} (h : ∀ c ∈ s.1, c < 256) : ∀ c ∈ (coreR s).1, c < 256 := by
  rw [coreR_fst]
  exact rRaw_lt h
theorem nextN_lt {s : RS} (h : ∀ c ∈ s.1, c < 256) : ∀ c ∈ (nextN s).1, c < 256 := by
  rw [nextN_fst]
  exact rRaw_lt (fun c hc => coreR_lt h c ((rInt_suf (coreR s)).subset hc))
theorem nextN_len (s : RS) : (nextN s).1.length ≤ s.1.length := by
  rw [nextN_fst]
  have h1 := rRaw_len (rInt (coreR s)).2
  have h2 := (rInt_suf (coreR s)).length_le
  have h3 := rRaw_len s
  rw [coreR_fst] at h2
  omega
theorem nextN_suf (s : RS) : (nextN s).2.1 <:+ s.1 := by
  rw [nextN_snd]
  exact (rUint_suf _).trans (rRaw_suf s)

set_option maxRecDepth 100000 in
set_option maxHeartbeats 4000000 in
theorem nextRecord_any (r b : Nat) (s : RS) (w : World) (h : Rx w r b s) (hs : ∀ c ∈ s.1, c < 256) (hsh : s.1.length ≤ 1000000) (hb : b < w.heap.size) :
    Calls Tryz.prog 111 #[.pointer (some ⟨r, 0, none⟩)] w (ListEnd 5 .u8 r b (natI (nextN s).1) (nextN s).2 w) := by
  have HR := Lib.hid h
  have HS := Lib.hid hs
  have HSH := Lib.hid hsh
  have hr := h.lts
  clear h hs hsh
  go_enter Tryz.func111, Tryz.ntmps111
  go_wp2_with fail
  refine (devRdRaw_any r b s w HR.out HS.out hb).mono ?_
  rintro e w1 ⟨v1, rfl, hf1, hx1, hk1⟩
  have hs1 := hk1.size
  have HF1 := Lib.hid hf1
  have HX1 := Lib.hid hx1
  have HK1 := Lib.hid hk1
  obtain ⟨a1, c1, rfl, _, _⟩ := fresh_elems hf1
  rw [natI_length] at *
  clear hf1 hx1 hk1 HR
  have HS1 := Lib.hid (rRaw_lt HS.out)
  have HL1 := Lib.hid (Nat.le_trans (rRaw_len s) HSH.out)
  have HS2 : Hid (∀ c ∈ (rRaw s).2.1, c < 256) := Lib.hid fun c hc => HS.out c ((rRaw_suf s).subset hc)
  go_wp2_with fail
  refine (devRead_any _ (rRaw s).1 w1 (row_of_fresh HF1.out) HS1.out HL1.out).mono ?_
  rintro e w2 ⟨r2, b2, rfl, hw2, hr2, hb2, hb2s, hbl⟩
  have hs2 := hbl.size
  have HX2 := Lib.hid (rx_below HX1.out (by omega) hbl)
  rw [← coreR_eq] at hw2
  have HY2 := Lib.hid (rx_of hw2)
  have HK2 := Lib.hid (keeps_new HK1.out (Keeps.of_below hbl) (fun i hi => .inr (by omega)))
  clear hw2 hbl HX1 HK1 HF1
  go_wp2_with fail
  refine (devRdUint_any r b (rRaw s).2 w2 HX2.out).mono ?_
  rintro e w3 ⟨rfl, hx3, hk3⟩
  have hs3 := hk3.size
  have HX3 := Lib.hid hx3
  have HY3 := Lib.hid (rx_keeps HY2.out hk3 (by omega) (by omega))
  have HK3 := Lib.hid (keeps_new HK2.out hk3 (fun i hi => .inl hi))
  clear hx3 hk3 HX2 HY2 HK2
  go_wp2_with fail
  refine (devRdInt_any r2 b2 (coreR s) w3 HY3.out (coreR_lt HS.out)).mono ?_
  rintro e w4 ⟨rfl, hx4, hk4⟩
  have hs4 := hk4.size
  have HY4 := Lib.hid hx4
  have HX4 := Lib.hid (rx_keeps HX3.out hk4 (by omega) (by omega))
  have HK4 := Lib.hid (keeps_new HK3.out hk4 (fun i hi => .inr (by omega)))
  clear hx4 hk4 HX3 HY3 HK3
  have HS4 : Hid (∀ c ∈ (rInt (coreR s)).2.1, c < 256) := Lib.hid fun c hc => coreR_lt HS.out c ((rInt_suf (coreR s)).subset hc)
  go_wp2_with fail
  refine (devRdRaw_any r2 b2 (rInt (coreR s)).2 w4 HY4.out HS4.out (by omega)).mono ?_
  rintro e w5 ⟨v5, rfl, hf5, hx5, hk5⟩
  have HF5 := Lib.hid (fresh_mono hf5 (show w.heap.size ≤ w4.heap.size by omega))
  have HX5 := Lib.hid (rx_keeps HX4.out hk5 (by omega) (by omega))
  have HK5 := Lib.hid (keeps_new HK4.out hk5 (fun i hi => .inr (by omega)))
  clear hf5 hx5 hk5 HX4 HY4 HK4
  go_wp2_with fail
  go_ret
  have h1 := HF5.out
  have h2 := HX5.out
  rw [← nextN_fst] at h1
  rw [← nextN_snd] at h2
  exact ⟨v5, rfl, h1, h2, HK5.out⟩

theorem nums_beq {a b : List Nat} (ha : ∀ c ∈ a, c < 256) (hb : ∀ c ∈ b, c < 256) : ((strOfNums (natI a)).toList == (strOfNums (natI b)).toList) = decide (a = b) := by
  by_cases h : a = b
  · subst h; simp
  · have hne : ¬ (strOfNums (natI a)).toList = (strOfNums (natI b)).toList := fun e => h (by
      rw [ByteArray.toList_eq, ByteArray.toList_eq] at e
      rw [← strB_nums ha, ← strB_nums hb]
      unfold strB
      rw [e])
    rw [decide_eq_false h]
    exact beq_eq_false_iff_ne.2 hne

def BoolEnd (t : Bool) (w : World) (e : Ending) (w' : World) : Prop := e = .returned (.bool t) ∧ w' = w

set_option maxHeartbeats 1000000 in
theorem bytesEqual_any (u v : Value) (a b : List Nat) (w : World) (hu : Row .u8 w u (natI a)) (hv : Row .u8 w v (natI b)) (ha : ∀ c ∈ a, c < 256) (hb : ∀ c ∈ b, c < 256) :
    Calls Tryz.prog 125 #[u, v] w (BoolEnd (decide (a = b)) w) := by
  have hq1 := conv_string hu
  have hq2 := conv_string hv
  have HD := Lib.hid (nums_beq ha hb)
  clear hu hv ha hb
  go_enter Tryz.func125, Tryz.ntmps125
  go_wp2_with fail
  go_ret
  refine ⟨?_, rfl⟩
  rw [← HD.out]
  rfl

theorem take_prefix {a b : List Nat} (h : b.length ≤ a.length) : (a.take b.length = b) ↔ b <+: a :=
  ⟨fun e => ⟨a.drop b.length, by rw [← e]; simp [List.take_append_drop, Nat.min_eq_left h]⟩, fun ⟨t, e⟩ => by rw [← e]; simp⟩

/-- A slice up to a place. -/
theorem row_cut {W : World} {a : Option Addr} {cap n m : Nat} {k : IntKind} {l : List Int} (h : Row k W (.slice a n cap) l) (hm : m ≤ n) : Row k W (.slice a m cap) (l.take m) := by
  obtain ⟨a', cap', e1, h2, h3, h4, h5⟩ := h
  injection e1 with e1 e2 e3
  subst e1 e2 e3
  have hl : (l.take m).length = m := by rw [List.length_take]; omega
  refine ⟨a, cap, by rw [hl], by omega, h3, fun hne => ?_, fun h => ?_⟩
  · obtain ⟨b, off, e, hc⟩ := h4 (fun h => by rw [h] at hne; simp at hne)
    refine ⟨b, off, e, fun j hj => ?_⟩
    rw [hl] at hj
    rw [hc j (by omega), List.getElem?_take_of_lt hj]
  · obtain ⟨e1, e2⟩ := h5 h
    exact ⟨by rw [e1]; simp, e2⟩

set_option maxHeartbeats 2000000 in
theorem hasPrefix_any (u v : Value) (a b : List Nat) (w : World) (hu : Row .u8 w u (natI a)) (hv : Row .u8 w v (natI b)) (ha : ∀ c ∈ a, c < 256) (hb : ∀ c ∈ b, c < 256) :
    Calls Tryz.prog 112 #[u, v] w (BoolEnd (decide (b <+: a)) w) := by
  have HU := Lib.hid hu
  have HV := Lib.hid hv
  have HA := Lib.hid ha
  have HB := Lib.hid hb
  obtain ⟨x, cx, rfl, hcx, hmx, _, hnx⟩ := hu
  obtain ⟨y, cy, rfl, _, _, _, _⟩ := hv
  simp only [natI_length] at *
  clear ha hb
  by_cases h : b.length ≤ a.length
  · have HE : Hid (decide (a.take b.length = b) = decide (b <+: a)) := Lib.hid (decide_eq_decide.2 (take_prefix h))
    have hrow := row_cut HU.out h
    have HC := Lib.hid (bytesEqual_any _ _ (a.take b.length) b w (by rw [show natI (a.take b.length) = (natI a).take b.length by simp [natI]]; exact hrow) HV.out (fun c hc => HA.out c (List.mem_of_mem_take hc)) HB.out)
    clear hrow
    go_enter Tryz.func112, Tryz.ntmps112
    go_wp2_with fail
    refine HC.out.mono ?_
    rintro e w1 ⟨rfl, rfl⟩
    rw [HE.out]
    go_wp2_with fail
    go_ret
    exact ⟨rfl, rfl⟩
  · have HE : Hid (decide (b <+: a) = false) := Lib.hid (by rw [decide_eq_false_iff_not]; intro hp; exact h hp.length_le)
    rw [HE.out]
    go_enter Tryz.func112, Tryz.ntmps112
    go_wp2_with fail
    go_ret
    exact ⟨rfl, rfl⟩

noncomputable def headN (l : List Nat) : List Nat := (nextN (l, 0)).1

theorem headN_lt {l : List Nat} (h : ∀ c ∈ l, c < 256) : ∀ c ∈ headN l, c < 256 := by
  unfold headN
  exact nextN_lt (s := (l, 0)) h
theorem headN_len (l : List Nat) : (headN l).length ≤ l.length := by
  unfold headN
  exact nextN_len (l, 0)

/-- Reading a frame gives its record and leaves what follows. -/
theorem next_round {n : Int} (hn : -9223372036854775808 ≤ n ∧ n ≤ 9223372036854775807) {x : List Nat} (hx : x.length ≤ 1000000) (t : List Nat) : nextN (frameN n x ++ t, 0) = (x, (t, 0)) := by
  have hC := coreN_len hn hx
  have h1 : rRaw (frameN n x ++ t, 0) = (coreN n x, (varN (bytesN frameL (coreN n x)) ++ t, 0)) := by
    rw [frameN, List.append_assoc]
    exact rRaw_round (l := coreN n x) (by omega) _
  have h2 : coreR (frameN n x ++ t, 0) = (varN (zigN n) ++ (varN x.length ++ x), 0) := by
    rw [coreR_eq, h1, coreN]
  have h3 : rInt (coreR (frameN n x ++ t, 0)) = (n, (varN x.length ++ x, 0)) := by
    rw [h2]; exact rInt_round hn _
  have h4 : rRaw (varN x.length ++ x, 0) = (x, ([], 0)) := by
    have := rRaw_round (l := x) (by omega) []
    rwa [List.append_nil] at this
  have h5 : rUint (varN (bytesN frameL (coreN n x)) ++ t, 0) = (bytesN frameL (coreN n x), (t, 0)) := rUint_round (bytesN_lt _ _) t
  refine Prod.ext ?_ ?_
  · rw [nextN_fst, h3, h4]
  · rw [nextN_snd, h1, h5]

/-- If the frame of the record that was read stands there, all was read without an error. -/
theorem next_here {n : Int} (hn : -9223372036854775808 ≤ n ∧ n ≤ 9223372036854775807) {l : List Nat} (hl : l.length ≤ 1000000) (h : frameN n (headN l) <+: l) :
    (nextN (l, 0)).2 = (l.drop (frameN n (headN l)).length, 0) ∧ (rRaw (l, 0)).2.2 = 0 ∧ (rRaw (rInt (coreR (l, 0))).2).2.2 = 0 := by
  have hx : (headN l).length ≤ 1000000 := Nat.le_trans (headN_len l) hl
  obtain ⟨t, ht⟩ := h
  generalize hX : headN l = x at *
  have e1 : l.drop (frameN n x).length = t := by rw [← ht]; simp
  have hC := coreN_len hn hx
  have h1 : rRaw (l, 0) = (coreN n x, (varN (bytesN frameL (coreN n x)) ++ t, 0)) := by
    rw [← ht, frameN, List.append_assoc]
    exact rRaw_round (l := coreN n x) (by omega) _
  have h2 : coreR (l, 0) = (varN (zigN n) ++ (varN x.length ++ x), 0) := by
    rw [coreR_eq, h1, coreN]
  have h3 : rInt (coreR (l, 0)) = (n, (varN x.length ++ x, 0)) := by
    rw [h2]; exact rInt_round hn _
  have h4 : rRaw (varN x.length ++ x, 0) = (x, ([], 0)) := by
    have := rRaw_round (l := x) (by omega) []
    rwa [List.append_nil] at this
  refine ⟨?_, by rw [h1], by rw [h3, h4]⟩
  rw [e1, ← ht, next_round hn hx t]

/-- The records of l, the first with the number n, and the lengths of their frames. -/
noncomputable def scanP (n : Nat) (l : List Nat) : List (List Nat × Nat) :=
  if h : frameN n (headN l) <+: l then (headN l, (frameN n (headN l)).length) :: scanP (n + 1) (l.drop (frameN n (headN l)).length) else []
  termination_by l.length
  decreasing_by
    have h1 := frameN_pos n (headN l)
    have h2 := h.length_le
    rw [List.length_drop]
    omega

theorem scanP_yes {n : Nat} {l : List Nat} (h : frameN n (headN l) <+: l) : scanP n l = (headN l, (frameN n (headN l)).length) :: scanP (n + 1) (l.drop (frameN n (headN l)).length) := by
  rw [scanP, dif_pos h]
theorem scanP_no {n : Nat} {l : List Nat} (h : ¬ frameN n (headN l) <+: l) : scanP n l = [] := by
  rw [scanP, dif_neg h]
theorem scanP_nil (n : Nat) : scanP n [] = [] := by
  refine scanP_no fun h => ?_
  have h1 := frameN_pos n (headN [])
  have h2 := h.length_le
  rw [List.length_nil] at h2
  omega

noncomputable def framesN : Nat → List (List Nat) → List Nat
  | _, [] => []
  | n, x :: xs => frameN n x ++ framesN (n + 1) xs
noncomputable def pairsN : Nat → List (List Nat) → List (List Nat × Nat)
  | _, [] => []
  | n, x :: xs => (x, (frameN n x).length) :: pairsN (n + 1) xs

theorem natRange {n : Nat} (h : n ≤ 1000000) : -9223372036854775808 ≤ (n : Int) ∧ (n : Int) ≤ 9223372036854775807 := by omega

theorem scanP_frames : ∀ (xs : List (List Nat)) (n : Nat) (t : List Nat), n + xs.length ≤ 1000000 → (∀ x ∈ xs, x.length ≤ 1000000) → scanP n (framesN n xs ++ t) = pairsN n xs ++ scanP (n + xs.length) t
  | [], n, t, _, _ => by simp [framesN, pairsN]
  | x :: xs, n, t, hn, hx => by
    rw [List.length_cons] at hn
    have h1 : nextN (frameN n x ++ (framesN (n + 1) xs ++ t), 0) = (x, (framesN (n + 1) xs ++ t, 0)) := next_round (natRange (by omega)) (hx x (by simp)) _
    have h2 : headN (frameN n x ++ (framesN (n + 1) xs ++ t)) = x := by unfold headN; rw [h1]
    have e : framesN n (x :: xs) ++ t = frameN n x ++ (framesN (n + 1) xs ++ t) := by rw [framesN, List.append_assoc]
    rw [e, scanP_yes (by rw [h2]; exact List.prefix_append _ _), h2]
    have h3 : (frameN n x ++ (framesN (n + 1) xs ++ t)).drop (frameN n x).length = framesN (n + 1) xs ++ t := by simp
    rw [h3, scanP_frames xs (n + 1) t (by omega) (fun y hy => hx y (by simp [hy]))]
    rw [pairsN, List.cons_append, List.length_cons, show n + 1 + xs.length = n + (xs.length + 1) by omega]

theorem pairsN_fst : ∀ (xs : List (List Nat)) (n : Nat), (pairsN n xs).map Prod.fst = xs
  | [], _ => rfl
  | x :: xs, n => by rw [pairsN, List.map_cons, pairsN_fst xs (n + 1)]
theorem pairsN_sum : ∀ (xs : List (List Nat)) (n : Nat), ((pairsN n xs).map Prod.snd).sum = (framesN n xs).length
  | [], _ => rfl
  | x :: xs, n => by rw [pairsN, List.map_cons, List.sum_cons, pairsN_sum xs (n + 1), framesN, List.length_append]
theorem framesN_snoc : ∀ (xs : List (List Nat)) (n : Nat) (x : List Nat), framesN n (xs ++ [x]) = framesN n xs ++ frameN ((n + xs.length : Nat) : Int) x
  | [], n, x => by simp [framesN]
  | y :: xs, n, x => by
    rw [List.cons_append, framesN, framesN_snoc xs (n + 1) x, framesN, List.append_assoc, List.length_cons, show n + 1 + xs.length = n + (xs.length + 1) by omega]

/-- The lengths of the frames of l's records are no more than l's. -/
theorem scanP_sum : ∀ (m n : Nat) (l : List Nat), l.length ≤ m → ((scanP n l).map Prod.snd).sum ≤ l.length ∧ (scanP n l).length ≤ l.length ∧ ∀ x ∈ scanP n l, x.1.length ≤ l.length := by
  intro m
  induction m with
  | zero =>
    intro n l hl
    obtain rfl : l = [] := List.eq_nil_of_length_eq_zero (by omega)
    rw [scanP_nil]; simp
  | succ m ih =>
    intro n l hl
    by_cases h : frameN n (headN l) <+: l
    · have h1 := frameN_pos n (headN l)
      have h2 := h.length_le
      obtain ⟨i1, i2, i3⟩ := ih (n + 1) (l.drop (frameN n (headN l)).length) (by rw [List.length_drop]; omega)
      rw [List.length_drop] at i1 i2
      rw [scanP_yes h]
      have h4 := headN_len l
      generalize headN l = y at *
      generalize scanP (n + 1) (l.drop (frameN n y).length) = ys at *
      refine ⟨?_, ?_, ?_⟩
      · rw [List.map_cons, List.sum_cons]
        show (frameN n y).length + _ ≤ _
        omega
      · rw [List.length_cons]; omega
      · intro x hx
        rcases List.mem_cons.1 hx with hx | hx
        · rw [hx]; exact h4
        · have := i3 x hx; rw [List.length_drop] at this; omega
    · rw [scanP_no h]; simp
end Go.Proofs.YtjoablphojkimaaGreatDoor
