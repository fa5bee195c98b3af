/-
 Package wide: isNumber.
 Package wide: the sign of a text.
-/
import Derived.Test.YtepakogbbomaoaaGreatDoorTxAO
import Derived.Laws.RangeString
import Derived.Laws.RangeAny
namespace Go.Proofs.YtepakogbbomaoaaGreatDoor
open Go.RowKit Go.Shelf
set_option linter.unusedVariables false
set_option maxRecDepth 100000
theorem notDigit_any (r : Int) (w : World) :
  Calls Tryz.prog 121 #[.int .i32 r] w fun e w' => e = .returned (.bool (decide (r < 48 ∨ 57 < r))) ∧ w = w' := by
 by_cases h1 : r < 48
 ·have e : decide (r < 48 ∨ 57 < r) = true := by simp [h1]
  rw [e]
  clear e
  go_enter Tryz.func121, Tryz.ntmps121
  go_wp2_with fail
  go_ret
  exact ⟨rfl, rfl⟩
 ·by_cases h2 : 57 < r
  ·have e : decide (r < 48 ∨ 57 < r) = true := by simp [h2]
   rw [e]
   clear e
   go_enter Tryz.func121, Tryz.ntmps121
   go_wp2_with fail
   go_ret
   exact ⟨rfl, rfl⟩
  ·have e : decide (r < 48 ∨ 57 < r) = false := by simp; omega
   rw [e]
   clear e
   go_enter Tryz.func121, Tryz.ntmps121
   go_wp2_with fail
   go_ret
   exact ⟨rfl, rfl⟩
def digit8 (c : Nat) : Prop := 48 ≤ c ∧ c ≤ 57
set_option maxHeartbeats 4000000 in
theorem indexFunc_any (s : ByteArray) (w : World) (hs : s.size ≤ 1000000000) :
  Calls Tryz.prog 148 #[.string s, .func (.func 121) #[] #[], .bool true] w fun e w' => ∃ r : Int, e = .returned (.int .i64 r) ∧ ((r = -1 ∧ ∀ c ∈ strB s, digit8 c) ∨ (0 ≤ r ∧ ∃ c ∈ strB s, ¬ digit8 c)) ∧ Below w.heap.size w w' := by
 go_enter Tryz.func148, Tryz.ntmps148
 go_wp2_with fail
 go_loopw [7, 8] (fun _ _ w' => ∃ pos : Nat, w' = w.iter s pos ∧ pos ≤ s.size ∧ Hid (∀ j, j < pos → digit8 ((strB s)[j]?.getD 0))) (fun _ _ w' => s.size - w'.iterPos w.heap.size)
 case atStart => exact ⟨0, rfl, Nat.zero_le _, Lib.hid (fun j h => absurd h (Nat.not_lt_zero _))⟩
 case round =>
  obtain ⟨pos, rfl, hp, HD⟩ := hrel
  have hb : ∀ q, Below w.heap.size w (w.iter s q) := fun q => (Below.refl _ w).alloc (Nat.le_refl _) _
  have HB := Lib.hid hb
  clear hb
  rcases Nat.lt_or_ge pos s.size with hlt | hge
  ·have hnx : ∀ ty, (Instr.next (.pointer (some ⟨w.heap.size, 0, none⟩)) true ty).run Tryz.prog (w.iter s pos) = _ := fun ty => run_next_any w s pos ty hlt
   have hgl : pos < (strB s).length := by rw [strB_length]; exact hlt
   have hget : (strB s)[pos]? = some (s[pos]'hlt).toNat := by
    unfold strB
    rw [List.getElem?_map, List.getElem?_eq_getElem (by simpa using hlt)]
    rfl
   by_cases hd : digit8 (s[pos]'hlt).toNat
   ·have hdec := decode_ascii s pos hlt (by unfold digit8 at hd; omega)
    rw [hdec] at hnx
    have HD2 : Hid (∀ j, j < pos + 1 → digit8 ((strB s)[j]?.getD 0)) := Lib.hid (fun j hj => by
     rcases Nat.lt_or_ge j pos with h | h
     ·exact HD.out j h
     ·rw [show j = pos by omega, hget]; exact hd)
    obtain ⟨c, hc⟩ : ∃ c, (s[pos]'hlt).toNat = c := ⟨_, rfl⟩
    rw [hc] at hnx hd
    have hdf : decide (((c : Nat) : Int) < 48 ∨ 57 < ((c : Nat) : Int)) = false := by unfold digit8 at hd; simp; omega
    have ND := notDigit_any ((c : Nat) : Int) (w.iter s (pos + 1))
    rw [hdf] at ND
    have HND := Lib.hid ND
    have hc32 : wrap32 ((c : Nat) : Int) = (c : Int) := by unfold digit8 at hd; unfold wrap32; omega
    clear hdec hget hgl hc hdf ND hd
    go_wp2_with fail
    refine HND.out.mono ?_
    rintro e w2 ⟨rfl, rfl⟩
    go_wp2_with fail
    go_roundw
    case rel => exact ⟨pos + 1, rfl, hlt, HD2⟩
    case measure => simp <;> omega
   ·have hwit : ∃ c ∈ strB s, ¬ digit8 c := ⟨_, List.mem_of_getElem? hget, hd⟩
    have HW := Lib.hid hwit
    obtain ⟨r, wd, hdec, hdf⟩ : ∃ (r wd : Nat), Utf8.decode s pos = (r, wd) ∧ decide (((r : Nat) : Int) < 48 ∨ 57 < ((r : Nat) : Int)) = true := by
     rcases Nat.lt_or_ge (s[pos]'hlt).toNat 128 with ha | ha
     ·exact ⟨_, _, decode_ascii s pos hlt ha, by unfold digit8 at hd; simp; omega⟩
     ·have := decode_high s pos hlt ha
      exact ⟨(Utf8.decode s pos).1, (Utf8.decode s pos).2, rfl, by simp; omega⟩
    rw [hdec] at hnx
    have ND := notDigit_any ((r : Nat) : Int) (w.iter s (pos + wd))
    rw [hdf] at ND
    have HND := Lib.hid ND
    clear hdec hget hgl hdf ND hd hwit
    go_wp2_with fail
    refine HND.out.mono ?_
    rintro e w2 ⟨rfl, rfl⟩
    go_wp2_with fail
    go_ret
    exact ⟨(pos : Int), rfl, .inr ⟨by omega, HW.out⟩, HB.out _⟩
  ·have hnx : ∀ ty, (Instr.next (.pointer (some ⟨w.heap.size, 0, none⟩)) true ty).run Tryz.prog (w.iter s pos) = _ := fun ty => run_next_end w s pos ty (by omega)
   have HR : Hid (∀ c ∈ strB s, digit8 c) := Lib.hid (fun c hc => by
    obtain ⟨j, hj, rfl⟩ := List.getElem_of_mem hc
    have := HD.out j (by rw [strB_length] at hj; omega)
    rw [List.getElem?_eq_getElem hj] at this
    exact this)
   go_wp2_with fail
   go_ret
   exact ⟨-1, rfl, .inl ⟨rfl, HR.out⟩, HB.out pos⟩
theorem containsFunc_any (s : ByteArray) (w : World) (hs : s.size ≤ 1000000000) :
  Calls Tryz.prog 120 #[.string s, .func (.func 121) #[] #[]] w fun e w' => ∃ b : Bool, e = .returned (.bool b) ∧ ((b = false ∧ ∀ c ∈ strB s, digit8 c) ∨ (b = true ∧ ∃ c ∈ strB s, ¬ digit8 c)) ∧ Below w.heap.size w w' := by
 have IX := Lib.hid (indexFunc_any s w hs)
 have IF : Hid (Calls Tryz.prog 142 #[.string s, .func (.func 121) #[] #[]] w fun e w' => ∃ r : Int, e = .returned (.int .i64 r) ∧ ((r = -1 ∧ ∀ c ∈ strB s, digit8 c) ∨ (0 ≤ r ∧ ∃ c ∈ strB s, ¬ digit8 c)) ∧ Below w.heap.size w w') := by
  refine Lib.hid ?_
  go_enter Tryz.func142, Tryz.ntmps142
  go_wp2_with fail
  refine IX.out.mono ?_
  rintro e w2 ⟨r, rfl, h, hb⟩
  have H := Lib.hid h
  have HB := Lib.hid hb
  clear h hb
  go_wp2_with fail
  go_ret
  exact ⟨r, rfl, H.out, HB.out⟩
 clear IX
 go_enter Tryz.func120, Tryz.ntmps120
 go_wp2_with fail
 refine IF.out.mono ?_
 rintro e w2 ⟨r, rfl, h, hb⟩
 have H := Lib.hid h
 have HB := Lib.hid hb
 clear hb
 rcases h with ⟨h1, _⟩ | ⟨h1, _⟩
 ·subst h1
  go_wp2_with fail
  go_ret
  refine ⟨false, rfl, .inl ⟨rfl, ?_⟩, HB.out⟩
  rcases H.out with ⟨_, h2⟩ | ⟨h2, _⟩
  ·exact h2
  ·omega
 ·go_wp2_with fail
  go_ret
  refine ⟨true, by simp, .inr ⟨rfl, ?_⟩, HB.out⟩
  rcases H.out with ⟨h2, _⟩ | ⟨_, h2⟩
  ·omega
  ·exact h2
def numT (l : List Nat) : Prop := l ≠ [] ∧ (∀ c ∈ l, digit8 c) ∧ (l.head? = some 48 → l.length = 1)
open Classical in
set_option maxHeartbeats 2000000 in
theorem isNumber_any (s : ByteArray) (w : World) (hs : s.size ≤ 1000000000) :
  Calls Tryz.prog 90 #[.string s] w fun e w' => ∃ b : Bool, e = .returned (.bool b) ∧ (b = true ↔ numT (strB s)) ∧ Below w.heap.size w w' := by
 have CF := Lib.hid (containsFunc_any s w hs)
 by_cases h0 : s = { data := #[] }
 ·subst h0
  clear CF
  go_enter Tryz.func90, Tryz.ntmps90
  go_wp2_with fail
  go_ret
  exact ⟨false, rfl, ⟨(fun h => by cases h), (fun h => absurd rfl h.1)⟩, Below.refl _ _⟩
 ·have hpos : 0 < s.size := by
   rcases Nat.eq_zero_or_pos s.size with h | h
   ·exact absurd (by obtain ⟨d⟩ := s; have : d = #[] := Array.eq_empty_of_size_eq_zero h; rw [this]) h0
   ·exact h
  have b0 : ¬ s.toList = [] := by
   rw [ByteArray.toList_eq]
   intro e
   exact h0 (by obtain ⟨d⟩ := s; congr 1; exact Array.toList_eq_nil_iff.1 e)
  have hhead : (strB s).head? = some (s[0]'hpos).toNat := by
   rw [List.head?_eq_getElem?]
   unfold strB
   rw [List.getElem?_map, List.getElem?_eq_getElem (by simpa using hpos)]
   rfl
  have hne : strB s ≠ [] := by intro e; rw [e] at hhead; simp at hhead
  have he : s.toList.isEmpty = false := List.isEmpty_eq_false_iff.2 b0
  have HNE := Lib.hid hne
  have HH := Lib.hid hhead
  have hlen : (strB s).length = s.size := strB_length s
  have HL := Lib.hid hlen
  clear hhead hne h0 b0 hlen
  by_cases hz : (s[0]'hpos).toNat = 48
  ·by_cases h1 : 1 < s.size
   ·have HNO : Hid (¬ numT (strB s)) := Lib.hid (fun h => by
     have := h.2.2 (by rw [HH.out, hz])
     have := HL.out
     omega)
    have hzi : (((s[0]'hpos).toNat : Nat) : Int) = 48 := by omega
    clear CF
    go_enter Tryz.func90, Tryz.ntmps90
    go_wp2_with fail
    go_ret
    exact ⟨false, rfl, ⟨(fun h => by cases h), (fun h => absurd h HNO.out)⟩, Below.refl _ _⟩
   ·have HLEN : Hid ((strB s).head? = some 48 → (strB s).length = 1) := Lib.hid (fun _ => by rw [HL.out]; omega)
    have hzi : (((s[0]'hpos).toNat : Nat) : Int) = 48 := by omega
    have h1i : ¬ (1 : Int) < (s.size : Int) := by omega
    go_enter Tryz.func90, Tryz.ntmps90
    go_wp2_with fail
    refine CF.out.mono ?_
    rintro e w2 ⟨b, rfl, hb, hbe⟩
    have HB := Lib.hid hb
    have HBE := Lib.hid hbe
    clear hb hbe
    go_wp2_with fail
    go_ret
    refine ⟨!b, rfl, ?_, HBE.out⟩
    rcases HB.out with ⟨rfl, h2⟩ | ⟨rfl, c, hc, h2⟩
    ·exact ⟨fun _ => ⟨HNE.out, h2, HLEN.out⟩, fun _ => rfl⟩
    ·exact ⟨(fun h => by cases h), (fun h => absurd (h.2.1 c hc) h2)⟩
  ·have HLEN : Hid ((strB s).head? = some 48 → (strB s).length = 1) := Lib.hid (fun h => by rw [HH.out] at h; injection h with h; exact absurd h hz)
   have hzi : ¬ (((s[0]'hpos).toNat : Nat) : Int) = 48 := by omega
   go_enter Tryz.func90, Tryz.ntmps90
   go_wp2_with fail
   refine CF.out.mono ?_
   rintro e w2 ⟨b, rfl, hb, hbe⟩
   have HB := Lib.hid hb
   have HBE := Lib.hid hbe
   clear hb hbe
   go_wp2_with fail
   go_ret
   refine ⟨!b, rfl, ?_, HBE.out⟩
   rcases HB.out with ⟨rfl, h2⟩ | ⟨rfl, c, hc, h2⟩
   ·exact ⟨fun _ => ⟨HNE.out, h2, HLEN.out⟩, fun _ => rfl⟩
   ·exact ⟨(fun h => by cases h), (fun h => absurd (h.2.1 c hc) h2)⟩
theorem strB_ext (s : ByteArray) (a b : Nat) : strB (s.extract a b) = ((strB s).drop a).take (b - a) := by
 unfold strB
 rw [ByteArray.data_extract, Array.toList_extract, List.extract_eq_take_drop, List.map_take, List.map_drop]
theorem head_dash (s : ByteArray) : ((s.extract 0 1).toList == [45]) = decide ((strB s).head? = some 45) := by
 have h1 : strB (s.extract 0 1) = (strB s).take 1 := by rw [strB_ext]; simp
 have h2 : ((s.extract 0 1).toList = [45]) ↔ (strB (s.extract 0 1) = [45]) := by
  rw [ByteArray.toList_eq]
  unfold strB
  constructor
  ·intro h; rw [h]; rfl
  ·intro h
   cases hl : (s.extract 0 1).data.toList with
   | nil => rw [hl] at h; simp at h
   | cons a l =>
    rw [hl] at h
    simp at h
    obtain ⟨ha, hl0⟩ := h
    subst hl0
    rw [UInt8.toNat_inj.1 (show a.toNat = (45 : UInt8).toNat from ha)]
 have h3 : (strB (s.extract 0 1) = [45]) ↔ ((strB s).head? = some 45) := by
  rw [h1]
  cases strB s with
  | nil => simp
  | cons a l => simp
 rw [Bool.eq_iff_iff]
 simp only [beq_iff_eq, decide_eq_true_eq]
 exact h2.trans h3
set_option maxHeartbeats 2000000 in
theorem hasPrefixS_any (s : ByteArray) (w : World) (hs : s.size ≤ 1000000000) :
  Calls Tryz.prog 141 #[.string s, .string { data := #[45] }] w fun e w' => e = .returned (.bool (decide ((strB s).head? = some 45))) ∧ w = w' := by
 by_cases h0 : 1 ≤ s.size
 ·go_enter Tryz.func141, Tryz.ntmps141
  go_wp2_with fail
  go_ret
  exact ⟨by rw [← head_dash s]; rfl, rfl⟩
 ·have hn : strB s = [] := List.eq_nil_of_length_eq_zero (by rw [strB_length]; omega)
  have hd : decide ((strB s).head? = some 45) = false := by rw [hn]; rfl
  rw [hd]
  clear hn hd
  go_enter Tryz.func141, Tryz.ntmps141
  go_wp2_with fail
  go_ret
  exact ⟨rfl, rfl⟩
def CutEnd (s : ByteArray) (w : World) (e : Ending) (w' : World) : Prop := ∃ (d : ByteArray) (b : Bool), e = .returned (.tuple #[.string d, .bool b]) ∧ ((b = true ∧ strB s = 45 :: strB d) ∨ (b = false ∧ d = s ∧ (strB s).head? ≠ some 45)) ∧ w = w'
set_option maxHeartbeats 2000000 in
theorem cutPrefix0_any (s : ByteArray) (w : World) (hs : s.size ≤ 1000000000) :
  Calls Tryz.prog 119 #[.string s, .string { data := #[45] }] w (CutEnd s w) := by
 have HP := hasPrefixS_any s w hs
 by_cases h : (strB s).head? = some 45
 ·rw [decide_eq_true h] at HP
  have HHP := Lib.hid HP
  have hp : 1 ≤ s.size := by
   rw [← strB_length]
   cases hl : strB s with
   | nil => rw [hl] at h; simp at h
   | cons a l => simp
  have HC : Hid (strB s = 45 :: strB (s.extract 1 s.size)) := Lib.hid (by
   rw [strB_ext]
   have hl := strB_length s
   cases hc : strB s with
   | nil => rw [hc] at h; simp at h
   | cons a l =>
    rw [hc] at h hl
    simp at h hl
    subst h
    simp [← hl])
  clear h HP
  go_enter Tryz.func119, Tryz.ntmps119
  go_wp2_with fail
  refine HHP.out.mono ?_
  rintro e w2 ⟨rfl, rfl⟩
  go_wp2_with fail
  refine bodyPost_ret (v := .tuple #[.string (s.extract 1 s.size), .bool true]) (by simp [results, Tryz.results119, go_sem]) rfl ?_
  exact ⟨_, true, rfl, .inl ⟨rfl, HC.out⟩, rfl⟩
 ·rw [decide_eq_false h] at HP
  have HHP := Lib.hid HP
  have HH := Lib.hid h
  clear h HP
  go_enter Tryz.func119, Tryz.ntmps119
  go_wp2_with fail
  refine HHP.out.mono ?_
  rintro e w2 ⟨rfl, rfl⟩
  go_wp2_with fail
  refine bodyPost_ret (v := .tuple #[.string s, .bool false]) (by simp [results, Tryz.results119, go_sem]) rfl ?_
  exact ⟨_, false, rfl, .inr ⟨rfl, rfl, HH.out⟩, rfl⟩
set_option maxHeartbeats 2000000 in
theorem cutPrefix_any (s : ByteArray) (w : World) (hs : s.size ≤ 1000000000) :
  Calls Tryz.prog 89 #[.string s, .string { data := #[45] }] w (CutEnd s w) := by
 have HC := Lib.hid (cutPrefix0_any s w hs)
 unfold CutEnd at HC
 go_enter Tryz.func89, Tryz.ntmps89
 go_wp2_with fail
 refine HC.out.mono ?_
 rintro e w2 ⟨d, b, rfl, h, rfl⟩
 have H := Lib.hid h
 clear h
 go_wp2_with fail
 refine bodyPost_ret (v := .tuple #[.string d, .bool b]) (by simp [results, Tryz.results89, go_sem]) rfl ?_
 exact ⟨d, b, rfl, H.out, rfl⟩
end Go.Proofs.YtepakogbbomaoaaGreatDoor
