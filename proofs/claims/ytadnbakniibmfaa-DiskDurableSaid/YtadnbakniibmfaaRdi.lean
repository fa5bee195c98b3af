/-
  One operation, done to a disk and to the reference's disk.
-/
import Derived.Test.YtadnbakniibmfaaRdf
import Derived.Test.YtadnbakniibmfaaRdg
import Derived.Test.YtadnbakniibmfaaRdh
namespace Go.Proofs.Ytadnbakniibmfaa
open Go.RowKit Go.Shelf
set_option linter.unusedVariables false
set_option maxRecDepth 100000

def pDo (room : Nat) (s : St) (x : OpV) : Int × St :=
  if x.kind = 0 then pApp room s x.file x.b else if x.kind = 1 then pSync s else if x.kind = 2 then pTrunc s x.file x.n else if x.kind = 3 then (0, pArm s x.n) else (0, pCrash s x.keep x.n)

set_option maxHeartbeats 8000000 in
theorem doS_0 {w : World} {A : Foot} {d room : Nat} {s : St} (h : DkS w A d room s) (file n : Int) (a1 a2 : Option Addr) (c1 c2 : Nat) (b : List Nat) (keep : List Int) (hb : Row .u8 w (.slice a1 b.length c1) (natI b)) (hk : Row .i64 w (.slice a2 keep.length c2) keep)
    (hf : -100 ≤ file ∧ file ≤ 100) (hn : -100 ≤ n ∧ n ≤ 100) (h8 : ∀ c ∈ b, c < 256) (hbl : b.length ≤ 100) (hkl : keep.length ≤ 100) (hkr : ∀ q ∈ keep, -9223372036854775808 ≤ q ∧ q ≤ 9223372036854775807) (hfar : ∀ j, blockOf (.slice a2 keep.length c2) j → ¬ A j) :
    Calls Try.prog 12 #[.pointer (some ⟨d, 0, none⟩), .agg #[.int .i64 0, .int .i64 file, .int .i64 n, .slice a1 b.length c1, .slice a2 keep.length c2]] w (ResS w A d room (pApp room s file b)) := by
  have hbx := (Below.refl w.heap.size w).alloc (Nat.le_refl _) (.cells #[.int .i64 0, .int .i64 file, .int .i64 n, .slice a1 b.length c1, .slice a2 keep.length c2] 35)
  have HD := Lib.hid (dkm_below h hbx)
  have HRB := Lib.hid (row_keeps hb hbx)
  have HRK := Lib.hid (row_keeps hk hbx)
  have HUP : Hid (∀ (s2 : St) (w2 : World), UpS (w.alloc (.cells #[.int .i64 0, .int .i64 file, .int .i64 n, .slice a1 b.length c1, .slice a2 keep.length c2] 35)) A d room s2 w2 → UpS w A d room s2 w2) := Lib.hid (fun s2 w2 ⟨A2, hr, hd⟩ => ⟨A2, (Round.same (Keeps.of_below_size hbx)).trans hr, hd⟩)
  have HFAR := Lib.hid hfar
  have HKR := Lib.hid hkr
  have H8 := Lib.hid h8
  clear h hb hk hbx hfar hkr h8
  go_enter Try.func12, Try.ntmps12
  go_wp2_with fail
  refine (appS_any HD.out file a1 c1 b HRB.out H8.out (by omega)).mono ?_
  rintro e w2 ⟨rfl, hu⟩
  have HU := Lib.hid (HUP.out _ _ hu)
  clear hu HUP HD HRB HRK HFAR
  generalize (pApp room s file b) = r at *
  obtain ⟨rc, s2⟩ := r
  go_wp2_with fail
  go_ret
  exact ⟨rfl, HU.out⟩

set_option maxHeartbeats 8000000 in
theorem doS_1 {w : World} {A : Foot} {d room : Nat} {s : St} (h : DkS w A d room s) (file n : Int) (a1 a2 : Option Addr) (c1 c2 : Nat) (b : List Nat) (keep : List Int) (hb : Row .u8 w (.slice a1 b.length c1) (natI b)) (hk : Row .i64 w (.slice a2 keep.length c2) keep)
    (hf : -100 ≤ file ∧ file ≤ 100) (hn : -100 ≤ n ∧ n ≤ 100) (h8 : ∀ c ∈ b, c < 256) (hbl : b.length ≤ 100) (hkl : keep.length ≤ 100) (hkr : ∀ q ∈ keep, -9223372036854775808 ≤ q ∧ q ≤ 9223372036854775807) (hfar : ∀ j, blockOf (.slice a2 keep.length c2) j → ¬ A j) :
    Calls Try.prog 12 #[.pointer (some ⟨d, 0, none⟩), .agg #[.int .i64 1, .int .i64 file, .int .i64 n, .slice a1 b.length c1, .slice a2 keep.length c2]] w (ResS w A d room (pSync s)) := by
  have hbx := (Below.refl w.heap.size w).alloc (Nat.le_refl _) (.cells #[.int .i64 1, .int .i64 file, .int .i64 n, .slice a1 b.length c1, .slice a2 keep.length c2] 35)
  have HD := Lib.hid (dkm_below h hbx)
  have HRB := Lib.hid (row_keeps hb hbx)
  have HRK := Lib.hid (row_keeps hk hbx)
  have HUP : Hid (∀ (s2 : St) (w2 : World), UpS (w.alloc (.cells #[.int .i64 1, .int .i64 file, .int .i64 n, .slice a1 b.length c1, .slice a2 keep.length c2] 35)) A d room s2 w2 → UpS w A d room s2 w2) := Lib.hid (fun s2 w2 ⟨A2, hr, hd⟩ => ⟨A2, (Round.same (Keeps.of_below_size hbx)).trans hr, hd⟩)
  have HFAR := Lib.hid hfar
  have HKR := Lib.hid hkr
  have H8 := Lib.hid h8
  clear h hb hk hbx hfar hkr h8
  go_enter Try.func12, Try.ntmps12
  go_wp2_with fail
  refine (syncS_any HD.out).mono ?_
  rintro e w2 ⟨rfl, hu⟩
  have HU := Lib.hid (HUP.out _ _ hu)
  clear hu HUP HD HRB HRK HFAR
  generalize (pSync s) = r at *
  obtain ⟨rc, s2⟩ := r
  go_wp2_with fail
  go_ret
  exact ⟨rfl, HU.out⟩

set_option maxHeartbeats 8000000 in
theorem doS_2 {w : World} {A : Foot} {d room : Nat} {s : St} (h : DkS w A d room s) (file n : Int) (a1 a2 : Option Addr) (c1 c2 : Nat) (b : List Nat) (keep : List Int) (hb : Row .u8 w (.slice a1 b.length c1) (natI b)) (hk : Row .i64 w (.slice a2 keep.length c2) keep)
    (hf : -100 ≤ file ∧ file ≤ 100) (hn : -100 ≤ n ∧ n ≤ 100) (h8 : ∀ c ∈ b, c < 256) (hbl : b.length ≤ 100) (hkl : keep.length ≤ 100) (hkr : ∀ q ∈ keep, -9223372036854775808 ≤ q ∧ q ≤ 9223372036854775807) (hfar : ∀ j, blockOf (.slice a2 keep.length c2) j → ¬ A j) :
    Calls Try.prog 12 #[.pointer (some ⟨d, 0, none⟩), .agg #[.int .i64 2, .int .i64 file, .int .i64 n, .slice a1 b.length c1, .slice a2 keep.length c2]] w (ResS w A d room (pTrunc s file n)) := by
  have hbx := (Below.refl w.heap.size w).alloc (Nat.le_refl _) (.cells #[.int .i64 2, .int .i64 file, .int .i64 n, .slice a1 b.length c1, .slice a2 keep.length c2] 35)
  have HD := Lib.hid (dkm_below h hbx)
  have HRB := Lib.hid (row_keeps hb hbx)
  have HRK := Lib.hid (row_keeps hk hbx)
  have HUP : Hid (∀ (s2 : St) (w2 : World), UpS (w.alloc (.cells #[.int .i64 2, .int .i64 file, .int .i64 n, .slice a1 b.length c1, .slice a2 keep.length c2] 35)) A d room s2 w2 → UpS w A d room s2 w2) := Lib.hid (fun s2 w2 ⟨A2, hr, hd⟩ => ⟨A2, (Round.same (Keeps.of_below_size hbx)).trans hr, hd⟩)
  have HFAR := Lib.hid hfar
  have HKR := Lib.hid hkr
  have H8 := Lib.hid h8
  clear h hb hk hbx hfar hkr h8
  go_enter Try.func12, Try.ntmps12
  go_wp2_with fail
  refine (truncS_any HD.out file n).mono ?_
  rintro e w2 ⟨rfl, hu⟩
  have HU := Lib.hid (HUP.out _ _ hu)
  clear hu HUP HD HRB HRK HFAR
  generalize (pTrunc s file n) = r at *
  obtain ⟨rc, s2⟩ := r
  go_wp2_with fail
  go_ret
  exact ⟨rfl, HU.out⟩

set_option maxHeartbeats 8000000 in
theorem doS_3 {w : World} {A : Foot} {d room : Nat} {s : St} (h : DkS w A d room s) (file n : Int) (a1 a2 : Option Addr) (c1 c2 : Nat) (b : List Nat) (keep : List Int) (hb : Row .u8 w (.slice a1 b.length c1) (natI b)) (hk : Row .i64 w (.slice a2 keep.length c2) keep)
    (hf : -100 ≤ file ∧ file ≤ 100) (hn : -100 ≤ n ∧ n ≤ 100) (h8 : ∀ c ∈ b, c < 256) (hbl : b.length ≤ 100) (hkl : keep.length ≤ 100) (hkr : ∀ q ∈ keep, -9223372036854775808 ≤ q ∧ q ≤ 9223372036854775807) (hfar : ∀ j, blockOf (.slice a2 keep.length c2) j → ¬ A j) :
    Calls Try.prog 12 #[.pointer (some ⟨d, 0, none⟩), .agg #[.int .i64 3, .int .i64 file, .int .i64 n, .slice a1 b.length c1, .slice a2 keep.length c2]] w (ResS w A d room ((0, pArm s n) : Int × St)) := by
  have hbx := (Below.refl w.heap.size w).alloc (Nat.le_refl _) (.cells #[.int .i64 3, .int .i64 file, .int .i64 n, .slice a1 b.length c1, .slice a2 keep.length c2] 35)
  have HD := Lib.hid (dkm_below h hbx)
  have HRB := Lib.hid (row_keeps hb hbx)
  have HRK := Lib.hid (row_keeps hk hbx)
  have HUP : Hid (∀ (s2 : St) (w2 : World), UpS (w.alloc (.cells #[.int .i64 3, .int .i64 file, .int .i64 n, .slice a1 b.length c1, .slice a2 keep.length c2] 35)) A d room s2 w2 → UpS w A d room s2 w2) := Lib.hid (fun s2 w2 ⟨A2, hr, hd⟩ => ⟨A2, (Round.same (Keeps.of_below_size hbx)).trans hr, hd⟩)
  have HFAR := Lib.hid hfar
  have HKR := Lib.hid hkr
  have H8 := Lib.hid h8
  clear h hb hk hbx hfar hkr h8
  go_enter Try.func12, Try.ntmps12
  go_wp2_with fail
  refine (armS_any HD.out n (by omega)).mono ?_
  rintro e w2 ⟨rfl, hu⟩
  have HU := Lib.hid (HUP.out _ _ hu)
  clear hu HUP HD HRB HRK HFAR
  go_wp2_with fail
  go_ret
  exact ⟨rfl, HU.out⟩

set_option maxHeartbeats 8000000 in
theorem doS_4 {w : World} {A : Foot} {d room : Nat} {s : St} (h : DkS w A d room s) (file n : Int) (a1 a2 : Option Addr) (c1 c2 : Nat) (b : List Nat) (keep : List Int) (hb : Row .u8 w (.slice a1 b.length c1) (natI b)) (hk : Row .i64 w (.slice a2 keep.length c2) keep)
    (hf : -100 ≤ file ∧ file ≤ 100) (hn : -100 ≤ n ∧ n ≤ 100) (h8 : ∀ c ∈ b, c < 256) (hbl : b.length ≤ 100) (hkl : keep.length ≤ 100) (hkr : ∀ q ∈ keep, -9223372036854775808 ≤ q ∧ q ≤ 9223372036854775807) (hfar : ∀ j, blockOf (.slice a2 keep.length c2) j → ¬ A j) :
    Calls Try.prog 12 #[.pointer (some ⟨d, 0, none⟩), .agg #[.int .i64 4, .int .i64 file, .int .i64 n, .slice a1 b.length c1, .slice a2 keep.length c2]] w (ResS w A d room ((0, pCrash s keep n) : Int × St)) := by
  have hbx := (Below.refl w.heap.size w).alloc (Nat.le_refl _) (.cells #[.int .i64 4, .int .i64 file, .int .i64 n, .slice a1 b.length c1, .slice a2 keep.length c2] 35)
  have HD := Lib.hid (dkm_below h hbx)
  have HRB := Lib.hid (row_keeps hb hbx)
  have HRK := Lib.hid (row_keeps hk hbx)
  have HUP : Hid (∀ (s2 : St) (w2 : World), UpS (w.alloc (.cells #[.int .i64 4, .int .i64 file, .int .i64 n, .slice a1 b.length c1, .slice a2 keep.length c2] 35)) A d room s2 w2 → UpS w A d room s2 w2) := Lib.hid (fun s2 w2 ⟨A2, hr, hd⟩ => ⟨A2, (Round.same (Keeps.of_below_size hbx)).trans hr, hd⟩)
  have HFAR := Lib.hid hfar
  have HKR := Lib.hid hkr
  have H8 := Lib.hid h8
  clear h hb hk hbx hfar hkr h8
  go_enter Try.func12, Try.ntmps12
  go_wp2_with fail
  refine (crashS_any HD.out _ keep n HRK.out HFAR.out HKR.out (by omega) (by omega)).mono ?_
  rintro e w2 ⟨rfl, hu⟩
  have HU := Lib.hid (HUP.out _ _ hu)
  clear hu HUP HD HRB HRK HFAR
  go_wp2_with fail
  go_ret
  exact ⟨rfl, HU.out⟩

theorem doS_any {w : World} {A : Foot} {d room : Nat} {s : St} (h : DkS w A d room s) {lo hi : Nat} {p : Value × Value} {x : OpV} (hp : PartO lo hi w p x) (hx : x.ok) (hfar : ∀ j, blockOf p.1 j ∨ blockOf p.2 j → ¬ A j) :
    Calls Try.prog 12 #[.pointer (some ⟨d, 0, none⟩), .agg #[.int .i64 (x.kind : Int), .int .i64 x.file, .int .i64 x.n, p.1, p.2]] w (ResS w A d room (pDo room s x)) := by
  obtain ⟨a1, c1, hp1, _⟩ := hp.b
  obtain ⟨a2, c2, hp2, _⟩ := hp.k
  have hb := hp.b
  have hk := hp.k
  have hfar2 : ∀ j, blockOf p.2 j → ¬ A j := fun j hj => hfar j (.inr hj)
  rw [natI_length] at hp1
  rw [hp1] at hb
  rw [hp2] at hk hfar2
  rw [hp1, hp2]
  obtain ⟨kind, file, n, b, keep⟩ := x
  obtain ⟨h1, h2, h3, h4, h5, h6, hk4⟩ := hx
  have hk5 : kind = 0 ∨ kind = 1 ∨ kind = 2 ∨ kind = 3 ∨ kind = 4 := by
    have : kind ≤ 4 := hk4
    omega
  rcases hk5 with rfl | rfl | rfl | rfl | rfl
  · exact doS_0 h file n a1 a2 c1 c2 b keep hb hk h1 h2 h3 h4 h5 h6 hfar2
  · exact doS_1 h file n a1 a2 c1 c2 b keep hb hk h1 h2 h3 h4 h5 h6 hfar2
  · exact doS_2 h file n a1 a2 c1 c2 b keep hb hk h1 h2 h3 h4 h5 h6 hfar2
  · exact doS_3 h file n a1 a2 c1 c2 b keep hb hk h1 h2 h3 h4 h5 h6 hfar2
  · exact doS_4 h file n a1 a2 c1 c2 b keep hb hk h1 h2 h3 h4 h5 h6 hfar2

set_option maxHeartbeats 8000000 in
theorem doR_0 {w : World} {A : Foot} {d room : Nat} {s : St} (h : RfS w A d room s) (ok : StOk room s) (file n : Int) (a1 a2 : Option Addr) (c1 c2 : Nat) (b : List Nat) (keep : List Int) (hb : Row .u8 w (.slice a1 b.length c1) (natI b)) (hk : Row .i64 w (.slice a2 keep.length c2) keep)
    (hf : -100 ≤ file ∧ file ≤ 100) (hn : -100 ≤ n ∧ n ≤ 100) (h8 : ∀ c ∈ b, c < 256) (hbl : b.length ≤ 100) (hkl : keep.length ≤ 100) (hkr : ∀ q ∈ keep, -9223372036854775808 ≤ q ∧ q ≤ 9223372036854775807) (hfar : ∀ j, blockOf (.slice a2 keep.length c2) j → ¬ A j) :
    Calls Try.prog 13 #[.pointer (some ⟨d, 0, none⟩), .agg #[.int .i64 0, .int .i64 file, .int .i64 n, .slice a1 b.length c1, .slice a2 keep.length c2]] w (ResR w A d room (pApp room s file b)) := by
  have hbx := (Below.refl w.heap.size w).alloc (Nat.le_refl _) (.cells #[.int .i64 0, .int .i64 file, .int .i64 n, .slice a1 b.length c1, .slice a2 keep.length c2] 35)
  have HD := Lib.hid (rfs_below h hbx)
  have HRB := Lib.hid (row_keeps hb hbx)
  have HRK := Lib.hid (row_keeps hk hbx)
  have HUP : Hid (∀ (s2 : St) (w2 : World), UpR (w.alloc (.cells #[.int .i64 0, .int .i64 file, .int .i64 n, .slice a1 b.length c1, .slice a2 keep.length c2] 35)) A d room s2 w2 → UpR w A d room s2 w2) := Lib.hid (fun s2 w2 ⟨A2, hr, hd⟩ => ⟨A2, (Round.same (Keeps.of_below_size hbx)).trans hr, hd⟩)
  have HFAR := Lib.hid hfar
  have HKR := Lib.hid hkr
  have H8 := Lib.hid h8
  clear h hb hk hbx hfar hkr h8
  go_enter Try.func13, Try.ntmps13
  go_wp2_with fail
  refine (appR_any HD.out ok file a1 c1 b HRB.out (by omega)).mono ?_
  rintro e w2 ⟨rfl, hu⟩
  have HU := Lib.hid (HUP.out _ _ hu)
  clear hu HUP HD HRB HRK HFAR
  generalize (pApp room s file b) = r at *
  obtain ⟨rc, s2⟩ := r
  go_wp2_with fail
  go_ret
  exact ⟨rfl, HU.out⟩

set_option maxHeartbeats 8000000 in
theorem doR_1 {w : World} {A : Foot} {d room : Nat} {s : St} (h : RfS w A d room s) (ok : StOk room s) (file n : Int) (a1 a2 : Option Addr) (c1 c2 : Nat) (b : List Nat) (keep : List Int) (hb : Row .u8 w (.slice a1 b.length c1) (natI b)) (hk : Row .i64 w (.slice a2 keep.length c2) keep)
    (hf : -100 ≤ file ∧ file ≤ 100) (hn : -100 ≤ n ∧ n ≤ 100) (h8 : ∀ c ∈ b, c < 256) (hbl : b.length ≤ 100) (hkl : keep.length ≤ 100) (hkr : ∀ q ∈ keep, -9223372036854775808 ≤ q ∧ q ≤ 9223372036854775807) (hfar : ∀ j, blockOf (.slice a2 keep.length c2) j → ¬ A j) :
    Calls Try.prog 13 #[.pointer (some ⟨d, 0, none⟩), .agg #[.int .i64 1, .int .i64 file, .int .i64 n, .slice a1 b.length c1, .slice a2 keep.length c2]] w (ResR w A d room (pSync s)) := by
  have hbx := (Below.refl w.heap.size w).alloc (Nat.le_refl _) (.cells #[.int .i64 1, .int .i64 file, .int .i64 n, .slice a1 b.length c1, .slice a2 keep.length c2] 35)
  have HD := Lib.hid (rfs_below h hbx)
  have HRB := Lib.hid (row_keeps hb hbx)
  have HRK := Lib.hid (row_keeps hk hbx)
  have HUP : Hid (∀ (s2 : St) (w2 : World), UpR (w.alloc (.cells #[.int .i64 1, .int .i64 file, .int .i64 n, .slice a1 b.length c1, .slice a2 keep.length c2] 35)) A d room s2 w2 → UpR w A d room s2 w2) := Lib.hid (fun s2 w2 ⟨A2, hr, hd⟩ => ⟨A2, (Round.same (Keeps.of_below_size hbx)).trans hr, hd⟩)
  have HFAR := Lib.hid hfar
  have HKR := Lib.hid hkr
  have H8 := Lib.hid h8
  clear h hb hk hbx hfar hkr h8
  go_enter Try.func13, Try.ntmps13
  go_wp2_with fail
  refine (syncR_any HD.out ok).mono ?_
  rintro e w2 ⟨rfl, hu⟩
  have HU := Lib.hid (HUP.out _ _ hu)
  clear hu HUP HD HRB HRK HFAR
  generalize (pSync s) = r at *
  obtain ⟨rc, s2⟩ := r
  go_wp2_with fail
  go_ret
  exact ⟨rfl, HU.out⟩

set_option maxHeartbeats 8000000 in
theorem doR_2 {w : World} {A : Foot} {d room : Nat} {s : St} (h : RfS w A d room s) (ok : StOk room s) (file n : Int) (a1 a2 : Option Addr) (c1 c2 : Nat) (b : List Nat) (keep : List Int) (hb : Row .u8 w (.slice a1 b.length c1) (natI b)) (hk : Row .i64 w (.slice a2 keep.length c2) keep)
    (hf : -100 ≤ file ∧ file ≤ 100) (hn : -100 ≤ n ∧ n ≤ 100) (h8 : ∀ c ∈ b, c < 256) (hbl : b.length ≤ 100) (hkl : keep.length ≤ 100) (hkr : ∀ q ∈ keep, -9223372036854775808 ≤ q ∧ q ≤ 9223372036854775807) (hfar : ∀ j, blockOf (.slice a2 keep.length c2) j → ¬ A j) :
    Calls Try.prog 13 #[.pointer (some ⟨d, 0, none⟩), .agg #[.int .i64 2, .int .i64 file, .int .i64 n, .slice a1 b.length c1, .slice a2 keep.length c2]] w (ResR w A d room (pTrunc s file n)) := by
  have hbx := (Below.refl w.heap.size w).alloc (Nat.le_refl _) (.cells #[.int .i64 2, .int .i64 file, .int .i64 n, .slice a1 b.length c1, .slice a2 keep.length c2] 35)
  have HD := Lib.hid (rfs_below h hbx)
  have HRB := Lib.hid (row_keeps hb hbx)
  have HRK := Lib.hid (row_keeps hk hbx)
  have HUP : Hid (∀ (s2 : St) (w2 : World), UpR (w.alloc (.cells #[.int .i64 2, .int .i64 file, .int .i64 n, .slice a1 b.length c1, .slice a2 keep.length c2] 35)) A d room s2 w2 → UpR w A d room s2 w2) := Lib.hid (fun s2 w2 ⟨A2, hr, hd⟩ => ⟨A2, (Round.same (Keeps.of_below_size hbx)).trans hr, hd⟩)
  have HFAR := Lib.hid hfar
  have HKR := Lib.hid hkr
  have H8 := Lib.hid h8
  clear h hb hk hbx hfar hkr h8
  go_enter Try.func13, Try.ntmps13
  go_wp2_with fail
  refine (truncR_any HD.out ok file n).mono ?_
  rintro e w2 ⟨rfl, hu⟩
  have HU := Lib.hid (HUP.out _ _ hu)
  clear hu HUP HD HRB HRK HFAR
  generalize (pTrunc s file n) = r at *
  obtain ⟨rc, s2⟩ := r
  go_wp2_with fail
  go_ret
  exact ⟨rfl, HU.out⟩

set_option maxHeartbeats 8000000 in
theorem doR_3 {w : World} {A : Foot} {d room : Nat} {s : St} (h : RfS w A d room s) (ok : StOk room s) (file n : Int) (a1 a2 : Option Addr) (c1 c2 : Nat) (b : List Nat) (keep : List Int) (hb : Row .u8 w (.slice a1 b.length c1) (natI b)) (hk : Row .i64 w (.slice a2 keep.length c2) keep)
    (hf : -100 ≤ file ∧ file ≤ 100) (hn : -100 ≤ n ∧ n ≤ 100) (h8 : ∀ c ∈ b, c < 256) (hbl : b.length ≤ 100) (hkl : keep.length ≤ 100) (hkr : ∀ q ∈ keep, -9223372036854775808 ≤ q ∧ q ≤ 9223372036854775807) (hfar : ∀ j, blockOf (.slice a2 keep.length c2) j → ¬ A j) :
    Calls Try.prog 13 #[.pointer (some ⟨d, 0, none⟩), .agg #[.int .i64 3, .int .i64 file, .int .i64 n, .slice a1 b.length c1, .slice a2 keep.length c2]] w (ResR w A d room ((0, pArm s n) : Int × St)) := by
  have hbx := (Below.refl w.heap.size w).alloc (Nat.le_refl _) (.cells #[.int .i64 3, .int .i64 file, .int .i64 n, .slice a1 b.length c1, .slice a2 keep.length c2] 35)
  have HD := Lib.hid (rfs_below h hbx)
  have HRB := Lib.hid (row_keeps hb hbx)
  have HRK := Lib.hid (row_keeps hk hbx)
  have HUP : Hid (∀ (s2 : St) (w2 : World), UpR (w.alloc (.cells #[.int .i64 3, .int .i64 file, .int .i64 n, .slice a1 b.length c1, .slice a2 keep.length c2] 35)) A d room s2 w2 → UpR w A d room s2 w2) := Lib.hid (fun s2 w2 ⟨A2, hr, hd⟩ => ⟨A2, (Round.same (Keeps.of_below_size hbx)).trans hr, hd⟩)
  have HFAR := Lib.hid hfar
  have HKR := Lib.hid hkr
  have H8 := Lib.hid h8
  clear h hb hk hbx hfar hkr h8
  go_enter Try.func13, Try.ntmps13
  go_wp2_with fail
  refine (armR_any HD.out n (by omega)).mono ?_
  rintro e w2 ⟨rfl, hu⟩
  have HU := Lib.hid (HUP.out _ _ hu)
  clear hu HUP HD HRB HRK HFAR
  go_wp2_with fail
  go_ret
  exact ⟨rfl, HU.out⟩

set_option maxHeartbeats 8000000 in
theorem doR_4 {w : World} {A : Foot} {d room : Nat} {s : St} (h : RfS w A d room s) (ok : StOk room s) (file n : Int) (a1 a2 : Option Addr) (c1 c2 : Nat) (b : List Nat) (keep : List Int) (hb : Row .u8 w (.slice a1 b.length c1) (natI b)) (hk : Row .i64 w (.slice a2 keep.length c2) keep)
    (hf : -100 ≤ file ∧ file ≤ 100) (hn : -100 ≤ n ∧ n ≤ 100) (h8 : ∀ c ∈ b, c < 256) (hbl : b.length ≤ 100) (hkl : keep.length ≤ 100) (hkr : ∀ q ∈ keep, -9223372036854775808 ≤ q ∧ q ≤ 9223372036854775807) (hfar : ∀ j, blockOf (.slice a2 keep.length c2) j → ¬ A j) :
    Calls Try.prog 13 #[.pointer (some ⟨d, 0, none⟩), .agg #[.int .i64 4, .int .i64 file, .int .i64 n, .slice a1 b.length c1, .slice a2 keep.length c2]] w (ResR w A d room ((0, pCrash s keep n) : Int × St)) := by
  have hbx := (Below.refl w.heap.size w).alloc (Nat.le_refl _) (.cells #[.int .i64 4, .int .i64 file, .int .i64 n, .slice a1 b.length c1, .slice a2 keep.length c2] 35)
  have HD := Lib.hid (rfs_below h hbx)
  have HRB := Lib.hid (row_keeps hb hbx)
  have HRK := Lib.hid (row_keeps hk hbx)
  have HUP : Hid (∀ (s2 : St) (w2 : World), UpR (w.alloc (.cells #[.int .i64 4, .int .i64 file, .int .i64 n, .slice a1 b.length c1, .slice a2 keep.length c2] 35)) A d room s2 w2 → UpR w A d room s2 w2) := Lib.hid (fun s2 w2 ⟨A2, hr, hd⟩ => ⟨A2, (Round.same (Keeps.of_below_size hbx)).trans hr, hd⟩)
  have HFAR := Lib.hid hfar
  have HKR := Lib.hid hkr
  have H8 := Lib.hid h8
  clear h hb hk hbx hfar hkr h8
  go_enter Try.func13, Try.ntmps13
  go_wp2_with fail
  refine (crashR_any HD.out ok a2 c2 keep n HRK.out HFAR.out HKR.out (by omega) (by omega)).mono ?_
  rintro e w2 ⟨rfl, hu⟩
  have HU := Lib.hid (HUP.out _ _ hu)
  clear hu HUP HD HRB HRK HFAR
  go_wp2_with fail
  go_ret
  exact ⟨rfl, HU.out⟩

theorem doR_any {w : World} {A : Foot} {d room : Nat} {s : St} (h : RfS w A d room s) (ok : StOk room s) {lo hi : Nat} {p : Value × Value} {x : OpV} (hp : PartO lo hi w p x) (hx : x.ok) (hfar : ∀ j, blockOf p.1 j ∨ blockOf p.2 j → ¬ A j) :
    Calls Try.prog 13 #[.pointer (some ⟨d, 0, none⟩), .agg #[.int .i64 (x.kind : Int), .int .i64 x.file, .int .i64 x.n, p.1, p.2]] w (ResR w A d room (pDo room s x)) := by
  obtain ⟨a1, c1, hp1, _⟩ := hp.b
  obtain ⟨a2, c2, hp2, _⟩ := hp.k
  have hb := hp.b
  have hk := hp.k
  have hfar2 : ∀ j, blockOf p.2 j → ¬ A j := fun j hj => hfar j (.inr hj)
  rw [natI_length] at hp1
  rw [hp1] at hb
  rw [hp2] at hk hfar2
  rw [hp1, hp2]
  obtain ⟨kind, file, n, b, keep⟩ := x
  obtain ⟨h1, h2, h3, h4, h5, h6, hk4⟩ := hx
  have hk5 : kind = 0 ∨ kind = 1 ∨ kind = 2 ∨ kind = 3 ∨ kind = 4 := by
    have : kind ≤ 4 := hk4
    omega
  rcases hk5 with rfl | rfl | rfl | rfl | rfl
  · exact doR_0 h ok file n a1 a2 c1 c2 b keep hb hk h1 h2 h3 h4 h5 h6 hfar2
  · exact doR_1 h ok file n a1 a2 c1 c2 b keep hb hk h1 h2 h3 h4 h5 h6 hfar2
  · exact doR_2 h ok file n a1 a2 c1 c2 b keep hb hk h1 h2 h3 h4 h5 h6 hfar2
  · exact doR_3 h ok file n a1 a2 c1 c2 b keep hb hk h1 h2 h3 h4 h5 h6 hfar2
  · exact doR_4 h ok file n a1 a2 c1 c2 b keep hb hk h1 h2 h3 h4 h5 h6 hfar2
end Go.Proofs.Ytadnbakniibmfaa
