/-
  The walk of the law WireSizes.
-/
import Derived.Test.YtghilgkkpbhoiaaDevI
namespace Go.Proofs.Ytghilgkkpbhoiaa
open Go.RowKit Go.Shelf
set_option linter.unusedVariables false

/-- How long the varint of the rest is, none if it is 0. -/
def restLen (q : Nat) : Nat := if q = 0 then 0 else (varN q).length
theorem restLen_start (k : Nat) : (varN k).length = 1 + restLen (k / 128) := by
  unfold restLen
  by_cases h : k < 128
  · rw [varN_small h, if_pos (by omega)]; rfl
  · rw [varN_big h, if_neg (by omega), List.length_cons]; omega
theorem restLen_step {q : Nat} (h : q ≠ 0) : restLen q = 1 + restLen (q / 128) := by
  rw [show restLen q = (varN q).length from if_neg h]; exact restLen_start q
theorem shr_nat {u : Int} (h : 0 ≤ u ∧ u ≤ 18446744073709551615) (n : Nat) : ∃ X : Nat, X < 18446744073709551616 ∧ u / 2 ^ n = (X : Int) := by
  have := shift_nat u n
  rwa [show IntKind.u64.wrap u = u by rw [IntKind.wrap_u64]; omega] at this

theorem quo_nat {k : Nat} (h : k < 18446744073709551616) : IntKind.u64.wrap ((k : Int).tdiv 128) = ((k / 128 : Nat) : Int) := by
  rw [Int.tdiv_eq_ediv_of_nonneg (by omega), IntKind.wrap_u64]
  omega

theorem zig_one {m : Int} (h : -63 ≤ m ∧ m ≤ 63) : (varN (zigN m)).length = 1 := by
  rw [varN_small (by unfold zigN; split <;> omega)]; rfl

set_option maxRecDepth 100000 in
set_option maxHeartbeats 4000000 in
theorem walk_WireSizes (u n shift : Int) (w : World) (hu : 0 ≤ u ∧ u ≤ 18446744073709551615) (hn : -9223372036854775808 ≤ n ∧ n ≤ 9223372036854775807) (hshift : -9223372036854775808 ≤ shift ∧ shift ≤ 9223372036854775807) :
    Calls Try.prog 8 #[.int .u64 u, .int .i64 n, .int .i64 shift] w fun e w' => e = .returned (.bool true) ∧ Below w.heap.size w w' := by
  have HU := Lib.hid hu
  have HN := Lib.hid hn
  have HA : Hid (0 ≤ aroundI shift 64 ∧ aroundI shift 64 < 64) := Lib.hid ⟨Int.emod_nonneg _ (by omega), Int.emod_lt_of_pos _ (by omega)⟩
  have HS := Lib.hid hshift
  clear hu hn hshift
  go_enter Try.func8, Try.ntmps8
  go_wp2_with fail
  refine (around_any shift 64 w HS.out (by decide) (by decide)).mono ?_
  rintro e w1 ⟨rfl, rfl⟩
  rw [show ((64 : Nat) : Int) = 64 from rfl]
  have ha := HA.out
  generalize aroundI shift 64 = s at *
  have hu0 := HU.out
  go_wp2_with fail
  obtain ⟨k, hk, ek⟩ := shr_nat HU.out s.toNat
  rw [ek, quo_nat hk]
  have hk' : k < 18446744073709551616 := hk
  clear ha hu0 HA HU HS ek
  go_loopw [8, 9] (fun zv qv wr => ∃ z q : Nat, q ≤ k / 128 ∧ zv = .int .i64 (z : Int) ∧ qv = .int .u64 (q : Int) ∧ Hid ((varN k).length = z + restLen q) ∧ w = wr) (fun _ qv _ => (intOf qv).toNat)
  case atStart => exact ⟨1, k / 128, Nat.le_refl _, rfl, rfl, Lib.hid (restLen_start k), rfl⟩
  case round =>
    obtain ⟨z, q, hq, rfl, rfl, HZ, rfl⟩ := hrel
    by_cases hq0 : q = 0
    · subst hq0
      have HZ2 : Hid ((varN k).length = z) := Lib.hid HZ.out
      have hz10 : z ≤ 10 := by have := varN_len10 hk; have := HZ2.out; omega
      clear HZ
      have HM : Hid (-63 ≤ boundI n 63 ∧ boundI n 63 ≤ 63) := Lib.hid (boundI_range n (by decide))
      go_wp2_with fail
      have hb0 : Below w.heap.size w (w.alloc (.cells #[.slice none 0 0] 32)) := (Below.refl _ w).alloc (Nat.le_refl _) _
      have hs0 : (w.alloc (.cells #[.slice none 0 0] 32)).heap.size = w.heap.size + 1 := by simp
      have HW0 := Lib.hid (wr_new w)
      generalize w.alloc (.cells #[.slice none 0 0] 32) = w0 at *
      refine (devUint_any _ _ [] k w0 HW0.out hk (by simp)).mono ?_
      rintro e w1 ⟨rfl, g1, hw1, hg1, hk1⟩
      have hb1 := below_foot hb0 hk1 (by omega) (fun k hk => by omega)
      rw [List.nil_append] at hw1
      have hs1 := hk1.size
      have hl1 := hw1.lts
      have hb2 := below_foot hb1 (Keeps.of_below ((Below.refl _ w1).alloc (Nat.le_refl _) (.cells #[.slice none 0 0] 32))) (by omega) (fun k hk => by omega)
      have HW1 := Lib.hid (wr_below hw1 ((Below.refl _ w1).alloc (Nat.le_refl _) (.cells #[.slice none 0 0] 32)))
      have HX1 := Lib.hid (wr_new w1)
      have hs2 : (w1.alloc (.cells #[.slice none 0 0] 32)).heap.size = w1.heap.size + 1 := by simp
      clear hb0 hk1 hw1 hb1 HW0
      go_wp2_with fail
      generalize w1.alloc (.cells #[.slice none 0 0] 32) = w2 at *
      refine (bound_any n 63 w2 HN.out (by decide)).mono ?_
      rintro e w3 ⟨rfl, rfl⟩
      rw [show (((63 : Nat)) : Int) = 63 from rfl]
      have hm := HM.out
      generalize boundI n 63 = m at *
      have HZM := Lib.hid (zig_one hm)
      have HZN := Lib.hid (zig_one (m := -m) (by omega))
      go_wp2_with fail
      refine (devInt_any _ _ [] m w2 HX1.out (by omega) (by simp)).mono ?_
      rintro e w4 ⟨rfl, g2, hx2, hg2, hk2⟩
      have hb3 := below_foot hb2 hk2 (by omega) (fun k hk => by omega)
      have HW2 := Lib.hid (wr_keeps HW1.out hk2 (by omega) (by omega))
      have HX2 := Lib.hid hx2
      have hs3 := hk2.size
      clear hb2 hk2 hx2 HW1 HX1
      go_wp2_with fail
      refine (devInt_any _ _ _ (-m) w4 HX2.out (by omega) (by rw [List.nil_append, HZM.out]; decide)).mono ?_
      rintro e w5 ⟨rfl, g3, hx3, hg3, hk3⟩
      have hb4 := below_foot hb3 hk3 (by omega) (fun k hk => by omega)
      have HW3 := Lib.hid (wr_keeps HW2.out hk3 (by omega) (by omega))
      have HX3 := Lib.hid hx3
      have hs4 := hk3.size
      clear hb3 hk3 hx3 HW2 HX2
      go_wp2_with fail
      refine (devBool_any _ _ _ _ w5 HX3.out (by rw [List.nil_append, List.length_append, HZM.out, HZN.out]; decide)).mono ?_
      rintro e w6 ⟨rfl, g4, hx4, hg4, hk4⟩
      have hb5 := below_foot hb4 hk4 (by omega) (fun k hk => by omega)
      have HW4 := Lib.hid (wr_keeps HW3.out hk4 (by omega) (by omega))
      have hs5 := hk4.size
      have HX4 : Hid (∃ l, Wr w6 w1.heap.size g4 l ∧ l.length = 3) := Lib.hid ⟨_, hx4, by rw [List.nil_append, List.length_append, List.length_append, HZM.out, HZN.out]; simp [boolN]⟩
      have hlx := hx4.lts
      clear hb4 hk4 hx4 HW3 HX3
      go_wp2_with fail
      refine (devDone_any _ _ _ w6 HW4.out (by rw [HZ2.out]; omega)).mono ?_
      rintro e w7 ⟨v, rfl, hv, hb⟩
      have hb6 := below_foot hb5 (Keeps.of_below hb) (by omega) (fun k hk => by omega)
      obtain ⟨a, cap, rfl, _, _⟩ := fresh_elems hv
      rw [natI_length, HZ2.out]
      obtain ⟨l, hxl, hl3⟩ := HX4.out
      have HX5 := Lib.hid (wr_below hxl hb)
      have hs6 := hb.size
      clear hb hv hxl hb5 HW4 HX4
      have hzz := eq_bool (rfl : z = z)
      go_wp2_with fail
      refine (devDone_any _ _ _ w7 HX5.out (by omega)).mono ?_
      rintro e w8 ⟨v2, rfl, hv2, hb⟩
      have hb7 := below_foot hb6 (Keeps.of_below hb) (by omega) (fun k hk => by omega)
      obtain ⟨a2, cap2, rfl, _, _⟩ := fresh_elems hv2
      rw [natI_length, hl3]
      have hs7 := hb.size
      clear hb hv2 hb6
      go_wp2_with fail
      refine (lives_any2 w8).mono ?_
      rintro e w9 ⟨rfl, hb⟩
      have hb8 := below_foot hb7 (Keeps.of_below hb) (by omega) (fun k hk => by omega)
      go_wp2_with fail
      go_ret
      exact ⟨rfl, hb8⟩
    · have HZ2 : Hid ((varN k).length = (z + 1) + restLen (q / 128)) := Lib.hid (by rw [HZ.out, restLen_step hq0]; omega)
      have hz10 : z ≤ 10 := by have := varN_len10 hk; have := HZ2.out; omega
      have hqp : 0 < q := by omega
      have HQ := quo_nat (k := q) (by omega)
      go_wp2_with fail
      go_roundw
      case rel => exact ⟨z + 1, q / 128, by omega, by go_num, by go_num, HZ2, trivial⟩
      case measure => simp [intOf]; omega
end Go.Proofs.Ytghilgkkpbhoiaa
