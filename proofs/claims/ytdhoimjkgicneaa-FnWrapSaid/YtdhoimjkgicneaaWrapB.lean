/- The law on whole numbers that count round, out of the contracts. -/
import Derived.Test.YtdhoimjkgicneaaWrapA
namespace Go.Proofs.Ytdhoimjkgicneaa
open Go Go.RowKit

theorem wrap_bmod (z : Int) : IntKind.i16.wrap z = Int.bmod z 65536 := by
  rw [wrap16, Int.bmod]
  omega

theorem wrap_back {a b : Int} (a1 : -32768 ≤ a) (a2 : a ≤ 32767) : IntKind.i16.wrap (IntKind.i16.wrap (a + b) - b) = a := by
  simp only [wrap16]
  omega

theorem wrap_all {a b : Int} (a1 : -32768 ≤ a) (a2 : a ≤ 32767) : IntKind.i16.wrap (IntKind.i16.wrap (IntKind.i16.wrap (a.tdiv b) * b) + IntKind.i16.wrap (a.tmod b)) = a := by
  simp only [wrap_bmod]
  rw [Int.bmod_mul_bmod, Int.bmod_add_bmod, Int.add_bmod_bmod, Int.mul_comm, Int.mul_tdiv_add_tmod, ← wrap_bmod, wrap16]
  omega

theorem div_small {a b : Int} (a1 : -32768 ≤ a) (a2 : a ≤ 32767) : wrap32 (a.tdiv b) = a.tdiv b := by
  have h : (a.tdiv b).natAbs ≤ a.natAbs := by rw [Int.natAbs_tdiv]; exact Nat.div_le_self _ _
  unfold wrap32
  omega

theorem calc_add' (a b : Int) (a1 : -32768 ≤ a) (a2 : a ≤ 32767) (b1 : -32768 ≤ b) (b2 : b ≤ 32767) (w : World) (r : Int) (h : IntKind.i16.wrap (a + b) = r) : Calls Try.prog 6 #[.int .i64 1, .int .i16 a, .int .i16 b] w fun e w' => e = .returned (.tuple #[.int .i16 r, .bool true]) ∧ w' = w := by subst h; exact calc_add a b a1 a2 b1 b2 w
theorem calc_sub' (a b : Int) (a1 : -32768 ≤ a) (a2 : a ≤ 32767) (b1 : -32768 ≤ b) (b2 : b ≤ 32767) (w : World) (r : Int) (h : IntKind.i16.wrap (a - b) = r) : Calls Try.prog 6 #[.int .i64 2, .int .i16 a, .int .i16 b] w fun e w' => e = .returned (.tuple #[.int .i16 r, .bool true]) ∧ w' = w := by subst h; exact calc_sub a b a1 a2 b1 b2 w
theorem calc_mul' (a b : Int) (a1 : -32768 ≤ a) (a2 : a ≤ 32767) (b1 : -32768 ≤ b) (b2 : b ≤ 32767) (w : World) (r : Int) (h : IntKind.i16.wrap (a * b) = r) : Calls Try.prog 6 #[.int .i64 3, .int .i16 a, .int .i16 b] w fun e w' => e = .returned (.tuple #[.int .i16 r, .bool true]) ∧ w' = w := by subst h; exact calc_mul a b a1 a2 b1 b2 w
theorem calc_div' (a b : Int) (a1 : -32768 ≤ a) (a2 : a ≤ 32767) (b1 : -32768 ≤ b) (b2 : b ≤ 32767) (w : World) (r : Int) (h0 : b ≠ 0) (h : IntKind.i16.wrap (a.tdiv b) = r) : Calls Try.prog 6 #[.int .i64 4, .int .i16 a, .int .i16 b] w fun e w' => e = .returned (.tuple #[.int .i16 r, .bool true]) ∧ w' = w := by subst h; exact calc_div a b a1 a2 b1 b2 w h0 (div_small a1 a2)
theorem calc_rem' (a b : Int) (a1 : -32768 ≤ a) (a2 : a ≤ 32767) (b1 : -32768 ≤ b) (b2 : b ≤ 32767) (w : World) (r : Int) (h0 : b ≠ 0) (h : IntKind.i16.wrap (a.tmod b) = r) : Calls Try.prog 6 #[.int .i64 5, .int .i16 a, .int .i16 b] w fun e w' => e = .returned (.tuple #[.int .i16 r, .bool true]) ∧ w' = w := by subst h; exact calc_rem a b a1 a2 b1 b2 w h0

set_option maxHeartbeats 400000 in
theorem law_long (a0 : Option Addr) (l0 c0 : Nat) (w : World) (h : 1048576 < l0) (m0 : l0 ≤ 9223372036854775807) :
    Calls Try.prog 3 #[.slice a0 l0 c0] w fun e w' => e = .returned (.bool true) ∧ Below w.heap.size w w' := by
  go_enter Try.func3, Try.ntmps3
  go_wp2
  go_ret
  exact ⟨rfl, Below.refl _ _⟩

set_option maxHeartbeats 1000000 in
theorem law_short (a0 : Option Addr) (l0 c0 : Nat) (w : World) (h0 : l0 ≤ 1048576) (C0 : CodeAt (.slice a0 l0 c0) w) :
    Calls Try.prog 3 #[.slice a0 l0 c0] w fun e w' => e = .returned (.bool true) ∧ Below w.heap.size w w' := by
  go_enter Try.func3, Try.ntmps3
  go_wp2_with fail
  refine (draw_calc _ w C0).mono ?_
  rintro e w1 ⟨o, a, b, rfl, a1, a2, b1, b2, hb⟩
  have B : Hid (Below w.heap.size w w1) := hb
  clear hb C0
  obtain ⟨s, hs'⟩ : ∃ s, s = IntKind.i16.wrap (a + b) := ⟨_, rfl⟩
  obtain ⟨m, hm'⟩ : ∃ m, m = IntKind.i16.wrap (a * b) := ⟨_, rfl⟩
  have hsb := i16_bd (a + b)
  rw [← hs'] at hsb
  obtain ⟨s1, s2⟩ := hsb
  have hs : Hid (s = IntKind.i16.wrap (a + b)) := hs'
  have hm : Hid (m = IntKind.i16.wrap (a * b)) := hm'
  clear hs' hm'
  go_wp2_with fail
  refine (calc_add' a b a1 a2 b1 b2 _ s hs.out.symm).mono ?_
  rintro e w' ⟨rfl, rfl⟩
  go_wp2_with fail
  refine (calc_sub' s b s1 s2 b1 b2 _ a (by rw [hs.out]; exact wrap_back a1 a2)).mono ?_
  rintro e w' ⟨rfl, rfl⟩
  go_wp2_with fail
  refine (calc_add' b a b1 b2 a1 a2 _ s (by rw [Int.add_comm]; exact hs.out.symm)).mono ?_
  rintro e w' ⟨rfl, rfl⟩
  go_wp2_with fail
  refine (calc_mul' a b a1 a2 b1 b2 _ m hm.out.symm).mono ?_
  rintro e w' ⟨rfl, rfl⟩
  go_wp2_with fail
  refine (calc_mul' b a b1 b2 a1 a2 _ m (by rw [Int.mul_comm]; exact hm.out.symm)).mono ?_
  rintro e w' ⟨rfl, rfl⟩
  by_cases hb0 : b = 0
  · subst hb0
    go_wp2_with fail
    refine (calc_div0 a a1 a2 _).mono ?_
    rintro e w' ⟨rfl, rfl⟩
    go_wp2_with fail
    refine (calc_rem0 a a1 a2 _).mono ?_
    rintro e w' ⟨rfl, rfl⟩
    go_wp2_with fail
    refine (calc_mul' 0 0 (by omega) (by omega) (by omega) (by omega) _ 0 (by decide)).mono ?_
    rintro e w' ⟨rfl, rfl⟩
    go_wp2_with fail
    refine (calc_add' 0 0 (by omega) (by omega) (by omega) (by omega) _ 0 (by decide)).mono ?_
    rintro e w' ⟨rfl, rfl⟩
    go_wp2
    go_ret
    exact ⟨rfl, B.out⟩
  · have hbn : (b == 0) = false := by simpa using hb0
    obtain ⟨q, hq⟩ : ∃ q, q = IntKind.i16.wrap (a.tdiv b) := ⟨_, rfl⟩
    obtain ⟨l, hl⟩ : ∃ l, l = IntKind.i16.wrap (a.tmod b) := ⟨_, rfl⟩
    obtain ⟨p, hp⟩ : ∃ p, p = IntKind.i16.wrap (q * b) := ⟨_, rfl⟩
    obtain ⟨q1, q2⟩ : -32768 ≤ q ∧ q ≤ 32767 := by rw [hq]; exact i16_bd _
    obtain ⟨l1, l2⟩ : -32768 ≤ l ∧ l ≤ 32767 := by rw [hl]; exact i16_bd _
    obtain ⟨p1, p2⟩ : -32768 ≤ p ∧ p ≤ 32767 := by rw [hp]; exact i16_bd _
    have all : Hid (IntKind.i16.wrap (p + l) = a) := by show IntKind.i16.wrap (p + l) = a; rw [hp, hl, hq]; exact wrap_all a1 a2
    have Q : Hid (IntKind.i16.wrap (a.tdiv b) = q) := hq.symm
    have Lh : Hid (IntKind.i16.wrap (a.tmod b) = l) := hl.symm
    have Ph : Hid (IntKind.i16.wrap (q * b) = p) := hp.symm
    have H0 : Hid (b ≠ 0) := hb0
    have hbt : (b != 0) = true := by simpa using hb0
    clear hq hl hp
    go_wp2_with fail
    refine (calc_div' a b a1 a2 b1 b2 _ q H0.out Q.out).mono ?_
    rintro e w' ⟨rfl, rfl⟩
    go_wp2_with fail
    refine (calc_rem' a b a1 a2 b1 b2 _ l H0.out Lh.out).mono ?_
    rintro e w' ⟨rfl, rfl⟩
    go_wp2_with fail
    refine (calc_mul' q b q1 q2 b1 b2 _ p Ph.out).mono ?_
    rintro e w' ⟨rfl, rfl⟩
    go_wp2_with fail
    refine (calc_add' p l p1 p2 l1 l2 _ a all.out).mono ?_
    rintro e w' ⟨rfl, rfl⟩
    go_wp2
    go_ret
    exact ⟨rfl, B.out⟩

end Go.Proofs.Ytdhoimjkgicneaa
