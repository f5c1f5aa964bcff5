/- The specification's real number of an operand, a decimal number as a whole one, and the draw of an operand. -/
import Derived.Test.YtighhijbhmakeaaDoorArgD
import Derived.Test.YtighhijbhmakeaaDoorDrawD
namespace Go.Proofs.YtighhijbhmakeaaDoor
open Go Go.RowKit

set_option maxHeartbeats 400000 in
theorem spec_arg_no (k n p : Int) (w : World) (h : okB k n p = false) :
    Calls Tryd.prog 31 #[.agg #[.int .i64 k, .int .i64 n, .int .i64 p]] w fun e w' => e = .returned (.float .f64 0) ∧ Below w.heap.size w w' := by
  go_enter Tryd.func31, Tryd.ntmps31
  go_wp2_with fail
  refine (spec_ok k n p _).mono ?_
  rintro e w1 ⟨rfl, hb⟩
  obtain ⟨e0, e1, e2, z, b⟩ := box3 hb
  have B : Hid (Below w.heap.size w w1) := b
  clear hb b
  go_wp2
  go_ret
  exact ⟨rfl, B.out⟩

set_option maxHeartbeats 400000 in
theorem spec_arg_other (k n p : Int) (w : World) (h : okB k n p = true) (h1 : k ≠ 12) (h2 : k ≠ 13) :
    Calls Tryd.prog 31 #[.agg #[.int .i64 k, .int .i64 n, .int .i64 p]] w fun e w' => e = .returned (.float .f64 0) ∧ Below w.heap.size w w' := by
  have b1 : (k == 12) = false := by simpa using h1
  have b2 : (k == 13) = false := by simpa using h2
  have b3 : (k != 12) = true := by simpa using h1
  clear h1 h2
  go_enter Tryd.func31, Tryd.ntmps31
  go_wp2_with fail
  refine (spec_ok k n p _).mono ?_
  rintro e w1 ⟨rfl, hb⟩
  obtain ⟨e0, e1, e2, z, b⟩ := box3 hb
  have B : Hid (Below w.heap.size w w1) := b
  clear hb b
  go_wp2
  go_ret
  exact ⟨rfl, B.out⟩

set_option maxHeartbeats 400000 in
theorem spec_arg_word (n : Int) (w : World) (h : okB 13 n 0 = true) (h1 : 0 ≤ n) (h2 : n ≤ 3) :
    Calls Tryd.prog 31 #[.agg #[.int .i64 13, .int .i64 n, .int .i64 0]] w fun e w' => ∃ y, e = .returned (.float .f64 y) ∧ SameF (wordF n) y ∧ Below w.heap.size w w' := by
  go_enter Tryd.func31, Tryd.ntmps31
  go_wp2_with fail
  refine (spec_ok 13 n 0 _).mono ?_
  rintro e w1 ⟨rfl, hb⟩
  obtain ⟨e0, e1, e2, z, b⟩ := box3 hb
  have B : Hid (Below w.heap.size w w1) := b
  clear hb b
  go_wp2_with fail
  refine (spec_word n _ h1 h2).mono ?_
  rintro e w2 ⟨y, rfl, hy, d, rfl⟩
  have HY : Hid (SameF (wordF n) y) := hy
  clear hy
  go_wp2
  go_ret
  exact ⟨y, rfl, HY.out, below_drewN B.out _⟩

set_option maxHeartbeats 400000 in
theorem spec_arg_dec (n : Int) (p r : Nat) (w : World) (h : okB 12 n p = true) (hp : p ≤ 6) (hr : floatBits .quo .f64 (floatOfInt .f64 n) (floatOfInt .f64 (tenZ p)) = some r) :
    Calls Tryd.prog 31 #[.agg #[.int .i64 12, .int .i64 n, .int .i64 p]] w fun e w' => e = .returned (.float .f64 r) ∧ Below w.heap.size w w' := by
  have q : ∀ t w, (binOp .quo t (.float .f64 (floatOfInt .f64 n)) (.float .f64 (floatOfInt .f64 (tenZ p)))).run Tryd.prog w = .ok (.float .f64 r) w := fun t w => run_float_arith w .quo t .f64 _ _ _ hr
  clear hr
  go_enter Tryd.func31, Tryd.ntmps31
  go_wp2_with fail
  refine (spec_ok 12 n p _).mono ?_
  rintro e w1 ⟨rfl, hb⟩
  obtain ⟨e0, e1, e2, z, b⟩ := box3 hb
  have B : Hid (Below w.heap.size w w1) := b
  clear hb b
  go_wp2
  go_loop [3, 4] (fun t i => ∃ (k : Nat) (T : Int), k ≤ p ∧ t = .int .i64 T ∧ i = .int .i64 k ∧ T = tenZ k) (fun _ i => p - (intOf i).toNat)
  case atStart => exact ⟨0, 1, by omega, rfl, rfl, by simp [tenZ]⟩
  case round =>
    obtain ⟨k, T, hk, rfl, rfl, hT⟩ := hrel
    have hb := tenZ_bd k
    rw [← hT] at hb
    obtain ⟨t1, t2⟩ := hb
    by_cases hlt : k < p
    · have HT : Hid (T = tenZ k) := hT
      clear hT
      go_wp2
      go_round
      case rel => exact ⟨k + 1, T * 10, by omega, by go_num, by go_num, by rw [HT.out, tenZ_succ (by omega)]; simp⟩
      case measure => simp [intOf]; omega
    · have e : k = p := by omega
      subst e
      subst hT
      go_wp2
      go_ret
      exact ⟨rfl, B.out⟩

theorem tenZ_pred {j : Nat} (h1 : 1 ≤ j) (h2 : j ≤ 6) : tenZ (j : Int) = 10 * tenZ ((j : Int) - 1) := by
  have : j = 1 ∨ j = 2 ∨ j = 3 ∨ j = 4 ∨ j = 5 ∨ j = 6 := by omega
  rcases this with rfl | rfl | rfl | rfl | rfl | rfl <;> simp [tenZ]

set_option maxHeartbeats 400000 in
theorem law_dec (n : Int) (p : Nat) (w : World) (h1 : -999999999 ≤ n) (h2 : n ≤ 999999999) (p1 : 1 ≤ p) (p6 : p ≤ 6) :
    Calls Tryd.prog 33 #[.agg #[.int .i64 12, .int .i64 n, .int .i64 p]] w fun e w' => e = .returned (.int .i64 (decW n p)) ∧ Below w.heap.size w w' := by
  go_enter Tryd.func33, Tryd.ntmps33
  go_wp2
  go_loop [3, 4] (fun t i => ∃ (k : Nat) (N : Int), p ≤ k ∧ k ≤ 6 ∧ t = .int .i64 N ∧ i = .int .i64 k ∧ N * tenZ (6 - k) = decW n p ∧ (N = n ∨ p < k)) (fun _ i => 6 - (intOf i).toNat)
  case atStart => exact ⟨p, n, by omega, p6, rfl, rfl, rfl, Or.inl rfl⟩
  case round =>
    obtain ⟨k, N, hk, hk6, rfl, rfl, hN, hor⟩ := hrel
    have hb := tenZ_bd (6 - k)
    by_cases hlt : k < 6
    · have hNb : -99999999900000 ≤ N * tenZ (6 - k) ∧ N * tenZ (6 - k) ≤ 99999999900000 := by
        rw [hN]
        rcases decW_cases n (p := (p : Int)) (by omega) (by omega) with ⟨-, -, e⟩ | ⟨-, -, e⟩ | ⟨-, -, e⟩ | ⟨-, -, e⟩ | ⟨-, -, e⟩ | ⟨-, -, e⟩ <;> rw [e] <;> omega
      have hp := tenZ_pred (j := 6 - k) (by omega) (by omega)
      rw [show ((6 - k : Nat) : Int) = 6 - (k : Int) by omega] at hp
      have hb2 := tenZ_bd (6 - (k : Int) - 1)
      have hN10 : -99999999900000 ≤ N ∧ N ≤ 99999999900000 := by
        have ha : N.natAbs ≤ (N * tenZ (6 - k)).natAbs := by
          rw [Int.natAbs_mul]
          exact Nat.le_mul_of_pos_right _ (by omega)
        omega
      obtain ⟨g1, g2⟩ := hN10
      have HN : Hid (N * 10 * tenZ (6 - ((k + 1 : Nat) : Int)) = decW n p) := by
        show N * 10 * tenZ (6 - ((k + 1 : Nat) : Int)) = decW n p
        rw [← hN, hp, Int.mul_assoc]
        congr 3
        omega
      clear hN hNb hp hb hb2 hor
      go_wp2
      go_round
      case rel => exact ⟨k + 1, N * 10, by omega, by omega, by go_num, by go_num, HN.out, Or.inr (by omega)⟩
      case measure => simp [intOf]; omega
    · have e : k = 6 := by omega
      subst e
      have hN2 : N = decW n p := by rw [← hN]; simp [tenZ]
      subst hN2
      clear hN hb hor
      go_wp2
      go_ret
      exact ⟨rfl, (Below.refl _ _).alloc (Nat.le_refl _) _⟩

end Go.Proofs.YtighhijbhmakeaaDoor
