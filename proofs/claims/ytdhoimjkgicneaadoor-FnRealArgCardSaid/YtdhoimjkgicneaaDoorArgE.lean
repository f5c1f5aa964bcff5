/- The specification's real number of an operand, a decimal number as a whole one, and the draw of an operand. -/
import Derived.Test.YtdhoimjkgicneaaDoorArgD
import Derived.Test.YtdhoimjkgicneaaDoorDrawD
namespace Go.Proofs.YtdhoimjkgicneaaDoor
open Go Go.RowKit

theorem tenZ_pred {j : Nat} (h1 : 1 ≤ j) (h2 : j ≤ 6) : tenZ (j : Int) = 10 * tenZ ((j : Int) - 1) := by
  have : j = 1 ∨ j = 2 ∨ j = 3 ∨ j = 4 ∨ j = 5 ∨ j = 6 := by omega
  rcases this with rfl | rfl | rfl | rfl | rfl | rfl <;> simp [tenZ]

set_option maxHeartbeats 400000 in
theorem law_dec (n : Int) (p : Nat) (w : World) (h1 : -999999999 ≤ n) (h2 : n ≤ 999999999) (p1 : 1 ≤ p) (p6 : p ≤ 6) :
    Calls Tryd.prog 37 #[.agg #[.int .i64 12, .int .i64 n, .int .i64 p]] w fun e w' => e = .returned (.int .i64 (decW n p)) ∧ Below w.heap.size w w' := by
  go_enter Tryd.func37, Tryd.ntmps37
  go_wp2
  go_loop [3, 4] (fun t i => ∃ (k : Nat) (N : Int), p ≤ k ∧ k ≤ 6 ∧ t = .int .i64 N ∧ i = .int .i64 k ∧ N * tenZ (6 - k) = decW n p ∧ (N = n ∨ p < k)) (fun _ i => 6 - (intOf i).toNat)
  case atStart => exact ⟨p, n, by omega, p6, rfl, rfl, rfl, Or.inl rfl⟩
  case round =>
    obtain ⟨k, N, hk, hk6, rfl, rfl, hN, hor⟩ := hrel
    have hb := tenZ_bd (6 - k)
    by_cases hlt : k < 6
    · have hNb : -99999999900000 ≤ N * tenZ (6 - k) ∧ N * tenZ (6 - k) ≤ 99999999900000 := by
        rw [hN]
        rcases decW_cases n (p := (p : Int)) (by omega) (by omega) with ⟨-, -, e⟩ | ⟨-, -, e⟩ | ⟨-, -, e⟩ | ⟨-, -, e⟩ | ⟨-, -, e⟩ | ⟨-, -, e⟩ <;> rw [e] <;> omega
      have hp := tenZ_pred (j := 6 - k) (by omega) (by omega)
      rw [show ((6 - k : Nat) : Int) = 6 - (k : Int) by omega] at hp
      have hb2 := tenZ_bd (6 - (k : Int) - 1)
      have hN10 : -99999999900000 ≤ N ∧ N ≤ 99999999900000 := by
        have ha : N.natAbs ≤ (N * tenZ (6 - k)).natAbs := by
          rw [Int.natAbs_mul]
          exact Nat.le_mul_of_pos_right _ (by omega)
        omega
      obtain ⟨g1, g2⟩ := hN10
      have HN : Hid (N * 10 * tenZ (6 - ((k + 1 : Nat) : Int)) = decW n p) := by
        show N * 10 * tenZ (6 - ((k + 1 : Nat) : Int)) = decW n p
        rw [← hN, hp, Int.mul_assoc]
        congr 3
        omega
      clear hN hNb hp hb hb2 hor
      go_wp2
      go_round
      case rel => exact ⟨k + 1, N * 10, by omega, by omega, by go_num, by go_num, HN.out, Or.inr (by omega)⟩
      case measure => simp [intOf]; omega
    · have e : k = 6 := by omega
      subst e
      have hN2 : N = decW n p := by rw [← hN]; simp [tenZ]
      subst hN2
      clear hN hb hor
      go_wp2
      go_ret
      exact ⟨rfl, (Below.refl _ _).alloc (Nat.le_refl _) _⟩

end Go.Proofs.YtdhoimjkgicneaaDoor
