/- A bit that is put: it is there, the others stand, and it can be put back. Of no one program's text. -/
import Derived.Test.YtelgefchnjiggaaDoorMemF0
namespace Go.Proofs.YtelgefchnjiggaaDoor
open Go

theorem add_bit {y k : Nat} (h : y / 2 ^ k % 2 = 0) : (y + 2 ^ k) / 2 ^ k % 2 = 1 ∧ ∀ j, j ≠ k → (y + 2 ^ k) / 2 ^ j % 2 = y / 2 ^ j % 2 := by
  have hp : 0 < 2 ^ k := Nat.two_pow_pos k
  have e1 : (y + 2 ^ k) / 2 ^ k = y / 2 ^ k + 1 := Nat.add_div_right _ hp
  refine ⟨by rw [e1]; omega, fun j hj => ?_⟩
  rcases Nat.lt_or_gt_of_ne hj with hlt | hgt
  · have e2 : 2 ^ k = 2 ^ j * (2 * 2 ^ (k - 1 - j)) := by rw [← Nat.pow_succ', ← Nat.pow_add, show j + (k - 1 - j + 1) = k by omega]
    rw [e2, Nat.add_mul_div_left _ _ (Nat.two_pow_pos j)]
    omega
  · have e3 : 2 ^ j = 2 ^ k * (2 * 2 ^ (j - 1 - k)) := by rw [← Nat.pow_succ', ← Nat.pow_add, show k + (j - 1 - k + 1) = j by omega]
    rw [e3, ← Nat.div_div_eq_div_mul, ← Nat.div_div_eq_div_mul (m := y), e1, ← Nat.div_div_eq_div_mul, ← Nat.div_div_eq_div_mul (m := y / 2 ^ k), show (y / 2 ^ k + 1) / 2 = y / 2 ^ k / 2 by omega]

theorem turn_bit (x k : Nat) (b : Bool) : (turnN x k b / 2 ^ k % 2 == 1) = b ∧ (∀ j, j ≠ k → turnN x k b / 2 ^ j % 2 = x / 2 ^ j % 2) ∧ turnN (turnN x k b) k (x / 2 ^ k % 2 == 1) = x := by
  by_cases hb : (x / 2 ^ k % 2 == 1) = b
  · have e : turnN x k b = x := by unfold turnN; rw [if_pos hb]
    rw [e]
    exact ⟨hb, fun _ _ => rfl, by unfold turnN; rw [if_pos rfl]⟩
  · cases b with
    | true =>
      have h0 : x / 2 ^ k % 2 = 0 := by simp at hb; omega
      have e : turnN x k true = x + 2 ^ k := by unfold turnN; rw [if_neg hb, if_pos rfl]
      obtain ⟨h1, h2⟩ := add_bit h0
      rw [e]
      refine ⟨by rw [h1]; rfl, h2, ?_⟩
      unfold turnN
      rw [h1, h0, if_neg (by decide), if_neg (by decide)]
      omega
    | false =>
      have h0 : x / 2 ^ k % 2 = 1 := by simp at hb; omega
      have hle := turn_le h0
      have e : turnN x k false = x - 2 ^ k := by unfold turnN; rw [if_neg hb, if_neg (by decide)]
      obtain ⟨y, rfl⟩ : ∃ y, x = y + 2 ^ k := ⟨x - 2 ^ k, by omega⟩
      have hy : y / 2 ^ k % 2 = 0 := by
        have := Nat.add_div_right y (Nat.two_pow_pos k)
        rw [this] at h0
        omega
      obtain ⟨h1, h2⟩ := add_bit hy
      rw [e, Nat.add_sub_cancel]
      refine ⟨by rw [hy]; rfl, fun j hj => (h2 j hj).symm, ?_⟩
      unfold turnN
      rw [hy, h0, if_neg (by decide), if_pos (by decide)]

end Go.Proofs.YtelgefchnjiggaaDoor
