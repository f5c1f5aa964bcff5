/- What a test of two words says that are the same number. Of no one program. -/
import Derived.Test.YtdhoimjkgicneacDoorTxtA
import Derived.Test.YtdhoimjkgicneacDoorFltG
namespace Go.Proofs.YtdhoimjkgicneacDoor
open Go Ieee

theorem num_zeroH : Num 0 false 0 0 := ⟨by decide +kernel, by decide, by decide, Or.inl rfl⟩
theorem self_num {x m k : Nat} {s : Bool} (h : Num x s m k) : FloatKind.f64.format.order x x = some .eq := ord_eq h.val h.val rfl
theorem self_inf {x : Nat} {s : Bool} (h : double.read x = .infinity s) : FloatKind.f64.format.order x x = some .eq := by
  show double.order x x = _
  simp [Format.order, h, Datum.order]
theorem zero_inf {x : Nat} {s : Bool} (h : double.read x = .infinity s) : FloatKind.f64.format.order x 0 = some (if s then .lt else .gt) := by
  show double.order x 0 = _
  simp only [Format.order, h, num_zeroH.read, Datum.order]
theorem zero_of {x m k : Nat} {s : Bool} (h : Num x s m k) : FloatKind.f64.format.order x 0 = some (if m = 0 then .eq else if s then .lt else .gt) := by
  have e : FloatKind.f64.format.order x 0 = some (compare (sg s (m * 2 ^ k)) (sg false (0 * 2 ^ 0))) := order_val h.val num_zeroH.val
  rw [e]
  by_cases hm : m = 0
  · subst hm; cases s <;> simp [sg]
  · have hp : 0 < m * 2 ^ k := Nat.pos_of_ne_zero (Nat.mul_ne_zero hm (Nat.ne_of_gt (Nat.two_pow_pos _)))
    rw [if_neg hm]
    cases s
    · rw [cmp_gt.2 (by simp only [sg, Bool.false_eq_true, if_false]; omega)]; rfl
    · rw [cmp_lt.2 (by simp only [sg, Bool.false_eq_true, if_false, if_true]; omega)]; rfl
theorem one_by_nought {x k : Nat} {s : Bool} (h : Num x s 0 k) : double.div 4607182418800017408 x = some (double.word s 9218868437227405312) := by
  have r1 : double.read 4607182418800017408 = .number false 4503599627370496 (-52) := by decide +kernel
  simp [Format.div, r1, h.read, Datum.quotient, Format.write, d_inf]

/-- Two words that are the same number: both nan; both nought, with one sign; or equal and not nought. -/
theorem same_tests {x y : Nat} (h : Same x y) :
    ((FloatKind.f64.format.order x x != some .eq) = true ∧ (FloatKind.f64.format.order y y != some .eq) = true) ∨
    ((FloatKind.f64.format.order x x != some .eq) = false ∧ (FloatKind.f64.format.order y y != some .eq) = false ∧ (FloatKind.f64.format.order x y == some .eq) = true ∧
      (((FloatKind.f64.format.order x 0 == some .eq) = true ∧ (FloatKind.f64.format.order y 0 == some .eq) = true ∧ ∃ r, floatBits .quo .f64 4607182418800017408 x = some r ∧ floatBits .quo .f64 4607182418800017408 y = some r) ∨
       ((FloatKind.f64.format.order x 0 == some .eq) = false ∧ (FloatKind.f64.format.order y 0 == some .eq) = false))) := by
  rcases h with ⟨⟨s, t, a⟩, ⟨s', t', b⟩⟩ | ⟨s, a, b⟩ | ⟨s, m, k, m', k', a, b, e⟩
  · left
    have e1 : FloatKind.f64.format.order x x = none := order_nan_left a
    have e2 : FloatKind.f64.format.order y y = none := order_nan_left b
    rw [e1, e2]
    exact ⟨rfl, rfl⟩
  · right
    rw [self_inf a, self_inf b, zero_inf a, zero_inf b]
    refine ⟨rfl, rfl, ?_, Or.inr (by cases s <;> exact ⟨rfl, rfl⟩)⟩
    have : FloatKind.f64.format.order x y = some .eq := by
      show double.order x y = _
      simp [Format.order, a, b, Datum.order]
    rw [this]; rfl
  · right
    have e3 : FloatKind.f64.format.order x y = some .eq := ord_eq a.val b.val (by rw [e])
    rw [self_num a, self_num b, zero_of a, zero_of b, e3]
    refine ⟨rfl, rfl, rfl, ?_⟩
    by_cases hm : m = 0
    · subst hm
      have hm' : m' = 0 := by
        rw [Nat.zero_mul] at e
        rcases Nat.mul_eq_zero.1 e.symm with h | h
        · exact h
        · exact absurd h (Nat.ne_of_gt (Nat.two_pow_pos _))
      subst hm'
      exact Or.inl ⟨rfl, rfl, _, one_by_nought a, one_by_nought b⟩
    · have hm' : m' ≠ 0 := by
        rintro rfl
        rw [Nat.zero_mul] at e
        rcases Nat.mul_eq_zero.1 e with h | h
        · exact hm h
        · exact absurd h (Nat.ne_of_gt (Nat.two_pow_pos _))
      rw [if_neg hm, if_neg hm']
      exact Or.inr (by cases s <;> exact ⟨rfl, rfl⟩)

end Go.Proofs.YtdhoimjkgicneacDoor
