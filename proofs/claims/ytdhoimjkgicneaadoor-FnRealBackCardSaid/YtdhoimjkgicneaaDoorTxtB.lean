/- Taking a real number above nought apart: the steps, as whole numbers. Of no one program. -/
import Derived.Test.YtdhoimjkgicneaaDoorTxtA
namespace Go.Proofs.YtdhoimjkgicneaaDoor
open Go Ieee

theorem num_c53 : Num 4845873199050653696 false 4503599627370496 (u74 + 1) := ⟨by decide +kernel, by decide, by decide, Or.inr (by decide)⟩
theorem num_c52 : Num 4841369599423283200 false 4503599627370496 u74 := ⟨by decide +kernel, by decide, by decide, Or.inr (by decide)⟩

theorem ge_of (a b : Nat) : ((some (compare (a : Int) (b : Int)) == some Ordering.gt) || (some (compare (a : Int) (b : Int)) == some Ordering.eq)) = decide (b ≤ a) := by
  rcases Nat.lt_trichotomy a b with h | h | h
  · rw [cmp_lt.2 (Int.ofNat_lt.2 h), show decide (b ≤ a) = false from by simpa using h]; rfl
  · subst h; simp
  · rw [cmp_gt.2 (Int.ofNat_lt.2 h), show decide (b ≤ a) = true from by simpa using Nat.le_of_lt h]; rfl
theorem lt_of (a b : Nat) : (some (compare (a : Int) (b : Int)) == some Ordering.lt) = decide (a < b) := by
  rcases Nat.lt_trichotomy a b with h | h | h
  · rw [cmp_lt.2 (Int.ofNat_lt.2 h), show decide (a < b) = true from by simpa using h]; rfl
  · subst h; simp
  · rw [cmp_gt.2 (Int.ofNat_lt.2 h), show decide (a < b) = false from by simpa using Nat.le_of_lt h]; rfl

theorem sg_pos (n : Nat) : sg false n = (n : Int) := rfl

theorem two_53 : 9007199254740992 * 2 ^ u74 = 4503599627370496 * 2 ^ (u74 + 1) := by rw [Nat.pow_succ]; omega

theorem ge53 {g m k : Nat} (h : Num g false m k) : ((FloatKind.f64.format.order g 4845873199050653696 == some .gt) || (FloatKind.f64.format.order g 4845873199050653696 == some .eq)) = decide (9007199254740992 * 2 ^ u74 ≤ m * 2 ^ k) := by
  have e : FloatKind.f64.format.order g 4845873199050653696 = some (compare (sg false (m * 2 ^ k)) (sg false (4503599627370496 * 2 ^ (u74 + 1)))) := order_val h.val num_c53.val
  rw [e, sg_pos, sg_pos, ← two_53, ge_of]

theorem lt52 {g m k : Nat} (h : Num g false m k) : (FloatKind.f64.format.order g 4841369599423283200 == some .lt) = decide (m * 2 ^ k < 4503599627370496 * 2 ^ u74) := by
  have e : FloatKind.f64.format.order g 4841369599423283200 = some (compare (sg false (m * 2 ^ k)) (sg false (4503599627370496 * 2 ^ u74))) := order_val h.val num_c52.val
  rw [e, sg_pos, sg_pos, lt_of]

theorem k_big {g m k : Nat} {s : Bool} (h : Num g s m k) (hb : 4503599627370496 * 2 ^ u74 ≤ m * 2 ^ k) : 1074 ≤ k := by
  have h1 : (2 : Nat) ^ (52 + u74) < 2 ^ (53 + k) := by
    rw [Nat.pow_add 2 52, Nat.pow_add 2 53, show (2 : Nat) ^ 53 = 9007199254740992 from by decide +kernel, show (2 : Nat) ^ 52 = 4503599627370496 from by decide +kernel]
    exact Nat.lt_of_le_of_lt hb (Nat.mul_lt_mul_of_pos_right h.m53 (Nat.two_pow_pos _))
  have := (Nat.pow_lt_pow_iff_right (a := 2) (by omega)).1 h1
  have := u74_eq
  omega

theorem half_step {g m k : Nat} (h : Num g false m k) (h0 : m ≠ 0) (hb : 9007199254740992 * 2 ^ u74 ≤ m * 2 ^ k) :
    ∃ r m' k', floatBits .quo .f64 g 4611686018427387904 = some r ∧ Num r false m' k' ∧ m' ≠ 0 ∧ m' * 2 ^ k' * 2 = m * 2 ^ k := by
  have hk := k_big h (by omega)
  obtain ⟨r, m', k', r1, r2, r3⟩ := div_two (a := m) (j := k - 1) h (by congr 2; omega) h.m53
  have e : m * 2 ^ (k - 1) * 2 = m * 2 ^ k := by rw [Nat.mul_assoc, ← Nat.pow_succ]; congr 2; omega
  refine ⟨r, m', k', r1, r2, ?_, by rw [r3, e]⟩
  intro hm
  subst hm
  rw [Nat.zero_mul] at r3
  rcases Nat.mul_eq_zero.1 r3.symm with h | h
  · exact h0 h
  · exact absurd h (Nat.ne_of_gt (Nat.two_pow_pos _))

theorem dbl_step {g m k : Nat} (h : Num g false m k) (h0 : m ≠ 0) (hb : m * 2 ^ k < 4503599627370496 * 2 ^ u74) :
    ∃ r m' k', floatBits .mul .f64 g 4611686018427387904 = some r ∧ Num r false m' k' ∧ m' ≠ 0 ∧ m' * 2 ^ k' = m * 2 ^ k * 2 := by
  have e : m * 2 ^ (k + 1) = m * 2 ^ k * 2 := by rw [Nat.pow_succ, Nat.mul_assoc]
  obtain ⟨r, m', k', r1, r2, r3⟩ := mul_two h (by
    rw [e]
    refine Nat.lt_of_lt_of_le (show m * 2 ^ k * 2 < 9007199254740992 * 2 ^ u74 by omega) ?_
    rw [show (9007199254740992 : Nat) = 2 ^ 53 from by decide +kernel, ← Nat.pow_add]
    exact Nat.pow_le_pow_right (by omega) (by rw [u74_eq, u98_eq]; omega))
  refine ⟨r, m', k', r1, r2, ?_, by rw [r3, e]⟩
  intro hm
  subst hm
  rw [Nat.zero_mul] at r3
  rcases Nat.mul_eq_zero.1 r3.symm with h | h
  · exact h0 h
  · exact absurd h (Nat.ne_of_gt (Nat.two_pow_pos _))

theorem whole_step {g m k : Nat} (h : Num g false m k) (h1 : 4503599627370496 * 2 ^ u74 ≤ m * 2 ^ k) (h2 : m * 2 ^ k < 9007199254740992 * 2 ^ u74) :
    floatToIntVal .f64 g .i64 = some (m : Int) ∧ m * 2 ^ k = m * 2 ^ u74 ∧ 4503599627370496 ≤ m := by
  have hk := k_big h h1
  have hm : 4503599627370496 ≤ m := by rcases h.norm with h | h <;> omega
  have hk2 : k ≤ 1074 := by
    have h3 : (2 : Nat) ^ (52 + k) < 2 ^ (53 + u74) := by
      rw [Nat.pow_add 2 52, Nat.pow_add 2 53, show (2 : Nat) ^ 53 = 9007199254740992 from by decide +kernel, show (2 : Nat) ^ 52 = 4503599627370496 from by decide +kernel]
      exact Nat.lt_of_le_of_lt (Nat.mul_le_mul_right _ hm) h2
    have := (Nat.pow_lt_pow_iff_right (a := 2) (by omega)).1 h3
    have := u74_eq
    omega
  have hku : k = u74 := by have := u74_eq; omega
  subst hku
  refine ⟨?_, rfl, hm⟩
  have e : (FloatKind.f64.decode g).toInt .zero = some (m : Int) := by
    rw [cut_num h, Nat.mul_div_cancel _ (Nat.two_pow_pos _)]; rfl
  have := h.m53
  simp only [floatToIntVal, e]
  rw [if_pos]
  simp [IntKind.min, IntKind.max, IntKind.signed, IntKind.bits]
  omega

/-- How often a number can be halved, or doubled. -/
theorem half_bound {W V j : Nat} (h : W * 2 ^ j = V) (hV : V < 2 ^ u98) (hW : 9007199254740992 * 2 ^ u74 ≤ W) : j < 971 := by
  have h1 : (2 : Nat) ^ (53 + u74 + j) < 2 ^ u98 := by
    refine Nat.lt_of_le_of_lt ?_ hV
    rw [← h, Nat.pow_add, Nat.pow_add 2 53]
    exact Nat.mul_le_mul_right _ (by rw [show (2 : Nat) ^ 53 = 9007199254740992 from by decide +kernel]; exact hW)
  have := (Nat.pow_lt_pow_iff_right (a := 2) (by omega)).1 h1
  have := u74_eq
  have := u98_eq
  omega

theorem dbl_bound {W W1 i : Nat} (h : W = W1 * 2 ^ i) (h1 : W1 ≠ 0) (hW : W < 9007199254740992 * 2 ^ u74) : i < 1127 := by
  have h2 : (2 : Nat) ^ i < 2 ^ (53 + u74) := by
    rw [Nat.pow_add 2 53, show (2 : Nat) ^ 53 = 9007199254740992 from by decide +kernel]
    refine Nat.lt_of_le_of_lt ?_ hW
    rw [h]
    exact Nat.le_mul_of_pos_left _ (by omega)
  have := (Nat.pow_lt_pow_iff_right (a := 2) (by omega)).1 h2
  have := u74_eq
  omega

theorem odd_bound {n m t : Nat} (h : n * 2 ^ t = m) (hn : n ≠ 0) (hm : m < 9007199254740992) : t < 53 := by
  have h2 : (2 : Nat) ^ t < 2 ^ 53 := by
    rw [show (2 : Nat) ^ 53 = 9007199254740992 from by decide +kernel]
    refine Nat.lt_of_le_of_lt ?_ hm
    rw [← h]
    exact Nat.le_mul_of_pos_left _ (by omega)
  exact (Nat.pow_lt_pow_iff_right (a := 2) (by omega)).1 h2

/-- What comes of the three loops. -/
theorem parts_endU {V W1 m n j i t u : Nat} (hu : u = 1074) (hV : W1 * 2 ^ j = V) (hW : m * 2 ^ u = W1 * 2 ^ i) (hn : n * 2 ^ t = m) (ho : n % 2 = 1) :
    ∃ c : Nat, V = n * 2 ^ c ∧ (c : Int) - 1074 = (j : Int) - i + t := by
  have e : V * 2 ^ i = n * 2 ^ (t + u + j) := by
    rw [← hV, Nat.mul_right_comm, ← hW, ← hn, Nat.mul_assoc, Nat.mul_assoc, ← Nat.pow_add, ← Nat.pow_add]
    congr 2
    omega
  by_cases hle : i ≤ t + u + j
  · refine ⟨t + u + j - i, ?_, by omega⟩
    have e2 : V * 2 ^ i = n * 2 ^ (t + u + j - i) * 2 ^ i := by rw [e, Nat.mul_assoc, ← Nat.pow_add]; congr 2; omega
    exact Nat.eq_of_mul_eq_mul_right (Nat.two_pow_pos i) e2
  · exfalso
    have e2 : V * 2 ^ (i - (t + u + j)) * 2 ^ (t + u + j) = n * 2 ^ (t + u + j) := by rw [← e, Nat.mul_assoc, ← Nat.pow_add]; congr 2; omega
    have e3 := Nat.eq_of_mul_eq_mul_right (Nat.two_pow_pos _) e2
    have : 2 ^ (i - (t + u + j)) = 2 * 2 ^ (i - (t + u + j) - 1) := by rw [← Nat.pow_succ']; congr 1; omega
    rw [this, Nat.mul_left_comm] at e3
    omega

theorem parts_end {V W1 m n j i t : Nat} (hV : W1 * 2 ^ j = V) (hW : m * 2 ^ u74 = W1 * 2 ^ i) (hn : n * 2 ^ t = m) (ho : n % 2 = 1) :
    ∃ c : Nat, V = n * 2 ^ c ∧ (c : Int) - 1074 = (j : Int) - i + t := parts_endU u74_eq hV hW hn ho

end Go.Proofs.YtdhoimjkgicneaaDoor
