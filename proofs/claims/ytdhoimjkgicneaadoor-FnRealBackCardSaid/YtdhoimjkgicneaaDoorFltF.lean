/- Doubling and halving of a real number: exact, or an infinity. Of no one program. -/
import Derived.Test.YtdhoimjkgicneaaDoorFltC
namespace Go.Proofs.YtdhoimjkgicneaaDoor
open Go Ieee

theorem read_two : double.read 4611686018427387904 = .number false 4503599627370496 (-51) := by decide +kernel

theorem Num.lt98 {x m k : Nat} {s : Bool} (h : Num x s m k) : m * 2 ^ k < 2 ^ u98 := by
  refine Nat.lt_of_lt_of_le (Nat.mul_lt_mul_of_pos_right h.m53 (Nat.two_pow_pos _)) ?_
  rw [show (9007199254740992 : Nat) = 2 ^ 53 from by decide +kernel, ← Nat.pow_add]
  exact Nat.pow_le_pow_right (by omega) (by have := u98_eq; have := h.k45; omega)

theorem mul_two {x m k : Nat} {s : Bool} (h : Num x s m k) (hb : m * 2 ^ (k + 1) < 2 ^ u98) :
    ∃ r m' k', double.mul x 4611686018427387904 = some r ∧ Num r s m' k' ∧ m' * 2 ^ k' = m * 2 ^ (k + 1) := by
  obtain ⟨m', k', h1, h2⟩ := near_exact s (m * 4503599627370496) k 51 m (k + 1) ((k : Int) - 1074 + -51) (by omega) (by
    rw [show (4503599627370496 : Nat) = 2 ^ 52 from by decide +kernel, Nat.mul_assoc, ← Nat.pow_add]; congr 2; omega) h.m53 hb
  refine ⟨_, m', k', ?_, h1, h2⟩
  simp only [Format.mul, h.read, read_two, Datum.product, Option.map, Format.write, Bool.xor_false]

theorem mul_two_inf {x : Nat} {s : Bool} (h : double.read x = .infinity s) : ∃ r, double.mul x 4611686018427387904 = some r ∧ double.read r = .infinity s := by
  refine ⟨double.word s 9218868437227405312, ?_, word_inf s⟩
  simp [Format.mul, h, read_two, Datum.product, Format.write, d_inf]

theorem mul_two_over {x m k : Nat} {s : Bool} (h : Num x s m k) (hb : ¬ m * 2 ^ (k + 1) < 2 ^ u98) :
    ∃ r, double.mul x 4611686018427387904 = some r ∧ double.read r = .infinity s := by
  have hk : k = 2045 := by
    have h1 := h.k45
    apply Classical.byContradiction
    intro hn
    apply hb
    refine Nat.lt_of_lt_of_le (Nat.mul_lt_mul_of_pos_right h.m53 (Nat.two_pow_pos _)) ?_
    rw [show (9007199254740992 : Nat) = 2 ^ 53 from by decide +kernel, ← Nat.pow_add]
    exact Nat.pow_le_pow_right (by omega) (by have := u98_eq; omega)
  subst hk
  have hm : 4503599627370496 ≤ m := by rcases h.norm with h | h <;> omega
  have hm2 := h.m53
  refine ⟨double.word s 9218868437227405312, ?_, word_inf s⟩
  simp only [Format.mul, h.read, read_two, Datum.product, Option.map, Format.write, Bool.xor_false]
  have h0 : m * 4503599627370496 ≠ 0 := by omega
  have hl : (m * 4503599627370496).log2 = 104 := (Nat.log2_eq_iff h0).2 ⟨by rw [show (2 : Nat) ^ 104 = 4503599627370496 * 4503599627370496 from by decide +kernel]; exact Nat.mul_le_mul_right _ hm, by rw [show (2 : Nat) ^ (104 + 1) = 9007199254740992 * 4503599627370496 from by decide +kernel]; exact Nat.mul_lt_mul_of_pos_right hm2 (by omega)⟩
  simp only [Format.nearest, if_neg h0, d_fb, d_lp, d_bin, d_inf, hl]
  rw [show max (((2045 : Nat) : Int) - 1074 + -51 + ((104 : Nat) : Int) - ((52 : Nat) : Int)) (-1074) = 972 by omega, show (((2045 : Nat) : Int) - 1074 + -51 - 972).toNat = 0 by omega,
    show ((972 : Int) - (((2045 : Nat) : Int) - 1074 + -51)).toNat = 52 by omega, Nat.shiftLeft_zero, show ((972 : Int) - -1074).toNat = 2046 by omega,
    cut_div s _ 52 ⟨m, by rw [Nat.mul_comm]⟩, show (2 : Nat) ^ 52 = 4503599627370496 from by decide +kernel, Nat.mul_div_cancel _ (by omega), Nat.min_eq_right (by omega)]

theorem div_two {x m k a j : Nat} {s : Bool} (h : Num x s m k) (hv : m * 2 ^ k = a * 2 ^ (j + 1)) (ha : a < 9007199254740992) :
    ∃ r m' k', double.div x 4611686018427387904 = some r ∧ Num r s m' k' ∧ m' * 2 ^ k' = a * 2 ^ j := by
  have hj : a * 2 ^ j < 2 ^ u98 := by
    refine Nat.lt_of_le_of_lt ?_ h.lt98
    rw [hv, Nat.pow_succ, ← Nat.mul_assoc]
    omega
  have hl : m.log2 ≤ 52 := by
    by_cases h0 : m = 0
    · subst h0; decide
    · have : m.log2 < 53 := (Nat.log2_lt h0).2 (by rw [show (2 : Nat) ^ 53 = 9007199254740992 from by decide +kernel]; exact h.m53)
      omega
  obtain ⟨q, hq⟩ : ∃ q, 54 + 52 - m.log2 = q + 52 := ⟨54 - m.log2, by omega⟩
  have hq2 : 2 ≤ q := by omega
  obtain ⟨m', k', h1, h2⟩ := near_exact s (2 * (m * 2 ^ q)) k (q + 2) a j ((k : Int) - 1074 - -51 - ((q + 52 : Nat) : Int) - 1) (by omega) (by
    rw [show 2 * (m * 2 ^ q) * 2 ^ k = m * 2 ^ k * 2 ^ (q + 1) from by rw [Nat.pow_succ]; simp only [Nat.mul_assoc, Nat.mul_comm, Nat.mul_left_comm], hv, Nat.mul_assoc, ← Nat.pow_add]
    congr 2
    omega) ha hj
  refine ⟨_, m', k', ?_, h1, h2⟩
  simp only [Format.div, h.read, read_two, Datum.quotient, d_fb]
  rw [if_neg (by decide), show (4503599627370496 : Nat).log2 = 52 from by decide +kernel, show 52 + 2 + 52 - m.log2 = q + 52 from by omega]
  have e1 : m <<< (q + 52) = m * 2 ^ q * 4503599627370496 := by
    rw [Nat.shiftLeft_eq, Nat.pow_add, ← Nat.mul_assoc]
  rw [e1, Nat.mul_div_cancel _ (by omega), Nat.mul_mod_left]
  simp only [Option.map, Format.write, Bool.xor_false, bne_self_eq_false, Bool.toNat_false, Nat.add_zero]

end Go.Proofs.YtdhoimjkgicneaaDoor
