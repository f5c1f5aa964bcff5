/- Floating-point words of 64 bits as whole numbers of the smallest step: what a word reads as, and that writing a number that has a word is exact. Of no one program. -/
import Derived.Laws.FloatArith
namespace Go.Proofs.YtdhoimjkgicneaaDoor
open Go Ieee

theorem d_sw : double.signWeight = 9223372036854775808 := by decide +kernel
theorem d_bin : double.binade = 4503599627370496 := by decide +kernel
theorem d_inf : double.infRung = 9218868437227405312 := by decide +kernel
theorem d_lp : double.leastPlace = -1074 := by decide +kernel
theorem d_fb : double.fractionBits = 52 := rfl

/-- Two numbers that no one should work out powers of. -/
def u74 : Nat := 1074
def u98 : Nat := 2098
theorem u74_eq : u74 = 1074 := rfl
theorem u98_eq : u98 = 2098 := rfl

/-- The word x is a number: its sign, its digits, its place counted from the smallest. -/
structure Num (x : Nat) (s : Bool) (m k : Nat) : Prop where
  read : double.read x = .number s m ((k : Int) - 1074)
  m53 : m < 9007199254740992
  k45 : k ≤ 2045
  norm : k = 0 ∨ 4503599627370496 ≤ m

theorem word_mod (s : Bool) (r : Nat) (h : r < 9223372036854775808) : double.word s r % 9223372036854775808 = r ∧ (double.word s r / 9223372036854775808 % 2 == 1) = s := by
  unfold Format.word
  rw [d_sw]
  cases s
  · simp; omega
  · simp; omega

theorem read_cases (x : Nat) : (∃ s m k, Num x s m k) ∨ (∃ s, double.read x = .infinity s) ∨ (∃ s t, double.read x = .nan s t) := by
  by_cases h1 : x % 9223372036854775808 < 4503599627370496
  · refine Or.inl ⟨x / 9223372036854775808 % 2 == 1, x % 9223372036854775808, 0, ?_, by omega, by omega, Or.inl rfl⟩
    simp [Format.read, d_sw, d_bin, d_lp, h1]
  · by_cases h2 : x % 9223372036854775808 < 9218868437227405312
    · refine Or.inl ⟨x / 9223372036854775808 % 2 == 1, 4503599627370496 + x % 9223372036854775808 % 4503599627370496, x % 9223372036854775808 / 4503599627370496 - 1, ?_, by omega, by omega, by omega⟩
      simp only [Format.read, d_sw, d_bin, d_lp, d_inf, h1, h2, if_true, if_false]
      congr 1 <;> omega
    · by_cases h3 : x % 9223372036854775808 = 9218868437227405312
      · exact Or.inr (Or.inl ⟨x / 9223372036854775808 % 2 == 1, by simp [Format.read, d_sw, d_bin, d_inf, h3]⟩)
      · exact Or.inr (Or.inr ⟨x / 9223372036854775808 % 2 == 1, x % 9223372036854775808 - 9218868437227405312, by simp [Format.read, d_sw, d_bin, d_inf, h1, h2, h3]⟩)

theorem word_num (s : Bool) (L a : Nat) (ha : a ≤ 9007199254740992) (hL : L = 0 ∨ 4503599627370496 ≤ a) (hf : L * 4503599627370496 + a < 9218868437227405312) :
    ∃ m k, Num (double.word s (L * 4503599627370496 + a)) s m k ∧ m * 2 ^ k = a * 2 ^ L := by
  obtain ⟨w1, w2⟩ := word_mod s (L * 4503599627370496 + a) (by omega)
  by_cases h1 : a < 4503599627370496
  · have hL0 : L = 0 := by omega
    subst hL0
    refine ⟨a, 0, ⟨?_, by omega, by omega, Or.inl rfl⟩, rfl⟩
    simp only [Format.read, d_sw, d_bin, d_lp, w1, w2]
    simp [h1]
  · by_cases h2 : a = 9007199254740992
    · subst h2
      refine ⟨4503599627370496, L + 1, ⟨?_, by omega, by omega, by omega⟩, by rw [Nat.pow_succ]; omega⟩
      simp only [Format.read, d_sw, d_bin, d_lp, d_inf, w1, w2]
      rw [if_neg (by omega), if_pos hf]
      have e1 : (L * 4503599627370496 + 9007199254740992) % 4503599627370496 = 0 := by omega
      have e2 : (L * 4503599627370496 + 9007199254740992) / 4503599627370496 = L + 2 := by omega
      rw [e1, e2]
      rw [show (-1074 : Int) + ((L + 2 - 1 : Nat) : Int) = ((L + 1 : Nat) : Int) - 1074 by omega]
    · refine ⟨a, L, ⟨?_, by omega, by omega, by omega⟩, rfl⟩
      simp only [Format.read, d_sw, d_bin, d_lp, d_inf, w1, w2]
      rw [if_neg (by omega), if_pos hf]
      have e1 : (L * 4503599627370496 + a) % 4503599627370496 = a - 4503599627370496 := by omega
      have e2 : (L * 4503599627370496 + a) / 4503599627370496 = L + 1 := by omega
      rw [e1, e2]
      rw [show 4503599627370496 + (a - 4503599627370496) = a by omega, show (-1074 : Int) + ((L + 1 - 1 : Nat) : Int) = (L : Int) - 1074 by omega]

theorem word_inf (s : Bool) : double.read (double.word s 9218868437227405312) = .infinity s := by
  obtain ⟨w1, w2⟩ := word_mod s 9218868437227405312 (by omega)
  simp only [Format.read, d_sw, d_bin, d_inf, w1, w2]
  simp

/-- Rounding to a whole number of steps, none or a few digits dropped. -/
theorem cut_div (s : Bool) (n d : Nat) (h : 2 ^ d ∣ n) : Toward.even.cut s n d = n / 2 ^ d := by
  by_cases h0 : n = 0
  · subst h0
    simp [Toward.cut]
  · have hd : d ≤ n.log2 := (Nat.le_log2 h0).2 (Nat.le_of_dvd (by omega) h)
    have hm : min d (n.log2 + 2) = d := by omega
    have hr : n % 2 ^ d = 0 := Nat.mod_eq_zero_of_dvd h
    have hp : 0 < 2 ^ d := Nat.two_pow_pos _
    have hg : ((2 : Nat) ^ d == 0) = false := by simp
    simp [Toward.cut, hm, Nat.shiftLeft_eq, hr]

/-- Writing a number that has a word is exact. -/
theorem near_exact (s : Bool) (M K C a j : Nat) (p : Int) (hp : p = (K : Int) - C - 1074) (hv : M * 2 ^ K = a * 2 ^ (j + C)) (ha : a < 9007199254740992) (hj : a * 2 ^ j < 2 ^ u98) :
    ∃ m k, Num (double.nearest s M p) s m k ∧ m * 2 ^ k = a * 2 ^ j := by
  by_cases h0 : M = 0
  · subst h0
    have ha0 : a = 0 := by
      rcases Nat.mul_eq_zero.1 (hv.symm.trans (Nat.zero_mul _)) with h | h
      · exact h
      · exact absurd h (Nat.ne_of_gt (Nat.two_pow_pos _))
    subst ha0
    have h1 : Num (double.word s 0) s 0 0 := by
      obtain ⟨w1, w2⟩ := word_mod s 0 (by omega)
      refine ⟨?_, by omega, by omega, Or.inl rfl⟩
      simp [Format.read, d_sw, d_bin, d_lp, w1, w2]
    refine ⟨0, 0, ?_, by simp⟩
    simpa [Format.nearest] using h1
  · have ha0 : a ≠ 0 := by
      intro h; subst h
      rcases Nat.mul_eq_zero.1 (hv.trans (Nat.zero_mul _)) with h | h
      · exact h0 h
      · exact absurd h (Nat.ne_of_gt (Nat.two_pow_pos _))
    have l1 := Nat.log2_self_le h0
    have l2 := Nat.lt_log2_self (n := M)
    have a1 := Nat.log2_self_le ha0
    have a2 : a.log2 < 53 := (Nat.log2_lt ha0).2 (by rw [show (2 : Nat) ^ 53 = 9007199254740992 from by decide +kernel]; exact ha)
    -- the two sides have the same number of digits
    have hlog : M.log2 + K = a.log2 + (j + C) := by
      have e1 : (M * 2 ^ K).log2 = M.log2 + K := by
        apply (Nat.log2_eq_iff (Nat.mul_ne_zero h0 (Nat.ne_of_gt (Nat.two_pow_pos _)))).2
        exact ⟨by rw [Nat.pow_add]; exact Nat.mul_le_mul_right _ l1, by rw [show M.log2 + K + 1 = M.log2 + 1 + K by omega, Nat.pow_add]; exact Nat.mul_lt_mul_of_pos_right l2 (Nat.two_pow_pos _)⟩
      have e2 : (a * 2 ^ (j + C)).log2 = a.log2 + (j + C) := by
        apply (Nat.log2_eq_iff (Nat.mul_ne_zero ha0 (Nat.ne_of_gt (Nat.two_pow_pos _)))).2
        exact ⟨by rw [Nat.pow_add 2 a.log2]; exact Nat.mul_le_mul_right _ a1, by rw [show a.log2 + (j + C) + 1 = a.log2 + 1 + (j + C) by omega, Nat.pow_add 2 (a.log2 + 1)]; exact Nat.mul_lt_mul_of_pos_right Nat.lt_log2_self (Nat.two_pow_pos _)⟩
      rw [← e1, ← e2, hv]
    -- the last digit that is kept
    have hT : ∃ L : Nat, L = K + M.log2 - 52 - C := ⟨_, rfl⟩
    obtain ⟨L, hL⟩ := hT
    have hjL : L ≤ j := by omega
    have hlast : max (p + (M.log2 : Int) - (52 : Nat)) (-1074) = (L : Int) - 1074 := by omega
    have hkept : ∃ b, Toward.even.cut s (M <<< (p - ((L : Int) - 1074)).toNat) ((L : Int) - 1074 - p).toNat = b ∧ b = a * 2 ^ (j - L) := by
      refine ⟨_, rfl, ?_⟩
      have t1 : (p - ((L : Int) - 1074)).toNat = K - (L + C) := by omega
      have t2 : ((L : Int) - 1074 - p).toNat = L + C - K := by omega
      rw [t1, t2, Nat.shiftLeft_eq]
      have hq : M * 2 ^ K = a * 2 ^ (j - L) * 2 ^ (L + C) := by
        rw [hv, Nat.mul_assoc, ← Nat.pow_add]; congr 2; omega
      by_cases hK : L + C ≤ K
      · rw [show L + C - K = 0 by omega, cut_div _ _ _ ⟨_, (Nat.one_mul _).symm⟩]
        have h3 : M * 2 ^ (K - (L + C)) * 2 ^ (L + C) = a * 2 ^ (j - L) * 2 ^ (L + C) := by
          rw [← hq, Nat.mul_assoc, ← Nat.pow_add]; congr 2; omega
        simpa using Nat.eq_of_mul_eq_mul_right (Nat.two_pow_pos _) h3
      · rw [show K - (L + C) = 0 by omega]
        have h3 : M * 2 ^ K = a * 2 ^ (j - L) * 2 ^ (L + C - K) * 2 ^ K := by
          rw [hq, Nat.mul_assoc (a * 2 ^ (j - L)), ← Nat.pow_add]; congr 2; omega
        have h4 : M = a * 2 ^ (j - L) * 2 ^ (L + C - K) := Nat.eq_of_mul_eq_mul_right (Nat.two_pow_pos _) h3
        rw [cut_div _ _ _ ⟨a * 2 ^ (j - L), by rw [Nat.pow_zero, Nat.mul_one, Nat.mul_comm]; exact h4⟩]
        rw [Nat.pow_zero, Nat.mul_one, h4, Nat.mul_div_cancel _ (Nat.two_pow_pos _)]
    obtain ⟨b, hb1, hb2⟩ := hkept
    have hbv : b * 2 ^ L = a * 2 ^ j := by rw [hb2, Nat.mul_assoc, ← Nat.pow_add]; congr 2; omega
    have hb53 : b < 2 ^ 53 := by
      have : b * 2 ^ L < 2 ^ 53 * 2 ^ L := by
        rw [hbv, ← Nat.pow_add]
        calc a * 2 ^ j < 2 ^ (a.log2 + 1) * 2 ^ j := Nat.mul_lt_mul_of_pos_right Nat.lt_log2_self (Nat.two_pow_pos _)
          _ = 2 ^ (a.log2 + 1 + j) := (Nat.pow_add 2 (a.log2 + 1) j).symm
          _ ≤ 2 ^ (53 + L) := Nat.pow_le_pow_right (by omega) (by omega)
      exact Nat.lt_of_mul_lt_mul_right this
    have hbL : L = 0 ∨ 4503599627370496 ≤ b := by
      by_cases hL0 : L = 0
      · exact Or.inl hL0
      · right
        have : 2 ^ 52 * 2 ^ L ≤ b * 2 ^ L := by
          rw [hbv, ← Nat.pow_add]
          calc 2 ^ (52 + L) ≤ 2 ^ (a.log2 + j) := Nat.pow_le_pow_right (by omega) (by omega)
            _ = 2 ^ a.log2 * 2 ^ j := Nat.pow_add 2 a.log2 j
            _ ≤ a * 2 ^ j := Nat.mul_le_mul_right _ a1
        exact Nat.le_of_mul_le_mul_right this (Nat.two_pow_pos _)
    have hL45 : L ≤ 2045 := by
      rcases hbL with h | h
      · omega
      · have h1 : (2 : Nat) ^ (52 + L) < 2 ^ u98 := by
          refine Nat.lt_of_le_of_lt ?_ hj
          rw [← hbv, Nat.pow_add]
          exact Nat.mul_le_mul_right _ h
        have := (Nat.pow_lt_pow_iff_right (a := 2) (by omega)).1 h1
        have := u98_eq
        omega
    have hf : L * 4503599627370496 + b < 9218868437227405312 := by
      have : b < 9007199254740992 := hb53
      omega
    obtain ⟨m, k, n1, n2⟩ := word_num s L b (Nat.le_of_lt hb53) hbL hf
    refine ⟨m, k, ?_, n2.trans hbv⟩
    have e : double.nearest s M p = double.word s (L * 4503599627370496 + b) := by
      simp only [Format.nearest, if_neg h0, d_fb, d_lp, d_bin, d_inf]
      rw [hlast, hb1]
      rw [show ((L : Int) - 1074 - -1074).toNat = L by omega, Nat.min_eq_left (Nat.le_of_lt hf)]
    rw [e]; exact n1

end Go.Proofs.YtdhoimjkgicneaaDoor
