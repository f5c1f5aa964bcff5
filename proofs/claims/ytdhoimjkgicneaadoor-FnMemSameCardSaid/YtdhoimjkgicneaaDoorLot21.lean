/- Texts of this proof laid together: FltD, FltE, ArgB. -/
import Derived.Test.YtdhoimjkgicneaaDoorLot7
import Derived.Test.YtdhoimjkgicneaaDoorLot20
import Derived.Test.YtdhoimjkgicneaaDoorLot19
/- The quotient of two real numbers: how near it is to the true one; and that doubling and halving are exact. Of no one program. -/
namespace Go.Proofs.YtdhoimjkgicneaaDoor
open Go Ieee

theorem log2_normal {m : Nat} (h1 : 4503599627370496 ≤ m) (h2 : m < 9007199254740992) : m.log2 = 52 :=
  (Nat.log2_eq_iff (by omega)).2 ⟨by rw [show (2 : Nat) ^ 52 = 4503599627370496 from by decide +kernel]; exact h1, by rw [show (2 : Nat) ^ (52 + 1) = 9007199254740992 from by decide +kernel]; exact h2⟩

theorem cut_even4 (s : Bool) (n : Nat) (h : n.log2 = 54) : 4 * Toward.even.cut s n 2 ≤ n + 2 ∧ n ≤ 4 * Toward.even.cut s n 2 + 2 := by
  simp only [Toward.cut, h]
  rw [show (1 : Nat) <<< min 2 (54 + 2) = 4 from by decide]
  cases hc : decide (4 < 2 * (n % 4)) || (4 == 2 * (n % 4) && n / 4 % 2 == 1) with
  | false => simp at hc ⊢; omega
  | true => simp at hc ⊢; omega

theorem cut_even8 (s : Bool) (n : Nat) (h : n.log2 = 55) : 8 * Toward.even.cut s n 3 ≤ n + 4 ∧ n ≤ 8 * Toward.even.cut s n 3 + 4 := by
  simp only [Toward.cut, h]
  rw [show (1 : Nat) <<< min 3 (55 + 2) = 8 from by decide]
  cases hc : decide (8 < 2 * (n % 8)) || (8 == 2 * (n % 8) && n / 8 % 2 == 1) with
  | false => simp at hc ⊢; omega
  | true => simp at hc ⊢; omega

/-- A quotient's digits, and how near they are. -/
theorem quot_digits (s : Bool) (M : Nat) (p : Int) (h1 : 18014398509481984 ≤ M) (h2 : M < 72057594037927936) (hp : -1074 ≤ p) (hp2 : p ≤ 900) :
    ∃ (b d : Nat), (d = 2 ∨ d = 3) ∧ 2 ^ d * b ≤ M + 4 ∧ M ≤ 2 ^ d * b + 4 ∧ Val (double.nearest s M p) (sg s (b * 2 ^ ((p + 1074).toNat + d))) := by
  have h0 : M ≠ 0 := by omega
  by_cases h3 : M < 36028797018963968
  · have hl : M.log2 = 54 := (Nat.log2_eq_iff h0).2 ⟨by rw [show (2 : Nat) ^ 54 = 18014398509481984 from by decide +kernel]; exact h1, by rw [show (2 : Nat) ^ (54 + 1) = 36028797018963968 from by decide +kernel]; exact h3⟩
    obtain ⟨c1, c2⟩ := cut_even4 s M hl
    obtain ⟨b, hb⟩ : ∃ b, Toward.even.cut s M 2 = b := ⟨_, rfl⟩
    rw [hb] at c1 c2
    refine ⟨b, 2, Or.inl rfl, by omega, by omega, ?_⟩
    obtain ⟨m, k, n1, n2⟩ := word_num s ((p + 1074).toNat + 2) b (by omega) (by omega) (by omega)
    have e : double.nearest s M p = double.word s (((p + 1074).toNat + 2) * 4503599627370496 + b) := by
      simp only [Format.nearest, if_neg h0, d_fb, d_lp, d_bin, d_inf, hl]
      rw [show max (p + ((54 : Nat) : Int) - ((52 : Nat) : Int)) (-1074) = p + 2 by omega, show (p - (p + 2)).toNat = 0 by omega, show (p + 2 - p).toNat = 2 by omega, Nat.shiftLeft_zero, hb,
        show (p + 2 - -1074).toNat = (p + 1074).toNat + 2 by omega, Nat.min_eq_left (by omega)]
    rw [e, ← n2]; exact n1.val
  · have hl : M.log2 = 55 := (Nat.log2_eq_iff h0).2 ⟨by rw [show (2 : Nat) ^ 55 = 36028797018963968 from by decide +kernel]; omega, by rw [show (2 : Nat) ^ (55 + 1) = 72057594037927936 from by decide +kernel]; exact h2⟩
    obtain ⟨c1, c2⟩ := cut_even8 s M hl
    obtain ⟨b, hb⟩ : ∃ b, Toward.even.cut s M 3 = b := ⟨_, rfl⟩
    rw [hb] at c1 c2
    refine ⟨b, 3, Or.inr rfl, by omega, by omega, ?_⟩
    obtain ⟨m, k, n1, n2⟩ := word_num s ((p + 1074).toNat + 3) b (by omega) (by omega) (by omega)
    have e : double.nearest s M p = double.word s (((p + 1074).toNat + 3) * 4503599627370496 + b) := by
      simp only [Format.nearest, if_neg h0, d_fb, d_lp, d_bin, d_inf, hl]
      rw [show max (p + ((55 : Nat) : Int) - ((52 : Nat) : Int)) (-1074) = p + 3 by omega, show (p - (p + 3)).toNat = 0 by omega, show (p + 3 - p).toNat = 3 by omega, Nat.shiftLeft_zero, hb,
        show (p + 3 - -1074).toNat = (p + 1074).toNat + 3 by omega, Nat.min_eq_left (by omega)]
    rw [e, ← n2]; exact n1.val

theorem quot_bd (m n : Nat) (hm1 : 4503599627370496 ≤ m) (hm2 : m < 9007199254740992) (hn1 : 4503599627370496 ≤ n) (hn2 : n < 9007199254740992) :
    ∃ q, (m <<< 54) / n = q ∧ q * n ≤ 18014398509481984 * m ∧ 18014398509481984 * m < (q + 1) * n ∧ 9007199254740992 ≤ q ∧ q < 36028797018963968 := by
  refine ⟨_, rfl, ?_⟩
  have e : m <<< 54 = 18014398509481984 * m := by rw [Nat.shiftLeft_eq, Nat.mul_comm]
  rw [e]
  obtain ⟨q, hq⟩ : ∃ q, 18014398509481984 * m / n = q := ⟨_, rfl⟩
  rw [hq]
  have h1 : q * n ≤ 18014398509481984 * m := by rw [← hq]; exact Nat.div_mul_le_self _ _
  have h2 : 18014398509481984 * m < (q + 1) * n := by rw [← hq, Nat.mul_comm (_ + 1) n]; exact Nat.lt_mul_div_succ (18014398509481984 * m) (show 0 < n by omega)
  refine ⟨h1, h2, ?_, ?_⟩
  · rw [← hq]
    refine (Nat.le_div_iff_mul_le (by omega)).2 ?_
    omega
  · rw [← hq]
    refine (Nat.div_lt_iff_lt_mul (by omega)).2 ?_
    omega

/-- The quotient of two numbers with all their digits. -/
theorem div_near {x y m n k l : Nat} {s : Bool} (hx : Num x s m k) (hy : Num y false n l) (hm : 4503599627370496 ≤ m) (hn : 4503599627370496 ≤ n) (hp : 55 + l ≤ k + 1074) (hp2 : k ≤ l + 900) :
    ∃ r b d, (d = 2 ∨ d = 3) ∧ double.div x y = some r ∧ Val r (sg s (b * 2 ^ (k + 1019 - l + d))) ∧ 2 ^ d * b * n ≤ 36028797018963968 * m + 6 * n ∧ 36028797018963968 * m ≤ 2 ^ d * b * n + 6 * n := by
  obtain ⟨q, hq, q1, q2, q3, q4⟩ := quot_bd m n hm hx.m53 hn hy.m53
  obtain ⟨e, he, he2⟩ : ∃ e, ((m <<< 54) % n != 0).toNat = e ∧ e ≤ 1 := ⟨_, rfl, Bool.toNat_le _⟩
  obtain ⟨b, d, hd, b1, b2, hv⟩ := quot_digits s (2 * q + e) ((k : Int) - l - 55) (by omega) (by omega) (by omega) (by omega)
  refine ⟨double.nearest s (2 * q + e) ((k : Int) - l - 55), b, d, hd, ?_, ?_, ?_, ?_⟩
  · simp only [Format.div, hx.read, hy.read, Datum.quotient, d_fb]
    rw [if_neg (by omega), log2_normal hm hx.m53, log2_normal hn hy.m53]
    rw [show 52 + 2 + 52 - 52 = 54 from rfl, hq, he]
    simp only [Option.map, Format.write, Bool.xor_false]
    rw [show (k : Int) - 1074 - ((l : Int) - 1074) - ((54 : Nat) : Int) - 1 = (k : Int) - l - 55 by omega]
  · rw [show ((k : Int) - l - 55 + 1074).toNat = k + 1019 - l by omega] at hv
    exact hv
  · have h1 : 2 ^ d * b * n ≤ (2 * q + e + 4) * n := Nat.mul_le_mul_right _ b1
    have h2 : (2 * q + e + 4) * n = 2 * (q * n) + (e + 4) * n := by rw [Nat.add_assoc, Nat.add_mul, Nat.mul_assoc]
    have h3 : (e + 4) * n ≤ 6 * n := Nat.mul_le_mul_right _ (by omega)
    omega
  · have h1 : (2 * q + e) * n ≤ (2 ^ d * b + 4) * n := Nat.mul_le_mul_right _ b2
    have h2 : (2 * q + e) * n = 2 * (q * n) + e * n := by rw [Nat.add_mul, Nat.mul_assoc]
    have h3 : (2 ^ d * b + 4) * n = 2 ^ d * b * n + 4 * n := Nat.add_mul _ _ _
    have h4 : (q + 1) * n = q * n + n := by rw [Nat.add_mul, Nat.one_mul]
    have h5 : 0 ≤ e * n := Nat.zero_le _
    omega

end Go.Proofs.YtdhoimjkgicneaaDoor

/- Decimal numbers of at most nine digits, six of them behind the point: as real numbers they keep their order. Of no one program. -/
namespace Go.Proofs.YtdhoimjkgicneaaDoor
open Go Ieee

/-- A whole number of up to nine digits has all the digits of a real number. -/
theorem num_int_normal (n : Int) (h0 : n ≠ 0) (h : n.natAbs ≤ 999999999) :
    ∃ m k, Num (floatOfInt .f64 n) (decide (n < 0)) m k ∧ m * 2 ^ k = n.natAbs * 2 ^ u74 ∧ 4503599627370496 ≤ m ∧ 1022 ≤ k ∧ k ≤ 1051 := by
  obtain ⟨m, k, h1, h2⟩ := num_int n (by omega)
  have hlo : 2 ^ u74 ≤ m * 2 ^ k := by rw [h2]; exact Nat.le_mul_of_pos_left _ (by omega)
  have hm : m < 2 ^ 53 := by rw [show (2 : Nat) ^ 53 = 9007199254740992 from by decide +kernel]; exact h1.m53
  have k1 : 1022 ≤ k := by
    have : (2 : Nat) ^ u74 < 2 ^ (53 + k) := by
      refine Nat.lt_of_le_of_lt hlo ?_
      rw [Nat.pow_add]
      exact Nat.mul_lt_mul_of_pos_right hm (Nat.two_pow_pos _)
    have := (Nat.pow_lt_pow_iff_right (a := 2) (by omega)).1 this
    have := u74_eq
    omega
  have hm2 : 4503599627370496 ≤ m := by rcases h1.norm with h | h <;> omega
  have k2 : k ≤ 1051 := by
    have : (2 : Nat) ^ (52 + k) < 2 ^ (30 + u74) := by
      rw [Nat.pow_add, Nat.pow_add]
      refine Nat.lt_of_le_of_lt (Nat.mul_le_mul_right (2 ^ k) (show 2 ^ 52 ≤ m from by rw [show (2 : Nat) ^ 52 = 4503599627370496 from by decide +kernel]; exact hm2)) ?_
      rw [h2]
      exact Nat.mul_lt_mul_of_pos_right (by rw [show (2 : Nat) ^ 30 = 1073741824 from by decide +kernel]; omega) (Nat.two_pow_pos _)
    have := (Nat.pow_lt_pow_iff_right (a := 2) (by omega)).1 this
    have := u74_eq
    omega
  exact ⟨m, k, h1, h2, hm2, k1, k2⟩

theorem quot_near {V T A U m n k l b d c g : Nat} (hg : u74 = 55 + g) (hV : V = b * 2 ^ (k + g - l + d)) (hT : n * 2 ^ l = T * U) (hA : m * 2 ^ k = A * U) (hU : U = 2 ^ u74) (hl : l ≤ k + g) (hc : c = 2251799813685248)
    (hm : 4503599627370496 ≤ m) (hn : n < 9007199254740992) (b1 : 2 ^ d * b * n ≤ 36028797018963968 * m + 6 * n) (b2 : 36028797018963968 * m ≤ 2 ^ d * b * n + 6 * n) :
    c * (V * T) ≤ c * (A * U) + A * U ∧ c * (A * U) ≤ c * (V * T) + A * U := by
  have hU0 : 0 < U := by rw [hU]; exact Nat.two_pow_pos _
  obtain ⟨Z, hZ⟩ : ∃ Z, Z = 2 ^ (k + g) := ⟨_, rfl⟩
  have e1 : V * T * U = 2 ^ d * b * n * Z := by
    have : Z = 2 ^ (k + g - l) * 2 ^ l := by rw [hZ, ← Nat.pow_add]; congr 1; omega
    rw [Nat.mul_assoc, ← hT, hV, this, Nat.pow_add]
    simp only [Nat.mul_assoc, Nat.mul_comm, Nat.mul_left_comm]
  have e2 : A * U * U = 36028797018963968 * m * Z := by
    have : U = 36028797018963968 * 2 ^ g := by rw [hU, hg, Nat.pow_add]
    rw [← hA, hZ, this, Nat.pow_add 2 k g]
    simp only [Nat.mul_assoc, Nat.mul_comm, Nat.mul_left_comm]
  constructor
  · apply Nat.le_of_mul_le_mul_right (c := U) _ hU0
    rw [Nat.add_mul, Nat.mul_assoc c, Nat.mul_assoc c, e1, e2, ← Nat.mul_assoc, ← Nat.mul_assoc c _ Z, ← Nat.add_mul]
    exact Nat.mul_le_mul_right _ (by subst hc; omega)
  · apply Nat.le_of_mul_le_mul_right (c := U) _ hU0
    rw [Nat.add_mul, Nat.mul_assoc c, Nat.mul_assoc c, e1, e2, ← Nat.mul_assoc, ← Nat.mul_assoc c _ Z, ← Nat.add_mul]
    exact Nat.mul_le_mul_right _ (by subst hc; omega)

/-- The quotient of a whole number by a power of ten, and how near it is. -/
theorem dec_val (N : Int) (T : Nat) (hN : N.natAbs ≤ 999999999) (hT1 : 1 ≤ T) (hT2 : T ≤ 1000000) :
    ∃ r v, double.div (floatOfInt .f64 N) (floatOfInt .f64 T) = some r ∧ Val r v ∧
      2251799813685248 * (v * T) ≤ 2251799813685248 * (N * 2 ^ u74) + (N.natAbs : Int) * 2 ^ u74 ∧ 2251799813685248 * (N * 2 ^ u74) ≤ 2251799813685248 * (v * T) + (N.natAbs : Int) * 2 ^ u74 := by
  obtain ⟨n, l, y1, y2, y3, y4, y5⟩ := num_int_normal (T : Int) (by omega) (by omega)
  have ys : decide ((T : Int) < 0) = false := by simp
  rw [ys] at y1
  by_cases h0 : N = 0
  · subst h0
    obtain ⟨m, k, x1, x2⟩ := num_int 0 (by decide)
    have hm : m = 0 := by
      have : m * 2 ^ k = 0 := by rw [x2]; simp
      rcases Nat.mul_eq_zero.1 this with h | h
      · exact h
      · exact absurd h (Nat.ne_of_gt (Nat.two_pow_pos _))
    subst hm
    obtain ⟨m', k', z1, z2⟩ := near_exact (decide ((0 : Int) < 0)) 0 u74 0 0 0 0 (by rw [u74_eq]; omega) (by simp) (by omega) (by rw [Nat.zero_mul]; exact Nat.two_pow_pos _)
    refine ⟨double.nearest (decide ((0 : Int) < 0)) 0 0, 0, ?_, ⟨_, m', k', z1, ?_⟩, ?_, ?_⟩
    · simp only [Format.div, x1.read, y1.read, Datum.quotient]
      rw [if_neg (by omega)]
      simp [Format.write, Format.nearest]
    · rw [z2]; simp [sg]
    · simp
    · simp
  · obtain ⟨m, k, x1, x2, x3, x4, x5⟩ := num_int_normal N h0 hN
    obtain ⟨r, b, d, hd, q1, q2, q3, q4⟩ := div_near x1 y1 x3 y3 (by omega) (by omega)
    refine ⟨r, _, q1, q2, ?_⟩
    obtain ⟨n1, n2⟩ := quot_near (V := b * 2 ^ (k + 1019 - l + d)) (T := T) (A := N.natAbs) (g := 1019) u74_eq rfl (by simpa using y2) x2 rfl (by omega) rfl x3 y1.m53 q3 q4
    have n1' := Int.ofNat_le.2 n1
    have n2' := Int.ofNat_le.2 n2
    simp only [Int.natCast_mul, Int.natCast_add, Int.natCast_pow, Int.cast_ofNat_Int] at n1' n2'
    by_cases hs : N < 0
    · have e : N = -(N.natAbs : Int) := by omega
      simp only [hs, decide_true, sg, if_true, Int.natCast_mul, Int.natCast_pow, Int.cast_ofNat_Int, Int.neg_mul]
      have e2 : N * 2 ^ u74 = -((N.natAbs : Int) * 2 ^ u74) := by rw [← Int.neg_mul, ← e]
      omega
    · have e : N = (N.natAbs : Int) := by omega
      simp only [hs, decide_false, sg, Bool.false_eq_true, if_false, Int.natCast_mul, Int.natCast_pow, Int.cast_ofNat_Int]
      have e2 : N * 2 ^ u74 = (N.natAbs : Int) * 2 ^ u74 := by rw [← e]
      omega

/-- Ten to the p. -/
def tenZ (p : Int) : Int := if p = 1 then 10 else if p = 2 then 100 else if p = 3 then 1000 else if p = 4 then 10000 else if p = 5 then 100000 else if p = 6 then 1000000 else 1

/-- A decimal number as a whole one, six digits behind the point. -/
def decW (n p : Int) : Int := n * tenZ (6 - p)

theorem decW_cases (n : Int) {p : Int} (h1 : 1 ≤ p) (h2 : p ≤ 6) : (p = 1 ∧ tenZ p = 10 ∧ decW n p = n * 100000) ∨ (p = 2 ∧ tenZ p = 100 ∧ decW n p = n * 10000) ∨ (p = 3 ∧ tenZ p = 1000 ∧ decW n p = n * 1000) ∨ (p = 4 ∧ tenZ p = 10000 ∧ decW n p = n * 100) ∨ (p = 5 ∧ tenZ p = 100000 ∧ decW n p = n * 10) ∨ (p = 6 ∧ tenZ p = 1000000 ∧ decW n p = n) := by
  have : p = 1 ∨ p = 2 ∨ p = 3 ∨ p = 4 ∨ p = 5 ∨ p = 6 := by omega
  rcases this with rfl | rfl | rfl | rfl | rfl | rfl <;> simp [tenZ, decW]

theorem dec_close (n p : Int) (hn1 : -999999999 ≤ n) (hn2 : n ≤ 999999999) (h1 : 1 ≤ p) (h2 : p ≤ 6) :
    ∃ r v, double.div (floatOfInt .f64 n) (floatOfInt .f64 (tenZ p)) = some r ∧ Val r v ∧
      2251799813685248 * (1000000 * v) ≤ 2251799813685248 * (decW n p * 2 ^ u74) + 99999999900000 * 2 ^ u74 ∧ 2251799813685248 * (decW n p * 2 ^ u74) ≤ 2251799813685248 * (1000000 * v) + 99999999900000 * 2 ^ u74 := by
  have hU := two_pos u74
  have hA : (n.natAbs : Int) * 2 ^ u74 ≤ 999999999 * 2 ^ u74 := Int.mul_le_mul_of_nonneg_right (by omega) (Int.le_of_lt hU)
  obtain ⟨X, hX⟩ : ∃ X, X = n * (2 : Int) ^ u74 := ⟨_, rfl⟩
  rcases decW_cases n h1 h2 with ⟨-, e1, e2⟩ | ⟨-, e1, e2⟩ | ⟨-, e1, e2⟩ | ⟨-, e1, e2⟩ | ⟨-, e1, e2⟩ | ⟨-, e1, e2⟩
  · obtain ⟨r, v, q1, q2, q3, q4⟩ := dec_val n 10 (by omega) (by omega) (by omega)
    refine ⟨r, v, by rw [e1]; exact q1, q2, ?_⟩
    rw [e2, Int.mul_right_comm, ← hX]; rw [← hX] at q3 q4
    simp only [Int.cast_ofNat_Int] at q3 q4
    omega
  · obtain ⟨r, v, q1, q2, q3, q4⟩ := dec_val n 100 (by omega) (by omega) (by omega)
    refine ⟨r, v, by rw [e1]; exact q1, q2, ?_⟩
    rw [e2, Int.mul_right_comm, ← hX]; rw [← hX] at q3 q4
    simp only [Int.cast_ofNat_Int] at q3 q4
    omega
  · obtain ⟨r, v, q1, q2, q3, q4⟩ := dec_val n 1000 (by omega) (by omega) (by omega)
    refine ⟨r, v, by rw [e1]; exact q1, q2, ?_⟩
    rw [e2, Int.mul_right_comm, ← hX]; rw [← hX] at q3 q4
    simp only [Int.cast_ofNat_Int] at q3 q4
    omega
  · obtain ⟨r, v, q1, q2, q3, q4⟩ := dec_val n 10000 (by omega) (by omega) (by omega)
    refine ⟨r, v, by rw [e1]; exact q1, q2, ?_⟩
    rw [e2, Int.mul_right_comm, ← hX]; rw [← hX] at q3 q4
    simp only [Int.cast_ofNat_Int] at q3 q4
    omega
  · obtain ⟨r, v, q1, q2, q3, q4⟩ := dec_val n 100000 (by omega) (by omega) (by omega)
    refine ⟨r, v, by rw [e1]; exact q1, q2, ?_⟩
    rw [e2, Int.mul_right_comm, ← hX]; rw [← hX] at q3 q4
    simp only [Int.cast_ofNat_Int] at q3 q4
    omega
  · obtain ⟨r, v, q1, q2, q3, q4⟩ := dec_val n 1000000 (by omega) (by omega) (by omega)
    refine ⟨r, v, by rw [e1]; exact q1, q2, ?_⟩
    rw [e2, ← hX]; rw [← hX] at q3 q4
    simp only [Int.cast_ofNat_Int] at q3 q4
    omega

/-- Two decimal numbers in their shortest form are the same if they are equal. -/
theorem dec_same {n p m q : Int} (h1 : 1 ≤ p) (h2 : p ≤ 6) (g1 : 1 ≤ q) (g2 : q ≤ 6) (hp : p = 1 ∨ n.tmod 10 ≠ 0) (hq : q = 1 ∨ m.tmod 10 ≠ 0) (h : decW n p = decW m q) : n = m ∧ p = q := by
  have t1 : n.tmod 10 = 0 ↔ n % 10 = 0 := by rw [← Int.dvd_iff_tmod_eq_zero, Int.dvd_iff_emod_eq_zero]
  have t2 : m.tmod 10 = 0 ↔ m % 10 = 0 := by rw [← Int.dvd_iff_tmod_eq_zero, Int.dvd_iff_emod_eq_zero]
  rw [Ne, t1] at hp
  rw [Ne, t2] at hq
  rcases decW_cases n h1 h2 with ⟨rfl, -, e2⟩ | ⟨rfl, -, e2⟩ | ⟨rfl, -, e2⟩ | ⟨rfl, -, e2⟩ | ⟨rfl, -, e2⟩ | ⟨rfl, -, e2⟩ <;>
    rcases decW_cases m g1 g2 with ⟨rfl, -, f2⟩ | ⟨rfl, -, f2⟩ | ⟨rfl, -, f2⟩ | ⟨rfl, -, f2⟩ | ⟨rfl, -, f2⟩ | ⟨rfl, -, f2⟩ <;>
    rw [e2, f2] at h <;> omega

/-- Decimal numbers keep their order. -/
theorem dec_order {n p m q : Int} (hn1 : -999999999 ≤ n) (hn2 : n ≤ 999999999) (h1 : 1 ≤ p) (h2 : p ≤ 6) (hm1 : -999999999 ≤ m) (hm2 : m ≤ 999999999) (g1 : 1 ≤ q) (g2 : q ≤ 6) (hp : p = 1 ∨ n.tmod 10 ≠ 0) (hq : q = 1 ∨ m.tmod 10 ≠ 0) :
    ∃ r t, double.div (floatOfInt .f64 n) (floatOfInt .f64 (tenZ p)) = some r ∧ double.div (floatOfInt .f64 m) (floatOfInt .f64 (tenZ q)) = some t ∧ double.order r t = some (compare (decW n p) (decW m q)) := by
  obtain ⟨r, v, q1, q2, q3, q4⟩ := dec_close n p hn1 hn2 h1 h2
  obtain ⟨t, u, r1, r2, r3, r4⟩ := dec_close m q hm1 hm2 g1 g2
  refine ⟨r, t, q1, r1, ?_⟩
  have hU := two_pos u74
  rcases Int.lt_trichotomy (decW n p) (decW m q) with h | h | h
  · rw [cmp_lt.2 h]
    have h3 : (decW n p + 1) * (2 : Int) ^ u74 ≤ decW m q * 2 ^ u74 := Int.mul_le_mul_of_nonneg_right (by omega) (Int.le_of_lt hU)
    rw [Int.add_mul, Int.one_mul] at h3
    exact ord_lt q2 r2 (by omega)
  · obtain ⟨rfl, rfl⟩ := dec_same h1 h2 g1 g2 hp hq h
    rw [q1] at r1
    cases r1
    rw [ord_eq q2 q2 rfl]; simp
  · rw [cmp_gt.2 h]
    have h3 : (decW m q + 1) * (2 : Int) ^ u74 ≤ decW n p * 2 ^ u74 := Int.mul_le_mul_of_nonneg_right (by omega) (Int.le_of_lt hU)
    rw [Int.add_mul, Int.one_mul] at h3
    exact ord_gt q2 r2 (by omega)

end Go.Proofs.YtdhoimjkgicneaaDoor

/- The program's own real number of an operand. -/
namespace Go.Proofs.YtdhoimjkgicneaaDoor
open Go Go.RowKit

theorem tenZ_bd (k : Int) : 1 ≤ tenZ k ∧ tenZ k ≤ 1000000 := by
  unfold tenZ
  repeat' split
  all_goals omega
theorem tenZ_succ {k : Nat} (h : k < 6) : tenZ k * 10 = tenZ ((k : Int) + 1) := by
  have : k = 0 ∨ k = 1 ∨ k = 2 ∨ k = 3 ∨ k = 4 ∨ k = 5 := by omega
  rcases this with rfl | rfl | rfl | rfl | rfl | rfl <;> simp [tenZ]

set_option maxHeartbeats 400000 in
theorem impl_real_dec (n : Int) (p r : Nat) (w : World) (hp : p ≤ 6) (hr : floatBits .quo .f64 (floatOfInt .f64 n) (floatOfInt .f64 (tenZ p)) = some r) :
    Calls Tryd.prog 84 #[.int .i64 n, .int .i64 p] w fun e w' => e = .returned (.float .f64 r) ∧ w' = w := by
  have q : ∀ t w, (binOp .quo t (.float .f64 (floatOfInt .f64 n)) (.float .f64 (floatOfInt .f64 (tenZ p)))).run Tryd.prog w = .ok (.float .f64 r) w := fun t w => run_float_arith w .quo t .f64 _ _ _ hr
  clear hr
  go_enter Tryd.func84, Tryd.ntmps84
  go_wp2
  go_loop [5, 7] (fun t i => ∃ (k : Nat) (T : Int), k ≤ p ∧ t = .int .i64 T ∧ i = .int .i64 k ∧ T = tenZ k) (fun _ i => p - (intOf i).toNat)
  case atStart => exact ⟨0, 1, by omega, rfl, rfl, by simp [tenZ]⟩
  case round =>
    obtain ⟨k, T, hk, rfl, rfl, hT⟩ := hrel
    have hb := tenZ_bd k
    rw [← hT] at hb
    obtain ⟨t1, t2⟩ := hb
    by_cases hlt : k < p
    · have HT : Hid (T = tenZ k) := hT
      clear hT
      go_wp2
      go_round
      case rel => exact ⟨k + 1, T * 10, by omega, by go_num, by go_num, by rw [HT.out, tenZ_succ (by omega)]; simp⟩
      case measure => simp [intOf]; omega
    · have e : k = p := by omega
      subst e
      subst hT
      go_wp2
      go_ret
      exact ⟨rfl, rfl⟩

end Go.Proofs.YtdhoimjkgicneaaDoor
