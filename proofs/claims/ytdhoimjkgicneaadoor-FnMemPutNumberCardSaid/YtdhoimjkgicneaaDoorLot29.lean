/- Texts of this proof laid together: ArgA, FltD. -/
import Derived.Test.YtdhoimjkgicneaaDoorLot7
import Derived.Test.YtdhoimjkgicneaaDoorLot28
import Derived.Laws.Externs
import Derived.Test.YtdhoimjkgicneaaDoorLot10
/- The words of the library on real numbers that the program asks for: nan, the infinities, minus zero. -/
namespace Go.Proofs.YtdhoimjkgicneaaDoor
open Go Go.RowKit

theorem lib_inf (w : World) : Calls Tryd.prog 86 #[.int .i64 1] w fun e w' => e = .returned (.float .f64 9218868437227405312) ∧ w' = w := by
  have fb : ∀ w, (callFunc 130 #[.int .u64 9218868437227405312]).run Tryd.prog w = .ok (.value (.float .f64 9218868437227405312)) w := from_bits 9218868437227405312
  go_enter Tryd.func86, Tryd.ntmps86
  go_wp2
  go_ret
  exact ⟨rfl, rfl⟩

theorem lib_neg_inf (w : World) : Calls Tryd.prog 86 #[.int .i64 (-1)] w fun e w' => e = .returned (.float .f64 18442240474082181120) ∧ w' = w := by
  have fb : ∀ w, (callFunc 130 #[.int .u64 18442240474082181120]).run Tryd.prog w = .ok (.value (.float .f64 18442240474082181120)) w := from_bits 18442240474082181120
  go_enter Tryd.func86, Tryd.ntmps86
  go_wp2
  go_ret
  exact ⟨rfl, rfl⟩

/-- The bits of an infinity, by a sign. -/
def infF (s : Int) : Nat := if 0 ≤ s then 9218868437227405312 else 18442240474082181120

theorem lib_infs (s : Int) (w : World) : Calls Tryd.prog 86 #[.int .i64 s] w fun e w' => e = .returned (.float .f64 (infF s)) ∧ w' = w := by
  have f1 : ∀ w, (callFunc 130 #[.int .u64 9218868437227405312]).run Tryd.prog w = .ok (.value (.float .f64 9218868437227405312)) w := from_bits 9218868437227405312
  have f2 : ∀ w, (callFunc 130 #[.int .u64 18442240474082181120]).run Tryd.prog w = .ok (.value (.float .f64 18442240474082181120)) w := from_bits 18442240474082181120
  by_cases h : 0 ≤ s
  · have e : infF s = 9218868437227405312 := by simp [infF, h]
    rw [e]
    go_enter Tryd.func86, Tryd.ntmps86
    go_wp2
    go_ret
    exact ⟨rfl, rfl⟩
  · have e : infF s = 18442240474082181120 := by simp [infF, h]
    rw [e]
    go_enter Tryd.func86, Tryd.ntmps86
    go_wp2
    go_ret
    exact ⟨rfl, rfl⟩

set_option maxRecDepth 100000 in
theorem lib_sign (w : World) : Calls Tryd.prog 131 #[.float .f64 0, .float .f64 13830554455654793216] w fun e w' => e = .returned (.float .f64 9223372036854775808) ∧ w' = w := by
  have tb0 : ∀ w, (callFunc 133 #[.float .f64 0]).run Tryd.prog w = .ok (.value (.int .u64 0)) w := to_bits 0
  have tb1 : ∀ w, (callFunc 133 #[.float .f64 13830554455654793216]).run Tryd.prog w = .ok (.value (.int .u64 13830554455654793216)) w := to_bits 13830554455654793216
  have fb : ∀ w, (callFunc 130 #[.int .u64 9223372036854775808]).run Tryd.prog w = .ok (.value (.float .f64 9223372036854775808)) w := from_bits 9223372036854775808
  have a1 : bits .andNot .u64 0 9223372036854775808 = 0 := by decide +kernel
  have a2 : bits .and .u64 13830554455654793216 9223372036854775808 = 9223372036854775808 := by decide +kernel
  have a3 : bits .or .u64 0 9223372036854775808 = 9223372036854775808 := by decide +kernel
  go_enter Tryd.func131, Tryd.ntmps131
  go_wp2
  go_ret
  exact ⟨rfl, rfl⟩

theorem impl_mzero (w : World) : Calls Tryd.prog 87 #[] w fun e w' => e = .returned (.float .f64 9223372036854775808) ∧ w' = w := by
  go_enter Tryd.func87, Tryd.ntmps87
  go_wp2_with (go_at_call 131; refine (lib_sign _).mono ?_; rintro e w' ⟨rfl, rfl⟩)
  go_ret
  exact ⟨rfl, rfl⟩

end Go.Proofs.YtdhoimjkgicneaaDoor

/- The quotient of two real numbers: how near it is to the true one; and that doubling and halving are exact. Of no one program. -/
namespace Go.Proofs.YtdhoimjkgicneaaDoor
open Go Ieee

theorem log2_normal {m : Nat} (h1 : 4503599627370496 ≤ m) (h2 : m < 9007199254740992) : m.log2 = 52 :=
  (Nat.log2_eq_iff (by omega)).2 ⟨by rw [show (2 : Nat) ^ 52 = 4503599627370496 from by decide +kernel]; exact h1, by rw [show (2 : Nat) ^ (52 + 1) = 9007199254740992 from by decide +kernel]; exact h2⟩

theorem cut_even4 (s : Bool) (n : Nat) (h : n.log2 = 54) : 4 * Toward.even.cut s n 2 ≤ n + 2 ∧ n ≤ 4 * Toward.even.cut s n 2 + 2 := by
  simp only [Toward.cut, h]
  rw [show (1 : Nat) <<< min 2 (54 + 2) = 4 from by decide]
  cases hc : decide (4 < 2 * (n % 4)) || (4 == 2 * (n % 4) && n / 4 % 2 == 1) with
  | false => simp at hc ⊢; omega
  | true => simp at hc ⊢; omega

theorem cut_even8 (s : Bool) (n : Nat) (h : n.log2 = 55) : 8 * Toward.even.cut s n 3 ≤ n + 4 ∧ n ≤ 8 * Toward.even.cut s n 3 + 4 := by
  simp only [Toward.cut, h]
  rw [show (1 : Nat) <<< min 3 (55 + 2) = 8 from by decide]
  cases hc : decide (8 < 2 * (n % 8)) || (8 == 2 * (n % 8) && n / 8 % 2 == 1) with
  | false => simp at hc ⊢; omega
  | true => simp at hc ⊢; omega

/-- A quotient's digits, and how near they are. -/
theorem quot_digits (s : Bool) (M : Nat) (p : Int) (h1 : 18014398509481984 ≤ M) (h2 : M < 72057594037927936) (hp : -1074 ≤ p) (hp2 : p ≤ 900) :
    ∃ (b d : Nat), (d = 2 ∨ d = 3) ∧ 2 ^ d * b ≤ M + 4 ∧ M ≤ 2 ^ d * b + 4 ∧ Val (double.nearest s M p) (sg s (b * 2 ^ ((p + 1074).toNat + d))) := by
  have h0 : M ≠ 0 := by omega
  by_cases h3 : M < 36028797018963968
  · have hl : M.log2 = 54 := (Nat.log2_eq_iff h0).2 ⟨by rw [show (2 : Nat) ^ 54 = 18014398509481984 from by decide +kernel]; exact h1, by rw [show (2 : Nat) ^ (54 + 1) = 36028797018963968 from by decide +kernel]; exact h3⟩
    obtain ⟨c1, c2⟩ := cut_even4 s M hl
    obtain ⟨b, hb⟩ : ∃ b, Toward.even.cut s M 2 = b := ⟨_, rfl⟩
    rw [hb] at c1 c2
    refine ⟨b, 2, Or.inl rfl, by omega, by omega, ?_⟩
    obtain ⟨m, k, n1, n2⟩ := word_num s ((p + 1074).toNat + 2) b (by omega) (by omega) (by omega)
    have e : double.nearest s M p = double.word s (((p + 1074).toNat + 2) * 4503599627370496 + b) := by
      simp only [Format.nearest, if_neg h0, d_fb, d_lp, d_bin, d_inf, hl]
      rw [show max (p + ((54 : Nat) : Int) - ((52 : Nat) : Int)) (-1074) = p + 2 by omega, show (p - (p + 2)).toNat = 0 by omega, show (p + 2 - p).toNat = 2 by omega, Nat.shiftLeft_zero, hb,
        show (p + 2 - -1074).toNat = (p + 1074).toNat + 2 by omega, Nat.min_eq_left (by omega)]
    rw [e, ← n2]; exact n1.val
  · have hl : M.log2 = 55 := (Nat.log2_eq_iff h0).2 ⟨by rw [show (2 : Nat) ^ 55 = 36028797018963968 from by decide +kernel]; omega, by rw [show (2 : Nat) ^ (55 + 1) = 72057594037927936 from by decide +kernel]; exact h2⟩
    obtain ⟨c1, c2⟩ := cut_even8 s M hl
    obtain ⟨b, hb⟩ : ∃ b, Toward.even.cut s M 3 = b := ⟨_, rfl⟩
    rw [hb] at c1 c2
    refine ⟨b, 3, Or.inr rfl, by omega, by omega, ?_⟩
    obtain ⟨m, k, n1, n2⟩ := word_num s ((p + 1074).toNat + 3) b (by omega) (by omega) (by omega)
    have e : double.nearest s M p = double.word s (((p + 1074).toNat + 3) * 4503599627370496 + b) := by
      simp only [Format.nearest, if_neg h0, d_fb, d_lp, d_bin, d_inf, hl]
      rw [show max (p + ((55 : Nat) : Int) - ((52 : Nat) : Int)) (-1074) = p + 3 by omega, show (p - (p + 3)).toNat = 0 by omega, show (p + 3 - p).toNat = 3 by omega, Nat.shiftLeft_zero, hb,
        show (p + 3 - -1074).toNat = (p + 1074).toNat + 3 by omega, Nat.min_eq_left (by omega)]
    rw [e, ← n2]; exact n1.val

theorem quot_bd (m n : Nat) (hm1 : 4503599627370496 ≤ m) (hm2 : m < 9007199254740992) (hn1 : 4503599627370496 ≤ n) (hn2 : n < 9007199254740992) :
    ∃ q, (m <<< 54) / n = q ∧ q * n ≤ 18014398509481984 * m ∧ 18014398509481984 * m < (q + 1) * n ∧ 9007199254740992 ≤ q ∧ q < 36028797018963968 := by
  refine ⟨_, rfl, ?_⟩
  have e : m <<< 54 = 18014398509481984 * m := by rw [Nat.shiftLeft_eq, Nat.mul_comm]
  rw [e]
  obtain ⟨q, hq⟩ : ∃ q, 18014398509481984 * m / n = q := ⟨_, rfl⟩
  rw [hq]
  have h1 : q * n ≤ 18014398509481984 * m := by rw [← hq]; exact Nat.div_mul_le_self _ _
  have h2 : 18014398509481984 * m < (q + 1) * n := by rw [← hq, Nat.mul_comm (_ + 1) n]; exact Nat.lt_mul_div_succ (18014398509481984 * m) (show 0 < n by omega)
  refine ⟨h1, h2, ?_, ?_⟩
  · rw [← hq]
    refine (Nat.le_div_iff_mul_le (by omega)).2 ?_
    omega
  · rw [← hq]
    refine (Nat.div_lt_iff_lt_mul (by omega)).2 ?_
    omega

/-- The quotient of two numbers with all their digits. -/
theorem div_near {x y m n k l : Nat} {s : Bool} (hx : Num x s m k) (hy : Num y false n l) (hm : 4503599627370496 ≤ m) (hn : 4503599627370496 ≤ n) (hp : 55 + l ≤ k + 1074) (hp2 : k ≤ l + 900) :
    ∃ r b d, (d = 2 ∨ d = 3) ∧ double.div x y = some r ∧ Val r (sg s (b * 2 ^ (k + 1019 - l + d))) ∧ 2 ^ d * b * n ≤ 36028797018963968 * m + 6 * n ∧ 36028797018963968 * m ≤ 2 ^ d * b * n + 6 * n := by
  obtain ⟨q, hq, q1, q2, q3, q4⟩ := quot_bd m n hm hx.m53 hn hy.m53
  obtain ⟨e, he, he2⟩ : ∃ e, ((m <<< 54) % n != 0).toNat = e ∧ e ≤ 1 := ⟨_, rfl, Bool.toNat_le _⟩
  obtain ⟨b, d, hd, b1, b2, hv⟩ := quot_digits s (2 * q + e) ((k : Int) - l - 55) (by omega) (by omega) (by omega) (by omega)
  refine ⟨double.nearest s (2 * q + e) ((k : Int) - l - 55), b, d, hd, ?_, ?_, ?_, ?_⟩
  · simp only [Format.div, hx.read, hy.read, Datum.quotient, d_fb]
    rw [if_neg (by omega), log2_normal hm hx.m53, log2_normal hn hy.m53]
    rw [show 52 + 2 + 52 - 52 = 54 from rfl, hq, he]
    simp only [Option.map, Format.write, Bool.xor_false]
    rw [show (k : Int) - 1074 - ((l : Int) - 1074) - ((54 : Nat) : Int) - 1 = (k : Int) - l - 55 by omega]
  · rw [show ((k : Int) - l - 55 + 1074).toNat = k + 1019 - l by omega] at hv
    exact hv
  · have h1 : 2 ^ d * b * n ≤ (2 * q + e + 4) * n := Nat.mul_le_mul_right _ b1
    have h2 : (2 * q + e + 4) * n = 2 * (q * n) + (e + 4) * n := by rw [Nat.add_assoc, Nat.add_mul, Nat.mul_assoc]
    have h3 : (e + 4) * n ≤ 6 * n := Nat.mul_le_mul_right _ (by omega)
    omega
  · have h1 : (2 * q + e) * n ≤ (2 ^ d * b + 4) * n := Nat.mul_le_mul_right _ b2
    have h2 : (2 * q + e) * n = 2 * (q * n) + e * n := by rw [Nat.add_mul, Nat.mul_assoc]
    have h3 : (2 ^ d * b + 4) * n = 2 ^ d * b * n + 4 * n := Nat.add_mul _ _ _
    have h4 : (q + 1) * n = q * n + n := by rw [Nat.add_mul, Nat.one_mul]
    have h5 : 0 ≤ e * n := Nat.zero_le _
    omega

end Go.Proofs.YtdhoimjkgicneaaDoor
