/- The text of a real number: what its walks lean on. Of no one program. -/
import Derived.Test.YtdhoimjkgicneaaDoorTxtB
import Derived.WalkKit
import Derived.Below
namespace Go.Proofs.YtdhoimjkgicneaaDoor
open Go Go.RowKit

theorem half_eq {a b c V : Nat} (h : a * 2 = b) (h2 : b * 2 ^ c = V) : a * 2 ^ (c + 1) = V := by rw [← h2, ← h, Nat.pow_succ', Nat.mul_assoc]
theorem dbl_eq {a b c W : Nat} (h : a = b * 2) (h2 : b = W * 2 ^ c) : a = W * 2 ^ (c + 1) := by rw [h, h2, Nat.pow_succ, Nat.mul_assoc]

theorem half_odd {N t m : Nat} (hev : N % 2 = 0) (ht : N * 2 ^ t = m) : N / 2 * 2 ^ (t + 1) = m := by
  rw [← ht, Nat.pow_succ', ← Nat.mul_assoc]
  congr 1
  omega

section
open Ieee

theorem num_zero : Num 0 false 0 0 := ⟨by decide +kernel, by decide, by decide, Or.inl rfl⟩
theorem num_max : Num 9218868437227405311 false 9007199254740991 2045 := ⟨by decide +kernel, by decide, by decide, Or.inr (by decide)⟩

theorem read_neg (x : Nat) : double.read (Op.negFloat .f64 x) = (double.read x).opposite := by
  have e : Op.negFloat .f64 x = x ^^^ 2 ^ 63 := rfl
  have h1 : (x ^^^ 2 ^ 63) % 9223372036854775808 = x % 9223372036854775808 := by
    rw [show (9223372036854775808 : Nat) = 2 ^ 63 from by decide +kernel, Nat.xor_mod_two_pow, Nat.mod_self, Nat.xor_zero]
  have h2 : ((x ^^^ 2 ^ 63) / 9223372036854775808 % 2 == 1) = !(x / 9223372036854775808 % 2 == 1) := by
    rw [show (9223372036854775808 : Nat) = 2 ^ 63 from by decide +kernel, Nat.xor_div_two_pow, Nat.div_self (Nat.two_pow_pos _)]
    obtain ⟨a, ha⟩ : ∃ a, x / 2 ^ 63 = a := ⟨_, rfl⟩
    rw [ha]
    have hx : (a ^^^ 1) % 2 = a % 2 ^^^ 1 % 2 := Nat.xor_mod_two_pow (n := 1)
    rw [hx]
    have : a % 2 = 0 ∨ a % 2 = 1 := by omega
    rcases this with h | h
    · rw [h]; rfl
    · rw [h]; rfl
  rw [e]
  simp only [Format.read, d_sw, d_bin, d_inf, h1, h2]
  split
  · rfl
  · split
    · rfl
    · split <;> rfl

theorem Num.neg {x m k : Nat} {s : Bool} (h : Num x s m k) : Num (Op.negFloat .f64 x) (!s) m k := ⟨by rw [read_neg, h.read]; rfl, h.m53, h.k45, h.norm⟩

theorem Num.self {x m k : Nat} {s : Bool} (h : Num x s m k) : FloatKind.f64.format.order x x = some .eq := ord_eq h.val h.val rfl

theorem inf_self {x : Nat} {s : Bool} (h : double.read x = .infinity s) : FloatKind.f64.format.order x x = some .eq := by
  show double.order x x = _
  simp [Format.order, h, Datum.order]
theorem inf_zero {x : Nat} {s : Bool} (h : double.read x = .infinity s) : FloatKind.f64.format.order x 0 = some (if s then .lt else .gt) := by
  show double.order x 0 = _
  simp only [Format.order, h, num_zero.read, Datum.order]
theorem inf_max {x : Nat} (h : double.read x = .infinity false) : FloatKind.f64.format.order x 9218868437227405311 = some .gt := by
  show double.order x _ = _
  simp only [Format.order, h, num_max.read, Datum.order]
  rfl

theorem Num.zero {x m k : Nat} {s : Bool} (h : Num x s m k) : FloatKind.f64.format.order x 0 = some (if m = 0 then .eq else if s then .lt else .gt) := by
  have e : FloatKind.f64.format.order x 0 = some (compare (sg s (m * 2 ^ k)) (sg false (0 * 2 ^ 0))) := order_val h.val num_zero.val
  rw [e]
  by_cases hm : m = 0
  · subst hm; cases s <;> simp [sg]
  · have hp : 0 < m * 2 ^ k := Nat.pos_of_ne_zero (Nat.mul_ne_zero hm (Nat.ne_of_gt (Nat.two_pow_pos _)))
    rw [if_neg hm]
    cases s
    · rw [cmp_gt.2 (by simp only [sg, Bool.false_eq_true, if_false]; omega)]; rfl
    · rw [cmp_lt.2 (by simp only [sg, Bool.false_eq_true, if_false, if_true]; omega)]; rfl

theorem Num.max {x m k : Nat} {s : Bool} (h : Num x s m k) : (FloatKind.f64.format.order x 9218868437227405311 == some .gt) = false := by
  obtain ⟨K, hK⟩ : ∃ K, K = 2045 := ⟨_, rfl⟩
  have hn : Num 9218868437227405311 false 9007199254740991 K := by rw [hK]; exact num_max
  have e : FloatKind.f64.format.order x 9218868437227405311 = some (compare (sg s (m * 2 ^ k)) (sg false (9007199254740991 * 2 ^ K))) := order_val h.val hn.val
  have hle : m * 2 ^ k ≤ 9007199254740991 * 2 ^ K := Nat.mul_le_mul (by have := h.m53; omega) (Nat.pow_le_pow_right (by omega) (by have := h.k45; omega))
  have hle2 : sg s (m * 2 ^ k) ≤ sg false (9007199254740991 * 2 ^ K) := by cases s <;> simp only [sg, Bool.false_eq_true, if_false, if_true] <;> omega
  rw [e]
  rcases Int.lt_or_eq_of_le hle2 with g | g
  · rw [cmp_lt.2 g]; rfl
  · rw [g]; simp

end

theorem ret_strR {a b : ByteArray} (h : a = b) : Ending.returned (.string a) = .returned (.string b) := by rw [h]

/-- What a text of a real number leaves. -/
def Wrote (x : Nat) (w : World) (e : Ending) (w' : World) : Prop := ∃ l, e = .returned (.string ⟨l.toArray⟩) ∧ Txt x l ∧ l.length ≤ 50 ∧ Below w.heap.size w w'

theorem itoa_nat (n : Nat) : Lib.itoa (n : Int) = Lib.decDigits n := by unfold Lib.itoa; rw [if_neg (by omega)]; rfl
theorem c_bound {V n c : Nat} (h : V = n * 2 ^ c) (hV : V < 2 ^ u98) (hn : n % 2 = 1) : c < 2098 := by
  have h1 : (2 : Nat) ^ c < 2 ^ u98 := by
    refine Nat.lt_of_le_of_lt ?_ hV
    rw [h]
    exact Nat.le_mul_of_pos_left _ (by omega)
  have := (Nat.pow_lt_pow_iff_right (a := 2) (by omega)).1 h1
  have := u98_eq
  omega
theorem itoa_len5 {n : Int} (h1 : -9999 ≤ n) (h2 : n ≤ 9999) : (Lib.itoa n).length ≤ 5 := by
  unfold Lib.itoa
  split
  · have := dd_len 3 n.natAbs (by omega)
    simp; omega
  · have := dd_len 3 n.toNat (by omega)
    omega

theorem div_one_zero {x k : Nat} {s : Bool} (h : Num x s 0 k) : Ieee.double.div 4607182418800017408 x = some (Ieee.double.word s 9218868437227405312) := by
  have r1 : Ieee.double.read 4607182418800017408 = .number false 4503599627370496 (-52) := by decide +kernel
  simp [Ieee.Format.div, r1, h.read, Ieee.Datum.quotient, Ieee.Format.write, d_inf]

theorem finL_bd {s : Bool} {n c : Nat} (h1 : n < 9007199254740992) (h2 : c < 2098) : (finL s n c).length ≤ 30 := by
  have hl1 := dd_len 15 n (by omega)
  have hl2 := itoa_len5 (n := (c : Int) - 1074) (by omega) (by omega)
  have := sgn_len s
  simp [finL]
  omega

theorem txt_minus {x : Nat} {l : List UInt8} (h : Ieee.double.read x = .infinity true ∨ ∃ m k, Num x true m k ∧ m ≠ 0) (hl : Txt (Op.negFloat .f64 x) l) : Txt x (45 :: l) := by
  rcases h with h | ⟨m, k, h, h0⟩
  · have hn : Ieee.double.read (Op.negFloat .f64 x) = .infinity false := by rw [read_neg, h]; rfl
    have h2 : Txt (Op.negFloat .f64 x) (sgnL false ++ [105, 110, 102]) := Or.inr (Or.inl ⟨false, hn, rfl⟩)
    rw [txt_fun hl h2]
    exact Or.inr (Or.inl ⟨true, h, rfl⟩)
  · have hn := h.neg
    rcases hl with ⟨⟨s', t, h1⟩, -⟩ | ⟨s', h1, -⟩ | ⟨s', k2, h1, -⟩ | ⟨s', m2, k2, n, c, h1, h2, h3, h4, rfl⟩
    · have := hn.read; rw [h1] at this; cases this
    · have := hn.read; rw [h1] at this; cases this
    · obtain ⟨-, e, -⟩ := num_read hn h1; exact absurd e h0
    · obtain ⟨e1, rfl, rfl⟩ := num_read hn h1
      have e2 : s' = false := e1.symm
      subst e2
      exact Or.inr (Or.inr (Or.inr ⟨true, m, k, n, c, h, h0, h3, h4, rfl⟩))

end Go.Proofs.YtdhoimjkgicneaaDoor
