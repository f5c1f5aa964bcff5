/- What is left of a real number when it is cut to a whole one. Of no one program. -/
import Derived.Test.YtdhoimjkgicneaaDoorFltB
namespace Go.Proofs.YtdhoimjkgicneaaDoor
open Go Ieee

theorem cmp_gt {a b : Int} : compare a b = .gt ↔ b < a := Int.compare_eq_gt
theorem cmp_lt {a b : Int} : compare a b = .lt ↔ a < b := Int.compare_eq_lt

theorem ord_gt {x y : Nat} {v u : Int} (h : Val x v) (g : Val y u) (k : u < v) : double.order x y = some .gt := by rw [order_val h g, cmp_gt.2 k]
theorem ord_lt {x y : Nat} {v u : Int} (h : Val x v) (g : Val y u) (k : v < u) : double.order x y = some .lt := by rw [order_val h g, cmp_lt.2 k]
theorem ord_eq {x y : Nat} {v u : Int} (h : Val x v) (g : Val y u) (k : v = u) : double.order x y = some .eq := by subst k; rw [order_val h g]; simp

theorem num_of_between {x y z : Nat} (h1 : double.order x y = some .gt) (h2 : double.order x z = some .lt) {v u : Int} (hy : Val y v) (hz : Val z u) : ∃ s m k, Num x s m k := by
  obtain ⟨s1, m1, k1, n1, -⟩ := hy
  obtain ⟨s2, m2, k2, n2, -⟩ := hz
  rcases read_cases x with h | ⟨s, h⟩ | ⟨s, t, h⟩
  · exact h
  · exfalso
    simp only [Format.order, h, n1.read, n2.read, Datum.order] at h1 h2
    cases s <;> simp at h1 h2
  · exfalso
    rw [order_nan_left h] at h1
    cases h1

theorem left_of (m k : Nat) (hm : m < 9007199254740992) : ∃ a j, m * 2 ^ k % 2 ^ u74 = a * 2 ^ j ∧ a < 9007199254740992 ∧ j ≤ 1074 := by
  by_cases hk : k ≤ 1074
  · refine ⟨m % 2 ^ (u74 - k), k, ?_, Nat.lt_of_le_of_lt (Nat.mod_le _ _) hm, hk⟩
    rw [show (2 : Nat) ^ u74 = 2 ^ (u74 - k) * 2 ^ k from by rw [← Nat.pow_add]; congr 1; have := u74_eq; omega]
    exact Nat.mul_mod_mul_right _ _ _
  · refine ⟨0, 0, ?_, by omega, by omega⟩
    rw [show m * 2 ^ k = m * 2 ^ (k - u74) * 2 ^ u74 from by rw [Nat.mul_assoc, ← Nat.pow_add]; congr 2; have := u74_eq; omega]
    simp

theorem small_lt {a j : Nat} (ha : a < 9007199254740992) (hj : j ≤ 2000) : a * 2 ^ j < 2 ^ u98 := by
  refine Nat.lt_of_lt_of_le (Nat.mul_lt_mul_of_pos_right ha (Nat.two_pow_pos _)) ?_
  rw [show (9007199254740992 : Nat) = 2 ^ 53 from by decide +kernel, ← Nat.pow_add]
  exact Nat.pow_le_pow_right (by omega) (by rw [u98_eq]; omega)

theorem real_whole {x : Nat} (h1 : double.order x (floatOfInt .f64 (-32769)) = some .gt) (h2 : double.order x (floatOfInt .f64 32768) = some .lt) :
    ∃ n : Int, -32768 ≤ n ∧ n ≤ 32767 ∧ (FloatKind.f64.decode x).toInt .zero = some n ∧ ∃ r, double.sub x (floatOfInt .f64 n) = some r ∧ double.order r (floatOfInt .f64 (-1)) = some .gt ∧ double.order r (floatOfInt .f64 1) = some .lt ∧
      (double.order x (floatOfInt .f64 0) = some .lt ∨ double.order r (floatOfInt .f64 0) = some .gt ∨ double.order r (floatOfInt .f64 0) = some .eq) ∧
      (double.order x (floatOfInt .f64 0) = some .gt ∨ double.order r (floatOfInt .f64 0) = some .lt ∨ double.order r (floatOfInt .f64 0) = some .eq) := by
  have v1 := val_int (-32769) (by decide)
  have v2 := val_int 32768 (by decide)
  obtain ⟨s, m, k, hx⟩ := num_of_between h1 h2 v1 v2
  rw [order_val hx.val v1] at h1
  rw [order_val hx.val v2] at h2
  have g1 := cmp_gt.1 (Option.some.inj h1)
  have g2 := cmp_lt.1 (Option.some.inj h2)
  have hU : (0 : Int) < 2 ^ u74 := two_pos _
  have hUN : 0 < 2 ^ u74 := Nat.two_pow_pos _
  have hc : ((2 ^ u74 : Nat) : Int) = 2 ^ u74 := by simp
  obtain ⟨q, hq⟩ : ∃ q, m * 2 ^ k / 2 ^ u74 = q := ⟨_, rfl⟩
  obtain ⟨l, hl⟩ : ∃ l, m * 2 ^ k % 2 ^ u74 = l := ⟨_, rfl⟩
  have hA : m * 2 ^ k = 2 ^ u74 * q + l := by rw [← hq, ← hl]; exact (Nat.div_add_mod _ _).symm
  have hlt : l < 2 ^ u74 := by rw [← hl]; exact Nat.mod_lt _ hUN
  have hAz : ((m * 2 ^ k : Nat) : Int) = 2 ^ u74 * q + l := by rw [hA, Int.natCast_add, Int.natCast_mul, hc]
  have hltz : (l : Int) < 2 ^ u74 := by rw [← hc]; exact Int.ofNat_lt.2 hlt
  have hn : -32768 ≤ sg s q ∧ sg s q ≤ 32767 := by
    cases s
    · simp only [sg, Bool.false_eq_true, if_false] at g1 g2 ⊢
      rw [hAz] at g2
      have h3 : (q : Int) < 32768 := by
        apply Int.lt_of_mul_lt_mul_left (a := (2 : Int) ^ u74) _ (Int.le_of_lt hU)
        rw [Int.mul_comm _ 32768]; omega
      omega
    · simp only [sg, if_true] at g1 g2 ⊢
      rw [hAz] at g1
      have h3 : (q : Int) < 32769 := by
        apply Int.lt_of_mul_lt_mul_left (a := (2 : Int) ^ u74) _ (Int.le_of_lt hU)
        rw [Int.mul_comm _ 32769]; omega
      omega
  refine ⟨sg s q, hn.1, hn.2, by rw [cut_num hx, hq], ?_⟩
  have vn := val_int (sg s q) (by omega)
  have hd : sg s (m * 2 ^ k) - sg s q * 2 ^ u74 = sg s l := by
    cases s
    · simp only [sg, Bool.false_eq_true, if_false]; rw [hAz, Int.mul_comm (q : Int)]; omega
    · simp only [sg, if_true]; rw [hAz, Int.neg_mul, Int.mul_comm (q : Int)]; omega
  obtain ⟨a, j, e1, e2, e3⟩ := left_of m k hx.m53
  obtain ⟨r, hr, vr⟩ := sub_exact hx.val vn a j (by rw [hd, sg_abs, ← hl, e1]) e2 (small_lt e2 (by omega))
  rw [hd] at vr
  have w0 := val_int 0 (by decide)
  have w1 := val_int 1 (by decide)
  have w2 := val_int (-1) (by decide)
  refine ⟨r, hr, ord_gt vr w2 ?_, ord_lt vr w1 ?_, ?_, ?_⟩
  · cases s <;> simp only [sg, Bool.false_eq_true, if_false, if_true] <;> omega
  · cases s <;> simp only [sg, Bool.false_eq_true, if_false, if_true] <;> omega
  · cases s
    · right
      by_cases hl0 : l = 0
      · right; refine ord_eq vr w0 ?_; subst hl0; simp [sg]
      · left; refine ord_gt vr w0 ?_; simp only [sg, Bool.false_eq_true, if_false]; omega
    · by_cases hA0 : m * 2 ^ k = 0
      · right; right; refine ord_eq vr w0 ?_
        have : l = 0 := by rw [← hl, hA0]; simp
        subst this; simp [sg]
      · left; refine ord_lt hx.val w0 ?_; simp only [sg, if_true]; omega
  · cases s
    · by_cases hA0 : m * 2 ^ k = 0
      · right; right; refine ord_eq vr w0 ?_
        have : l = 0 := by rw [← hl, hA0]; simp
        subst this; simp [sg]
      · left; refine ord_gt hx.val w0 ?_; simp only [sg, Bool.false_eq_true, if_false]; omega
    · right
      by_cases hl0 : l = 0
      · right; refine ord_eq vr w0 ?_; subst hl0; simp [sg]
      · left; refine ord_lt vr w0 ?_; simp only [sg, if_true]; omega

end Go.Proofs.YtdhoimjkgicneaaDoor
