/- Floating-point words as whole numbers of the smallest step: order, whole numbers, differences, cutting. Of no one program. -/
import Derived.Test.YtdhoimjkgicneaaDoorFltA
namespace Go.Proofs.YtdhoimjkgicneaaDoor
open Go Ieee

/-- A number with its sign. -/
def sg (s : Bool) (n : Nat) : Int := if s then -(n : Int) else n

/-- The word x is the number v, counted in the smallest steps. -/
def Val (x : Nat) (v : Int) : Prop := ∃ s m k, Num x s m k ∧ v = sg s (m * 2 ^ k)

theorem Num.val {x m k : Nat} {s : Bool} (h : Num x s m k) : Val x (sg s (m * 2 ^ k)) := ⟨s, m, k, h, rfl⟩

theorem sg_mul (s : Bool) (a b : Nat) : sg s (a * b) = sg s a * (b : Int) := by cases s <;> simp [sg, Int.neg_mul]
theorem signed_sg (s : Bool) (m u : Nat) : signed s m u = sg s (m * 2 ^ u) := by cases s <;> simp [signed, sg, Nat.shiftLeft_eq]
theorem sg_not (s : Bool) (n : Nat) : sg (!s) n = -sg s n := by cases s <;> simp [sg]
theorem sg_abs (s : Bool) (n : Nat) : (sg s n).natAbs = n := by cases s <;> simp [sg]

theorem compare_mul (a b c : Int) (hc : 0 < c) : compare (a * c) (b * c) = compare a b := by
  rcases Int.lt_trichotomy a b with h | h | h
  · have h2 : a * c < b * c := Int.mul_lt_mul_of_pos_right h hc
    rw [Int.compare_eq_lt.2 h, Int.compare_eq_lt.2 h2]
  · subst h; simp
  · have h2 : b * c < a * c := Int.mul_lt_mul_of_pos_right h hc
    rw [Int.compare_eq_gt.2 h, Int.compare_eq_gt.2 h2]

theorem two_pos (k : Nat) : (0 : Int) < 2 ^ k := Int.pow_pos (by decide)

theorem sg_scale (s : Bool) (m k b : Nat) (h : b ≤ k) : sg s (m * 2 ^ (k - b)) * (2 : Int) ^ b = sg s (m * 2 ^ k) := by
  have : m * 2 ^ k = m * 2 ^ (k - b) * 2 ^ b := by rw [Nat.mul_assoc, ← Nat.pow_add]; congr 2; omega
  rw [this, sg_mul _ _ (2 ^ b)]; simp

theorem order_val {x y : Nat} {v u : Int} (h : Val x v) (g : Val y u) : double.order x y = some (compare v u) := by
  obtain ⟨s, m, k, hx, rfl⟩ := h
  obtain ⟨t, n, l, hy, rfl⟩ := g
  simp only [Format.order, hx.read, hy.read, Datum.order]
  congr 1
  rw [signed_sg, signed_sg]
  have e1 : ((k : Int) - 1074 - min ((k : Int) - 1074) ((l : Int) - 1074)).toNat = k - min k l := by omega
  have e2 : ((l : Int) - 1074 - min ((k : Int) - 1074) ((l : Int) - 1074)).toNat = l - min k l := by omega
  rw [e1, e2, ← sg_scale s m k (min k l) (by omega), ← sg_scale t n l (min k l) (by omega)]
  exact (compare_mul _ _ _ (two_pos _)).symm

theorem order_nan_left {x y : Nat} {s : Bool} {t : Nat} (h : double.read x = .nan s t) : double.order x y = none := by simp [Format.order, h, Datum.order]
theorem order_nan_right {x y : Nat} {s : Bool} {t : Nat} (h : double.read y = .nan s t) : double.order x y = none := by
  simp only [Format.order, h]
  cases double.read x <;> simp [Datum.order]

theorem order_swap (x y : Nat) : double.order y x = (double.order x y).map Ordering.swap := by
  simp only [Format.order]
  cases double.read x <;> cases double.read y <;> simp only [Datum.order, Option.map]
  · rename_i s m i t n j
    rw [Int.min_comm j i]
    exact congrArg some (Std.OrientedCmp.eq_swap (cmp := (compare : Int → Int → Ordering)))
  · rename_i t; cases t <;> rfl
  · rename_i t _ _ _; cases t <;> rfl
  · rename_i s t; cases s <;> cases t <;> rfl

/-- A word is a nan, or it is its own equal. -/
theorem order_self (x : Nat) : double.order x x = some .eq ∨ ∃ s t, double.read x = .nan s t := by
  rcases read_cases x with ⟨s, m, k, h⟩ | ⟨s, h⟩ | ⟨s, t, h⟩
  · exact Or.inl (by rw [order_val h.val h.val]; simp)
  · exact Or.inl (by simp [Format.order, h, Datum.order])
  · exact Or.inr ⟨s, t, h⟩

theorem order_none {x y : Nat} (h : double.order x y = none) : double.order x x = none ∨ double.order y y = none := by
  rcases order_self x with hx | ⟨s, t, hx⟩
  · rcases order_self y with hy | ⟨s, t, hy⟩
    · exfalso
      simp only [Format.order] at h hx hy
      cases hrx : double.read x <;> rw [hrx] at h hx <;> cases hry : double.read y <;> rw [hry] at h hy <;> simp [Datum.order] at h hx hy
    · exact Or.inr (order_nan_left hy)
  · exact Or.inl (order_nan_left hx)

/-- A whole number of at most 53 digits is a word. -/
theorem num_int (n : Int) (h : n.natAbs < 9007199254740992) : ∃ m k, Num (floatOfInt .f64 n) (decide (n < 0)) m k ∧ m * 2 ^ k = n.natAbs * 2 ^ u74 := by
  obtain ⟨m, k, h1, h2⟩ := near_exact (decide (n < 0)) n.natAbs u74 0 n.natAbs u74 0 (by rw [u74_eq]; omega) (by rw [Nat.add_zero]) h (by
    refine Nat.lt_of_lt_of_le (Nat.mul_lt_mul_of_pos_right h (Nat.two_pow_pos _)) ?_
    rw [show (9007199254740992 : Nat) = 2 ^ 53 from by decide +kernel, ← Nat.pow_add]
    exact Nat.pow_le_pow_right (by omega) (by rw [u74_eq, u98_eq]; omega))
  exact ⟨m, k, h1, h2⟩

theorem val_int (n : Int) (h : n.natAbs < 9007199254740992) : Val (floatOfInt .f64 n) (n * 2 ^ u74) := by
  obtain ⟨m, k, h1, h2⟩ := num_int n h
  refine ⟨_, m, k, h1, ?_⟩
  rw [h2, sg_mul]
  have : sg (decide (n < 0)) n.natAbs = n := by
    by_cases h0 : n < 0 <;> simp [sg, h0] <;> omega
  rw [this]; simp

theorem order_int (a b : Int) (ha : a.natAbs < 9007199254740992) (hb : b.natAbs < 9007199254740992) : double.order (floatOfInt .f64 a) (floatOfInt .f64 b) = some (compare a b) := by
  rw [order_val (val_int a ha) (val_int b hb), compare_mul _ _ _ (two_pos _)]

/-- A difference that has a word is exact. -/
theorem sub_exact {x y : Nat} {v u : Int} (h : Val x v) (g : Val y u) (a j : Nat) (hv : (v - u).natAbs = a * 2 ^ j) (ha : a < 9007199254740992) (hj : a * 2 ^ j < 2 ^ u98) :
    ∃ r, double.sub x y = some r ∧ Val r (v - u) := by
  obtain ⟨s, m, k, hx, rfl⟩ := h
  obtain ⟨t, n, l, hy, rfl⟩ := g
  simp only [Format.sub, hx.read, hy.read, Datum.opposite, Datum.sum, Option.map]
  refine ⟨_, rfl, ?_⟩
  rw [signed_sg, signed_sg, sg_not]
  have e1 : ((k : Int) - 1074 - min ((k : Int) - 1074) ((l : Int) - 1074)).toNat = k - min k l := by omega
  have e2 : ((l : Int) - 1074 - min ((k : Int) - 1074) ((l : Int) - 1074)).toNat = l - min k l := by omega
  have e3 : min ((k : Int) - 1074) ((l : Int) - 1074) = ((min k l : Nat) : Int) - (0 : Nat) - 1074 := by omega
  rw [e1, e2, e3]
  have hd : ∃ z, sg s (m * 2 ^ (k - min k l)) + -sg t (n * 2 ^ (l - min k l)) = z ∧ sg s (m * 2 ^ k) - sg t (n * 2 ^ l) = z * 2 ^ min k l := by
    refine ⟨_, rfl, ?_⟩
    rw [← sg_scale s m k (min k l) (by omega), ← sg_scale t n l (min k l) (by omega), Int.add_mul, Int.neg_mul]
    omega
  obtain ⟨z, z1, z2⟩ := hd
  rw [z2] at hv
  rw [z1, z2]
  have hz : z.natAbs * 2 ^ min k l = a * 2 ^ (j + 0) := by
    rw [Nat.add_zero, ← hv, Int.natAbs_mul, Int.natAbs_pow, show Int.natAbs 2 = 2 from rfl]
  simp only [Format.write]
  obtain ⟨m', k', h1, h2⟩ := near_exact (if z = 0 then s && !t else decide (z < 0)) z.natAbs (min k l) 0 a j _ rfl hz ha hj
  refine ⟨_, m', k', h1, ?_⟩
  rw [h2, show a * 2 ^ j = z.natAbs * 2 ^ min k l from by rw [hz, Nat.add_zero], sg_mul]
  have : sg (if z = 0 then s && !t else decide (z < 0)) z.natAbs = z := by
    by_cases h0 : z = 0
    · subst h0; cases s <;> cases t <;> simp [sg]
    · by_cases h1 : z < 0 <;> simp [sg, h0, h1] <;> omega
  rw [this]; simp

theorem cut_zero (s : Bool) (n d : Nat) : Toward.zero.cut s n d = n / 2 ^ d := by
  simp only [Toward.cut, Bool.toNat_false, Nat.add_zero, Nat.shiftLeft_eq, Nat.one_mul]
  by_cases h : d ≤ n.log2 + 2
  · rw [Nat.min_eq_left h]
  · have h1 : n < 2 ^ (n.log2 + 2) := Nat.lt_trans Nat.lt_log2_self (Nat.pow_lt_pow_right (by omega) (by omega))
    have h2 : n < 2 ^ d := Nat.lt_trans h1 (Nat.pow_lt_pow_right (by omega) (by omega))
    rw [Nat.min_eq_right (by omega), Nat.div_eq_of_lt h1, Nat.div_eq_of_lt h2]

/-- A number that is cut. -/
theorem cut_num {x m k : Nat} {s : Bool} (h : Num x s m k) : (FloatKind.f64.decode x).toInt .zero = some (sg s (m * 2 ^ k / 2 ^ u74)) := by
  have hr : FloatKind.f64.decode x = .number s m ((k : Int) - 1074) := h.read
  simp only [Datum.toInt, hr, Datum.integral, cut_zero]
  rw [signed_sg, Nat.shiftLeft_eq]
  congr 2
  rw [Nat.pow_zero, Nat.mul_one]
  by_cases hk : k ≤ 1074
  · rw [show ((k : Int) - 1074).toNat = 0 by omega, show (-((k : Int) - 1074)).toNat = u74 - k by have := u74_eq; omega, Nat.pow_zero, Nat.mul_one]
    rw [show (2 : Nat) ^ u74 = 2 ^ (u74 - k) * 2 ^ k from by rw [← Nat.pow_add]; congr 1; have := u74_eq; omega]
    exact (Nat.mul_div_mul_right _ _ (Nat.two_pow_pos _)).symm
  · rw [show ((k : Int) - 1074).toNat = k - u74 by have := u74_eq; omega, show (-((k : Int) - 1074)).toNat = 0 by omega, Nat.pow_zero, Nat.div_one]
    rw [show m * 2 ^ k = m * 2 ^ (k - u74) * 2 ^ u74 from by rw [Nat.mul_assoc, ← Nat.pow_add]; congr 2; have := u74_eq; omega]
    exact (Nat.mul_div_cancel _ (Nat.two_pow_pos _)).symm

end Go.Proofs.YtdhoimjkgicneaaDoor
