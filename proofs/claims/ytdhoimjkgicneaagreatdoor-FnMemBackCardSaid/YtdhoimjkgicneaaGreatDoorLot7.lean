/- Texts of this proof laid together: FltB, FltC, FltF. -/
import Derived.Test.YtdhoimjkgicneaaGreatDoorLot6
/- Floating-point words as whole numbers of the smallest step: order, whole numbers, differences, cutting. Of no one program. -/
namespace Go.Proofs.YtdhoimjkgicneaaGreatDoor
open Go Ieee

/-- A number with its sign. -/
def sg (s : Bool) (n : Nat) : Int := if s then -(n : Int) else n

/-- The word x is the number v, counted in the smallest steps. -/
def Val (x : Nat) (v : Int) : Prop := ∃ s m k, Num x s m k ∧ v = sg s (m * 2 ^ k)

theorem Num.val {x m k : Nat} {s : Bool} (h : Num x s m k) : Val x (sg s (m * 2 ^ k)) := ⟨s, m, k, h, rfl⟩

theorem sg_mul (s : Bool) (a b : Nat) : sg s (a * b) = sg s a * (b : Int) := by cases s <;> simp [sg, Int.neg_mul]
theorem signed_sg (s : Bool) (m u : Nat) : signed s m u = sg s (m * 2 ^ u) := by cases s <;> simp [signed, sg, Nat.shiftLeft_eq]
theorem sg_not (s : Bool) (n : Nat) : sg (!s) n = -sg s n := by cases s <;> simp [sg]
theorem sg_abs (s : Bool) (n : Nat) : (sg s n).natAbs = n := by cases s <;> simp [sg]

theorem compare_mul (a b c : Int) (hc : 0 < c) : compare (a * c) (b * c) = compare a b := by
  rcases Int.lt_trichotomy a b with h | h | h
  · have h2 : a * c < b * c := Int.mul_lt_mul_of_pos_right h hc
    rw [Int.compare_eq_lt.2 h, Int.compare_eq_lt.2 h2]
  · subst h; simp
  · have h2 : b * c < a * c := Int.mul_lt_mul_of_pos_right h hc
    rw [Int.compare_eq_gt.2 h, Int.compare_eq_gt.2 h2]

theorem two_pos (k : Nat) : (0 : Int) < 2 ^ k := Int.pow_pos (by decide)

theorem sg_scale (s : Bool) (m k b : Nat) (h : b ≤ k) : sg s (m * 2 ^ (k - b)) * (2 : Int) ^ b = sg s (m * 2 ^ k) := by
  have : m * 2 ^ k = m * 2 ^ (k - b) * 2 ^ b := by rw [Nat.mul_assoc, ← Nat.pow_add]; congr 2; omega
  rw [this, sg_mul _ _ (2 ^ b)]; simp

theorem order_val {x y : Nat} {v u : Int} (h : Val x v) (g : Val y u) : double.order x y = some (compare v u) := by
  obtain ⟨s, m, k, hx, rfl⟩ := h
  obtain ⟨t, n, l, hy, rfl⟩ := g
  simp only [Format.order, hx.read, hy.read, Datum.order]
  congr 1
  rw [signed_sg, signed_sg]
  have e1 : ((k : Int) - 1074 - min ((k : Int) - 1074) ((l : Int) - 1074)).toNat = k - min k l := by omega
  have e2 : ((l : Int) - 1074 - min ((k : Int) - 1074) ((l : Int) - 1074)).toNat = l - min k l := by omega
  rw [e1, e2, ← sg_scale s m k (min k l) (by omega), ← sg_scale t n l (min k l) (by omega)]
  exact (compare_mul _ _ _ (two_pos _)).symm

theorem order_nan_left {x y : Nat} {s : Bool} {t : Nat} (h : double.read x = .nan s t) : double.order x y = none := by simp [Format.order, h, Datum.order]
theorem order_nan_right {x y : Nat} {s : Bool} {t : Nat} (h : double.read y = .nan s t) : double.order x y = none := by
  simp only [Format.order, h]
  cases double.read x <;> simp [Datum.order]

theorem order_swap (x y : Nat) : double.order y x = (double.order x y).map Ordering.swap := by
  simp only [Format.order]
  cases double.read x <;> cases double.read y <;> simp only [Datum.order, Option.map]
  · rename_i s m i t n j
    rw [Int.min_comm j i]
    exact congrArg some (Std.OrientedCmp.eq_swap (cmp := (compare : Int → Int → Ordering)))
  · rename_i t; cases t <;> rfl
  · rename_i t _ _ _; cases t <;> rfl
  · rename_i s t; cases s <;> cases t <;> rfl

/-- A word is a nan, or it is its own equal. -/
theorem order_self (x : Nat) : double.order x x = some .eq ∨ ∃ s t, double.read x = .nan s t := by
  rcases read_cases x with ⟨s, m, k, h⟩ | ⟨s, h⟩ | ⟨s, t, h⟩
  · exact Or.inl (by rw [order_val h.val h.val]; simp)
  · exact Or.inl (by simp [Format.order, h, Datum.order])
  · exact Or.inr ⟨s, t, h⟩

theorem order_none {x y : Nat} (h : double.order x y = none) : double.order x x = none ∨ double.order y y = none := by
  rcases order_self x with hx | ⟨s, t, hx⟩
  · rcases order_self y with hy | ⟨s, t, hy⟩
    · exfalso
      simp only [Format.order] at h hx hy
      cases hrx : double.read x <;> rw [hrx] at h hx <;> cases hry : double.read y <;> rw [hry] at h hy <;> simp [Datum.order] at h hx hy
    · exact Or.inr (order_nan_left hy)
  · exact Or.inl (order_nan_left hx)

/-- A whole number of at most 53 digits is a word. -/
theorem num_int (n : Int) (h : n.natAbs < 9007199254740992) : ∃ m k, Num (floatOfInt .f64 n) (decide (n < 0)) m k ∧ m * 2 ^ k = n.natAbs * 2 ^ u74 := by
  obtain ⟨m, k, h1, h2⟩ := near_exact (decide (n < 0)) n.natAbs u74 0 n.natAbs u74 0 (by rw [u74_eq]; omega) (by rw [Nat.add_zero]) h (by
    refine Nat.lt_of_lt_of_le (Nat.mul_lt_mul_of_pos_right h (Nat.two_pow_pos _)) ?_
    rw [show (9007199254740992 : Nat) = 2 ^ 53 from by decide +kernel, ← Nat.pow_add]
    exact Nat.pow_le_pow_right (by omega) (by rw [u74_eq, u98_eq]; omega))
  exact ⟨m, k, h1, h2⟩

theorem val_int (n : Int) (h : n.natAbs < 9007199254740992) : Val (floatOfInt .f64 n) (n * 2 ^ u74) := by
  obtain ⟨m, k, h1, h2⟩ := num_int n h
  refine ⟨_, m, k, h1, ?_⟩
  rw [h2, sg_mul]
  have : sg (decide (n < 0)) n.natAbs = n := by
    by_cases h0 : n < 0 <;> simp [sg, h0] <;> omega
  rw [this]; simp

theorem order_int (a b : Int) (ha : a.natAbs < 9007199254740992) (hb : b.natAbs < 9007199254740992) : double.order (floatOfInt .f64 a) (floatOfInt .f64 b) = some (compare a b) := by
  rw [order_val (val_int a ha) (val_int b hb), compare_mul _ _ _ (two_pos _)]

/-- A difference that has a word is exact. -/
theorem sub_exact {x y : Nat} {v u : Int} (h : Val x v) (g : Val y u) (a j : Nat) (hv : (v - u).natAbs = a * 2 ^ j) (ha : a < 9007199254740992) (hj : a * 2 ^ j < 2 ^ u98) :
    ∃ r, double.sub x y = some r ∧ Val r (v - u) := by
  obtain ⟨s, m, k, hx, rfl⟩ := h
  obtain ⟨t, n, l, hy, rfl⟩ := g
  simp only [Format.sub, hx.read, hy.read, Datum.opposite, Datum.sum, Option.map]
  refine ⟨_, rfl, ?_⟩
  rw [signed_sg, signed_sg, sg_not]
  have e1 : ((k : Int) - 1074 - min ((k : Int) - 1074) ((l : Int) - 1074)).toNat = k - min k l := by omega
  have e2 : ((l : Int) - 1074 - min ((k : Int) - 1074) ((l : Int) - 1074)).toNat = l - min k l := by omega
  have e3 : min ((k : Int) - 1074) ((l : Int) - 1074) = ((min k l : Nat) : Int) - (0 : Nat) - 1074 := by omega
  rw [e1, e2, e3]
  have hd : ∃ z, sg s (m * 2 ^ (k - min k l)) + -sg t (n * 2 ^ (l - min k l)) = z ∧ sg s (m * 2 ^ k) - sg t (n * 2 ^ l) = z * 2 ^ min k l := by
    refine ⟨_, rfl, ?_⟩
    rw [← sg_scale s m k (min k l) (by omega), ← sg_scale t n l (min k l) (by omega), Int.add_mul, Int.neg_mul]
    omega
  obtain ⟨z, z1, z2⟩ := hd
  rw [z2] at hv
  rw [z1, z2]
  have hz : z.natAbs * 2 ^ min k l = a * 2 ^ (j + 0) := by
    rw [Nat.add_zero, ← hv, Int.natAbs_mul, Int.natAbs_pow, show Int.natAbs 2 = 2 from rfl]
  simp only [Format.write]
  obtain ⟨m', k', h1, h2⟩ := near_exact (if z = 0 then s && !t else decide (z < 0)) z.natAbs (min k l) 0 a j _ rfl hz ha hj
  refine ⟨_, m', k', h1, ?_⟩
  rw [h2, show a * 2 ^ j = z.natAbs * 2 ^ min k l from by rw [hz, Nat.add_zero], sg_mul]
  have : sg (if z = 0 then s && !t else decide (z < 0)) z.natAbs = z := by
    by_cases h0 : z = 0
    · subst h0; cases s <;> cases t <;> simp [sg]
    · by_cases h1 : z < 0 <;> simp [sg, h0, h1] <;> omega
  rw [this]; simp

theorem cut_zero (s : Bool) (n d : Nat) : Toward.zero.cut s n d = n / 2 ^ d := by
  simp only [Toward.cut, Bool.toNat_false, Nat.add_zero, Nat.shiftLeft_eq, Nat.one_mul]
  by_cases h : d ≤ n.log2 + 2
  · rw [Nat.min_eq_left h]
  · have h1 : n < 2 ^ (n.log2 + 2) := Nat.lt_trans Nat.lt_log2_self (Nat.pow_lt_pow_right (by omega) (by omega))
    have h2 : n < 2 ^ d := Nat.lt_trans h1 (Nat.pow_lt_pow_right (by omega) (by omega))
    rw [Nat.min_eq_right (by omega), Nat.div_eq_of_lt h1, Nat.div_eq_of_lt h2]

/-- A number that is cut. -/
theorem cut_num {x m k : Nat} {s : Bool} (h : Num x s m k) : (FloatKind.f64.decode x).toInt .zero = some (sg s (m * 2 ^ k / 2 ^ u74)) := by
  have hr : FloatKind.f64.decode x = .number s m ((k : Int) - 1074) := h.read
  simp only [Datum.toInt, hr, Datum.integral, cut_zero]
  rw [signed_sg, Nat.shiftLeft_eq]
  congr 2
  rw [Nat.pow_zero, Nat.mul_one]
  by_cases hk : k ≤ 1074
  · rw [show ((k : Int) - 1074).toNat = 0 by omega, show (-((k : Int) - 1074)).toNat = u74 - k by have := u74_eq; omega, Nat.pow_zero, Nat.mul_one]
    rw [show (2 : Nat) ^ u74 = 2 ^ (u74 - k) * 2 ^ k from by rw [← Nat.pow_add]; congr 1; have := u74_eq; omega]
    exact (Nat.mul_div_mul_right _ _ (Nat.two_pow_pos _)).symm
  · rw [show ((k : Int) - 1074).toNat = k - u74 by have := u74_eq; omega, show (-((k : Int) - 1074)).toNat = 0 by omega, Nat.pow_zero, Nat.div_one]
    rw [show m * 2 ^ k = m * 2 ^ (k - u74) * 2 ^ u74 from by rw [Nat.mul_assoc, ← Nat.pow_add]; congr 2; have := u74_eq; omega]
    exact (Nat.mul_div_cancel _ (Nat.two_pow_pos _)).symm

end Go.Proofs.YtdhoimjkgicneaaGreatDoor

/- What is left of a real number when it is cut to a whole one. Of no one program. -/
namespace Go.Proofs.YtdhoimjkgicneaaGreatDoor
open Go Ieee

theorem cmp_gt {a b : Int} : compare a b = .gt ↔ b < a := Int.compare_eq_gt
theorem cmp_lt {a b : Int} : compare a b = .lt ↔ a < b := Int.compare_eq_lt

theorem ord_gt {x y : Nat} {v u : Int} (h : Val x v) (g : Val y u) (k : u < v) : double.order x y = some .gt := by rw [order_val h g, cmp_gt.2 k]
theorem ord_lt {x y : Nat} {v u : Int} (h : Val x v) (g : Val y u) (k : v < u) : double.order x y = some .lt := by rw [order_val h g, cmp_lt.2 k]
theorem ord_eq {x y : Nat} {v u : Int} (h : Val x v) (g : Val y u) (k : v = u) : double.order x y = some .eq := by subst k; rw [order_val h g]; simp

theorem num_of_between {x y z : Nat} (h1 : double.order x y = some .gt) (h2 : double.order x z = some .lt) {v u : Int} (hy : Val y v) (hz : Val z u) : ∃ s m k, Num x s m k := by
  obtain ⟨s1, m1, k1, n1, -⟩ := hy
  obtain ⟨s2, m2, k2, n2, -⟩ := hz
  rcases read_cases x with h | ⟨s, h⟩ | ⟨s, t, h⟩
  · exact h
  · exfalso
    simp only [Format.order, h, n1.read, n2.read, Datum.order] at h1 h2
    cases s <;> simp at h1 h2
  · exfalso
    rw [order_nan_left h] at h1
    cases h1

theorem left_of (m k : Nat) (hm : m < 9007199254740992) : ∃ a j, m * 2 ^ k % 2 ^ u74 = a * 2 ^ j ∧ a < 9007199254740992 ∧ j ≤ 1074 := by
  by_cases hk : k ≤ 1074
  · refine ⟨m % 2 ^ (u74 - k), k, ?_, Nat.lt_of_le_of_lt (Nat.mod_le _ _) hm, hk⟩
    rw [show (2 : Nat) ^ u74 = 2 ^ (u74 - k) * 2 ^ k from by rw [← Nat.pow_add]; congr 1; have := u74_eq; omega]
    exact Nat.mul_mod_mul_right _ _ _
  · refine ⟨0, 0, ?_, by omega, by omega⟩
    rw [show m * 2 ^ k = m * 2 ^ (k - u74) * 2 ^ u74 from by rw [Nat.mul_assoc, ← Nat.pow_add]; congr 2; have := u74_eq; omega]
    simp

theorem small_lt {a j : Nat} (ha : a < 9007199254740992) (hj : j ≤ 2000) : a * 2 ^ j < 2 ^ u98 := by
  refine Nat.lt_of_lt_of_le (Nat.mul_lt_mul_of_pos_right ha (Nat.two_pow_pos _)) ?_
  rw [show (9007199254740992 : Nat) = 2 ^ 53 from by decide +kernel, ← Nat.pow_add]
  exact Nat.pow_le_pow_right (by omega) (by rw [u98_eq]; omega)

theorem real_whole {x : Nat} (h1 : double.order x (floatOfInt .f64 (-32769)) = some .gt) (h2 : double.order x (floatOfInt .f64 32768) = some .lt) :
    ∃ n : Int, -32768 ≤ n ∧ n ≤ 32767 ∧ (FloatKind.f64.decode x).toInt .zero = some n ∧ ∃ r, double.sub x (floatOfInt .f64 n) = some r ∧ double.order r (floatOfInt .f64 (-1)) = some .gt ∧ double.order r (floatOfInt .f64 1) = some .lt ∧
      (double.order x (floatOfInt .f64 0) = some .lt ∨ double.order r (floatOfInt .f64 0) = some .gt ∨ double.order r (floatOfInt .f64 0) = some .eq) ∧
      (double.order x (floatOfInt .f64 0) = some .gt ∨ double.order r (floatOfInt .f64 0) = some .lt ∨ double.order r (floatOfInt .f64 0) = some .eq) := by
  have v1 := val_int (-32769) (by decide)
  have v2 := val_int 32768 (by decide)
  obtain ⟨s, m, k, hx⟩ := num_of_between h1 h2 v1 v2
  rw [order_val hx.val v1] at h1
  rw [order_val hx.val v2] at h2
  have g1 := cmp_gt.1 (Option.some.inj h1)
  have g2 := cmp_lt.1 (Option.some.inj h2)
  have hU : (0 : Int) < 2 ^ u74 := two_pos _
  have hUN : 0 < 2 ^ u74 := Nat.two_pow_pos _
  have hc : ((2 ^ u74 : Nat) : Int) = 2 ^ u74 := by simp
  obtain ⟨q, hq⟩ : ∃ q, m * 2 ^ k / 2 ^ u74 = q := ⟨_, rfl⟩
  obtain ⟨l, hl⟩ : ∃ l, m * 2 ^ k % 2 ^ u74 = l := ⟨_, rfl⟩
  have hA : m * 2 ^ k = 2 ^ u74 * q + l := by rw [← hq, ← hl]; exact (Nat.div_add_mod _ _).symm
  have hlt : l < 2 ^ u74 := by rw [← hl]; exact Nat.mod_lt _ hUN
  have hAz : ((m * 2 ^ k : Nat) : Int) = 2 ^ u74 * q + l := by rw [hA, Int.natCast_add, Int.natCast_mul, hc]
  have hltz : (l : Int) < 2 ^ u74 := by rw [← hc]; exact Int.ofNat_lt.2 hlt
  have hn : -32768 ≤ sg s q ∧ sg s q ≤ 32767 := by
    cases s
    · simp only [sg, Bool.false_eq_true, if_false] at g1 g2 ⊢
      rw [hAz] at g2
      have h3 : (q : Int) < 32768 := by
        apply Int.lt_of_mul_lt_mul_left (a := (2 : Int) ^ u74) _ (Int.le_of_lt hU)
        rw [Int.mul_comm _ 32768]; omega
      omega
    · simp only [sg, if_true] at g1 g2 ⊢
      rw [hAz] at g1
      have h3 : (q : Int) < 32769 := by
        apply Int.lt_of_mul_lt_mul_left (a := (2 : Int) ^ u74) _ (Int.le_of_lt hU)
        rw [Int.mul_comm _ 32769]; omega
      omega
  refine ⟨sg s q, hn.1, hn.2, by rw [cut_num hx, hq], ?_⟩
  have vn := val_int (sg s q) (by omega)
  have hd : sg s (m * 2 ^ k) - sg s q * 2 ^ u74 = sg s l := by
    cases s
    · simp only [sg, Bool.false_eq_true, if_false]; rw [hAz, Int.mul_comm (q : Int)]; omega
    · simp only [sg, if_true]; rw [hAz, Int.neg_mul, Int.mul_comm (q : Int)]; omega
  obtain ⟨a, j, e1, e2, e3⟩ := left_of m k hx.m53
  obtain ⟨r, hr, vr⟩ := sub_exact hx.val vn a j (by rw [hd, sg_abs, ← hl, e1]) e2 (small_lt e2 (by omega))
  rw [hd] at vr
  have w0 := val_int 0 (by decide)
  have w1 := val_int 1 (by decide)
  have w2 := val_int (-1) (by decide)
  refine ⟨r, hr, ord_gt vr w2 ?_, ord_lt vr w1 ?_, ?_, ?_⟩
  · cases s <;> simp only [sg, Bool.false_eq_true, if_false, if_true] <;> omega
  · cases s <;> simp only [sg, Bool.false_eq_true, if_false, if_true] <;> omega
  · cases s
    · right
      by_cases hl0 : l = 0
      · right; refine ord_eq vr w0 ?_; subst hl0; simp [sg]
      · left; refine ord_gt vr w0 ?_; simp only [sg, Bool.false_eq_true, if_false]; omega
    · by_cases hA0 : m * 2 ^ k = 0
      · right; right; refine ord_eq vr w0 ?_
        have : l = 0 := by rw [← hl, hA0]; simp
        subst this; simp [sg]
      · left; refine ord_lt hx.val w0 ?_; simp only [sg, if_true]; omega
  · cases s
    · by_cases hA0 : m * 2 ^ k = 0
      · right; right; refine ord_eq vr w0 ?_
        have : l = 0 := by rw [← hl, hA0]; simp
        subst this; simp [sg]
      · left; refine ord_gt hx.val w0 ?_; simp only [sg, Bool.false_eq_true, if_false]; omega
    · right
      by_cases hl0 : l = 0
      · right; refine ord_eq vr w0 ?_; subst hl0; simp [sg]
      · left; refine ord_lt vr w0 ?_; simp only [sg, if_true]; omega

end Go.Proofs.YtdhoimjkgicneaaGreatDoor

/- Doubling and halving of a real number: exact, or an infinity. Of no one program. -/
namespace Go.Proofs.YtdhoimjkgicneaaGreatDoor
open Go Ieee

theorem read_two : double.read 4611686018427387904 = .number false 4503599627370496 (-51) := by decide +kernel

theorem Num.lt98 {x m k : Nat} {s : Bool} (h : Num x s m k) : m * 2 ^ k < 2 ^ u98 := by
  refine Nat.lt_of_lt_of_le (Nat.mul_lt_mul_of_pos_right h.m53 (Nat.two_pow_pos _)) ?_
  rw [show (9007199254740992 : Nat) = 2 ^ 53 from by decide +kernel, ← Nat.pow_add]
  exact Nat.pow_le_pow_right (by omega) (by have := u98_eq; have := h.k45; omega)

theorem mul_two {x m k : Nat} {s : Bool} (h : Num x s m k) (hb : m * 2 ^ (k + 1) < 2 ^ u98) :
    ∃ r m' k', double.mul x 4611686018427387904 = some r ∧ Num r s m' k' ∧ m' * 2 ^ k' = m * 2 ^ (k + 1) := by
  obtain ⟨m', k', h1, h2⟩ := near_exact s (m * 4503599627370496) k 51 m (k + 1) ((k : Int) - 1074 + -51) (by omega) (by
    rw [show (4503599627370496 : Nat) = 2 ^ 52 from by decide +kernel, Nat.mul_assoc, ← Nat.pow_add]; congr 2; omega) h.m53 hb
  refine ⟨_, m', k', ?_, h1, h2⟩
  simp only [Format.mul, h.read, read_two, Datum.product, Option.map, Format.write, Bool.xor_false]

theorem mul_two_inf {x : Nat} {s : Bool} (h : double.read x = .infinity s) : ∃ r, double.mul x 4611686018427387904 = some r ∧ double.read r = .infinity s := by
  refine ⟨double.word s 9218868437227405312, ?_, word_inf s⟩
  simp [Format.mul, h, read_two, Datum.product, Format.write, d_inf]

theorem mul_two_over {x m k : Nat} {s : Bool} (h : Num x s m k) (hb : ¬ m * 2 ^ (k + 1) < 2 ^ u98) :
    ∃ r, double.mul x 4611686018427387904 = some r ∧ double.read r = .infinity s := by
  have hk : k = 2045 := by
    have h1 := h.k45
    apply Classical.byContradiction
    intro hn
    apply hb
    refine Nat.lt_of_lt_of_le (Nat.mul_lt_mul_of_pos_right h.m53 (Nat.two_pow_pos _)) ?_
    rw [show (9007199254740992 : Nat) = 2 ^ 53 from by decide +kernel, ← Nat.pow_add]
    exact Nat.pow_le_pow_right (by omega) (by have := u98_eq; omega)
  subst hk
  have hm : 4503599627370496 ≤ m := by rcases h.norm with h | h <;> omega
  have hm2 := h.m53
  refine ⟨double.word s 9218868437227405312, ?_, word_inf s⟩
  simp only [Format.mul, h.read, read_two, Datum.product, Option.map, Format.write, Bool.xor_false]
  have h0 : m * 4503599627370496 ≠ 0 := by omega
  have hl : (m * 4503599627370496).log2 = 104 := (Nat.log2_eq_iff h0).2 ⟨by rw [show (2 : Nat) ^ 104 = 4503599627370496 * 4503599627370496 from by decide +kernel]; exact Nat.mul_le_mul_right _ hm, by rw [show (2 : Nat) ^ (104 + 1) = 9007199254740992 * 4503599627370496 from by decide +kernel]; exact Nat.mul_lt_mul_of_pos_right hm2 (by omega)⟩
  simp only [Format.nearest, if_neg h0, d_fb, d_lp, d_bin, d_inf, hl]
  rw [show max (((2045 : Nat) : Int) - 1074 + -51 + ((104 : Nat) : Int) - ((52 : Nat) : Int)) (-1074) = 972 by omega, show (((2045 : Nat) : Int) - 1074 + -51 - 972).toNat = 0 by omega,
    show ((972 : Int) - (((2045 : Nat) : Int) - 1074 + -51)).toNat = 52 by omega, Nat.shiftLeft_zero, show ((972 : Int) - -1074).toNat = 2046 by omega,
    cut_div s _ 52 ⟨m, by rw [Nat.mul_comm]⟩, show (2 : Nat) ^ 52 = 4503599627370496 from by decide +kernel, Nat.mul_div_cancel _ (by omega), Nat.min_eq_right (by omega)]

theorem div_two {x m k a j : Nat} {s : Bool} (h : Num x s m k) (hv : m * 2 ^ k = a * 2 ^ (j + 1)) (ha : a < 9007199254740992) :
    ∃ r m' k', double.div x 4611686018427387904 = some r ∧ Num r s m' k' ∧ m' * 2 ^ k' = a * 2 ^ j := by
  have hj : a * 2 ^ j < 2 ^ u98 := by
    refine Nat.lt_of_le_of_lt ?_ h.lt98
    rw [hv, Nat.pow_succ, ← Nat.mul_assoc]
    omega
  have hl : m.log2 ≤ 52 := by
    by_cases h0 : m = 0
    · subst h0; decide
    · have : m.log2 < 53 := (Nat.log2_lt h0).2 (by rw [show (2 : Nat) ^ 53 = 9007199254740992 from by decide +kernel]; exact h.m53)
      omega
  obtain ⟨q, hq⟩ : ∃ q, 54 + 52 - m.log2 = q + 52 := ⟨54 - m.log2, by omega⟩
  have hq2 : 2 ≤ q := by omega
  obtain ⟨m', k', h1, h2⟩ := near_exact s (2 * (m * 2 ^ q)) k (q + 2) a j ((k : Int) - 1074 - -51 - ((q + 52 : Nat) : Int) - 1) (by omega) (by
    rw [show 2 * (m * 2 ^ q) * 2 ^ k = m * 2 ^ k * 2 ^ (q + 1) from by rw [Nat.pow_succ]; simp only [Nat.mul_assoc, Nat.mul_comm, Nat.mul_left_comm], hv, Nat.mul_assoc, ← Nat.pow_add]
    congr 2
    omega) ha hj
  refine ⟨_, m', k', ?_, h1, h2⟩
  simp only [Format.div, h.read, read_two, Datum.quotient, d_fb]
  rw [if_neg (by decide), show (4503599627370496 : Nat).log2 = 52 from by decide +kernel, show 52 + 2 + 52 - m.log2 = q + 52 from by omega]
  have e1 : m <<< (q + 52) = m * 2 ^ q * 4503599627370496 := by
    rw [Nat.shiftLeft_eq, Nat.pow_add, ← Nat.mul_assoc]
  rw [e1, Nat.mul_div_cancel _ (by omega), Nat.mul_mod_left]
  simp only [Option.map, Format.write, Bool.xor_false, bne_self_eq_false, Bool.toNat_false, Nat.add_zero]

end Go.Proofs.YtdhoimjkgicneaaGreatDoor
