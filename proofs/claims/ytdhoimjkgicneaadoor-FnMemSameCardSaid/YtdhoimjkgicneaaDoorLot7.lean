/- Texts of this proof laid together: FltC, FltF, Dev0. -/
import Derived.Test.YtdhoimjkgicneaaDoorLot6
import Derived.Shelf.Strconv.Itoa3
/- What is left of a real number when it is cut to a whole one. Of no one program. -/
namespace Go.Proofs.YtdhoimjkgicneaaDoor
open Go Ieee

theorem cmp_gt {a b : Int} : compare a b = .gt ↔ b < a := Int.compare_eq_gt
theorem cmp_lt {a b : Int} : compare a b = .lt ↔ a < b := Int.compare_eq_lt

theorem ord_gt {x y : Nat} {v u : Int} (h : Val x v) (g : Val y u) (k : u < v) : double.order x y = some .gt := by rw [order_val h g, cmp_gt.2 k]
theorem ord_lt {x y : Nat} {v u : Int} (h : Val x v) (g : Val y u) (k : v < u) : double.order x y = some .lt := by rw [order_val h g, cmp_lt.2 k]
theorem ord_eq {x y : Nat} {v u : Int} (h : Val x v) (g : Val y u) (k : v = u) : double.order x y = some .eq := by subst k; rw [order_val h g]; simp

theorem num_of_between {x y z : Nat} (h1 : double.order x y = some .gt) (h2 : double.order x z = some .lt) {v u : Int} (hy : Val y v) (hz : Val z u) : ∃ s m k, Num x s m k := by
  obtain ⟨s1, m1, k1, n1, -⟩ := hy
  obtain ⟨s2, m2, k2, n2, -⟩ := hz
  rcases read_cases x with h | ⟨s, h⟩ | ⟨s, t, h⟩
  · exact h
  · exfalso
    simp only [Format.order, h, n1.read, n2.read, Datum.order] at h1 h2
    cases s <;> simp at h1 h2
  · exfalso
    rw [order_nan_left h] at h1
    cases h1

theorem left_of (m k : Nat) (hm : m < 9007199254740992) : ∃ a j, m * 2 ^ k % 2 ^ u74 = a * 2 ^ j ∧ a < 9007199254740992 ∧ j ≤ 1074 := by
  by_cases hk : k ≤ 1074
  · refine ⟨m % 2 ^ (u74 - k), k, ?_, Nat.lt_of_le_of_lt (Nat.mod_le _ _) hm, hk⟩
    rw [show (2 : Nat) ^ u74 = 2 ^ (u74 - k) * 2 ^ k from by rw [← Nat.pow_add]; congr 1; have := u74_eq; omega]
    exact Nat.mul_mod_mul_right _ _ _
  · refine ⟨0, 0, ?_, by omega, by omega⟩
    rw [show m * 2 ^ k = m * 2 ^ (k - u74) * 2 ^ u74 from by rw [Nat.mul_assoc, ← Nat.pow_add]; congr 2; have := u74_eq; omega]
    simp

theorem small_lt {a j : Nat} (ha : a < 9007199254740992) (hj : j ≤ 2000) : a * 2 ^ j < 2 ^ u98 := by
  refine Nat.lt_of_lt_of_le (Nat.mul_lt_mul_of_pos_right ha (Nat.two_pow_pos _)) ?_
  rw [show (9007199254740992 : Nat) = 2 ^ 53 from by decide +kernel, ← Nat.pow_add]
  exact Nat.pow_le_pow_right (by omega) (by rw [u98_eq]; omega)

theorem real_whole {x : Nat} (h1 : double.order x (floatOfInt .f64 (-32769)) = some .gt) (h2 : double.order x (floatOfInt .f64 32768) = some .lt) :
    ∃ n : Int, -32768 ≤ n ∧ n ≤ 32767 ∧ (FloatKind.f64.decode x).toInt .zero = some n ∧ ∃ r, double.sub x (floatOfInt .f64 n) = some r ∧ double.order r (floatOfInt .f64 (-1)) = some .gt ∧ double.order r (floatOfInt .f64 1) = some .lt ∧
      (double.order x (floatOfInt .f64 0) = some .lt ∨ double.order r (floatOfInt .f64 0) = some .gt ∨ double.order r (floatOfInt .f64 0) = some .eq) ∧
      (double.order x (floatOfInt .f64 0) = some .gt ∨ double.order r (floatOfInt .f64 0) = some .lt ∨ double.order r (floatOfInt .f64 0) = some .eq) := by
  have v1 := val_int (-32769) (by decide)
  have v2 := val_int 32768 (by decide)
  obtain ⟨s, m, k, hx⟩ := num_of_between h1 h2 v1 v2
  rw [order_val hx.val v1] at h1
  rw [order_val hx.val v2] at h2
  have g1 := cmp_gt.1 (Option.some.inj h1)
  have g2 := cmp_lt.1 (Option.some.inj h2)
  have hU : (0 : Int) < 2 ^ u74 := two_pos _
  have hUN : 0 < 2 ^ u74 := Nat.two_pow_pos _
  have hc : ((2 ^ u74 : Nat) : Int) = 2 ^ u74 := by simp
  obtain ⟨q, hq⟩ : ∃ q, m * 2 ^ k / 2 ^ u74 = q := ⟨_, rfl⟩
  obtain ⟨l, hl⟩ : ∃ l, m * 2 ^ k % 2 ^ u74 = l := ⟨_, rfl⟩
  have hA : m * 2 ^ k = 2 ^ u74 * q + l := by rw [← hq, ← hl]; exact (Nat.div_add_mod _ _).symm
  have hlt : l < 2 ^ u74 := by rw [← hl]; exact Nat.mod_lt _ hUN
  have hAz : ((m * 2 ^ k : Nat) : Int) = 2 ^ u74 * q + l := by rw [hA, Int.natCast_add, Int.natCast_mul, hc]
  have hltz : (l : Int) < 2 ^ u74 := by rw [← hc]; exact Int.ofNat_lt.2 hlt
  have hn : -32768 ≤ sg s q ∧ sg s q ≤ 32767 := by
    cases s
    · simp only [sg, Bool.false_eq_true, if_false] at g1 g2 ⊢
      rw [hAz] at g2
      have h3 : (q : Int) < 32768 := by
        apply Int.lt_of_mul_lt_mul_left (a := (2 : Int) ^ u74) _ (Int.le_of_lt hU)
        rw [Int.mul_comm _ 32768]; omega
      omega
    · simp only [sg, if_true] at g1 g2 ⊢
      rw [hAz] at g1
      have h3 : (q : Int) < 32769 := by
        apply Int.lt_of_mul_lt_mul_left (a := (2 : Int) ^ u74) _ (Int.le_of_lt hU)
        rw [Int.mul_comm _ 32769]; omega
      omega
  refine ⟨sg s q, hn.1, hn.2, by rw [cut_num hx, hq], ?_⟩
  have vn := val_int (sg s q) (by omega)
  have hd : sg s (m * 2 ^ k) - sg s q * 2 ^ u74 = sg s l := by
    cases s
    · simp only [sg, Bool.false_eq_true, if_false]; rw [hAz, Int.mul_comm (q : Int)]; omega
    · simp only [sg, if_true]; rw [hAz, Int.neg_mul, Int.mul_comm (q : Int)]; omega
  obtain ⟨a, j, e1, e2, e3⟩ := left_of m k hx.m53
  obtain ⟨r, hr, vr⟩ := sub_exact hx.val vn a j (by rw [hd, sg_abs, ← hl, e1]) e2 (small_lt e2 (by omega))
  rw [hd] at vr
  have w0 := val_int 0 (by decide)
  have w1 := val_int 1 (by decide)
  have w2 := val_int (-1) (by decide)
  refine ⟨r, hr, ord_gt vr w2 ?_, ord_lt vr w1 ?_, ?_, ?_⟩
  · cases s <;> simp only [sg, Bool.false_eq_true, if_false, if_true] <;> omega
  · cases s <;> simp only [sg, Bool.false_eq_true, if_false, if_true] <;> omega
  · cases s
    · right
      by_cases hl0 : l = 0
      · right; refine ord_eq vr w0 ?_; subst hl0; simp [sg]
      · left; refine ord_gt vr w0 ?_; simp only [sg, Bool.false_eq_true, if_false]; omega
    · by_cases hA0 : m * 2 ^ k = 0
      · right; right; refine ord_eq vr w0 ?_
        have : l = 0 := by rw [← hl, hA0]; simp
        subst this; simp [sg]
      · left; refine ord_lt hx.val w0 ?_; simp only [sg, if_true]; omega
  · cases s
    · by_cases hA0 : m * 2 ^ k = 0
      · right; right; refine ord_eq vr w0 ?_
        have : l = 0 := by rw [← hl, hA0]; simp
        subst this; simp [sg]
      · left; refine ord_gt hx.val w0 ?_; simp only [sg, Bool.false_eq_true, if_false]; omega
    · right
      by_cases hl0 : l = 0
      · right; refine ord_eq vr w0 ?_; subst hl0; simp [sg]
      · left; refine ord_lt vr w0 ?_; simp only [sg, if_true]; omega

end Go.Proofs.YtdhoimjkgicneaaDoor

/- Doubling and halving of a real number: exact, or an infinity. Of no one program. -/
namespace Go.Proofs.YtdhoimjkgicneaaDoor
open Go Ieee

theorem read_two : double.read 4611686018427387904 = .number false 4503599627370496 (-51) := by decide +kernel

theorem Num.lt98 {x m k : Nat} {s : Bool} (h : Num x s m k) : m * 2 ^ k < 2 ^ u98 := by
  refine Nat.lt_of_lt_of_le (Nat.mul_lt_mul_of_pos_right h.m53 (Nat.two_pow_pos _)) ?_
  rw [show (9007199254740992 : Nat) = 2 ^ 53 from by decide +kernel, ← Nat.pow_add]
  exact Nat.pow_le_pow_right (by omega) (by have := u98_eq; have := h.k45; omega)

theorem mul_two {x m k : Nat} {s : Bool} (h : Num x s m k) (hb : m * 2 ^ (k + 1) < 2 ^ u98) :
    ∃ r m' k', double.mul x 4611686018427387904 = some r ∧ Num r s m' k' ∧ m' * 2 ^ k' = m * 2 ^ (k + 1) := by
  obtain ⟨m', k', h1, h2⟩ := near_exact s (m * 4503599627370496) k 51 m (k + 1) ((k : Int) - 1074 + -51) (by omega) (by
    rw [show (4503599627370496 : Nat) = 2 ^ 52 from by decide +kernel, Nat.mul_assoc, ← Nat.pow_add]; congr 2; omega) h.m53 hb
  refine ⟨_, m', k', ?_, h1, h2⟩
  simp only [Format.mul, h.read, read_two, Datum.product, Option.map, Format.write, Bool.xor_false]

theorem mul_two_inf {x : Nat} {s : Bool} (h : double.read x = .infinity s) : ∃ r, double.mul x 4611686018427387904 = some r ∧ double.read r = .infinity s := by
  refine ⟨double.word s 9218868437227405312, ?_, word_inf s⟩
  simp [Format.mul, h, read_two, Datum.product, Format.write, d_inf]

theorem mul_two_over {x m k : Nat} {s : Bool} (h : Num x s m k) (hb : ¬ m * 2 ^ (k + 1) < 2 ^ u98) :
    ∃ r, double.mul x 4611686018427387904 = some r ∧ double.read r = .infinity s := by
  have hk : k = 2045 := by
    have h1 := h.k45
    apply Classical.byContradiction
    intro hn
    apply hb
    refine Nat.lt_of_lt_of_le (Nat.mul_lt_mul_of_pos_right h.m53 (Nat.two_pow_pos _)) ?_
    rw [show (9007199254740992 : Nat) = 2 ^ 53 from by decide +kernel, ← Nat.pow_add]
    exact Nat.pow_le_pow_right (by omega) (by have := u98_eq; omega)
  subst hk
  have hm : 4503599627370496 ≤ m := by rcases h.norm with h | h <;> omega
  have hm2 := h.m53
  refine ⟨double.word s 9218868437227405312, ?_, word_inf s⟩
  simp only [Format.mul, h.read, read_two, Datum.product, Option.map, Format.write, Bool.xor_false]
  have h0 : m * 4503599627370496 ≠ 0 := by omega
  have hl : (m * 4503599627370496).log2 = 104 := (Nat.log2_eq_iff h0).2 ⟨by rw [show (2 : Nat) ^ 104 = 4503599627370496 * 4503599627370496 from by decide +kernel]; exact Nat.mul_le_mul_right _ hm, by rw [show (2 : Nat) ^ (104 + 1) = 9007199254740992 * 4503599627370496 from by decide +kernel]; exact Nat.mul_lt_mul_of_pos_right hm2 (by omega)⟩
  simp only [Format.nearest, if_neg h0, d_fb, d_lp, d_bin, d_inf, hl]
  rw [show max (((2045 : Nat) : Int) - 1074 + -51 + ((104 : Nat) : Int) - ((52 : Nat) : Int)) (-1074) = 972 by omega, show (((2045 : Nat) : Int) - 1074 + -51 - 972).toNat = 0 by omega,
    show ((972 : Int) - (((2045 : Nat) : Int) - 1074 + -51)).toNat = 52 by omega, Nat.shiftLeft_zero, show ((972 : Int) - -1074).toNat = 2046 by omega,
    cut_div s _ 52 ⟨m, by rw [Nat.mul_comm]⟩, show (2 : Nat) ^ 52 = 4503599627370496 from by decide +kernel, Nat.mul_div_cancel _ (by omega), Nat.min_eq_right (by omega)]

theorem div_two {x m k a j : Nat} {s : Bool} (h : Num x s m k) (hv : m * 2 ^ k = a * 2 ^ (j + 1)) (ha : a < 9007199254740992) :
    ∃ r m' k', double.div x 4611686018427387904 = some r ∧ Num r s m' k' ∧ m' * 2 ^ k' = a * 2 ^ j := by
  have hj : a * 2 ^ j < 2 ^ u98 := by
    refine Nat.lt_of_le_of_lt ?_ h.lt98
    rw [hv, Nat.pow_succ, ← Nat.mul_assoc]
    omega
  have hl : m.log2 ≤ 52 := by
    by_cases h0 : m = 0
    · subst h0; decide
    · have : m.log2 < 53 := (Nat.log2_lt h0).2 (by rw [show (2 : Nat) ^ 53 = 9007199254740992 from by decide +kernel]; exact h.m53)
      omega
  obtain ⟨q, hq⟩ : ∃ q, 54 + 52 - m.log2 = q + 52 := ⟨54 - m.log2, by omega⟩
  have hq2 : 2 ≤ q := by omega
  obtain ⟨m', k', h1, h2⟩ := near_exact s (2 * (m * 2 ^ q)) k (q + 2) a j ((k : Int) - 1074 - -51 - ((q + 52 : Nat) : Int) - 1) (by omega) (by
    rw [show 2 * (m * 2 ^ q) * 2 ^ k = m * 2 ^ k * 2 ^ (q + 1) from by rw [Nat.pow_succ]; simp only [Nat.mul_assoc, Nat.mul_comm, Nat.mul_left_comm], hv, Nat.mul_assoc, ← Nat.pow_add]
    congr 2
    omega) ha hj
  refine ⟨_, m', k', ?_, h1, h2⟩
  simp only [Format.div, h.read, read_two, Datum.quotient, d_fb]
  rw [if_neg (by decide), show (4503599627370496 : Nat).log2 = 52 from by decide +kernel, show 52 + 2 + 52 - m.log2 = q + 52 from by omega]
  have e1 : m <<< (q + 52) = m * 2 ^ q * 4503599627370496 := by
    rw [Nat.shiftLeft_eq, Nat.pow_add, ← Nat.mul_assoc]
  rw [e1, Nat.mul_div_cancel _ (by omega), Nat.mul_mod_left]
  simp only [Option.map, Format.write, Bool.xor_false, bne_self_eq_false, Bool.toNat_false, Nat.add_zero]

end Go.Proofs.YtdhoimjkgicneaaDoor

/- Plain arithmetic and texts of operands: what a device's text is, apart from any program. -/
namespace Go.Proofs.YtdhoimjkgicneaaDoor
open Go

/-- How many devices there are of a kind. -/
def sizeZ (k : Int) : Int :=
  if k = 1 then 32 else if k = 2 then 32 else if k = 3 then 64 else if k = 4 then 16 else if k = 5 then 32 else if k = 6 then 5
  else if k = 7 then 16 else if k = 8 then 16 else if k = 9 then 32 else if k = 10 then 16 else 0

/-- The letter of a kind. -/
def letterL (k : Int) : List UInt8 :=
  if k = 1 then [88] else if k = 2 then [89] else if k = 3 then [77] else if k = 4 then [83] else if k = 5 then [69] else if k = 6 then [71]
  else if k = 7 then [84] else if k = 8 then [67] else if k = 9 then [68] else if k = 10 then [82] else []

/-- The word of a number. -/
def wordL (n : Int) : List UInt8 :=
  if n = 0 then [110, 97, 110] else if n = 1 then [105, 110, 102] else if n = 2 then [45, 105, 110, 102] else if n = 3 then [45, 48, 46, 48] else []

/-- Whether an operand is one. -/
def okB (k n p : Int) : Bool :=
  if k = 11 then decide (-32768 ≤ n ∧ n ≤ 32767 ∧ p = 0)
  else if k = 12 then decide (-999999999 ≤ n ∧ n ≤ 999999999 ∧ 1 ≤ p ∧ p ≤ 6 ∧ (p = 1 ∨ n.tmod 10 ≠ 0))
  else if k = 13 then decide (0 ≤ n ∧ n ≤ 3 ∧ p = 0)
  else decide (0 ≤ n ∧ n < sizeZ k ∧ p = 0)

/-- A kind is one of the thirteen, or none. -/
theorem kcases (k : Int) : k = 1 ∨ k = 2 ∨ k = 3 ∨ k = 4 ∨ k = 5 ∨ k = 6 ∨ k = 7 ∨ k = 8 ∨ k = 9 ∨ k = 10 ∨ k = 11 ∨ k = 12 ∨ k = 13 ∨ k < 1 ∨ 13 < k := by omega

theorem sizeZ_out {k : Int} (h : k < 1 ∨ 10 < k) : sizeZ k = 0 := by
  unfold sizeZ
  repeat rw [if_neg (by omega)]

theorem letterL_out {k : Int} (h : k < 1 ∨ 10 < k) : letterL k = [] := by
  unfold letterL
  repeat rw [if_neg (by omega)]

theorem sz1 : sizeZ 1 = 32 := by decide
theorem sz2 : sizeZ 2 = 32 := by decide
theorem sz3 : sizeZ 3 = 64 := by decide
theorem sz4 : sizeZ 4 = 16 := by decide
theorem sz5 : sizeZ 5 = 32 := by decide
theorem sz6 : sizeZ 6 = 5 := by decide
theorem sz7 : sizeZ 7 = 16 := by decide
theorem sz8 : sizeZ 8 = 16 := by decide
theorem sz9 : sizeZ 9 = 32 := by decide
theorem sz10 : sizeZ 10 = 16 := by decide
theorem sz11 : sizeZ 11 = 0 := by decide
theorem sz12 : sizeZ 12 = 0 := by decide
theorem sz13 : sizeZ 13 = 0 := by decide
theorem lt1 : letterL 1 = [88] := by decide
theorem lt2 : letterL 2 = [89] := by decide
theorem lt3 : letterL 3 = [77] := by decide
theorem lt4 : letterL 4 = [83] := by decide
theorem lt5 : letterL 5 = [69] := by decide
theorem lt6 : letterL 6 = [71] := by decide
theorem lt7 : letterL 7 = [84] := by decide
theorem lt8 : letterL 8 = [67] := by decide
theorem lt9 : letterL 9 = [68] := by decide
theorem lt10 : letterL 10 = [82] := by decide
theorem lt11 : letterL 11 = [] := by decide
theorem lt12 : letterL 12 = [] := by decide
theorem lt13 : letterL 13 = [] := by decide

theorem sizeZ_bd (k : Int) : 0 ≤ sizeZ k ∧ sizeZ k ≤ 64 := by
  unfold sizeZ
  repeat' split
  all_goals omega

theorem dd_lt {n : Nat} (h : n < 10) : Lib.decDigits n = [48 + UInt8.ofNat n] := by
  rw [Lib.decDigits, dif_pos h]
  congr 1
  apply UInt8.toNat_inj.1
  simp [UInt8.toNat_ofNat', UInt8.toNat_add]
theorem dd_ge {n : Nat} (h : 9 < n) : Lib.decDigits n = Lib.decDigits (n / 10) ++ [48 + UInt8.ofNat (n % 10)] := by
  rw [Lib.decDigits, dif_neg (by omega)]
  congr 2
  apply UInt8.toNat_inj.1
  simp [UInt8.toNat_ofNat', UInt8.toNat_add]
theorem dd_len (k : Nat) : ∀ n : Nat, n < 10 ^ (k + 1) → (Lib.decDigits n).length ≤ k + 1 := by
  induction k with
  | zero => intro n h; rw [dd_lt (by omega)]; simp
  | succ k ih =>
    intro n h
    by_cases h9 : 9 < n
    · rw [dd_ge h9]
      have := ih (n / 10) (by rw [Nat.pow_succ] at h; omega)
      simp; omega
    · rw [dd_lt (by omega)]; simp
theorem dd_len19 {n : Nat} (h : n ≤ 9223372036854775807) : (Lib.decDigits n).length ≤ 19 := dd_len 18 n (by omega)
theorem dd_pos (n : Nat) : 1 ≤ (Lib.decDigits n).length := by
  by_cases h9 : 9 < n
  · rw [dd_ge h9]; simp
  · rw [dd_lt (by omega)]; simp
/-- A text with zeros ahead, more than p signs long. -/
def padL (l : List UInt8) (p : Nat) : List UInt8 := List.replicate (p + 1 - l.length) 48 ++ l
/-- The last p signs behind a point. -/
def pointL (d : List UInt8) (p : Nat) : List UInt8 := d.take (d.length - p) ++ [46] ++ d.drop (d.length - p)
/-- A decimal number above or at 0. -/
def decM (m p : Nat) : List UInt8 := pointL (padL (Lib.decDigits m) p) p
/-- A decimal number. -/
def decT (n : Int) (p : Nat) : List UInt8 := if n < 0 then 45 :: decM n.natAbs p else decM n.toNat p
/-- The text of an operand. -/
def textL (k n p : Int) : List UInt8 :=
  if okB k n p = false then [] else if k = 11 then Lib.itoa n else if k = 12 then decT n p.toNat else if k = 13 then wordL n else letterL k ++ Lib.itoa n

theorem ext_take (l : List UInt8) (a b : Nat) : (⟨l.toArray⟩ : ByteArray).extract a b = ⟨((l.take b).drop a).toArray⟩ := by
  apply ByteArray.ext
  simp [List.extract_toArray, List.drop_take]
theorem letterL_len (k : Int) : (letterL k).length ≤ 1 := by
  unfold letterL
  repeat' split
  all_goals decide
theorem itoa_len {n : Int} (h1 : -9223372036854775807 ≤ n) (h2 : n ≤ 9223372036854775807) : (Lib.itoa n).length ≤ 20 := by
  unfold Lib.itoa
  split
  · have := dd_len19 (n := n.natAbs) (by omega)
    simp; omega
  · have := dd_len19 (n := n.toNat) (by omega)
    omega
theorem str_cat (a b : List UInt8) : (⟨a.toArray⟩ : ByteArray) ++ ⟨b.toArray⟩ = ⟨(a ++ b).toArray⟩ := by
  apply ByteArray.ext
  simp [ByteArray.data_append]
theorem point_eq (L : List UInt8) (p : Nat) : (⟨L.toArray⟩ : ByteArray).extract 0 (L.length - p) ++ ⟨#[46]⟩ ++ (⟨L.toArray⟩ : ByteArray).extract (L.length - p) L.length = ⟨(pointL L p).toArray⟩ := by
  rw [ext_take, ext_take, show (⟨#[46]⟩ : ByteArray) = ⟨([46] : List UInt8).toArray⟩ from rfl, str_cat, str_cat]
  simp [pointL]
theorem pointL_len (L : List UInt8) (p : Nat) : (pointL L p).length = L.length + 1 := by
  simp [pointL]; omega
theorem decM_len {m p : Nat} (hm : m ≤ 999999999) (hp : p ≤ 6) : (decM m p).length ≤ 30 := by
  have := dd_len19 (n := m) (by omega)
  rw [decM, pointL_len, padL]; simp; omega
theorem str_size (a : List UInt8) : (⟨a.toArray⟩ : ByteArray).size = a.length := by simp [ByteArray.size]

end Go.Proofs.YtdhoimjkgicneaaDoor
