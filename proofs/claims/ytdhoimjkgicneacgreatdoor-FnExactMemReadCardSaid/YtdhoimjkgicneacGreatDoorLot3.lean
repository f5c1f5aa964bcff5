/- Texts of this proof laid together: FltC, FltF, TxtA. -/
import Derived.Test.YtdhoimjkgicneacGreatDoorLot2
/- What is left of a real number when it is cut to a whole one. Of no one program. -/
namespace Go.Proofs.YtdhoimjkgicneacGreatDoor
open Go Ieee

theorem cmp_gt {a b : Int} : compare a b = .gt ↔ b < a := Int.compare_eq_gt
theorem cmp_lt {a b : Int} : compare a b = .lt ↔ a < b := Int.compare_eq_lt

theorem ord_gt {x y : Nat} {v u : Int} (h : Val x v) (g : Val y u) (k : u < v) : double.order x y = some .gt := by rw [order_val h g, cmp_gt.2 k]
theorem ord_lt {x y : Nat} {v u : Int} (h : Val x v) (g : Val y u) (k : v < u) : double.order x y = some .lt := by rw [order_val h g, cmp_lt.2 k]
theorem ord_eq {x y : Nat} {v u : Int} (h : Val x v) (g : Val y u) (k : v = u) : double.order x y = some .eq := by subst k; rw [order_val h g]; simp

theorem num_of_between {x y z : Nat} (h1 : double.order x y = some .gt) (h2 : double.order x z = some .lt) {v u : Int} (hy : Val y v) (hz : Val z u) : ∃ s m k, Num x s m k := by
  obtain ⟨s1, m1, k1, n1, -⟩ := hy
  obtain ⟨s2, m2, k2, n2, -⟩ := hz
  rcases read_cases x with h | ⟨s, h⟩ | ⟨s, t, h⟩
  · exact h
  · exfalso
    simp only [Format.order, h, n1.read, n2.read, Datum.order] at h1 h2
    cases s <;> simp at h1 h2
  · exfalso
    rw [order_nan_left h] at h1
    cases h1

theorem left_of (m k : Nat) (hm : m < 9007199254740992) : ∃ a j, m * 2 ^ k % 2 ^ u74 = a * 2 ^ j ∧ a < 9007199254740992 ∧ j ≤ 1074 := by
  by_cases hk : k ≤ 1074
  · refine ⟨m % 2 ^ (u74 - k), k, ?_, Nat.lt_of_le_of_lt (Nat.mod_le _ _) hm, hk⟩
    rw [show (2 : Nat) ^ u74 = 2 ^ (u74 - k) * 2 ^ k from by rw [← Nat.pow_add]; congr 1; have := u74_eq; omega]
    exact Nat.mul_mod_mul_right _ _ _
  · refine ⟨0, 0, ?_, by omega, by omega⟩
    rw [show m * 2 ^ k = m * 2 ^ (k - u74) * 2 ^ u74 from by rw [Nat.mul_assoc, ← Nat.pow_add]; congr 2; have := u74_eq; omega]
    simp

theorem small_lt {a j : Nat} (ha : a < 9007199254740992) (hj : j ≤ 2000) : a * 2 ^ j < 2 ^ u98 := by
  refine Nat.lt_of_lt_of_le (Nat.mul_lt_mul_of_pos_right ha (Nat.two_pow_pos _)) ?_
  rw [show (9007199254740992 : Nat) = 2 ^ 53 from by decide +kernel, ← Nat.pow_add]
  exact Nat.pow_le_pow_right (by omega) (by rw [u98_eq]; omega)

theorem real_whole {x : Nat} (h1 : double.order x (floatOfInt .f64 (-32769)) = some .gt) (h2 : double.order x (floatOfInt .f64 32768) = some .lt) :
    ∃ n : Int, -32768 ≤ n ∧ n ≤ 32767 ∧ (FloatKind.f64.decode x).toInt .zero = some n ∧ ∃ r, double.sub x (floatOfInt .f64 n) = some r ∧ double.order r (floatOfInt .f64 (-1)) = some .gt ∧ double.order r (floatOfInt .f64 1) = some .lt ∧
      (double.order x (floatOfInt .f64 0) = some .lt ∨ double.order r (floatOfInt .f64 0) = some .gt ∨ double.order r (floatOfInt .f64 0) = some .eq) ∧
      (double.order x (floatOfInt .f64 0) = some .gt ∨ double.order r (floatOfInt .f64 0) = some .lt ∨ double.order r (floatOfInt .f64 0) = some .eq) := by
  have v1 := val_int (-32769) (by decide)
  have v2 := val_int 32768 (by decide)
  obtain ⟨s, m, k, hx⟩ := num_of_between h1 h2 v1 v2
  rw [order_val hx.val v1] at h1
  rw [order_val hx.val v2] at h2
  have g1 := cmp_gt.1 (Option.some.inj h1)
  have g2 := cmp_lt.1 (Option.some.inj h2)
  have hU : (0 : Int) < 2 ^ u74 := two_pos _
  have hUN : 0 < 2 ^ u74 := Nat.two_pow_pos _
  have hc : ((2 ^ u74 : Nat) : Int) = 2 ^ u74 := by simp
  obtain ⟨q, hq⟩ : ∃ q, m * 2 ^ k / 2 ^ u74 = q := ⟨_, rfl⟩
  obtain ⟨l, hl⟩ : ∃ l, m * 2 ^ k % 2 ^ u74 = l := ⟨_, rfl⟩
  have hA : m * 2 ^ k = 2 ^ u74 * q + l := by rw [← hq, ← hl]; exact (Nat.div_add_mod _ _).symm
  have hlt : l < 2 ^ u74 := by rw [← hl]; exact Nat.mod_lt _ hUN
  have hAz : ((m * 2 ^ k : Nat) : Int) = 2 ^ u74 * q + l := by rw [hA, Int.natCast_add, Int.natCast_mul, hc]
  have hltz : (l : Int) < 2 ^ u74 := by rw [← hc]; exact Int.ofNat_lt.2 hlt
  have hn : -32768 ≤ sg s q ∧ sg s q ≤ 32767 := by
    cases s
    · simp only [sg, Bool.false_eq_true, if_false] at g1 g2 ⊢
      rw [hAz] at g2
      have h3 : (q : Int) < 32768 := by
        apply Int.lt_of_mul_lt_mul_left (a := (2 : Int) ^ u74) _ (Int.le_of_lt hU)
        rw [Int.mul_comm _ 32768]; omega
      omega
    · simp only [sg, if_true] at g1 g2 ⊢
      rw [hAz] at g1
      have h3 : (q : Int) < 32769 := by
        apply Int.lt_of_mul_lt_mul_left (a := (2 : Int) ^ u74) _ (Int.le_of_lt hU)
        rw [Int.mul_comm _ 32769]; omega
      omega
  refine ⟨sg s q, hn.1, hn.2, by rw [cut_num hx, hq], ?_⟩
  have vn := val_int (sg s q) (by omega)
  have hd : sg s (m * 2 ^ k) - sg s q * 2 ^ u74 = sg s l := by
    cases s
    · simp only [sg, Bool.false_eq_true, if_false]; rw [hAz, Int.mul_comm (q : Int)]; omega
    · simp only [sg, if_true]; rw [hAz, Int.neg_mul, Int.mul_comm (q : Int)]; omega
  obtain ⟨a, j, e1, e2, e3⟩ := left_of m k hx.m53
  obtain ⟨r, hr, vr⟩ := sub_exact hx.val vn a j (by rw [hd, sg_abs, ← hl, e1]) e2 (small_lt e2 (by omega))
  rw [hd] at vr
  have w0 := val_int 0 (by decide)
  have w1 := val_int 1 (by decide)
  have w2 := val_int (-1) (by decide)
  refine ⟨r, hr, ord_gt vr w2 ?_, ord_lt vr w1 ?_, ?_, ?_⟩
  · cases s <;> simp only [sg, Bool.false_eq_true, if_false, if_true] <;> omega
  · cases s <;> simp only [sg, Bool.false_eq_true, if_false, if_true] <;> omega
  · cases s
    · right
      by_cases hl0 : l = 0
      · right; refine ord_eq vr w0 ?_; subst hl0; simp [sg]
      · left; refine ord_gt vr w0 ?_; simp only [sg, Bool.false_eq_true, if_false]; omega
    · by_cases hA0 : m * 2 ^ k = 0
      · right; right; refine ord_eq vr w0 ?_
        have : l = 0 := by rw [← hl, hA0]; simp
        subst this; simp [sg]
      · left; refine ord_lt hx.val w0 ?_; simp only [sg, if_true]; omega
  · cases s
    · by_cases hA0 : m * 2 ^ k = 0
      · right; right; refine ord_eq vr w0 ?_
        have : l = 0 := by rw [← hl, hA0]; simp
        subst this; simp [sg]
      · left; refine ord_gt hx.val w0 ?_; simp only [sg, Bool.false_eq_true, if_false]; omega
    · right
      by_cases hl0 : l = 0
      · right; refine ord_eq vr w0 ?_; subst hl0; simp [sg]
      · left; refine ord_lt vr w0 ?_; simp only [sg, if_true]; omega

end Go.Proofs.YtdhoimjkgicneacGreatDoor

/- Doubling and halving of a real number: exact, or an infinity. Of no one program. -/
namespace Go.Proofs.YtdhoimjkgicneacGreatDoor
open Go Ieee

theorem read_two : double.read 4611686018427387904 = .number false 4503599627370496 (-51) := by decide +kernel

theorem Num.lt98 {x m k : Nat} {s : Bool} (h : Num x s m k) : m * 2 ^ k < 2 ^ u98 := by
  refine Nat.lt_of_lt_of_le (Nat.mul_lt_mul_of_pos_right h.m53 (Nat.two_pow_pos _)) ?_
  rw [show (9007199254740992 : Nat) = 2 ^ 53 from by decide +kernel, ← Nat.pow_add]
  exact Nat.pow_le_pow_right (by omega) (by have := u98_eq; have := h.k45; omega)

theorem mul_two {x m k : Nat} {s : Bool} (h : Num x s m k) (hb : m * 2 ^ (k + 1) < 2 ^ u98) :
    ∃ r m' k', double.mul x 4611686018427387904 = some r ∧ Num r s m' k' ∧ m' * 2 ^ k' = m * 2 ^ (k + 1) := by
  obtain ⟨m', k', h1, h2⟩ := near_exact s (m * 4503599627370496) k 51 m (k + 1) ((k : Int) - 1074 + -51) (by omega) (by
    rw [show (4503599627370496 : Nat) = 2 ^ 52 from by decide +kernel, Nat.mul_assoc, ← Nat.pow_add]; congr 2; omega) h.m53 hb
  refine ⟨_, m', k', ?_, h1, h2⟩
  simp only [Format.mul, h.read, read_two, Datum.product, Option.map, Format.write, Bool.xor_false]

theorem mul_two_inf {x : Nat} {s : Bool} (h : double.read x = .infinity s) : ∃ r, double.mul x 4611686018427387904 = some r ∧ double.read r = .infinity s := by
  refine ⟨double.word s 9218868437227405312, ?_, word_inf s⟩
  simp [Format.mul, h, read_two, Datum.product, Format.write, d_inf]

theorem mul_two_over {x m k : Nat} {s : Bool} (h : Num x s m k) (hb : ¬ m * 2 ^ (k + 1) < 2 ^ u98) :
    ∃ r, double.mul x 4611686018427387904 = some r ∧ double.read r = .infinity s := by
  have hk : k = 2045 := by
    have h1 := h.k45
    apply Classical.byContradiction
    intro hn
    apply hb
    refine Nat.lt_of_lt_of_le (Nat.mul_lt_mul_of_pos_right h.m53 (Nat.two_pow_pos _)) ?_
    rw [show (9007199254740992 : Nat) = 2 ^ 53 from by decide +kernel, ← Nat.pow_add]
    exact Nat.pow_le_pow_right (by omega) (by have := u98_eq; omega)
  subst hk
  have hm : 4503599627370496 ≤ m := by rcases h.norm with h | h <;> omega
  have hm2 := h.m53
  refine ⟨double.word s 9218868437227405312, ?_, word_inf s⟩
  simp only [Format.mul, h.read, read_two, Datum.product, Option.map, Format.write, Bool.xor_false]
  have h0 : m * 4503599627370496 ≠ 0 := by omega
  have hl : (m * 4503599627370496).log2 = 104 := (Nat.log2_eq_iff h0).2 ⟨by rw [show (2 : Nat) ^ 104 = 4503599627370496 * 4503599627370496 from by decide +kernel]; exact Nat.mul_le_mul_right _ hm, by rw [show (2 : Nat) ^ (104 + 1) = 9007199254740992 * 4503599627370496 from by decide +kernel]; exact Nat.mul_lt_mul_of_pos_right hm2 (by omega)⟩
  simp only [Format.nearest, if_neg h0, d_fb, d_lp, d_bin, d_inf, hl]
  rw [show max (((2045 : Nat) : Int) - 1074 + -51 + ((104 : Nat) : Int) - ((52 : Nat) : Int)) (-1074) = 972 by omega, show (((2045 : Nat) : Int) - 1074 + -51 - 972).toNat = 0 by omega,
    show ((972 : Int) - (((2045 : Nat) : Int) - 1074 + -51)).toNat = 52 by omega, Nat.shiftLeft_zero, show ((972 : Int) - -1074).toNat = 2046 by omega,
    cut_div s _ 52 ⟨m, by rw [Nat.mul_comm]⟩, show (2 : Nat) ^ 52 = 4503599627370496 from by decide +kernel, Nat.mul_div_cancel _ (by omega), Nat.min_eq_right (by omega)]

theorem div_two {x m k a j : Nat} {s : Bool} (h : Num x s m k) (hv : m * 2 ^ k = a * 2 ^ (j + 1)) (ha : a < 9007199254740992) :
    ∃ r m' k', double.div x 4611686018427387904 = some r ∧ Num r s m' k' ∧ m' * 2 ^ k' = a * 2 ^ j := by
  have hj : a * 2 ^ j < 2 ^ u98 := by
    refine Nat.lt_of_le_of_lt ?_ h.lt98
    rw [hv, Nat.pow_succ, ← Nat.mul_assoc]
    omega
  have hl : m.log2 ≤ 52 := by
    by_cases h0 : m = 0
    · subst h0; decide
    · have : m.log2 < 53 := (Nat.log2_lt h0).2 (by rw [show (2 : Nat) ^ 53 = 9007199254740992 from by decide +kernel]; exact h.m53)
      omega
  obtain ⟨q, hq⟩ : ∃ q, 54 + 52 - m.log2 = q + 52 := ⟨54 - m.log2, by omega⟩
  have hq2 : 2 ≤ q := by omega
  obtain ⟨m', k', h1, h2⟩ := near_exact s (2 * (m * 2 ^ q)) k (q + 2) a j ((k : Int) - 1074 - -51 - ((q + 52 : Nat) : Int) - 1) (by omega) (by
    rw [show 2 * (m * 2 ^ q) * 2 ^ k = m * 2 ^ k * 2 ^ (q + 1) from by rw [Nat.pow_succ]; simp only [Nat.mul_assoc, Nat.mul_comm, Nat.mul_left_comm], hv, Nat.mul_assoc, ← Nat.pow_add]
    congr 2
    omega) ha hj
  refine ⟨_, m', k', ?_, h1, h2⟩
  simp only [Format.div, h.read, read_two, Datum.quotient, d_fb]
  rw [if_neg (by decide), show (4503599627370496 : Nat).log2 = 52 from by decide +kernel, show 52 + 2 + 52 - m.log2 = q + 52 from by omega]
  have e1 : m <<< (q + 52) = m * 2 ^ q * 4503599627370496 := by
    rw [Nat.shiftLeft_eq, Nat.pow_add, ← Nat.mul_assoc]
  rw [e1, Nat.mul_div_cancel _ (by omega), Nat.mul_mod_left]
  simp only [Option.map, Format.write, Bool.xor_false, bne_self_eq_false, Bool.toNat_false, Nat.add_zero]

end Go.Proofs.YtdhoimjkgicneacGreatDoor

/- The text of a real number: of which numbers a text is the text. Of no one program. -/
namespace Go.Proofs.YtdhoimjkgicneacGreatDoor
open Go Ieee

/-- A sign. -/
def sgnL (s : Bool) : List UInt8 := if s then [45] else []

/-- The text of an odd number times a power of two, counted from the smallest. -/
def finL (s : Bool) (n c : Nat) : List UInt8 := sgnL s ++ (Lib.decDigits n ++ ([42, 50, 94] ++ Lib.itoa ((c : Int) - 1074)))

/-- The word x has the text l. -/
def Txt (x : Nat) (l : List UInt8) : Prop :=
  ((∃ s t, double.read x = .nan s t) ∧ l = [110, 97, 110]) ∨ (∃ s, double.read x = .infinity s ∧ l = sgnL s ++ [105, 110, 102]) ∨ (∃ s k, Num x s 0 k ∧ l = sgnL s ++ [48]) ∨
  (∃ s m k n c, Num x s m k ∧ m ≠ 0 ∧ n % 2 = 1 ∧ m * 2 ^ k = n * 2 ^ c ∧ l = finL s n c)

/-- Two words are the same number, to the sign of nought. -/
def Same (x y : Nat) : Prop :=
  ((∃ s t, double.read x = .nan s t) ∧ (∃ s t, double.read y = .nan s t)) ∨ (∃ s, double.read x = .infinity s ∧ double.read y = .infinity s) ∨ (∃ s m k m' k', Num x s m k ∧ Num y s m' k' ∧ m * 2 ^ k = m' * 2 ^ k')

theorem odd_unique {n c n' c' : Nat} (h : n % 2 = 1) (h' : n' % 2 = 1) (e : n * 2 ^ c = n' * 2 ^ c') : n = n' ∧ c = c' := by
  have key : ∀ {n c n' c' : Nat}, n % 2 = 1 → n' % 2 = 1 → n * 2 ^ c = n' * 2 ^ c' → c ≤ c' → c = c' := by
    intro n c n' c' h h' e hle
    apply Classical.byContradiction
    intro hne
    have e2 : n * 2 ^ c = n' * 2 ^ (c' - c) * 2 ^ c := by rw [e, Nat.mul_assoc, ← Nat.pow_add]; congr 2; omega
    have e3 := Nat.eq_of_mul_eq_mul_right (Nat.two_pow_pos c) e2
    have : 2 ^ (c' - c) = 2 * 2 ^ (c' - c - 1) := by rw [← Nat.pow_succ']; congr 1; omega
    rw [this, Nat.mul_left_comm] at e3
    omega
  have hc : c = c' := by
    rcases Nat.le_total c c' with hl | hl
    · exact key h h' e hl
    · exact (key h' h e.symm hl).symm
  subst hc
  exact ⟨Nat.eq_of_mul_eq_mul_right (Nat.two_pow_pos c) e, rfl⟩

theorem split_star : ∀ {a b r r' : List UInt8}, a.all isDig = true → b.all isDig = true → a ++ 42 :: r = b ++ 42 :: r' → a = b ∧ r = r'
  | [], [], r, r', _, _, h => by simpa using h
  | [], y :: b, r, r', _, hb, h => by
    simp at h
    simp only [List.all_cons, Bool.and_eq_true] at hb
    rw [← h.1] at hb
    exact absurd hb.1 (by decide)
  | x :: a, [], r, r', ha, _, h => by
    simp at h
    simp only [List.all_cons, Bool.and_eq_true] at ha
    rw [h.1] at ha
    exact absurd ha.1 (by decide)
  | x :: a, y :: b, r, r', ha, hb, h => by
    simp only [List.cons_append, List.cons.injEq] at h
    simp only [List.all_cons, Bool.and_eq_true] at ha hb
    obtain ⟨e1, e2⟩ := split_star ha.2 hb.2 h.2
    exact ⟨by rw [h.1, e1], e2⟩

theorem dd_inj {n m : Nat} (h : Lib.decDigits n = Lib.decDigits m) : n = m := by rw [← dval_dd n, h, dval_dd]

theorem dd_head (n : Nat) : ∃ c cs, Lib.decDigits n = c :: cs ∧ isDig c = true := head_dig (dd_all n) (dd_pos n)

theorem itoa_inj {a b : Int} (h : Lib.itoa a = Lib.itoa b) : a = b := by
  unfold Lib.itoa at h
  split at h <;> split at h
  · have := dd_inj (List.cons.inj h).2
    omega
  · obtain ⟨c, cs, e, hd⟩ := dd_head b.toNat
    rw [e] at h
    rw [← (List.cons.inj h).1] at hd
    exact absurd hd (by decide)
  · obtain ⟨c, cs, e, hd⟩ := dd_head a.toNat
    rw [e] at h
    rw [(List.cons.inj h).1] at hd
    exact absurd hd (by decide)
  · have := dd_inj h
    omega

theorem finL_inj {s s' : Bool} {n n' c c' : Nat} (h : finL s n c = finL s' n' c') : s = s' ∧ n = n' ∧ c = c' := by
  have body : ∀ {n n' c c' : Nat}, Lib.decDigits n ++ ([42, 50, 94] ++ Lib.itoa ((c : Int) - 1074)) = Lib.decDigits n' ++ ([42, 50, 94] ++ Lib.itoa ((c' : Int) - 1074)) → n = n' ∧ c = c' := by
    intro n n' c c' h
    obtain ⟨e1, e2⟩ := split_star (dd_all n) (dd_all n') h
    refine ⟨dd_inj e1, ?_⟩
    have := itoa_inj (List.cons.inj (List.cons.inj e2).2).2
    omega
  unfold finL at h
  obtain ⟨x, xs, hx, dx⟩ := dd_head n
  obtain ⟨y, ys, hy, dy⟩ := dd_head n'
  cases s <;> cases s'
  · exact ⟨rfl, body (by simpa [sgnL] using h)⟩
  · exfalso
    rw [hx] at h
    simp [sgnL] at h
    rw [h.1] at dx
    exact absurd dx (by decide)
  · exfalso
    rw [hy] at h
    simp [sgnL] at h
    rw [← h.1] at dy
    exact absurd dy (by decide)
  · exact ⟨rfl, body (by simpa [sgnL] using h)⟩

theorem itoa_pos (n : Int) : 1 ≤ (Lib.itoa n).length := by
  unfold Lib.itoa
  split
  · simp
  · exact dd_pos _

theorem finL_len (s : Bool) (n c : Nat) : 5 ≤ (finL s n c).length := by
  have h1 := dd_pos n
  have h2 := itoa_pos ((c : Int) - 1074)
  simp [finL]
  omega

theorem sgn_len (s : Bool) : (sgnL s).length ≤ 1 := by cases s <;> simp [sgnL]

theorem nan_ne_inf (s : Bool) : ([110, 97, 110] : List UInt8) ≠ sgnL s ++ [105, 110, 102] := by cases s <;> decide
theorem inf_inj {s s' : Bool} (h : sgnL s ++ [105, 110, 102] = sgnL s' ++ [105, 110, 102]) : s = s' := by cases s <;> cases s' <;> first | rfl | (revert h; decide)
theorem zero_inj {s s' : Bool} (h : sgnL s ++ [48] = sgnL s' ++ [48]) : s = s' := by cases s <;> cases s' <;> first | rfl | (revert h; decide)
theorem nan_ne_zero (s : Bool) : ([110, 97, 110] : List UInt8) ≠ sgnL s ++ [48] := by cases s <;> decide
theorem inf_ne_zero (s s' : Bool) : sgnL s ++ [105, 110, 102] ≠ sgnL s' ++ [48] := by cases s <;> cases s' <;> decide
theorem nan_ne_fin (s : Bool) (n c : Nat) : ([110, 97, 110] : List UInt8) ≠ finL s n c := by
  intro h; have := finL_len s n c; rw [← h] at this; simp at this
theorem inf_ne_fin (s s' : Bool) (n c : Nat) : sgnL s ++ [105, 110, 102] ≠ finL s' n c := by
  intro h; have := finL_len s' n c; rw [← h] at this; have := sgn_len s; simp at *; omega
theorem zero_ne_fin (s s' : Bool) (n c : Nat) : sgnL s ++ [48] ≠ finL s' n c := by
  intro h; have := finL_len s' n c; rw [← h] at this; have := sgn_len s; simp at *; omega

/-- Two words of one text are the same number. -/
theorem txt_same {x y : Nat} {l : List UInt8} (h : Txt x l) (g : Txt y l) : Same x y := by
  rcases h with ⟨h1, rfl⟩ | ⟨s, h1, rfl⟩ | ⟨s, k, h1, rfl⟩ | ⟨s, m, k, n, c, h1, h2, h3, h4, rfl⟩
  · rcases g with ⟨g1, -⟩ | ⟨t, -, e⟩ | ⟨t, j, -, e⟩ | ⟨t, m', j, n', d, -, -, -, -, e⟩
    · exact Or.inl ⟨h1, g1⟩
    · exact absurd e (nan_ne_inf t)
    · exact absurd e (nan_ne_zero t)
    · exact absurd e (nan_ne_fin t n' d)
  · rcases g with ⟨g1, e⟩ | ⟨t, g1, e⟩ | ⟨t, j, -, e⟩ | ⟨t, m', j, n', d, -, -, -, -, e⟩
    · exact absurd e.symm (nan_ne_inf s)
    · obtain rfl := inf_inj e
      exact Or.inr (Or.inl ⟨s, h1, g1⟩)
    · exact absurd e (inf_ne_zero s t)
    · exact absurd e (inf_ne_fin s t n' d)
  · rcases g with ⟨g1, e⟩ | ⟨t, g1, e⟩ | ⟨t, j, g1, e⟩ | ⟨t, m', j, n', d, -, -, -, -, e⟩
    · exact absurd e.symm (nan_ne_zero s)
    · exact absurd e.symm (inf_ne_zero t s)
    · obtain rfl := zero_inj e
      exact Or.inr (Or.inr ⟨s, 0, k, 0, j, h1, g1, by simp⟩)
    · exact absurd e (zero_ne_fin s t n' d)
  · rcases g with ⟨g1, e⟩ | ⟨t, g1, e⟩ | ⟨t, j, g1, e⟩ | ⟨t, m', j, n', d, g1, g2, g3, g4, e⟩
    · exact absurd e.symm (nan_ne_fin s n c)
    · exact absurd e.symm (inf_ne_fin t s n c)
    · exact absurd e.symm (zero_ne_fin t s n c)
    · obtain ⟨rfl, rfl, rfl⟩ := finL_inj e
      exact Or.inr (Or.inr ⟨s, m, k, m', j, h1, g1, by rw [h4, g4]⟩)

theorem num_read {x m k m' k' : Nat} {s s' : Bool} (h : Num x s m k) (g : Num x s' m' k') : s = s' ∧ m = m' ∧ k = k' := by
  have := h.read.symm.trans g.read
  injection this with a b c
  exact ⟨a, b, by omega⟩

/-- Words that are the same number have one text. -/
theorem txt_of_same {x y : Nat} {l : List UInt8} (hs : Same x y) (h : Txt x l) : Txt y l := by
  rcases hs with ⟨⟨s, t, a⟩, b⟩ | ⟨s, a, b⟩ | ⟨s, m, k, m', k', a, b, e⟩
  · rcases h with ⟨-, rfl⟩ | ⟨s', h1, -⟩ | ⟨s', k, h1, -⟩ | ⟨s', m, k, n, c, h1, -⟩
    · exact Or.inl ⟨b, rfl⟩
    · rw [a] at h1; cases h1
    · have := h1.read; rw [a] at this; cases this
    · have := h1.read; rw [a] at this; cases this
  · rcases h with ⟨⟨s', t, h1⟩, -⟩ | ⟨s', h1, rfl⟩ | ⟨s', k, h1, -⟩ | ⟨s', m, k, n, c, h1, -⟩
    · rw [a] at h1; cases h1
    · rw [a] at h1; cases h1
      exact Or.inr (Or.inl ⟨s, b, rfl⟩)
    · have := h1.read; rw [a] at this; cases this
    · have := h1.read; rw [a] at this; cases this
  · rcases h with ⟨⟨s', t, h1⟩, -⟩ | ⟨s', h1, rfl⟩ | ⟨s', k2, h1, rfl⟩ | ⟨s', m2, k2, n, c, h1, h2, h3, h4, rfl⟩
    · have := a.read; rw [h1] at this; cases this
    · have := a.read; rw [h1] at this; cases this
    · obtain ⟨rfl, rfl, rfl⟩ := num_read a h1
      have hm : m' = 0 := by
        have : m' * 2 ^ k' = 0 := by rw [← e]; simp
        rcases Nat.mul_eq_zero.1 this with h | h
        · exact h
        · exact absurd h (Nat.ne_of_gt (Nat.two_pow_pos _))
      subst hm
      exact Or.inr (Or.inr (Or.inl ⟨s, k', b, rfl⟩))
    · obtain ⟨rfl, rfl, rfl⟩ := num_read a h1
      refine Or.inr (Or.inr (Or.inr ⟨s, m', k', n, c, b, ?_, h3, by rw [← e, h4], rfl⟩))
      intro h0
      subst h0
      rw [Nat.zero_mul] at e
      rcases Nat.mul_eq_zero.1 e with h | h
      · exact h2 h
      · exact absurd h (Nat.ne_of_gt (Nat.two_pow_pos _))

/-- A word has one text. -/
theorem txt_fun {x : Nat} {l l' : List UInt8} (h : Txt x l) (g : Txt x l') : l = l' := by
  rcases h with ⟨⟨s, t, h1⟩, rfl⟩ | ⟨s, h1, rfl⟩ | ⟨s, k, h1, rfl⟩ | ⟨s, m, k, n, c, h1, h2, h3, h4, rfl⟩
  · rcases g with ⟨-, rfl⟩ | ⟨s', g1, -⟩ | ⟨s', k', g1, -⟩ | ⟨s', m', k', n', c', g1, -⟩
    · rfl
    · rw [h1] at g1; cases g1
    · have := g1.read; rw [h1] at this; cases this
    · have := g1.read; rw [h1] at this; cases this
  · rcases g with ⟨⟨s', t, g1⟩, -⟩ | ⟨s', g1, rfl⟩ | ⟨s', k', g1, -⟩ | ⟨s', m', k', n', c', g1, -⟩
    · rw [h1] at g1; cases g1
    · rw [h1] at g1; cases g1; rfl
    · have := g1.read; rw [h1] at this; cases this
    · have := g1.read; rw [h1] at this; cases this
  · rcases g with ⟨⟨s', t, g1⟩, -⟩ | ⟨s', g1, -⟩ | ⟨s', k', g1, rfl⟩ | ⟨s', m', k', n', c', g1, g2, -⟩
    · have := h1.read; rw [g1] at this; cases this
    · have := h1.read; rw [g1] at this; cases this
    · obtain ⟨rfl, -, -⟩ := num_read h1 g1; rfl
    · obtain ⟨-, e, -⟩ := num_read h1 g1; exact absurd e.symm g2
  · rcases g with ⟨⟨s', t, g1⟩, -⟩ | ⟨s', g1, -⟩ | ⟨s', k', g1, -⟩ | ⟨s', m', k', n', c', g1, g2, g3, g4, rfl⟩
    · have := h1.read; rw [g1] at this; cases this
    · have := h1.read; rw [g1] at this; cases this
    · obtain ⟨-, e, -⟩ := num_read h1 g1; exact absurd e h2
    · obtain ⟨rfl, rfl, rfl⟩ := num_read h1 g1
      obtain ⟨rfl, rfl⟩ := odd_unique h3 g3 (h4.symm.trans g4)
      rfl

end Go.Proofs.YtdhoimjkgicneacGreatDoor
