/- Texts of this proof laid together: Dev3, FltA, FltB. -/
import Derived.Test.YtdhoimjkgicneacGreatDoorLot1
import Derived.Laws.FloatArith
/- Reading texts of operands: two readers, one by pieces and one sign by sign, each gives back an operand out of its text. Plain. -/
namespace Go.Proofs.YtdhoimjkgicneacGreatDoor
open Go

def isDig (c : UInt8) : Bool := decide (48 ≤ c.toNat ∧ c.toNat ≤ 57)
def dval (l : List UInt8) (a : Nat) : Nat := l.foldl (fun a c => a * 10 + (c.toNat - 48)) a
def digitsZ (l : List UInt8) : Int := if 1 ≤ l.length ∧ l.length ≤ 17 ∧ l.all isDig = true then (dval l 0 : Int) else -1
def fnd : List UInt8 → Option Nat
  | [] => none
  | c :: cs => if c = 46 then some 0 else (fnd cs).map (· + 1)
def letK (l : List UInt8) : Int :=
  if l.take 1 = [88] then 1 else if l.take 1 = [89] then 2 else if l.take 1 = [77] then 3 else if l.take 1 = [83] then 4 else if l.take 1 = [69] then 5 else if l.take 1 = [71] then 6
  else if l.take 1 = [84] then 7 else if l.take 1 = [67] then 8 else if l.take 1 = [68] then 9 else if l.take 1 = [82] then 10 else 0
def numP (s : Int) (l : List UInt8) : Int × Int × Int :=
  match fnd l with
  | none => (11, s * digitsZ l, 0)
  | some d => (12, s * digitsZ (l.take d ++ l.drop (d + 1)), (l.length : Int) - d - 1)
def guessP (l : List UInt8) : Int × Int × Int :=
  if l = wordL 0 then (13, 0, 0) else if l = wordL 1 then (13, 1, 0) else if l = wordL 2 then (13, 2, 0) else if l = wordL 3 then (13, 3, 0)
  else if letK l ≠ 0 then (letK l, digitsZ (l.drop 1), 0) else if l.take 1 = [45] then numP (-1) (l.drop 1) else numP 1 l
def scanL (k s : Int) (N P : Nat) : List UInt8 → Int × Int × Int
  | [] => (k, N * s, P)
  | c :: cs => if c = 46 ∧ k = 11 then scanL 12 s N P cs else if isDig c = false ∨ 99999999 < N then (0, 0, 0) else scanL k s (N * 10 + (c.toNat - 48)) (if k = 12 then P + 1 else P) cs
def scanP (l : List UInt8) : Int × Int × Int :=
  if l = wordL 0 then (13, 0, 0) else if l = wordL 1 then (13, 1, 0) else if l = wordL 2 then (13, 2, 0) else if l = wordL 3 then (13, 3, 0)
  else if letK l ≠ 0 then scanL (letK l) 1 0 0 (l.drop 1) else if l.take 1 = [45] then scanL 11 (-1) 0 0 (l.drop 1) else scanL 11 1 0 0 l

/- digits -/
theorem dig_of (d : Nat) (h : d < 10) : isDig (48 + UInt8.ofNat d) = true ∧ (48 + UInt8.ofNat d).toNat - 48 = d := by
  have : (48 + UInt8.ofNat d).toNat = 48 + d := by simp [UInt8.toNat_add, UInt8.toNat_ofNat']; omega
  unfold isDig; rw [this]; simp; omega
theorem dd_all (n : Nat) : (Lib.decDigits n).all isDig = true := by
  induction n using Nat.strongRecOn with
  | ind n ih =>
    by_cases h : 9 < n
    · rw [dd_ge h, List.all_append, ih (n / 10) (by omega)]
      simp [(dig_of (n % 10) (by omega)).1]
    · rw [dd_lt (by omega)]; simp [(dig_of n (by omega)).1]
theorem dval_append (a b : List UInt8) (x : Nat) : dval (a ++ b) x = dval b (dval a x) := by simp [dval]
theorem dval_dd (n : Nat) : dval (Lib.decDigits n) 0 = n := by
  induction n using Nat.strongRecOn with
  | ind n ih =>
    by_cases h : 9 < n
    · rw [dd_ge h, dval_append, ih (n / 10) (by omega)]
      simp [dval]
      have := (dig_of (n % 10) (by omega)).2
      omega
    · rw [dd_lt (by omega)]
      simp [dval]
      have := (dig_of n (by omega)).2
      omega
theorem dval_pad (j : Nat) (l : List UInt8) : dval (List.replicate j 48 ++ l) 0 = dval l 0 := by
  rw [dval_append]
  have : ∀ j, dval (List.replicate j 48) 0 = 0 := by
    intro j
    induction j with
    | zero => rfl
    | succ j ih => rw [List.replicate_succ]; simpa [dval] using ih
  rw [this]
theorem pad_all (n p : Nat) : (padL (Lib.decDigits n) p).all isDig = true := by
  rw [padL, List.all_append, dd_all]
  simp; right; decide
theorem dval_le (l : List UInt8) : ∀ x, x ≤ dval l x := by
  induction l with
  | nil => intro x; exact Nat.le_refl _
  | cons c cs ih => intro x; have := ih (x * 10 + (c.toNat - 48)); simp only [dval, List.foldl_cons] at this ⊢; omega
theorem not_dot {c : UInt8} (h : isDig c = true) : c ≠ 46 := by rintro rfl; revert h; decide
theorem not_minus {c : UInt8} (h : isDig c = true) : c ≠ 45 := by rintro rfl; revert h; decide

theorem fnd_none : ∀ {l : List UInt8}, l.all isDig = true → fnd l = none
  | [], _ => rfl
  | c :: cs, h => by
    simp only [List.all_cons, Bool.and_eq_true] at h
    simp [fnd, not_dot h.1, fnd_none h.2]
theorem fnd_some : ∀ {l : List UInt8} (r : List UInt8), l.all isDig = true → fnd (l ++ 46 :: r) = some l.length
  | [], r, _ => rfl
  | c :: cs, r, h => by
    simp only [List.all_cons, Bool.and_eq_true] at h
    simp [fnd, not_dot h.1, fnd_some r h.2]

/- the first sign -/
theorem letK_dig {c : UInt8} (cs : List UInt8) (h : isDig c = true) : letK (c :: cs) = 0 := by
  have : ∀ d : UInt8, isDig d = false → c ≠ d := by rintro d hd rfl; rw [h] at hd; cases hd
  unfold letK
  simp [this 88 (by decide), this 89 (by decide), this 77 (by decide), this 83 (by decide), this 69 (by decide), this 71 (by decide), this 84 (by decide), this 67 (by decide), this 68 (by decide), this 82 (by decide)]
theorem letK_minus (cs : List UInt8) : letK (45 :: cs) = 0 := by unfold letK; simp
theorem word_dig {c : UInt8} (cs : List UInt8) (h : isDig c = true) : c :: cs ≠ wordL 0 ∧ c :: cs ≠ wordL 1 ∧ c :: cs ≠ wordL 2 ∧ c :: cs ≠ wordL 3 := by
  have : ∀ d : UInt8, isDig d = false → c ≠ d := by rintro d hd rfl; rw [h] at hd; cases hd
  have a := this 110 (by decide)
  have b := this 105 (by decide)
  have e := this 45 (by decide)
  refine ⟨?_, ?_, ?_, ?_⟩
  · rw [show wordL 0 = [110, 97, 110] by decide]; simp [a]
  · rw [show wordL 1 = [105, 110, 102] by decide]; simp [b]
  · rw [show wordL 2 = [45, 105, 110, 102] by decide]; simp [e]
  · rw [show wordL 3 = [45, 48, 46, 48] by decide]; simp [e]
theorem word_minus {c : UInt8} (cs : List UInt8) (h : isDig c = true) (h3 : c :: cs ≠ [48, 46, 48]) : 45 :: c :: cs ≠ wordL 0 ∧ 45 :: c :: cs ≠ wordL 1 ∧ 45 :: c :: cs ≠ wordL 2 ∧ 45 :: c :: cs ≠ wordL 3 := by
  have : ∀ d : UInt8, isDig d = false → c ≠ d := by rintro d hd rfl; rw [h] at hd; cases hd
  have b := this 105 (by decide)
  refine ⟨?_, ?_, ?_, ?_⟩
  · rw [show wordL 0 = [110, 97, 110] by decide]; simp
  · rw [show wordL 1 = [105, 110, 102] by decide]; simp
  · rw [show wordL 2 = [45, 105, 110, 102] by decide]; simp [b]
  · rw [show wordL 3 = [45, 48, 46, 48] by decide]
    intro e; exact h3 (List.cons.inj e).2
theorem head_dig : ∀ {l : List UInt8}, l.all isDig = true → 1 ≤ l.length → ∃ c cs, l = c :: cs ∧ isDig c = true
  | c :: cs, h, _ => ⟨c, cs, rfl, by simp only [List.all_cons, Bool.and_eq_true] at h; exact h.1⟩

theorem guess_plus {l : List UInt8} (h : ∃ c cs, l = c :: cs ∧ isDig c = true) : guessP l = numP 1 l := by
  obtain ⟨c, cs, rfl, hc⟩ := h
  obtain ⟨a, b, d, e⟩ := word_dig cs hc
  unfold guessP
  rw [if_neg a, if_neg b, if_neg d, if_neg e, letK_dig cs hc, if_neg (by simp), if_neg (by simp [not_minus hc])]
theorem guess_minus {l : List UInt8} (h : ∃ c cs, l = c :: cs ∧ isDig c = true) (h3 : l ≠ [48, 46, 48]) : guessP (45 :: l) = numP (-1) l := by
  obtain ⟨c, cs, rfl, hc⟩ := h
  obtain ⟨a, b, d, e⟩ := word_minus cs hc h3
  unfold guessP
  rw [if_neg a, if_neg b, if_neg d, if_neg e, letK_minus, if_neg (by simp), if_pos (by simp)]
  rfl
theorem scan_plus {l : List UInt8} (h : ∃ c cs, l = c :: cs ∧ isDig c = true) : scanP l = scanL 11 1 0 0 l := by
  obtain ⟨c, cs, rfl, hc⟩ := h
  obtain ⟨a, b, d, e⟩ := word_dig cs hc
  unfold scanP
  rw [if_neg a, if_neg b, if_neg d, if_neg e, letK_dig cs hc, if_neg (by simp), if_neg (by simp [not_minus hc])]
theorem scan_minus {l : List UInt8} (h : ∃ c cs, l = c :: cs ∧ isDig c = true) (h3 : l ≠ [48, 46, 48]) : scanP (45 :: l) = scanL 11 (-1) 0 0 l := by
  obtain ⟨c, cs, rfl, hc⟩ := h
  obtain ⟨a, b, d, e⟩ := word_minus cs hc h3
  unfold scanP
  rw [if_neg a, if_neg b, if_neg d, if_neg e, letK_minus, if_neg (by simp), if_pos (by simp)]
  rfl

/- digits, sign by sign -/
theorem scan_digits (k s : Int) (r : List UInt8) : ∀ (l : List UInt8) (N P : Nat), l.all isDig = true → dval l N ≤ 999999999 →
    scanL k s N P (l ++ r) = scanL k s (dval l N) (if k = 12 then P + l.length else P) r
  | [], N, P, _, _ => by simp [dval]
  | c :: cs, N, P, h, hv => by
    simp only [List.all_cons, Bool.and_eq_true] at h
    have hv' : dval cs (N * 10 + (c.toNat - 48)) ≤ 999999999 := by simpa [dval] using hv
    have h9 := dval_le cs (N * 10 + (c.toNat - 48))
    have ih := scan_digits k s r cs (N * 10 + (c.toNat - 48)) (if k = 12 then P + 1 else P) h.2 hv'
    rw [List.cons_append, scanL, if_neg (by intro e; exact not_dot h.1 e.1), if_neg (by rw [h.1]; simp; omega), ih]
    have e1 : dval (c :: cs) N = dval cs (N * 10 + (c.toNat - 48)) := by simp [dval]
    rw [e1]
    congr 1
    split <;> simp <;> omega

end Go.Proofs.YtdhoimjkgicneacGreatDoor

/- Floating-point words of 64 bits as whole numbers of the smallest step: what a word reads as, and that writing a number that has a word is exact. Of no one program. -/
namespace Go.Proofs.YtdhoimjkgicneacGreatDoor
open Go Ieee

theorem d_sw : double.signWeight = 9223372036854775808 := by decide +kernel
theorem d_bin : double.binade = 4503599627370496 := by decide +kernel
theorem d_inf : double.infRung = 9218868437227405312 := by decide +kernel
theorem d_lp : double.leastPlace = -1074 := by decide +kernel
theorem d_fb : double.fractionBits = 52 := rfl

/-- Two numbers that no one should work out powers of. -/
def u74 : Nat := 1074
def u98 : Nat := 2098
theorem u74_eq : u74 = 1074 := rfl
theorem u98_eq : u98 = 2098 := rfl

/-- The word x is a number: its sign, its digits, its place counted from the smallest. -/
structure Num (x : Nat) (s : Bool) (m k : Nat) : Prop where
  read : double.read x = .number s m ((k : Int) - 1074)
  m53 : m < 9007199254740992
  k45 : k ≤ 2045
  norm : k = 0 ∨ 4503599627370496 ≤ m

theorem word_mod (s : Bool) (r : Nat) (h : r < 9223372036854775808) : double.word s r % 9223372036854775808 = r ∧ (double.word s r / 9223372036854775808 % 2 == 1) = s := by
  unfold Format.word
  rw [d_sw]
  cases s
  · simp; omega
  · simp; omega

theorem read_cases (x : Nat) : (∃ s m k, Num x s m k) ∨ (∃ s, double.read x = .infinity s) ∨ (∃ s t, double.read x = .nan s t) := by
  by_cases h1 : x % 9223372036854775808 < 4503599627370496
  · refine Or.inl ⟨x / 9223372036854775808 % 2 == 1, x % 9223372036854775808, 0, ?_, by omega, by omega, Or.inl rfl⟩
    simp [Format.read, d_sw, d_bin, d_lp, h1]
  · by_cases h2 : x % 9223372036854775808 < 9218868437227405312
    · refine Or.inl ⟨x / 9223372036854775808 % 2 == 1, 4503599627370496 + x % 9223372036854775808 % 4503599627370496, x % 9223372036854775808 / 4503599627370496 - 1, ?_, by omega, by omega, by omega⟩
      simp only [Format.read, d_sw, d_bin, d_lp, d_inf, h1, h2, if_true, if_false]
      congr 1 <;> omega
    · by_cases h3 : x % 9223372036854775808 = 9218868437227405312
      · exact Or.inr (Or.inl ⟨x / 9223372036854775808 % 2 == 1, by simp [Format.read, d_sw, d_bin, d_inf, h3]⟩)
      · exact Or.inr (Or.inr ⟨x / 9223372036854775808 % 2 == 1, x % 9223372036854775808 - 9218868437227405312, by simp [Format.read, d_sw, d_bin, d_inf, h1, h2, h3]⟩)

theorem word_num (s : Bool) (L a : Nat) (ha : a ≤ 9007199254740992) (hL : L = 0 ∨ 4503599627370496 ≤ a) (hf : L * 4503599627370496 + a < 9218868437227405312) :
    ∃ m k, Num (double.word s (L * 4503599627370496 + a)) s m k ∧ m * 2 ^ k = a * 2 ^ L := by
  obtain ⟨w1, w2⟩ := word_mod s (L * 4503599627370496 + a) (by omega)
  by_cases h1 : a < 4503599627370496
  · have hL0 : L = 0 := by omega
    subst hL0
    refine ⟨a, 0, ⟨?_, by omega, by omega, Or.inl rfl⟩, rfl⟩
    simp only [Format.read, d_sw, d_bin, d_lp, w1, w2]
    simp [h1]
  · by_cases h2 : a = 9007199254740992
    · subst h2
      refine ⟨4503599627370496, L + 1, ⟨?_, by omega, by omega, by omega⟩, by rw [Nat.pow_succ]; omega⟩
      simp only [Format.read, d_sw, d_bin, d_lp, d_inf, w1, w2]
      rw [if_neg (by omega), if_pos hf]
      have e1 : (L * 4503599627370496 + 9007199254740992) % 4503599627370496 = 0 := by omega
      have e2 : (L * 4503599627370496 + 9007199254740992) / 4503599627370496 = L + 2 := by omega
      rw [e1, e2]
      rw [show (-1074 : Int) + ((L + 2 - 1 : Nat) : Int) = ((L + 1 : Nat) : Int) - 1074 by omega]
    · refine ⟨a, L, ⟨?_, by omega, by omega, by omega⟩, rfl⟩
      simp only [Format.read, d_sw, d_bin, d_lp, d_inf, w1, w2]
      rw [if_neg (by omega), if_pos hf]
      have e1 : (L * 4503599627370496 + a) % 4503599627370496 = a - 4503599627370496 := by omega
      have e2 : (L * 4503599627370496 + a) / 4503599627370496 = L + 1 := by omega
      rw [e1, e2]
      rw [show 4503599627370496 + (a - 4503599627370496) = a by omega, show (-1074 : Int) + ((L + 1 - 1 : Nat) : Int) = (L : Int) - 1074 by omega]

theorem word_inf (s : Bool) : double.read (double.word s 9218868437227405312) = .infinity s := by
  obtain ⟨w1, w2⟩ := word_mod s 9218868437227405312 (by omega)
  simp only [Format.read, d_sw, d_bin, d_inf, w1, w2]
  simp

/-- Rounding to a whole number of steps, none or a few digits dropped. -/
theorem cut_div (s : Bool) (n d : Nat) (h : 2 ^ d ∣ n) : Toward.even.cut s n d = n / 2 ^ d := by
  by_cases h0 : n = 0
  · subst h0
    simp [Toward.cut]
  · have hd : d ≤ n.log2 := (Nat.le_log2 h0).2 (Nat.le_of_dvd (by omega) h)
    have hm : min d (n.log2 + 2) = d := by omega
    have hr : n % 2 ^ d = 0 := Nat.mod_eq_zero_of_dvd h
    have hp : 0 < 2 ^ d := Nat.two_pow_pos _
    have hg : ((2 : Nat) ^ d == 0) = false := by simp
    simp [Toward.cut, hm, Nat.shiftLeft_eq, hr]

/-- Writing a number that has a word is exact. -/
theorem near_exact (s : Bool) (M K C a j : Nat) (p : Int) (hp : p = (K : Int) - C - 1074) (hv : M * 2 ^ K = a * 2 ^ (j + C)) (ha : a < 9007199254740992) (hj : a * 2 ^ j < 2 ^ u98) :
    ∃ m k, Num (double.nearest s M p) s m k ∧ m * 2 ^ k = a * 2 ^ j := by
  by_cases h0 : M = 0
  · subst h0
    have ha0 : a = 0 := by
      rcases Nat.mul_eq_zero.1 (hv.symm.trans (Nat.zero_mul _)) with h | h
      · exact h
      · exact absurd h (Nat.ne_of_gt (Nat.two_pow_pos _))
    subst ha0
    have h1 : Num (double.word s 0) s 0 0 := by
      obtain ⟨w1, w2⟩ := word_mod s 0 (by omega)
      refine ⟨?_, by omega, by omega, Or.inl rfl⟩
      simp [Format.read, d_sw, d_bin, d_lp, w1, w2]
    refine ⟨0, 0, ?_, by simp⟩
    simpa [Format.nearest] using h1
  · have ha0 : a ≠ 0 := by
      intro h; subst h
      rcases Nat.mul_eq_zero.1 (hv.trans (Nat.zero_mul _)) with h | h
      · exact h0 h
      · exact absurd h (Nat.ne_of_gt (Nat.two_pow_pos _))
    have l1 := Nat.log2_self_le h0
    have l2 := Nat.lt_log2_self (n := M)
    have a1 := Nat.log2_self_le ha0
    have a2 : a.log2 < 53 := (Nat.log2_lt ha0).2 (by rw [show (2 : Nat) ^ 53 = 9007199254740992 from by decide +kernel]; exact ha)
    -- the two sides have the same number of digits
    have hlog : M.log2 + K = a.log2 + (j + C) := by
      have e1 : (M * 2 ^ K).log2 = M.log2 + K := by
        apply (Nat.log2_eq_iff (Nat.mul_ne_zero h0 (Nat.ne_of_gt (Nat.two_pow_pos _)))).2
        exact ⟨by rw [Nat.pow_add]; exact Nat.mul_le_mul_right _ l1, by rw [show M.log2 + K + 1 = M.log2 + 1 + K by omega, Nat.pow_add]; exact Nat.mul_lt_mul_of_pos_right l2 (Nat.two_pow_pos _)⟩
      have e2 : (a * 2 ^ (j + C)).log2 = a.log2 + (j + C) := by
        apply (Nat.log2_eq_iff (Nat.mul_ne_zero ha0 (Nat.ne_of_gt (Nat.two_pow_pos _)))).2
        exact ⟨by rw [Nat.pow_add 2 a.log2]; exact Nat.mul_le_mul_right _ a1, by rw [show a.log2 + (j + C) + 1 = a.log2 + 1 + (j + C) by omega, Nat.pow_add 2 (a.log2 + 1)]; exact Nat.mul_lt_mul_of_pos_right Nat.lt_log2_self (Nat.two_pow_pos _)⟩
      rw [← e1, ← e2, hv]
    -- the last digit that is kept
    have hT : ∃ L : Nat, L = K + M.log2 - 52 - C := ⟨_, rfl⟩
    obtain ⟨L, hL⟩ := hT
    have hjL : L ≤ j := by omega
    have hlast : max (p + (M.log2 : Int) - (52 : Nat)) (-1074) = (L : Int) - 1074 := by omega
    have hkept : ∃ b, Toward.even.cut s (M <<< (p - ((L : Int) - 1074)).toNat) ((L : Int) - 1074 - p).toNat = b ∧ b = a * 2 ^ (j - L) := by
      refine ⟨_, rfl, ?_⟩
      have t1 : (p - ((L : Int) - 1074)).toNat = K - (L + C) := by omega
      have t2 : ((L : Int) - 1074 - p).toNat = L + C - K := by omega
      rw [t1, t2, Nat.shiftLeft_eq]
      have hq : M * 2 ^ K = a * 2 ^ (j - L) * 2 ^ (L + C) := by
        rw [hv, Nat.mul_assoc, ← Nat.pow_add]; congr 2; omega
      by_cases hK : L + C ≤ K
      · rw [show L + C - K = 0 by omega, cut_div _ _ _ ⟨_, (Nat.one_mul _).symm⟩]
        have h3 : M * 2 ^ (K - (L + C)) * 2 ^ (L + C) = a * 2 ^ (j - L) * 2 ^ (L + C) := by
          rw [← hq, Nat.mul_assoc, ← Nat.pow_add]; congr 2; omega
        simpa using Nat.eq_of_mul_eq_mul_right (Nat.two_pow_pos _) h3
      · rw [show K - (L + C) = 0 by omega]
        have h3 : M * 2 ^ K = a * 2 ^ (j - L) * 2 ^ (L + C - K) * 2 ^ K := by
          rw [hq, Nat.mul_assoc (a * 2 ^ (j - L)), ← Nat.pow_add]; congr 2; omega
        have h4 : M = a * 2 ^ (j - L) * 2 ^ (L + C - K) := Nat.eq_of_mul_eq_mul_right (Nat.two_pow_pos _) h3
        rw [cut_div _ _ _ ⟨a * 2 ^ (j - L), by rw [Nat.pow_zero, Nat.mul_one, Nat.mul_comm]; exact h4⟩]
        rw [Nat.pow_zero, Nat.mul_one, h4, Nat.mul_div_cancel _ (Nat.two_pow_pos _)]
    obtain ⟨b, hb1, hb2⟩ := hkept
    have hbv : b * 2 ^ L = a * 2 ^ j := by rw [hb2, Nat.mul_assoc, ← Nat.pow_add]; congr 2; omega
    have hb53 : b < 2 ^ 53 := by
      have : b * 2 ^ L < 2 ^ 53 * 2 ^ L := by
        rw [hbv, ← Nat.pow_add]
        calc a * 2 ^ j < 2 ^ (a.log2 + 1) * 2 ^ j := Nat.mul_lt_mul_of_pos_right Nat.lt_log2_self (Nat.two_pow_pos _)
          _ = 2 ^ (a.log2 + 1 + j) := (Nat.pow_add 2 (a.log2 + 1) j).symm
          _ ≤ 2 ^ (53 + L) := Nat.pow_le_pow_right (by omega) (by omega)
      exact Nat.lt_of_mul_lt_mul_right this
    have hbL : L = 0 ∨ 4503599627370496 ≤ b := by
      by_cases hL0 : L = 0
      · exact Or.inl hL0
      · right
        have : 2 ^ 52 * 2 ^ L ≤ b * 2 ^ L := by
          rw [hbv, ← Nat.pow_add]
          calc 2 ^ (52 + L) ≤ 2 ^ (a.log2 + j) := Nat.pow_le_pow_right (by omega) (by omega)
            _ = 2 ^ a.log2 * 2 ^ j := Nat.pow_add 2 a.log2 j
            _ ≤ a * 2 ^ j := Nat.mul_le_mul_right _ a1
        exact Nat.le_of_mul_le_mul_right this (Nat.two_pow_pos _)
    have hL45 : L ≤ 2045 := by
      rcases hbL with h | h
      · omega
      · have h1 : (2 : Nat) ^ (52 + L) < 2 ^ u98 := by
          refine Nat.lt_of_le_of_lt ?_ hj
          rw [← hbv, Nat.pow_add]
          exact Nat.mul_le_mul_right _ h
        have := (Nat.pow_lt_pow_iff_right (a := 2) (by omega)).1 h1
        have := u98_eq
        omega
    have hf : L * 4503599627370496 + b < 9218868437227405312 := by
      have : b < 9007199254740992 := hb53
      omega
    obtain ⟨m, k, n1, n2⟩ := word_num s L b (Nat.le_of_lt hb53) hbL hf
    refine ⟨m, k, ?_, n2.trans hbv⟩
    have e : double.nearest s M p = double.word s (L * 4503599627370496 + b) := by
      simp only [Format.nearest, if_neg h0, d_fb, d_lp, d_bin, d_inf]
      rw [hlast, hb1]
      rw [show ((L : Int) - 1074 - -1074).toNat = L by omega, Nat.min_eq_left (Nat.le_of_lt hf)]
    rw [e]; exact n1

end Go.Proofs.YtdhoimjkgicneacGreatDoor

/- Floating-point words as whole numbers of the smallest step: order, whole numbers, differences, cutting. Of no one program. -/
namespace Go.Proofs.YtdhoimjkgicneacGreatDoor
open Go Ieee

/-- A number with its sign. -/
def sg (s : Bool) (n : Nat) : Int := if s then -(n : Int) else n

/-- The word x is the number v, counted in the smallest steps. -/
def Val (x : Nat) (v : Int) : Prop := ∃ s m k, Num x s m k ∧ v = sg s (m * 2 ^ k)

theorem Num.val {x m k : Nat} {s : Bool} (h : Num x s m k) : Val x (sg s (m * 2 ^ k)) := ⟨s, m, k, h, rfl⟩

theorem sg_mul (s : Bool) (a b : Nat) : sg s (a * b) = sg s a * (b : Int) := by cases s <;> simp [sg, Int.neg_mul]
theorem signed_sg (s : Bool) (m u : Nat) : signed s m u = sg s (m * 2 ^ u) := by cases s <;> simp [signed, sg, Nat.shiftLeft_eq]
theorem sg_not (s : Bool) (n : Nat) : sg (!s) n = -sg s n := by cases s <;> simp [sg]
theorem sg_abs (s : Bool) (n : Nat) : (sg s n).natAbs = n := by cases s <;> simp [sg]

theorem compare_mul (a b c : Int) (hc : 0 < c) : compare (a * c) (b * c) = compare a b := by
  rcases Int.lt_trichotomy a b with h | h | h
  · have h2 : a * c < b * c := Int.mul_lt_mul_of_pos_right h hc
    rw [Int.compare_eq_lt.2 h, Int.compare_eq_lt.2 h2]
  · subst h; simp
  · have h2 : b * c < a * c := Int.mul_lt_mul_of_pos_right h hc
    rw [Int.compare_eq_gt.2 h, Int.compare_eq_gt.2 h2]

theorem two_pos (k : Nat) : (0 : Int) < 2 ^ k := Int.pow_pos (by decide)

theorem sg_scale (s : Bool) (m k b : Nat) (h : b ≤ k) : sg s (m * 2 ^ (k - b)) * (2 : Int) ^ b = sg s (m * 2 ^ k) := by
  have : m * 2 ^ k = m * 2 ^ (k - b) * 2 ^ b := by rw [Nat.mul_assoc, ← Nat.pow_add]; congr 2; omega
  rw [this, sg_mul _ _ (2 ^ b)]; simp

theorem order_val {x y : Nat} {v u : Int} (h : Val x v) (g : Val y u) : double.order x y = some (compare v u) := by
  obtain ⟨s, m, k, hx, rfl⟩ := h
  obtain ⟨t, n, l, hy, rfl⟩ := g
  simp only [Format.order, hx.read, hy.read, Datum.order]
  congr 1
  rw [signed_sg, signed_sg]
  have e1 : ((k : Int) - 1074 - min ((k : Int) - 1074) ((l : Int) - 1074)).toNat = k - min k l := by omega
  have e2 : ((l : Int) - 1074 - min ((k : Int) - 1074) ((l : Int) - 1074)).toNat = l - min k l := by omega
  rw [e1, e2, ← sg_scale s m k (min k l) (by omega), ← sg_scale t n l (min k l) (by omega)]
  exact (compare_mul _ _ _ (two_pos _)).symm

theorem order_nan_left {x y : Nat} {s : Bool} {t : Nat} (h : double.read x = .nan s t) : double.order x y = none := by simp [Format.order, h, Datum.order]
theorem order_nan_right {x y : Nat} {s : Bool} {t : Nat} (h : double.read y = .nan s t) : double.order x y = none := by
  simp only [Format.order, h]
  cases double.read x <;> simp [Datum.order]

theorem order_swap (x y : Nat) : double.order y x = (double.order x y).map Ordering.swap := by
  simp only [Format.order]
  cases double.read x <;> cases double.read y <;> simp only [Datum.order, Option.map]
  · rename_i s m i t n j
    rw [Int.min_comm j i]
    exact congrArg some (Std.OrientedCmp.eq_swap (cmp := (compare : Int → Int → Ordering)))
  · rename_i t; cases t <;> rfl
  · rename_i t _ _ _; cases t <;> rfl
  · rename_i s t; cases s <;> cases t <;> rfl

/-- A word is a nan, or it is its own equal. -/
theorem order_self (x : Nat) : double.order x x = some .eq ∨ ∃ s t, double.read x = .nan s t := by
  rcases read_cases x with ⟨s, m, k, h⟩ | ⟨s, h⟩ | ⟨s, t, h⟩
  · exact Or.inl (by rw [order_val h.val h.val]; simp)
  · exact Or.inl (by simp [Format.order, h, Datum.order])
  · exact Or.inr ⟨s, t, h⟩

theorem order_none {x y : Nat} (h : double.order x y = none) : double.order x x = none ∨ double.order y y = none := by
  rcases order_self x with hx | ⟨s, t, hx⟩
  · rcases order_self y with hy | ⟨s, t, hy⟩
    · exfalso
      simp only [Format.order] at h hx hy
      cases hrx : double.read x <;> rw [hrx] at h hx <;> cases hry : double.read y <;> rw [hry] at h hy <;> simp [Datum.order] at h hx hy
    · exact Or.inr (order_nan_left hy)
  · exact Or.inl (order_nan_left hx)

/-- A whole number of at most 53 digits is a word. -/
theorem num_int (n : Int) (h : n.natAbs < 9007199254740992) : ∃ m k, Num (floatOfInt .f64 n) (decide (n < 0)) m k ∧ m * 2 ^ k = n.natAbs * 2 ^ u74 := by
  obtain ⟨m, k, h1, h2⟩ := near_exact (decide (n < 0)) n.natAbs u74 0 n.natAbs u74 0 (by rw [u74_eq]; omega) (by rw [Nat.add_zero]) h (by
    refine Nat.lt_of_lt_of_le (Nat.mul_lt_mul_of_pos_right h (Nat.two_pow_pos _)) ?_
    rw [show (9007199254740992 : Nat) = 2 ^ 53 from by decide +kernel, ← Nat.pow_add]
    exact Nat.pow_le_pow_right (by omega) (by rw [u74_eq, u98_eq]; omega))
  exact ⟨m, k, h1, h2⟩

theorem val_int (n : Int) (h : n.natAbs < 9007199254740992) : Val (floatOfInt .f64 n) (n * 2 ^ u74) := by
  obtain ⟨m, k, h1, h2⟩ := num_int n h
  refine ⟨_, m, k, h1, ?_⟩
  rw [h2, sg_mul]
  have : sg (decide (n < 0)) n.natAbs = n := by
    by_cases h0 : n < 0 <;> simp [sg, h0] <;> omega
  rw [this]; simp

theorem order_int (a b : Int) (ha : a.natAbs < 9007199254740992) (hb : b.natAbs < 9007199254740992) : double.order (floatOfInt .f64 a) (floatOfInt .f64 b) = some (compare a b) := by
  rw [order_val (val_int a ha) (val_int b hb), compare_mul _ _ _ (two_pos _)]

/-- A difference that has a word is exact. -/
theorem sub_exact {x y : Nat} {v u : Int} (h : Val x v) (g : Val y u) (a j : Nat) (hv : (v - u).natAbs = a * 2 ^ j) (ha : a < 9007199254740992) (hj : a * 2 ^ j < 2 ^ u98) :
    ∃ r, double.sub x y = some r ∧ Val r (v - u) := by
  obtain ⟨s, m, k, hx, rfl⟩ := h
  obtain ⟨t, n, l, hy, rfl⟩ := g
  simp only [Format.sub, hx.read, hy.read, Datum.opposite, Datum.sum, Option.map]
  refine ⟨_, rfl, ?_⟩
  rw [signed_sg, signed_sg, sg_not]
  have e1 : ((k : Int) - 1074 - min ((k : Int) - 1074) ((l : Int) - 1074)).toNat = k - min k l := by omega
  have e2 : ((l : Int) - 1074 - min ((k : Int) - 1074) ((l : Int) - 1074)).toNat = l - min k l := by omega
  have e3 : min ((k : Int) - 1074) ((l : Int) - 1074) = ((min k l : Nat) : Int) - (0 : Nat) - 1074 := by omega
  rw [e1, e2, e3]
  have hd : ∃ z, sg s (m * 2 ^ (k - min k l)) + -sg t (n * 2 ^ (l - min k l)) = z ∧ sg s (m * 2 ^ k) - sg t (n * 2 ^ l) = z * 2 ^ min k l := by
    refine ⟨_, rfl, ?_⟩
    rw [← sg_scale s m k (min k l) (by omega), ← sg_scale t n l (min k l) (by omega), Int.add_mul, Int.neg_mul]
    omega
  obtain ⟨z, z1, z2⟩ := hd
  rw [z2] at hv
  rw [z1, z2]
  have hz : z.natAbs * 2 ^ min k l = a * 2 ^ (j + 0) := by
    rw [Nat.add_zero, ← hv, Int.natAbs_mul, Int.natAbs_pow, show Int.natAbs 2 = 2 from rfl]
  simp only [Format.write]
  obtain ⟨m', k', h1, h2⟩ := near_exact (if z = 0 then s && !t else decide (z < 0)) z.natAbs (min k l) 0 a j _ rfl hz ha hj
  refine ⟨_, m', k', h1, ?_⟩
  rw [h2, show a * 2 ^ j = z.natAbs * 2 ^ min k l from by rw [hz, Nat.add_zero], sg_mul]
  have : sg (if z = 0 then s && !t else decide (z < 0)) z.natAbs = z := by
    by_cases h0 : z = 0
    · subst h0; cases s <;> cases t <;> simp [sg]
    · by_cases h1 : z < 0 <;> simp [sg, h0, h1] <;> omega
  rw [this]; simp

theorem cut_zero (s : Bool) (n d : Nat) : Toward.zero.cut s n d = n / 2 ^ d := by
  simp only [Toward.cut, Bool.toNat_false, Nat.add_zero, Nat.shiftLeft_eq, Nat.one_mul]
  by_cases h : d ≤ n.log2 + 2
  · rw [Nat.min_eq_left h]
  · have h1 : n < 2 ^ (n.log2 + 2) := Nat.lt_trans Nat.lt_log2_self (Nat.pow_lt_pow_right (by omega) (by omega))
    have h2 : n < 2 ^ d := Nat.lt_trans h1 (Nat.pow_lt_pow_right (by omega) (by omega))
    rw [Nat.min_eq_right (by omega), Nat.div_eq_of_lt h1, Nat.div_eq_of_lt h2]

/-- A number that is cut. -/
theorem cut_num {x m k : Nat} {s : Bool} (h : Num x s m k) : (FloatKind.f64.decode x).toInt .zero = some (sg s (m * 2 ^ k / 2 ^ u74)) := by
  have hr : FloatKind.f64.decode x = .number s m ((k : Int) - 1074) := h.read
  simp only [Datum.toInt, hr, Datum.integral, cut_zero]
  rw [signed_sg, Nat.shiftLeft_eq]
  congr 2
  rw [Nat.pow_zero, Nat.mul_one]
  by_cases hk : k ≤ 1074
  · rw [show ((k : Int) - 1074).toNat = 0 by omega, show (-((k : Int) - 1074)).toNat = u74 - k by have := u74_eq; omega, Nat.pow_zero, Nat.mul_one]
    rw [show (2 : Nat) ^ u74 = 2 ^ (u74 - k) * 2 ^ k from by rw [← Nat.pow_add]; congr 1; have := u74_eq; omega]
    exact (Nat.mul_div_mul_right _ _ (Nat.two_pow_pos _)).symm
  · rw [show ((k : Int) - 1074).toNat = k - u74 by have := u74_eq; omega, show (-((k : Int) - 1074)).toNat = 0 by omega, Nat.pow_zero, Nat.div_one]
    rw [show m * 2 ^ k = m * 2 ^ (k - u74) * 2 ^ u74 from by rw [Nat.mul_assoc, ← Nat.pow_add]; congr 2; have := u74_eq; omega]
    exact (Nat.mul_div_cancel _ (Nat.two_pow_pos _)).symm

end Go.Proofs.YtdhoimjkgicneacGreatDoor
