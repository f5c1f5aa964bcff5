/- Texts of this proof laid together: Dev2, Dev3, TxtA. -/
import Derived.Test.YtdhoimjkgicneaaDoorLot7
/- How long the text of an operand is; that it is empty just where the operand is not ok. Plain. -/
namespace Go.Proofs.YtdhoimjkgicneaaDoor
open Go

theorem ok_int {n p : Int} (h : okB 11 n p = true) : -32768 ≤ n ∧ n ≤ 32767 ∧ p = 0 := by simpa [okB] using h
theorem ok_dec {n p : Int} (h : okB 12 n p = true) : -999999999 ≤ n ∧ n ≤ 999999999 ∧ 1 ≤ p ∧ p ≤ 6 ∧ (p = 1 ∨ n.tmod 10 ≠ 0) := by
  unfold okB at h; rw [if_neg (by decide), if_pos rfl] at h; exact of_decide_eq_true h
theorem ok_word {n p : Int} (h : okB 13 n p = true) : 0 ≤ n ∧ n ≤ 3 ∧ p = 0 := by simpa [okB] using h
theorem ok_dev {k n p : Int} (h : okB k n p = true) (hk : k < 11 ∨ 13 < k) : 0 ≤ n ∧ n < sizeZ k ∧ p = 0 := by
  unfold okB at h; rw [if_neg (by omega), if_neg (by omega), if_neg (by omega)] at h; exact of_decide_eq_true h
theorem ok_kind {k n p : Int} (h : okB k n p = true) (hk : k < 11 ∨ 13 < k) : 1 ≤ k ∧ k ≤ 10 := by
  have h1 := ok_dev h hk
  by_cases h2 : 1 ≤ k ∧ k ≤ 10
  · exact h2
  · have := sizeZ_out (k := k) (by omega)
    omega

theorem wordL_len (n : Int) : (wordL n).length ≤ 4 := by
  unfold wordL
  repeat' split
  all_goals decide

theorem decT_len {n : Int} {p : Nat} (h1 : -999999999 ≤ n) (h2 : n ≤ 999999999) (hp : p ≤ 6) : (decT n p).length ≤ 31 := by
  unfold decT
  split
  · have := decM_len (m := n.natAbs) (p := p) (by omega) hp
    simp; omega
  · have := decM_len (m := n.toNat) (p := p) (by omega) hp
    omega

theorem textL_len (k n p : Int) : (textL k n p).length ≤ 40 := by
  cases hk : okB k n p with
  | false => unfold textL; rw [if_pos hk]; simp
  | true =>
    unfold textL
    rw [if_neg (by rw [hk]; decide)]
    split
    · rename_i h; subst h
      have := ok_int hk
      have := itoa_len (n := n) (by omega) (by omega)
      omega
    · split
      · rename_i h; subst h
        have := ok_dec hk
        have := decT_len (n := n) (p := p.toNat) (by omega) (by omega) (by omega)
        omega
      · split
        · have := wordL_len n; omega
        · have h1 := ok_dev hk (by omega)
          have h2 := sizeZ_bd k
          have h3 := itoa_len (n := n) (by omega) (by omega)
          have h4 := letterL_len k
          simp; omega

theorem textL_ne {k n p : Int} (hk : okB k n p = true) : textL k n p ≠ [] := by
  unfold textL
  rw [if_neg (by rw [hk]; decide)]
  have hpos : ∀ n : Int, Lib.itoa n ≠ [] := by
    intro n; unfold Lib.itoa
    split
    · simp
    · intro h; have := dd_pos n.toNat; rw [h] at this; simp at this
  split
  · exact hpos n
  · split
    · unfold decT decM pointL
      split <;> simp
    · split
      · have := ok_word (n := n) (p := p) (by rename_i h; rw [← h]; exact hk)
        have h4 : n = 0 ∨ n = 1 ∨ n = 2 ∨ n = 3 := by omega
        rcases h4 with rfl | rfl | rfl | rfl <;> decide
      · intro h; exact hpos n (List.append_eq_nil_iff.1 h).2

end Go.Proofs.YtdhoimjkgicneaaDoor

/- Reading texts of operands: two readers, one by pieces and one sign by sign, each gives back an operand out of its text. Plain. -/
namespace Go.Proofs.YtdhoimjkgicneaaDoor
open Go

def isDig (c : UInt8) : Bool := decide (48 ≤ c.toNat ∧ c.toNat ≤ 57)
def dval (l : List UInt8) (a : Nat) : Nat := l.foldl (fun a c => a * 10 + (c.toNat - 48)) a
def digitsZ (l : List UInt8) : Int := if 1 ≤ l.length ∧ l.length ≤ 17 ∧ l.all isDig = true then (dval l 0 : Int) else -1
def fnd : List UInt8 → Option Nat
  | [] => none
  | c :: cs => if c = 46 then some 0 else (fnd cs).map (· + 1)
def letK (l : List UInt8) : Int :=
  if l.take 1 = [88] then 1 else if l.take 1 = [89] then 2 else if l.take 1 = [77] then 3 else if l.take 1 = [83] then 4 else if l.take 1 = [69] then 5 else if l.take 1 = [71] then 6
  else if l.take 1 = [84] then 7 else if l.take 1 = [67] then 8 else if l.take 1 = [68] then 9 else if l.take 1 = [82] then 10 else 0
def numP (s : Int) (l : List UInt8) : Int × Int × Int :=
  match fnd l with
  | none => (11, s * digitsZ l, 0)
  | some d => (12, s * digitsZ (l.take d ++ l.drop (d + 1)), (l.length : Int) - d - 1)
def guessP (l : List UInt8) : Int × Int × Int :=
  if l = wordL 0 then (13, 0, 0) else if l = wordL 1 then (13, 1, 0) else if l = wordL 2 then (13, 2, 0) else if l = wordL 3 then (13, 3, 0)
  else if letK l ≠ 0 then (letK l, digitsZ (l.drop 1), 0) else if l.take 1 = [45] then numP (-1) (l.drop 1) else numP 1 l
def scanL (k s : Int) (N P : Nat) : List UInt8 → Int × Int × Int
  | [] => (k, N * s, P)
  | c :: cs => if c = 46 ∧ k = 11 then scanL 12 s N P cs else if isDig c = false ∨ 99999999 < N then (0, 0, 0) else scanL k s (N * 10 + (c.toNat - 48)) (if k = 12 then P + 1 else P) cs
def scanP (l : List UInt8) : Int × Int × Int :=
  if l = wordL 0 then (13, 0, 0) else if l = wordL 1 then (13, 1, 0) else if l = wordL 2 then (13, 2, 0) else if l = wordL 3 then (13, 3, 0)
  else if letK l ≠ 0 then scanL (letK l) 1 0 0 (l.drop 1) else if l.take 1 = [45] then scanL 11 (-1) 0 0 (l.drop 1) else scanL 11 1 0 0 l

/- digits -/
theorem dig_of (d : Nat) (h : d < 10) : isDig (48 + UInt8.ofNat d) = true ∧ (48 + UInt8.ofNat d).toNat - 48 = d := by
  have : (48 + UInt8.ofNat d).toNat = 48 + d := by simp [UInt8.toNat_add, UInt8.toNat_ofNat']; omega
  unfold isDig; rw [this]; simp; omega
theorem dd_all (n : Nat) : (Lib.decDigits n).all isDig = true := by
  induction n using Nat.strongRecOn with
  | ind n ih =>
    by_cases h : 9 < n
    · rw [dd_ge h, List.all_append, ih (n / 10) (by omega)]
      simp [(dig_of (n % 10) (by omega)).1]
    · rw [dd_lt (by omega)]; simp [(dig_of n (by omega)).1]
theorem dval_append (a b : List UInt8) (x : Nat) : dval (a ++ b) x = dval b (dval a x) := by simp [dval]
theorem dval_dd (n : Nat) : dval (Lib.decDigits n) 0 = n := by
  induction n using Nat.strongRecOn with
  | ind n ih =>
    by_cases h : 9 < n
    · rw [dd_ge h, dval_append, ih (n / 10) (by omega)]
      simp [dval]
      have := (dig_of (n % 10) (by omega)).2
      omega
    · rw [dd_lt (by omega)]
      simp [dval]
      have := (dig_of n (by omega)).2
      omega
theorem dval_pad (j : Nat) (l : List UInt8) : dval (List.replicate j 48 ++ l) 0 = dval l 0 := by
  rw [dval_append]
  have : ∀ j, dval (List.replicate j 48) 0 = 0 := by
    intro j
    induction j with
    | zero => rfl
    | succ j ih => rw [List.replicate_succ]; simpa [dval] using ih
  rw [this]
theorem pad_all (n p : Nat) : (padL (Lib.decDigits n) p).all isDig = true := by
  rw [padL, List.all_append, dd_all]
  simp; right; decide
theorem dval_le (l : List UInt8) : ∀ x, x ≤ dval l x := by
  induction l with
  | nil => intro x; exact Nat.le_refl _
  | cons c cs ih => intro x; have := ih (x * 10 + (c.toNat - 48)); simp only [dval, List.foldl_cons] at this ⊢; omega
theorem not_dot {c : UInt8} (h : isDig c = true) : c ≠ 46 := by rintro rfl; revert h; decide
theorem not_minus {c : UInt8} (h : isDig c = true) : c ≠ 45 := by rintro rfl; revert h; decide

theorem fnd_none : ∀ {l : List UInt8}, l.all isDig = true → fnd l = none
  | [], _ => rfl
  | c :: cs, h => by
    simp only [List.all_cons, Bool.and_eq_true] at h
    simp [fnd, not_dot h.1, fnd_none h.2]
theorem fnd_some : ∀ {l : List UInt8} (r : List UInt8), l.all isDig = true → fnd (l ++ 46 :: r) = some l.length
  | [], r, _ => rfl
  | c :: cs, r, h => by
    simp only [List.all_cons, Bool.and_eq_true] at h
    simp [fnd, not_dot h.1, fnd_some r h.2]

/- the first sign -/
theorem letK_dig {c : UInt8} (cs : List UInt8) (h : isDig c = true) : letK (c :: cs) = 0 := by
  have : ∀ d : UInt8, isDig d = false → c ≠ d := by rintro d hd rfl; rw [h] at hd; cases hd
  unfold letK
  simp [this 88 (by decide), this 89 (by decide), this 77 (by decide), this 83 (by decide), this 69 (by decide), this 71 (by decide), this 84 (by decide), this 67 (by decide), this 68 (by decide), this 82 (by decide)]
theorem letK_minus (cs : List UInt8) : letK (45 :: cs) = 0 := by unfold letK; simp
theorem word_dig {c : UInt8} (cs : List UInt8) (h : isDig c = true) : c :: cs ≠ wordL 0 ∧ c :: cs ≠ wordL 1 ∧ c :: cs ≠ wordL 2 ∧ c :: cs ≠ wordL 3 := by
  have : ∀ d : UInt8, isDig d = false → c ≠ d := by rintro d hd rfl; rw [h] at hd; cases hd
  have a := this 110 (by decide)
  have b := this 105 (by decide)
  have e := this 45 (by decide)
  refine ⟨?_, ?_, ?_, ?_⟩
  · rw [show wordL 0 = [110, 97, 110] by decide]; simp [a]
  · rw [show wordL 1 = [105, 110, 102] by decide]; simp [b]
  · rw [show wordL 2 = [45, 105, 110, 102] by decide]; simp [e]
  · rw [show wordL 3 = [45, 48, 46, 48] by decide]; simp [e]
theorem word_minus {c : UInt8} (cs : List UInt8) (h : isDig c = true) (h3 : c :: cs ≠ [48, 46, 48]) : 45 :: c :: cs ≠ wordL 0 ∧ 45 :: c :: cs ≠ wordL 1 ∧ 45 :: c :: cs ≠ wordL 2 ∧ 45 :: c :: cs ≠ wordL 3 := by
  have : ∀ d : UInt8, isDig d = false → c ≠ d := by rintro d hd rfl; rw [h] at hd; cases hd
  have b := this 105 (by decide)
  refine ⟨?_, ?_, ?_, ?_⟩
  · rw [show wordL 0 = [110, 97, 110] by decide]; simp
  · rw [show wordL 1 = [105, 110, 102] by decide]; simp
  · rw [show wordL 2 = [45, 105, 110, 102] by decide]; simp [b]
  · rw [show wordL 3 = [45, 48, 46, 48] by decide]
    intro e; exact h3 (List.cons.inj e).2
theorem head_dig : ∀ {l : List UInt8}, l.all isDig = true → 1 ≤ l.length → ∃ c cs, l = c :: cs ∧ isDig c = true
  | c :: cs, h, _ => ⟨c, cs, rfl, by simp only [List.all_cons, Bool.and_eq_true] at h; exact h.1⟩

theorem guess_plus {l : List UInt8} (h : ∃ c cs, l = c :: cs ∧ isDig c = true) : guessP l = numP 1 l := by
  obtain ⟨c, cs, rfl, hc⟩ := h
  obtain ⟨a, b, d, e⟩ := word_dig cs hc
  unfold guessP
  rw [if_neg a, if_neg b, if_neg d, if_neg e, letK_dig cs hc, if_neg (by simp), if_neg (by simp [not_minus hc])]
theorem guess_minus {l : List UInt8} (h : ∃ c cs, l = c :: cs ∧ isDig c = true) (h3 : l ≠ [48, 46, 48]) : guessP (45 :: l) = numP (-1) l := by
  obtain ⟨c, cs, rfl, hc⟩ := h
  obtain ⟨a, b, d, e⟩ := word_minus cs hc h3
  unfold guessP
  rw [if_neg a, if_neg b, if_neg d, if_neg e, letK_minus, if_neg (by simp), if_pos (by simp)]
  rfl
theorem scan_plus {l : List UInt8} (h : ∃ c cs, l = c :: cs ∧ isDig c = true) : scanP l = scanL 11 1 0 0 l := by
  obtain ⟨c, cs, rfl, hc⟩ := h
  obtain ⟨a, b, d, e⟩ := word_dig cs hc
  unfold scanP
  rw [if_neg a, if_neg b, if_neg d, if_neg e, letK_dig cs hc, if_neg (by simp), if_neg (by simp [not_minus hc])]
theorem scan_minus {l : List UInt8} (h : ∃ c cs, l = c :: cs ∧ isDig c = true) (h3 : l ≠ [48, 46, 48]) : scanP (45 :: l) = scanL 11 (-1) 0 0 l := by
  obtain ⟨c, cs, rfl, hc⟩ := h
  obtain ⟨a, b, d, e⟩ := word_minus cs hc h3
  unfold scanP
  rw [if_neg a, if_neg b, if_neg d, if_neg e, letK_minus, if_neg (by simp), if_pos (by simp)]
  rfl

/- digits, sign by sign -/
theorem scan_digits (k s : Int) (r : List UInt8) : ∀ (l : List UInt8) (N P : Nat), l.all isDig = true → dval l N ≤ 999999999 →
    scanL k s N P (l ++ r) = scanL k s (dval l N) (if k = 12 then P + l.length else P) r
  | [], N, P, _, _ => by simp [dval]
  | c :: cs, N, P, h, hv => by
    simp only [List.all_cons, Bool.and_eq_true] at h
    have hv' : dval cs (N * 10 + (c.toNat - 48)) ≤ 999999999 := by simpa [dval] using hv
    have h9 := dval_le cs (N * 10 + (c.toNat - 48))
    have ih := scan_digits k s r cs (N * 10 + (c.toNat - 48)) (if k = 12 then P + 1 else P) h.2 hv'
    rw [List.cons_append, scanL, if_neg (by intro e; exact not_dot h.1 e.1), if_neg (by rw [h.1]; simp; omega), ih]
    have e1 : dval (c :: cs) N = dval cs (N * 10 + (c.toNat - 48)) := by simp [dval]
    rw [e1]
    congr 1
    split <;> simp <;> omega

end Go.Proofs.YtdhoimjkgicneaaDoor

/- The text of a real number: of which numbers a text is the text. Of no one program. -/
namespace Go.Proofs.YtdhoimjkgicneaaDoor
open Go Ieee

/-- A sign. -/
def sgnL (s : Bool) : List UInt8 := if s then [45] else []

/-- The text of an odd number times a power of two, counted from the smallest. -/
def finL (s : Bool) (n c : Nat) : List UInt8 := sgnL s ++ (Lib.decDigits n ++ ([42, 50, 94] ++ Lib.itoa ((c : Int) - 1074)))

/-- The word x has the text l. -/
def Txt (x : Nat) (l : List UInt8) : Prop :=
  ((∃ s t, double.read x = .nan s t) ∧ l = [110, 97, 110]) ∨ (∃ s, double.read x = .infinity s ∧ l = sgnL s ++ [105, 110, 102]) ∨ (∃ s k, Num x s 0 k ∧ l = sgnL s ++ [48]) ∨
  (∃ s m k n c, Num x s m k ∧ m ≠ 0 ∧ n % 2 = 1 ∧ m * 2 ^ k = n * 2 ^ c ∧ l = finL s n c)

/-- Two words are the same number, to the sign of nought. -/
def Same (x y : Nat) : Prop :=
  ((∃ s t, double.read x = .nan s t) ∧ (∃ s t, double.read y = .nan s t)) ∨ (∃ s, double.read x = .infinity s ∧ double.read y = .infinity s) ∨ (∃ s m k m' k', Num x s m k ∧ Num y s m' k' ∧ m * 2 ^ k = m' * 2 ^ k')

theorem odd_unique {n c n' c' : Nat} (h : n % 2 = 1) (h' : n' % 2 = 1) (e : n * 2 ^ c = n' * 2 ^ c') : n = n' ∧ c = c' := by
  have key : ∀ {n c n' c' : Nat}, n % 2 = 1 → n' % 2 = 1 → n * 2 ^ c = n' * 2 ^ c' → c ≤ c' → c = c' := by
    intro n c n' c' h h' e hle
    apply Classical.byContradiction
    intro hne
    have e2 : n * 2 ^ c = n' * 2 ^ (c' - c) * 2 ^ c := by rw [e, Nat.mul_assoc, ← Nat.pow_add]; congr 2; omega
    have e3 := Nat.eq_of_mul_eq_mul_right (Nat.two_pow_pos c) e2
    have : 2 ^ (c' - c) = 2 * 2 ^ (c' - c - 1) := by rw [← Nat.pow_succ']; congr 1; omega
    rw [this, Nat.mul_left_comm] at e3
    omega
  have hc : c = c' := by
    rcases Nat.le_total c c' with hl | hl
    · exact key h h' e hl
    · exact (key h' h e.symm hl).symm
  subst hc
  exact ⟨Nat.eq_of_mul_eq_mul_right (Nat.two_pow_pos c) e, rfl⟩

theorem split_star : ∀ {a b r r' : List UInt8}, a.all isDig = true → b.all isDig = true → a ++ 42 :: r = b ++ 42 :: r' → a = b ∧ r = r'
  | [], [], r, r', _, _, h => by simpa using h
  | [], y :: b, r, r', _, hb, h => by
    simp at h
    simp only [List.all_cons, Bool.and_eq_true] at hb
    rw [← h.1] at hb
    exact absurd hb.1 (by decide)
  | x :: a, [], r, r', ha, _, h => by
    simp at h
    simp only [List.all_cons, Bool.and_eq_true] at ha
    rw [h.1] at ha
    exact absurd ha.1 (by decide)
  | x :: a, y :: b, r, r', ha, hb, h => by
    simp only [List.cons_append, List.cons.injEq] at h
    simp only [List.all_cons, Bool.and_eq_true] at ha hb
    obtain ⟨e1, e2⟩ := split_star ha.2 hb.2 h.2
    exact ⟨by rw [h.1, e1], e2⟩

theorem dd_inj {n m : Nat} (h : Lib.decDigits n = Lib.decDigits m) : n = m := by rw [← dval_dd n, h, dval_dd]

theorem dd_head (n : Nat) : ∃ c cs, Lib.decDigits n = c :: cs ∧ isDig c = true := head_dig (dd_all n) (dd_pos n)

theorem itoa_inj {a b : Int} (h : Lib.itoa a = Lib.itoa b) : a = b := by
  unfold Lib.itoa at h
  split at h <;> split at h
  · have := dd_inj (List.cons.inj h).2
    omega
  · obtain ⟨c, cs, e, hd⟩ := dd_head b.toNat
    rw [e] at h
    rw [← (List.cons.inj h).1] at hd
    exact absurd hd (by decide)
  · obtain ⟨c, cs, e, hd⟩ := dd_head a.toNat
    rw [e] at h
    rw [(List.cons.inj h).1] at hd
    exact absurd hd (by decide)
  · have := dd_inj h
    omega

theorem finL_inj {s s' : Bool} {n n' c c' : Nat} (h : finL s n c = finL s' n' c') : s = s' ∧ n = n' ∧ c = c' := by
  have body : ∀ {n n' c c' : Nat}, Lib.decDigits n ++ ([42, 50, 94] ++ Lib.itoa ((c : Int) - 1074)) = Lib.decDigits n' ++ ([42, 50, 94] ++ Lib.itoa ((c' : Int) - 1074)) → n = n' ∧ c = c' := by
    intro n n' c c' h
    obtain ⟨e1, e2⟩ := split_star (dd_all n) (dd_all n') h
    refine ⟨dd_inj e1, ?_⟩
    have := itoa_inj (List.cons.inj (List.cons.inj e2).2).2
    omega
  unfold finL at h
  obtain ⟨x, xs, hx, dx⟩ := dd_head n
  obtain ⟨y, ys, hy, dy⟩ := dd_head n'
  cases s <;> cases s'
  · exact ⟨rfl, body (by simpa [sgnL] using h)⟩
  · exfalso
    rw [hx] at h
    simp [sgnL] at h
    rw [h.1] at dx
    exact absurd dx (by decide)
  · exfalso
    rw [hy] at h
    simp [sgnL] at h
    rw [← h.1] at dy
    exact absurd dy (by decide)
  · exact ⟨rfl, body (by simpa [sgnL] using h)⟩

theorem itoa_pos (n : Int) : 1 ≤ (Lib.itoa n).length := by
  unfold Lib.itoa
  split
  · simp
  · exact dd_pos _

theorem finL_len (s : Bool) (n c : Nat) : 5 ≤ (finL s n c).length := by
  have h1 := dd_pos n
  have h2 := itoa_pos ((c : Int) - 1074)
  simp [finL]
  omega

theorem sgn_len (s : Bool) : (sgnL s).length ≤ 1 := by cases s <;> simp [sgnL]

theorem nan_ne_inf (s : Bool) : ([110, 97, 110] : List UInt8) ≠ sgnL s ++ [105, 110, 102] := by cases s <;> decide
theorem inf_inj {s s' : Bool} (h : sgnL s ++ [105, 110, 102] = sgnL s' ++ [105, 110, 102]) : s = s' := by cases s <;> cases s' <;> first | rfl | (revert h; decide)
theorem zero_inj {s s' : Bool} (h : sgnL s ++ [48] = sgnL s' ++ [48]) : s = s' := by cases s <;> cases s' <;> first | rfl | (revert h; decide)
theorem nan_ne_zero (s : Bool) : ([110, 97, 110] : List UInt8) ≠ sgnL s ++ [48] := by cases s <;> decide
theorem inf_ne_zero (s s' : Bool) : sgnL s ++ [105, 110, 102] ≠ sgnL s' ++ [48] := by cases s <;> cases s' <;> decide
theorem nan_ne_fin (s : Bool) (n c : Nat) : ([110, 97, 110] : List UInt8) ≠ finL s n c := by
  intro h; have := finL_len s n c; rw [← h] at this; simp at this
theorem inf_ne_fin (s s' : Bool) (n c : Nat) : sgnL s ++ [105, 110, 102] ≠ finL s' n c := by
  intro h; have := finL_len s' n c; rw [← h] at this; have := sgn_len s; simp at *; omega
theorem zero_ne_fin (s s' : Bool) (n c : Nat) : sgnL s ++ [48] ≠ finL s' n c := by
  intro h; have := finL_len s' n c; rw [← h] at this; have := sgn_len s; simp at *; omega

/-- Two words of one text are the same number. -/
theorem txt_same {x y : Nat} {l : List UInt8} (h : Txt x l) (g : Txt y l) : Same x y := by
  rcases h with ⟨h1, rfl⟩ | ⟨s, h1, rfl⟩ | ⟨s, k, h1, rfl⟩ | ⟨s, m, k, n, c, h1, h2, h3, h4, rfl⟩
  · rcases g with ⟨g1, -⟩ | ⟨t, -, e⟩ | ⟨t, j, -, e⟩ | ⟨t, m', j, n', d, -, -, -, -, e⟩
    · exact Or.inl ⟨h1, g1⟩
    · exact absurd e (nan_ne_inf t)
    · exact absurd e (nan_ne_zero t)
    · exact absurd e (nan_ne_fin t n' d)
  · rcases g with ⟨g1, e⟩ | ⟨t, g1, e⟩ | ⟨t, j, -, e⟩ | ⟨t, m', j, n', d, -, -, -, -, e⟩
    · exact absurd e.symm (nan_ne_inf s)
    · obtain rfl := inf_inj e
      exact Or.inr (Or.inl ⟨s, h1, g1⟩)
    · exact absurd e (inf_ne_zero s t)
    · exact absurd e (inf_ne_fin s t n' d)
  · rcases g with ⟨g1, e⟩ | ⟨t, g1, e⟩ | ⟨t, j, g1, e⟩ | ⟨t, m', j, n', d, -, -, -, -, e⟩
    · exact absurd e.symm (nan_ne_zero s)
    · exact absurd e.symm (inf_ne_zero t s)
    · obtain rfl := zero_inj e
      exact Or.inr (Or.inr ⟨s, 0, k, 0, j, h1, g1, by simp⟩)
    · exact absurd e (zero_ne_fin s t n' d)
  · rcases g with ⟨g1, e⟩ | ⟨t, g1, e⟩ | ⟨t, j, g1, e⟩ | ⟨t, m', j, n', d, g1, g2, g3, g4, e⟩
    · exact absurd e.symm (nan_ne_fin s n c)
    · exact absurd e.symm (inf_ne_fin t s n c)
    · exact absurd e.symm (zero_ne_fin t s n c)
    · obtain ⟨rfl, rfl, rfl⟩ := finL_inj e
      exact Or.inr (Or.inr ⟨s, m, k, m', j, h1, g1, by rw [h4, g4]⟩)

theorem num_read {x m k m' k' : Nat} {s s' : Bool} (h : Num x s m k) (g : Num x s' m' k') : s = s' ∧ m = m' ∧ k = k' := by
  have := h.read.symm.trans g.read
  injection this with a b c
  exact ⟨a, b, by omega⟩

/-- Words that are the same number have one text. -/
theorem txt_of_same {x y : Nat} {l : List UInt8} (hs : Same x y) (h : Txt x l) : Txt y l := by
  rcases hs with ⟨⟨s, t, a⟩, b⟩ | ⟨s, a, b⟩ | ⟨s, m, k, m', k', a, b, e⟩
  · rcases h with ⟨-, rfl⟩ | ⟨s', h1, -⟩ | ⟨s', k, h1, -⟩ | ⟨s', m, k, n, c, h1, -⟩
    · exact Or.inl ⟨b, rfl⟩
    · rw [a] at h1; cases h1
    · have := h1.read; rw [a] at this; cases this
    · have := h1.read; rw [a] at this; cases this
  · rcases h with ⟨⟨s', t, h1⟩, -⟩ | ⟨s', h1, rfl⟩ | ⟨s', k, h1, -⟩ | ⟨s', m, k, n, c, h1, -⟩
    · rw [a] at h1; cases h1
    · rw [a] at h1; cases h1
      exact Or.inr (Or.inl ⟨s, b, rfl⟩)
    · have := h1.read; rw [a] at this; cases this
    · have := h1.read; rw [a] at this; cases this
  · rcases h with ⟨⟨s', t, h1⟩, -⟩ | ⟨s', h1, rfl⟩ | ⟨s', k2, h1, rfl⟩ | ⟨s', m2, k2, n, c, h1, h2, h3, h4, rfl⟩
    · have := a.read; rw [h1] at this; cases this
    · have := a.read; rw [h1] at this; cases this
    · obtain ⟨rfl, rfl, rfl⟩ := num_read a h1
      have hm : m' = 0 := by
        have : m' * 2 ^ k' = 0 := by rw [← e]; simp
        rcases Nat.mul_eq_zero.1 this with h | h
        · exact h
        · exact absurd h (Nat.ne_of_gt (Nat.two_pow_pos _))
      subst hm
      exact Or.inr (Or.inr (Or.inl ⟨s, k', b, rfl⟩))
    · obtain ⟨rfl, rfl, rfl⟩ := num_read a h1
      refine Or.inr (Or.inr (Or.inr ⟨s, m', k', n, c, b, ?_, h3, by rw [← e, h4], rfl⟩))
      intro h0
      subst h0
      rw [Nat.zero_mul] at e
      rcases Nat.mul_eq_zero.1 e with h | h
      · exact h2 h
      · exact absurd h (Nat.ne_of_gt (Nat.two_pow_pos _))

/-- A word has one text. -/
theorem txt_fun {x : Nat} {l l' : List UInt8} (h : Txt x l) (g : Txt x l') : l = l' := by
  rcases h with ⟨⟨s, t, h1⟩, rfl⟩ | ⟨s, h1, rfl⟩ | ⟨s, k, h1, rfl⟩ | ⟨s, m, k, n, c, h1, h2, h3, h4, rfl⟩
  · rcases g with ⟨-, rfl⟩ | ⟨s', g1, -⟩ | ⟨s', k', g1, -⟩ | ⟨s', m', k', n', c', g1, -⟩
    · rfl
    · rw [h1] at g1; cases g1
    · have := g1.read; rw [h1] at this; cases this
    · have := g1.read; rw [h1] at this; cases this
  · rcases g with ⟨⟨s', t, g1⟩, -⟩ | ⟨s', g1, rfl⟩ | ⟨s', k', g1, -⟩ | ⟨s', m', k', n', c', g1, -⟩
    · rw [h1] at g1; cases g1
    · rw [h1] at g1; cases g1; rfl
    · have := g1.read; rw [h1] at this; cases this
    · have := g1.read; rw [h1] at this; cases this
  · rcases g with ⟨⟨s', t, g1⟩, -⟩ | ⟨s', g1, -⟩ | ⟨s', k', g1, rfl⟩ | ⟨s', m', k', n', c', g1, g2, -⟩
    · have := h1.read; rw [g1] at this; cases this
    · have := h1.read; rw [g1] at this; cases this
    · obtain ⟨rfl, -, -⟩ := num_read h1 g1; rfl
    · obtain ⟨-, e, -⟩ := num_read h1 g1; exact absurd e.symm g2
  · rcases g with ⟨⟨s', t, g1⟩, -⟩ | ⟨s', g1, -⟩ | ⟨s', k', g1, -⟩ | ⟨s', m', k', n', c', g1, g2, g3, g4, rfl⟩
    · have := h1.read; rw [g1] at this; cases this
    · have := h1.read; rw [g1] at this; cases this
    · obtain ⟨-, e, -⟩ := num_read h1 g1; exact absurd e h2
    · obtain ⟨rfl, rfl, rfl⟩ := num_read h1 g1
      obtain ⟨rfl, rfl⟩ := odd_unique h3 g3 (h4.symm.trans g4)
      rfl

end Go.Proofs.YtdhoimjkgicneaaDoor
