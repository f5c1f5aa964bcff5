/- Texts of this proof laid together: TxtA, FltG, RealD. -/
import Derived.Test.YtdhoimjkgicneaaGreatDoorLot8
import Derived.Test.YtdhoimjkgicneaaGreatDoorLot7
import Derived.Test.YtdhoimjkgicneaaGreatDoorLot5
import Derived.Test.YtdhoimjkgicneaaGreatDoorLot6
/- The text of a real number: of which numbers a text is the text. Of no one program. -/
namespace Go.Proofs.YtdhoimjkgicneaaGreatDoor
open Go Ieee

/-- A sign. -/
def sgnL (s : Bool) : List UInt8 := if s then [45] else []

/-- The text of an odd number times a power of two, counted from the smallest. -/
def finL (s : Bool) (n c : Nat) : List UInt8 := sgnL s ++ (Lib.decDigits n ++ ([42, 50, 94] ++ Lib.itoa ((c : Int) - 1074)))

/-- The word x has the text l. -/
def Txt (x : Nat) (l : List UInt8) : Prop :=
  ((∃ s t, double.read x = .nan s t) ∧ l = [110, 97, 110]) ∨ (∃ s, double.read x = .infinity s ∧ l = sgnL s ++ [105, 110, 102]) ∨ (∃ s k, Num x s 0 k ∧ l = sgnL s ++ [48]) ∨
  (∃ s m k n c, Num x s m k ∧ m ≠ 0 ∧ n % 2 = 1 ∧ m * 2 ^ k = n * 2 ^ c ∧ l = finL s n c)

/-- Two words are the same number, to the sign of nought. -/
def Same (x y : Nat) : Prop :=
  ((∃ s t, double.read x = .nan s t) ∧ (∃ s t, double.read y = .nan s t)) ∨ (∃ s, double.read x = .infinity s ∧ double.read y = .infinity s) ∨ (∃ s m k m' k', Num x s m k ∧ Num y s m' k' ∧ m * 2 ^ k = m' * 2 ^ k')

theorem odd_unique {n c n' c' : Nat} (h : n % 2 = 1) (h' : n' % 2 = 1) (e : n * 2 ^ c = n' * 2 ^ c') : n = n' ∧ c = c' := by
  have key : ∀ {n c n' c' : Nat}, n % 2 = 1 → n' % 2 = 1 → n * 2 ^ c = n' * 2 ^ c' → c ≤ c' → c = c' := by
    intro n c n' c' h h' e hle
    apply Classical.byContradiction
    intro hne
    have e2 : n * 2 ^ c = n' * 2 ^ (c' - c) * 2 ^ c := by rw [e, Nat.mul_assoc, ← Nat.pow_add]; congr 2; omega
    have e3 := Nat.eq_of_mul_eq_mul_right (Nat.two_pow_pos c) e2
    have : 2 ^ (c' - c) = 2 * 2 ^ (c' - c - 1) := by rw [← Nat.pow_succ']; congr 1; omega
    rw [this, Nat.mul_left_comm] at e3
    omega
  have hc : c = c' := by
    rcases Nat.le_total c c' with hl | hl
    · exact key h h' e hl
    · exact (key h' h e.symm hl).symm
  subst hc
  exact ⟨Nat.eq_of_mul_eq_mul_right (Nat.two_pow_pos c) e, rfl⟩

theorem split_star : ∀ {a b r r' : List UInt8}, a.all isDig = true → b.all isDig = true → a ++ 42 :: r = b ++ 42 :: r' → a = b ∧ r = r'
  | [], [], r, r', _, _, h => by simpa using h
  | [], y :: b, r, r', _, hb, h => by
    simp at h
    simp only [List.all_cons, Bool.and_eq_true] at hb
    rw [← h.1] at hb
    exact absurd hb.1 (by decide)
  | x :: a, [], r, r', ha, _, h => by
    simp at h
    simp only [List.all_cons, Bool.and_eq_true] at ha
    rw [h.1] at ha
    exact absurd ha.1 (by decide)
  | x :: a, y :: b, r, r', ha, hb, h => by
    simp only [List.cons_append, List.cons.injEq] at h
    simp only [List.all_cons, Bool.and_eq_true] at ha hb
    obtain ⟨e1, e2⟩ := split_star ha.2 hb.2 h.2
    exact ⟨by rw [h.1, e1], e2⟩

theorem dd_inj {n m : Nat} (h : Lib.decDigits n = Lib.decDigits m) : n = m := by rw [← dval_dd n, h, dval_dd]

theorem dd_head (n : Nat) : ∃ c cs, Lib.decDigits n = c :: cs ∧ isDig c = true := head_dig (dd_all n) (dd_pos n)

theorem itoa_inj {a b : Int} (h : Lib.itoa a = Lib.itoa b) : a = b := by
  unfold Lib.itoa at h
  split at h <;> split at h
  · have := dd_inj (List.cons.inj h).2
    omega
  · obtain ⟨c, cs, e, hd⟩ := dd_head b.toNat
    rw [e] at h
    rw [← (List.cons.inj h).1] at hd
    exact absurd hd (by decide)
  · obtain ⟨c, cs, e, hd⟩ := dd_head a.toNat
    rw [e] at h
    rw [(List.cons.inj h).1] at hd
    exact absurd hd (by decide)
  · have := dd_inj h
    omega

theorem finL_inj {s s' : Bool} {n n' c c' : Nat} (h : finL s n c = finL s' n' c') : s = s' ∧ n = n' ∧ c = c' := by
  have body : ∀ {n n' c c' : Nat}, Lib.decDigits n ++ ([42, 50, 94] ++ Lib.itoa ((c : Int) - 1074)) = Lib.decDigits n' ++ ([42, 50, 94] ++ Lib.itoa ((c' : Int) - 1074)) → n = n' ∧ c = c' := by
    intro n n' c c' h
    obtain ⟨e1, e2⟩ := split_star (dd_all n) (dd_all n') h
    refine ⟨dd_inj e1, ?_⟩
    have := itoa_inj (List.cons.inj (List.cons.inj e2).2).2
    omega
  unfold finL at h
  obtain ⟨x, xs, hx, dx⟩ := dd_head n
  obtain ⟨y, ys, hy, dy⟩ := dd_head n'
  cases s <;> cases s'
  · exact ⟨rfl, body (by simpa [sgnL] using h)⟩
  · exfalso
    rw [hx] at h
    simp [sgnL] at h
    rw [h.1] at dx
    exact absurd dx (by decide)
  · exfalso
    rw [hy] at h
    simp [sgnL] at h
    rw [← h.1] at dy
    exact absurd dy (by decide)
  · exact ⟨rfl, body (by simpa [sgnL] using h)⟩

theorem itoa_pos (n : Int) : 1 ≤ (Lib.itoa n).length := by
  unfold Lib.itoa
  split
  · simp
  · exact dd_pos _

theorem finL_len (s : Bool) (n c : Nat) : 5 ≤ (finL s n c).length := by
  have h1 := dd_pos n
  have h2 := itoa_pos ((c : Int) - 1074)
  simp [finL]
  omega

theorem sgn_len (s : Bool) : (sgnL s).length ≤ 1 := by cases s <;> simp [sgnL]

theorem nan_ne_inf (s : Bool) : ([110, 97, 110] : List UInt8) ≠ sgnL s ++ [105, 110, 102] := by cases s <;> decide
theorem inf_inj {s s' : Bool} (h : sgnL s ++ [105, 110, 102] = sgnL s' ++ [105, 110, 102]) : s = s' := by cases s <;> cases s' <;> first | rfl | (revert h; decide)
theorem zero_inj {s s' : Bool} (h : sgnL s ++ [48] = sgnL s' ++ [48]) : s = s' := by cases s <;> cases s' <;> first | rfl | (revert h; decide)
theorem nan_ne_zero (s : Bool) : ([110, 97, 110] : List UInt8) ≠ sgnL s ++ [48] := by cases s <;> decide
theorem inf_ne_zero (s s' : Bool) : sgnL s ++ [105, 110, 102] ≠ sgnL s' ++ [48] := by cases s <;> cases s' <;> decide
theorem nan_ne_fin (s : Bool) (n c : Nat) : ([110, 97, 110] : List UInt8) ≠ finL s n c := by
  intro h; have := finL_len s n c; rw [← h] at this; simp at this
theorem inf_ne_fin (s s' : Bool) (n c : Nat) : sgnL s ++ [105, 110, 102] ≠ finL s' n c := by
  intro h; have := finL_len s' n c; rw [← h] at this; have := sgn_len s; simp at *; omega
theorem zero_ne_fin (s s' : Bool) (n c : Nat) : sgnL s ++ [48] ≠ finL s' n c := by
  intro h; have := finL_len s' n c; rw [← h] at this; have := sgn_len s; simp at *; omega

/-- Two words of one text are the same number. -/
theorem txt_same {x y : Nat} {l : List UInt8} (h : Txt x l) (g : Txt y l) : Same x y := by
  rcases h with ⟨h1, rfl⟩ | ⟨s, h1, rfl⟩ | ⟨s, k, h1, rfl⟩ | ⟨s, m, k, n, c, h1, h2, h3, h4, rfl⟩
  · rcases g with ⟨g1, -⟩ | ⟨t, -, e⟩ | ⟨t, j, -, e⟩ | ⟨t, m', j, n', d, -, -, -, -, e⟩
    · exact Or.inl ⟨h1, g1⟩
    · exact absurd e (nan_ne_inf t)
    · exact absurd e (nan_ne_zero t)
    · exact absurd e (nan_ne_fin t n' d)
  · rcases g with ⟨g1, e⟩ | ⟨t, g1, e⟩ | ⟨t, j, -, e⟩ | ⟨t, m', j, n', d, -, -, -, -, e⟩
    · exact absurd e.symm (nan_ne_inf s)
    · obtain rfl := inf_inj e
      exact Or.inr (Or.inl ⟨s, h1, g1⟩)
    · exact absurd e (inf_ne_zero s t)
    · exact absurd e (inf_ne_fin s t n' d)
  · rcases g with ⟨g1, e⟩ | ⟨t, g1, e⟩ | ⟨t, j, g1, e⟩ | ⟨t, m', j, n', d, -, -, -, -, e⟩
    · exact absurd e.symm (nan_ne_zero s)
    · exact absurd e.symm (inf_ne_zero t s)
    · obtain rfl := zero_inj e
      exact Or.inr (Or.inr ⟨s, 0, k, 0, j, h1, g1, by simp⟩)
    · exact absurd e (zero_ne_fin s t n' d)
  · rcases g with ⟨g1, e⟩ | ⟨t, g1, e⟩ | ⟨t, j, g1, e⟩ | ⟨t, m', j, n', d, g1, g2, g3, g4, e⟩
    · exact absurd e.symm (nan_ne_fin s n c)
    · exact absurd e.symm (inf_ne_fin t s n c)
    · exact absurd e.symm (zero_ne_fin t s n c)
    · obtain ⟨rfl, rfl, rfl⟩ := finL_inj e
      exact Or.inr (Or.inr ⟨s, m, k, m', j, h1, g1, by rw [h4, g4]⟩)

theorem num_read {x m k m' k' : Nat} {s s' : Bool} (h : Num x s m k) (g : Num x s' m' k') : s = s' ∧ m = m' ∧ k = k' := by
  have := h.read.symm.trans g.read
  injection this with a b c
  exact ⟨a, b, by omega⟩

/-- Words that are the same number have one text. -/
theorem txt_of_same {x y : Nat} {l : List UInt8} (hs : Same x y) (h : Txt x l) : Txt y l := by
  rcases hs with ⟨⟨s, t, a⟩, b⟩ | ⟨s, a, b⟩ | ⟨s, m, k, m', k', a, b, e⟩
  · rcases h with ⟨-, rfl⟩ | ⟨s', h1, -⟩ | ⟨s', k, h1, -⟩ | ⟨s', m, k, n, c, h1, -⟩
    · exact Or.inl ⟨b, rfl⟩
    · rw [a] at h1; cases h1
    · have := h1.read; rw [a] at this; cases this
    · have := h1.read; rw [a] at this; cases this
  · rcases h with ⟨⟨s', t, h1⟩, -⟩ | ⟨s', h1, rfl⟩ | ⟨s', k, h1, -⟩ | ⟨s', m, k, n, c, h1, -⟩
    · rw [a] at h1; cases h1
    · rw [a] at h1; cases h1
      exact Or.inr (Or.inl ⟨s, b, rfl⟩)
    · have := h1.read; rw [a] at this; cases this
    · have := h1.read; rw [a] at this; cases this
  · rcases h with ⟨⟨s', t, h1⟩, -⟩ | ⟨s', h1, rfl⟩ | ⟨s', k2, h1, rfl⟩ | ⟨s', m2, k2, n, c, h1, h2, h3, h4, rfl⟩
    · have := a.read; rw [h1] at this; cases this
    · have := a.read; rw [h1] at this; cases this
    · obtain ⟨rfl, rfl, rfl⟩ := num_read a h1
      have hm : m' = 0 := by
        have : m' * 2 ^ k' = 0 := by rw [← e]; simp
        rcases Nat.mul_eq_zero.1 this with h | h
        · exact h
        · exact absurd h (Nat.ne_of_gt (Nat.two_pow_pos _))
      subst hm
      exact Or.inr (Or.inr (Or.inl ⟨s, k', b, rfl⟩))
    · obtain ⟨rfl, rfl, rfl⟩ := num_read a h1
      refine Or.inr (Or.inr (Or.inr ⟨s, m', k', n, c, b, ?_, h3, by rw [← e, h4], rfl⟩))
      intro h0
      subst h0
      rw [Nat.zero_mul] at e
      rcases Nat.mul_eq_zero.1 e with h | h
      · exact h2 h
      · exact absurd h (Nat.ne_of_gt (Nat.two_pow_pos _))

/-- A word has one text. -/
theorem txt_fun {x : Nat} {l l' : List UInt8} (h : Txt x l) (g : Txt x l') : l = l' := by
  rcases h with ⟨⟨s, t, h1⟩, rfl⟩ | ⟨s, h1, rfl⟩ | ⟨s, k, h1, rfl⟩ | ⟨s, m, k, n, c, h1, h2, h3, h4, rfl⟩
  · rcases g with ⟨-, rfl⟩ | ⟨s', g1, -⟩ | ⟨s', k', g1, -⟩ | ⟨s', m', k', n', c', g1, -⟩
    · rfl
    · rw [h1] at g1; cases g1
    · have := g1.read; rw [h1] at this; cases this
    · have := g1.read; rw [h1] at this; cases this
  · rcases g with ⟨⟨s', t, g1⟩, -⟩ | ⟨s', g1, rfl⟩ | ⟨s', k', g1, -⟩ | ⟨s', m', k', n', c', g1, -⟩
    · rw [h1] at g1; cases g1
    · rw [h1] at g1; cases g1; rfl
    · have := g1.read; rw [h1] at this; cases this
    · have := g1.read; rw [h1] at this; cases this
  · rcases g with ⟨⟨s', t, g1⟩, -⟩ | ⟨s', g1, -⟩ | ⟨s', k', g1, rfl⟩ | ⟨s', m', k', n', c', g1, g2, -⟩
    · have := h1.read; rw [g1] at this; cases this
    · have := h1.read; rw [g1] at this; cases this
    · obtain ⟨rfl, -, -⟩ := num_read h1 g1; rfl
    · obtain ⟨-, e, -⟩ := num_read h1 g1; exact absurd e.symm g2
  · rcases g with ⟨⟨s', t, g1⟩, -⟩ | ⟨s', g1, -⟩ | ⟨s', k', g1, -⟩ | ⟨s', m', k', n', c', g1, g2, g3, g4, rfl⟩
    · have := h1.read; rw [g1] at this; cases this
    · have := h1.read; rw [g1] at this; cases this
    · obtain ⟨-, e, -⟩ := num_read h1 g1; exact absurd e h2
    · obtain ⟨rfl, rfl, rfl⟩ := num_read h1 g1
      obtain ⟨rfl, rfl⟩ := odd_unique h3 g3 (h4.symm.trans g4)
      rfl

end Go.Proofs.YtdhoimjkgicneaaGreatDoor

/- The bits that operations on real numbers give fit 64 bits; two words of 64 bits that are the same number are the same word, or both nan. Of no one program. -/
namespace Go.Proofs.YtdhoimjkgicneaaGreatDoor
open Go Ieee

theorem word_lt (s : Bool) {r : Nat} (h : r < 9223372036854775808) : double.word s r < 18446744073709551616 := by
  unfold Format.word
  rw [d_sw]
  split <;> omega
theorem nearest_lt (s : Bool) (m : Nat) (p : Int) : double.nearest s m p < 18446744073709551616 := by
  unfold Format.nearest
  split
  · exact word_lt s (by omega)
  · rw [d_inf]
    refine word_lt s ?_
    have := Nat.min_le_right (((max (p + m.log2 - double.fractionBits) double.leastPlace) - double.leastPlace).toNat * double.binade + Toward.even.cut s (m <<< (p - (max (p + m.log2 - double.fractionBits) double.leastPlace)).toNat) ((max (p + m.log2 - double.fractionBits) double.leastPlace) - p).toNat) 9218868437227405312
    omega
theorem write_lt (d : Datum) : double.write d < 18446744073709551616 := by
  cases d with
  | number s m p => exact nearest_lt s m p
  | infinity s => exact word_lt s (by rw [d_inf]; omega)
  | nan s t =>
    refine word_lt s ?_
    rw [d_inf, d_bin]
    omega
theorem map_lt {o : Option Datum} {r : Nat} (h : o.map double.write = some r) : r < 18446744073709551616 := by
  cases o with
  | none => cases h
  | some d => cases h; exact write_lt d
theorem bits_lt {op : BinOp} {x y r : Nat} (h : floatBits op .f64 x y = some r) : r < 18446744073709551616 := by
  unfold floatBits at h
  split at h
  · exact map_lt h
  · exact map_lt h
  · exact map_lt h
  · exact map_lt h
  · cases h
theorem got_lt (op : BinOp) (x y : Nat) (w : World) : fGot op x y w < 18446744073709551616 := by
  unfold fGot
  split
  · rename_i h
    exact bits_lt h
  · simp only [Question.cut]
    generalize w.tape w.drawn (.nanBits .f64 x y) = t
    obtain ⟨c, hc⟩ : ∃ c, t / 2 % (2 ^ 52 - 1) = c := ⟨_, rfl⟩
    have hc2 : c ≤ 4503599627370494 := by rw [← hc]; exact Nat.le_of_lt_succ (Nat.mod_lt _ (by decide))
    rw [hc]
    have h2 : t % 2 = 0 ∨ t % 2 = 1 := by omega
    rcases h2 with h2 | h2 <;> rw [h2] <;> omega
theorem foi_lt (n : Int) : floatOfInt .f64 n < 18446744073709551616 := nearest_lt _ _ _
theorem neg_lt {x : Nat} (h : x < 18446744073709551616) : Op.negFloat .f64 x < 18446744073709551616 :=
  Nat.xor_lt_two_pow (n := 64) h (show 2 ^ (11 + 52) < 2 ^ 64 by decide)

theorem num_word {x : Nat} {s : Bool} {m k : Nat} (h : Num x s m k) (hx : x < 18446744073709551616) : x = if s then 9223372036854775808 + (if m < 4503599627370496 then m else k * 4503599627370496 + m) else (if m < 4503599627370496 then m else k * 4503599627370496 + m) := by
  have hr := h.read
  obtain ⟨q, hq⟩ : ∃ q, q = x % 9223372036854775808 := ⟨_, rfl⟩
  have hs : ∀ b : Bool, (x / 9223372036854775808 % 2 == 1) = b → x = if b then 9223372036854775808 + q else q := by
    intro b hb
    cases b
    · simp at hb; simp; omega
    · simp at hb; simp; omega
  simp only [Format.read, d_sw, d_bin, d_lp, d_inf, ← hq] at hr
  split at hr
  · obtain ⟨e1, e2, e3⟩ := Datum.number.inj hr
    have h2 := hs s e1
    have e : (if m < 4503599627370496 then m else k * 4503599627370496 + m) = q := by
      rw [if_pos (by omega)]
      omega
    rw [e]
    exact h2
  · split at hr
    · obtain ⟨e1, e2, e3⟩ := Datum.number.inj hr
      have h2 := hs s e1
      have e : (if m < 4503599627370496 then m else k * 4503599627370496 + m) = q := by
        rw [if_neg (by omega)]
        omega
      rw [e]
      exact h2
    · split at hr <;> cases hr

theorem num_eq {m k m' k' : Nat} (h : k = 0 ∨ 4503599627370496 ≤ m) (g : k' = 0 ∨ 4503599627370496 ≤ m') (hm : m < 9007199254740992) (hm' : m' < 9007199254740992) (e : m * 2 ^ k = m' * 2 ^ k') : m = m' ∧ k = k' := by
  have key : ∀ {m k m' k' : Nat}, (k' = 0 ∨ 4503599627370496 ≤ m') → m < 9007199254740992 → m * 2 ^ k = m' * 2 ^ k' → k < k' → False := by
    intro m k m' k' g hm e hlt
    have e2 : m * 2 ^ k = m' * 2 ^ (k' - k) * 2 ^ k := by rw [e, Nat.mul_assoc, ← Nat.pow_add]; congr 2; omega
    have e3 := Nat.eq_of_mul_eq_mul_right (Nat.two_pow_pos k) e2
    have h2 : 2 ≤ 2 ^ (k' - k) := by
      have : 2 ^ 1 ≤ 2 ^ (k' - k) := Nat.pow_le_pow_right (by omega) (by omega)
      simpa using this
    have : m' * 2 ≤ m := by rw [e3]; exact Nat.mul_le_mul_left _ h2
    omega
  rcases Nat.lt_trichotomy k k' with hl | hl | hl
  · exact absurd (key g hm e hl) id
  · subst hl
    exact ⟨Nat.eq_of_mul_eq_mul_right (Nat.two_pow_pos k) e, rfl⟩
  · exact absurd (key h hm' e.symm hl) id

theorem inf_word {x : Nat} {s : Bool} (h : double.read x = .infinity s) (hx : x < 18446744073709551616) : x = if s then 18442240474082181120 else 9218868437227405312 := by
  simp only [Format.read, d_sw, d_bin, d_inf] at h
  split at h
  · cases h
  split at h
  · cases h
  split at h
  · rename_i e
    have e1 := Datum.infinity.inj h
    cases s
    · simp at e1; simp; omega
    · simp at e1; simp; omega
  · cases h

/-- The same number in 64 bits is the same word, or both are nan. -/
theorem same_word {x y : Nat} (hx : x < 18446744073709551616) (hy : y < 18446744073709551616) (h : Same x y) : x = y ∨ ((∃ s t, double.read x = .nan s t) ∧ ∃ s t, double.read y = .nan s t) := by
  rcases h with h | ⟨s, a, b⟩ | ⟨s, m, k, m', k', a, b, e⟩
  · exact Or.inr h
  · exact Or.inl (by rw [inf_word a hx, inf_word b hy])
  · obtain ⟨rfl, rfl⟩ := num_eq a.norm b.norm a.m53 b.m53 e
    exact Or.inl (by rw [num_word a hx, num_word b hy])
theorem same_refl (x : Nat) : Same x x := by
  rcases read_cases x with ⟨s, m, k, h⟩ | ⟨s, h⟩ | h
  · exact Or.inr (Or.inr ⟨s, m, k, m, k, h, h, rfl⟩)
  · exact Or.inr (Or.inl ⟨s, h, h⟩)
  · exact Or.inl ⟨h, h⟩

end Go.Proofs.YtdhoimjkgicneaaGreatDoor

/- Drawn words of 64 bits and drawn real numbers, with their bounds: the draw ends, answers some bits, 64 of them, and turns nothing but the reader. -/
namespace Go.Proofs.YtdhoimjkgicneaaGreatDoor
open Go Go.RowKit

set_option maxHeartbeats 400000 in
theorem word_all (R c : Nat) (w : World) (h : Rd R c w) (hc : c ≤ 900) :
    Calls Tryz.prog 25 #[.pointer (some ⟨R, 0, none⟩)] w fun e w' => ∃ z : Int, e = .returned (.int .u64 z) ∧ 0 ≤ z ∧ z < 18446744073709551616 ∧ Rd R (c + 8) w' ∧ Moved R w w' := by
  have wr64 : ∀ z : Int, 0 ≤ IntKind.u64.wrap z ∧ IntKind.u64.wrap z < 18446744073709551616 := by
    intro z
    rw [IntKind.wrap_u64]
    omega
  go_enter Tryz.func25, Tryz.ntmps25
  go_wp2
  go_loopw [3, 4] (fun x i wr => ∃ (z : Int) (k : Nat), k ≤ 8 ∧ x = .int .u64 z ∧ i = .int .i64 k ∧ 0 ≤ z ∧ z < 18446744073709551616 ∧ Rd R (c + k) wr ∧ Moved R w wr) (fun _ i _ => 8 - (intOf i).toNat)
  case atStart => exact ⟨0, 0, by omega, rfl, rfl, by omega, by omega, h, Moved.refl _ _⟩
  case round =>
    obtain ⟨z, k, hk, rfl, rfl, z0, z1, rd, mv⟩ := hrel
    have RD : Hid (Rd R (c + k) wr) := rd
    have MV : Hid (Moved R w wr) := mv
    have Z : Hid (0 ≤ z ∧ z < 18446744073709551616) := ⟨z0, z1⟩
    clear rd mv h z0 z1
    by_cases hlt : k < 8
    · go_wp2_with fail
      refine (pick_any R (c + k) 256 wr RD.out (by omega) (by omega)).mono ?_
      rintro e w2 ⟨x, rfl, x0, -, -, rd2, mv2⟩
      have RD2 : Hid (Rd R (c + k + 1) w2) := rd2
      have MV2 : Hid (Moved R w w2) := MV.out.trans mv2
      clear rd2 mv2
      go_wp2
      go_roundw
      case rel => exact ⟨_, k + 1, by omega, rfl, by go_num, (wr64 _).1, (wr64 _).2, RD2.out, MV2.out⟩
      case measure => simp [intOf]; omega
    · go_wp2
      go_ret
      have : k = 8 := by omega
      subst this
      exact ⟨_, rfl, Z.out.1, Z.out.2, RD.out, MV.out⟩

/-- What a draw of a real number leaves. -/
def DrawnB (R c : Nat) (w : World) (e : Ending) (w' : World) : Prop := ∃ x : Nat, e = .returned (.float .f64 x) ∧ x < 18446744073709551616 ∧ Rd R (c + 12) w' ∧ Moved R w w'

theorem drawnB_of {R c c' : Nat} {w w' : World} (x : Nat) (hx : x < 18446744073709551616) (rd : Rd R c' w') (mv : Moved R w w') (h : c' ≤ c + 12) : DrawnB R c w (.returned (.float .f64 x)) w' := ⟨x, rfl, hx, rd.mono h, mv⟩

theorem nan_all (w : World) : Calls Tryz.prog 60 #[] w fun e w' => ∃ y, e = .returned (.float .f64 y) ∧ y < 18446744073709551616 ∧ w' = w.drewN 1 := by
  refine (nan_any w).mono ?_
  rintro e w' ⟨x, he, hx, hw⟩
  exact ⟨x, he, by rw [hx]; exact got_lt _ _ _ _, hw⟩

set_option maxHeartbeats 2000000 in
theorem real_all (R c : Nat) (w : World) (h : Rd R c w) (hc : c ≤ 800) : Calls Tryz.prog 28 #[.pointer (some ⟨R, 0, none⟩)] w (DrawnB R c w) := by
  go_enter Tryz.func28, Tryz.ntmps28
  go_wp2_with fail
  refine (pick_any R c 16 w h (by omega) (by omega)).mono ?_
  rintro e w1 ⟨x, rfl, x0, x1, -, rd, mv⟩
  have hx : x < 16 := x1 (by omega)
  clear x1 h
  have neg : ∀ b, Op.unary .neg (.float .f64 b) = pure (.float .f64 (Op.negFloat .f64 b)) := fun _ => rfl
  have hxs : x = 0 ∨ x = 1 ∨ x = 2 ∨ x = 3 ∨ x = 4 ∨ x = 5 ∨ x = 6 ∨ x = 7 ∨ x = 8 ∨ x = 9 ∨ x = 10 ∨ x = 11 ∨ 12 ≤ x := by omega
  rcases hxs with rfl | rfl | rfl | rfl | rfl | rfl | rfl | rfl | rfl | rfl | rfl | rfl | h12
  · go_wp2_with fail
    refine (nan_all w1).mono ?_
    rintro e w2 ⟨y, rfl, hy, rfl⟩
    go_wp2
    go_ret
    exact drawnB_of _ (by first | decide | exact got_lt _ _ _ _ | exact foi_lt _ | exact neg_lt (by decide) | assumption) (rd.drewN 1) (mv.drewN 1) (by omega)
  · go_wp2_with fail
    refine (inf_any w1).mono ?_
    rintro e w2 ⟨rfl, rfl⟩
    go_wp2
    go_ret
    exact drawnB_of _ (by first | decide | exact got_lt _ _ _ _ | exact foi_lt _ | exact neg_lt (by decide) | assumption) rd mv (by omega)
  · go_wp2_with fail
    refine (inf_any w1).mono ?_
    rintro e w2 ⟨rfl, rfl⟩
    go_wp2
    go_ret
    exact drawnB_of _ (by first | decide | exact got_lt _ _ _ _ | exact foi_lt _ | exact neg_lt (by decide) | assumption) rd mv (by omega)
  · go_wp2
    go_ret
    exact drawnB_of _ (by first | decide | exact got_lt _ _ _ _ | exact foi_lt _ | exact neg_lt (by decide) | assumption) rd mv (by omega)
  · go_wp2
    go_ret
    exact drawnB_of _ (by first | decide | exact got_lt _ _ _ _ | exact foi_lt _ | exact neg_lt (by decide) | assumption) rd mv (by omega)
  · go_wp2_with fail
    refine (pick_any R (c + 1) 40 w1 rd (by omega) (by omega)).mono ?_
    rintro e w2 ⟨y, rfl, y0, y1, -, rd2, mv2⟩
    have hy : y < 40 := y1 (by omega)
    have q := mul_any Tryz.prog 1 (floatOfInt .f64 (1 + y))
    have MV : Hid (Moved R w w2) := mv.trans mv2
    have RD : Hid (Rd R (c + 1 + 1) w2) := rd2
    clear rd rd2 mv mv2 y1
    go_wp2
    go_ret
    exact drawnB_of _ (by first | decide | exact got_lt _ _ _ _ | exact foi_lt _ | exact neg_lt (by decide) | assumption) (RD.out.drewN _) (MV.out.drewN _) (by omega)
  · go_wp2
    go_ret
    exact drawnB_of _ (by first | decide | exact got_lt _ _ _ _ | exact foi_lt _ | exact neg_lt (by decide) | assumption) rd mv (by omega)
  · go_wp2
    go_ret
    exact drawnB_of _ (by first | decide | exact got_lt _ _ _ _ | exact foi_lt _ | exact neg_lt (by decide) | assumption) rd mv (by omega)
  · go_wp2_with fail
    refine (pick_any R (c + 1) 9 w1 rd (by omega) (by omega)).mono ?_
    rintro e w2 ⟨y, rfl, y0, y1, -, rd2, mv2⟩
    have hy : y < 9 := y1 (by omega)
    have q := mul_any Tryz.prog 1 (floatOfInt .f64 (y - 4))
    have q2 : ∀ b, _ := add_any Tryz.prog 4503599627370496
    have MV : Hid (Moved R w w2) := mv.trans mv2
    have RD : Hid (Rd R (c + 1 + 1) w2) := rd2
    clear rd rd2 mv mv2 y1
    go_wp2
    go_ret
    exact drawnB_of _ (by first | decide | exact got_lt _ _ _ _ | exact foi_lt _ | exact neg_lt (by decide) | assumption) (RD.out.drewN _) (MV.out.drewN _) (by omega)
  · go_wp2_with fail
    refine (word_any R (c + 1) w1 rd (by omega)).mono ?_
    rintro e w2 ⟨z, rfl, rd2, mv2⟩
    clear rd
    go_wp2_with fail
    refine (pick_any R (c + 1 + 8) 200 w2 rd2 (by omega) (by omega)).mono ?_
    rintro e w3 ⟨y, rfl, y0, y1, -, rd3, mv3⟩
    have hy : y < 200 := y1 (by omega)
    have q : ∀ a b, _ := quo_any Tryz.prog
    have MV : Hid (Moved R w w3) := (mv.trans mv2).trans mv3
    have RD : Hid (Rd R (c + 1 + 8 + 1) w3) := rd3
    clear rd2 rd3 mv mv2 mv3 y1
    go_wp2_with fail
    refine (pick_any R (c + 1 + 8 + 1) 100 _ (RD.out.drewN _) (by omega) (by omega)).mono ?_
    rintro e w4 ⟨u, rfl, u0, u1, -, rd4, mv4⟩
    have hu : u < 100 := u1 (by omega)
    have MV4 : Hid (Moved R w w4) := (MV.out.drewN _).trans mv4
    have RD4 : Hid (Rd R (c + 1 + 8 + 1 + 1) w4) := rd4
    clear rd4 mv4 u1 q
    go_wp2
    go_loopw [4, 5] (fun f i wr => ∃ (g : Nat) (k : Nat), k ≤ 100 ∧ f = .float .f64 g ∧ i = .int .i64 k ∧ g < 18446744073709551616 ∧ Rd R (c + 1 + 8 + 1 + 1) wr ∧ Moved R w wr) (fun _ i _ => (intOf i).toNat)
    case atStart => exact ⟨_, u.toNat, by omega, rfl, by rw [Int.toNat_of_nonneg u0], got_lt _ _ _ _, RD4.out, MV4.out⟩
    case round =>
      obtain ⟨g, k, hk, rfl, rfl, hg, rd, mv⟩ := hrel
      have RD : Hid (Rd R (c + 1 + 8 + 1 + 1) wr) := rd
      have MV : Hid (Moved R w wr) := mv
      clear rd mv
      by_cases hlt : 0 < k
      · have q := mul_any Tryz.prog g 4563638014722897556
        go_wp2
        go_roundw
        case rel => exact ⟨_, k - 1, by omega, rfl, by go_num, got_lt _ _ _ _, RD.out.drewN _, MV.out.drewN _⟩
        case measure => simp [intOf]; omega
      · go_wp2
        go_ret
        exact drawnB_of _ (by first | decide | exact got_lt _ _ _ _ | exact foi_lt _ | exact neg_lt (by decide) | assumption) RD.out MV.out (by omega)
  · go_wp2_with fail
    refine (num_lit R (c + 1) _ _ _ (by simp) rd (by omega) (by simp) (by simp) (by simp) 5 rfl).mono ?_
    rintro e w2 ⟨z, rfl, rd2, mv2⟩
    clear rd
    go_wp2_with fail
    refine (pick_any R (c + 1 + 1) 5 w2 rd2 (by omega) (by omega)).mono ?_
    rintro e w3 ⟨y, rfl, y0, y1, -, rd3, mv3⟩
    have hy : y < 5 := y1 (by omega)
    have q := mul_any Tryz.prog (floatOfInt .f64 (y - 2)) 4598175219545276416
    have q2 : ∀ b, _ := add_any Tryz.prog (floatOfInt .f64 z)
    have MV : Hid (Moved R w w3) := (mv.trans mv2).trans mv3
    have RD : Hid (Rd R (c + 1 + 1 + 1) w3) := rd3
    clear rd2 rd3 mv mv2 mv3 y1
    go_wp2
    go_ret
    exact drawnB_of _ (by first | decide | exact got_lt _ _ _ _ | exact foi_lt _ | exact neg_lt (by decide) | assumption) (RD.out.drewN _) (MV.out.drewN _) (by omega)
  · go_wp2_with fail
    refine (word_any R (c + 1) w1 rd (by omega)).mono ?_
    rintro e w2 ⟨z, rfl, rd2, mv2⟩
    have MV : Hid (Moved R w w2) := mv.trans mv2
    have RD : Hid (Rd R (c + 1 + 8) w2) := rd2
    clear rd rd2 mv mv2
    go_wp2
    go_ret
    exact drawnB_of _ (by first | decide | exact got_lt _ _ _ _ | exact foi_lt _ | exact neg_lt (by decide) | assumption) RD.out MV.out (by omega)
  · have n0 : (x == 0) = false := by simp; omega
    have n1 : (x == 1) = false := by simp; omega
    have n2 : (x == 2) = false := by simp; omega
    have n3 : (x == 3) = false := by simp; omega
    have n4 : (x == 4) = false := by simp; omega
    have n5 : (x == 5) = false := by simp; omega
    have n6 : (x == 6) = false := by simp; omega
    have n7 : (x == 7) = false := by simp; omega
    have n8 : (x == 8) = false := by simp; omega
    have n9 : (x == 9) = false := by simp; omega
    have n10 : (x == 10) = false := by simp; omega
    have n11 : (x == 11) = false := by simp; omega
    go_wp2_with fail
    refine (pick_any R (c + 1) 41 w1 rd (by omega) (by omega)).mono ?_
    rintro e w2 ⟨y, rfl, y0, y1, -, rd2, mv2⟩
    have hy : y < 41 := y1 (by omega)
    have q := mul_any Tryz.prog (floatOfInt .f64 (y - 20)) 4598175219545276416
    have MV : Hid (Moved R w w2) := mv.trans mv2
    have RD : Hid (Rd R (c + 1 + 1) w2) := rd2
    clear rd rd2 mv mv2 y1
    go_wp2
    go_ret
    exact drawnB_of _ (by first | decide | exact got_lt _ _ _ _ | exact foi_lt _ | exact neg_lt (by decide) | assumption) (RD.out.drewN _) (MV.out.drewN _) (by omega)

end Go.Proofs.YtdhoimjkgicneaaGreatDoor
