/- The text of a real number: of which numbers a text is the text. Of no one program. -/
import Derived.Test.YtdhoimjkgicneaaDoorDev3
import Derived.Test.YtdhoimjkgicneaaDoorFltF
namespace Go.Proofs.YtdhoimjkgicneaaDoor
open Go Ieee

/-- A sign. -/
def sgnL (s : Bool) : List UInt8 := if s then [45] else []

/-- The text of an odd number times a power of two, counted from the smallest. -/
def finL (s : Bool) (n c : Nat) : List UInt8 := sgnL s ++ (Lib.decDigits n ++ ([42, 50, 94] ++ Lib.itoa ((c : Int) - 1074)))

/-- The word x has the text l. -/
def Txt (x : Nat) (l : List UInt8) : Prop :=
  ((∃ s t, double.read x = .nan s t) ∧ l = [110, 97, 110]) ∨ (∃ s, double.read x = .infinity s ∧ l = sgnL s ++ [105, 110, 102]) ∨ (∃ s k, Num x s 0 k ∧ l = sgnL s ++ [48]) ∨
  (∃ s m k n c, Num x s m k ∧ m ≠ 0 ∧ n % 2 = 1 ∧ m * 2 ^ k = n * 2 ^ c ∧ l = finL s n c)

/-- Two words are the same number, to the sign of nought. -/
def Same (x y : Nat) : Prop :=
  ((∃ s t, double.read x = .nan s t) ∧ (∃ s t, double.read y = .nan s t)) ∨ (∃ s, double.read x = .infinity s ∧ double.read y = .infinity s) ∨ (∃ s m k m' k', Num x s m k ∧ Num y s m' k' ∧ m * 2 ^ k = m' * 2 ^ k')

theorem odd_unique {n c n' c' : Nat} (h : n % 2 = 1) (h' : n' % 2 = 1) (e : n * 2 ^ c = n' * 2 ^ c') : n = n' ∧ c = c' := by
  have key : ∀ {n c n' c' : Nat}, n % 2 = 1 → n' % 2 = 1 → n * 2 ^ c = n' * 2 ^ c' → c ≤ c' → c = c' := by
    intro n c n' c' h h' e hle
    apply Classical.byContradiction
    intro hne
    have e2 : n * 2 ^ c = n' * 2 ^ (c' - c) * 2 ^ c := by rw [e, Nat.mul_assoc, ← Nat.pow_add]; congr 2; omega
    have e3 := Nat.eq_of_mul_eq_mul_right (Nat.two_pow_pos c) e2
    have : 2 ^ (c' - c) = 2 * 2 ^ (c' - c - 1) := by rw [← Nat.pow_succ']; congr 1; omega
    rw [this, Nat.mul_left_comm] at e3
    omega
  have hc : c = c' := by
    rcases Nat.le_total c c' with hl | hl
    · exact key h h' e hl
    · exact (key h' h e.symm hl).symm
  subst hc
  exact ⟨Nat.eq_of_mul_eq_mul_right (Nat.two_pow_pos c) e, rfl⟩

theorem split_star : ∀ {a b r r' : List UInt8}, a.all isDig = true → b.all isDig = true → a ++ 42 :: r = b ++ 42 :: r' → a = b ∧ r = r'
  | [], [], r, r', _, _, h => by simpa using h
  | [], y :: b, r, r', _, hb, h => by
    simp at h
    simp only [List.all_cons, Bool.and_eq_true] at hb
    rw [← h.1] at hb
    exact absurd hb.1 (by decide)
  | x :: a, [], r, r', ha, _, h => by
    simp at h
    simp only [List.all_cons, Bool.and_eq_true] at ha
    rw [h.1] at ha
    exact absurd ha.1 (by decide)
  | x :: a, y :: b, r, r', ha, hb, h => by
    simp only [List.cons_append, List.cons.injEq] at h
    simp only [List.all_cons, Bool.and_eq_true] at ha hb
    obtain ⟨e1, e2⟩ := split_star ha.2 hb.2 h.2
    exact ⟨by rw [h.1, e1], e2⟩

theorem dd_inj {n m : Nat} (h : Lib.decDigits n = Lib.decDigits m) : n = m := by rw [← dval_dd n, h, dval_dd]

theorem dd_head (n : Nat) : ∃ c cs, Lib.decDigits n = c :: cs ∧ isDig c = true := head_dig (dd_all n) (dd_pos n)

theorem itoa_inj {a b : Int} (h : Lib.itoa a = Lib.itoa b) : a = b := by
  unfold Lib.itoa at h
  split at h <;> split at h
  · have := dd_inj (List.cons.inj h).2
    omega
  · obtain ⟨c, cs, e, hd⟩ := dd_head b.toNat
    rw [e] at h
    rw [← (List.cons.inj h).1] at hd
    exact absurd hd (by decide)
  · obtain ⟨c, cs, e, hd⟩ := dd_head a.toNat
    rw [e] at h
    rw [(List.cons.inj h).1] at hd
    exact absurd hd (by decide)
  · have := dd_inj h
    omega

theorem finL_inj {s s' : Bool} {n n' c c' : Nat} (h : finL s n c = finL s' n' c') : s = s' ∧ n = n' ∧ c = c' := by
  have body : ∀ {n n' c c' : Nat}, Lib.decDigits n ++ ([42, 50, 94] ++ Lib.itoa ((c : Int) - 1074)) = Lib.decDigits n' ++ ([42, 50, 94] ++ Lib.itoa ((c' : Int) - 1074)) → n = n' ∧ c = c' := by
    intro n n' c c' h
    obtain ⟨e1, e2⟩ := split_star (dd_all n) (dd_all n') h
    refine ⟨dd_inj e1, ?_⟩
    have := itoa_inj (List.cons.inj (List.cons.inj e2).2).2
    omega
  unfold finL at h
  obtain ⟨x, xs, hx, dx⟩ := dd_head n
  obtain ⟨y, ys, hy, dy⟩ := dd_head n'
  cases s <;> cases s'
  · exact ⟨rfl, body (by simpa [sgnL] using h)⟩
  · exfalso
    rw [hx] at h
    simp [sgnL] at h
    rw [h.1] at dx
    exact absurd dx (by decide)
  · exfalso
    rw [hy] at h
    simp [sgnL] at h
    rw [← h.1] at dy
    exact absurd dy (by decide)
  · exact ⟨rfl, body (by simpa [sgnL] using h)⟩

theorem itoa_pos (n : Int) : 1 ≤ (Lib.itoa n).length := by
  unfold Lib.itoa
  split
  · simp
  · exact dd_pos _

theorem finL_len (s : Bool) (n c : Nat) : 5 ≤ (finL s n c).length := by
  have h1 := dd_pos n
  have h2 := itoa_pos ((c : Int) - 1074)
  simp [finL]
  omega

theorem sgn_len (s : Bool) : (sgnL s).length ≤ 1 := by cases s <;> simp [sgnL]

theorem nan_ne_inf (s : Bool) : ([110, 97, 110] : List UInt8) ≠ sgnL s ++ [105, 110, 102] := by cases s <;> decide
theorem inf_inj {s s' : Bool} (h : sgnL s ++ [105, 110, 102] = sgnL s' ++ [105, 110, 102]) : s = s' := by cases s <;> cases s' <;> first | rfl | (revert h; decide)
theorem zero_inj {s s' : Bool} (h : sgnL s ++ [48] = sgnL s' ++ [48]) : s = s' := by cases s <;> cases s' <;> first | rfl | (revert h; decide)
theorem nan_ne_zero (s : Bool) : ([110, 97, 110] : List UInt8) ≠ sgnL s ++ [48] := by cases s <;> decide
theorem inf_ne_zero (s s' : Bool) : sgnL s ++ [105, 110, 102] ≠ sgnL s' ++ [48] := by cases s <;> cases s' <;> decide
theorem nan_ne_fin (s : Bool) (n c : Nat) : ([110, 97, 110] : List UInt8) ≠ finL s n c := by
  intro h; have := finL_len s n c; rw [← h] at this; simp at this
theorem inf_ne_fin (s s' : Bool) (n c : Nat) : sgnL s ++ [105, 110, 102] ≠ finL s' n c := by
  intro h; have := finL_len s' n c; rw [← h] at this; have := sgn_len s; simp at *; omega
theorem zero_ne_fin (s s' : Bool) (n c : Nat) : sgnL s ++ [48] ≠ finL s' n c := by
  intro h; have := finL_len s' n c; rw [← h] at this; have := sgn_len s; simp at *; omega

/-- Two words of one text are the same number. -/
theorem txt_same {x y : Nat} {l : List UInt8} (h : Txt x l) (g : Txt y l) : Same x y := by
  rcases h with ⟨h1, rfl⟩ | ⟨s, h1, rfl⟩ | ⟨s, k, h1, rfl⟩ | ⟨s, m, k, n, c, h1, h2, h3, h4, rfl⟩
  · rcases g with ⟨g1, -⟩ | ⟨t, -, e⟩ | ⟨t, j, -, e⟩ | ⟨t, m', j, n', d, -, -, -, -, e⟩
    · exact Or.inl ⟨h1, g1⟩
    · exact absurd e (nan_ne_inf t)
    · exact absurd e (nan_ne_zero t)
    · exact absurd e (nan_ne_fin t n' d)
  · rcases g with ⟨g1, e⟩ | ⟨t, g1, e⟩ | ⟨t, j, -, e⟩ | ⟨t, m', j, n', d, -, -, -, -, e⟩
    · exact absurd e.symm (nan_ne_inf s)
    · obtain rfl := inf_inj e
      exact Or.inr (Or.inl ⟨s, h1, g1⟩)
    · exact absurd e (inf_ne_zero s t)
    · exact absurd e (inf_ne_fin s t n' d)
  · rcases g with ⟨g1, e⟩ | ⟨t, g1, e⟩ | ⟨t, j, g1, e⟩ | ⟨t, m', j, n', d, -, -, -, -, e⟩
    · exact absurd e.symm (nan_ne_zero s)
    · exact absurd e.symm (inf_ne_zero t s)
    · obtain rfl := zero_inj e
      exact Or.inr (Or.inr ⟨s, 0, k, 0, j, h1, g1, by simp⟩)
    · exact absurd e (zero_ne_fin s t n' d)
  · rcases g with ⟨g1, e⟩ | ⟨t, g1, e⟩ | ⟨t, j, g1, e⟩ | ⟨t, m', j, n', d, g1, g2, g3, g4, e⟩
    · exact absurd e.symm (nan_ne_fin s n c)
    · exact absurd e.symm (inf_ne_fin t s n c)
    · exact absurd e.symm (zero_ne_fin t s n c)
    · obtain ⟨rfl, rfl, rfl⟩ := finL_inj e
      exact Or.inr (Or.inr ⟨s, m, k, m', j, h1, g1, by rw [h4, g4]⟩)

theorem num_read {x m k m' k' : Nat} {s s' : Bool} (h : Num x s m k) (g : Num x s' m' k') : s = s' ∧ m = m' ∧ k = k' := by
  have := h.read.symm.trans g.read
  injection this with a b c
  exact ⟨a, b, by omega⟩

/-- Words that are the same number have one text. -/
theorem txt_of_same {x y : Nat} {l : List UInt8} (hs : Same x y) (h : Txt x l) : Txt y l := by
  rcases hs with ⟨⟨s, t, a⟩, b⟩ | ⟨s, a, b⟩ | ⟨s, m, k, m', k', a, b, e⟩
  · rcases h with ⟨-, rfl⟩ | ⟨s', h1, -⟩ | ⟨s', k, h1, -⟩ | ⟨s', m, k, n, c, h1, -⟩
    · exact Or.inl ⟨b, rfl⟩
    · rw [a] at h1; cases h1
    · have := h1.read; rw [a] at this; cases this
    · have := h1.read; rw [a] at this; cases this
  · rcases h with ⟨⟨s', t, h1⟩, -⟩ | ⟨s', h1, rfl⟩ | ⟨s', k, h1, -⟩ | ⟨s', m, k, n, c, h1, -⟩
    · rw [a] at h1; cases h1
    · rw [a] at h1; cases h1
      exact Or.inr (Or.inl ⟨s, b, rfl⟩)
    · have := h1.read; rw [a] at this; cases this
    · have := h1.read; rw [a] at this; cases this
  · rcases h with ⟨⟨s', t, h1⟩, -⟩ | ⟨s', h1, rfl⟩ | ⟨s', k2, h1, rfl⟩ | ⟨s', m2, k2, n, c, h1, h2, h3, h4, rfl⟩
    · have := a.read; rw [h1] at this; cases this
    · have := a.read; rw [h1] at this; cases this
    · obtain ⟨rfl, rfl, rfl⟩ := num_read a h1
      have hm : m' = 0 := by
        have : m' * 2 ^ k' = 0 := by rw [← e]; simp
        rcases Nat.mul_eq_zero.1 this with h | h
        · exact h
        · exact absurd h (Nat.ne_of_gt (Nat.two_pow_pos _))
      subst hm
      exact Or.inr (Or.inr (Or.inl ⟨s, k', b, rfl⟩))
    · obtain ⟨rfl, rfl, rfl⟩ := num_read a h1
      refine Or.inr (Or.inr (Or.inr ⟨s, m', k', n, c, b, ?_, h3, by rw [← e, h4], rfl⟩))
      intro h0
      subst h0
      rw [Nat.zero_mul] at e
      rcases Nat.mul_eq_zero.1 e with h | h
      · exact h2 h
      · exact absurd h (Nat.ne_of_gt (Nat.two_pow_pos _))

/-- A word has one text. -/
theorem txt_fun {x : Nat} {l l' : List UInt8} (h : Txt x l) (g : Txt x l') : l = l' := by
  rcases h with ⟨⟨s, t, h1⟩, rfl⟩ | ⟨s, h1, rfl⟩ | ⟨s, k, h1, rfl⟩ | ⟨s, m, k, n, c, h1, h2, h3, h4, rfl⟩
  · rcases g with ⟨-, rfl⟩ | ⟨s', g1, -⟩ | ⟨s', k', g1, -⟩ | ⟨s', m', k', n', c', g1, -⟩
    · rfl
    · rw [h1] at g1; cases g1
    · have := g1.read; rw [h1] at this; cases this
    · have := g1.read; rw [h1] at this; cases this
  · rcases g with ⟨⟨s', t, g1⟩, -⟩ | ⟨s', g1, rfl⟩ | ⟨s', k', g1, -⟩ | ⟨s', m', k', n', c', g1, -⟩
    · rw [h1] at g1; cases g1
    · rw [h1] at g1; cases g1; rfl
    · have := g1.read; rw [h1] at this; cases this
    · have := g1.read; rw [h1] at this; cases this
  · rcases g with ⟨⟨s', t, g1⟩, -⟩ | ⟨s', g1, -⟩ | ⟨s', k', g1, rfl⟩ | ⟨s', m', k', n', c', g1, g2, -⟩
    · have := h1.read; rw [g1] at this; cases this
    · have := h1.read; rw [g1] at this; cases this
    · obtain ⟨rfl, -, -⟩ := num_read h1 g1; rfl
    · obtain ⟨-, e, -⟩ := num_read h1 g1; exact absurd e.symm g2
  · rcases g with ⟨⟨s', t, g1⟩, -⟩ | ⟨s', g1, -⟩ | ⟨s', k', g1, -⟩ | ⟨s', m', k', n', c', g1, g2, g3, g4, rfl⟩
    · have := h1.read; rw [g1] at this; cases this
    · have := h1.read; rw [g1] at this; cases this
    · obtain ⟨-, e, -⟩ := num_read h1 g1; exact absurd e h2
    · obtain ⟨rfl, rfl, rfl⟩ := num_read h1 g1
      obtain ⟨rfl, rfl⟩ := odd_unique h3 g3 (h4.symm.trans g4)
      rfl

end Go.Proofs.YtdhoimjkgicneaaDoor
