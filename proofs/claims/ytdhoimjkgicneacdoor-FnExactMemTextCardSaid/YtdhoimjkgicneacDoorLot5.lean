/- Texts of this proof laid together: TxtA, MtA. -/
import Derived.Test.YtdhoimjkgicneacDoorLot2
import Derived.Test.YtdhoimjkgicneacDoorLot4
import Derived.Test.YtdhoimjkgicneacDoorLot1
import Derived.Lib.Join
/- The text of a real number: of which numbers a text is the text. Of no one program. -/
namespace Go.Proofs.YtdhoimjkgicneacDoor
open Go Ieee

/-- A sign. -/
def sgnL (s : Bool) : List UInt8 := if s then [45] else []

/-- The text of an odd number times a power of two, counted from the smallest. -/
def finL (s : Bool) (n c : Nat) : List UInt8 := sgnL s ++ (Lib.decDigits n ++ ([42, 50, 94] ++ Lib.itoa ((c : Int) - 1074)))

/-- The word x has the text l. -/
def Txt (x : Nat) (l : List UInt8) : Prop :=
  ((∃ s t, double.read x = .nan s t) ∧ l = [110, 97, 110]) ∨ (∃ s, double.read x = .infinity s ∧ l = sgnL s ++ [105, 110, 102]) ∨ (∃ s k, Num x s 0 k ∧ l = sgnL s ++ [48]) ∨
  (∃ s m k n c, Num x s m k ∧ m ≠ 0 ∧ n % 2 = 1 ∧ m * 2 ^ k = n * 2 ^ c ∧ l = finL s n c)

/-- Two words are the same number, to the sign of nought. -/
def Same (x y : Nat) : Prop :=
  ((∃ s t, double.read x = .nan s t) ∧ (∃ s t, double.read y = .nan s t)) ∨ (∃ s, double.read x = .infinity s ∧ double.read y = .infinity s) ∨ (∃ s m k m' k', Num x s m k ∧ Num y s m' k' ∧ m * 2 ^ k = m' * 2 ^ k')

theorem odd_unique {n c n' c' : Nat} (h : n % 2 = 1) (h' : n' % 2 = 1) (e : n * 2 ^ c = n' * 2 ^ c') : n = n' ∧ c = c' := by
  have key : ∀ {n c n' c' : Nat}, n % 2 = 1 → n' % 2 = 1 → n * 2 ^ c = n' * 2 ^ c' → c ≤ c' → c = c' := by
    intro n c n' c' h h' e hle
    apply Classical.byContradiction
    intro hne
    have e2 : n * 2 ^ c = n' * 2 ^ (c' - c) * 2 ^ c := by rw [e, Nat.mul_assoc, ← Nat.pow_add]; congr 2; omega
    have e3 := Nat.eq_of_mul_eq_mul_right (Nat.two_pow_pos c) e2
    have : 2 ^ (c' - c) = 2 * 2 ^ (c' - c - 1) := by rw [← Nat.pow_succ']; congr 1; omega
    rw [this, Nat.mul_left_comm] at e3
    omega
  have hc : c = c' := by
    rcases Nat.le_total c c' with hl | hl
    · exact key h h' e hl
    · exact (key h' h e.symm hl).symm
  subst hc
  exact ⟨Nat.eq_of_mul_eq_mul_right (Nat.two_pow_pos c) e, rfl⟩

theorem split_star : ∀ {a b r r' : List UInt8}, a.all isDig = true → b.all isDig = true → a ++ 42 :: r = b ++ 42 :: r' → a = b ∧ r = r'
  | [], [], r, r', _, _, h => by simpa using h
  | [], y :: b, r, r', _, hb, h => by
    simp at h
    simp only [List.all_cons, Bool.and_eq_true] at hb
    rw [← h.1] at hb
    exact absurd hb.1 (by decide)
  | x :: a, [], r, r', ha, _, h => by
    simp at h
    simp only [List.all_cons, Bool.and_eq_true] at ha
    rw [h.1] at ha
    exact absurd ha.1 (by decide)
  | x :: a, y :: b, r, r', ha, hb, h => by
    simp only [List.cons_append, List.cons.injEq] at h
    simp only [List.all_cons, Bool.and_eq_true] at ha hb
    obtain ⟨e1, e2⟩ := split_star ha.2 hb.2 h.2
    exact ⟨by rw [h.1, e1], e2⟩

theorem dd_inj {n m : Nat} (h : Lib.decDigits n = Lib.decDigits m) : n = m := by rw [← dval_dd n, h, dval_dd]

theorem dd_head (n : Nat) : ∃ c cs, Lib.decDigits n = c :: cs ∧ isDig c = true := head_dig (dd_all n) (dd_pos n)

theorem itoa_inj {a b : Int} (h : Lib.itoa a = Lib.itoa b) : a = b := by
  unfold Lib.itoa at h
  split at h <;> split at h
  · have := dd_inj (List.cons.inj h).2
    omega
  · obtain ⟨c, cs, e, hd⟩ := dd_head b.toNat
    rw [e] at h
    rw [← (List.cons.inj h).1] at hd
    exact absurd hd (by decide)
  · obtain ⟨c, cs, e, hd⟩ := dd_head a.toNat
    rw [e] at h
    rw [(List.cons.inj h).1] at hd
    exact absurd hd (by decide)
  · have := dd_inj h
    omega

theorem finL_inj {s s' : Bool} {n n' c c' : Nat} (h : finL s n c = finL s' n' c') : s = s' ∧ n = n' ∧ c = c' := by
  have body : ∀ {n n' c c' : Nat}, Lib.decDigits n ++ ([42, 50, 94] ++ Lib.itoa ((c : Int) - 1074)) = Lib.decDigits n' ++ ([42, 50, 94] ++ Lib.itoa ((c' : Int) - 1074)) → n = n' ∧ c = c' := by
    intro n n' c c' h
    obtain ⟨e1, e2⟩ := split_star (dd_all n) (dd_all n') h
    refine ⟨dd_inj e1, ?_⟩
    have := itoa_inj (List.cons.inj (List.cons.inj e2).2).2
    omega
  unfold finL at h
  obtain ⟨x, xs, hx, dx⟩ := dd_head n
  obtain ⟨y, ys, hy, dy⟩ := dd_head n'
  cases s <;> cases s'
  · exact ⟨rfl, body (by simpa [sgnL] using h)⟩
  · exfalso
    rw [hx] at h
    simp [sgnL] at h
    rw [h.1] at dx
    exact absurd dx (by decide)
  · exfalso
    rw [hy] at h
    simp [sgnL] at h
    rw [← h.1] at dy
    exact absurd dy (by decide)
  · exact ⟨rfl, body (by simpa [sgnL] using h)⟩

theorem itoa_pos (n : Int) : 1 ≤ (Lib.itoa n).length := by
  unfold Lib.itoa
  split
  · simp
  · exact dd_pos _

theorem finL_len (s : Bool) (n c : Nat) : 5 ≤ (finL s n c).length := by
  have h1 := dd_pos n
  have h2 := itoa_pos ((c : Int) - 1074)
  simp [finL]
  omega

theorem sgn_len (s : Bool) : (sgnL s).length ≤ 1 := by cases s <;> simp [sgnL]

theorem nan_ne_inf (s : Bool) : ([110, 97, 110] : List UInt8) ≠ sgnL s ++ [105, 110, 102] := by cases s <;> decide
theorem inf_inj {s s' : Bool} (h : sgnL s ++ [105, 110, 102] = sgnL s' ++ [105, 110, 102]) : s = s' := by cases s <;> cases s' <;> first | rfl | (revert h; decide)
theorem zero_inj {s s' : Bool} (h : sgnL s ++ [48] = sgnL s' ++ [48]) : s = s' := by cases s <;> cases s' <;> first | rfl | (revert h; decide)
theorem nan_ne_zero (s : Bool) : ([110, 97, 110] : List UInt8) ≠ sgnL s ++ [48] := by cases s <;> decide
theorem inf_ne_zero (s s' : Bool) : sgnL s ++ [105, 110, 102] ≠ sgnL s' ++ [48] := by cases s <;> cases s' <;> decide
theorem nan_ne_fin (s : Bool) (n c : Nat) : ([110, 97, 110] : List UInt8) ≠ finL s n c := by
  intro h; have := finL_len s n c; rw [← h] at this; simp at this
theorem inf_ne_fin (s s' : Bool) (n c : Nat) : sgnL s ++ [105, 110, 102] ≠ finL s' n c := by
  intro h; have := finL_len s' n c; rw [← h] at this; have := sgn_len s; simp at *; omega
theorem zero_ne_fin (s s' : Bool) (n c : Nat) : sgnL s ++ [48] ≠ finL s' n c := by
  intro h; have := finL_len s' n c; rw [← h] at this; have := sgn_len s; simp at *; omega

/-- Two words of one text are the same number. -/
theorem txt_same {x y : Nat} {l : List UInt8} (h : Txt x l) (g : Txt y l) : Same x y := by
  rcases h with ⟨h1, rfl⟩ | ⟨s, h1, rfl⟩ | ⟨s, k, h1, rfl⟩ | ⟨s, m, k, n, c, h1, h2, h3, h4, rfl⟩
  · rcases g with ⟨g1, -⟩ | ⟨t, -, e⟩ | ⟨t, j, -, e⟩ | ⟨t, m', j, n', d, -, -, -, -, e⟩
    · exact Or.inl ⟨h1, g1⟩
    · exact absurd e (nan_ne_inf t)
    · exact absurd e (nan_ne_zero t)
    · exact absurd e (nan_ne_fin t n' d)
  · rcases g with ⟨g1, e⟩ | ⟨t, g1, e⟩ | ⟨t, j, -, e⟩ | ⟨t, m', j, n', d, -, -, -, -, e⟩
    · exact absurd e.symm (nan_ne_inf s)
    · obtain rfl := inf_inj e
      exact Or.inr (Or.inl ⟨s, h1, g1⟩)
    · exact absurd e (inf_ne_zero s t)
    · exact absurd e (inf_ne_fin s t n' d)
  · rcases g with ⟨g1, e⟩ | ⟨t, g1, e⟩ | ⟨t, j, g1, e⟩ | ⟨t, m', j, n', d, -, -, -, -, e⟩
    · exact absurd e.symm (nan_ne_zero s)
    · exact absurd e.symm (inf_ne_zero t s)
    · obtain rfl := zero_inj e
      exact Or.inr (Or.inr ⟨s, 0, k, 0, j, h1, g1, by simp⟩)
    · exact absurd e (zero_ne_fin s t n' d)
  · rcases g with ⟨g1, e⟩ | ⟨t, g1, e⟩ | ⟨t, j, g1, e⟩ | ⟨t, m', j, n', d, g1, g2, g3, g4, e⟩
    · exact absurd e.symm (nan_ne_fin s n c)
    · exact absurd e.symm (inf_ne_fin t s n c)
    · exact absurd e.symm (zero_ne_fin t s n c)
    · obtain ⟨rfl, rfl, rfl⟩ := finL_inj e
      exact Or.inr (Or.inr ⟨s, m, k, m', j, h1, g1, by rw [h4, g4]⟩)

theorem num_read {x m k m' k' : Nat} {s s' : Bool} (h : Num x s m k) (g : Num x s' m' k') : s = s' ∧ m = m' ∧ k = k' := by
  have := h.read.symm.trans g.read
  injection this with a b c
  exact ⟨a, b, by omega⟩

/-- Words that are the same number have one text. -/
theorem txt_of_same {x y : Nat} {l : List UInt8} (hs : Same x y) (h : Txt x l) : Txt y l := by
  rcases hs with ⟨⟨s, t, a⟩, b⟩ | ⟨s, a, b⟩ | ⟨s, m, k, m', k', a, b, e⟩
  · rcases h with ⟨-, rfl⟩ | ⟨s', h1, -⟩ | ⟨s', k, h1, -⟩ | ⟨s', m, k, n, c, h1, -⟩
    · exact Or.inl ⟨b, rfl⟩
    · rw [a] at h1; cases h1
    · have := h1.read; rw [a] at this; cases this
    · have := h1.read; rw [a] at this; cases this
  · rcases h with ⟨⟨s', t, h1⟩, -⟩ | ⟨s', h1, rfl⟩ | ⟨s', k, h1, -⟩ | ⟨s', m, k, n, c, h1, -⟩
    · rw [a] at h1; cases h1
    · rw [a] at h1; cases h1
      exact Or.inr (Or.inl ⟨s, b, rfl⟩)
    · have := h1.read; rw [a] at this; cases this
    · have := h1.read; rw [a] at this; cases this
  · rcases h with ⟨⟨s', t, h1⟩, -⟩ | ⟨s', h1, rfl⟩ | ⟨s', k2, h1, rfl⟩ | ⟨s', m2, k2, n, c, h1, h2, h3, h4, rfl⟩
    · have := a.read; rw [h1] at this; cases this
    · have := a.read; rw [h1] at this; cases this
    · obtain ⟨rfl, rfl, rfl⟩ := num_read a h1
      have hm : m' = 0 := by
        have : m' * 2 ^ k' = 0 := by rw [← e]; simp
        rcases Nat.mul_eq_zero.1 this with h | h
        · exact h
        · exact absurd h (Nat.ne_of_gt (Nat.two_pow_pos _))
      subst hm
      exact Or.inr (Or.inr (Or.inl ⟨s, k', b, rfl⟩))
    · obtain ⟨rfl, rfl, rfl⟩ := num_read a h1
      refine Or.inr (Or.inr (Or.inr ⟨s, m', k', n, c, b, ?_, h3, by rw [← e, h4], rfl⟩))
      intro h0
      subst h0
      rw [Nat.zero_mul] at e
      rcases Nat.mul_eq_zero.1 e with h | h
      · exact h2 h
      · exact absurd h (Nat.ne_of_gt (Nat.two_pow_pos _))

/-- A word has one text. -/
theorem txt_fun {x : Nat} {l l' : List UInt8} (h : Txt x l) (g : Txt x l') : l = l' := by
  rcases h with ⟨⟨s, t, h1⟩, rfl⟩ | ⟨s, h1, rfl⟩ | ⟨s, k, h1, rfl⟩ | ⟨s, m, k, n, c, h1, h2, h3, h4, rfl⟩
  · rcases g with ⟨-, rfl⟩ | ⟨s', g1, -⟩ | ⟨s', k', g1, -⟩ | ⟨s', m', k', n', c', g1, -⟩
    · rfl
    · rw [h1] at g1; cases g1
    · have := g1.read; rw [h1] at this; cases this
    · have := g1.read; rw [h1] at this; cases this
  · rcases g with ⟨⟨s', t, g1⟩, -⟩ | ⟨s', g1, rfl⟩ | ⟨s', k', g1, -⟩ | ⟨s', m', k', n', c', g1, -⟩
    · rw [h1] at g1; cases g1
    · rw [h1] at g1; cases g1; rfl
    · have := g1.read; rw [h1] at this; cases this
    · have := g1.read; rw [h1] at this; cases this
  · rcases g with ⟨⟨s', t, g1⟩, -⟩ | ⟨s', g1, -⟩ | ⟨s', k', g1, rfl⟩ | ⟨s', m', k', n', c', g1, g2, -⟩
    · have := h1.read; rw [g1] at this; cases this
    · have := h1.read; rw [g1] at this; cases this
    · obtain ⟨rfl, -, -⟩ := num_read h1 g1; rfl
    · obtain ⟨-, e, -⟩ := num_read h1 g1; exact absurd e.symm g2
  · rcases g with ⟨⟨s', t, g1⟩, -⟩ | ⟨s', g1, -⟩ | ⟨s', k', g1, -⟩ | ⟨s', m', k', n', c', g1, g2, g3, g4, rfl⟩
    · have := h1.read; rw [g1] at this; cases this
    · have := h1.read; rw [g1] at this; cases this
    · obtain ⟨-, e, -⟩ := num_read h1 g1; exact absurd e h2
    · obtain ⟨rfl, rfl, rfl⟩ := num_read h1 g1
      obtain ⟨rfl, rfl⟩ := odd_unique h3 g3 (h4.symm.trans g4)
      rfl

end Go.Proofs.YtdhoimjkgicneacDoor

/- The text of a memory, word by word; and what words make a memory. Of no one program. -/
namespace Go.Proofs.YtdhoimjkgicneacDoor
open Go

/-- A word of the text of a memory: a bit (kinds 1 to 5), a timer (7), a counter (8), a whole register (9), a real one (10), the time (11), whether it ran (12), a fault (13). -/
structure Wd where
  k : Nat
  n : Nat
  c : Nat
  d : Bool
  l : Bool
  z : Int
  t : List UInt8

def markL (b : Bool) (c : UInt8) : List UInt8 := if b then [c] else []
def countL (c : Nat) (d l : Bool) : List UInt8 := Lib.decDigits c ++ (markL d 33 ++ markL l 43)

/-- What stands behind the device. -/
def Wd.tail (w : Wd) : List UInt8 :=
  if w.k ≤ 5 then [] else if w.k = 7 ∨ w.k = 8 then 61 :: countL w.c w.d w.l else if w.k = 9 then 61 :: Lib.itoa w.z else 61 :: w.t

def Wd.text (w : Wd) : List UInt8 :=
  if w.k = 11 then [116, 105, 109, 101, 61] ++ Lib.decDigits w.c else if w.k = 12 then [114, 97, 110] else if w.k = 13 then [102, 97, 117, 108, 116]
  else letterL w.k ++ (Lib.decDigits w.n ++ w.tail)

/-- The word of bits of a kind, and how many there are. -/
def wdN (v : MemV) (k : Nat) : Nat := if k = 1 then v.x else if k = 2 then v.y else if k = 3 then v.m else if k = 4 then v.s else if k = 5 then v.e else 0
def szN (k : Nat) : Nat := if k = 1 then 32 else if k = 2 then 32 else if k = 3 then 64 else if k = 4 then 16 else if k = 5 then 32 else 0

def bitW (v : MemV) (k : Nat) : List Wd := ((List.range (szN k)).filter fun n => (wdN v k).testBit n).map fun n => ⟨k, n, 0, false, false, 0, []⟩
def timerW (v : MemV) : List Wd := ((List.range 16).filter fun n => v.tD n || v.tC n != 0).map fun n => ⟨7, n, v.tC n, v.tD n, false, 0, []⟩
def counterW (v : MemV) : List Wd := ((List.range 16).filter fun n => v.cD n || (v.cL n || v.cC n != 0)).map fun n => ⟨8, n, v.cC n, v.cD n, v.cL n, 0, []⟩
def intW (v : MemV) : List Wd := ((List.range 32).filter fun n => v.d n != 0).map fun n => ⟨9, n, 0, false, false, v.d n, []⟩
def realW (tx : Nat → List UInt8) : List Wd := ((List.range 16).filter fun n => tx n != [48]).map fun n => ⟨10, n, 0, false, false, 0, tx n⟩
def timeW (v : MemV) : List Wd := if v.time != 0 then [⟨11, 0, v.time, false, false, 0, []⟩] else []
def ranW (v : MemV) : List Wd := if v.ran then [⟨12, 0, 0, false, false, 0, []⟩] else []
def faultW (v : MemV) : List Wd := if v.fault then [⟨13, 0, 0, false, false, 0, []⟩] else []

def bitsW (v : MemV) : List Wd := bitW v 1 ++ (bitW v 2 ++ (bitW v 3 ++ (bitW v 4 ++ bitW v 5)))
def allW (v : MemV) (tx : Nat → List UInt8) : List Wd := bitsW v ++ (timerW v ++ (counterW v ++ (intW v ++ (realW tx ++ (timeW v ++ (ranW v ++ faultW v))))))

def textV (v : MemV) (tx : Nat → List UInt8) : List UInt8 := Lib.join ((allW v tx).map Wd.text) [32]

/-- The memory has that text. -/
def TextOf (v : MemV) (l : List UInt8) : Prop := ∃ tx : Nat → List UInt8, (∀ i, i < 16 → Txt (v.r i) (tx i)) ∧ l = textV v tx

/-- Two memories are one, real numbers as values. -/
structure SameM (a b : MemV) : Prop where
  x : a.x = b.x
  y : a.y = b.y
  m : a.m = b.m
  s : a.s = b.s
  e : a.e = b.e
  tD : ∀ i, i < 16 → a.tD i = b.tD i
  tC : ∀ i, i < 16 → a.tC i = b.tC i
  cD : ∀ i, i < 16 → a.cD i = b.cD i
  cL : ∀ i, i < 16 → a.cL i = b.cL i
  cC : ∀ i, i < 16 → a.cC i = b.cC i
  d : ∀ i, i < 32 → a.d i = b.d i
  r : ∀ i, i < 16 → Same (a.r i) (b.r i)
  time : a.time = b.time
  ran : a.ran = b.ran
  fault : a.fault = b.fault

theorem filter_range_congr {n : Nat} {p q : Nat → Bool} (h : ∀ i, i < n → p i = q i) : (List.range n).filter p = (List.range n).filter q :=
  List.filter_congr fun i hi => h i (by simpa using hi)
theorem seg_congr {n : Nat} {p q : Nat → Bool} {f g : Nat → Wd} (h : ∀ i, i < n → p i = q i) (hf : ∀ i, i < n → f i = g i) : ((List.range n).filter p).map f = ((List.range n).filter q).map g := by
  rw [filter_range_congr h]
  refine List.map_congr_left fun i hi => hf i ?_
  have := (List.mem_filter.1 hi).1
  simpa using this

theorem text_same {a b : MemV} {l : List UInt8} (h : SameM a b) (t : TextOf a l) : TextOf b l := by
  obtain ⟨tx, ht, rfl⟩ := t
  refine ⟨tx, fun i hi => txt_of_same (h.r i hi) (ht i hi), ?_⟩
  have e1 : ∀ k, bitW a k = bitW b k := by
    intro k
    have : wdN a k = wdN b k := by simp only [wdN, h.x, h.y, h.m, h.s, h.e]
    unfold bitW
    rw [this]
  have e2 : timerW a = timerW b := seg_congr (fun i hi => by rw [h.tD i hi, h.tC i hi]) (fun i hi => by rw [h.tD i hi, h.tC i hi])
  have e3 : counterW a = counterW b := seg_congr (fun i hi => by rw [h.cD i hi, h.cL i hi, h.cC i hi]) (fun i hi => by rw [h.cD i hi, h.cL i hi, h.cC i hi])
  have e4 : intW a = intW b := seg_congr (fun i hi => by rw [h.d i hi]) (fun i hi => by rw [h.d i hi])
  have e5 : timeW a = timeW b := by unfold timeW; rw [h.time]
  have e6 : ranW a = ranW b := by unfold ranW; rw [h.ran]
  have e7 : faultW a = faultW b := by unfold faultW; rw [h.fault]
  unfold textV allW bitsW
  rw [e1, e1, e1, e1, e1, e2, e3, e4, e5, e6, e7]

theorem text_fun {v : MemV} {l l' : List UInt8} (h : TextOf v l) (g : TextOf v l') : l = l' := by
  obtain ⟨tx, ht, rfl⟩ := h
  obtain ⟨ty, hy, rfl⟩ := g
  have e : realW tx = realW ty := seg_congr (fun i hi => by rw [txt_fun (ht i hi) (hy i hi)]) (fun i hi => by rw [txt_fun (ht i hi) (hy i hi)])
  unfold textV allW
  rw [e]

/-- What a word says of the memory of whose text it is. -/
structure WdOf (v : MemV) (tx : Nat → List UInt8) (w : Wd) : Prop where
  kind : w.k = 1 ∨ w.k = 2 ∨ w.k = 3 ∨ w.k = 4 ∨ w.k = 5 ∨ w.k = 7 ∨ w.k = 8 ∨ w.k = 9 ∨ w.k = 10 ∨ w.k = 11 ∨ w.k = 12 ∨ w.k = 13
  bit : w.k ≤ 5 → w.n < szN w.k ∧ (wdN v w.k).testBit w.n = true ∧ w.c = 0 ∧ w.d = false ∧ w.l = false ∧ w.z = 0 ∧ w.t = []
  timer : w.k = 7 → w.n < 16 ∧ w.c = v.tC w.n ∧ w.d = v.tD w.n ∧ w.l = false ∧ w.z = 0 ∧ w.t = []
  counter : w.k = 8 → w.n < 16 ∧ w.c = v.cC w.n ∧ w.d = v.cD w.n ∧ w.l = v.cL w.n ∧ w.z = 0 ∧ w.t = []
  int : w.k = 9 → w.n < 32 ∧ w.z = v.d w.n ∧ w.c = 0 ∧ w.d = false ∧ w.l = false ∧ w.t = []
  real : w.k = 10 → w.n < 16 ∧ w.t = tx w.n ∧ w.c = 0 ∧ w.d = false ∧ w.l = false ∧ w.z = 0
  time : w.k = 11 → w.c = v.time ∧ w.n = 0 ∧ w.d = false ∧ w.l = false ∧ w.z = 0 ∧ w.t = []
  ran : w.k = 12 → v.ran = true ∧ w = ⟨12, 0, 0, false, false, 0, []⟩
  fault : w.k = 13 → v.fault = true ∧ w = ⟨13, 0, 0, false, false, 0, []⟩

theorem of_bit {v : MemV} {tx : Nat → List UInt8} {w : Wd} {k : Nat} (hk : k = 1 ∨ k = 2 ∨ k = 3 ∨ k = 4 ∨ k = 5) (h : w ∈ bitW v k) : WdOf v tx w := by
  simp only [bitW, List.mem_map, List.mem_filter, List.mem_range] at h
  obtain ⟨n, ⟨h1, h2⟩, rfl⟩ := h
  refine ⟨?_, fun _ => ⟨h1, h2, rfl, rfl, rfl, rfl, rfl⟩, fun h => ?_, fun h => ?_, fun h => ?_, fun h => ?_, fun h => ?_, fun h => ?_, fun h => ?_⟩
  · simp only; omega
  all_goals (simp only at h; omega)

theorem of_all {v : MemV} {tx : Nat → List UInt8} {w : Wd} (h : w ∈ allW v tx) : WdOf v tx w := by
  simp only [allW, bitsW, List.mem_append] at h
  rcases h with (h | h | h | h | h) | h | h | h | h | h | h | h
  · exact of_bit (by omega) h
  · exact of_bit (by omega) h
  · exact of_bit (by omega) h
  · exact of_bit (by omega) h
  · exact of_bit (by omega) h
  · simp only [timerW, List.mem_map, List.mem_filter, List.mem_range] at h
    obtain ⟨n, ⟨h1, h2⟩, rfl⟩ := h
    refine ⟨by simp, fun h => ?_, fun _ => ⟨h1, rfl, rfl, rfl, rfl, rfl⟩, fun h => ?_, fun h => ?_, fun h => ?_, fun h => ?_, fun h => ?_, fun h => ?_⟩
    all_goals (simp only at h; omega)
  · simp only [counterW, List.mem_map, List.mem_filter, List.mem_range] at h
    obtain ⟨n, ⟨h1, h2⟩, rfl⟩ := h
    refine ⟨by simp, fun h => ?_, fun h => ?_, fun _ => ⟨h1, rfl, rfl, rfl, rfl, rfl⟩, fun h => ?_, fun h => ?_, fun h => ?_, fun h => ?_, fun h => ?_⟩
    all_goals (simp only at h; omega)
  · simp only [intW, List.mem_map, List.mem_filter, List.mem_range] at h
    obtain ⟨n, ⟨h1, h2⟩, rfl⟩ := h
    refine ⟨by simp, fun h => ?_, fun h => ?_, fun h => ?_, fun _ => ⟨h1, rfl, rfl, rfl, rfl, rfl⟩, fun h => ?_, fun h => ?_, fun h => ?_, fun h => ?_⟩
    all_goals (simp only at h; omega)
  · simp only [realW, List.mem_map, List.mem_filter, List.mem_range] at h
    obtain ⟨n, ⟨h1, h2⟩, rfl⟩ := h
    refine ⟨by simp, fun h => ?_, fun h => ?_, fun h => ?_, fun h => ?_, fun _ => ⟨h1, rfl, rfl, rfl, rfl, rfl⟩, fun h => ?_, fun h => ?_, fun h => ?_⟩
    all_goals (simp only at h; omega)
  · unfold timeW at h
    split at h
    · simp only [List.mem_singleton] at h
      subst h
      refine ⟨by simp, fun h => ?_, fun h => ?_, fun h => ?_, fun h => ?_, fun h => ?_, fun _ => ⟨rfl, rfl, rfl, rfl, rfl, rfl⟩, fun h => ?_, fun h => ?_⟩
      all_goals (simp only at h; omega)
    · cases h
  · unfold ranW at h
    split at h
    · rename_i hr
      simp only [List.mem_singleton] at h
      subst h
      refine ⟨by simp, fun h => ?_, fun h => ?_, fun h => ?_, fun h => ?_, fun h => ?_, fun h => ?_, fun _ => ⟨hr, rfl⟩, fun h => ?_⟩
      all_goals (simp only at h; omega)
    · cases h
  · unfold faultW at h
    split at h
    · rename_i hr
      simp only [List.mem_singleton] at h
      subst h
      refine ⟨by simp, fun h => ?_, fun h => ?_, fun h => ?_, fun h => ?_, fun h => ?_, fun h => ?_, fun h => ?_, fun _ => ⟨hr, rfl⟩⟩
      all_goals (simp only at h; omega)
    · cases h

end Go.Proofs.YtdhoimjkgicneacDoor
