/- Texts of this proof laid together: Dev0, Dev2, Dev3. -/
import Derived.Shelf.Strconv.Itoa3
/- Plain arithmetic and texts of operands: what a device's text is, apart from any program. -/
namespace Go.Proofs.YtdhoimjkgicneaaGreatDoor
open Go

/-- How many devices there are of a kind. -/
def sizeZ (k : Int) : Int :=
  if k = 1 then 32 else if k = 2 then 32 else if k = 3 then 64 else if k = 4 then 16 else if k = 5 then 32 else if k = 6 then 5
  else if k = 7 then 16 else if k = 8 then 16 else if k = 9 then 32 else if k = 10 then 16 else 0

/-- The letter of a kind. -/
def letterL (k : Int) : List UInt8 :=
  if k = 1 then [88] else if k = 2 then [89] else if k = 3 then [77] else if k = 4 then [83] else if k = 5 then [69] else if k = 6 then [71]
  else if k = 7 then [84] else if k = 8 then [67] else if k = 9 then [68] else if k = 10 then [82] else []

/-- The word of a number. -/
def wordL (n : Int) : List UInt8 :=
  if n = 0 then [110, 97, 110] else if n = 1 then [105, 110, 102] else if n = 2 then [45, 105, 110, 102] else if n = 3 then [45, 48, 46, 48] else []

/-- Whether an operand is one. -/
def okB (k n p : Int) : Bool :=
  if k = 11 then decide (-32768 ≤ n ∧ n ≤ 32767 ∧ p = 0)
  else if k = 12 then decide (-999999999 ≤ n ∧ n ≤ 999999999 ∧ 1 ≤ p ∧ p ≤ 6 ∧ (p = 1 ∨ n.tmod 10 ≠ 0))
  else if k = 13 then decide (0 ≤ n ∧ n ≤ 3 ∧ p = 0)
  else decide (0 ≤ n ∧ n < sizeZ k ∧ p = 0)

/-- A kind is one of the thirteen, or none. -/
theorem kcases (k : Int) : k = 1 ∨ k = 2 ∨ k = 3 ∨ k = 4 ∨ k = 5 ∨ k = 6 ∨ k = 7 ∨ k = 8 ∨ k = 9 ∨ k = 10 ∨ k = 11 ∨ k = 12 ∨ k = 13 ∨ k < 1 ∨ 13 < k := by omega

theorem sizeZ_out {k : Int} (h : k < 1 ∨ 10 < k) : sizeZ k = 0 := by
  unfold sizeZ
  repeat rw [if_neg (by omega)]

theorem letterL_out {k : Int} (h : k < 1 ∨ 10 < k) : letterL k = [] := by
  unfold letterL
  repeat rw [if_neg (by omega)]

theorem sz1 : sizeZ 1 = 32 := by decide
theorem sz2 : sizeZ 2 = 32 := by decide
theorem sz3 : sizeZ 3 = 64 := by decide
theorem sz4 : sizeZ 4 = 16 := by decide
theorem sz5 : sizeZ 5 = 32 := by decide
theorem sz6 : sizeZ 6 = 5 := by decide
theorem sz7 : sizeZ 7 = 16 := by decide
theorem sz8 : sizeZ 8 = 16 := by decide
theorem sz9 : sizeZ 9 = 32 := by decide
theorem sz10 : sizeZ 10 = 16 := by decide
theorem sz11 : sizeZ 11 = 0 := by decide
theorem sz12 : sizeZ 12 = 0 := by decide
theorem sz13 : sizeZ 13 = 0 := by decide
theorem lt1 : letterL 1 = [88] := by decide
theorem lt2 : letterL 2 = [89] := by decide
theorem lt3 : letterL 3 = [77] := by decide
theorem lt4 : letterL 4 = [83] := by decide
theorem lt5 : letterL 5 = [69] := by decide
theorem lt6 : letterL 6 = [71] := by decide
theorem lt7 : letterL 7 = [84] := by decide
theorem lt8 : letterL 8 = [67] := by decide
theorem lt9 : letterL 9 = [68] := by decide
theorem lt10 : letterL 10 = [82] := by decide
theorem lt11 : letterL 11 = [] := by decide
theorem lt12 : letterL 12 = [] := by decide
theorem lt13 : letterL 13 = [] := by decide

theorem sizeZ_bd (k : Int) : 0 ≤ sizeZ k ∧ sizeZ k ≤ 64 := by
  unfold sizeZ
  repeat' split
  all_goals omega

theorem dd_lt {n : Nat} (h : n < 10) : Lib.decDigits n = [48 + UInt8.ofNat n] := by
  rw [Lib.decDigits, dif_pos h]
  congr 1
  apply UInt8.toNat_inj.1
  simp [UInt8.toNat_ofNat', UInt8.toNat_add]
theorem dd_ge {n : Nat} (h : 9 < n) : Lib.decDigits n = Lib.decDigits (n / 10) ++ [48 + UInt8.ofNat (n % 10)] := by
  rw [Lib.decDigits, dif_neg (by omega)]
  congr 2
  apply UInt8.toNat_inj.1
  simp [UInt8.toNat_ofNat', UInt8.toNat_add]
theorem dd_len (k : Nat) : ∀ n : Nat, n < 10 ^ (k + 1) → (Lib.decDigits n).length ≤ k + 1 := by
  induction k with
  | zero => intro n h; rw [dd_lt (by omega)]; simp
  | succ k ih =>
    intro n h
    by_cases h9 : 9 < n
    · rw [dd_ge h9]
      have := ih (n / 10) (by rw [Nat.pow_succ] at h; omega)
      simp; omega
    · rw [dd_lt (by omega)]; simp
theorem dd_len19 {n : Nat} (h : n ≤ 9223372036854775807) : (Lib.decDigits n).length ≤ 19 := dd_len 18 n (by omega)
theorem dd_pos (n : Nat) : 1 ≤ (Lib.decDigits n).length := by
  by_cases h9 : 9 < n
  · rw [dd_ge h9]; simp
  · rw [dd_lt (by omega)]; simp
/-- A text with zeros ahead, more than p signs long. -/
def padL (l : List UInt8) (p : Nat) : List UInt8 := List.replicate (p + 1 - l.length) 48 ++ l
/-- The last p signs behind a point. -/
def pointL (d : List UInt8) (p : Nat) : List UInt8 := d.take (d.length - p) ++ [46] ++ d.drop (d.length - p)
/-- A decimal number above or at 0. -/
def decM (m p : Nat) : List UInt8 := pointL (padL (Lib.decDigits m) p) p
/-- A decimal number. -/
def decT (n : Int) (p : Nat) : List UInt8 := if n < 0 then 45 :: decM n.natAbs p else decM n.toNat p
/-- The text of an operand. -/
def textL (k n p : Int) : List UInt8 :=
  if okB k n p = false then [] else if k = 11 then Lib.itoa n else if k = 12 then decT n p.toNat else if k = 13 then wordL n else letterL k ++ Lib.itoa n

theorem ext_take (l : List UInt8) (a b : Nat) : (⟨l.toArray⟩ : ByteArray).extract a b = ⟨((l.take b).drop a).toArray⟩ := by
  apply ByteArray.ext
  simp [List.extract_toArray, List.drop_take]
theorem letterL_len (k : Int) : (letterL k).length ≤ 1 := by
  unfold letterL
  repeat' split
  all_goals decide
theorem itoa_len {n : Int} (h1 : -9223372036854775807 ≤ n) (h2 : n ≤ 9223372036854775807) : (Lib.itoa n).length ≤ 20 := by
  unfold Lib.itoa
  split
  · have := dd_len19 (n := n.natAbs) (by omega)
    simp; omega
  · have := dd_len19 (n := n.toNat) (by omega)
    omega
theorem str_cat (a b : List UInt8) : (⟨a.toArray⟩ : ByteArray) ++ ⟨b.toArray⟩ = ⟨(a ++ b).toArray⟩ := by
  apply ByteArray.ext
  simp [ByteArray.data_append]
theorem point_eq (L : List UInt8) (p : Nat) : (⟨L.toArray⟩ : ByteArray).extract 0 (L.length - p) ++ ⟨#[46]⟩ ++ (⟨L.toArray⟩ : ByteArray).extract (L.length - p) L.length = ⟨(pointL L p).toArray⟩ := by
  rw [ext_take, ext_take, show (⟨#[46]⟩ : ByteArray) = ⟨([46] : List UInt8).toArray⟩ from rfl, str_cat, str_cat]
  simp [pointL]
theorem pointL_len (L : List UInt8) (p : Nat) : (pointL L p).length = L.length + 1 := by
  simp [pointL]; omega
theorem decM_len {m p : Nat} (hm : m ≤ 999999999) (hp : p ≤ 6) : (decM m p).length ≤ 30 := by
  have := dd_len19 (n := m) (by omega)
  rw [decM, pointL_len, padL]; simp; omega
theorem str_size (a : List UInt8) : (⟨a.toArray⟩ : ByteArray).size = a.length := by simp [ByteArray.size]

end Go.Proofs.YtdhoimjkgicneaaGreatDoor

/- How long the text of an operand is; that it is empty just where the operand is not ok. Plain. -/
namespace Go.Proofs.YtdhoimjkgicneaaGreatDoor
open Go

theorem ok_int {n p : Int} (h : okB 11 n p = true) : -32768 ≤ n ∧ n ≤ 32767 ∧ p = 0 := by simpa [okB] using h
theorem ok_dec {n p : Int} (h : okB 12 n p = true) : -999999999 ≤ n ∧ n ≤ 999999999 ∧ 1 ≤ p ∧ p ≤ 6 ∧ (p = 1 ∨ n.tmod 10 ≠ 0) := by
  unfold okB at h; rw [if_neg (by decide), if_pos rfl] at h; exact of_decide_eq_true h
theorem ok_word {n p : Int} (h : okB 13 n p = true) : 0 ≤ n ∧ n ≤ 3 ∧ p = 0 := by simpa [okB] using h
theorem ok_dev {k n p : Int} (h : okB k n p = true) (hk : k < 11 ∨ 13 < k) : 0 ≤ n ∧ n < sizeZ k ∧ p = 0 := by
  unfold okB at h; rw [if_neg (by omega), if_neg (by omega), if_neg (by omega)] at h; exact of_decide_eq_true h
theorem ok_kind {k n p : Int} (h : okB k n p = true) (hk : k < 11 ∨ 13 < k) : 1 ≤ k ∧ k ≤ 10 := by
  have h1 := ok_dev h hk
  by_cases h2 : 1 ≤ k ∧ k ≤ 10
  · exact h2
  · have := sizeZ_out (k := k) (by omega)
    omega

theorem wordL_len (n : Int) : (wordL n).length ≤ 4 := by
  unfold wordL
  repeat' split
  all_goals decide

theorem decT_len {n : Int} {p : Nat} (h1 : -999999999 ≤ n) (h2 : n ≤ 999999999) (hp : p ≤ 6) : (decT n p).length ≤ 31 := by
  unfold decT
  split
  · have := decM_len (m := n.natAbs) (p := p) (by omega) hp
    simp; omega
  · have := decM_len (m := n.toNat) (p := p) (by omega) hp
    omega

theorem textL_len (k n p : Int) : (textL k n p).length ≤ 40 := by
  cases hk : okB k n p with
  | false => unfold textL; rw [if_pos hk]; simp
  | true =>
    unfold textL
    rw [if_neg (by rw [hk]; decide)]
    split
    · rename_i h; subst h
      have := ok_int hk
      have := itoa_len (n := n) (by omega) (by omega)
      omega
    · split
      · rename_i h; subst h
        have := ok_dec hk
        have := decT_len (n := n) (p := p.toNat) (by omega) (by omega) (by omega)
        omega
      · split
        · have := wordL_len n; omega
        · have h1 := ok_dev hk (by omega)
          have h2 := sizeZ_bd k
          have h3 := itoa_len (n := n) (by omega) (by omega)
          have h4 := letterL_len k
          simp; omega

theorem textL_ne {k n p : Int} (hk : okB k n p = true) : textL k n p ≠ [] := by
  unfold textL
  rw [if_neg (by rw [hk]; decide)]
  have hpos : ∀ n : Int, Lib.itoa n ≠ [] := by
    intro n; unfold Lib.itoa
    split
    · simp
    · intro h; have := dd_pos n.toNat; rw [h] at this; simp at this
  split
  · exact hpos n
  · split
    · unfold decT decM pointL
      split <;> simp
    · split
      · have := ok_word (n := n) (p := p) (by rename_i h; rw [← h]; exact hk)
        have h4 : n = 0 ∨ n = 1 ∨ n = 2 ∨ n = 3 := by omega
        rcases h4 with rfl | rfl | rfl | rfl <;> decide
      · intro h; exact hpos n (List.append_eq_nil_iff.1 h).2

end Go.Proofs.YtdhoimjkgicneaaGreatDoor

/- Reading texts of operands: two readers, one by pieces and one sign by sign, each gives back an operand out of its text. Plain. -/
namespace Go.Proofs.YtdhoimjkgicneaaGreatDoor
open Go

def isDig (c : UInt8) : Bool := decide (48 ≤ c.toNat ∧ c.toNat ≤ 57)
def dval (l : List UInt8) (a : Nat) : Nat := l.foldl (fun a c => a * 10 + (c.toNat - 48)) a
def digitsZ (l : List UInt8) : Int := if 1 ≤ l.length ∧ l.length ≤ 17 ∧ l.all isDig = true then (dval l 0 : Int) else -1
def fnd : List UInt8 → Option Nat
  | [] => none
  | c :: cs => if c = 46 then some 0 else (fnd cs).map (· + 1)
def letK (l : List UInt8) : Int :=
  if l.take 1 = [88] then 1 else if l.take 1 = [89] then 2 else if l.take 1 = [77] then 3 else if l.take 1 = [83] then 4 else if l.take 1 = [69] then 5 else if l.take 1 = [71] then 6
  else if l.take 1 = [84] then 7 else if l.take 1 = [67] then 8 else if l.take 1 = [68] then 9 else if l.take 1 = [82] then 10 else 0
def numP (s : Int) (l : List UInt8) : Int × Int × Int :=
  match fnd l with
  | none => (11, s * digitsZ l, 0)
  | some d => (12, s * digitsZ (l.take d ++ l.drop (d + 1)), (l.length : Int) - d - 1)
def guessP (l : List UInt8) : Int × Int × Int :=
  if l = wordL 0 then (13, 0, 0) else if l = wordL 1 then (13, 1, 0) else if l = wordL 2 then (13, 2, 0) else if l = wordL 3 then (13, 3, 0)
  else if letK l ≠ 0 then (letK l, digitsZ (l.drop 1), 0) else if l.take 1 = [45] then numP (-1) (l.drop 1) else numP 1 l
def scanL (k s : Int) (N P : Nat) : List UInt8 → Int × Int × Int
  | [] => (k, N * s, P)
  | c :: cs => if c = 46 ∧ k = 11 then scanL 12 s N P cs else if isDig c = false ∨ 99999999 < N then (0, 0, 0) else scanL k s (N * 10 + (c.toNat - 48)) (if k = 12 then P + 1 else P) cs
def scanP (l : List UInt8) : Int × Int × Int :=
  if l = wordL 0 then (13, 0, 0) else if l = wordL 1 then (13, 1, 0) else if l = wordL 2 then (13, 2, 0) else if l = wordL 3 then (13, 3, 0)
  else if letK l ≠ 0 then scanL (letK l) 1 0 0 (l.drop 1) else if l.take 1 = [45] then scanL 11 (-1) 0 0 (l.drop 1) else scanL 11 1 0 0 l

/- digits -/
theorem dig_of (d : Nat) (h : d < 10) : isDig (48 + UInt8.ofNat d) = true ∧ (48 + UInt8.ofNat d).toNat - 48 = d := by
  have : (48 + UInt8.ofNat d).toNat = 48 + d := by simp [UInt8.toNat_add, UInt8.toNat_ofNat']; omega
  unfold isDig; rw [this]; simp; omega
theorem dd_all (n : Nat) : (Lib.decDigits n).all isDig = true := by
  induction n using Nat.strongRecOn with
  | ind n ih =>
    by_cases h : 9 < n
    · rw [dd_ge h, List.all_append, ih (n / 10) (by omega)]
      simp [(dig_of (n % 10) (by omega)).1]
    · rw [dd_lt (by omega)]; simp [(dig_of n (by omega)).1]
theorem dval_append (a b : List UInt8) (x : Nat) : dval (a ++ b) x = dval b (dval a x) := by simp [dval]
theorem dval_dd (n : Nat) : dval (Lib.decDigits n) 0 = n := by
  induction n using Nat.strongRecOn with
  | ind n ih =>
    by_cases h : 9 < n
    · rw [dd_ge h, dval_append, ih (n / 10) (by omega)]
      simp [dval]
      have := (dig_of (n % 10) (by omega)).2
      omega
    · rw [dd_lt (by omega)]
      simp [dval]
      have := (dig_of n (by omega)).2
      omega
theorem dval_pad (j : Nat) (l : List UInt8) : dval (List.replicate j 48 ++ l) 0 = dval l 0 := by
  rw [dval_append]
  have : ∀ j, dval (List.replicate j 48) 0 = 0 := by
    intro j
    induction j with
    | zero => rfl
    | succ j ih => rw [List.replicate_succ]; simpa [dval] using ih
  rw [this]
theorem pad_all (n p : Nat) : (padL (Lib.decDigits n) p).all isDig = true := by
  rw [padL, List.all_append, dd_all]
  simp; right; decide
theorem dval_le (l : List UInt8) : ∀ x, x ≤ dval l x := by
  induction l with
  | nil => intro x; exact Nat.le_refl _
  | cons c cs ih => intro x; have := ih (x * 10 + (c.toNat - 48)); simp only [dval, List.foldl_cons] at this ⊢; omega
theorem not_dot {c : UInt8} (h : isDig c = true) : c ≠ 46 := by rintro rfl; revert h; decide
theorem not_minus {c : UInt8} (h : isDig c = true) : c ≠ 45 := by rintro rfl; revert h; decide

theorem fnd_none : ∀ {l : List UInt8}, l.all isDig = true → fnd l = none
  | [], _ => rfl
  | c :: cs, h => by
    simp only [List.all_cons, Bool.and_eq_true] at h
    simp [fnd, not_dot h.1, fnd_none h.2]
theorem fnd_some : ∀ {l : List UInt8} (r : List UInt8), l.all isDig = true → fnd (l ++ 46 :: r) = some l.length
  | [], r, _ => rfl
  | c :: cs, r, h => by
    simp only [List.all_cons, Bool.and_eq_true] at h
    simp [fnd, not_dot h.1, fnd_some r h.2]

/- the first sign -/
theorem letK_dig {c : UInt8} (cs : List UInt8) (h : isDig c = true) : letK (c :: cs) = 0 := by
  have : ∀ d : UInt8, isDig d = false → c ≠ d := by rintro d hd rfl; rw [h] at hd; cases hd
  unfold letK
  simp [this 88 (by decide), this 89 (by decide), this 77 (by decide), this 83 (by decide), this 69 (by decide), this 71 (by decide), this 84 (by decide), this 67 (by decide), this 68 (by decide), this 82 (by decide)]
theorem letK_minus (cs : List UInt8) : letK (45 :: cs) = 0 := by unfold letK; simp
theorem word_dig {c : UInt8} (cs : List UInt8) (h : isDig c = true) : c :: cs ≠ wordL 0 ∧ c :: cs ≠ wordL 1 ∧ c :: cs ≠ wordL 2 ∧ c :: cs ≠ wordL 3 := by
  have : ∀ d : UInt8, isDig d = false → c ≠ d := by rintro d hd rfl; rw [h] at hd; cases hd
  have a := this 110 (by decide)
  have b := this 105 (by decide)
  have e := this 45 (by decide)
  refine ⟨?_, ?_, ?_, ?_⟩
  · rw [show wordL 0 = [110, 97, 110] by decide]; simp [a]
  · rw [show wordL 1 = [105, 110, 102] by decide]; simp [b]
  · rw [show wordL 2 = [45, 105, 110, 102] by decide]; simp [e]
  · rw [show wordL 3 = [45, 48, 46, 48] by decide]; simp [e]
theorem word_minus {c : UInt8} (cs : List UInt8) (h : isDig c = true) (h3 : c :: cs ≠ [48, 46, 48]) : 45 :: c :: cs ≠ wordL 0 ∧ 45 :: c :: cs ≠ wordL 1 ∧ 45 :: c :: cs ≠ wordL 2 ∧ 45 :: c :: cs ≠ wordL 3 := by
  have : ∀ d : UInt8, isDig d = false → c ≠ d := by rintro d hd rfl; rw [h] at hd; cases hd
  have b := this 105 (by decide)
  refine ⟨?_, ?_, ?_, ?_⟩
  · rw [show wordL 0 = [110, 97, 110] by decide]; simp
  · rw [show wordL 1 = [105, 110, 102] by decide]; simp
  · rw [show wordL 2 = [45, 105, 110, 102] by decide]; simp [b]
  · rw [show wordL 3 = [45, 48, 46, 48] by decide]
    intro e; exact h3 (List.cons.inj e).2
theorem head_dig : ∀ {l : List UInt8}, l.all isDig = true → 1 ≤ l.length → ∃ c cs, l = c :: cs ∧ isDig c = true
  | c :: cs, h, _ => ⟨c, cs, rfl, by simp only [List.all_cons, Bool.and_eq_true] at h; exact h.1⟩

theorem guess_plus {l : List UInt8} (h : ∃ c cs, l = c :: cs ∧ isDig c = true) : guessP l = numP 1 l := by
  obtain ⟨c, cs, rfl, hc⟩ := h
  obtain ⟨a, b, d, e⟩ := word_dig cs hc
  unfold guessP
  rw [if_neg a, if_neg b, if_neg d, if_neg e, letK_dig cs hc, if_neg (by simp), if_neg (by simp [not_minus hc])]
theorem guess_minus {l : List UInt8} (h : ∃ c cs, l = c :: cs ∧ isDig c = true) (h3 : l ≠ [48, 46, 48]) : guessP (45 :: l) = numP (-1) l := by
  obtain ⟨c, cs, rfl, hc⟩ := h
  obtain ⟨a, b, d, e⟩ := word_minus cs hc h3
  unfold guessP
  rw [if_neg a, if_neg b, if_neg d, if_neg e, letK_minus, if_neg (by simp), if_pos (by simp)]
  rfl
theorem scan_plus {l : List UInt8} (h : ∃ c cs, l = c :: cs ∧ isDig c = true) : scanP l = scanL 11 1 0 0 l := by
  obtain ⟨c, cs, rfl, hc⟩ := h
  obtain ⟨a, b, d, e⟩ := word_dig cs hc
  unfold scanP
  rw [if_neg a, if_neg b, if_neg d, if_neg e, letK_dig cs hc, if_neg (by simp), if_neg (by simp [not_minus hc])]
theorem scan_minus {l : List UInt8} (h : ∃ c cs, l = c :: cs ∧ isDig c = true) (h3 : l ≠ [48, 46, 48]) : scanP (45 :: l) = scanL 11 (-1) 0 0 l := by
  obtain ⟨c, cs, rfl, hc⟩ := h
  obtain ⟨a, b, d, e⟩ := word_minus cs hc h3
  unfold scanP
  rw [if_neg a, if_neg b, if_neg d, if_neg e, letK_minus, if_neg (by simp), if_pos (by simp)]
  rfl

/- digits, sign by sign -/
theorem scan_digits (k s : Int) (r : List UInt8) : ∀ (l : List UInt8) (N P : Nat), l.all isDig = true → dval l N ≤ 999999999 →
    scanL k s N P (l ++ r) = scanL k s (dval l N) (if k = 12 then P + l.length else P) r
  | [], N, P, _, _ => by simp [dval]
  | c :: cs, N, P, h, hv => by
    simp only [List.all_cons, Bool.and_eq_true] at h
    have hv' : dval cs (N * 10 + (c.toNat - 48)) ≤ 999999999 := by simpa [dval] using hv
    have h9 := dval_le cs (N * 10 + (c.toNat - 48))
    have ih := scan_digits k s r cs (N * 10 + (c.toNat - 48)) (if k = 12 then P + 1 else P) h.2 hv'
    rw [List.cons_append, scanL, if_neg (by intro e; exact not_dot h.1 e.1), if_neg (by rw [h.1]; simp; omega), ih]
    have e1 : dval (c :: cs) N = dval cs (N * 10 + (c.toNat - 48)) := by simp [dval]
    rw [e1]
    congr 1
    split <;> simp <;> omega

end Go.Proofs.YtdhoimjkgicneaaGreatDoor
