/- Reading whole numbers as they are written: the specification's. -/
import Derived.Test.YtdhoimjkgicneaaDoorTxtA
import Derived.WalkKit
import Derived.WalkSpells
import Derived.WalkLawsBesides
import Derived.Test.YtdhoimjkgicneaaDoorRows
namespace Go.Proofs.YtdhoimjkgicneaaDoor
open Go Go.RowKit

theorem dd_head0 (n : Nat) : 1 ≤ n → (Lib.decDigits n).head? ≠ some 48 := by
  induction n using Nat.strongRecOn with
  | ind n ih =>
    intro h1
    by_cases h : 9 < n
    · rw [dd_ge h]
      have := ih (n / 10) (by omega) (by omega)
      obtain ⟨c, cs, e, -⟩ := dd_head (n / 10)
      rw [e] at this ⊢
      simpa using this
    · rw [dd_lt (by omega)]
      simp only [List.head?_cons, ne_eq, Option.some.injEq]
      intro e
      have := (dig_of n (by omega)).2
      rw [e] at this
      simp at this
      omega

theorem dd_canon : ∀ (k : Nat) (l : List UInt8), l.length = k + 1 → l.all isDig = true → (l.head? ≠ some 48 ∨ l.length = 1) → Lib.decDigits (dval l 0) = l
  | 0, l, hl, ha, _ => by
    match l, hl with
    | [c], _ =>
      simp only [List.all_cons, List.all_nil, Bool.and_true] at ha
      have hc : 48 ≤ c.toNat ∧ c.toNat ≤ 57 := by simpa [isDig] using ha
      have e : dval [c] 0 = c.toNat - 48 := by simp [dval]
      rw [e, dd_lt (by omega)]
      congr 1
      apply UInt8.toNat_inj.1
      have : (48 + UInt8.ofNat (c.toNat - 48)).toNat = 48 + (c.toNat - 48) := by simp [UInt8.toNat_add, UInt8.toNat_ofNat']; omega
      rw [this]
      omega
  | k + 1, l, hl, ha, hh => by
    have hne : l ≠ [] := by intro h; rw [h] at hl; simp at hl
    have hsplit := List.dropLast_concat_getLast hne
    obtain ⟨b, hb⟩ : ∃ b, l.dropLast = b := ⟨_, rfl⟩
    obtain ⟨c, hc⟩ : ∃ c, l.getLast hne = c := ⟨_, rfl⟩
    rw [hb, hc] at hsplit
    have hlb : b.length = k + 1 := by rw [← hb, List.length_dropLast]; omega
    have hab : b.all isDig = true ∧ isDig c = true := by
      rw [← hsplit, List.all_append] at ha
      simpa using ha
    obtain ⟨x, xs, hx⟩ : ∃ x xs, b = x :: xs := by
      cases b with
      | nil => simp at hlb
      | cons x xs => exact ⟨x, xs, rfl⟩
    have hhb : b.head? ≠ some 48 := by
      rcases hh with h | h
      · rw [← hsplit, hx] at h
        rw [hx]
        simpa using h
      · omega
    have ih := dd_canon k b hlb hab.1 (Or.inl hhb)
    have hpos : 1 ≤ dval b 0 := by
      apply Classical.byContradiction
      intro h0
      have : dval b 0 = 0 := by omega
      rw [this, dd_lt (by omega)] at ih
      rw [← ih] at hhb
      exact hhb (by decide)
    have hcd : 48 ≤ c.toNat ∧ c.toNat ≤ 57 := by simpa [isDig] using hab.2
    have e : dval l 0 = dval b 0 * 10 + (c.toNat - 48) := by rw [← hsplit, dval_append]; simp [dval]
    rw [e, dd_ge (by omega), show (dval b 0 * 10 + (c.toNat - 48)) / 10 = dval b 0 by omega, show (dval b 0 * 10 + (c.toNat - 48)) % 10 = c.toNat - 48 by omega, ih]
    rw [← hsplit]
    congr 2
    apply UInt8.toNat_inj.1
    have : (48 + UInt8.ofNat (c.toNat - 48)).toNat = 48 + (c.toNat - 48) := by simp [UInt8.toNat_add, UInt8.toNat_ofNat']; omega
    rw [this]
    omega

/-- The digits of a number as it is written, behind its sign. -/
def canonP (neg : Bool) (l : List UInt8) : Prop := 1 ≤ l.length ∧ l.length ≤ 17 ∧ l.all isDig = true ∧ ¬ (l.head? = some 48 ∧ (1 < l.length ∨ neg = true))

theorem dval_bdT : ∀ (l : List UInt8), l.all isDig = true → ∀ a, dval l a < (a + 1) * 10 ^ l.length
  | [], _, a => by simp [dval]
  | c :: cs, h, a => by
    simp only [List.all_cons, Bool.and_eq_true] at h
    have hc : 48 ≤ c.toNat ∧ c.toNat ≤ 57 := by simpa [isDig] using h.1
    have := dval_bdT cs h.2 (a * 10 + (c.toNat - 48))
    have e : dval (c :: cs) a = dval cs (a * 10 + (c.toNat - 48)) := rfl
    rw [e]
    refine Nat.lt_of_lt_of_le this ?_
    rw [List.length_cons, Nat.pow_succ', ← Nat.mul_assoc]
    exact Nat.mul_le_mul_right _ (by omega)

theorem canon_itoa {neg : Bool} {l : List UInt8} (h : canonP neg l) : sgnL neg ++ l = Lib.itoa (if neg then -(dval l 0 : Int) else dval l 0) ∧ dval l 0 < 100000000000000000 := by
  obtain ⟨h1, h2, h3, h4⟩ := h
  have hd : Lib.decDigits (dval l 0) = l := by
    refine dd_canon (l.length - 1) l (by omega) h3 ?_
    by_cases hh : l.head? = some 48
    · right
      apply Classical.byContradiction
      intro hn
      exact h4 ⟨hh, Or.inl (by omega)⟩
    · exact Or.inl hh
  have hb : dval l 0 < 100000000000000000 := by
    have := dval_bdT l h3 0
    refine Nat.lt_of_lt_of_le this ?_
    rw [Nat.zero_add, Nat.one_mul, show (100000000000000000 : Nat) = 10 ^ 17 from by decide +kernel]
    exact Nat.pow_le_pow_right (by omega) h2
  refine ⟨?_, hb⟩
  cases neg
  · simp only [sgnL, Bool.false_eq_true, if_false, List.nil_append]
    unfold Lib.itoa
    rw [if_neg (by omega)]
    simpa using hd.symm
  · have hpos : dval l 0 ≠ 0 := by
      intro h0
      rw [h0, dd_lt (by omega)] at hd
      exact h4 ⟨by rw [← hd]; decide, Or.inr rfl⟩
    simp only [sgnL, if_true]
    unfold Lib.itoa
    rw [if_pos (by omega)]
    simp [hd]

theorem itoa_sgnT (e : Int) : Lib.itoa e = sgnL (decide (e < 0)) ++ Lib.decDigits e.natAbs := by
  unfold Lib.itoa
  by_cases h : e < 0
  · simp [h, sgnL]
  · rw [if_neg h]
    simp only [h, decide_false, sgnL, Bool.false_eq_true, if_false, List.nil_append]
    congr 1
    omega

theorem canon_of_itoa {neg : Bool} {l : List UInt8} {v : Int} (h : sgnL neg ++ l = Lib.itoa v) (hn : neg = true ∨ l.head? ≠ some 45) (hv : v.natAbs < 100000000000000000) : canonP neg l := by
  rw [itoa_sgnT] at h
  have hl := dd_len 16 v.natAbs (by omega)
  have hp := dd_pos v.natAbs
  have key : decide (v < 0) = neg ∧ l = Lib.decDigits v.natAbs := by
    obtain ⟨c, cs, e, hc⟩ := dd_head v.natAbs
    by_cases hvn : v < 0
    · simp only [hvn, decide_true, sgnL, if_true] at h ⊢
      cases neg
      · simp only [Bool.false_eq_true, if_false, List.nil_append] at h
        rcases hn with h' | h'
        · cases h'
        · rw [h] at h'
          exact absurd rfl h'
      · simp only [if_true] at h
        exact ⟨rfl, (List.cons.inj h).2⟩
    · simp only [hvn, decide_false, sgnL, Bool.false_eq_true, if_false, List.nil_append] at h ⊢
      cases neg
      · exact ⟨rfl, by simpa using h⟩
      · simp only [if_true] at h
        rw [e] at h
        rw [← (List.cons.inj h).1] at hc
        exact absurd hc (by decide)
  obtain ⟨k1, rfl⟩ := key
  refine ⟨hp, hl, dd_all _, ?_⟩
  rintro ⟨hh, hor⟩
  by_cases h0 : v.natAbs = 0
  · rcases hor with h1 | h1
    · rw [h0, dd_lt (by omega)] at h1
      simp at h1
    · rw [h1] at k1
      have : v < 0 := by simpa using k1
      omega
  · exact dd_head0 _ (by omega) hh

/-- What the reading of a number leaves. -/
def NumS (l : List UInt8) (w : World) (e : Ending) (w' : World) : Prop :=
  ((∃ v : Int, e = .returned (.tuple #[.int .i64 v, .bool true]) ∧ l = Lib.itoa v ∧ v.natAbs < 100000000000000000) ∨ (e = .returned (.tuple #[.int .i64 0, .bool false]) ∧ ∀ v : Int, v.natAbs < 100000000000000000 → l ≠ Lib.itoa v)) ∧ w' = w

theorem nums_no {l : List UInt8} {neg : Bool} {w : World} (h : ¬ canonP neg l) (hn : neg = true ∨ l.head? ≠ some 45) : NumS (sgnL neg ++ l) w (.returned (.tuple #[.int .i64 0, .bool false])) w :=
  ⟨Or.inr ⟨rfl, fun _ hv e => h (canon_of_itoa e hn hv)⟩, rfl⟩
theorem nums_yes {l : List UInt8} {neg : Bool} {w : World} (h : canonP neg l) : NumS (sgnL neg ++ l) w (.returned (.tuple #[.int .i64 (if neg then -(dval l 0 : Int) else dval l 0), .bool true])) w := by
  obtain ⟨h1, h2⟩ := canon_itoa h
  exact ⟨Or.inl ⟨_, rfl, h1, by cases neg <;> simp <;> omega⟩, rfl⟩

theorem toList_lenT (s : ByteArray) : s.data.toList.length = s.size := by rw [Array.length_toList]; rfl
theorem take_snocT (s : ByteArray) (k : Nat) (h : k < s.size) : s.data.toList.take (k + 1) = s.data.toList.take k ++ [s[k]] := by
  rw [List.take_succ_eq_append_getElem (by rw [toList_lenT]; exact h)]; rfl
theorem head_getT (s : ByteArray) (h : 0 < s.size) : s.data.toList.head? = some s[0] := by
  rw [List.head?_eq_getElem?, List.getElem?_eq_getElem (by rw [toList_lenT]; exact h)]; rfl
theorem bad_dig (s : ByteArray) (k : Nat) (h : k < s.size) (hd : isDig s[k] = false) : s.data.toList.all isDig = false := by
  rw [List.all_eq_false]
  refine ⟨s[k], ?_, by simp [hd]⟩
  have : s[k] = s.data.toList[k]'(by rw [toList_lenT]; exact h) := rfl
  rw [this]; exact List.getElem_mem _

end Go.Proofs.YtdhoimjkgicneaaDoor
