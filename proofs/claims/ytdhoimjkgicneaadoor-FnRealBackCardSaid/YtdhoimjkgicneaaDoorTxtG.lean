/- Reading the text of a real number by the library: where it is cut, and which numbers its two sides are. Of no one program. -/
import Derived.Test.YtdhoimjkgicneaaDoorTxtA
import Derived.Lib.IndexMore
import Derived.Lib.AtoiTie
import Derived.Lib.ParseIntBTie
namespace Go.Proofs.YtdhoimjkgicneaaDoor
open Go

theorem digitVal_of {c : UInt8} (h : isDig c = true) : Lib.digitVal c = some (c.toNat - 48) := by
  unfold isDig at h
  unfold Lib.digitVal
  rw [if_pos (by simpa using h)]

theorem decFrom_dig : ∀ (l : List UInt8) (a : Nat), l.all isDig = true → Lib.decFrom a l = some (dval l a)
  | [], a, _ => rfl
  | c :: cs, a, h => by
    simp only [List.all_cons, Bool.and_eq_true] at h
    unfold Lib.decFrom
    rw [digitVal_of h.1]
    exact decFrom_dig cs _ h.2

theorem decNat_dd (n : Nat) : Lib.decNat (Lib.decDigits n) = some n := by
  unfold Lib.decNat
  obtain ⟨c, cs, e, -⟩ := dd_head n
  rw [if_neg (by rw [e]; simp), decFrom_dig _ _ (dd_all n), dval_dd]

theorem atoi_sgn (s : Bool) (n : Nat) : Lib.atoi (sgnL s ++ Lib.decDigits n) = some (if s then -(n : Int) else n) := by
  cases s
  · obtain ⟨c, cs, e, hd⟩ := dd_head n
    have h := decNat_dd n
    simp only [sgnL, Bool.false_eq_true, if_false, List.nil_append]
    rw [e] at h ⊢
    have h45 : (c == 45) = false := by
      rw [beq_eq_false_iff_ne]; rintro rfl; exact absurd hd (by decide)
    have h43 : (c == 43) = false := by
      rw [beq_eq_false_iff_ne]; rintro rfl; exact absurd hd (by decide)
    simp [Lib.atoi, h45, h43, h]
  · simp [sgnL, Lib.atoi, decNat_dd]

theorem itoa_sgn (e : Int) : Lib.itoa e = sgnL (decide (e < 0)) ++ Lib.decDigits e.natAbs := by
  unfold Lib.itoa
  by_cases h : e < 0
  · simp [h, sgnL]
  · rw [if_neg h]
    simp only [h, decide_false, sgnL, Bool.false_eq_true, if_false, List.nil_append]
    congr 1
    omega

theorem atoiAll_itoa {e : Int} (h : (Lib.itoa e).length ≤ 18) : Lib.atoiAll (Lib.itoa e) = .ok e := by
  rw [Lib.atoiAll_short _ h, itoa_sgn, atoi_sgn]
  simp only [Lib.NumEnd.ofOption]
  congr 1
  by_cases h : e < 0 <;> simp [h] <;> omega

theorem parse_sgn {s : Bool} {n : Nat} (h : (sgnL s ++ Lib.decDigits n).length ≤ 18) : Lib.parseIntB 64 (sgnL s ++ Lib.decDigits n) = .ok (if s then -(n : Int) else n) := by
  rw [Lib.parseIntB_64, Lib.atoiAll_short _ h, atoi_sgn]
  rfl

theorem no_star {l : List UInt8} (h : l.all isDig = true) (j : Nat) : l[j]? ≠ some 42 := by
  intro hj
  have := List.mem_of_getElem? hj
  have := List.all_eq_true.1 h _ this
  exact absurd this (by decide)

theorem sgn_no_star (s : Bool) (n j : Nat) : (sgnL s ++ Lib.decDigits n)[j]? ≠ some 42 := by
  cases s
  · exact no_star (dd_all n) j
  · cases j with
    | zero => simp [sgnL]
    | succ j => simpa [sgnL] using no_star (dd_all n) j

/-- Where a text is cut at its star. -/
theorem cut_at {a r : List UInt8} (ha : ∀ j : Nat, a[j]? ≠ some 42) : Lib.cut (a ++ ([42, 50, 94] ++ r)) [42, 50, 94] = (a, r, true) := by
  have hi : Lib.index (a ++ ([42, 50, 94] ++ r)) [42, 50, 94] = (a.length : Int) := by
    have occ : Lib.occAt (a ++ ([42, 50, 94] ++ r)) [42, 50, 94] a.length = true := by
      unfold Lib.occAt
      rw [List.drop_left]
      simp
    rcases Lib.index_spec (a ++ ([42, 50, 94] ++ r)) [42, 50, 94] with ⟨-, h2⟩ | ⟨i, h1, -, h3, h4⟩
    · have := h2 a.length (by simp)
      rw [occ] at this
      cases this
    · rw [h1]
      congr 1
      have hs := Lib.occAt_head rfl h3
      rcases Nat.lt_trichotomy i a.length with h | h | h
      · rw [List.getElem?_append_left h] at hs
        exact absurd hs (ha i)
      · exact h
      · have := h4 a.length h
        rw [occ] at this
        cases this
  unfold Lib.cut
  rw [hi, if_pos (by omega)]
  simp

theorem cut_fin (s : Bool) (n c : Nat) : Lib.cut (finL s n c) [42, 50, 94] = (sgnL s ++ Lib.decDigits n, Lib.itoa ((c : Int) - 1074), true) := by
  have e : finL s n c = (sgnL s ++ Lib.decDigits n) ++ ([42, 50, 94] ++ Lib.itoa ((c : Int) - 1074)) := by simp [finL]
  rw [e, cut_at (sgn_no_star s n)]

end Go.Proofs.YtdhoimjkgicneaaDoor
