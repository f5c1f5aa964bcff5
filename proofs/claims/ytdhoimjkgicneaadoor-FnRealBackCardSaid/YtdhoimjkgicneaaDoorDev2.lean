/- How long the text of an operand is; that it is empty just where the operand is not ok. Plain. -/
import Derived.Test.YtdhoimjkgicneaaDoorDev0
namespace Go.Proofs.YtdhoimjkgicneaaDoor
open Go

theorem ok_int {n p : Int} (h : okB 11 n p = true) : -32768 ≤ n ∧ n ≤ 32767 ∧ p = 0 := by simpa [okB] using h
theorem ok_dec {n p : Int} (h : okB 12 n p = true) : -999999999 ≤ n ∧ n ≤ 999999999 ∧ 1 ≤ p ∧ p ≤ 6 ∧ (p = 1 ∨ n.tmod 10 ≠ 0) := by
  unfold okB at h; rw [if_neg (by decide), if_pos rfl] at h; exact of_decide_eq_true h
theorem ok_word {n p : Int} (h : okB 13 n p = true) : 0 ≤ n ∧ n ≤ 3 ∧ p = 0 := by simpa [okB] using h
theorem ok_dev {k n p : Int} (h : okB k n p = true) (hk : k < 11 ∨ 13 < k) : 0 ≤ n ∧ n < sizeZ k ∧ p = 0 := by
  unfold okB at h; rw [if_neg (by omega), if_neg (by omega), if_neg (by omega)] at h; exact of_decide_eq_true h
theorem ok_kind {k n p : Int} (h : okB k n p = true) (hk : k < 11 ∨ 13 < k) : 1 ≤ k ∧ k ≤ 10 := by
  have h1 := ok_dev h hk
  by_cases h2 : 1 ≤ k ∧ k ≤ 10
  · exact h2
  · have := sizeZ_out (k := k) (by omega)
    omega

theorem wordL_len (n : Int) : (wordL n).length ≤ 4 := by
  unfold wordL
  repeat' split
  all_goals decide

theorem decT_len {n : Int} {p : Nat} (h1 : -999999999 ≤ n) (h2 : n ≤ 999999999) (hp : p ≤ 6) : (decT n p).length ≤ 31 := by
  unfold decT
  split
  · have := decM_len (m := n.natAbs) (p := p) (by omega) hp
    simp; omega
  · have := decM_len (m := n.toNat) (p := p) (by omega) hp
    omega

theorem textL_len (k n p : Int) : (textL k n p).length ≤ 40 := by
  cases hk : okB k n p with
  | false => unfold textL; rw [if_pos hk]; simp
  | true =>
    unfold textL
    rw [if_neg (by rw [hk]; decide)]
    split
    · rename_i h; subst h
      have := ok_int hk
      have := itoa_len (n := n) (by omega) (by omega)
      omega
    · split
      · rename_i h; subst h
        have := ok_dec hk
        have := decT_len (n := n) (p := p.toNat) (by omega) (by omega) (by omega)
        omega
      · split
        · have := wordL_len n; omega
        · have h1 := ok_dev hk (by omega)
          have h2 := sizeZ_bd k
          have h3 := itoa_len (n := n) (by omega) (by omega)
          have h4 := letterL_len k
          simp; omega

theorem textL_ne {k n p : Int} (hk : okB k n p = true) : textL k n p ≠ [] := by
  unfold textL
  rw [if_neg (by rw [hk]; decide)]
  have hpos : ∀ n : Int, Lib.itoa n ≠ [] := by
    intro n; unfold Lib.itoa
    split
    · simp
    · intro h; have := dd_pos n.toNat; rw [h] at this; simp at this
  split
  · exact hpos n
  · split
    · unfold decT decM pointL
      split <;> simp
    · split
      · have := ok_word (n := n) (p := p) (by rename_i h; rw [← h]; exact hk)
        have h4 : n = 0 ∨ n = 1 ∨ n = 2 ∨ n = 3 := by omega
        rcases h4 with rfl | rfl | rfl | rfl <;> decide
      · intro h; exact hpos n (List.append_eq_nil_iff.1 h).2

end Go.Proofs.YtdhoimjkgicneaaDoor
