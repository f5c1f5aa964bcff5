/- An operand in a box, and the text of an operand by its kind. -/
import Derived.Test.YtdhoimjkgicneaaDoorDevA
import Derived.Below
namespace Go.Proofs.YtdhoimjkgicneaaDoor
open Go Go.RowKit

theorem box3 {w w1 : World} {a b c : Value} {t : TypeId} (hb : Below (w.alloc (.cells #[a, b, c] t)).heap.size (w.alloc (.cells #[a, b, c] t)) w1) :
    w1.cell? ⟨w.heap.size, 0, none⟩ = some a ∧ w1.cell? ⟨w.heap.size, 1, none⟩ = some b ∧ w1.cell? ⟨w.heap.size, 2, none⟩ = some c ∧ w.heap.size < w1.heap.size ∧ Below w.heap.size w w1 := by
  refine ⟨?_, ?_, ?_, ?_, ?_⟩
  · rw [hb.cell (p := ⟨w.heap.size, 0, none⟩) (by simp)]; simp
  · rw [hb.cell (p := ⟨w.heap.size, 1, none⟩) (by simp)]; simp
  · rw [hb.cell (p := ⟨w.heap.size, 2, none⟩) (by simp)]; simp
  · have := hb.size; simp at this; omega
  · exact ((Below.refl _ w).alloc (Nat.le_refl _) _).trans (hb.mono (by simp))

theorem text_no {k n p : Int} (h : okB k n p = false) : textL k n p = [] := by unfold textL; rw [if_pos h]
theorem text_int {n p : Int} (h : okB 11 n p = true) : textL 11 n p = Lib.itoa n := by unfold textL; rw [if_neg (by rw [h]; decide), if_pos rfl]
theorem text_dec {n p : Int} (h : okB 12 n p = true) : textL 12 n p = decT n p.toNat := by unfold textL; rw [if_neg (by rw [h]; decide), if_neg (by decide), if_pos rfl]
theorem text_word {n p : Int} (h : okB 13 n p = true) : textL 13 n p = wordL n := by unfold textL; rw [if_neg (by rw [h]; decide), if_neg (by decide), if_neg (by decide), if_pos rfl]
theorem text_dev {k n p : Int} (h : okB k n p = true) (hk : k < 11 ∨ 13 < k) : textL k n p = letterL k ++ Lib.itoa n := by
  unfold textL; rw [if_neg (by rw [h]; decide), if_neg (by omega), if_neg (by omega), if_neg (by omega)]

end Go.Proofs.YtdhoimjkgicneaaDoor
