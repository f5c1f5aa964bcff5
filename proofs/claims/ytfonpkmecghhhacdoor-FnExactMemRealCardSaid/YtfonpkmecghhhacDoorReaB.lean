/- The specification's MemReal. -/
import Derived.Test.YtfonpkmecghhhacDoorReaA
namespace Go.Proofs.YtfonpkmecghhhacDoor
open Go Go.RowKit

theorem same_any (x : Nat) : SameF x x := by
  rcases order_self x with h | ⟨s, t, h⟩
  · exact Or.inr ⟨rfl, h⟩
  · exact Or.inl ⟨order_nan_left h, order_nan_left h⟩

set_option maxHeartbeats 4000000 in
theorem spec_memreal (v : MemV) (k n p : Int) (w : World) :
    Calls Tryd.prog 6 #[.agg v.row, .agg #[.int .i64 k, .int .i64 n, .int .i64 p]] w fun e w' => ∃ y, e = .returned (.float .f64 y) ∧ SameF (realX v k n p) y ∧ Below w.heap.size w w' := by
  by_cases h1 : k = 10
  · subst h1
    obtain ⟨j, hj, hz, hc⟩ := at_nat 10 n p
    have e : realX v 10 n p = v.r j := by unfold realX; rw [if_pos rfl, hj]; rfl
    have h16 := atZ_lt (k := 10) (n := n) (s := 16) rfl (by omega)
    rw [hj] at h16
    rw [e]
    clear e hj
    have hlt : j < 16 := by omega
    go_enter Tryd.func6, Tryd.ntmps6
    go_wp2_with fail
    refine (hc _).mono ?_
    rintro e w1 ⟨rfl, hB⟩
    obtain ⟨hA, hC, hB⟩ := two_boxes v w w1 _ _ _ hB
    have c0 := hA.c (117 + j) (by omega)
    rw [MemV.cell_r v j hlt] at c0
    go_wp2_with fail
    go_ret
    exact ⟨_, rfl, same_any _, hB⟩
  · have e : realX v k n p = argX k n p := by unfold realX; rw [if_neg h1]
    rw [e]
    have h1 : (k == 10) = false := by simpa using h1
    clear e
    go_enter Tryd.func6, Tryd.ntmps6
    go_wp2_with fail
    refine (spec_arg k n p _).mono ?_
    rintro e w1 ⟨y, rfl, hs, hB⟩
    obtain ⟨hA, hC, hB⟩ := two_boxes v w w1 _ _ _ hB
    have HS : Hid (SameF (argX k n p) y) := hs
    clear hA hC hs
    go_wp2_with fail
    go_ret
    exact ⟨_, rfl, HS.out, hB⟩

end Go.Proofs.YtfonpkmecghhhacDoor
