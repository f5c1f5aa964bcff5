/- MemReal, of the program and of the specification. -/
import Derived.Test.YtelgefchnjiggaaDoorMemI
import Derived.Test.YtelgefchnjiggaaDoorMemKP
import Derived.Test.YtelgefchnjiggaaDoorArgR
namespace Go.Proofs.YtelgefchnjiggaaDoor
open Go Go.RowKit

/-- The bits of the real number that an operand asks a memory for, as the program has them. -/
def realX (v : MemV) (k n p : Int) : Nat := if k = 10 then v.r (atZ k n).toNat else argX k n p

set_option maxHeartbeats 4000000 in
theorem impl_memreal (v : MemV) (k n p : Int) (w : World) (T : KTab w) :
    Calls Tryd.prog 47 #[.agg v.row, .agg #[.int .i64 k, .int .i64 n, .int .i64 p]] w fun e w' => e = .returned (.float .f64 (realX v k n p)) ∧ Below w.heap.size w w' := by
  obtain ⟨hA, hC, hB⟩ := two_boxes v w _ #[.int .i64 k, .int .i64 n, .int .i64 p] 61 24 (Below.refl _ _)
  by_cases h1 : k = 10
  · subst h1
    obtain ⟨j, hj, hz, hc⟩ := place_nat 10 n p
    have e : realX v 10 n p = v.r j := by unfold realX; rw [if_pos rfl, hj]; rfl
    have h16 := atZ_lt (k := 10) (n := n) (s := 16) rfl (by omega)
    rw [hj] at h16
    rw [e]
    clear e hj hA hC hB
    have hlt : j < 16 := by omega
    go_enter Tryd.func47, Tryd.ntmps47
    go_wp2_with fail
    refine (hc _ ((T.alloc _).alloc _)).mono ?_
    rintro e w1 ⟨rfl, hB⟩
    obtain ⟨hA, hC, hB⟩ := two_boxes v w w1 _ _ _ hB
    have c0 := hA.c (117 + j) (by omega)
    rw [MemV.cell_r v j hlt] at c0
    go_wp2_with fail
    go_ret
    exact ⟨rfl, hB⟩
  · have e : realX v k n p = argX k n p := by unfold realX; rw [if_neg h1]
    rw [e]
    have h1 : (k == 10) = false := by simpa using h1
    clear hA hC hB e
    go_enter Tryd.func47, Tryd.ntmps47
    go_wp2_with fail
    refine (impl_arg k n p _ ((T.alloc _).alloc _)).mono ?_
    rintro e w1 ⟨rfl, hB⟩
    obtain ⟨hA, hC, hB⟩ := two_boxes v w w1 _ _ _ hB
    clear hA hC
    go_wp2_with fail
    go_ret
    exact ⟨rfl, hB⟩

end Go.Proofs.YtelgefchnjiggaaDoor
