/- The program's word with a bit put. -/
import Derived.Test.YtdhoimjkgicneabDoorMemI
namespace Go.Proofs.YtdhoimjkgicneabDoor
open Go Go.RowKit

set_option maxHeartbeats 4000000 in
theorem impl_put (x j : Nat) (b : Bool) (w : World) (hx : x < 18446744073709551616) (hj : j ≤ 63) :
    Calls Tryd.prog 72 #[.agg #[.int .i64 j, .bool b], .int .u64 x] w fun e w' => e = .returned (.int .u64 (turnN x j b)) ∧ Below w.heap.size w w' := by
  have hB : ∀ t, Below w.heap.size w (w.alloc (.cells #[.int .i64 j, .bool b] t)) := fun t => (Below.refl _ _).alloc (Nat.le_refl _) _
  cases b with
  | true =>
    have h2 := bits_or x j hx hj
    go_enter Tryd.func72, Tryd.ntmps72
    go_wp2
    go_ret
    refine ⟨ret_int ?_, hB _⟩
    rw [wrap_pow j hj, ← h2]
  | false =>
    have h2 := bits_andNot x j hx hj
    go_enter Tryd.func72, Tryd.ntmps72
    go_wp2
    go_ret
    refine ⟨ret_int ?_, hB _⟩
    rw [wrap_pow j hj, ← h2]

end Go.Proofs.YtdhoimjkgicneabDoor
