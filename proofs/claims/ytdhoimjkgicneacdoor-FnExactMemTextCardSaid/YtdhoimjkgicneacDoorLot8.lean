/- Texts of this proof laid together: DevA, Ret. -/
import Derived.Test.YtdhoimjkgicneacDoorLot1
import Derived.Test.YtdhoimjkgicneacDoorRows
import Derived.WalkKit
import Derived.WalkSpells
import Derived.WalkLawsBesides
import Derived.Deep.QuietTactic
import Derived.BigQuiet
/- What the small functions on operands of the specification do. -/
namespace Go.Proofs.YtdhoimjkgicneacDoor
open Go Go.RowKit

set_option maxHeartbeats 1000000 in
theorem spec_size (k : Int) (w : World) :
    Calls Tryd.prog 38 #[.int .i64 k] w fun e w' => e = .returned (.int .i64 (sizeZ k)) ∧ w' = w := by
  rcases kcases k with rfl | rfl | rfl | rfl | rfl | rfl | rfl | rfl | rfl | rfl | rfl | rfl | rfl | h | h
  all_goals
    go_enter Tryd.func38, Tryd.ntmps38
    go_wp2
    go_ret
    first | exact ⟨rfl, rfl⟩ | (rw [sizeZ_out (by omega)]; exact ⟨rfl, rfl⟩)

end Go.Proofs.YtdhoimjkgicneacDoor

/- How a return is met. -/
namespace Go.Proofs.YtdhoimjkgicneacDoor
open Go Go.RowKit

theorem ret_bool {a b : Bool} (h : a = b) : Ending.returned (.bool a) = .returned (.bool b) := by rw [h]
theorem ret_int {k : IntKind} {a b : Int} (h : a = b) : Ending.returned (.int k a) = .returned (.int k b) := by rw [h]
theorem ret_str {a b : ByteArray} (h : a = b) : Ending.returned (.string a) = .returned (.string b) := by rw [h]

end Go.Proofs.YtdhoimjkgicneacDoor
