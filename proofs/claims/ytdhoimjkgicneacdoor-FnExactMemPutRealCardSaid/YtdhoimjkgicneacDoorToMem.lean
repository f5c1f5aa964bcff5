/- The laws' copy of a memory, as their argument comes in: its load. -/
import Derived.Test.YtdhoimjkgicneacDoorMemU
namespace Go.Proofs.YtdhoimjkgicneacDoor
open Go Go.RowKit

theorem aMemL : ∀ w, (isAgg 36).run Tryd.prog w = .ok true w := fun _ => by kernel_rfl
theorem sMemL : ∀ w, (sizeOf 36).run Tryd.prog w = .ok 136 w := fun _ => by kernel_rfl
theorem load_memL {b : Nat} {v : MemV} {w : World} (h : MemAt b v w) : (Instr.loadAt 36 (.pointer (some ⟨b, 0, none⟩))).run Tryd.prog w = .ok (.agg v.row) w := load_row aMemL sMemL h.rowAt

end Go.Proofs.YtdhoimjkgicneacDoor
