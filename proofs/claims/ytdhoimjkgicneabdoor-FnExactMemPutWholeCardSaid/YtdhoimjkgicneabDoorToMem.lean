/- The laws' copy of a memory, as their argument comes in: its load. -/
import Derived.Test.YtdhoimjkgicneabDoorMemU
namespace Go.Proofs.YtdhoimjkgicneabDoor
open Go Go.RowKit

theorem aMemL : ∀ w, (isAgg 55).run Tryd.prog w = .ok true w := fun _ => by kernel_rfl
theorem sMemL : ∀ w, (sizeOf 55).run Tryd.prog w = .ok 136 w := fun _ => by kernel_rfl
theorem load_memL {b : Nat} {v : MemV} {w : World} (h : MemAt b v w) : (Instr.loadAt 55 (.pointer (some ⟨b, 0, none⟩))).run Tryd.prog w = .ok (.agg v.row) w := load_row aMemL sMemL h.rowAt

end Go.Proofs.YtdhoimjkgicneabDoor
