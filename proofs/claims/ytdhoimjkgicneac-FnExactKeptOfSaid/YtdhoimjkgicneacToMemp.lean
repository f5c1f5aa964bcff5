/- The laws' copy of a memory, as their argument comes in: its load. -/
import Derived.Test.YtdhoimjkgicneacMemUp
namespace Go.Proofs.Ytdhoimjkgicneac
open Go Go.RowKit

theorem aMemL : ∀ w, (isAgg 72).run Try.prog w = .ok true w := fun _ => by kernel_rfl
theorem sMemL : ∀ w, (sizeOf 72).run Try.prog w = .ok 136 w := fun _ => by kernel_rfl
theorem load_memL {b : Nat} {v : MemV} {w : World} (h : MemAt b v w) : (Instr.loadAt 72 (.pointer (some ⟨b, 0, none⟩))).run Try.prog w = .ok (.agg v.row) w := load_row aMemL sMemL h.rowAt

end Go.Proofs.Ytdhoimjkgicneac
