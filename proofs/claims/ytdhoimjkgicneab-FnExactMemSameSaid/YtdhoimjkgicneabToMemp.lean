/- The laws' copy of a memory, as their argument comes in: its load. -/
import Derived.Test.YtdhoimjkgicneabMemUp
namespace Go.Proofs.Ytdhoimjkgicneab
open Go Go.RowKit

theorem aMemL : ∀ w, (isAgg 71).run Try.prog w = .ok true w := fun _ => by kernel_rfl
theorem sMemL : ∀ w, (sizeOf 71).run Try.prog w = .ok 136 w := fun _ => by kernel_rfl
theorem load_memL {b : Nat} {v : MemV} {w : World} (h : MemAt b v w) : (Instr.loadAt 71 (.pointer (some ⟨b, 0, none⟩))).run Try.prog w = .ok (.agg v.row) w := load_row aMemL sMemL h.rowAt

end Go.Proofs.Ytdhoimjkgicneab
