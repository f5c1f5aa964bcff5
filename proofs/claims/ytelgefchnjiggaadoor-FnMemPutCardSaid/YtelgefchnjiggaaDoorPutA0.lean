/- Two operands, compared. -/
import Derived.Test.YtelgefchnjiggaaDoorRows
import Derived.WalkKit
namespace Go.Proofs.YtelgefchnjiggaaDoor
open Go Go.RowKit

set_option maxRecDepth 100000 in
theorem neq_arg (k n p k' n' p' : Int) (w : World) : (binOp .neq 24 (.agg #[.int .i64 k', .int .i64 n', .int .i64 p']) (.agg #[.int .i64 k, .int .i64 n, .int .i64 p])).run Tryd.prog w = .ok (.bool (!decide (k' = k ∧ n' = n ∧ p' = p))) w := by
  by_cases h1 : k' = k
  · by_cases h2 : n' = n
    · by_cases h3 : p' = p
      · simp [go_sem, h1, h2, h3]
      · simp [go_sem, h1, h2, h3]
    · simp [go_sem, h1, h2]
  · simp [go_sem, h1]

end Go.Proofs.YtelgefchnjiggaaDoor
