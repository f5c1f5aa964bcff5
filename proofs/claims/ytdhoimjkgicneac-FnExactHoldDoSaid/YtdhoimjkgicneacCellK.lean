/- A cell of an argument: a number, a truth value, a number of chapter 2. -/
import Derived.Test.YtdhoimjkgicneacRows
import Derived.WideShapes
import Derived.WalkKit
namespace Go.Proofs.Ytdhoimjkgicneac
open Go Go.RowKit

section
variable {P : Program} {W : World} {r : Reach} {base : Nat} {t : TypeId} {v : Value}
theorem cell_int {k : IntKind} (ht : P.underlying t = some (.int k)) (h : Cell.okWide P W r base t v) : ∃ n, v = .int k n ∧ k.has n := by
  unfold Cell.okWide at h
  rw [ht] at h
  simp only [Cell.ok, ht] at h
  split at h <;> simp_all
theorem cell_bool (ht : P.underlying t = some .bool) (h : Cell.okWide P W r base t v) : ∃ b, v = .bool b := by
  unfold Cell.okWide at h
  rw [ht] at h
  simp only [Cell.ok, ht] at h
  split at h <;> simp_all
theorem cell_float {k : FloatKind} (ht : P.underlying t = some (.float k)) (h : Cell.okWide P W r base t v) : ∃ n, v = .float k n ∧ k.has n := by
  unfold Cell.okWide at h
  rw [ht] at h
  simp only [Cell.ok, ht] at h
  split at h <;> simp_all
end

end Go.Proofs.Ytdhoimjkgicneac
