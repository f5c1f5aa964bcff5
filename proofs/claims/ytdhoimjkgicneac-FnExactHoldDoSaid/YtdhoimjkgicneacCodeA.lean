/- A code: a slice of bytes as it comes in. -/
import Derived.Test.YtdhoimjkgicneacRet
namespace Go.Proofs.Ytdhoimjkgicneac
open Go Go.RowKit

/-- A value that is a slice of bytes, as it lies before the call. -/
def CodeAt (v : Value) (w : World) : Prop :=
  (∃ b off len cap : Nat, v = .slice (some ⟨b, off, none⟩) len cap ∧ b < w.heap.size ∧ 1 ≤ len ∧ len ≤ cap ∧ cap ≤ 9223372036854775807 ∧ ∀ i, i < len → ∃ x : Nat, x ≤ 255 ∧ w.cell? ⟨b, off + i, none⟩ = some (.int .u8 x)) ∨ (∃ (a : Option Addr) (cap : Nat), v = .slice a 0 cap)

theorem CodeAt.below {v : Value} {w w' : World} (h : CodeAt v w) (hb : Below w.heap.size w w') : CodeAt v w' := by
  rcases h with ⟨b, off, len, cap, rfl, hz, h1, h2, h3, he⟩ | ⟨a, cap, rfl⟩
  · refine Or.inl ⟨b, off, len, cap, rfl, Nat.lt_of_lt_of_le hz hb.size, h1, h2, h3, fun i hi => ?_⟩
    obtain ⟨x, hx, ex⟩ := he i hi
    exact ⟨x, hx, (hb.cell (p := ⟨b, off + i, none⟩) hz).trans ex⟩
  · exact Or.inr ⟨a, cap, rfl⟩

end Go.Proofs.Ytdhoimjkgicneac
