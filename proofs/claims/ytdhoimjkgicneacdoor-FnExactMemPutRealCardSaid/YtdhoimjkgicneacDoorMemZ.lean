/- A cell of a memory put; a memory of nothing as the program names it. -/
import Derived.Test.YtdhoimjkgicneacDoorRowA
namespace Go.Proofs.YtdhoimjkgicneacDoor
open Go Go.RowKit

theorem MemAt.put {b k : Nat} {v v' : MemV} {u : Value} {w : World} (h : MemAt b v w) (hk : k < 136) (hu : v'.cell k = u) (ho : ∀ i, i < 136 → i ≠ k → v'.cell i = v.cell i) :
    MemAt b v' (w.setCell ⟨b, k, none⟩ u) := by
  refine ⟨by simpa [World.setCell] using h.z, fun i hi => ?_, fun i hi => by rw [World.frozen?_setCell]; exact h.f i hi⟩
  by_cases e : i = k
  · subst e
    rw [World.cell?_setCell_same _ _ _ (h.c i hi), hu]
  · rw [World.cell?_setCell_other _ _ _ _ (by intro hh; cases hh; exact e rfl), h.c i hi, ho i hi e]

theorem zero_row : Tryd.zeroCells45 = mem0.row := by kernel_rfl

end Go.Proofs.YtdhoimjkgicneacDoor
