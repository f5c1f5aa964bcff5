/- Texts of this proof laid together: DrA, MemKP, DrB. -/
import Derived.Test.YtdhoimjkgicneaaDoorLot9
import Derived.Test.YtdhoimjkgicneaaDoorLot12
import Derived.Test.YtdhoimjkgicneaaDoorLot10
/- A memory while it is drawn, with the rest of its chapter. -/
namespace Go.Proofs.YtdhoimjkgicneaaDoor
open Go Go.RowKit

end Go.Proofs.YtdhoimjkgicneaaDoor

/- A memory in which a register is put. -/
namespace Go.Proofs.YtdhoimjkgicneaaDoor
open Go Go.RowKit

/-- A memory in which a register of whole numbers is put. -/
def putW (v : MemV) (k n z : Int) : MemV := if k = 9 then { v with d := fun i => if i = (atZ k n).toNat then z else v.d i } else v
/-- A memory in which a register of real numbers is put. -/
def putR (v : MemV) (k n : Int) (x : Nat) : MemV := if k = 10 then { v with r := fun i => if i = (atZ k n).toNat then x else v.r i } else v

theorem putW_ok {v : MemV} {k n z : Int} (hv : v.Ok) (h1 : -32768 ≤ z) (h2 : z ≤ 32767) : (putW v k n z).Ok := by
  unfold putW
  split
  · refine ⟨hv.x, hv.y, hv.m, hv.s, hv.e, hv.tC, hv.cC, fun i => ?_, fun i => ?_, hv.r, hv.time⟩
    · simp only
      split
      · exact h1
      · exact hv.d1 i
    · simp only
      split
      · exact h2
      · exact hv.d2 i
  · exact hv
theorem putR_ok {v : MemV} {k n : Int} {x : Nat} (hv : v.Ok) (h : x < 2 ^ 64) : (putR v k n x).Ok := by
  unfold putR
  split
  · refine ⟨hv.x, hv.y, hv.m, hv.s, hv.e, hv.tC, hv.cC, hv.d1, hv.d2, fun i => ?_, hv.time⟩
    simp only
    split
    · exact h
    · exact hv.r i
  · exact hv

theorem putD_cell (v : MemV) (j : Nat) (hj : j < 32) (z : Int) : ({ v with d := fun i => if i = j then z else v.d i } : MemV).cell (85 + j) = .int .i16 z := by
  rw [MemV.cell_d _ j hj]
  simp
theorem putD_other (v : MemV) (j : Nat) (z : Int) : ∀ i, i < 136 → i ≠ 85 + j → ({ v with d := fun i => if i = j then z else v.d i } : MemV).cell i = v.cell i := by
  intro i _ hi
  by_cases h1 : i < 85
  · unfold MemV.cell
    simp only [h1, if_true]
  by_cases h2 : i < 117
  · obtain ⟨m, rfl⟩ : ∃ m, i = 85 + m := ⟨i - 85, by omega⟩
    rw [MemV.cell_d _ m (by omega), MemV.cell_d _ m (by omega)]
    simp only [show m ≠ j by omega, if_false]
  · unfold MemV.cell
    simp only [h1, h2, if_false]
theorem putR_cell (v : MemV) (j : Nat) (hj : j < 16) (x : Nat) : ({ v with r := fun i => if i = j then x else v.r i } : MemV).cell (117 + j) = .float .f64 x := by
  rw [MemV.cell_r _ j hj]
  simp
theorem putR_other (v : MemV) (j : Nat) (x : Nat) : ∀ i, i < 136 → i ≠ 117 + j → ({ v with r := fun i => if i = j then x else v.r i } : MemV).cell i = v.cell i := by
  intro i _ hi
  by_cases h1 : i < 117
  · unfold MemV.cell
    simp only [h1, if_true]
  by_cases h2 : i < 133
  · obtain ⟨m, rfl⟩ : ∃ m, i = 117 + m := ⟨i - 117, by omega⟩
    rw [MemV.cell_r _ m (by omega), MemV.cell_r _ m (by omega)]
    simp only [show m ≠ j by omega, if_false]
  · unfold MemV.cell
    simp only [h1, h2, if_false]

end Go.Proofs.YtdhoimjkgicneaaDoor

/- A drawn memory, with the rest of its chapter. -/
namespace Go.Proofs.YtdhoimjkgicneaaDoor
open Go Go.RowKit

end Go.Proofs.YtdhoimjkgicneaaDoor
