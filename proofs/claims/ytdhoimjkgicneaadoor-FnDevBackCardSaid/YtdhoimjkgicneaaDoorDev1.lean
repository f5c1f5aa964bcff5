/- Which kinds are bits, whole numbers and real numbers, apart from any program. -/
import Derived.Test.YtdhoimjkgicneaaDoorDev0
namespace Go.Proofs.YtdhoimjkgicneaaDoor
open Go
def bitB (k : Int) : Bool := decide (k = 1 ∨ k = 2 ∨ k = 3 ∨ k = 4 ∨ k = 6 ∨ k = 7 ∨ k = 8)
def wholeB (k : Int) : Bool := decide (k = 7 ∨ k = 8 ∨ k = 9 ∨ k = 11)
def realB (k : Int) : Bool := decide (k = 10 ∨ k = 12 ∨ k = 13)
theorem bitB_out {k : Int} (h : k < 1 ∨ 13 < k) : bitB k = false := by unfold bitB; simp; omega
theorem wholeB_out {k : Int} (h : k < 1 ∨ 13 < k) : wholeB k = false := by unfold wholeB; simp; omega
theorem realB_out {k : Int} (h : k < 1 ∨ 13 < k) : realB k = false := by unfold realB; simp; omega
end Go.Proofs.YtdhoimjkgicneaaDoor
