/- The law on many falls, for a code of any length. -/
import Derived.Test.YtdhoimjkgicneabFalA
namespace Go.Proofs.Ytdhoimjkgicneab
open Go Go.RowKit

set_option maxHeartbeats 400000 in
theorem falls_long (a0 : Option Addr) (l0 c0 : Nat) (w : World) (h : 1048576 < l0) (m0 : l0 ≤ 9223372036854775807) :
    Calls Try.prog 4 #[.slice a0 l0 c0] w fun e w' => e = .returned (.bool true) ∧ Below w.heap.size w w' := by
  go_enter Try.func4, Try.ntmps4
  go_wp2
  go_ret
  exact ⟨rfl, Below.refl _ _⟩

theorem law (a0 : Option Addr) (l0 c0 : Nat) (w : World) (C0 : CodeAt (.slice a0 l0 c0) w) (m0 : l0 ≤ 9223372036854775807) :
    Calls Try.prog 4 #[.slice a0 l0 c0] w fun e w' => e = .returned (.bool true) ∧ Below w.heap.size w w' := by
  by_cases h : 1048576 < l0
  · exact falls_long a0 l0 c0 w h m0
  · exact falls_short a0 l0 c0 w (by omega) C0

end Go.Proofs.Ytdhoimjkgicneab
