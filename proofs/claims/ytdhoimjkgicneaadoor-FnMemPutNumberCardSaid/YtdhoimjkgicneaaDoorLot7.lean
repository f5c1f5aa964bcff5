/- Texts of this proof laid together: RealZ, RealA. -/
import Derived.Test.YtdhoimjkgicneaaDoorRows
import Derived.WalkKit
import Derived.WalkSpells
import Derived.WalkLawsBesides
import Derived.Test.YtdhoimjkgicneaaDoorLot6
/- Nan and infinity, the specification's. -/
namespace Go.Proofs.YtdhoimjkgicneaaDoor
open Go Go.RowKit

theorem nan_any (w : World) : Calls Tryd.prog 80 #[] w fun e w' => ∃ x : Nat, e = .returned (.float .f64 x) ∧ x = fGot .quo 0 0 w ∧ w' = w.drewN 1 := by
  have q := quo_any Tryd.prog 0 0
  have e1 : fDrawn .quo 0 0 = 1 := by decide +kernel
  rw [e1] at q
  go_enter Tryd.func80, Tryd.ntmps80
  go_wp2
  go_ret
  exact ⟨_, rfl, rfl, rfl⟩

theorem inf_any (w : World) : Calls Tryd.prog 81 #[] w fun e w' => e = .returned (.float .f64 9218868437227405312) ∧ w' = w := by
  have q : ∀ t w, (binOp .quo t (.float .f64 4607182418800017408) (.float .f64 0)).run Tryd.prog w = .ok (.float .f64 9218868437227405312) w := fun t w => run_float_arith w .quo t .f64 _ _ _ (by decide +kernel)
  go_enter Tryd.func81, Tryd.ntmps81
  go_wp2
  go_ret
  exact ⟨rfl, rfl⟩

end Go.Proofs.YtdhoimjkgicneaaDoor

/- What drawn real numbers want. -/
namespace Go.Proofs.YtdhoimjkgicneaaDoor
open Go Go.RowKit

end Go.Proofs.YtdhoimjkgicneaaDoor
