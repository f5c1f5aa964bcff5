/- Drawn real numbers: that each draw ends, answers some bits, and turns nothing but the reader. -/
import Derived.Test.YtighhijbhmakeaaDoorNumA
import Derived.Test.YtighhijbhmakeaaDoorFltW
namespace Go.Proofs.YtighhijbhmakeaaDoor
open Go Go.RowKit

theorem nan_any (w : World) : Calls Tryd.prog 59 #[] w fun e w' => ∃ x : Nat, e = .returned (.float .f64 x) ∧ x = fGot .quo 0 0 w ∧ w' = w.drewN 1 := by
  have q := quo_any Tryd.prog 0 0
  have e1 : fDrawn .quo 0 0 = 1 := by decide +kernel
  rw [e1] at q
  go_enter Tryd.func59, Tryd.ntmps59
  go_wp2
  go_ret
  exact ⟨_, rfl, rfl, rfl⟩

theorem inf_any (w : World) : Calls Tryd.prog 60 #[] w fun e w' => e = .returned (.float .f64 9218868437227405312) ∧ w' = w := by
  have q : ∀ t w, (binOp .quo t (.float .f64 4607182418800017408) (.float .f64 0)).run Tryd.prog w = .ok (.float .f64 9218868437227405312) w := fun t w => run_float_arith w .quo t .f64 _ _ _ (by decide +kernel)
  go_enter Tryd.func60, Tryd.ntmps60
  go_wp2
  go_ret
  exact ⟨rfl, rfl⟩

end Go.Proofs.YtighhijbhmakeaaDoor
