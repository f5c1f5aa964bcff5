/- Drawn tests and whole numbers: that each draw ends, answers, and turns nothing but the reader. -/
import Derived.Test.YtdhoimjkgicneaaDoorNumA0
import Derived.Test.YtdhoimjkgicneaaDoorDrawN
import Derived.Test.YtdhoimjkgicneaaDoorDrawO
namespace Go.Proofs.YtdhoimjkgicneaaDoor
open Go Go.RowKit

set_option maxHeartbeats 400000 in
theorem op_any (R c : Nat) (w : World) (h : Rd R c w) (hc : c ≤ 900) :
    Calls Tryd.prog 70 #[.pointer (some ⟨R, 0, none⟩)] w fun e w' => ∃ z : Int, e = .returned (.int .i64 z) ∧ Rd R (c + 2) w' ∧ Moved R w w' := by
  go_enter Tryd.func70, Tryd.ntmps70
  go_wp2_with fail
  refine (pick_any R c 16 w h (by omega) (by omega)).mono ?_
  rintro e w1 ⟨x, rfl, x0, -, -, rd1, mv1⟩
  clear h
  cases hx : x == 0 with
  | true =>
    go_wp2_with fail
    refine (num_lit R (c + 1) _ _ _ (by simp) rd1 (by omega) (by simp) (by simp) (by simp) 5 rfl).mono ?_
    rintro e w2 ⟨z, rfl, rd2, mv2⟩
    clear rd1
    go_wp2
    go_ret
    exact ⟨z, rfl, rd2, mv1.trans mv2⟩
  | false =>
    go_wp2_with fail
    refine (pick_any R (c + 1) 6 w1 rd1 (by omega) (by omega)).mono ?_
    rintro e w2 ⟨y, rfl, y0, y1, -, rd2, mv2⟩
    have hy : y < 6 := y1 (by omega)
    clear rd1 y1
    go_wp2
    go_ret
    exact ⟨_, rfl, rd2, mv1.trans mv2⟩

end Go.Proofs.YtdhoimjkgicneaaDoor
