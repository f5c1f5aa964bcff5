/- A drawn whole number of sixteen bits. -/
import Derived.Test.YtdhoimjkgicneaaDoorDrawN
import Derived.Test.YtdhoimjkgicneaaDoorDrawO
namespace Go.Proofs.YtdhoimjkgicneaaDoor
open Go Go.RowKit

theorem wrap16 (z : Int) : IntKind.i16.wrap z = (z + 32768) % 65536 - 32768 := by
  simp [IntKind.wrap, IntKind.signed, IntKind.bits]
  omega

theorem i16_bd (z : Int) : -32768 ≤ IntKind.i16.wrap z ∧ IntKind.i16.wrap z ≤ 32767 := by
  rw [wrap16]
  omega

set_option maxHeartbeats 400000 in
theorem whole_any (R c : Nat) (w : World) (h : Rd R c w) (hc : c ≤ 900) :
    Calls Tryd.prog 71 #[.pointer (some ⟨R, 0, none⟩)] w fun e w' => ∃ z : Int, e = .returned (.int .i16 z) ∧ -32768 ≤ z ∧ z ≤ 32767 ∧ Rd R (c + 2) w' ∧ Moved R w w' := by
  go_enter Tryd.func71, Tryd.ntmps71
  go_wp2_with fail
  refine (pick_any R c 4 w h (by omega) (by omega)).mono ?_
  rintro e w1 ⟨x, rfl, x0, -, -, rd1, mv1⟩
  clear h
  cases hx : x == 0 with
  | true =>
    go_wp2_with fail
    refine (num_lit R (c + 1) _ _ _ (by simp) rd1 (by omega) (by simp) (by simp) (by simp) 10 rfl).mono ?_
    rintro e w2 ⟨z, rfl, rd2, mv2⟩
    have hb := i16_bd z
    clear rd1
    go_wp2
    go_ret
    exact ⟨_, rfl, hb.1, hb.2, rd2, mv1.trans mv2⟩
  | false =>
    go_wp2_with fail
    refine (pick_any R (c + 1) 65536 w1 rd1 (by omega) (by omega)).mono ?_
    rintro e w2 ⟨y, rfl, y0, y1, -, rd2, mv2⟩
    have hy : y < 65536 := y1 (by omega)
    clear rd1 y1
    go_wp2
    go_ret
    exact ⟨_, rfl, by omega, by omega, rd2, mv1.trans mv2⟩

end Go.Proofs.YtdhoimjkgicneaaDoor
