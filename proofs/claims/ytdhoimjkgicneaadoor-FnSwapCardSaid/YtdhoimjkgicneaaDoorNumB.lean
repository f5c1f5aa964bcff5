/- The draw of a test of two whole numbers. -/
import Derived.Test.YtdhoimjkgicneaaDoorNumA
namespace Go.Proofs.YtdhoimjkgicneaaDoor
open Go Go.RowKit

set_option maxHeartbeats 800000 in
theorem draw_cmp (v : Value) (w : World) (h : CodeAt v w) :
    Calls Tryd.prog 19 #[v] w fun e w' => ∃ o a b : Int, e = .returned (.tuple #[.int .i64 o, .int .i16 a, .int .i16 b]) ∧ -32768 ≤ a ∧ a ≤ 32767 ∧ -32768 ≤ b ∧ b ≤ 32767 ∧ Below w.heap.size w w' := by
  go_enter Tryd.func19, Tryd.ntmps19
  go_wp2_with fail
  refine (open_any v w h).mono ?_
  rintro e w1 ⟨rfl, rd1, hb1⟩
  have hs1 := hb1.size
  clear h
  go_wp2_with fail
  refine (op_any w.heap.size 0 w1 rd1 (by omega)).mono ?_
  rintro e w2 ⟨o, rfl, rd2, mv2⟩
  clear rd1
  go_wp2_with fail
  refine (whole_any w.heap.size (0 + 2) w2 rd2 (by omega)).mono ?_
  rintro e w3 ⟨a, rfl, a1, a2, rd3, mv3⟩
  clear rd2
  go_wp2_with fail
  refine (pick_any w.heap.size (0 + 2 + 2) 3 w3 rd3 (by omega) (by omega)).mono ?_
  rintro e w4 ⟨x, rfl, x0, -, -, rd4, mv4⟩
  have m4 := (mv2.trans mv3).trans mv4
  clear rd3 mv2 mv3 mv4
  cases hx : x == 0 with
  | true =>
    have B : Hid (Below w.heap.size w w4) := hb1.trans (m4.below hs1 (Nat.le_refl _))
    clear rd4 m4 hb1
    go_wp2
    go_ret3
    exact ⟨_, _, _, rfl, a1, a2, a1, a2, B.out⟩
  | false =>
    go_wp2_with fail
    refine (whole_any w.heap.size (0 + 2 + 2 + 1) w4 rd4 (by omega)).mono ?_
    rintro e w5 ⟨b, rfl, b1, b2, rd5, mv5⟩
    have B : Hid (Below w.heap.size w w5) := hb1.trans ((m4.trans mv5).below hs1 (Nat.le_refl _))
    clear rd4 rd5 mv5 m4 hb1
    go_wp2
    go_ret3
    exact ⟨_, _, _, rfl, a1, a2, b1, b2, B.out⟩

end Go.Proofs.YtdhoimjkgicneaaDoor
