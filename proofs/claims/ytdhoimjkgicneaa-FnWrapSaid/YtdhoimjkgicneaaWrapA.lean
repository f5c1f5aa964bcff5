/- The draw of two whole numbers to be reckoned with, and the program's own reckoning. -/
import Derived.Test.YtdhoimjkgicneaaNumA
namespace Go.Proofs.Ytdhoimjkgicneaa
open Go Go.RowKit

set_option maxHeartbeats 800000 in
theorem draw_calc (v : Value) (w : World) (h : CodeAt v w) :
    Calls Try.prog 5 #[v] w fun e w' => ∃ o a b : Int, e = .returned (.tuple #[.int .i64 o, .int .i16 a, .int .i16 b]) ∧ -32768 ≤ a ∧ a ≤ 32767 ∧ -32768 ≤ b ∧ b ≤ 32767 ∧ Below w.heap.size w w' := by
  go_enter Try.func5, Try.ntmps5
  go_wp2_with fail
  refine (open_any v w h).mono ?_
  rintro e w1 ⟨rfl, rd1, hb1⟩
  have hs1 := hb1.size
  clear h
  go_wp2_with fail
  refine (op_any w.heap.size 0 w1 rd1 (by omega)).mono ?_
  rintro e w2 ⟨o, rfl, rd2, mv2⟩
  clear rd1
  go_wp2_with fail
  refine (whole_any w.heap.size (0 + 2) w2 rd2 (by omega)).mono ?_
  rintro e w3 ⟨a, rfl, a1, a2, rd3, mv3⟩
  clear rd2
  go_wp2_with fail
  refine (pick_any w.heap.size (0 + 2 + 2) 3 w3 rd3 (by omega) (by omega)).mono ?_
  rintro e w4 ⟨x, rfl, x0, -, -, rd4, mv4⟩
  have m4 := (mv2.trans mv3).trans mv4
  clear rd3 mv2 mv3 mv4
  cases hx : x == 0 with
  | true =>
    go_wp2_with fail
    refine (pick_any w.heap.size (0 + 2 + 2 + 1) 9 w4 rd4 (by omega) (by omega)).mono ?_
    rintro e w5 ⟨y, rfl, y0, y1, -, rd5, mv5⟩
    have hy : y < 9 := y1 (by omega)
    have B : Hid (Below w.heap.size w w5) := hb1.trans ((m4.trans mv5).below hs1 (Nat.le_refl _))
    clear rd4 rd5 mv5 m4 hb1 y1
    go_wp2
    go_ret3
    exact ⟨_, _, _, rfl, a1, a2, by omega, by omega, B.out⟩
  | false =>
    go_wp2_with fail
    refine (whole_any w.heap.size (0 + 2 + 2 + 1) w4 rd4 (by omega)).mono ?_
    rintro e w5 ⟨b, rfl, b1, b2, rd5, mv5⟩
    have B : Hid (Below w.heap.size w w5) := hb1.trans ((m4.trans mv5).below hs1 (Nat.le_refl _))
    clear rd4 rd5 mv5 m4 hb1
    go_wp2
    go_ret3
    exact ⟨_, _, _, rfl, a1, a2, b1, b2, B.out⟩

theorem mul_bd {a b : Int} (a1 : -32768 ≤ a) (a2 : a ≤ 32767) (b1 : -32768 ≤ b) (b2 : b ≤ 32767) : -1073741824 ≤ a * b ∧ a * b ≤ 1073741824 := by
  have h : (a * b).natAbs ≤ 32768 * 32768 := by rw [Int.natAbs_mul]; exact Nat.mul_le_mul (by omega) (by omega)
  omega

set_option maxHeartbeats 400000 in
theorem calc_add (a b : Int) (a1 : -32768 ≤ a) (a2 : a ≤ 32767) (b1 : -32768 ≤ b) (b2 : b ≤ 32767) (w : World) : Calls Try.prog 6 #[.int .i64 1, .int .i16 a, .int .i16 b] w fun e w' => e = .returned (.tuple #[.int .i16 (IntKind.i16.wrap (a + b)), .bool true]) ∧ w' = w := by
  go_enter Try.func6, Try.ntmps6
  go_wp2
  go_ret2
  exact ⟨rfl, rfl⟩

set_option maxHeartbeats 400000 in
theorem calc_sub (a b : Int) (a1 : -32768 ≤ a) (a2 : a ≤ 32767) (b1 : -32768 ≤ b) (b2 : b ≤ 32767) (w : World) : Calls Try.prog 6 #[.int .i64 2, .int .i16 a, .int .i16 b] w fun e w' => e = .returned (.tuple #[.int .i16 (IntKind.i16.wrap (a - b)), .bool true]) ∧ w' = w := by
  go_enter Try.func6, Try.ntmps6
  go_wp2
  go_ret2
  exact ⟨rfl, rfl⟩

set_option maxHeartbeats 400000 in
theorem calc_mul (a b : Int) (a1 : -32768 ≤ a) (a2 : a ≤ 32767) (b1 : -32768 ≤ b) (b2 : b ≤ 32767) (w : World) : Calls Try.prog 6 #[.int .i64 3, .int .i16 a, .int .i16 b] w fun e w' => e = .returned (.tuple #[.int .i16 (IntKind.i16.wrap (a * b)), .bool true]) ∧ w' = w := by
  obtain ⟨m1, m2⟩ := mul_bd a1 a2 b1 b2
  go_enter Try.func6, Try.ntmps6
  go_wp2
  go_ret2
  exact ⟨rfl, rfl⟩

set_option maxHeartbeats 400000 in
theorem calc_div (a b : Int) (a1 : -32768 ≤ a) (a2 : a ≤ 32767) (b1 : -32768 ≤ b) (b2 : b ≤ 32767) (w : World) (h : b ≠ 0) (e : wrap32 (a.tdiv b) = a.tdiv b) : Calls Try.prog 6 #[.int .i64 4, .int .i16 a, .int .i16 b] w fun e w' => e = .returned (.tuple #[.int .i16 (IntKind.i16.wrap (a.tdiv b)), .bool true]) ∧ w' = w := by
  have hb : (b == 0) = false := by simpa using h
  go_enter Try.func6, Try.ntmps6
  go_wp2
  go_ret2
  exact ⟨rfl, rfl⟩

set_option maxHeartbeats 400000 in
theorem calc_rem (a b : Int) (a1 : -32768 ≤ a) (a2 : a ≤ 32767) (b1 : -32768 ≤ b) (b2 : b ≤ 32767) (w : World) (h : b ≠ 0) : Calls Try.prog 6 #[.int .i64 5, .int .i16 a, .int .i16 b] w fun e w' => e = .returned (.tuple #[.int .i16 (IntKind.i16.wrap (a.tmod b)), .bool true]) ∧ w' = w := by
  have hb : (b == 0) = false := by simpa using h
  go_enter Try.func6, Try.ntmps6
  go_wp2
  go_ret2
  exact ⟨rfl, rfl⟩

set_option maxHeartbeats 400000 in
theorem calc_div0 (a : Int) (a1 : -32768 ≤ a) (a2 : a ≤ 32767) (w : World) : Calls Try.prog 6 #[.int .i64 4, .int .i16 a, .int .i16 0] w fun e w' => e = .returned (.tuple #[.int .i16 0, .bool false]) ∧ w' = w := by
  go_enter Try.func6, Try.ntmps6
  go_wp2
  go_ret2
  exact ⟨rfl, rfl⟩

set_option maxHeartbeats 400000 in
theorem calc_rem0 (a : Int) (a1 : -32768 ≤ a) (a2 : a ≤ 32767) (w : World) : Calls Try.prog 6 #[.int .i64 5, .int .i16 a, .int .i16 0] w fun e w' => e = .returned (.tuple #[.int .i16 0, .bool false]) ∧ w' = w := by
  go_enter Try.func6, Try.ntmps6
  go_wp2
  go_ret2
  exact ⟨rfl, rfl⟩

end Go.Proofs.Ytdhoimjkgicneaa
