/- The real number of an operand: the program's own, and the specification's. -/
import Derived.Test.YtdhoimjkgicneaaDoorArgB
import Derived.Test.YtdhoimjkgicneaaDoorBox
import Derived.Test.YtdhoimjkgicneaaDoorDevC
import Derived.Deep.RegionWith
namespace Go.Proofs.YtdhoimjkgicneaaDoor
open Go Go.RowKit

/-- The program's bits of a word. -/
def wordF (n : Int) : Nat := if n = 0 then 9221120237041090561 else if n = 1 then 9218868437227405312 else if n = 2 then 18442240474082181120 else 9223372036854775808

set_option maxHeartbeats 400000 in
theorem impl_arg_no (k n p : Int) (w : World) (T : KTab w) (h : okB k n p = false) :
    Calls Tryd.prog 34 #[.agg #[.int .i64 k, .int .i64 n, .int .i64 p]] w fun e w' => e = .returned (.float .f64 0) ∧ Below w.heap.size w w' := by
  go_enter Tryd.func34, Tryd.ntmps34
  go_wp2_with fail
  refine (okK k n p _ (T.alloc _)).mono ?_
  rintro e w1 ⟨rfl, hb⟩
  obtain ⟨e0, e1, e2, z, b⟩ := box3 hb
  have B : Hid (Below w.heap.size w w1) := b
  clear hb b T
  go_wp2
  go_ret
  exact ⟨rfl, B.out⟩

set_option maxHeartbeats 400000 in
theorem impl_arg_other (k n p : Int) (w : World) (T : KTab w) (h : okB k n p = true) (h1 : k ≠ 12) (h2 : k ≠ 13) :
    Calls Tryd.prog 34 #[.agg #[.int .i64 k, .int .i64 n, .int .i64 p]] w fun e w' => e = .returned (.float .f64 0) ∧ Below w.heap.size w w' := by
  have b1 : (k == 12) = false := by simpa using h1
  have b2 : (k == 13) = false := by simpa using h2
  clear h1 h2
  go_enter Tryd.func34, Tryd.ntmps34
  go_wp2_with fail
  refine (okK k n p _ (T.alloc _)).mono ?_
  rintro e w1 ⟨rfl, hb⟩
  obtain ⟨e0, e1, e2, z, b⟩ := box3 hb
  have B : Hid (Below w.heap.size w w1) := b
  clear hb b T
  go_wp2
  go_ret
  exact ⟨rfl, B.out⟩

set_option maxHeartbeats 400000 in
theorem impl_arg_dec (n : Int) (p r : Nat) (w : World) (T : KTab w) (h : okB 12 n p = true) (hp : p ≤ 6) (hr : floatBits .quo .f64 (floatOfInt .f64 n) (floatOfInt .f64 (tenZ p)) = some r) :
    Calls Tryd.prog 34 #[.agg #[.int .i64 12, .int .i64 n, .int .i64 p]] w fun e w' => e = .returned (.float .f64 r) ∧ Below w.heap.size w w' := by
  have R : Hid (floatBits .quo .f64 (floatOfInt .f64 n) (floatOfInt .f64 (tenZ p)) = some r) := hr
  clear hr
  go_enter Tryd.func34, Tryd.ntmps34
  go_wp2_with fail
  refine (okK 12 n p _ (T.alloc _)).mono ?_
  rintro e w1 ⟨rfl, hb⟩
  obtain ⟨e0, e1, e2, z, b⟩ := box3 hb
  have B : Hid (Below w.heap.size w w1) := b
  clear hb b T
  go_wp2_with fail
  refine (impl_real_dec n p r _ hp R.out).mono ?_
  rintro e w2 ⟨rfl, rfl⟩
  go_wp2
  go_ret
  exact ⟨rfl, B.out⟩

theorem ix0 (a b c d : Nat) (w : World) : (Instr.index 110 (.agg #[.float .f64 a, .float .f64 b, .float .f64 c, .float .f64 d]) (.int .i64 0)).run Tryd.prog w = .ok (.float .f64 a) w := by kernel_rfl
theorem ix1 (a b c d : Nat) (w : World) : (Instr.index 110 (.agg #[.float .f64 a, .float .f64 b, .float .f64 c, .float .f64 d]) (.int .i64 1)).run Tryd.prog w = .ok (.float .f64 b) w := by kernel_rfl
theorem ix2 (a b c d : Nat) (w : World) : (Instr.index 110 (.agg #[.float .f64 a, .float .f64 b, .float .f64 c, .float .f64 d]) (.int .i64 2)).run Tryd.prog w = .ok (.float .f64 c) w := by kernel_rfl
theorem ix3 (a b c d : Nat) (w : World) : (Instr.index 110 (.agg #[.float .f64 a, .float .f64 b, .float .f64 c, .float .f64 d]) (.int .i64 3)).run Tryd.prog w = .ok (.float .f64 d) w := by kernel_rfl

set_option maxHeartbeats 800000 in
theorem impl_arg_word (n : Int) (w : World) (T : KTab w) (h : okB 13 n 0 = true) (h1 : 0 ≤ n) (h2 : n ≤ 3) :
    Calls Tryd.prog 34 #[.agg #[.int .i64 13, .int .i64 n, .int .i64 0]] w fun e w' => e = .returned (.float .f64 (wordF n)) ∧ Below w.heap.size w w' := by
  have hc : n = 0 ∨ n = 1 ∨ n = 2 ∨ n = 3 := by omega
  clear h1 h2
  rcases hc with rfl | rfl | rfl | rfl
  all_goals
    go_enter Tryd.func34, Tryd.ntmps34
    go_wp2_with fail
    refine (okK 13 _ 0 _ (T.alloc _)).mono ?_
    rintro e w1 ⟨rfl, hb⟩
    obtain ⟨e0, e1, e2, z, b⟩ := box3 hb
    have B : Hid (Below w.heap.size w w1) := b
    clear hb b T
    go_wp2_with fail
    have i0 := ix0
    have i1 := ix1
    have i2 := ix2
    have i3 := ix3
    go_quiet ((first | (go_at_call 85; exact Calls.quiet_of_same (lib_nan _)) | (go_at_call 86; exact Calls.quiet_of_same (lib_infs _ _)) | (go_at_call 87; exact Calls.quiet_of_same (impl_mzero _))))
    go_wp2
    go_ret
    exact ⟨rfl, below_drewN B.out _⟩

end Go.Proofs.YtdhoimjkgicneaaDoor
