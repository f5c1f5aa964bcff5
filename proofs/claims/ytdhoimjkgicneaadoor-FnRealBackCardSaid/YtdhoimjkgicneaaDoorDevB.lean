/- What the small functions on operands of the specification do. -/
import Derived.Test.YtdhoimjkgicneaaDoorDevA
import Derived.Test.YtdhoimjkgicneaaDoorDevB0
import Derived.Deep.QuietTactic
import Derived.BigQuiet
namespace Go.Proofs.YtdhoimjkgicneaaDoor
open Go Go.RowKit

attribute [local go_sem] sz1 sz2 sz3 sz4 sz5 sz6 sz7 sz8 sz9 sz10 sz11 sz12 sz13

set_option maxHeartbeats 1000000 in
theorem spec_letter (k : Int) (w : World) :
    Calls Tryd.prog 63 #[.int .i64 k] w fun e w' => e = .returned (.string ⟨(letterL k).toArray⟩) ∧ w' = w := by
  rcases kcases k with rfl | rfl | rfl | rfl | rfl | rfl | rfl | rfl | rfl | rfl | rfl | rfl | rfl | h | h
  all_goals
    first | have hs : sizeZ k = 0 := sizeZ_out (by omega) | skip
    go_enter Tryd.func63, Tryd.ntmps63
    go_wp2_with (go_at_call 52; refine (spec_size _ _).mono ?_; rintro e w' ⟨rfl, rfl⟩)
    all_goals
      go_ret
      first | exact ⟨ret_str (by decide), rfl⟩ | (rw [letterL_out (by omega)]; exact ⟨rfl, rfl⟩)

set_option maxHeartbeats 400000 in
theorem spec_ok11 (n p : Int) (w : World) :
    Calls Tryd.prog 36 #[.agg #[.int .i64 11, .int .i64 n, .int .i64 p]] w fun e w' => e = .returned (.bool (okB 11 n p)) ∧ Below w.heap.size w w' := by
    go_enter Tryd.func36, Tryd.ntmps36
    go_wp2
    all_goals
      go_ret
      exact ⟨ret_bool (by rw [Bool.eq_iff_iff]; simp [okB]; omega), (Below.refl _ _).alloc (Nat.le_refl _) _⟩

set_option maxHeartbeats 400000 in
theorem spec_ok12 (n p : Int) (w : World) :
    Calls Tryd.prog 36 #[.agg #[.int .i64 12, .int .i64 n, .int .i64 p]] w fun e w' => e = .returned (.bool (okB 12 n p)) ∧ Below w.heap.size w w' := by
    go_enter Tryd.func36, Tryd.ntmps36
    go_wp2
    all_goals
      go_ret
      refine ⟨ret_bool ?_, (Below.refl _ _).alloc (Nat.le_refl _) _⟩
      rw [Bool.eq_iff_iff]; simp [okB]; omega

set_option maxHeartbeats 400000 in
theorem spec_ok13 (n p : Int) (w : World) :
    Calls Tryd.prog 36 #[.agg #[.int .i64 13, .int .i64 n, .int .i64 p]] w fun e w' => e = .returned (.bool (okB 13 n p)) ∧ Below w.heap.size w w' := by
    go_enter Tryd.func36, Tryd.ntmps36
    go_wp2
    all_goals
      go_ret
      exact ⟨ret_bool (by rw [Bool.eq_iff_iff]; simp [okB]; omega), (Below.refl _ _).alloc (Nat.le_refl _) _⟩

end Go.Proofs.YtdhoimjkgicneaaDoor
