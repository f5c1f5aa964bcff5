/- What the specification's DevOk does at devices, and its words. -/
import Derived.Test.YtdhoimjkgicneaaDoorDevB
namespace Go.Proofs.YtdhoimjkgicneaaDoor
open Go Go.RowKit

set_option maxHeartbeats 400000 in
theorem spec_okdev (k n p : Int) (w : World) (hk : k < 11 ∨ 13 < k) :
    Calls Tryd.prog 36 #[.agg #[.int .i64 k, .int .i64 n, .int .i64 p]] w fun e w' => e = .returned (.bool (okB k n p)) ∧ Below w.heap.size w w' := by
  have hok : okB k n p = decide (0 ≤ n ∧ n < sizeZ k ∧ p = 0) := by unfold okB; rw [if_neg (by omega), if_neg (by omega), if_neg (by omega)]
  have HK : Hid (okB k n p = decide (0 ≤ n ∧ n < sizeZ k ∧ p = 0)) := hok
  clear hok
  have b1 : (k == 11) = false := by simp; omega
  have b2 : (k == 12) = false := by simp; omega
  have b3 : (k == 13) = false := by simp; omega
  clear hk
  by_cases h0 : 0 ≤ n
  · have hd : decide (0 ≤ n) = true := by simpa using h0
    by_cases h1 : n < sizeZ k
    · have hd1 : decide (n < sizeZ k) = true := by simpa using h1
      go_enter Tryd.func36, Tryd.ntmps36
      go_wp2
      go_quiet ((go_at_call 52; exact Calls.quiet_of_same (spec_size _ _)))
      go_wp2
      go_ret
      exact ⟨ret_bool (by rw [HK.out, Bool.eq_iff_iff]; simp; omega), below_drewN ((Below.refl _ _).alloc (Nat.le_refl _) _) _⟩
    · have hd1 : decide (n < sizeZ k) = false := by simpa using h1
      go_enter Tryd.func36, Tryd.ntmps36
      go_wp2
      go_quiet ((go_at_call 52; exact Calls.quiet_of_same (spec_size _ _)))
      go_wp2
      go_ret
      exact ⟨ret_bool (by rw [HK.out, Bool.eq_iff_iff]; simp; omega), below_drewN ((Below.refl _ _).alloc (Nat.le_refl _) _) _⟩
  · have hd : decide (0 ≤ n) = false := by simpa using h0
    go_enter Tryd.func36, Tryd.ntmps36
    go_wp2
    go_quiet ((go_at_call 52; exact Calls.quiet_of_same (spec_size _ _)))
    go_wp2
    go_ret
    exact ⟨ret_bool (by rw [HK.out, Bool.eq_iff_iff]; simp; omega), below_drewN ((Below.refl _ _).alloc (Nat.le_refl _) _) _⟩

theorem spec_ok (k n p : Int) (w : World) :
    Calls Tryd.prog 36 #[.agg #[.int .i64 k, .int .i64 n, .int .i64 p]] w fun e w' => e = .returned (.bool (okB k n p)) ∧ Below w.heap.size w w' := by
  by_cases h1 : k = 11
  · subst h1; exact spec_ok11 n p w
  by_cases h2 : k = 12
  · subst h2; exact spec_ok12 n p w
  by_cases h3 : k = 13
  · subst h3; exact spec_ok13 n p w
  exact spec_okdev k n p w (by omega)

end Go.Proofs.YtdhoimjkgicneaaDoor
