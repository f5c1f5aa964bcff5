/- The program's own real number of an operand. -/
import Derived.Test.YtdhoimjkgicneaaDoorArgA
import Derived.Test.YtdhoimjkgicneaaDoorDevK
import Derived.Test.YtdhoimjkgicneaaDoorFltE
namespace Go.Proofs.YtdhoimjkgicneaaDoor
open Go Go.RowKit

theorem tenZ_bd (k : Int) : 1 ≤ tenZ k ∧ tenZ k ≤ 1000000 := by
  unfold tenZ
  repeat' split
  all_goals omega
theorem tenZ_succ {k : Nat} (h : k < 6) : tenZ k * 10 = tenZ ((k : Int) + 1) := by
  have : k = 0 ∨ k = 1 ∨ k = 2 ∨ k = 3 ∨ k = 4 ∨ k = 5 := by omega
  rcases this with rfl | rfl | rfl | rfl | rfl | rfl <;> simp [tenZ]

set_option maxHeartbeats 400000 in
theorem impl_real_dec (n : Int) (p r : Nat) (w : World) (hp : p ≤ 6) (hr : floatBits .quo .f64 (floatOfInt .f64 n) (floatOfInt .f64 (tenZ p)) = some r) :
    Calls Tryd.prog 84 #[.int .i64 n, .int .i64 p] w fun e w' => e = .returned (.float .f64 r) ∧ w' = w := by
  have q : ∀ t w, (binOp .quo t (.float .f64 (floatOfInt .f64 n)) (.float .f64 (floatOfInt .f64 (tenZ p)))).run Tryd.prog w = .ok (.float .f64 r) w := fun t w => run_float_arith w .quo t .f64 _ _ _ hr
  clear hr
  go_enter Tryd.func84, Tryd.ntmps84
  go_wp2
  go_loop [5, 7] (fun t i => ∃ (k : Nat) (T : Int), k ≤ p ∧ t = .int .i64 T ∧ i = .int .i64 k ∧ T = tenZ k) (fun _ i => p - (intOf i).toNat)
  case atStart => exact ⟨0, 1, by omega, rfl, rfl, by simp [tenZ]⟩
  case round =>
    obtain ⟨k, T, hk, rfl, rfl, hT⟩ := hrel
    have hb := tenZ_bd k
    rw [← hT] at hb
    obtain ⟨t1, t2⟩ := hb
    by_cases hlt : k < p
    · have HT : Hid (T = tenZ k) := hT
      clear hT
      go_wp2
      go_round
      case rel => exact ⟨k + 1, T * 10, by omega, by go_num, by go_num, by rw [HT.out, tenZ_succ (by omega)]; simp⟩
      case measure => simp [intOf]; omega
    · have e : k = p := by omega
      subst e
      subst hT
      go_wp2
      go_ret
      exact ⟨rfl, rfl⟩

end Go.Proofs.YtdhoimjkgicneaaDoor
