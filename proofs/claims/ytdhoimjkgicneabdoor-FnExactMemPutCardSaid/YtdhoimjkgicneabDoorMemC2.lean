/- The specification's word with a bit put. -/
import Derived.Test.YtdhoimjkgicneabDoorMemC
namespace Go.Proofs.YtdhoimjkgicneabDoor
open Go Go.RowKit

set_option maxHeartbeats 800000 in
theorem spec_turned (x k : Nat) (b : Bool) (w : World) (hx : x < 18446744073709551616) (hk : k ≤ 63) :
    Calls Tryd.prog 49 #[.int .u64 x, .int .i64 k, .bool b] w fun e w' => e = .returned (.int .u64 (turnN x k b)) ∧ w' = w := by
  obtain ⟨q, hq⟩ : ∃ q, q = (x / 2 ^ k % 2 == 1) := ⟨_, rfl⟩
  have HQ : Hid (q = (x / 2 ^ k % 2 == 1)) := hq
  clear hq
  go_enter Tryd.func49, Tryd.ntmps49
  go_wp2_with fail
  refine (spec_bit x k w hx hk).mono ?_
  rintro e w1 ⟨rfl, rfl⟩
  rw [← HQ.out]
  by_cases hb : q = b
  · have e : turnN x k b = x := by unfold turnN; rw [← HQ.out, if_pos hb]
    subst hb
    go_wp2_with fail
    go_ret
    exact ⟨ret_int (by rw [e]), rfl⟩
  · have hb2 : (q == b) = false := by simpa using hb
    go_wp2_with fail
    go_loop [7, 8] (fun u i => ∃ j p : Nat, j ≤ k ∧ i = .int .i64 j ∧ u = .int .u64 p ∧ p = 2 ^ j ∧ p ≤ 9223372036854775808) (fun _ i => k - (intOf i).toNat)
    case atStart => exact ⟨0, 1, by omega, rfl, rfl, rfl, by omega⟩
    case round =>
      obtain ⟨j, p, hj, rfl, rfl, hp, hp9⟩ := hrel
      have HP : Hid (p = 2 ^ j) := hp
      clear hp
      by_cases hlt : j < k
      · have hp2 : p * 2 ≤ 9223372036854775808 := by
          rw [HP.out, ← Nat.pow_succ, show (9223372036854775808 : Nat) = 2 ^ 63 from by decide +kernel]
          exact Nat.pow_le_pow_right (by omega) (by omega)
        go_wp2
        go_round
        case rel => exact ⟨j + 1, p * 2, by omega, by go_num, by go_num, by rw [HP.out, Nat.pow_succ], by omega⟩
        case measure => simp [intOf]; omega
      · have e : j = k := by omega
        subst e
        cases b with
        | true =>
          have hq : q = false := by cases q <;> simp_all
          have hlt2 : x + p < 18446744073709551616 := by
            rw [HP.out]
            refine turn_lt hx hk ?_
            have := HQ.out
            rw [hq] at this
            simpa using this.symm
          have e : turnN x j true = x + p := by
            unfold turnN
            rw [← HQ.out, hq, if_neg (by decide), if_pos rfl, HP.out]
          clear hb hb2
          go_wp2_with fail
          go_ret
          exact ⟨ret_int (by omega), rfl⟩
        | false =>
          have hq : q = true := by cases q <;> simp_all
          have hle : p ≤ x := by
            rw [HP.out]
            refine turn_le ?_
            have := HQ.out
            rw [hq] at this
            simpa using this.symm
          have e : turnN x j false = x - p := by
            unfold turnN
            rw [← HQ.out, hq, if_neg (by decide), if_neg (by decide), HP.out]
          clear hb hb2
          go_wp2_with fail
          go_ret
          exact ⟨ret_int (by omega), rfl⟩

end Go.Proofs.YtdhoimjkgicneabDoor
