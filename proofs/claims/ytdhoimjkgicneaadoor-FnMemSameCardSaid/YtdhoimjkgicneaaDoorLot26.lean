/- Texts of this proof laid together: PutQ, PutA0, MemI2. -/
import Derived.Test.YtdhoimjkgicneaaDoorLot25
import Derived.Test.YtdhoimjkgicneaaDoorLot23
import Derived.Test.YtdhoimjkgicneaaDoorRows
import Derived.WalkKit
import Derived.Test.YtdhoimjkgicneaaDoorLot20
/- A memory in which a bit is put: that bit is there, every other bit and every number stands, and the bit can be put back. -/
namespace Go.Proofs.YtdhoimjkgicneaaDoor
open Go

theorem put_none (v : MemV) {k n : Int} (b : Bool) (h : ¬ (2 ≤ k ∧ k ≤ 5)) : putV v k n b = v := by
  unfold putV
  rw [if_neg (by omega), if_neg (by omega), if_neg (by omega), if_neg (by omega)]

theorem four {k : Int} (h : 2 ≤ k ∧ k ≤ 5) : k = 2 ∨ k = 3 ∨ k = 4 ∨ k = 5 := by omega

theorem put_bit (v : MemV) {k : Int} (n : Int) (b : Bool) (h : 2 ≤ k ∧ k ≤ 5) : mbit (putV v k n b) k n = b := by
  rcases four h with rfl | rfl | rfl | rfl
  · exact (turn_bit v.y (atZ 2 n).toNat b).1
  · exact (turn_bit v.m (atZ 3 n).toNat b).1
  · exact (turn_bit v.s (atZ 4 n).toNat b).1
  · exact (turn_bit v.e (atZ 5 n).toNat b).1

theorem put_back (v : MemV) {k : Int} (n : Int) (b : Bool) (h : 2 ≤ k ∧ k ≤ 5) : putV (putV v k n b) k n (mbit v k n) = v := by
  rcases four h with rfl | rfl | rfl | rfl
  · show ({ v with y := turnN (turnN v.y (atZ 2 n).toNat b) (atZ 2 n).toNat (v.y / 2 ^ (atZ 2 n).toNat % 2 == 1) } : MemV) = v
    rw [(turn_bit v.y (atZ 2 n).toNat b).2.2]
  · show ({ v with m := turnN (turnN v.m (atZ 3 n).toNat b) (atZ 3 n).toNat (v.m / 2 ^ (atZ 3 n).toNat % 2 == 1) } : MemV) = v
    rw [(turn_bit v.m (atZ 3 n).toNat b).2.2]
  · show ({ v with s := turnN (turnN v.s (atZ 4 n).toNat b) (atZ 4 n).toNat (v.s / 2 ^ (atZ 4 n).toNat % 2 == 1) } : MemV) = v
    rw [(turn_bit v.s (atZ 4 n).toNat b).2.2]
  · show ({ v with e := turnN (turnN v.e (atZ 5 n).toNat b) (atZ 5 n).toNat (v.e / 2 ^ (atZ 5 n).toNat % 2 == 1) } : MemV) = v
    rw [(turn_bit v.e (atZ 5 n).toNat b).2.2]

theorem put_whole (v : MemV) (k n : Int) (b : Bool) (k' n' : Int) : wholeZ (putV v k n b) k' n' = wholeZ v k' n' := by
  by_cases h : 2 ≤ k ∧ k ≤ 5
  · rcases four h with rfl | rfl | rfl | rfl <;> rfl
  · rw [put_none v b h]

theorem ok_at {k n p : Int} (h : 2 ≤ k ∧ k ≤ 5) (ho : okB k n p = true) : atZ k n = n ∧ 0 ≤ n ∧ p = 0 := by
  rcases four h with rfl | rfl | rfl | rfl
  · have g : 0 ≤ n ∧ n < 32 ∧ p = 0 := of_decide_eq_true ho
    exact ⟨show n % 32 = n by omega, g.1, g.2.2⟩
  · have g : 0 ≤ n ∧ n < 64 ∧ p = 0 := of_decide_eq_true ho
    exact ⟨show n % 64 = n by omega, g.1, g.2.2⟩
  · have g : 0 ≤ n ∧ n < 16 ∧ p = 0 := of_decide_eq_true ho
    exact ⟨show n % 16 = n by omega, g.1, g.2.2⟩
  · have g : 0 ≤ n ∧ n < 32 ∧ p = 0 := of_decide_eq_true ho
    exact ⟨show n % 32 = n by omega, g.1, g.2.2⟩

theorem put_other (v : MemV) {k n p k' n' p' : Int} (b : Bool) (h : 2 ≤ k ∧ k ≤ 5) (ho : okB k n p = true) (ho' : okB k' n' p' = true) (hne : ¬ (k' = k ∧ n' = n ∧ p' = p)) : mbit (putV v k n b) k' n' = mbit v k' n' := by
  by_cases e : k' = k
  · subst e
    obtain ⟨a1, a2, a3⟩ := ok_at h ho
    obtain ⟨b1, b2, b3⟩ := ok_at h ho'
    have hn : (atZ k' n').toNat ≠ (atZ k' n).toNat := by
      rw [a1, b1]
      intro hh
      exact hne ⟨rfl, by omega, by omega⟩
    rcases four h with rfl | rfl | rfl | rfl
    · exact congrArg (· == 1) ((turn_bit v.y (atZ 2 n).toNat b).2.1 _ hn)
    · exact congrArg (· == 1) ((turn_bit v.m (atZ 3 n).toNat b).2.1 _ hn)
    · exact congrArg (· == 1) ((turn_bit v.s (atZ 4 n).toNat b).2.1 _ hn)
    · exact congrArg (· == 1) ((turn_bit v.e (atZ 5 n).toNat b).2.1 _ hn)
  · rcases four h with rfl | rfl | rfl | rfl
    all_goals
      unfold mbit putV
      simp only [e, if_true, if_false]
      rfl

end Go.Proofs.YtdhoimjkgicneaaDoor

/- Two operands, compared. -/
namespace Go.Proofs.YtdhoimjkgicneaaDoor
open Go Go.RowKit

set_option maxRecDepth 100000 in
theorem neq_arg (k n p k' n' p' : Int) (w : World) : (binOp .neq 24 (.agg #[.int .i64 k', .int .i64 n', .int .i64 p']) (.agg #[.int .i64 k, .int .i64 n, .int .i64 p])).run Tryd.prog w = .ok (.bool (!decide (k' = k ∧ n' = n ∧ p' = p))) w := by
  by_cases h1 : k' = k
  · by_cases h2 : n' = n
    · by_cases h3 : p' = p
      · simp [go_sem, h1, h2, h3]
      · simp [go_sem, h1, h2, h3]
    · simp [go_sem, h1, h2]
  · simp [go_sem, h1]

end Go.Proofs.YtdhoimjkgicneaaDoor

/- The program's word with a bit put. -/
namespace Go.Proofs.YtdhoimjkgicneaaDoor
open Go Go.RowKit

set_option maxHeartbeats 4000000 in
theorem impl_put (x j : Nat) (b : Bool) (w : World) (hx : x < 18446744073709551616) (hj : j ≤ 63) :
    Calls Tryd.prog 132 #[.agg #[.int .i64 j, .bool b], .int .u64 x] w fun e w' => e = .returned (.int .u64 (turnN x j b)) ∧ Below w.heap.size w w' := by
  have hB : ∀ t, Below w.heap.size w (w.alloc (.cells #[.int .i64 j, .bool b] t)) := fun t => (Below.refl _ _).alloc (Nat.le_refl _) _
  cases b with
  | true =>
    have h2 := bits_or x j hx hj
    go_enter Tryd.func132, Tryd.ntmps132
    go_wp2
    go_ret
    refine ⟨ret_int ?_, hB _⟩
    rw [wrap_pow j hj, ← h2]
  | false =>
    have h2 := bits_andNot x j hx hj
    go_enter Tryd.func132, Tryd.ntmps132
    go_wp2
    go_ret
    refine ⟨ret_int ?_, hB _⟩
    rw [wrap_pow j hj, ← h2]

end Go.Proofs.YtdhoimjkgicneaaDoor
