/- What was kept, read by the specification: numbers. -/
import Derived.Test.YtdhoimjkgicneacKepK
namespace Go.Proofs.Ytdhoimjkgicneac
open Go Go.RowKit

theorem num_cons (g : Nat → Nat) : ∀ m, num g (m + 1) = g 0 + 256 * num (fun i => g (i + 1)) m
  | 0 => by simp [num]
  | m + 1 => by
    rw [num, num_cons g m, num, Nat.mul_add, ← Nat.add_assoc, Nat.pow_succ]
    congr 1
    rw [Nat.mul_comm (256 ^ m) 256, ← Nat.mul_assoc, Nat.mul_comm _ 256, Nat.mul_assoc]

/-- Bytes at a place in memory, all of them. -/
def Bytes134 (b off : Nat) (f : Nat → Nat) (w : World) : Prop := ∀ j, j < 134 → w.cell? ⟨b, off + j, none⟩ = some (.int .u8 ((f j : Nat) : Int))

set_option maxRecDepth 100000 in
set_option maxHeartbeats 800000 in
theorem spec_get (b off cap s n : Nat) (f : Nat → Nat) (w : World) (hc : Bytes134 b off f w) (hfb : ∀ k, f k ≤ 255) (hs : s + n ≤ 134) (hn : n ≤ 4) :
    Calls Try.prog 74 #[.slice (some ⟨b, off, none⟩) 134 cap, .int .i64 s, .int .i64 n] w fun e w' => e = .returned (.int .u64 (num (fun i => f (s + i)) n : Nat)) ∧ w' = w := by
  have HC : Hid (Bytes134 b off f w) := hc
  clear hc
  go_enter Try.func74, Try.ntmps74
  go_wp2_with fail
  go_loopw [7, 8] (fun vv iv wr => ∃ k : Nat, k ≤ n ∧ iv = .int .i64 ((k : Int) - 1) ∧ vv = .int .u64 ((num (fun i => f (s + k + i)) (n - k) : Nat) : Int) ∧ wr = w) (fun _ iv _ => (intOf iv + 1).toNat)
  case atStart => exact ⟨n, Nat.le_refl _, rfl, by rw [Nat.sub_self]; rfl, rfl⟩
  case round =>
    obtain ⟨k, hk, rfl, rfl, rfl⟩ := hrel
    obtain ⟨a, ha⟩ : ∃ a, a = num (fun i => f (s + k + i)) (n - k) := ⟨_, rfl⟩
    have a1 : a < 256 ^ (n - k) := ha ▸ num_lt (fun _ => hfb _) _
    by_cases h0 : 0 < k
    · obtain ⟨m, rfl⟩ : ∃ m, k = m + 1 := ⟨k - 1, by omega⟩
      have a2 : a < 16777216 := Nat.lt_of_lt_of_le a1 (Nat.le_trans (Nat.pow_le_pow_right (by omega) (show n - (m + 1) ≤ 3 by omega)) (by decide))
      have m1 : ((m + 1 : Nat) : Int) - 1 = (m : Int) := by omega
      rw [m1, ← ha]
      have m2 : (0 : Int) ≤ (m : Int) := by omega
      obtain ⟨j, hj, j1, j2⟩ : ∃ j : Nat, j = s + m ∧ (s : Int) + (m : Int) = (j : Int) ∧ (j : Int) < 134 := ⟨s + m, rfl, by omega, by omega⟩
      have c0 := HC.out j (by omega)
      obtain ⟨y, hy⟩ : ∃ y, y = f j := ⟨_, rfl⟩
      have y0 : y ≤ 255 := hy ▸ hfb _
      rw [← hy] at c0
      have y1 : IntKind.u64.wrap (y : Int) = (y : Int) := by show (y : Int) % 18446744073709551616 = _; omega
      have y2 : (y : Int) % 18446744073709551616 = (y : Int) := by omega
      obtain ⟨p, p1, p2, p3⟩ : ∃ p : Nat, p = a * 256 ∧ (a : Int) * 256 % 18446744073709551616 = (p : Int) ∧ IntKind.u64.wrap ((a : Int) * 256) = (p : Int) := ⟨a * 256, rfl, by omega, by show (a : Int) * 256 % 18446744073709551616 = _; omega⟩
      obtain ⟨c, c1, c2, c3⟩ : ∃ c : Nat, c = p + y ∧ ((p : Int) + (y : Int)) % 18446744073709551616 = (c : Int) ∧ IntKind.u64.wrap ((p : Int) + (y : Int)) = (c : Int) := ⟨p + y, rfl, by omega, by show ((p : Int) + (y : Int)) % 18446744073709551616 = _; omega⟩
      have HN : Hid (num (fun i => f (s + m + i)) (n - m) = c) := by
        show _ = _
        rw [show n - m = n - (m + 1) + 1 by omega, num_cons, c1, p1, hy, hj, ha, Nat.add_zero, Nat.add_comm, Nat.mul_comm 256]
        congr 3
        funext i
        rw [show s + m + (i + 1) = s + (m + 1) + i by omega]
      clear ha a1 hy hj c1 p1
      go_wp2_with fail
      go_roundw
      case rel => exact ⟨m, by omega, rfl, by rw [HN.out], trivial⟩
      case measure => simp [intOf]
    · obtain rfl : k = 0 := by omega
      have HN : Hid (num (fun i => f (s + i)) n = a) := by
        rw [ha]
        simp [Hid]
      rw [← ha]
      clear ha a1
      go_wp2_with fail
      go_ret
      exact ⟨by rw [HN.out]; rfl, rfl⟩

set_option maxHeartbeats 400000 in
theorem spec_wrap (y : Nat) (hy : y < 65536) (w : World) : Calls Try.prog 75 #[.int .i64 y] w fun e w' => e = .returned (.int .i16 (sgn y)) ∧ w' = w := by
  have y0 : Int.tmod (y : Int) 65536 = (y : Int) := by rw [Int.tmod_eq_emod_of_nonneg (by omega)]; omega
  have y1 : (y : Int) % 65536 = (y : Int) := by omega
  have y2 : ¬ (y : Int) < -32768 := by omega
  by_cases h : y < 32768
  · have h1 : ¬ (32767 : Int) < (y : Int) := by omega
    have h2 : IntKind.i16.wrap (y : Int) = sgn y := by rw [wrap16k]; unfold sgn; rw [if_pos h]; omega
    have h3 : ((y : Int) + 32768) % 65536 - 32768 = sgn y := by rw [← h2, wrap16k]
    go_enter Try.func75, Try.ntmps75
    go_wp2_with fail
    go_ret
    exact ⟨rfl, rfl⟩
  · have h1 : (32767 : Int) < (y : Int) := by omega
    obtain ⟨z, hz⟩ : ∃ z : Int, (y : Int) - 65536 = z := ⟨_, rfl⟩
    have h2 : IntKind.i16.wrap z = sgn y := by rw [wrap16k]; unfold sgn; rw [if_neg h]; omega
    have h3 : (z + 32768) % 65536 - 32768 = sgn y := by rw [← h2, wrap16k]
    have z1 : -9223372036854775808 ≤ z := by omega
    have z2 : z ≤ 9223372036854775807 := by omega
    go_enter Try.func75, Try.ntmps75
    go_wp2_with fail
    go_ret
    exact ⟨rfl, rfl⟩

end Go.Proofs.Ytdhoimjkgicneac
