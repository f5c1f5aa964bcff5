/- Texts of this proof laid together: MemN, DevC, DevE. -/
import Derived.Test.YtdhoimjkgicneaaGreatDoorLot14
import Derived.Laws.BitsAllLaws
import Derived.Test.YtdhoimjkgicneaaGreatDoorLot13
import Derived.Deep.RegionWith
/- A bit put by or, and by and-not: the numbers. -/
namespace Go.Proofs.YtdhoimjkgicneaaGreatDoor
open Go Go.RowKit

theorem or_pow {y k : Nat} (h : y / 2 ^ k % 2 = 0) : y ||| 2 ^ k = y + 2 ^ k := by
  have h1 := Nat.div_add_mod y (2 ^ k)
  have h2 := Nat.mod_lt y (Nat.two_pow_pos k)
  obtain ⟨s, hs⟩ : ∃ s, y / 2 ^ k = 2 * s := ⟨y / 2 ^ k / 2, by omega⟩
  obtain ⟨r, hr⟩ : ∃ r, y % 2 ^ k = r := ⟨_, rfl⟩
  rw [hs, hr] at h1
  rw [hr] at h2
  have e1 : y = 2 ^ (k + 1) * s + r := by rw [Nat.pow_succ, Nat.mul_assoc]; exact h1.symm
  have e2 : 2 ^ (k + 1) * s + r = 2 ^ (k + 1) * s ||| r := Nat.two_pow_add_eq_or_of_lt (by rw [Nat.pow_succ]; omega) s
  have e3 : 2 ^ k * 1 + r = 2 ^ k * 1 ||| r := Nat.two_pow_add_eq_or_of_lt h2 1
  have e4 : 2 ^ (k + 1) * s + (2 ^ k + r) = 2 ^ (k + 1) * s ||| (2 ^ k + r) := Nat.two_pow_add_eq_or_of_lt (by rw [Nat.pow_succ]; omega) s
  rw [Nat.mul_one] at e3
  have e5 : y + 2 ^ k = 2 ^ (k + 1) * s + (2 ^ k + r) := by omega
  rw [e5, e4, e3, e1, e2, Nat.or_assoc, Nat.or_comm r]

theorem turn_or (x k : Nat) : x ||| 2 ^ k = turnN x k true := by
  unfold turnN
  by_cases h : x / 2 ^ k % 2 = 1
  · have e : (x / 2 ^ k % 2 == 1) = true := by simp [h]
    rw [e, if_pos rfl]
    apply Nat.eq_of_testBit_eq
    intro j
    rw [Nat.testBit_or, Nat.testBit_two_pow]
    by_cases hj : k = j
    · subst hj
      simp [Nat.testBit_eq_decide_div_mod_eq, h]
    · simp [hj]
  · have e : (x / 2 ^ k % 2 == 1) = false := by simp [h]
    rw [e, if_neg (by simp), if_pos rfl]
    exact or_pow (by omega)

theorem turn_andNot (x k : Nat) (hx : x < 18446744073709551616) (hk : k ≤ 63) : x &&& (18446744073709551615 - 2 ^ k) = turnN x k false := by
  have hp : 2 ^ k < 2 ^ 64 := Nat.pow_lt_pow_right (by omega) (by omega)
  have e0 : 18446744073709551615 - 2 ^ k = 2 ^ 64 - (2 ^ k + 1) := by omega
  have ht : ∀ j, (x &&& (18446744073709551615 - 2 ^ k)).testBit j = (x.testBit j && !decide (k = j)) := by
    intro j
    rw [Nat.testBit_and, e0, Nat.testBit_two_pow_sub_succ hp, Nat.testBit_two_pow]
    by_cases hj : j < 64
    · simp [hj]
    · rw [Nat.testBit_lt_two_pow (x := x) (i := j) (Nat.lt_of_lt_of_le hx (show 18446744073709551616 ≤ 2 ^ j from Nat.pow_le_pow_right (n := 2) (by omega) (show 64 ≤ j by omega)))]
      simp
  unfold turnN
  by_cases h : x / 2 ^ k % 2 = 1
  · have e : (x / 2 ^ k % 2 == 1) = true := by simp [h]
    rw [e, if_neg (by simp), if_neg (by simp)]
    have hle : 2 ^ k ≤ x := turn_le h
    have hy : (x - 2 ^ k) / 2 ^ k % 2 = 0 := by
      have := Nat.sub_mul_div x (2 ^ k) 1
      rw [Nat.mul_one] at this
      rw [this]
      omega
    have ho := or_pow hy
    rw [show x - 2 ^ k + 2 ^ k = x by omega] at ho
    apply Nat.eq_of_testBit_eq
    intro j
    rw [ht j]
    have hj2 : x.testBit j = ((x - 2 ^ k).testBit j || decide (k = j)) := by
      rw [← Nat.testBit_two_pow, ← Nat.testBit_or, ho]
    rw [hj2]
    by_cases hj : k = j
    · subst hj
      simp [Nat.testBit_eq_decide_div_mod_eq, hy]
    · simp [hj]
  · have e : (x / 2 ^ k % 2 == 1) = false := by simp [h]
    rw [e, if_pos rfl]
    apply Nat.eq_of_testBit_eq
    intro j
    rw [ht j]
    by_cases hj : k = j
    · subst hj
      simp [Nat.testBit_eq_decide_div_mod_eq, h]
    · simp [hj]

/-- In the walk's own spelling. -/
theorem bits_or (x k : Nat) (hx : x < 18446744073709551616) (hk : k ≤ 63) : bits .or .u64 (x : Int) ((2 ^ k : Nat) : Int) = ((turnN x k true : Nat) : Int) := by
  rw [u64_or_nat x (2 ^ k) hx (Nat.pow_lt_pow_right (a := 2) (by omega) (show k < 64 by omega)), turn_or]
theorem bits_andNot (x k : Nat) (hx : x < 18446744073709551616) (hk : k ≤ 63) : bits .andNot .u64 (x : Int) ((2 ^ k : Nat) : Int) = ((turnN x k false : Nat) : Int) := by
  rw [u64_andNot_nat x (2 ^ k) hx (Nat.pow_lt_pow_right (a := 2) (by omega) (show k < 64 by omega)), turn_andNot x k hx hk]
theorem wrap_pow (k : Nat) (hk : k ≤ 63) : IntKind.u64.wrap (2 ^ k) = ((2 ^ k : Nat) : Int) := by
  have hp : 2 ^ k < 18446744073709551616 := Nat.pow_lt_pow_right (a := 2) (by omega) (show k < 64 by omega)
  have e : ((2 : Int) ^ k) = ((2 ^ k : Nat) : Int) := by simp
  rw [e, IntKind.wrap_u64]
  obtain ⟨p, hp2⟩ : ∃ p, p = 2 ^ k := ⟨_, rfl⟩
  rw [← hp2] at hp ⊢
  omega
theorem and_one (x : Nat) (hx : x < 18446744073709551616) : bits .and .u64 (x : Int) 1 = ((x % 2 : Nat) : Int) := by
  have := u64_and_nat x 1 hx (by omega)
  rw [Nat.and_one_is_mod] at this
  exact this
theorem shr_bit (x k : Nat) : (x : Int) / 2 ^ k = ((x / 2 ^ k : Nat) : Int) := by simp

end Go.Proofs.YtdhoimjkgicneaaGreatDoor

/- What the specification's DevOk does at devices, and its words. -/
namespace Go.Proofs.YtdhoimjkgicneaaGreatDoor
open Go Go.RowKit

set_option maxHeartbeats 400000 in
theorem spec_okdev (k n p : Int) (w : World) (hk : k < 11 ∨ 13 < k) :
    Calls Tryz.prog 129 #[.agg #[.int .i64 k, .int .i64 n, .int .i64 p]] w fun e w' => e = .returned (.bool (okB k n p)) ∧ Below w.heap.size w w' := by
  have hok : okB k n p = decide (0 ≤ n ∧ n < sizeZ k ∧ p = 0) := by unfold okB; rw [if_neg (by omega), if_neg (by omega), if_neg (by omega)]
  have HK : Hid (okB k n p = decide (0 ≤ n ∧ n < sizeZ k ∧ p = 0)) := hok
  clear hok
  have b1 : (k == 11) = false := by simp; omega
  have b2 : (k == 12) = false := by simp; omega
  have b3 : (k == 13) = false := by simp; omega
  clear hk
  by_cases h0 : 0 ≤ n
  · have hd : decide (0 ≤ n) = true := by simpa using h0
    by_cases h1 : n < sizeZ k
    · have hd1 : decide (n < sizeZ k) = true := by simpa using h1
      go_enter Tryz.func129, Tryz.ntmps129
      go_wp2
      go_quiet ((go_at_call 90; exact Calls.quiet_of_same (spec_size _ _)))
      go_wp2
      go_ret
      exact ⟨ret_bool (by rw [HK.out, Bool.eq_iff_iff]; simp; omega), below_drewN ((Below.refl _ _).alloc (Nat.le_refl _) _) _⟩
    · have hd1 : decide (n < sizeZ k) = false := by simpa using h1
      go_enter Tryz.func129, Tryz.ntmps129
      go_wp2
      go_quiet ((go_at_call 90; exact Calls.quiet_of_same (spec_size _ _)))
      go_wp2
      go_ret
      exact ⟨ret_bool (by rw [HK.out, Bool.eq_iff_iff]; simp; omega), below_drewN ((Below.refl _ _).alloc (Nat.le_refl _) _) _⟩
  · have hd : decide (0 ≤ n) = false := by simpa using h0
    go_enter Tryz.func129, Tryz.ntmps129
    go_wp2
    go_quiet ((go_at_call 90; exact Calls.quiet_of_same (spec_size _ _)))
    go_wp2
    go_ret
    exact ⟨ret_bool (by rw [HK.out, Bool.eq_iff_iff]; simp; omega), below_drewN ((Below.refl _ _).alloc (Nat.le_refl _) _) _⟩

theorem spec_ok (k n p : Int) (w : World) :
    Calls Tryz.prog 129 #[.agg #[.int .i64 k, .int .i64 n, .int .i64 p]] w fun e w' => e = .returned (.bool (okB k n p)) ∧ Below w.heap.size w w' := by
  by_cases h1 : k = 11
  · subst h1; exact spec_ok11 n p w
  by_cases h2 : k = 12
  · subst h2; exact spec_ok12 n p w
  by_cases h3 : k = 13
  · subst h3; exact spec_ok13 n p w
  exact spec_okdev k n p w (by omega)

end Go.Proofs.YtdhoimjkgicneaaGreatDoor

/- What the program's own table of kinds answers. -/
namespace Go.Proofs.YtdhoimjkgicneaaGreatDoor
open Go Go.RowKit

theorem box3w (w : World) (a b c : Value) (t : TypeId) {W w1 : World} (hb : Below W.heap.size W w1) (hW : W.heap = (w.alloc (.cells #[a, b, c] t)).heap) :
    w1.cell? ⟨w.heap.size, 0, none⟩ = some a ∧ w1.cell? ⟨w.heap.size, 1, none⟩ = some b ∧ w1.cell? ⟨w.heap.size, 2, none⟩ = some c ∧ w.heap.size < w1.heap.size := by
  have hz : w.heap.size < W.heap.size := by rw [hW]; simp
  have hc : ∀ i, w1.cell? ⟨w.heap.size, i, none⟩ = (w.alloc (.cells #[a, b, c] t)).cell? ⟨w.heap.size, i, none⟩ := fun i => by
    rw [hb.cell (p := ⟨w.heap.size, i, none⟩) hz]
    exact World.cell?_of_block (by rw [hW])
  refine ⟨?_, ?_, ?_, ?_⟩
  · rw [hc]; simp
  · rw [hc]; simp
  · rw [hc]; simp
  · have := hb.size; omega

theorem past {w : World} {a : Addr} {v : Value} (h : w.cell? a = some v) (hz : a.block < w.heap.size) (o : Obj) : (w.alloc o).cell? a = some v := by
  rw [← h]; exact World.cell?_of_block (w := w) (Below.heap_alloc _ _ _ hz)

set_option maxHeartbeats 400000 in
theorem kind_in (k : Nat) (w : World) (h1 : 1 ≤ k) (h2 : k ≤ 13) (s : ByteArray) (z : Int) (x y r : Bool) (hz : 1 < w.heap.size)
    (c0 : w.cell? ⟨1, k * 5, none⟩ = some (.string s)) (c1 : w.cell? ⟨1, k * 5 + 1, none⟩ = some (.int .i64 z))
    (c2 : w.cell? ⟨1, k * 5 + 2, none⟩ = some (.bool x)) (c3 : w.cell? ⟨1, k * 5 + 3, none⟩ = some (.bool y)) (c4 : w.cell? ⟨1, k * 5 + 4, none⟩ = some (.bool r)) :
    Calls Tryz.prog 62 #[.int .i64 k] w fun e w' => e = .returned (.agg #[.string s, .int .i64 z, .bool x, .bool y, .bool r]) ∧ Below w.heap.size w w' := by
  have d0 := past c0 hz
  have d1 := past c1 hz
  have d2 := past c2 hz
  have d3 := past c3 hz
  have d4 := past c4 hz
  clear c0 c1 c2 c3 c4
  go_enter Tryz.func62, Tryz.ntmps62
  go_wp2
  exact bodyPost_ret (v := .agg #[.string s, .int .i64 z, .bool x, .bool y, .bool r]) (by simp [results, Tryz.results62, go_sem]) rfl ⟨rfl, (Below.refl _ _).alloc (Nat.le_refl _) _⟩

set_option maxHeartbeats 400000 in
theorem kind_out (k : Int) (w : World) (h : k < 1 ∨ 13 < k) :
    Calls Tryz.prog 62 #[.int .i64 k] w fun e w' => e = .returned (.agg #[.string ⟨#[]⟩, .int .i64 0, .bool false, .bool false, .bool false]) ∧ Below w.heap.size w w' := by
  rcases h with h | h
  all_goals
    go_enter Tryz.func62, Tryz.ntmps62
    go_wp2
    exact bodyPost_ret (v := .agg #[.string ⟨#[]⟩, .int .i64 0, .bool false, .bool false, .bool false]) (by simp [results, Tryz.results62, go_sem]) rfl ⟨rfl, (Below.refl _ _).alloc (Nat.le_refl _) _⟩

end Go.Proofs.YtdhoimjkgicneaaGreatDoor
