/- Texts of this proof laid together: DevH, MemN. -/
import Derived.Test.YtdhoimjkgicneacDoorLot17
import Derived.Deep.RegionWith
import Derived.Test.YtdhoimjkgicneacDoorLot10
import Derived.Laws.BitsAllLaws
/- What the program's DevText does. -/
namespace Go.Proofs.YtdhoimjkgicneacDoor
open Go Go.RowKit

theorem later {W w1 w2 : World} {a : Addr} {v : Value} (hb : Below W.heap.size W w2) (hW : W.heap = w1.heap) (h : w1.cell? a = some v) (hz : a.block < w1.heap.size) (T : Tabs w1) :
    w2.cell? a = some v ∧ Tabs w2 ∧ w1.heap.size ≤ w2.heap.size := by
  have hs := hb.size
  have hb1 : ∀ k, k < w1.heap.size → w2.heap[k]? = w1.heap[k]? := fun k hk => by rw [hb.block k (by rw [hW]; exact hk), hW]
  refine ⟨?_, ?_, by rw [hW] at hs; exact hs⟩
  · rw [← h]; exact World.cell?_of_block (hb1 _ hz)
  · exact T.of_blocks hb1 (by rw [hW] at hs; exact hs)

set_option maxHeartbeats 400000 in
theorem impl_text_no (k n p : Int) (w : World) (T : Tabs w) (hk : okB k n p = false) :
    Calls Tryd.prog 55 #[.agg #[.int .i64 k, .int .i64 n, .int .i64 p]] w fun e w' => e = .returned (.string ⟨(textL k n p).toArray⟩) ∧ Below w.heap.size w w' := by
  rw [text_no hk]
  go_enter Tryd.func55, Tryd.ntmps55
  go_wp2_with (go_at_call 44; refine (impl_ok k n p _ (T.alloc _)).mono ?_; rintro e w1 ⟨rfl, hb⟩)
  go_ret
  exact ⟨rfl, (box3 hb).2.2.2.2⟩

set_option maxHeartbeats 400000 in
theorem impl_text_int (n p : Int) (w : World) (T : Tabs w) (hk : okB 11 n p = true) :
    Calls Tryd.prog 55 #[.agg #[.int .i64 11, .int .i64 n, .int .i64 p]] w fun e w' => e = .returned (.string ⟨(textL 11 n p).toArray⟩) ∧ Below w.heap.size w w' := by
  rw [text_int hk]
  have hn : -32768 ≤ n ∧ n ≤ 32767 ∧ p = 0 := by simpa [okB] using hk
  obtain ⟨n1, n2, -⟩ := hn
  go_enter Tryd.func55, Tryd.ntmps55
  go_wp2_with fail
  refine (impl_ok 11 n p _ (T.alloc _)).mono ?_
  rintro e w1 ⟨rfl, hb⟩
  obtain ⟨c0, c1, c2, hz, hb1⟩ := box3 hb
  have HB : Hid (Below w.heap.size w w1) := hb1
  have T1 : Tabs w1 := T.below hb1 (Nat.le_refl _)
  clear hb hb1
  go_wp2_with (go_at_call 58; refine (impl_itoa n _ (by omega) (by omega) T1).mono ?_; rintro e w2 ⟨rfl, hb⟩)
  go_ret
  exact ⟨rfl, HB.out.trans (hb.mono (by omega))⟩

set_option maxHeartbeats 400000 in
theorem impl_text_dec (n p : Int) (w : World) (T : Tabs w) (hk : okB 12 n p = true) :
    Calls Tryd.prog 55 #[.agg #[.int .i64 12, .int .i64 n, .int .i64 p]] w fun e w' => e = .returned (.string ⟨(textL 12 n p).toArray⟩) ∧ Below w.heap.size w w' := by
  rw [text_dec hk]
  have hn : -999999999 ≤ n ∧ n ≤ 999999999 ∧ 1 ≤ p ∧ p ≤ 6 ∧ (p = 1 ∨ n.tmod 10 ≠ 0) := by unfold okB at hk; rw [if_neg (by decide), if_pos rfl] at hk; exact of_decide_eq_true hk
  obtain ⟨q, rfl⟩ : ∃ q : Nat, p = q := ⟨p.toNat, by omega⟩
  rw [show (q : Int).toNat = q from rfl]
  obtain ⟨n1, n2, n3, n4, -⟩ := hn
  go_enter Tryd.func55, Tryd.ntmps55
  go_wp2_with fail
  refine (impl_ok 12 n q _ (T.alloc _)).mono ?_
  rintro e w1 ⟨rfl, hb⟩
  obtain ⟨c0, c1, c2, hz, hb1⟩ := box3 hb
  have HB : Hid (Below w.heap.size w w1) := hb1
  have T1 : Tabs w1 := T.below hb1 (Nat.le_refl _)
  clear hb hb1
  go_wp2_with (go_at_call 74; refine (impl_dec n q _ (by omega) (by omega) (by omega) T1).mono ?_; rintro e w2 ⟨rfl, hb⟩)
  go_ret
  exact ⟨rfl, HB.out.trans (hb.mono (by omega))⟩

set_option maxHeartbeats 400000 in
theorem impl_text_word (n p : Int) (w : World) (T : Tabs w) (hk : okB 13 n p = true) :
    Calls Tryd.prog 55 #[.agg #[.int .i64 13, .int .i64 n, .int .i64 p]] w fun e w' => e = .returned (.string ⟨(textL 13 n p).toArray⟩) ∧ Below w.heap.size w w' := by
  rw [text_word hk]
  have hn : 0 ≤ n ∧ n ≤ 3 ∧ p = 0 := by simpa [okB] using hk
  obtain ⟨h0, h3, -⟩ := hn
  have h4 : n = 0 ∨ n = 1 ∨ n = 2 ∨ n = 3 := by omega
  clear h0 h3
  rcases h4 with rfl | rfl | rfl | rfl
  all_goals
    go_enter Tryd.func55, Tryd.ntmps55
    go_wp2_with fail
    refine (impl_ok 13 _ p _ (T.alloc _)).mono ?_
    rintro e w1 ⟨rfl, hb⟩
    obtain ⟨c0, c1, c2, hz, hb1⟩ := box3 hb
    have HB : Hid (Below w.heap.size w w1) := hb1
    have T1 : Tabs w1 := T.below hb1 (Nat.le_refl _)
    clear hb hb1
    have cw0 := T1.wd 0 (by decide)
    have cw1 := T1.wd 1 (by decide)
    have cw2 := T1.wd 2 (by decide)
    have cw3 := T1.wd 3 (by decide)
    clear T T1
    go_wp2
    go_ret
    exact ⟨rfl, HB.out⟩

set_option maxHeartbeats 400000 in
theorem impl_text_dev (k n p : Int) (w : World) (T : Tabs w) (hk : okB k n p = true) (hK : k < 11 ∨ 13 < k) :
    Calls Tryd.prog 55 #[.agg #[.int .i64 k, .int .i64 n, .int .i64 p]] w fun e w' => e = .returned (.string ⟨(textL k n p).toArray⟩) ∧ Below w.heap.size w w' := by
  rw [text_dev hk hK]
  have hn : 0 ≤ n ∧ n < sizeZ k := by
    unfold okB at hk; rw [if_neg (by omega), if_neg (by omega), if_neg (by omega)] at hk
    have := of_decide_eq_true hk; omega
  have hz := sizeZ_bd k
  have b1 : (k == 11) = false := by simp; omega
  have b2 : (k == 12) = false := by simp; omega
  have b3 : (k == 13) = false := by simp; omega
  have n1 : 0 ≤ n := hn.1
  have n2 : n ≤ 64 := by omega
  have l1 := letterL_len k
  have l2 := itoa_len (n := n) (by omega) (by omega)
  clear hn hz hK
  go_enter Tryd.func55, Tryd.ntmps55
  go_wp2_with fail
  refine (impl_ok k n p _ (T.alloc _)).mono ?_
  rintro e w1 ⟨rfl, hb⟩
  obtain ⟨c0, c1, c2, hz, hb1⟩ := box3 hb
  have HB : Hid (Below w.heap.size w w1) := hb1
  have T1 : Tabs w1 := T.below hb1 (Nat.le_refl _)
  clear hb hb1
  go_wp2
  go_region_with (first
    | (go_at_call 75; refine (impl_letter k _ ?_).mono ?_; (first | exact T1 | exact T1.drew); rintro e w2 ⟨rfl, hb⟩; obtain ⟨d1, T2, dz⟩ := later (w1 := w1) hb rfl c1 hz T1)
    | (go_at_call 58; refine (impl_itoa n _ (by omega) (by omega) ?_).mono ?_; (first | exact T2 | exact T2.drew); rintro e w3 ⟨rfl, hb3⟩))
  all_goals
    go_wp2
    go_ret
    exact ⟨ret_str (str_cat _ _), (HB.out.drew.trans (hb.mono (by show _ ≤ w1.heap.size; omega))).trans (hb3.mono (by omega))⟩

theorem impl_text (k n p : Int) (w : World) (T : Tabs w) :
    Calls Tryd.prog 55 #[.agg #[.int .i64 k, .int .i64 n, .int .i64 p]] w fun e w' => e = .returned (.string ⟨(textL k n p).toArray⟩) ∧ Below w.heap.size w w' := by
  cases hk : okB k n p with
  | false => exact impl_text_no k n p w T hk
  | true =>
    by_cases h1 : k = 11
    · subst h1; exact impl_text_int n p w T hk
    by_cases h2 : k = 12
    · subst h2; exact impl_text_dec n p w T hk
    by_cases h3 : k = 13
    · subst h3; exact impl_text_word n p w T hk
    exact impl_text_dev k n p w T hk (by omega)

end Go.Proofs.YtdhoimjkgicneacDoor

/- A bit put by or, and by and-not: the numbers. -/
namespace Go.Proofs.YtdhoimjkgicneacDoor
open Go Go.RowKit

theorem or_pow {y k : Nat} (h : y / 2 ^ k % 2 = 0) : y ||| 2 ^ k = y + 2 ^ k := by
  have h1 := Nat.div_add_mod y (2 ^ k)
  have h2 := Nat.mod_lt y (Nat.two_pow_pos k)
  obtain ⟨s, hs⟩ : ∃ s, y / 2 ^ k = 2 * s := ⟨y / 2 ^ k / 2, by omega⟩
  obtain ⟨r, hr⟩ : ∃ r, y % 2 ^ k = r := ⟨_, rfl⟩
  rw [hs, hr] at h1
  rw [hr] at h2
  have e1 : y = 2 ^ (k + 1) * s + r := by rw [Nat.pow_succ, Nat.mul_assoc]; exact h1.symm
  have e2 : 2 ^ (k + 1) * s + r = 2 ^ (k + 1) * s ||| r := Nat.two_pow_add_eq_or_of_lt (by rw [Nat.pow_succ]; omega) s
  have e3 : 2 ^ k * 1 + r = 2 ^ k * 1 ||| r := Nat.two_pow_add_eq_or_of_lt h2 1
  have e4 : 2 ^ (k + 1) * s + (2 ^ k + r) = 2 ^ (k + 1) * s ||| (2 ^ k + r) := Nat.two_pow_add_eq_or_of_lt (by rw [Nat.pow_succ]; omega) s
  rw [Nat.mul_one] at e3
  have e5 : y + 2 ^ k = 2 ^ (k + 1) * s + (2 ^ k + r) := by omega
  rw [e5, e4, e3, e1, e2, Nat.or_assoc, Nat.or_comm r]

theorem turn_or (x k : Nat) : x ||| 2 ^ k = turnN x k true := by
  unfold turnN
  by_cases h : x / 2 ^ k % 2 = 1
  · have e : (x / 2 ^ k % 2 == 1) = true := by simp [h]
    rw [e, if_pos rfl]
    apply Nat.eq_of_testBit_eq
    intro j
    rw [Nat.testBit_or, Nat.testBit_two_pow]
    by_cases hj : k = j
    · subst hj
      simp [Nat.testBit_eq_decide_div_mod_eq, h]
    · simp [hj]
  · have e : (x / 2 ^ k % 2 == 1) = false := by simp [h]
    rw [e, if_neg (by simp), if_pos rfl]
    exact or_pow (by omega)

theorem turn_andNot (x k : Nat) (hx : x < 18446744073709551616) (hk : k ≤ 63) : x &&& (18446744073709551615 - 2 ^ k) = turnN x k false := by
  have hp : 2 ^ k < 2 ^ 64 := Nat.pow_lt_pow_right (by omega) (by omega)
  have e0 : 18446744073709551615 - 2 ^ k = 2 ^ 64 - (2 ^ k + 1) := by omega
  have ht : ∀ j, (x &&& (18446744073709551615 - 2 ^ k)).testBit j = (x.testBit j && !decide (k = j)) := by
    intro j
    rw [Nat.testBit_and, e0, Nat.testBit_two_pow_sub_succ hp, Nat.testBit_two_pow]
    by_cases hj : j < 64
    · simp [hj]
    · rw [Nat.testBit_lt_two_pow (x := x) (i := j) (Nat.lt_of_lt_of_le hx (show 18446744073709551616 ≤ 2 ^ j from Nat.pow_le_pow_right (n := 2) (by omega) (show 64 ≤ j by omega)))]
      simp
  unfold turnN
  by_cases h : x / 2 ^ k % 2 = 1
  · have e : (x / 2 ^ k % 2 == 1) = true := by simp [h]
    rw [e, if_neg (by simp), if_neg (by simp)]
    have hle : 2 ^ k ≤ x := turn_le h
    have hy : (x - 2 ^ k) / 2 ^ k % 2 = 0 := by
      have := Nat.sub_mul_div x (2 ^ k) 1
      rw [Nat.mul_one] at this
      rw [this]
      omega
    have ho := or_pow hy
    rw [show x - 2 ^ k + 2 ^ k = x by omega] at ho
    apply Nat.eq_of_testBit_eq
    intro j
    rw [ht j]
    have hj2 : x.testBit j = ((x - 2 ^ k).testBit j || decide (k = j)) := by
      rw [← Nat.testBit_two_pow, ← Nat.testBit_or, ho]
    rw [hj2]
    by_cases hj : k = j
    · subst hj
      simp [Nat.testBit_eq_decide_div_mod_eq, hy]
    · simp [hj]
  · have e : (x / 2 ^ k % 2 == 1) = false := by simp [h]
    rw [e, if_pos rfl]
    apply Nat.eq_of_testBit_eq
    intro j
    rw [ht j]
    by_cases hj : k = j
    · subst hj
      simp [Nat.testBit_eq_decide_div_mod_eq, h]
    · simp [hj]

/-- In the walk's own spelling. -/
theorem bits_or (x k : Nat) (hx : x < 18446744073709551616) (hk : k ≤ 63) : bits .or .u64 (x : Int) ((2 ^ k : Nat) : Int) = ((turnN x k true : Nat) : Int) := by
  rw [u64_or_nat x (2 ^ k) hx (Nat.pow_lt_pow_right (a := 2) (by omega) (show k < 64 by omega)), turn_or]
theorem bits_andNot (x k : Nat) (hx : x < 18446744073709551616) (hk : k ≤ 63) : bits .andNot .u64 (x : Int) ((2 ^ k : Nat) : Int) = ((turnN x k false : Nat) : Int) := by
  rw [u64_andNot_nat x (2 ^ k) hx (Nat.pow_lt_pow_right (a := 2) (by omega) (show k < 64 by omega)), turn_andNot x k hx hk]
theorem wrap_pow (k : Nat) (hk : k ≤ 63) : IntKind.u64.wrap (2 ^ k) = ((2 ^ k : Nat) : Int) := by
  have hp : 2 ^ k < 18446744073709551616 := Nat.pow_lt_pow_right (a := 2) (by omega) (show k < 64 by omega)
  have e : ((2 : Int) ^ k) = ((2 ^ k : Nat) : Int) := by simp
  rw [e, IntKind.wrap_u64]
  obtain ⟨p, hp2⟩ : ∃ p, p = 2 ^ k := ⟨_, rfl⟩
  rw [← hp2] at hp ⊢
  omega
theorem and_one (x : Nat) (hx : x < 18446744073709551616) : bits .and .u64 (x : Int) 1 = ((x % 2 : Nat) : Int) := by
  have := u64_and_nat x 1 hx (by omega)
  rw [Nat.and_one_is_mod] at this
  exact this
theorem shr_bit (x k : Nat) : (x : Int) / 2 ^ k = ((x / 2 ^ k : Nat) : Int) := by simp

end Go.Proofs.YtdhoimjkgicneacDoor
