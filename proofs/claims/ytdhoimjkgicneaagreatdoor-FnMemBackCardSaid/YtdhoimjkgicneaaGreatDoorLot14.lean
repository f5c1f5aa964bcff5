/- Texts of this proof laid together: MemC, MemD, MemE. -/
import Derived.Test.YtdhoimjkgicneaaGreatDoorLot13
import Derived.Test.YtdhoimjkgicneaaGreatDoorLot1
/- Places counted round, and bits of words: the specification's. -/
namespace Go.Proofs.YtdhoimjkgicneaaGreatDoor
open Go Go.RowKit

/-- How many places there are of a kind. -/
def szR (k : Int) : Int := if k = 6 then 8 else sizeZ k
/-- The place of a device, counted round. -/
def atZ (k n : Int) : Int := if szR k = 0 then 0 else n % szR k

theorem szR_bd (k : Int) : 0 ≤ szR k ∧ szR k ≤ 64 := by
  unfold szR
  split
  · omega
  · exact sizeZ_bd k
theorem atZ_bd (k n : Int) : 0 ≤ atZ k n ∧ atZ k n ≤ 63 := by
  have := szR_bd k
  unfold atZ
  split
  · omega
  · have h1 := Int.emod_nonneg n (b := szR k) (by omega)
    have h2 := Int.emod_lt_of_pos n (b := szR k) (by omega)
    omega
theorem round_mod {n s : Int} (hs : 0 < s) : n % s = if n.tmod s < 0 then n.tmod s + s else n.tmod s := by
  by_cases hn : 0 ≤ n
  · rw [Int.tmod_eq_emod_of_nonneg hn]
    have := Int.emod_nonneg n (b := s) (by omega)
    rw [if_neg (by omega)]
  · obtain ⟨m, rfl⟩ : ∃ m, n = -m := ⟨-n, by omega⟩
    rw [Int.neg_tmod, Int.tmod_eq_emod_of_nonneg (by omega)]
    have h1 := Int.emod_nonneg m (b := s) (by omega)
    have h2 := Int.emod_lt_of_pos m hs
    by_cases h0 : m % s = 0
    · rw [h0, if_neg (by omega)]
      have : s ∣ m := Int.dvd_of_emod_eq_zero h0
      have : s ∣ -m := Int.dvd_neg.2 this
      rw [Int.emod_eq_zero_of_dvd this]
      rfl
    · rw [if_pos (by omega)]
      have e : -m = (s - m % s) + s * (-(m / s) - 1) := by
        have := Int.mul_ediv_add_emod m s
        rw [Int.mul_sub, Int.mul_neg, Int.mul_one]
        omega
      rw [e, Int.add_mul_emod_self_left, Int.emod_eq_of_lt (by omega) (by omega)]
      omega

/-- A bit of a word that is put. -/
def turnN (x k : Nat) (b : Bool) : Nat := if (x / 2 ^ k % 2 == 1) = b then x else if b then x + 2 ^ k else x - 2 ^ k

theorem div_step (x j : Nat) : x / 2 ^ j / 2 = x / 2 ^ (j + 1) := by rw [Nat.div_div_eq_div_mul, Nat.pow_succ]

set_option maxHeartbeats 400000 in
theorem spec_bit (x k : Nat) (w : World) (hx : x < 18446744073709551616) (hk : k ≤ 63) :
    Calls Tryz.prog 98 #[.int .u64 x, .int .i64 k] w fun e w' => e = .returned (.bool (x / 2 ^ k % 2 == 1)) ∧ w' = w := by
  go_enter Tryz.func98, Tryz.ntmps98
  go_wp2
  go_loop [0, 5] (fun u i => ∃ (j y : Nat), j ≤ k ∧ i = .int .i64 j ∧ u = .int .u64 y ∧ y = x / 2 ^ j ∧ y ≤ x) (fun _ i => k - (intOf i).toNat)
  case atStart => exact ⟨0, x, by omega, rfl, rfl, by simp, Nat.le_refl _⟩
  case round =>
    obtain ⟨j, y, hj, rfl, rfl, hy, hyx⟩ := hrel
    have HY : Hid (y = x / 2 ^ j) := hy
    clear hy
    by_cases hlt : j < k
    · go_wp2
      go_round
      case rel => exact ⟨j + 1, y / 2, by omega, by go_num, by go_num, by rw [HY.out, div_step], by omega⟩
      case measure => simp [intOf]; omega
    · have e : j = k := by omega
      subst e
      go_wp2
      go_ret
      refine ⟨ret_bool ?_, rfl⟩
      rw [← HY.out, Bool.eq_iff_iff]
      simp
      omega

theorem turn_lt {x k : Nat} (hx : x < 18446744073709551616) (hk : k ≤ 63) (hb : x / 2 ^ k % 2 ≠ 1) : x + 2 ^ k < 18446744073709551616 := by
  have hp : 0 < 2 ^ k := Nat.two_pow_pos k
  have h1 := Nat.div_add_mod x (2 ^ k)
  have h2 := Nat.mod_lt x hp
  obtain ⟨q, hq⟩ : ∃ q, q = x / 2 ^ k := ⟨_, rfl⟩
  rw [← hq] at h1 hb
  obtain ⟨p, hp2⟩ : ∃ p, p = 2 ^ (63 - k) := ⟨_, rfl⟩
  have hpp : 2 ^ k * (2 * p) = 18446744073709551616 := by
    rw [hp2, ← Nat.pow_succ', ← Nat.pow_add, show k + (63 - k + 1) = 64 by omega]
  have hqlt : q < 2 * p := by
    rw [hq]
    refine (Nat.div_lt_iff_lt_mul hp).2 ?_
    rw [Nat.mul_comm, hpp]; exact hx
  have hq2 : q + 2 ≤ 2 * p := by omega
  have h3 : 2 ^ k * (q + 2) ≤ 2 ^ k * (2 * p) := Nat.mul_le_mul_left _ hq2
  rw [hpp, Nat.mul_add] at h3
  omega

theorem turn_le {x k : Nat} (hb : x / 2 ^ k % 2 = 1) : 2 ^ k ≤ x := by
  apply Classical.byContradiction
  intro h
  rw [Nat.div_eq_of_lt (by omega)] at hb
  omega

theorem szR_out {k : Int} (h : k < 1 ∨ 10 < k) : szR k = 0 := by unfold szR; rw [if_neg (by omega), sizeZ_out h]
theorem tmod_bd (n : Int) {s : Int} (hs : 0 < s) : -s < n.tmod s ∧ n.tmod s < s :=
  ⟨by have := Int.tmod_lt_of_pos (-n) hs; rw [Int.neg_tmod] at this; omega, Int.tmod_lt_of_pos n hs⟩

set_option maxHeartbeats 4000000 in
theorem spec_at (k n p : Int) (w : World) :
    Calls Tryz.prog 99 #[.agg #[.int .i64 k, .int .i64 n, .int .i64 p]] w fun e w' => e = .returned (.int .i64 (atZ k n)) ∧ Below w.heap.size w w' := by
  by_cases h6 : k = 6
  · subst h6
    have e : atZ 6 n = if n.tmod 8 < 0 then n.tmod 8 + 8 else n.tmod 8 := round_mod (n := n) (s := 8) (by omega)
    rw [e]
    clear e
    have hb := tmod_bd n (s := 8) (by omega)
    go_enter Tryz.func99, Tryz.ntmps99
    go_wp2_with (go_at_call 90; refine (spec_size _ _).mono ?_; rintro e w' ⟨rfl, rfl⟩)
    all_goals
      go_ret
      exact ⟨ret_int (by rfl), (Below.refl _ _).alloc (Nat.le_refl _) _⟩
  · obtain ⟨s, hs⟩ : ∃ s, s = sizeZ k := ⟨_, rfl⟩
    have hs2 := sizeZ_bd k
    have hc : ∀ w, Calls Tryz.prog 90 #[.int .i64 k] w fun e w' => e = .returned (.int .i64 s) ∧ w' = w := fun w => hs ▸ spec_size k w
    rw [← hs] at hs2
    have ha : atZ k n = if s = 0 then 0 else n % s := by
      unfold atZ szR
      rw [if_neg h6, ← hs]
    rw [ha]
    clear ha hs
    by_cases h0 : s = 0
    · subst h0
      rw [if_pos rfl]
      go_enter Tryz.func99, Tryz.ntmps99
      go_wp2_with (go_at_call 90; refine (hc _).mono ?_; rintro e w' ⟨rfl, rfl⟩)
      all_goals
        go_ret
        exact ⟨ret_int (by rfl), (Below.refl _ _).alloc (Nat.le_refl _) _⟩
    · rw [if_neg h0, round_mod (n := n) (s := s) (by omega)]
      have hb := tmod_bd n (s := s) (by omega)
      go_enter Tryz.func99, Tryz.ntmps99
      go_wp2_with (go_at_call 90; refine (hc _).mono ?_; rintro e w' ⟨rfl, rfl⟩)
      all_goals
        go_ret
        exact ⟨ret_int (by first | rfl | rw [if_pos (by assumption)] | rw [if_neg (by assumption)]), (Below.refl _ _).alloc (Nat.le_refl _) _⟩

end Go.Proofs.YtdhoimjkgicneaaGreatDoor

/- The specification's MemBit. -/
namespace Go.Proofs.YtdhoimjkgicneaaGreatDoor
open Go Go.RowKit

/-- A given bit. -/
def givenB (v : MemV) (k : Int) : Bool :=
  if k = 0 then true else if k = 2 then !v.ran else if k = 3 then v.fault else if k = 4 then decide (500 ≤ v.time % 1000) else false

section
variable (v : MemV)
theorem MemV.r0 : v.row[0]? = some (.int .u32 v.x) := v.row_get (by omega)
theorem MemV.r1 : v.row[1]? = some (.int .u32 v.y) := v.row_get (by omega)
theorem MemV.r2 : v.row[2]? = some (.int .u64 v.m) := v.row_get (by omega)
theorem MemV.r3 : v.row[3]? = some (.int .u16 v.s) := v.row_get (by omega)
theorem MemV.r4 : v.row[4]? = some (.int .u32 v.e) := v.row_get (by omega)
theorem MemV.r133 : v.row[133]? = some (.int .u32 v.time) := v.row_get (by omega)
theorem MemV.r134 : v.row[134]? = some (.bool v.ran) := v.row_get (by omega)
theorem MemV.r135 : v.row[135]? = some (.bool v.fault) := v.row_get (by omega)
end

theorem given0 (v : MemV) : givenB v 0 = true := rfl
theorem given2 (v : MemV) : givenB v 2 = !v.ran := rfl
theorem given3 (v : MemV) : givenB v 3 = v.fault := rfl
theorem given4 (v : MemV) : givenB v 4 = decide (500 ≤ v.time % 1000) := rfl
theorem given_no (v : MemV) {k : Int} (h : k ≠ 0 ∧ k ≠ 2 ∧ k ≠ 3 ∧ k ≠ 4) : givenB v k = false := by
  unfold givenB
  rw [if_neg h.1, if_neg h.2.1, if_neg h.2.2.1, if_neg h.2.2.2]

set_option maxHeartbeats 4000000 in
theorem spec_given (v : MemV) (k : Int) (w : World) (ht : v.time < 4294967296) :
    Calls Tryz.prog 126 #[.agg v.row, .int .i64 k] w fun e w' => e = .returned (.bool (givenB v k)) ∧ Below w.heap.size w w' := by
  have c1 := v.r133
  have c2 := v.r134
  have c3 := v.r135
  have hB : Below w.heap.size w (w.alloc (.cells v.row 37)) := (Below.refl _ _).alloc (Nat.le_refl _) _
  by_cases h0 : k = 0
  · subst h0
    go_enter Tryz.func126, Tryz.ntmps126
    go_wp2
    go_ret
    exact ⟨ret_bool rfl, hB⟩
  by_cases h2 : k = 2
  · subst h2
    go_enter Tryz.func126, Tryz.ntmps126
    go_wp2
    go_ret
    exact ⟨ret_bool rfl, hB⟩
  by_cases h3 : k = 3
  · subst h3
    go_enter Tryz.func126, Tryz.ntmps126
    go_wp2
    go_ret
    exact ⟨ret_bool rfl, hB⟩
  by_cases h4 : k = 4
  · subst h4
    go_enter Tryz.func126, Tryz.ntmps126
    go_wp2
    go_ret
    refine ⟨ret_bool ?_, hB⟩
    rw [given4, Bool.eq_iff_iff]
    simp
    omega
  rw [given_no v ⟨h0, h2, h3, h4⟩]
  go_enter Tryz.func126, Tryz.ntmps126
  go_wp2
  go_ret
  exact ⟨ret_bool rfl, hB⟩

end Go.Proofs.YtdhoimjkgicneaaGreatDoor

/- The specification's MemBit. -/
namespace Go.Proofs.YtdhoimjkgicneaaGreatDoor
open Go Go.RowKit

/-- The bit of a memory that an operand asks for. -/
def mbit (v : MemV) (k n : Int) : Bool :=
  if k = 1 then v.x / 2 ^ (atZ k n).toNat % 2 == 1 else if k = 2 then v.y / 2 ^ (atZ k n).toNat % 2 == 1 else if k = 3 then v.m / 2 ^ (atZ k n).toNat % 2 == 1
  else if k = 4 then v.s / 2 ^ (atZ k n).toNat % 2 == 1 else if k = 5 then v.e / 2 ^ (atZ k n).toNat % 2 == 1 else if k = 6 then givenB v (atZ k n)
  else if k = 7 then v.tD (atZ k n).toNat else if k = 8 then v.cD (atZ k n).toNat else false

theorem two_boxes (v : MemV) (w w1 : World) (cs : Array Value) (t1 t2 : TypeId)
    (hB : Below ((w.alloc (.cells v.row t1)).alloc (.cells cs t2)).heap.size ((w.alloc (.cells v.row t1)).alloc (.cells cs t2)) w1) :
    MemAt w.heap.size v w1 ∧ (∀ k c, cs[k]? = some c → w1.cell? ⟨w.heap.size + 1, k, none⟩ = some c) ∧ Below w.heap.size w w1 := by
  have h1 : Below (w.heap.size + 1) (w.alloc (.cells v.row t1)) ((w.alloc (.cells v.row t1)).alloc (.cells cs t2)) := (Below.refl _ _).alloc (by simp) _
  refine ⟨(((MemAt.alloc v w t1).below h1 (by omega)).below hB (by simp; omega)), fun k c hk => ?_, ?_⟩
  · rw [World.cell?_of_block (w := (w.alloc (.cells v.row t1)).alloc (.cells cs t2)) (hB.block _ (by simp))]
    simp [hk]
  · exact (((Below.refl w.heap.size w).alloc (Nat.le_refl _) _).alloc (by simp) _).trans (hB.mono (by simp; omega))

theorem atZ_lt {k n : Int} {s : Int} (h : szR k = s) (hs : 0 < s) : 0 ≤ atZ k n ∧ atZ k n < s := by
  unfold atZ
  rw [h, if_neg (by omega)]
  exact ⟨Int.emod_nonneg n (by omega), Int.emod_lt_of_pos n hs⟩

theorem at_nat (k n p : Int) : ∃ j : Nat, atZ k n = j ∧ j ≤ 63 ∧ ∀ w, Calls Tryz.prog 99 #[.agg #[.int .i64 k, .int .i64 n, .int .i64 p]] w fun e w' => e = .returned (.int .i64 j) ∧ Below w.heap.size w w' := by
  have hz := atZ_bd k n
  obtain ⟨j, hj⟩ : ∃ j : Nat, atZ k n = j := ⟨(atZ k n).toNat, by omega⟩
  exact ⟨j, hj, by omega, fun w => hj ▸ spec_at k n p w⟩

set_option maxHeartbeats 4000000 in
theorem spec_membit1 (v : MemV) (n p : Int) (w : World) (hv : v.Ok) :
    Calls Tryz.prog 91 #[.agg v.row, .agg #[.int .i64 1, .int .i64 n, .int .i64 p]] w fun e w' => e = .returned (.bool (mbit v 1 n)) ∧ Below w.heap.size w w' := by
  obtain ⟨j, hj, hz, hc⟩ := at_nat 1 n p
  have e : mbit v 1 n = (v.x / 2 ^ j % 2 == 1) := by unfold mbit; rw [hj]; rfl
  rw [e]
  clear e hj
  have hx := hv.x
  go_enter Tryz.func91, Tryz.ntmps91
  go_wp2_with fail
  refine (hc _).mono ?_
  rintro e w1 ⟨rfl, hB⟩
  obtain ⟨hA, hC, hB⟩ := two_boxes v w w1 _ _ _ hB
  have c0 := hA.c 0 (by omega)
  rw [MemV.cell_x] at c0
  have d0 := hC 0 _ rfl
  go_wp2_with fail
  refine (spec_bit v.x j _ (by omega) (by omega)).mono ?_
  rintro e w2 ⟨rfl, rfl⟩
  go_wp2_with fail
  go_ret
  exact ⟨rfl, hB⟩

set_option maxHeartbeats 4000000 in
theorem spec_membit2 (v : MemV) (n p : Int) (w : World) (hv : v.Ok) :
    Calls Tryz.prog 91 #[.agg v.row, .agg #[.int .i64 2, .int .i64 n, .int .i64 p]] w fun e w' => e = .returned (.bool (mbit v 2 n)) ∧ Below w.heap.size w w' := by
  obtain ⟨j, hj, hz, hc⟩ := at_nat 2 n p
  have e : mbit v 2 n = (v.y / 2 ^ j % 2 == 1) := by unfold mbit; rw [hj]; rfl
  rw [e]
  clear e hj
  have hx := hv.y
  go_enter Tryz.func91, Tryz.ntmps91
  go_wp2_with fail
  refine (hc _).mono ?_
  rintro e w1 ⟨rfl, hB⟩
  obtain ⟨hA, hC, hB⟩ := two_boxes v w w1 _ _ _ hB
  have c0 := hA.c 1 (by omega)
  rw [MemV.cell_y] at c0
  have d0 := hC 0 _ rfl
  go_wp2_with fail
  refine (spec_bit v.y j _ (by omega) (by omega)).mono ?_
  rintro e w2 ⟨rfl, rfl⟩
  go_wp2_with fail
  go_ret
  exact ⟨rfl, hB⟩

set_option maxHeartbeats 4000000 in
theorem spec_membit3 (v : MemV) (n p : Int) (w : World) (hv : v.Ok) :
    Calls Tryz.prog 91 #[.agg v.row, .agg #[.int .i64 3, .int .i64 n, .int .i64 p]] w fun e w' => e = .returned (.bool (mbit v 3 n)) ∧ Below w.heap.size w w' := by
  obtain ⟨j, hj, hz, hc⟩ := at_nat 3 n p
  have e : mbit v 3 n = (v.m / 2 ^ j % 2 == 1) := by unfold mbit; rw [hj]; rfl
  rw [e]
  clear e hj
  have hx := hv.m
  go_enter Tryz.func91, Tryz.ntmps91
  go_wp2_with fail
  refine (hc _).mono ?_
  rintro e w1 ⟨rfl, hB⟩
  obtain ⟨hA, hC, hB⟩ := two_boxes v w w1 _ _ _ hB
  have c0 := hA.c 2 (by omega)
  rw [MemV.cell_m] at c0
  have d0 := hC 0 _ rfl
  go_wp2_with fail
  refine (spec_bit v.m j _ (by omega) (by omega)).mono ?_
  rintro e w2 ⟨rfl, rfl⟩
  go_wp2_with fail
  go_ret
  exact ⟨rfl, hB⟩

set_option maxHeartbeats 4000000 in
theorem spec_membit4 (v : MemV) (n p : Int) (w : World) (hv : v.Ok) :
    Calls Tryz.prog 91 #[.agg v.row, .agg #[.int .i64 4, .int .i64 n, .int .i64 p]] w fun e w' => e = .returned (.bool (mbit v 4 n)) ∧ Below w.heap.size w w' := by
  obtain ⟨j, hj, hz, hc⟩ := at_nat 4 n p
  have e : mbit v 4 n = (v.s / 2 ^ j % 2 == 1) := by unfold mbit; rw [hj]; rfl
  rw [e]
  clear e hj
  have hx := hv.s
  go_enter Tryz.func91, Tryz.ntmps91
  go_wp2_with fail
  refine (hc _).mono ?_
  rintro e w1 ⟨rfl, hB⟩
  obtain ⟨hA, hC, hB⟩ := two_boxes v w w1 _ _ _ hB
  have c0 := hA.c 3 (by omega)
  rw [MemV.cell_s] at c0
  have d0 := hC 0 _ rfl
  go_wp2_with fail
  refine (spec_bit v.s j _ (by omega) (by omega)).mono ?_
  rintro e w2 ⟨rfl, rfl⟩
  go_wp2_with fail
  go_ret
  exact ⟨rfl, hB⟩

set_option maxHeartbeats 4000000 in
theorem spec_membit5 (v : MemV) (n p : Int) (w : World) (hv : v.Ok) :
    Calls Tryz.prog 91 #[.agg v.row, .agg #[.int .i64 5, .int .i64 n, .int .i64 p]] w fun e w' => e = .returned (.bool (mbit v 5 n)) ∧ Below w.heap.size w w' := by
  obtain ⟨j, hj, hz, hc⟩ := at_nat 5 n p
  have e : mbit v 5 n = (v.e / 2 ^ j % 2 == 1) := by unfold mbit; rw [hj]; rfl
  rw [e]
  clear e hj
  have hx := hv.e
  go_enter Tryz.func91, Tryz.ntmps91
  go_wp2_with fail
  refine (hc _).mono ?_
  rintro e w1 ⟨rfl, hB⟩
  obtain ⟨hA, hC, hB⟩ := two_boxes v w w1 _ _ _ hB
  have c0 := hA.c 4 (by omega)
  rw [MemV.cell_e] at c0
  have d0 := hC 0 _ rfl
  go_wp2_with fail
  refine (spec_bit v.e j _ (by omega) (by omega)).mono ?_
  rintro e w2 ⟨rfl, rfl⟩
  go_wp2_with fail
  go_ret
  exact ⟨rfl, hB⟩

set_option maxRecDepth 100000 in
set_option maxHeartbeats 4000000 in
theorem spec_membit6 (v : MemV) (n p : Int) (w : World) (hv : v.Ok) :
    Calls Tryz.prog 91 #[.agg v.row, .agg #[.int .i64 6, .int .i64 n, .int .i64 p]] w fun e w' => e = .returned (.bool (mbit v 6 n)) ∧ Below w.heap.size w w' := by
  obtain ⟨j, hj, hz, hc⟩ := at_nat 6 n p
  have e : mbit v 6 n = givenB v j := by unfold mbit; rw [hj]; rfl
  rw [e]
  clear e hj
  go_enter Tryz.func91, Tryz.ntmps91
  go_wp2_with fail
  refine (hc _).mono ?_
  rintro e w1 ⟨rfl, hB⟩
  obtain ⟨hA, hC, hB⟩ := two_boxes v w w1 _ _ _ hB
  have d0 := hC 0 _ rfl
  have c0 := load_mem hA
  go_wp2_with (refine list_load (t := 37) rfl rfl rfl c0 ?_)
  refine (spec_given v j _ hv.time).mono ?_
  rintro e w2 ⟨rfl, hB2⟩
  have hB := hB.trans (hB2.mono hB.size)
  go_wp2_with fail
  go_ret
  exact ⟨rfl, hB⟩

set_option maxHeartbeats 4000000 in
theorem spec_membit7 (v : MemV) (n p : Int) (w : World) :
    Calls Tryz.prog 91 #[.agg v.row, .agg #[.int .i64 7, .int .i64 n, .int .i64 p]] w fun e w' => e = .returned (.bool (mbit v 7 n)) ∧ Below w.heap.size w w' := by
  obtain ⟨j, hj, hz, hc⟩ := at_nat 7 n p
  have e : mbit v 7 n = v.tD j := by unfold mbit; rw [hj]; rfl
  have h16 := atZ_lt (k := 7) (n := n) (s := 16) rfl (by omega)
  rw [hj] at h16
  rw [e]
  clear e hj
  have hlt : j < 16 := by omega
  go_enter Tryz.func91, Tryz.ntmps91
  go_wp2_with fail
  refine (hc _).mono ?_
  rintro e w1 ⟨rfl, hB⟩
  obtain ⟨hA, hC, hB⟩ := two_boxes v w w1 _ _ _ hB
  have c0 := hA.c (5 + j * 2) (by omega)
  rw [MemV.cell_tD v j hlt] at c0
  have d0 := hC 0 _ rfl
  go_wp2_with fail
  go_ret
  exact ⟨rfl, hB⟩

set_option maxHeartbeats 4000000 in
theorem spec_membit8 (v : MemV) (n p : Int) (w : World) :
    Calls Tryz.prog 91 #[.agg v.row, .agg #[.int .i64 8, .int .i64 n, .int .i64 p]] w fun e w' => e = .returned (.bool (mbit v 8 n)) ∧ Below w.heap.size w w' := by
  obtain ⟨j, hj, hz, hc⟩ := at_nat 8 n p
  have e : mbit v 8 n = v.cD j := by unfold mbit; rw [hj]; rfl
  have h16 := atZ_lt (k := 8) (n := n) (s := 16) rfl (by omega)
  rw [hj] at h16
  rw [e]
  clear e hj
  have hlt : j < 16 := by omega
  go_enter Tryz.func91, Tryz.ntmps91
  go_wp2_with fail
  refine (hc _).mono ?_
  rintro e w1 ⟨rfl, hB⟩
  obtain ⟨hA, hC, hB⟩ := two_boxes v w w1 _ _ _ hB
  have c0 := hA.c (37 + j * 3) (by omega)
  rw [MemV.cell_cD v j hlt] at c0
  have d0 := hC 0 _ rfl
  go_wp2_with fail
  go_ret
  exact ⟨rfl, hB⟩

set_option maxHeartbeats 4000000 in
theorem spec_membit0 (v : MemV) (k n p : Int) (w : World) (h : k < 1 ∨ 8 < k) :
    Calls Tryz.prog 91 #[.agg v.row, .agg #[.int .i64 k, .int .i64 n, .int .i64 p]] w fun e w' => e = .returned (.bool (mbit v k n)) ∧ Below w.heap.size w w' := by
  obtain ⟨j, hj, hz, hc⟩ := at_nat k n p
  have e : mbit v k n = false := by
    unfold mbit
    rw [if_neg (by omega), if_neg (by omega), if_neg (by omega), if_neg (by omega), if_neg (by omega), if_neg (by omega), if_neg (by omega), if_neg (by omega)]
  rw [e]
  clear e hj
  go_enter Tryz.func91, Tryz.ntmps91
  go_wp2_with fail
  refine (hc _).mono ?_
  rintro e w1 ⟨rfl, hB⟩
  obtain ⟨hA, hC, hB⟩ := two_boxes v w w1 _ _ _ hB
  have d0 := hC 0 _ rfl
  go_wp2_with fail
  go_ret
  exact ⟨rfl, hB⟩

theorem spec_membit (v : MemV) (k n p : Int) (w : World) (hv : v.Ok) :
    Calls Tryz.prog 91 #[.agg v.row, .agg #[.int .i64 k, .int .i64 n, .int .i64 p]] w fun e w' => e = .returned (.bool (mbit v k n)) ∧ Below w.heap.size w w' := by
  by_cases h : k < 1 ∨ 8 < k
  · exact spec_membit0 v k n p w h
  have : k = 1 ∨ k = 2 ∨ k = 3 ∨ k = 4 ∨ k = 5 ∨ k = 6 ∨ k = 7 ∨ k = 8 := by omega
  rcases this with rfl | rfl | rfl | rfl | rfl | rfl | rfl | rfl
  · exact spec_membit1 v n p w hv
  · exact spec_membit2 v n p w hv
  · exact spec_membit3 v n p w hv
  · exact spec_membit4 v n p w hv
  · exact spec_membit5 v n p w hv
  · exact spec_membit6 v n p w hv
  · exact spec_membit7 v n p w
  · exact spec_membit8 v n p w

end Go.Proofs.YtdhoimjkgicneaaGreatDoor
