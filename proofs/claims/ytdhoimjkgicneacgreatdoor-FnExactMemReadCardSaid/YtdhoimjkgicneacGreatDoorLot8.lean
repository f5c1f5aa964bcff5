/- Texts of this proof laid together: MemD, MemE, MemN. -/
import Derived.Test.YtdhoimjkgicneacGreatDoorLot7
import Derived.Laws.BitsAllLaws
/- The specification's MemBit. -/
namespace Go.Proofs.YtdhoimjkgicneacGreatDoor
open Go Go.RowKit

/-- A given bit. -/
def givenB (v : MemV) (k : Int) : Bool :=
  if k = 0 then true else if k = 2 then !v.ran else if k = 3 then v.fault else if k = 4 then decide (500 ≤ v.time % 1000) else false

section
variable (v : MemV)
theorem MemV.r0 : v.row[0]? = some (.int .u32 v.x) := v.row_get (by omega)
theorem MemV.r1 : v.row[1]? = some (.int .u32 v.y) := v.row_get (by omega)
theorem MemV.r2 : v.row[2]? = some (.int .u64 v.m) := v.row_get (by omega)
theorem MemV.r3 : v.row[3]? = some (.int .u16 v.s) := v.row_get (by omega)
theorem MemV.r4 : v.row[4]? = some (.int .u32 v.e) := v.row_get (by omega)
theorem MemV.r133 : v.row[133]? = some (.int .u32 v.time) := v.row_get (by omega)
theorem MemV.r134 : v.row[134]? = some (.bool v.ran) := v.row_get (by omega)
theorem MemV.r135 : v.row[135]? = some (.bool v.fault) := v.row_get (by omega)
end

theorem given0 (v : MemV) : givenB v 0 = true := rfl
theorem given2 (v : MemV) : givenB v 2 = !v.ran := rfl
theorem given3 (v : MemV) : givenB v 3 = v.fault := rfl
theorem given4 (v : MemV) : givenB v 4 = decide (500 ≤ v.time % 1000) := rfl
theorem given_no (v : MemV) {k : Int} (h : k ≠ 0 ∧ k ≠ 2 ∧ k ≠ 3 ∧ k ≠ 4) : givenB v k = false := by
  unfold givenB
  rw [if_neg h.1, if_neg h.2.1, if_neg h.2.2.1, if_neg h.2.2.2]

set_option maxHeartbeats 4000000 in
theorem spec_given (v : MemV) (k : Int) (w : World) (ht : v.time < 4294967296) :
    Calls Tryz.prog 88 #[.agg v.row, .int .i64 k] w fun e w' => e = .returned (.bool (givenB v k)) ∧ Below w.heap.size w w' := by
  have c1 := v.r133
  have c2 := v.r134
  have c3 := v.r135
  have hB : Below w.heap.size w (w.alloc (.cells v.row 36)) := (Below.refl _ _).alloc (Nat.le_refl _) _
  by_cases h0 : k = 0
  · subst h0
    go_enter Tryz.func88, Tryz.ntmps88
    go_wp2
    go_ret
    exact ⟨ret_bool rfl, hB⟩
  by_cases h2 : k = 2
  · subst h2
    go_enter Tryz.func88, Tryz.ntmps88
    go_wp2
    go_ret
    exact ⟨ret_bool rfl, hB⟩
  by_cases h3 : k = 3
  · subst h3
    go_enter Tryz.func88, Tryz.ntmps88
    go_wp2
    go_ret
    exact ⟨ret_bool rfl, hB⟩
  by_cases h4 : k = 4
  · subst h4
    go_enter Tryz.func88, Tryz.ntmps88
    go_wp2
    go_ret
    refine ⟨ret_bool ?_, hB⟩
    rw [given4, Bool.eq_iff_iff]
    simp
    omega
  rw [given_no v ⟨h0, h2, h3, h4⟩]
  go_enter Tryz.func88, Tryz.ntmps88
  go_wp2
  go_ret
  exact ⟨ret_bool rfl, hB⟩

end Go.Proofs.YtdhoimjkgicneacGreatDoor

/- The specification's MemBit. -/
namespace Go.Proofs.YtdhoimjkgicneacGreatDoor
open Go Go.RowKit

/-- The bit of a memory that an operand asks for. -/
def mbit (v : MemV) (k n : Int) : Bool :=
  if k = 1 then v.x / 2 ^ (atZ k n).toNat % 2 == 1 else if k = 2 then v.y / 2 ^ (atZ k n).toNat % 2 == 1 else if k = 3 then v.m / 2 ^ (atZ k n).toNat % 2 == 1
  else if k = 4 then v.s / 2 ^ (atZ k n).toNat % 2 == 1 else if k = 5 then v.e / 2 ^ (atZ k n).toNat % 2 == 1 else if k = 6 then givenB v (atZ k n)
  else if k = 7 then v.tD (atZ k n).toNat else if k = 8 then v.cD (atZ k n).toNat else false

theorem two_boxes (v : MemV) (w w1 : World) (cs : Array Value) (t1 t2 : TypeId)
    (hB : Below ((w.alloc (.cells v.row t1)).alloc (.cells cs t2)).heap.size ((w.alloc (.cells v.row t1)).alloc (.cells cs t2)) w1) :
    MemAt w.heap.size v w1 ∧ (∀ k c, cs[k]? = some c → w1.cell? ⟨w.heap.size + 1, k, none⟩ = some c) ∧ Below w.heap.size w w1 := by
  have h1 : Below (w.heap.size + 1) (w.alloc (.cells v.row t1)) ((w.alloc (.cells v.row t1)).alloc (.cells cs t2)) := (Below.refl _ _).alloc (by simp) _
  refine ⟨(((MemAt.alloc v w t1).below h1 (by omega)).below hB (by simp; omega)), fun k c hk => ?_, ?_⟩
  · rw [World.cell?_of_block (w := (w.alloc (.cells v.row t1)).alloc (.cells cs t2)) (hB.block _ (by simp))]
    simp [hk]
  · exact (((Below.refl w.heap.size w).alloc (Nat.le_refl _) _).alloc (by simp) _).trans (hB.mono (by simp; omega))

theorem atZ_lt {k n : Int} {s : Int} (h : szR k = s) (hs : 0 < s) : 0 ≤ atZ k n ∧ atZ k n < s := by
  unfold atZ
  rw [h, if_neg (by omega)]
  exact ⟨Int.emod_nonneg n (by omega), Int.emod_lt_of_pos n hs⟩

theorem at_nat (k n p : Int) : ∃ j : Nat, atZ k n = j ∧ j ≤ 63 ∧ ∀ w, Calls Tryz.prog 51 #[.agg #[.int .i64 k, .int .i64 n, .int .i64 p]] w fun e w' => e = .returned (.int .i64 j) ∧ Below w.heap.size w w' := by
  have hz := atZ_bd k n
  obtain ⟨j, hj⟩ : ∃ j : Nat, atZ k n = j := ⟨(atZ k n).toNat, by omega⟩
  exact ⟨j, hj, by omega, fun w => hj ▸ spec_at k n p w⟩

set_option maxHeartbeats 4000000 in
theorem spec_membit1 (v : MemV) (n p : Int) (w : World) (hv : v.Ok) :
    Calls Tryz.prog 53 #[.agg v.row, .agg #[.int .i64 1, .int .i64 n, .int .i64 p]] w fun e w' => e = .returned (.bool (mbit v 1 n)) ∧ Below w.heap.size w w' := by
  obtain ⟨j, hj, hz, hc⟩ := at_nat 1 n p
  have e : mbit v 1 n = (v.x / 2 ^ j % 2 == 1) := by unfold mbit; rw [hj]; rfl
  rw [e]
  clear e hj
  have hx := hv.x
  go_enter Tryz.func53, Tryz.ntmps53
  go_wp2_with fail
  refine (hc _).mono ?_
  rintro e w1 ⟨rfl, hB⟩
  obtain ⟨hA, hC, hB⟩ := two_boxes v w w1 _ _ _ hB
  have c0 := hA.c 0 (by omega)
  rw [MemV.cell_x] at c0
  have d0 := hC 0 _ rfl
  go_wp2_with fail
  refine (spec_bit v.x j _ (by omega) (by omega)).mono ?_
  rintro e w2 ⟨rfl, rfl⟩
  go_wp2_with fail
  go_ret
  exact ⟨rfl, hB⟩

set_option maxHeartbeats 4000000 in
theorem spec_membit2 (v : MemV) (n p : Int) (w : World) (hv : v.Ok) :
    Calls Tryz.prog 53 #[.agg v.row, .agg #[.int .i64 2, .int .i64 n, .int .i64 p]] w fun e w' => e = .returned (.bool (mbit v 2 n)) ∧ Below w.heap.size w w' := by
  obtain ⟨j, hj, hz, hc⟩ := at_nat 2 n p
  have e : mbit v 2 n = (v.y / 2 ^ j % 2 == 1) := by unfold mbit; rw [hj]; rfl
  rw [e]
  clear e hj
  have hx := hv.y
  go_enter Tryz.func53, Tryz.ntmps53
  go_wp2_with fail
  refine (hc _).mono ?_
  rintro e w1 ⟨rfl, hB⟩
  obtain ⟨hA, hC, hB⟩ := two_boxes v w w1 _ _ _ hB
  have c0 := hA.c 1 (by omega)
  rw [MemV.cell_y] at c0
  have d0 := hC 0 _ rfl
  go_wp2_with fail
  refine (spec_bit v.y j _ (by omega) (by omega)).mono ?_
  rintro e w2 ⟨rfl, rfl⟩
  go_wp2_with fail
  go_ret
  exact ⟨rfl, hB⟩

set_option maxHeartbeats 4000000 in
theorem spec_membit3 (v : MemV) (n p : Int) (w : World) (hv : v.Ok) :
    Calls Tryz.prog 53 #[.agg v.row, .agg #[.int .i64 3, .int .i64 n, .int .i64 p]] w fun e w' => e = .returned (.bool (mbit v 3 n)) ∧ Below w.heap.size w w' := by
  obtain ⟨j, hj, hz, hc⟩ := at_nat 3 n p
  have e : mbit v 3 n = (v.m / 2 ^ j % 2 == 1) := by unfold mbit; rw [hj]; rfl
  rw [e]
  clear e hj
  have hx := hv.m
  go_enter Tryz.func53, Tryz.ntmps53
  go_wp2_with fail
  refine (hc _).mono ?_
  rintro e w1 ⟨rfl, hB⟩
  obtain ⟨hA, hC, hB⟩ := two_boxes v w w1 _ _ _ hB
  have c0 := hA.c 2 (by omega)
  rw [MemV.cell_m] at c0
  have d0 := hC 0 _ rfl
  go_wp2_with fail
  refine (spec_bit v.m j _ (by omega) (by omega)).mono ?_
  rintro e w2 ⟨rfl, rfl⟩
  go_wp2_with fail
  go_ret
  exact ⟨rfl, hB⟩

set_option maxHeartbeats 4000000 in
theorem spec_membit4 (v : MemV) (n p : Int) (w : World) (hv : v.Ok) :
    Calls Tryz.prog 53 #[.agg v.row, .agg #[.int .i64 4, .int .i64 n, .int .i64 p]] w fun e w' => e = .returned (.bool (mbit v 4 n)) ∧ Below w.heap.size w w' := by
  obtain ⟨j, hj, hz, hc⟩ := at_nat 4 n p
  have e : mbit v 4 n = (v.s / 2 ^ j % 2 == 1) := by unfold mbit; rw [hj]; rfl
  rw [e]
  clear e hj
  have hx := hv.s
  go_enter Tryz.func53, Tryz.ntmps53
  go_wp2_with fail
  refine (hc _).mono ?_
  rintro e w1 ⟨rfl, hB⟩
  obtain ⟨hA, hC, hB⟩ := two_boxes v w w1 _ _ _ hB
  have c0 := hA.c 3 (by omega)
  rw [MemV.cell_s] at c0
  have d0 := hC 0 _ rfl
  go_wp2_with fail
  refine (spec_bit v.s j _ (by omega) (by omega)).mono ?_
  rintro e w2 ⟨rfl, rfl⟩
  go_wp2_with fail
  go_ret
  exact ⟨rfl, hB⟩

set_option maxHeartbeats 4000000 in
theorem spec_membit5 (v : MemV) (n p : Int) (w : World) (hv : v.Ok) :
    Calls Tryz.prog 53 #[.agg v.row, .agg #[.int .i64 5, .int .i64 n, .int .i64 p]] w fun e w' => e = .returned (.bool (mbit v 5 n)) ∧ Below w.heap.size w w' := by
  obtain ⟨j, hj, hz, hc⟩ := at_nat 5 n p
  have e : mbit v 5 n = (v.e / 2 ^ j % 2 == 1) := by unfold mbit; rw [hj]; rfl
  rw [e]
  clear e hj
  have hx := hv.e
  go_enter Tryz.func53, Tryz.ntmps53
  go_wp2_with fail
  refine (hc _).mono ?_
  rintro e w1 ⟨rfl, hB⟩
  obtain ⟨hA, hC, hB⟩ := two_boxes v w w1 _ _ _ hB
  have c0 := hA.c 4 (by omega)
  rw [MemV.cell_e] at c0
  have d0 := hC 0 _ rfl
  go_wp2_with fail
  refine (spec_bit v.e j _ (by omega) (by omega)).mono ?_
  rintro e w2 ⟨rfl, rfl⟩
  go_wp2_with fail
  go_ret
  exact ⟨rfl, hB⟩

set_option maxRecDepth 100000 in
set_option maxHeartbeats 4000000 in
theorem spec_membit6 (v : MemV) (n p : Int) (w : World) (hv : v.Ok) :
    Calls Tryz.prog 53 #[.agg v.row, .agg #[.int .i64 6, .int .i64 n, .int .i64 p]] w fun e w' => e = .returned (.bool (mbit v 6 n)) ∧ Below w.heap.size w w' := by
  obtain ⟨j, hj, hz, hc⟩ := at_nat 6 n p
  have e : mbit v 6 n = givenB v j := by unfold mbit; rw [hj]; rfl
  rw [e]
  clear e hj
  go_enter Tryz.func53, Tryz.ntmps53
  go_wp2_with fail
  refine (hc _).mono ?_
  rintro e w1 ⟨rfl, hB⟩
  obtain ⟨hA, hC, hB⟩ := two_boxes v w w1 _ _ _ hB
  have d0 := hC 0 _ rfl
  have c0 := load_mem hA
  go_wp2_with (refine list_load (t := 36) rfl rfl rfl c0 ?_)
  refine (spec_given v j _ hv.time).mono ?_
  rintro e w2 ⟨rfl, hB2⟩
  have hB := hB.trans (hB2.mono hB.size)
  go_wp2_with fail
  go_ret
  exact ⟨rfl, hB⟩

set_option maxHeartbeats 4000000 in
theorem spec_membit7 (v : MemV) (n p : Int) (w : World) :
    Calls Tryz.prog 53 #[.agg v.row, .agg #[.int .i64 7, .int .i64 n, .int .i64 p]] w fun e w' => e = .returned (.bool (mbit v 7 n)) ∧ Below w.heap.size w w' := by
  obtain ⟨j, hj, hz, hc⟩ := at_nat 7 n p
  have e : mbit v 7 n = v.tD j := by unfold mbit; rw [hj]; rfl
  have h16 := atZ_lt (k := 7) (n := n) (s := 16) rfl (by omega)
  rw [hj] at h16
  rw [e]
  clear e hj
  have hlt : j < 16 := by omega
  go_enter Tryz.func53, Tryz.ntmps53
  go_wp2_with fail
  refine (hc _).mono ?_
  rintro e w1 ⟨rfl, hB⟩
  obtain ⟨hA, hC, hB⟩ := two_boxes v w w1 _ _ _ hB
  have c0 := hA.c (5 + j * 2) (by omega)
  rw [MemV.cell_tD v j hlt] at c0
  have d0 := hC 0 _ rfl
  go_wp2_with fail
  go_ret
  exact ⟨rfl, hB⟩

set_option maxHeartbeats 4000000 in
theorem spec_membit8 (v : MemV) (n p : Int) (w : World) :
    Calls Tryz.prog 53 #[.agg v.row, .agg #[.int .i64 8, .int .i64 n, .int .i64 p]] w fun e w' => e = .returned (.bool (mbit v 8 n)) ∧ Below w.heap.size w w' := by
  obtain ⟨j, hj, hz, hc⟩ := at_nat 8 n p
  have e : mbit v 8 n = v.cD j := by unfold mbit; rw [hj]; rfl
  have h16 := atZ_lt (k := 8) (n := n) (s := 16) rfl (by omega)
  rw [hj] at h16
  rw [e]
  clear e hj
  have hlt : j < 16 := by omega
  go_enter Tryz.func53, Tryz.ntmps53
  go_wp2_with fail
  refine (hc _).mono ?_
  rintro e w1 ⟨rfl, hB⟩
  obtain ⟨hA, hC, hB⟩ := two_boxes v w w1 _ _ _ hB
  have c0 := hA.c (37 + j * 3) (by omega)
  rw [MemV.cell_cD v j hlt] at c0
  have d0 := hC 0 _ rfl
  go_wp2_with fail
  go_ret
  exact ⟨rfl, hB⟩

set_option maxHeartbeats 4000000 in
theorem spec_membit0 (v : MemV) (k n p : Int) (w : World) (h : k < 1 ∨ 8 < k) :
    Calls Tryz.prog 53 #[.agg v.row, .agg #[.int .i64 k, .int .i64 n, .int .i64 p]] w fun e w' => e = .returned (.bool (mbit v k n)) ∧ Below w.heap.size w w' := by
  obtain ⟨j, hj, hz, hc⟩ := at_nat k n p
  have e : mbit v k n = false := by
    unfold mbit
    rw [if_neg (by omega), if_neg (by omega), if_neg (by omega), if_neg (by omega), if_neg (by omega), if_neg (by omega), if_neg (by omega), if_neg (by omega)]
  rw [e]
  clear e hj
  go_enter Tryz.func53, Tryz.ntmps53
  go_wp2_with fail
  refine (hc _).mono ?_
  rintro e w1 ⟨rfl, hB⟩
  obtain ⟨hA, hC, hB⟩ := two_boxes v w w1 _ _ _ hB
  have d0 := hC 0 _ rfl
  go_wp2_with fail
  go_ret
  exact ⟨rfl, hB⟩

theorem spec_membit (v : MemV) (k n p : Int) (w : World) (hv : v.Ok) :
    Calls Tryz.prog 53 #[.agg v.row, .agg #[.int .i64 k, .int .i64 n, .int .i64 p]] w fun e w' => e = .returned (.bool (mbit v k n)) ∧ Below w.heap.size w w' := by
  by_cases h : k < 1 ∨ 8 < k
  · exact spec_membit0 v k n p w h
  have : k = 1 ∨ k = 2 ∨ k = 3 ∨ k = 4 ∨ k = 5 ∨ k = 6 ∨ k = 7 ∨ k = 8 := by omega
  rcases this with rfl | rfl | rfl | rfl | rfl | rfl | rfl | rfl
  · exact spec_membit1 v n p w hv
  · exact spec_membit2 v n p w hv
  · exact spec_membit3 v n p w hv
  · exact spec_membit4 v n p w hv
  · exact spec_membit5 v n p w hv
  · exact spec_membit6 v n p w hv
  · exact spec_membit7 v n p w
  · exact spec_membit8 v n p w

end Go.Proofs.YtdhoimjkgicneacGreatDoor

/- A bit put by or, and by and-not: the numbers. -/
namespace Go.Proofs.YtdhoimjkgicneacGreatDoor
open Go Go.RowKit

theorem or_pow {y k : Nat} (h : y / 2 ^ k % 2 = 0) : y ||| 2 ^ k = y + 2 ^ k := by
  have h1 := Nat.div_add_mod y (2 ^ k)
  have h2 := Nat.mod_lt y (Nat.two_pow_pos k)
  obtain ⟨s, hs⟩ : ∃ s, y / 2 ^ k = 2 * s := ⟨y / 2 ^ k / 2, by omega⟩
  obtain ⟨r, hr⟩ : ∃ r, y % 2 ^ k = r := ⟨_, rfl⟩
  rw [hs, hr] at h1
  rw [hr] at h2
  have e1 : y = 2 ^ (k + 1) * s + r := by rw [Nat.pow_succ, Nat.mul_assoc]; exact h1.symm
  have e2 : 2 ^ (k + 1) * s + r = 2 ^ (k + 1) * s ||| r := Nat.two_pow_add_eq_or_of_lt (by rw [Nat.pow_succ]; omega) s
  have e3 : 2 ^ k * 1 + r = 2 ^ k * 1 ||| r := Nat.two_pow_add_eq_or_of_lt h2 1
  have e4 : 2 ^ (k + 1) * s + (2 ^ k + r) = 2 ^ (k + 1) * s ||| (2 ^ k + r) := Nat.two_pow_add_eq_or_of_lt (by rw [Nat.pow_succ]; omega) s
  rw [Nat.mul_one] at e3
  have e5 : y + 2 ^ k = 2 ^ (k + 1) * s + (2 ^ k + r) := by omega
  rw [e5, e4, e3, e1, e2, Nat.or_assoc, Nat.or_comm r]

theorem turn_or (x k : Nat) : x ||| 2 ^ k = turnN x k true := by
  unfold turnN
  by_cases h : x / 2 ^ k % 2 = 1
  · have e : (x / 2 ^ k % 2 == 1) = true := by simp [h]
    rw [e, if_pos rfl]
    apply Nat.eq_of_testBit_eq
    intro j
    rw [Nat.testBit_or, Nat.testBit_two_pow]
    by_cases hj : k = j
    · subst hj
      simp [Nat.testBit_eq_decide_div_mod_eq, h]
    · simp [hj]
  · have e : (x / 2 ^ k % 2 == 1) = false := by simp [h]
    rw [e, if_neg (by simp), if_pos rfl]
    exact or_pow (by omega)

theorem turn_andNot (x k : Nat) (hx : x < 18446744073709551616) (hk : k ≤ 63) : x &&& (18446744073709551615 - 2 ^ k) = turnN x k false := by
  have hp : 2 ^ k < 2 ^ 64 := Nat.pow_lt_pow_right (by omega) (by omega)
  have e0 : 18446744073709551615 - 2 ^ k = 2 ^ 64 - (2 ^ k + 1) := by omega
  have ht : ∀ j, (x &&& (18446744073709551615 - 2 ^ k)).testBit j = (x.testBit j && !decide (k = j)) := by
    intro j
    rw [Nat.testBit_and, e0, Nat.testBit_two_pow_sub_succ hp, Nat.testBit_two_pow]
    by_cases hj : j < 64
    · simp [hj]
    · rw [Nat.testBit_lt_two_pow (x := x) (i := j) (Nat.lt_of_lt_of_le hx (show 18446744073709551616 ≤ 2 ^ j from Nat.pow_le_pow_right (n := 2) (by omega) (show 64 ≤ j by omega)))]
      simp
  unfold turnN
  by_cases h : x / 2 ^ k % 2 = 1
  · have e : (x / 2 ^ k % 2 == 1) = true := by simp [h]
    rw [e, if_neg (by simp), if_neg (by simp)]
    have hle : 2 ^ k ≤ x := turn_le h
    have hy : (x - 2 ^ k) / 2 ^ k % 2 = 0 := by
      have := Nat.sub_mul_div x (2 ^ k) 1
      rw [Nat.mul_one] at this
      rw [this]
      omega
    have ho := or_pow hy
    rw [show x - 2 ^ k + 2 ^ k = x by omega] at ho
    apply Nat.eq_of_testBit_eq
    intro j
    rw [ht j]
    have hj2 : x.testBit j = ((x - 2 ^ k).testBit j || decide (k = j)) := by
      rw [← Nat.testBit_two_pow, ← Nat.testBit_or, ho]
    rw [hj2]
    by_cases hj : k = j
    · subst hj
      simp [Nat.testBit_eq_decide_div_mod_eq, hy]
    · simp [hj]
  · have e : (x / 2 ^ k % 2 == 1) = false := by simp [h]
    rw [e, if_pos rfl]
    apply Nat.eq_of_testBit_eq
    intro j
    rw [ht j]
    by_cases hj : k = j
    · subst hj
      simp [Nat.testBit_eq_decide_div_mod_eq, h]
    · simp [hj]

/-- In the walk's own spelling. -/
theorem bits_or (x k : Nat) (hx : x < 18446744073709551616) (hk : k ≤ 63) : bits .or .u64 (x : Int) ((2 ^ k : Nat) : Int) = ((turnN x k true : Nat) : Int) := by
  rw [u64_or_nat x (2 ^ k) hx (Nat.pow_lt_pow_right (a := 2) (by omega) (show k < 64 by omega)), turn_or]
theorem bits_andNot (x k : Nat) (hx : x < 18446744073709551616) (hk : k ≤ 63) : bits .andNot .u64 (x : Int) ((2 ^ k : Nat) : Int) = ((turnN x k false : Nat) : Int) := by
  rw [u64_andNot_nat x (2 ^ k) hx (Nat.pow_lt_pow_right (a := 2) (by omega) (show k < 64 by omega)), turn_andNot x k hx hk]
theorem wrap_pow (k : Nat) (hk : k ≤ 63) : IntKind.u64.wrap (2 ^ k) = ((2 ^ k : Nat) : Int) := by
  have hp : 2 ^ k < 18446744073709551616 := Nat.pow_lt_pow_right (a := 2) (by omega) (show k < 64 by omega)
  have e : ((2 : Int) ^ k) = ((2 ^ k : Nat) : Int) := by simp
  rw [e, IntKind.wrap_u64]
  obtain ⟨p, hp2⟩ : ∃ p, p = 2 ^ k := ⟨_, rfl⟩
  rw [← hp2] at hp ⊢
  omega
theorem and_one (x : Nat) (hx : x < 18446744073709551616) : bits .and .u64 (x : Int) 1 = ((x % 2 : Nat) : Int) := by
  have := u64_and_nat x 1 hx (by omega)
  rw [Nat.and_one_is_mod] at this
  exact this
theorem shr_bit (x k : Nat) : (x : Int) / 2 ^ k = ((x / 2 ^ k : Nat) : Int) := by simp

end Go.Proofs.YtdhoimjkgicneacGreatDoor
