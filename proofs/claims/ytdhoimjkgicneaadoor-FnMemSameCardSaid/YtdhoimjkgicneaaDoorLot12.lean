/- Texts of this proof laid together: MemE, MemF0, NumA. -/
import Derived.Test.YtdhoimjkgicneaaDoorLot11
import Derived.Test.YtdhoimjkgicneaaDoorLot2
import Derived.Test.YtdhoimjkgicneaaDoorLot4
import Derived.Test.YtdhoimjkgicneaaDoorLot3
/- The specification's MemBit. -/
namespace Go.Proofs.YtdhoimjkgicneaaDoor
open Go Go.RowKit

/-- The bit of a memory that an operand asks for. -/
def mbit (v : MemV) (k n : Int) : Bool :=
  if k = 1 then v.x / 2 ^ (atZ k n).toNat % 2 == 1 else if k = 2 then v.y / 2 ^ (atZ k n).toNat % 2 == 1 else if k = 3 then v.m / 2 ^ (atZ k n).toNat % 2 == 1
  else if k = 4 then v.s / 2 ^ (atZ k n).toNat % 2 == 1 else if k = 5 then v.e / 2 ^ (atZ k n).toNat % 2 == 1 else if k = 6 then givenB v (atZ k n)
  else if k = 7 then v.tD (atZ k n).toNat else if k = 8 then v.cD (atZ k n).toNat else false

theorem two_boxes (v : MemV) (w w1 : World) (cs : Array Value) (t1 t2 : TypeId)
    (hB : Below ((w.alloc (.cells v.row t1)).alloc (.cells cs t2)).heap.size ((w.alloc (.cells v.row t1)).alloc (.cells cs t2)) w1) :
    MemAt w.heap.size v w1 ∧ (∀ k c, cs[k]? = some c → w1.cell? ⟨w.heap.size + 1, k, none⟩ = some c) ∧ Below w.heap.size w w1 := by
  have h1 : Below (w.heap.size + 1) (w.alloc (.cells v.row t1)) ((w.alloc (.cells v.row t1)).alloc (.cells cs t2)) := (Below.refl _ _).alloc (by simp) _
  refine ⟨(((MemAt.alloc v w t1).below h1 (by omega)).below hB (by simp; omega)), fun k c hk => ?_, ?_⟩
  · rw [World.cell?_of_block (w := (w.alloc (.cells v.row t1)).alloc (.cells cs t2)) (hB.block _ (by simp))]
    simp [hk]
  · exact (((Below.refl w.heap.size w).alloc (Nat.le_refl _) _).alloc (by simp) _).trans (hB.mono (by simp; omega))

theorem atZ_lt {k n : Int} {s : Int} (h : szR k = s) (hs : 0 < s) : 0 ≤ atZ k n ∧ atZ k n < s := by
  unfold atZ
  rw [h, if_neg (by omega)]
  exact ⟨Int.emod_nonneg n (by omega), Int.emod_lt_of_pos n hs⟩

theorem at_nat (k n p : Int) : ∃ j : Nat, atZ k n = j ∧ j ≤ 63 ∧ ∀ w, Calls Tryd.prog 104 #[.agg #[.int .i64 k, .int .i64 n, .int .i64 p]] w fun e w' => e = .returned (.int .i64 j) ∧ Below w.heap.size w w' := by
  have hz := atZ_bd k n
  obtain ⟨j, hj⟩ : ∃ j : Nat, atZ k n = j := ⟨(atZ k n).toNat, by omega⟩
  exact ⟨j, hj, by omega, fun w => hj ▸ spec_at k n p w⟩

set_option maxHeartbeats 4000000 in
theorem spec_membit1 (v : MemV) (n p : Int) (w : World) (hv : v.Ok) :
    Calls Tryd.prog 53 #[.agg v.row, .agg #[.int .i64 1, .int .i64 n, .int .i64 p]] w fun e w' => e = .returned (.bool (mbit v 1 n)) ∧ Below w.heap.size w w' := by
  obtain ⟨j, hj, hz, hc⟩ := at_nat 1 n p
  have e : mbit v 1 n = (v.x / 2 ^ j % 2 == 1) := by unfold mbit; rw [hj]; rfl
  rw [e]
  clear e hj
  have hx := hv.x
  go_enter Tryd.func53, Tryd.ntmps53
  go_wp2_with fail
  refine (hc _).mono ?_
  rintro e w1 ⟨rfl, hB⟩
  obtain ⟨hA, hC, hB⟩ := two_boxes v w w1 _ _ _ hB
  have c0 := hA.c 0 (by omega)
  rw [MemV.cell_x] at c0
  have d0 := hC 0 _ rfl
  go_wp2_with fail
  refine (spec_bit v.x j _ (by omega) (by omega)).mono ?_
  rintro e w2 ⟨rfl, rfl⟩
  go_wp2_with fail
  go_ret
  exact ⟨rfl, hB⟩

set_option maxHeartbeats 4000000 in
theorem spec_membit2 (v : MemV) (n p : Int) (w : World) (hv : v.Ok) :
    Calls Tryd.prog 53 #[.agg v.row, .agg #[.int .i64 2, .int .i64 n, .int .i64 p]] w fun e w' => e = .returned (.bool (mbit v 2 n)) ∧ Below w.heap.size w w' := by
  obtain ⟨j, hj, hz, hc⟩ := at_nat 2 n p
  have e : mbit v 2 n = (v.y / 2 ^ j % 2 == 1) := by unfold mbit; rw [hj]; rfl
  rw [e]
  clear e hj
  have hx := hv.y
  go_enter Tryd.func53, Tryd.ntmps53
  go_wp2_with fail
  refine (hc _).mono ?_
  rintro e w1 ⟨rfl, hB⟩
  obtain ⟨hA, hC, hB⟩ := two_boxes v w w1 _ _ _ hB
  have c0 := hA.c 1 (by omega)
  rw [MemV.cell_y] at c0
  have d0 := hC 0 _ rfl
  go_wp2_with fail
  refine (spec_bit v.y j _ (by omega) (by omega)).mono ?_
  rintro e w2 ⟨rfl, rfl⟩
  go_wp2_with fail
  go_ret
  exact ⟨rfl, hB⟩

set_option maxHeartbeats 4000000 in
theorem spec_membit3 (v : MemV) (n p : Int) (w : World) (hv : v.Ok) :
    Calls Tryd.prog 53 #[.agg v.row, .agg #[.int .i64 3, .int .i64 n, .int .i64 p]] w fun e w' => e = .returned (.bool (mbit v 3 n)) ∧ Below w.heap.size w w' := by
  obtain ⟨j, hj, hz, hc⟩ := at_nat 3 n p
  have e : mbit v 3 n = (v.m / 2 ^ j % 2 == 1) := by unfold mbit; rw [hj]; rfl
  rw [e]
  clear e hj
  have hx := hv.m
  go_enter Tryd.func53, Tryd.ntmps53
  go_wp2_with fail
  refine (hc _).mono ?_
  rintro e w1 ⟨rfl, hB⟩
  obtain ⟨hA, hC, hB⟩ := two_boxes v w w1 _ _ _ hB
  have c0 := hA.c 2 (by omega)
  rw [MemV.cell_m] at c0
  have d0 := hC 0 _ rfl
  go_wp2_with fail
  refine (spec_bit v.m j _ (by omega) (by omega)).mono ?_
  rintro e w2 ⟨rfl, rfl⟩
  go_wp2_with fail
  go_ret
  exact ⟨rfl, hB⟩

set_option maxHeartbeats 4000000 in
theorem spec_membit4 (v : MemV) (n p : Int) (w : World) (hv : v.Ok) :
    Calls Tryd.prog 53 #[.agg v.row, .agg #[.int .i64 4, .int .i64 n, .int .i64 p]] w fun e w' => e = .returned (.bool (mbit v 4 n)) ∧ Below w.heap.size w w' := by
  obtain ⟨j, hj, hz, hc⟩ := at_nat 4 n p
  have e : mbit v 4 n = (v.s / 2 ^ j % 2 == 1) := by unfold mbit; rw [hj]; rfl
  rw [e]
  clear e hj
  have hx := hv.s
  go_enter Tryd.func53, Tryd.ntmps53
  go_wp2_with fail
  refine (hc _).mono ?_
  rintro e w1 ⟨rfl, hB⟩
  obtain ⟨hA, hC, hB⟩ := two_boxes v w w1 _ _ _ hB
  have c0 := hA.c 3 (by omega)
  rw [MemV.cell_s] at c0
  have d0 := hC 0 _ rfl
  go_wp2_with fail
  refine (spec_bit v.s j _ (by omega) (by omega)).mono ?_
  rintro e w2 ⟨rfl, rfl⟩
  go_wp2_with fail
  go_ret
  exact ⟨rfl, hB⟩

set_option maxHeartbeats 4000000 in
theorem spec_membit5 (v : MemV) (n p : Int) (w : World) (hv : v.Ok) :
    Calls Tryd.prog 53 #[.agg v.row, .agg #[.int .i64 5, .int .i64 n, .int .i64 p]] w fun e w' => e = .returned (.bool (mbit v 5 n)) ∧ Below w.heap.size w w' := by
  obtain ⟨j, hj, hz, hc⟩ := at_nat 5 n p
  have e : mbit v 5 n = (v.e / 2 ^ j % 2 == 1) := by unfold mbit; rw [hj]; rfl
  rw [e]
  clear e hj
  have hx := hv.e
  go_enter Tryd.func53, Tryd.ntmps53
  go_wp2_with fail
  refine (hc _).mono ?_
  rintro e w1 ⟨rfl, hB⟩
  obtain ⟨hA, hC, hB⟩ := two_boxes v w w1 _ _ _ hB
  have c0 := hA.c 4 (by omega)
  rw [MemV.cell_e] at c0
  have d0 := hC 0 _ rfl
  go_wp2_with fail
  refine (spec_bit v.e j _ (by omega) (by omega)).mono ?_
  rintro e w2 ⟨rfl, rfl⟩
  go_wp2_with fail
  go_ret
  exact ⟨rfl, hB⟩

set_option maxRecDepth 100000 in
set_option maxHeartbeats 4000000 in
theorem spec_membit6 (v : MemV) (n p : Int) (w : World) (hv : v.Ok) :
    Calls Tryd.prog 53 #[.agg v.row, .agg #[.int .i64 6, .int .i64 n, .int .i64 p]] w fun e w' => e = .returned (.bool (mbit v 6 n)) ∧ Below w.heap.size w w' := by
  obtain ⟨j, hj, hz, hc⟩ := at_nat 6 n p
  have e : mbit v 6 n = givenB v j := by unfold mbit; rw [hj]; rfl
  rw [e]
  clear e hj
  go_enter Tryd.func53, Tryd.ntmps53
  go_wp2_with fail
  refine (hc _).mono ?_
  rintro e w1 ⟨rfl, hB⟩
  obtain ⟨hA, hC, hB⟩ := two_boxes v w w1 _ _ _ hB
  have d0 := hC 0 _ rfl
  have c0 := load_mem hA
  go_wp2_with (refine list_load (t := 61) rfl rfl rfl c0 ?_)
  refine (spec_given v j _ hv.time).mono ?_
  rintro e w2 ⟨rfl, hB2⟩
  have hB := hB.trans (hB2.mono hB.size)
  go_wp2_with fail
  go_ret
  exact ⟨rfl, hB⟩

set_option maxHeartbeats 4000000 in
theorem spec_membit7 (v : MemV) (n p : Int) (w : World) :
    Calls Tryd.prog 53 #[.agg v.row, .agg #[.int .i64 7, .int .i64 n, .int .i64 p]] w fun e w' => e = .returned (.bool (mbit v 7 n)) ∧ Below w.heap.size w w' := by
  obtain ⟨j, hj, hz, hc⟩ := at_nat 7 n p
  have e : mbit v 7 n = v.tD j := by unfold mbit; rw [hj]; rfl
  have h16 := atZ_lt (k := 7) (n := n) (s := 16) rfl (by omega)
  rw [hj] at h16
  rw [e]
  clear e hj
  have hlt : j < 16 := by omega
  go_enter Tryd.func53, Tryd.ntmps53
  go_wp2_with fail
  refine (hc _).mono ?_
  rintro e w1 ⟨rfl, hB⟩
  obtain ⟨hA, hC, hB⟩ := two_boxes v w w1 _ _ _ hB
  have c0 := hA.c (5 + j * 2) (by omega)
  rw [MemV.cell_tD v j hlt] at c0
  have d0 := hC 0 _ rfl
  go_wp2_with fail
  go_ret
  exact ⟨rfl, hB⟩

set_option maxHeartbeats 4000000 in
theorem spec_membit8 (v : MemV) (n p : Int) (w : World) :
    Calls Tryd.prog 53 #[.agg v.row, .agg #[.int .i64 8, .int .i64 n, .int .i64 p]] w fun e w' => e = .returned (.bool (mbit v 8 n)) ∧ Below w.heap.size w w' := by
  obtain ⟨j, hj, hz, hc⟩ := at_nat 8 n p
  have e : mbit v 8 n = v.cD j := by unfold mbit; rw [hj]; rfl
  have h16 := atZ_lt (k := 8) (n := n) (s := 16) rfl (by omega)
  rw [hj] at h16
  rw [e]
  clear e hj
  have hlt : j < 16 := by omega
  go_enter Tryd.func53, Tryd.ntmps53
  go_wp2_with fail
  refine (hc _).mono ?_
  rintro e w1 ⟨rfl, hB⟩
  obtain ⟨hA, hC, hB⟩ := two_boxes v w w1 _ _ _ hB
  have c0 := hA.c (37 + j * 3) (by omega)
  rw [MemV.cell_cD v j hlt] at c0
  have d0 := hC 0 _ rfl
  go_wp2_with fail
  go_ret
  exact ⟨rfl, hB⟩

set_option maxHeartbeats 4000000 in
theorem spec_membit0 (v : MemV) (k n p : Int) (w : World) (h : k < 1 ∨ 8 < k) :
    Calls Tryd.prog 53 #[.agg v.row, .agg #[.int .i64 k, .int .i64 n, .int .i64 p]] w fun e w' => e = .returned (.bool (mbit v k n)) ∧ Below w.heap.size w w' := by
  obtain ⟨j, hj, hz, hc⟩ := at_nat k n p
  have e : mbit v k n = false := by
    unfold mbit
    rw [if_neg (by omega), if_neg (by omega), if_neg (by omega), if_neg (by omega), if_neg (by omega), if_neg (by omega), if_neg (by omega), if_neg (by omega)]
  rw [e]
  clear e hj
  go_enter Tryd.func53, Tryd.ntmps53
  go_wp2_with fail
  refine (hc _).mono ?_
  rintro e w1 ⟨rfl, hB⟩
  obtain ⟨hA, hC, hB⟩ := two_boxes v w w1 _ _ _ hB
  have d0 := hC 0 _ rfl
  go_wp2_with fail
  go_ret
  exact ⟨rfl, hB⟩

theorem spec_membit (v : MemV) (k n p : Int) (w : World) (hv : v.Ok) :
    Calls Tryd.prog 53 #[.agg v.row, .agg #[.int .i64 k, .int .i64 n, .int .i64 p]] w fun e w' => e = .returned (.bool (mbit v k n)) ∧ Below w.heap.size w w' := by
  by_cases h : k < 1 ∨ 8 < k
  · exact spec_membit0 v k n p w h
  have : k = 1 ∨ k = 2 ∨ k = 3 ∨ k = 4 ∨ k = 5 ∨ k = 6 ∨ k = 7 ∨ k = 8 := by omega
  rcases this with rfl | rfl | rfl | rfl | rfl | rfl | rfl | rfl
  · exact spec_membit1 v n p w hv
  · exact spec_membit2 v n p w hv
  · exact spec_membit3 v n p w hv
  · exact spec_membit4 v n p w hv
  · exact spec_membit5 v n p w hv
  · exact spec_membit6 v n p w hv
  · exact spec_membit7 v n p w
  · exact spec_membit8 v n p w

end Go.Proofs.YtdhoimjkgicneaaDoor

/- A memory with a bit put; boxes of a memory, an operand and an answer. -/
namespace Go.Proofs.YtdhoimjkgicneaaDoor
open Go Go.RowKit

theorem turn_small {x k s : Nat} (hx : x < 2 ^ s) (hk : k < s) (b : Bool) : turnN x k b < 2 ^ s := by
  unfold turnN
  split
  · exact hx
  · rename_i hb
    cases b with
    | false =>
      rw [if_neg (by decide)]
      exact Nat.lt_of_le_of_lt (Nat.sub_le _ _) hx
    | true =>
      rw [if_pos rfl]
      have hb : x / 2 ^ k % 2 ≠ 1 := by intro h; apply hb; simp [h]
      have hp : 0 < 2 ^ k := Nat.two_pow_pos k
      have h1 := Nat.div_add_mod x (2 ^ k)
      have h2 := Nat.mod_lt x hp
      obtain ⟨q, hq⟩ : ∃ q, q = x / 2 ^ k := ⟨_, rfl⟩
      rw [← hq] at h1 hb
      obtain ⟨p, hp2⟩ : ∃ p, p = 2 ^ (s - 1 - k) := ⟨_, rfl⟩
      have hpp : 2 ^ k * (2 * p) = 2 ^ s := by
        rw [hp2, ← Nat.pow_succ', ← Nat.pow_add, show k + (s - 1 - k + 1) = s by omega]
      have hqlt : q < 2 * p := by
        rw [hq]
        refine (Nat.div_lt_iff_lt_mul hp).2 ?_
        rw [Nat.mul_comm, hpp]; exact hx
      have hq2 : q + 2 ≤ 2 * p := by omega
      have h3 : 2 ^ k * (q + 2) ≤ 2 ^ k * (2 * p) := Nat.mul_le_mul_left _ hq2
      rw [hpp, Nat.mul_add] at h3
      omega

theorem three_boxes (v : MemV) (w w1 : World) (cs : Array Value) (t1 t2 t3 : TypeId)
    (hB : Below (((w.alloc (.cells v.row t1)).alloc (.cells cs t2)).alloc (.cells Tryd.zeroCells61 t3)).heap.size (((w.alloc (.cells v.row t1)).alloc (.cells cs t2)).alloc (.cells Tryd.zeroCells61 t3)) w1) :
    MemAt w.heap.size v w1 ∧ MemAt (w.heap.size + 1 + 1) mem0 w1 ∧ (∀ k c, cs[k]? = some c → w1.cell? ⟨w.heap.size + 1, k, none⟩ = some c) ∧ Below w.heap.size w w1 := by
  rw [zero_row] at hB
  have h1 : Below (w.heap.size + 1) (w.alloc (.cells v.row t1)) ((w.alloc (.cells v.row t1)).alloc (.cells cs t2)) := (Below.refl _ _).alloc (by simp) _
  have h2 : Below (w.heap.size + 2) ((w.alloc (.cells v.row t1)).alloc (.cells cs t2)) (((w.alloc (.cells v.row t1)).alloc (.cells cs t2)).alloc (.cells mem0.row t3)) := (Below.refl _ _).alloc (by simp) _
  refine ⟨((((MemAt.alloc v w t1).below h1 (by omega)).below h2 (by omega)).below hB (by simp; omega)), ?_, fun k c hk => ?_, ?_⟩
  · have := (MemAt.alloc mem0 ((w.alloc (.cells v.row t1)).alloc (.cells cs t2)) t3).below hB (by simp)
    simpa using this
  · rw [hB.cell (p := ⟨w.heap.size + 1, k, none⟩) (by simp), h2.cell (p := ⟨w.heap.size + 1, k, none⟩) (by simp)]
    simp [hk]
  · exact ((((Below.refl w.heap.size w).alloc (Nat.le_refl _) _).alloc (by simp) _).alloc (by simp; omega) _).trans (hB.mono (by simp; omega))

/-- A memory in which a bit is put. -/
def putV (v : MemV) (k n : Int) (b : Bool) : MemV :=
  if k = 2 then { v with y := turnN v.y (atZ k n).toNat b } else if k = 3 then { v with m := turnN v.m (atZ k n).toNat b }
  else if k = 4 then { v with s := turnN v.s (atZ k n).toNat b } else if k = 5 then { v with e := turnN v.e (atZ k n).toNat b } else v

end Go.Proofs.YtdhoimjkgicneaaDoor

/- Drawn tests and whole numbers: that each draw ends, answers, and turns nothing but the reader. -/
namespace Go.Proofs.YtdhoimjkgicneaaDoor
open Go Go.RowKit

set_option maxHeartbeats 400000 in
theorem op_any (R c : Nat) (w : World) (h : Rd R c w) (hc : c ≤ 900) :
    Calls Tryd.prog 70 #[.pointer (some ⟨R, 0, none⟩)] w fun e w' => ∃ z : Int, e = .returned (.int .i64 z) ∧ Rd R (c + 2) w' ∧ Moved R w w' := by
  go_enter Tryd.func70, Tryd.ntmps70
  go_wp2_with fail
  refine (pick_any R c 16 w h (by omega) (by omega)).mono ?_
  rintro e w1 ⟨x, rfl, x0, -, -, rd1, mv1⟩
  clear h
  cases hx : x == 0 with
  | true =>
    go_wp2_with fail
    refine (num_lit R (c + 1) _ _ _ (by simp) rd1 (by omega) (by simp) (by simp) (by simp) 5 rfl).mono ?_
    rintro e w2 ⟨z, rfl, rd2, mv2⟩
    clear rd1
    go_wp2
    go_ret
    exact ⟨z, rfl, rd2, mv1.trans mv2⟩
  | false =>
    go_wp2_with fail
    refine (pick_any R (c + 1) 6 w1 rd1 (by omega) (by omega)).mono ?_
    rintro e w2 ⟨y, rfl, y0, y1, -, rd2, mv2⟩
    have hy : y < 6 := y1 (by omega)
    clear rd1 y1
    go_wp2
    go_ret
    exact ⟨_, rfl, rd2, mv1.trans mv2⟩

end Go.Proofs.YtdhoimjkgicneaaDoor
