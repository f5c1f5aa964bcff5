/- Texts of this proof laid together: MemC2, MemF, MemN. -/
import Derived.Test.YtdhoimjkgicneaaDoorLot11
import Derived.Test.YtdhoimjkgicneaaDoorLot12
import Derived.Laws.BitsAllLaws
/- The specification's word with a bit put. -/
namespace Go.Proofs.YtdhoimjkgicneaaDoor
open Go Go.RowKit

set_option maxHeartbeats 800000 in
theorem spec_turned (x k : Nat) (b : Bool) (w : World) (hx : x < 18446744073709551616) (hk : k ≤ 63) :
    Calls Tryd.prog 134 #[.int .u64 x, .int .i64 k, .bool b] w fun e w' => e = .returned (.int .u64 (turnN x k b)) ∧ w' = w := by
  obtain ⟨q, hq⟩ : ∃ q, q = (x / 2 ^ k % 2 == 1) := ⟨_, rfl⟩
  have HQ : Hid (q = (x / 2 ^ k % 2 == 1)) := hq
  clear hq
  go_enter Tryd.func134, Tryd.ntmps134
  go_wp2_with fail
  refine (spec_bit x k w hx hk).mono ?_
  rintro e w1 ⟨rfl, rfl⟩
  rw [← HQ.out]
  by_cases hb : q = b
  · have e : turnN x k b = x := by unfold turnN; rw [← HQ.out, if_pos hb]
    subst hb
    go_wp2_with fail
    go_ret
    exact ⟨ret_int (by rw [e]), rfl⟩
  · have hb2 : (q == b) = false := by simpa using hb
    go_wp2_with fail
    go_loop [7, 8] (fun u i => ∃ j p : Nat, j ≤ k ∧ i = .int .i64 j ∧ u = .int .u64 p ∧ p = 2 ^ j ∧ p ≤ 9223372036854775808) (fun _ i => k - (intOf i).toNat)
    case atStart => exact ⟨0, 1, by omega, rfl, rfl, rfl, by omega⟩
    case round =>
      obtain ⟨j, p, hj, rfl, rfl, hp, hp9⟩ := hrel
      have HP : Hid (p = 2 ^ j) := hp
      clear hp
      by_cases hlt : j < k
      · have hp2 : p * 2 ≤ 9223372036854775808 := by
          rw [HP.out, ← Nat.pow_succ, show (9223372036854775808 : Nat) = 2 ^ 63 from by decide +kernel]
          exact Nat.pow_le_pow_right (by omega) (by omega)
        go_wp2
        go_round
        case rel => exact ⟨j + 1, p * 2, by omega, by go_num, by go_num, by rw [HP.out, Nat.pow_succ], by omega⟩
        case measure => simp [intOf]; omega
      · have e : j = k := by omega
        subst e
        cases b with
        | true =>
          have hq : q = false := by cases q <;> simp_all
          have hlt2 : x + p < 18446744073709551616 := by
            rw [HP.out]
            refine turn_lt hx hk ?_
            have := HQ.out
            rw [hq] at this
            simpa using this.symm
          have e : turnN x j true = x + p := by
            unfold turnN
            rw [← HQ.out, hq, if_neg (by decide), if_pos rfl, HP.out]
          clear hb hb2
          go_wp2_with fail
          go_ret
          exact ⟨ret_int (by omega), rfl⟩
        | false =>
          have hq : q = true := by cases q <;> simp_all
          have hle : p ≤ x := by
            rw [HP.out]
            refine turn_le ?_
            have := HQ.out
            rw [hq] at this
            simpa using this.symm
          have e : turnN x j false = x - p := by
            unfold turnN
            rw [← HQ.out, hq, if_neg (by decide), if_neg (by decide), HP.out]
          clear hb hb2
          go_wp2_with fail
          go_ret
          exact ⟨ret_int (by omega), rfl⟩

end Go.Proofs.YtdhoimjkgicneaaDoor

/- The specification's MemPut. -/
namespace Go.Proofs.YtdhoimjkgicneaaDoor
open Go Go.RowKit

set_option maxRecDepth 100000 in
set_option maxHeartbeats 4000000 in
theorem spec_memput2 (v : MemV) (n p : Int) (b : Bool) (w : World) (hv : v.Ok) :
    Calls Tryd.prog 97 #[.agg v.row, .agg #[.int .i64 2, .int .i64 n, .int .i64 p], .bool b] w fun e w' => e = .returned (.agg (putV v 2 n b).row) ∧ Below w.heap.size w w' := by
  obtain ⟨j, hj, hz, hc⟩ := at_nat 2 n p
  have e : putV v 2 n b = { v with y := turnN v.y j b } := by unfold putV; rw [hj]; rfl
  have h16 := atZ_lt (k := 2) (n := n) (s := 32) rfl (by omega)
  rw [hj] at h16
  rw [e]
  clear e hj
  have hx := hv.y
  have ht : turnN v.y j b < 4294967296 := turn_small (s := 32) hx (by omega) b
  obtain ⟨t, et⟩ : ∃ t, t = turnN v.y j b := ⟨_, rfl⟩
  rw [← et] at ht ⊢
  have hT : ∀ w, Calls Tryd.prog 134 #[.int .u64 v.y, .int .i64 j, .bool b] w fun e w' => e = .returned (.int .u64 t) ∧ w' = w := fun w => et ▸ spec_turned v.y j b w (by omega) hz
  clear et
  obtain ⟨v', ev⟩ : ∃ v' : MemV, v' = { v with y := t } := ⟨_, rfl⟩
  have hu : v'.cell 1 = .int .u32 t := by rw [ev]; rfl
  have ho : ∀ i, i < 136 → i ≠ 1 → v'.cell i = v.cell i := by
    intro i _ hi
    rw [ev]
    unfold MemV.cell
    simp only [if_neg hi]
  rw [← ev]
  clear ev
  go_enter Tryd.func97, Tryd.ntmps97
  go_wp2_with fail
  refine (hc _).mono ?_
  rintro e w1 ⟨rfl, hB⟩
  obtain ⟨hA, hR, hC, hB⟩ := three_boxes v w w1 _ _ _ _ hB
  have c0 := hA.c 1 (by omega)
  rw [MemV.cell_y] at c0
  have f0 := hA.f 1 (by omega)
  have d0 := hC 0 _ rfl
  go_wp2_with fail
  refine (hT _).mono ?_
  rintro e w2 ⟨rfl, rfl⟩
  have hA2 := hA.put (by omega) hu ho
  have hB2 := hB.setCell (p := ⟨w.heap.size, 1, none⟩) (Nat.le_refl _) (.int .u32 t)
  have hR2 : MemAt (w.heap.size + 1 + 1) mem0 (w2.setCell ⟨w.heap.size, 1, none⟩ (.int .u32 t)) := hR.of_block (Below.heap_setCell _ _ _ _ (by simp; omega)) (by simpa [World.setCell] using hR.z)
  have hR3 := hR2.stored v'
  have hB3 := setCells_below v'.row.toList (w.heap.size + 1 + 1) 0 hB2 (by omega)
  go_wp2_with (first | refine list_load (t := 61) rfl rfl rfl (load_mem hA2) ?_ | refine list_store (t := 61) rfl rfl rfl rfl (store_mem v' hR2) ?_)
  exact ret_mem (c := 6) rfl rfl rfl hR3 ⟨rfl, hB3⟩

set_option maxRecDepth 100000 in
set_option maxHeartbeats 4000000 in
theorem spec_memput3 (v : MemV) (n p : Int) (b : Bool) (w : World) (hv : v.Ok) :
    Calls Tryd.prog 97 #[.agg v.row, .agg #[.int .i64 3, .int .i64 n, .int .i64 p], .bool b] w fun e w' => e = .returned (.agg (putV v 3 n b).row) ∧ Below w.heap.size w w' := by
  obtain ⟨j, hj, hz, hc⟩ := at_nat 3 n p
  have e : putV v 3 n b = { v with m := turnN v.m j b } := by unfold putV; rw [hj]; rfl
  have h16 := atZ_lt (k := 3) (n := n) (s := 64) rfl (by omega)
  rw [hj] at h16
  rw [e]
  clear e hj
  have hx := hv.m
  have ht : turnN v.m j b < 18446744073709551616 := turn_small (s := 64) hx (by omega) b
  obtain ⟨t, et⟩ : ∃ t, t = turnN v.m j b := ⟨_, rfl⟩
  rw [← et] at ht ⊢
  have hT : ∀ w, Calls Tryd.prog 134 #[.int .u64 v.m, .int .i64 j, .bool b] w fun e w' => e = .returned (.int .u64 t) ∧ w' = w := fun w => et ▸ spec_turned v.m j b w (by omega) hz
  clear et
  obtain ⟨v', ev⟩ : ∃ v' : MemV, v' = { v with m := t } := ⟨_, rfl⟩
  have hu : v'.cell 2 = .int .u64 t := by rw [ev]; rfl
  have ho : ∀ i, i < 136 → i ≠ 2 → v'.cell i = v.cell i := by
    intro i _ hi
    rw [ev]
    unfold MemV.cell
    simp only [if_neg hi]
  rw [← ev]
  clear ev
  go_enter Tryd.func97, Tryd.ntmps97
  go_wp2_with fail
  refine (hc _).mono ?_
  rintro e w1 ⟨rfl, hB⟩
  obtain ⟨hA, hR, hC, hB⟩ := three_boxes v w w1 _ _ _ _ hB
  have c0 := hA.c 2 (by omega)
  rw [MemV.cell_m] at c0
  have f0 := hA.f 2 (by omega)
  have d0 := hC 0 _ rfl
  go_wp2_with fail
  refine (hT _).mono ?_
  rintro e w2 ⟨rfl, rfl⟩
  have hA2 := hA.put (by omega) hu ho
  have hB2 := hB.setCell (p := ⟨w.heap.size, 2, none⟩) (Nat.le_refl _) (.int .u64 t)
  have hR2 : MemAt (w.heap.size + 1 + 1) mem0 (w2.setCell ⟨w.heap.size, 2, none⟩ (.int .u64 t)) := hR.of_block (Below.heap_setCell _ _ _ _ (by simp; omega)) (by simpa [World.setCell] using hR.z)
  have hR3 := hR2.stored v'
  have hB3 := setCells_below v'.row.toList (w.heap.size + 1 + 1) 0 hB2 (by omega)
  go_wp2_with (first | refine list_load (t := 61) rfl rfl rfl (load_mem hA2) ?_ | refine list_store (t := 61) rfl rfl rfl rfl (store_mem v' hR2) ?_)
  exact ret_mem (c := 6) rfl rfl rfl hR3 ⟨rfl, hB3⟩

set_option maxRecDepth 100000 in
set_option maxHeartbeats 4000000 in
theorem spec_memput4 (v : MemV) (n p : Int) (b : Bool) (w : World) (hv : v.Ok) :
    Calls Tryd.prog 97 #[.agg v.row, .agg #[.int .i64 4, .int .i64 n, .int .i64 p], .bool b] w fun e w' => e = .returned (.agg (putV v 4 n b).row) ∧ Below w.heap.size w w' := by
  obtain ⟨j, hj, hz, hc⟩ := at_nat 4 n p
  have e : putV v 4 n b = { v with s := turnN v.s j b } := by unfold putV; rw [hj]; rfl
  have h16 := atZ_lt (k := 4) (n := n) (s := 16) rfl (by omega)
  rw [hj] at h16
  rw [e]
  clear e hj
  have hx := hv.s
  have ht : turnN v.s j b < 65536 := turn_small (s := 16) hx (by omega) b
  obtain ⟨t, et⟩ : ∃ t, t = turnN v.s j b := ⟨_, rfl⟩
  rw [← et] at ht ⊢
  have hT : ∀ w, Calls Tryd.prog 134 #[.int .u64 v.s, .int .i64 j, .bool b] w fun e w' => e = .returned (.int .u64 t) ∧ w' = w := fun w => et ▸ spec_turned v.s j b w (by omega) hz
  clear et
  obtain ⟨v', ev⟩ : ∃ v' : MemV, v' = { v with s := t } := ⟨_, rfl⟩
  have hu : v'.cell 3 = .int .u16 t := by rw [ev]; rfl
  have ho : ∀ i, i < 136 → i ≠ 3 → v'.cell i = v.cell i := by
    intro i _ hi
    rw [ev]
    unfold MemV.cell
    simp only [if_neg hi]
  rw [← ev]
  clear ev
  go_enter Tryd.func97, Tryd.ntmps97
  go_wp2_with fail
  refine (hc _).mono ?_
  rintro e w1 ⟨rfl, hB⟩
  obtain ⟨hA, hR, hC, hB⟩ := three_boxes v w w1 _ _ _ _ hB
  have c0 := hA.c 3 (by omega)
  rw [MemV.cell_s] at c0
  have f0 := hA.f 3 (by omega)
  have d0 := hC 0 _ rfl
  go_wp2_with fail
  refine (hT _).mono ?_
  rintro e w2 ⟨rfl, rfl⟩
  have hA2 := hA.put (by omega) hu ho
  have hB2 := hB.setCell (p := ⟨w.heap.size, 3, none⟩) (Nat.le_refl _) (.int .u16 t)
  have hR2 : MemAt (w.heap.size + 1 + 1) mem0 (w2.setCell ⟨w.heap.size, 3, none⟩ (.int .u16 t)) := hR.of_block (Below.heap_setCell _ _ _ _ (by simp; omega)) (by simpa [World.setCell] using hR.z)
  have hR3 := hR2.stored v'
  have hB3 := setCells_below v'.row.toList (w.heap.size + 1 + 1) 0 hB2 (by omega)
  go_wp2_with (first | refine list_load (t := 61) rfl rfl rfl (load_mem hA2) ?_ | refine list_store (t := 61) rfl rfl rfl rfl (store_mem v' hR2) ?_)
  exact ret_mem (c := 6) rfl rfl rfl hR3 ⟨rfl, hB3⟩

set_option maxRecDepth 100000 in
set_option maxHeartbeats 4000000 in
theorem spec_memput5 (v : MemV) (n p : Int) (b : Bool) (w : World) (hv : v.Ok) :
    Calls Tryd.prog 97 #[.agg v.row, .agg #[.int .i64 5, .int .i64 n, .int .i64 p], .bool b] w fun e w' => e = .returned (.agg (putV v 5 n b).row) ∧ Below w.heap.size w w' := by
  obtain ⟨j, hj, hz, hc⟩ := at_nat 5 n p
  have e : putV v 5 n b = { v with e := turnN v.e j b } := by unfold putV; rw [hj]; rfl
  have h16 := atZ_lt (k := 5) (n := n) (s := 32) rfl (by omega)
  rw [hj] at h16
  rw [e]
  clear e hj
  have hx := hv.e
  have ht : turnN v.e j b < 4294967296 := turn_small (s := 32) hx (by omega) b
  obtain ⟨t, et⟩ : ∃ t, t = turnN v.e j b := ⟨_, rfl⟩
  rw [← et] at ht ⊢
  have hT : ∀ w, Calls Tryd.prog 134 #[.int .u64 v.e, .int .i64 j, .bool b] w fun e w' => e = .returned (.int .u64 t) ∧ w' = w := fun w => et ▸ spec_turned v.e j b w (by omega) hz
  clear et
  obtain ⟨v', ev⟩ : ∃ v' : MemV, v' = { v with e := t } := ⟨_, rfl⟩
  have hu : v'.cell 4 = .int .u32 t := by rw [ev]; rfl
  have ho : ∀ i, i < 136 → i ≠ 4 → v'.cell i = v.cell i := by
    intro i _ hi
    rw [ev]
    unfold MemV.cell
    simp only [if_neg hi]
  rw [← ev]
  clear ev
  go_enter Tryd.func97, Tryd.ntmps97
  go_wp2_with fail
  refine (hc _).mono ?_
  rintro e w1 ⟨rfl, hB⟩
  obtain ⟨hA, hR, hC, hB⟩ := three_boxes v w w1 _ _ _ _ hB
  have c0 := hA.c 4 (by omega)
  rw [MemV.cell_e] at c0
  have f0 := hA.f 4 (by omega)
  have d0 := hC 0 _ rfl
  go_wp2_with fail
  refine (hT _).mono ?_
  rintro e w2 ⟨rfl, rfl⟩
  have hA2 := hA.put (by omega) hu ho
  have hB2 := hB.setCell (p := ⟨w.heap.size, 4, none⟩) (Nat.le_refl _) (.int .u32 t)
  have hR2 : MemAt (w.heap.size + 1 + 1) mem0 (w2.setCell ⟨w.heap.size, 4, none⟩ (.int .u32 t)) := hR.of_block (Below.heap_setCell _ _ _ _ (by simp; omega)) (by simpa [World.setCell] using hR.z)
  have hR3 := hR2.stored v'
  have hB3 := setCells_below v'.row.toList (w.heap.size + 1 + 1) 0 hB2 (by omega)
  go_wp2_with (first | refine list_load (t := 61) rfl rfl rfl (load_mem hA2) ?_ | refine list_store (t := 61) rfl rfl rfl rfl (store_mem v' hR2) ?_)
  exact ret_mem (c := 6) rfl rfl rfl hR3 ⟨rfl, hB3⟩

set_option maxRecDepth 100000 in
set_option maxHeartbeats 4000000 in
theorem spec_memput0 (v : MemV) (k n p : Int) (b : Bool) (w : World) (h : k < 2 ∨ 5 < k) :
    Calls Tryd.prog 97 #[.agg v.row, .agg #[.int .i64 k, .int .i64 n, .int .i64 p], .bool b] w fun e w' => e = .returned (.agg (putV v k n b).row) ∧ Below w.heap.size w w' := by
  obtain ⟨j, hj, hz, hc⟩ := at_nat k n p
  have e : putV v k n b = v := by
    unfold putV
    rw [if_neg (by omega), if_neg (by omega), if_neg (by omega), if_neg (by omega)]
  rw [e]
  clear e hj
  go_enter Tryd.func97, Tryd.ntmps97
  go_wp2_with fail
  refine (hc _).mono ?_
  rintro e w1 ⟨rfl, hB⟩
  obtain ⟨hA, hR, hC, hB⟩ := three_boxes v w w1 _ _ _ _ hB
  have d0 := hC 0 _ rfl
  have hR3 := hR.stored v
  have hB3 := setCells_below v.row.toList (w.heap.size + 1 + 1) 0 hB (by omega)
  go_wp2_with (first | refine list_load (t := 61) rfl rfl rfl (load_mem hA) ?_ | refine list_store (t := 61) rfl rfl rfl rfl (store_mem v hR) ?_)
  exact ret_mem (c := 6) rfl rfl rfl hR3 ⟨rfl, hB3⟩

theorem spec_memput (v : MemV) (k n p : Int) (b : Bool) (w : World) (hv : v.Ok) :
    Calls Tryd.prog 97 #[.agg v.row, .agg #[.int .i64 k, .int .i64 n, .int .i64 p], .bool b] w fun e w' => e = .returned (.agg (putV v k n b).row) ∧ Below w.heap.size w w' := by
  by_cases h : k < 2 ∨ 5 < k
  · exact spec_memput0 v k n p b w h
  have : k = 2 ∨ k = 3 ∨ k = 4 ∨ k = 5 := by omega
  rcases this with rfl | rfl | rfl | rfl
  · exact spec_memput2 v n p b w hv
  · exact spec_memput3 v n p b w hv
  · exact spec_memput4 v n p b w hv
  · exact spec_memput5 v n p b w hv

end Go.Proofs.YtdhoimjkgicneaaDoor

/- A bit put by or, and by and-not: the numbers. -/
namespace Go.Proofs.YtdhoimjkgicneaaDoor
open Go Go.RowKit

theorem or_pow {y k : Nat} (h : y / 2 ^ k % 2 = 0) : y ||| 2 ^ k = y + 2 ^ k := by
  have h1 := Nat.div_add_mod y (2 ^ k)
  have h2 := Nat.mod_lt y (Nat.two_pow_pos k)
  obtain ⟨s, hs⟩ : ∃ s, y / 2 ^ k = 2 * s := ⟨y / 2 ^ k / 2, by omega⟩
  obtain ⟨r, hr⟩ : ∃ r, y % 2 ^ k = r := ⟨_, rfl⟩
  rw [hs, hr] at h1
  rw [hr] at h2
  have e1 : y = 2 ^ (k + 1) * s + r := by rw [Nat.pow_succ, Nat.mul_assoc]; exact h1.symm
  have e2 : 2 ^ (k + 1) * s + r = 2 ^ (k + 1) * s ||| r := Nat.two_pow_add_eq_or_of_lt (by rw [Nat.pow_succ]; omega) s
  have e3 : 2 ^ k * 1 + r = 2 ^ k * 1 ||| r := Nat.two_pow_add_eq_or_of_lt h2 1
  have e4 : 2 ^ (k + 1) * s + (2 ^ k + r) = 2 ^ (k + 1) * s ||| (2 ^ k + r) := Nat.two_pow_add_eq_or_of_lt (by rw [Nat.pow_succ]; omega) s
  rw [Nat.mul_one] at e3
  have e5 : y + 2 ^ k = 2 ^ (k + 1) * s + (2 ^ k + r) := by omega
  rw [e5, e4, e3, e1, e2, Nat.or_assoc, Nat.or_comm r]

theorem turn_or (x k : Nat) : x ||| 2 ^ k = turnN x k true := by
  unfold turnN
  by_cases h : x / 2 ^ k % 2 = 1
  · have e : (x / 2 ^ k % 2 == 1) = true := by simp [h]
    rw [e, if_pos rfl]
    apply Nat.eq_of_testBit_eq
    intro j
    rw [Nat.testBit_or, Nat.testBit_two_pow]
    by_cases hj : k = j
    · subst hj
      simp [Nat.testBit_eq_decide_div_mod_eq, h]
    · simp [hj]
  · have e : (x / 2 ^ k % 2 == 1) = false := by simp [h]
    rw [e, if_neg (by simp), if_pos rfl]
    exact or_pow (by omega)

theorem turn_andNot (x k : Nat) (hx : x < 18446744073709551616) (hk : k ≤ 63) : x &&& (18446744073709551615 - 2 ^ k) = turnN x k false := by
  have hp : 2 ^ k < 2 ^ 64 := Nat.pow_lt_pow_right (by omega) (by omega)
  have e0 : 18446744073709551615 - 2 ^ k = 2 ^ 64 - (2 ^ k + 1) := by omega
  have ht : ∀ j, (x &&& (18446744073709551615 - 2 ^ k)).testBit j = (x.testBit j && !decide (k = j)) := by
    intro j
    rw [Nat.testBit_and, e0, Nat.testBit_two_pow_sub_succ hp, Nat.testBit_two_pow]
    by_cases hj : j < 64
    · simp [hj]
    · rw [Nat.testBit_lt_two_pow (x := x) (i := j) (Nat.lt_of_lt_of_le hx (show 18446744073709551616 ≤ 2 ^ j from Nat.pow_le_pow_right (n := 2) (by omega) (show 64 ≤ j by omega)))]
      simp
  unfold turnN
  by_cases h : x / 2 ^ k % 2 = 1
  · have e : (x / 2 ^ k % 2 == 1) = true := by simp [h]
    rw [e, if_neg (by simp), if_neg (by simp)]
    have hle : 2 ^ k ≤ x := turn_le h
    have hy : (x - 2 ^ k) / 2 ^ k % 2 = 0 := by
      have := Nat.sub_mul_div x (2 ^ k) 1
      rw [Nat.mul_one] at this
      rw [this]
      omega
    have ho := or_pow hy
    rw [show x - 2 ^ k + 2 ^ k = x by omega] at ho
    apply Nat.eq_of_testBit_eq
    intro j
    rw [ht j]
    have hj2 : x.testBit j = ((x - 2 ^ k).testBit j || decide (k = j)) := by
      rw [← Nat.testBit_two_pow, ← Nat.testBit_or, ho]
    rw [hj2]
    by_cases hj : k = j
    · subst hj
      simp [Nat.testBit_eq_decide_div_mod_eq, hy]
    · simp [hj]
  · have e : (x / 2 ^ k % 2 == 1) = false := by simp [h]
    rw [e, if_pos rfl]
    apply Nat.eq_of_testBit_eq
    intro j
    rw [ht j]
    by_cases hj : k = j
    · subst hj
      simp [Nat.testBit_eq_decide_div_mod_eq, h]
    · simp [hj]

/-- In the walk's own spelling. -/
theorem bits_or (x k : Nat) (hx : x < 18446744073709551616) (hk : k ≤ 63) : bits .or .u64 (x : Int) ((2 ^ k : Nat) : Int) = ((turnN x k true : Nat) : Int) := by
  rw [u64_or_nat x (2 ^ k) hx (Nat.pow_lt_pow_right (a := 2) (by omega) (show k < 64 by omega)), turn_or]
theorem bits_andNot (x k : Nat) (hx : x < 18446744073709551616) (hk : k ≤ 63) : bits .andNot .u64 (x : Int) ((2 ^ k : Nat) : Int) = ((turnN x k false : Nat) : Int) := by
  rw [u64_andNot_nat x (2 ^ k) hx (Nat.pow_lt_pow_right (a := 2) (by omega) (show k < 64 by omega)), turn_andNot x k hx hk]
theorem wrap_pow (k : Nat) (hk : k ≤ 63) : IntKind.u64.wrap (2 ^ k) = ((2 ^ k : Nat) : Int) := by
  have hp : 2 ^ k < 18446744073709551616 := Nat.pow_lt_pow_right (a := 2) (by omega) (show k < 64 by omega)
  have e : ((2 : Int) ^ k) = ((2 ^ k : Nat) : Int) := by simp
  rw [e, IntKind.wrap_u64]
  obtain ⟨p, hp2⟩ : ∃ p, p = 2 ^ k := ⟨_, rfl⟩
  rw [← hp2] at hp ⊢
  omega
theorem and_one (x : Nat) (hx : x < 18446744073709551616) : bits .and .u64 (x : Int) 1 = ((x % 2 : Nat) : Int) := by
  have := u64_and_nat x 1 hx (by omega)
  rw [Nat.and_one_is_mod] at this
  exact this
theorem shr_bit (x k : Nat) : (x : Int) / 2 ^ k = ((x / 2 ^ k : Nat) : Int) := by simp

end Go.Proofs.YtdhoimjkgicneaaDoor
