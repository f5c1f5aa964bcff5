/- The specification's MemPut. -/
import Derived.Test.YtdhoimjkgicneabDoorMemF0
import Derived.Test.YtdhoimjkgicneabDoorMemC2
namespace Go.Proofs.YtdhoimjkgicneabDoor
open Go Go.RowKit

set_option maxRecDepth 100000 in
set_option maxHeartbeats 4000000 in
theorem spec_memput2 (v : MemV) (n p : Int) (b : Bool) (w : World) (hv : v.Ok) :
    Calls Tryd.prog 20 #[.agg v.row, .agg #[.int .i64 2, .int .i64 n, .int .i64 p], .bool b] w fun e w' => e = .returned (.agg (putV v 2 n b).row) ∧ Below w.heap.size w w' := by
  obtain ⟨j, hj, hz, hc⟩ := at_nat 2 n p
  have e : putV v 2 n b = { v with y := turnN v.y j b } := by unfold putV; rw [hj]; rfl
  have h16 := atZ_lt (k := 2) (n := n) (s := 32) rfl (by omega)
  rw [hj] at h16
  rw [e]
  clear e hj
  have hx := hv.y
  have ht : turnN v.y j b < 4294967296 := turn_small (s := 32) hx (by omega) b
  obtain ⟨t, et⟩ : ∃ t, t = turnN v.y j b := ⟨_, rfl⟩
  rw [← et] at ht ⊢
  have hT : ∀ w, Calls Tryd.prog 49 #[.int .u64 v.y, .int .i64 j, .bool b] w fun e w' => e = .returned (.int .u64 t) ∧ w' = w := fun w => et ▸ spec_turned v.y j b w (by omega) hz
  clear et
  obtain ⟨v', ev⟩ : ∃ v' : MemV, v' = { v with y := t } := ⟨_, rfl⟩
  have hu : v'.cell 1 = .int .u32 t := by rw [ev]; rfl
  have ho : ∀ i, i < 136 → i ≠ 1 → v'.cell i = v.cell i := by
    intro i _ hi
    rw [ev]
    unfold MemV.cell
    simp only [if_neg hi]
  rw [← ev]
  clear ev
  go_enter Tryd.func20, Tryd.ntmps20
  go_wp2_with fail
  refine (hc _).mono ?_
  rintro e w1 ⟨rfl, hB⟩
  obtain ⟨hA, hR, hC, hB⟩ := three_boxes v w w1 _ _ _ _ hB
  have c0 := hA.c 1 (by omega)
  rw [MemV.cell_y] at c0
  have f0 := hA.f 1 (by omega)
  have d0 := hC 0 _ rfl
  go_wp2_with fail
  refine (hT _).mono ?_
  rintro e w2 ⟨rfl, rfl⟩
  have hA2 := hA.put (by omega) hu ho
  have hB2 := hB.setCell (p := ⟨w.heap.size, 1, none⟩) (Nat.le_refl _) (.int .u32 t)
  have hR2 : MemAt (w.heap.size + 1 + 1) mem0 (w2.setCell ⟨w.heap.size, 1, none⟩ (.int .u32 t)) := hR.of_block (Below.heap_setCell _ _ _ _ (by simp; omega)) (by simpa [World.setCell] using hR.z)
  have hR3 := hR2.stored v'
  have hB3 := setCells_below v'.row.toList (w.heap.size + 1 + 1) 0 hB2 (by omega)
  go_wp2_with (first | refine list_load (t := 37) rfl rfl rfl (load_mem hA2) ?_ | refine list_store (t := 37) rfl rfl rfl rfl (store_mem v' hR2) ?_)
  exact ret_mem (c := 6) rfl rfl rfl hR3 ⟨rfl, hB3⟩

set_option maxRecDepth 100000 in
set_option maxHeartbeats 4000000 in
theorem spec_memput3 (v : MemV) (n p : Int) (b : Bool) (w : World) (hv : v.Ok) :
    Calls Tryd.prog 20 #[.agg v.row, .agg #[.int .i64 3, .int .i64 n, .int .i64 p], .bool b] w fun e w' => e = .returned (.agg (putV v 3 n b).row) ∧ Below w.heap.size w w' := by
  obtain ⟨j, hj, hz, hc⟩ := at_nat 3 n p
  have e : putV v 3 n b = { v with m := turnN v.m j b } := by unfold putV; rw [hj]; rfl
  have h16 := atZ_lt (k := 3) (n := n) (s := 64) rfl (by omega)
  rw [hj] at h16
  rw [e]
  clear e hj
  have hx := hv.m
  have ht : turnN v.m j b < 18446744073709551616 := turn_small (s := 64) hx (by omega) b
  obtain ⟨t, et⟩ : ∃ t, t = turnN v.m j b := ⟨_, rfl⟩
  rw [← et] at ht ⊢
  have hT : ∀ w, Calls Tryd.prog 49 #[.int .u64 v.m, .int .i64 j, .bool b] w fun e w' => e = .returned (.int .u64 t) ∧ w' = w := fun w => et ▸ spec_turned v.m j b w (by omega) hz
  clear et
  obtain ⟨v', ev⟩ : ∃ v' : MemV, v' = { v with m := t } := ⟨_, rfl⟩
  have hu : v'.cell 2 = .int .u64 t := by rw [ev]; rfl
  have ho : ∀ i, i < 136 → i ≠ 2 → v'.cell i = v.cell i := by
    intro i _ hi
    rw [ev]
    unfold MemV.cell
    simp only [if_neg hi]
  rw [← ev]
  clear ev
  go_enter Tryd.func20, Tryd.ntmps20
  go_wp2_with fail
  refine (hc _).mono ?_
  rintro e w1 ⟨rfl, hB⟩
  obtain ⟨hA, hR, hC, hB⟩ := three_boxes v w w1 _ _ _ _ hB
  have c0 := hA.c 2 (by omega)
  rw [MemV.cell_m] at c0
  have f0 := hA.f 2 (by omega)
  have d0 := hC 0 _ rfl
  go_wp2_with fail
  refine (hT _).mono ?_
  rintro e w2 ⟨rfl, rfl⟩
  have hA2 := hA.put (by omega) hu ho
  have hB2 := hB.setCell (p := ⟨w.heap.size, 2, none⟩) (Nat.le_refl _) (.int .u64 t)
  have hR2 : MemAt (w.heap.size + 1 + 1) mem0 (w2.setCell ⟨w.heap.size, 2, none⟩ (.int .u64 t)) := hR.of_block (Below.heap_setCell _ _ _ _ (by simp; omega)) (by simpa [World.setCell] using hR.z)
  have hR3 := hR2.stored v'
  have hB3 := setCells_below v'.row.toList (w.heap.size + 1 + 1) 0 hB2 (by omega)
  go_wp2_with (first | refine list_load (t := 37) rfl rfl rfl (load_mem hA2) ?_ | refine list_store (t := 37) rfl rfl rfl rfl (store_mem v' hR2) ?_)
  exact ret_mem (c := 6) rfl rfl rfl hR3 ⟨rfl, hB3⟩

set_option maxRecDepth 100000 in
set_option maxHeartbeats 4000000 in
theorem spec_memput4 (v : MemV) (n p : Int) (b : Bool) (w : World) (hv : v.Ok) :
    Calls Tryd.prog 20 #[.agg v.row, .agg #[.int .i64 4, .int .i64 n, .int .i64 p], .bool b] w fun e w' => e = .returned (.agg (putV v 4 n b).row) ∧ Below w.heap.size w w' := by
  obtain ⟨j, hj, hz, hc⟩ := at_nat 4 n p
  have e : putV v 4 n b = { v with s := turnN v.s j b } := by unfold putV; rw [hj]; rfl
  have h16 := atZ_lt (k := 4) (n := n) (s := 16) rfl (by omega)
  rw [hj] at h16
  rw [e]
  clear e hj
  have hx := hv.s
  have ht : turnN v.s j b < 65536 := turn_small (s := 16) hx (by omega) b
  obtain ⟨t, et⟩ : ∃ t, t = turnN v.s j b := ⟨_, rfl⟩
  rw [← et] at ht ⊢
  have hT : ∀ w, Calls Tryd.prog 49 #[.int .u64 v.s, .int .i64 j, .bool b] w fun e w' => e = .returned (.int .u64 t) ∧ w' = w := fun w => et ▸ spec_turned v.s j b w (by omega) hz
  clear et
  obtain ⟨v', ev⟩ : ∃ v' : MemV, v' = { v with s := t } := ⟨_, rfl⟩
  have hu : v'.cell 3 = .int .u16 t := by rw [ev]; rfl
  have ho : ∀ i, i < 136 → i ≠ 3 → v'.cell i = v.cell i := by
    intro i _ hi
    rw [ev]
    unfold MemV.cell
    simp only [if_neg hi]
  rw [← ev]
  clear ev
  go_enter Tryd.func20, Tryd.ntmps20
  go_wp2_with fail
  refine (hc _).mono ?_
  rintro e w1 ⟨rfl, hB⟩
  obtain ⟨hA, hR, hC, hB⟩ := three_boxes v w w1 _ _ _ _ hB
  have c0 := hA.c 3 (by omega)
  rw [MemV.cell_s] at c0
  have f0 := hA.f 3 (by omega)
  have d0 := hC 0 _ rfl
  go_wp2_with fail
  refine (hT _).mono ?_
  rintro e w2 ⟨rfl, rfl⟩
  have hA2 := hA.put (by omega) hu ho
  have hB2 := hB.setCell (p := ⟨w.heap.size, 3, none⟩) (Nat.le_refl _) (.int .u16 t)
  have hR2 : MemAt (w.heap.size + 1 + 1) mem0 (w2.setCell ⟨w.heap.size, 3, none⟩ (.int .u16 t)) := hR.of_block (Below.heap_setCell _ _ _ _ (by simp; omega)) (by simpa [World.setCell] using hR.z)
  have hR3 := hR2.stored v'
  have hB3 := setCells_below v'.row.toList (w.heap.size + 1 + 1) 0 hB2 (by omega)
  go_wp2_with (first | refine list_load (t := 37) rfl rfl rfl (load_mem hA2) ?_ | refine list_store (t := 37) rfl rfl rfl rfl (store_mem v' hR2) ?_)
  exact ret_mem (c := 6) rfl rfl rfl hR3 ⟨rfl, hB3⟩

set_option maxRecDepth 100000 in
set_option maxHeartbeats 4000000 in
theorem spec_memput5 (v : MemV) (n p : Int) (b : Bool) (w : World) (hv : v.Ok) :
    Calls Tryd.prog 20 #[.agg v.row, .agg #[.int .i64 5, .int .i64 n, .int .i64 p], .bool b] w fun e w' => e = .returned (.agg (putV v 5 n b).row) ∧ Below w.heap.size w w' := by
  obtain ⟨j, hj, hz, hc⟩ := at_nat 5 n p
  have e : putV v 5 n b = { v with e := turnN v.e j b } := by unfold putV; rw [hj]; rfl
  have h16 := atZ_lt (k := 5) (n := n) (s := 32) rfl (by omega)
  rw [hj] at h16
  rw [e]
  clear e hj
  have hx := hv.e
  have ht : turnN v.e j b < 4294967296 := turn_small (s := 32) hx (by omega) b
  obtain ⟨t, et⟩ : ∃ t, t = turnN v.e j b := ⟨_, rfl⟩
  rw [← et] at ht ⊢
  have hT : ∀ w, Calls Tryd.prog 49 #[.int .u64 v.e, .int .i64 j, .bool b] w fun e w' => e = .returned (.int .u64 t) ∧ w' = w := fun w => et ▸ spec_turned v.e j b w (by omega) hz
  clear et
  obtain ⟨v', ev⟩ : ∃ v' : MemV, v' = { v with e := t } := ⟨_, rfl⟩
  have hu : v'.cell 4 = .int .u32 t := by rw [ev]; rfl
  have ho : ∀ i, i < 136 → i ≠ 4 → v'.cell i = v.cell i := by
    intro i _ hi
    rw [ev]
    unfold MemV.cell
    simp only [if_neg hi]
  rw [← ev]
  clear ev
  go_enter Tryd.func20, Tryd.ntmps20
  go_wp2_with fail
  refine (hc _).mono ?_
  rintro e w1 ⟨rfl, hB⟩
  obtain ⟨hA, hR, hC, hB⟩ := three_boxes v w w1 _ _ _ _ hB
  have c0 := hA.c 4 (by omega)
  rw [MemV.cell_e] at c0
  have f0 := hA.f 4 (by omega)
  have d0 := hC 0 _ rfl
  go_wp2_with fail
  refine (hT _).mono ?_
  rintro e w2 ⟨rfl, rfl⟩
  have hA2 := hA.put (by omega) hu ho
  have hB2 := hB.setCell (p := ⟨w.heap.size, 4, none⟩) (Nat.le_refl _) (.int .u32 t)
  have hR2 : MemAt (w.heap.size + 1 + 1) mem0 (w2.setCell ⟨w.heap.size, 4, none⟩ (.int .u32 t)) := hR.of_block (Below.heap_setCell _ _ _ _ (by simp; omega)) (by simpa [World.setCell] using hR.z)
  have hR3 := hR2.stored v'
  have hB3 := setCells_below v'.row.toList (w.heap.size + 1 + 1) 0 hB2 (by omega)
  go_wp2_with (first | refine list_load (t := 37) rfl rfl rfl (load_mem hA2) ?_ | refine list_store (t := 37) rfl rfl rfl rfl (store_mem v' hR2) ?_)
  exact ret_mem (c := 6) rfl rfl rfl hR3 ⟨rfl, hB3⟩

set_option maxRecDepth 100000 in
set_option maxHeartbeats 4000000 in
theorem spec_memput0 (v : MemV) (k n p : Int) (b : Bool) (w : World) (h : k < 2 ∨ 5 < k) :
    Calls Tryd.prog 20 #[.agg v.row, .agg #[.int .i64 k, .int .i64 n, .int .i64 p], .bool b] w fun e w' => e = .returned (.agg (putV v k n b).row) ∧ Below w.heap.size w w' := by
  obtain ⟨j, hj, hz, hc⟩ := at_nat k n p
  have e : putV v k n b = v := by
    unfold putV
    rw [if_neg (by omega), if_neg (by omega), if_neg (by omega), if_neg (by omega)]
  rw [e]
  clear e hj
  go_enter Tryd.func20, Tryd.ntmps20
  go_wp2_with fail
  refine (hc _).mono ?_
  rintro e w1 ⟨rfl, hB⟩
  obtain ⟨hA, hR, hC, hB⟩ := three_boxes v w w1 _ _ _ _ hB
  have d0 := hC 0 _ rfl
  have hR3 := hR.stored v
  have hB3 := setCells_below v.row.toList (w.heap.size + 1 + 1) 0 hB (by omega)
  go_wp2_with (first | refine list_load (t := 37) rfl rfl rfl (load_mem hA) ?_ | refine list_store (t := 37) rfl rfl rfl rfl (store_mem v hR) ?_)
  exact ret_mem (c := 6) rfl rfl rfl hR3 ⟨rfl, hB3⟩

theorem spec_memput (v : MemV) (k n p : Int) (b : Bool) (w : World) (hv : v.Ok) :
    Calls Tryd.prog 20 #[.agg v.row, .agg #[.int .i64 k, .int .i64 n, .int .i64 p], .bool b] w fun e w' => e = .returned (.agg (putV v k n b).row) ∧ Below w.heap.size w w' := by
  by_cases h : k < 2 ∨ 5 < k
  · exact spec_memput0 v k n p b w h
  have : k = 2 ∨ k = 3 ∨ k = 4 ∨ k = 5 := by omega
  rcases this with rfl | rfl | rfl | rfl
  · exact spec_memput2 v n p b w hv
  · exact spec_memput3 v n p b w hv
  · exact spec_memput4 v n p b w hv
  · exact spec_memput5 v n p b w hv

end Go.Proofs.YtdhoimjkgicneabDoor
