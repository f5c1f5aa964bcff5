/- Texts of this proof laid together: MemKW, MemKR. -/
import Derived.Test.YtdhoimjkgicneaaDoorLot28
import Derived.Test.YtdhoimjkgicneaaDoorLot19
/- The program's MemPutWhole. -/
namespace Go.Proofs.YtdhoimjkgicneaaDoor
open Go Go.RowKit

set_option maxRecDepth 100000 in
set_option maxHeartbeats 4000000 in
theorem impl_putwholeIn (v : MemV) (n p : Int) (z : Int) (w : World) (T : KTab w) :
    Calls Tryd.prog 46 #[.agg v.row, .agg #[.int .i64 9, .int .i64 n, .int .i64 p], .int .i16 z] w fun e w' => e = .returned (.agg (putW v 9 n z).row) ∧ Below w.heap.size w w' := by
  obtain ⟨j, hj, hz, hc⟩ := place_nat 9 n p
  have e : putW v 9 n z = { v with d := fun i => if i = j then z else v.d i } := by unfold putW; rw [hj]; rfl
  have h16 := atZ_lt (k := 9) (n := n) (s := 32) rfl (by omega)
  rw [hj] at h16
  rw [e]
  clear e hj
  have hlt : j < 32 := by omega
  obtain ⟨v', ev⟩ : ∃ v' : MemV, v' = { v with d := fun i => if i = j then z else v.d i } := ⟨_, rfl⟩
  have hu : v'.cell (85 + j) = .int .i16 z := by rw [ev]; exact putD_cell v j hlt z
  have ho : ∀ i, i < 136 → i ≠ 85 + j → v'.cell i = v.cell i := by rw [ev]; exact putD_other v j z
  rw [← ev]
  clear ev
  go_enter Tryd.func46, Tryd.ntmps46
  go_wp2_with fail
  refine (hc _ (((T.alloc _).alloc _).alloc _)).mono ?_
  rintro e w1 ⟨rfl, hB⟩
  obtain ⟨hA, hR, hC, hB⟩ := three_boxes v w w1 _ _ _ _ hB
  have c0 := hA.c (85 + j) (by omega)
  rw [MemV.cell_d v j hlt] at c0
  have f0 := hA.f (85 + j) (by omega)
  have hA2 := hA.put (by omega) hu ho
  have hB2 := hB.setCell (p := ⟨w.heap.size, 85 + j, none⟩) (Nat.le_refl _) (.int .i16 z)
  have hR2 : MemAt (w.heap.size + 1 + 1) mem0 (w1.setCell ⟨w.heap.size, 85 + j, none⟩ (.int .i16 z)) := hR.of_block (Below.heap_setCell _ _ _ _ (by simp; omega)) (by simpa [World.setCell] using hR.z)
  have hR3 := hR2.stored v'
  have hB3 := setCells_below v'.row.toList (w.heap.size + 1 + 1) 0 hB2 (by omega)
  go_wp2_with (first | refine list_load (t := 61) rfl rfl rfl (load_mem hA2) ?_ | refine list_store (t := 61) rfl rfl rfl rfl (store_mem v' hR2) ?_)
  exact ret_mem (c := 6) rfl rfl rfl hR3 ⟨rfl, hB3⟩

set_option maxRecDepth 100000 in
set_option maxHeartbeats 4000000 in
theorem impl_putwhole (v : MemV) (k n p : Int) (z : Int) (w : World) (T : KTab w) :
    Calls Tryd.prog 46 #[.agg v.row, .agg #[.int .i64 k, .int .i64 n, .int .i64 p], .int .i16 z] w fun e w' => e = .returned (.agg (putW v k n z).row) ∧ Below w.heap.size w w' := by
  by_cases h1 : k = 9
  · subst h1
    exact impl_putwholeIn v n p z w T
  obtain ⟨hA, hR, hC, hB⟩ := three_boxes v w _ #[.int .i64 k, .int .i64 n, .int .i64 p] 61 24 61 (Below.refl _ _)
  have d0 := hC 0 _ rfl
  have e : putW v k n z = v := by unfold putW; rw [if_neg h1]
  rw [e]
  have hR3 := hR.stored v
  have hB3 := setCells_below v.row.toList (w.heap.size + 1 + 1) 0 hB (by omega)
  have h1 : (k == 9) = false := by simp; omega
  go_enter Tryd.func46, Tryd.ntmps46
  go_wp2_with (first | refine list_load (t := 61) rfl rfl rfl (load_mem hA) ?_ | refine list_store (t := 61) rfl rfl rfl rfl (store_mem v hR) ?_)
  exact ret_mem (c := 6) rfl rfl rfl hR3 ⟨rfl, hB3⟩

end Go.Proofs.YtdhoimjkgicneaaDoor

/- The program's MemPutReal. -/
namespace Go.Proofs.YtdhoimjkgicneaaDoor
open Go Go.RowKit

set_option maxRecDepth 100000 in
set_option maxHeartbeats 4000000 in
theorem impl_putrealIn (v : MemV) (n p : Int) (z : Nat) (w : World) (T : KTab w) :
    Calls Tryd.prog 48 #[.agg v.row, .agg #[.int .i64 10, .int .i64 n, .int .i64 p], .float .f64 z] w fun e w' => e = .returned (.agg (putR v 10 n z).row) ∧ Below w.heap.size w w' := by
  obtain ⟨j, hj, hz, hc⟩ := place_nat 10 n p
  have e : putR v 10 n z = { v with r := fun i => if i = j then z else v.r i } := by unfold putR; rw [hj]; rfl
  have h16 := atZ_lt (k := 10) (n := n) (s := 16) rfl (by omega)
  rw [hj] at h16
  rw [e]
  clear e hj
  have hlt : j < 16 := by omega
  obtain ⟨v', ev⟩ : ∃ v' : MemV, v' = { v with r := fun i => if i = j then z else v.r i } := ⟨_, rfl⟩
  have hu : v'.cell (117 + j) = .float .f64 z := by rw [ev]; exact putR_cell v j hlt z
  have ho : ∀ i, i < 136 → i ≠ 117 + j → v'.cell i = v.cell i := by rw [ev]; exact putR_other v j z
  rw [← ev]
  clear ev
  go_enter Tryd.func48, Tryd.ntmps48
  go_wp2_with fail
  refine (hc _ (((T.alloc _).alloc _).alloc _)).mono ?_
  rintro e w1 ⟨rfl, hB⟩
  obtain ⟨hA, hR, hC, hB⟩ := three_boxes v w w1 _ _ _ _ hB
  have c0 := hA.c (117 + j) (by omega)
  rw [MemV.cell_r v j hlt] at c0
  have f0 := hA.f (117 + j) (by omega)
  have s0 := store_float (z := z) c0 f0
  have hA2 := hA.put (by omega) hu ho
  have hB2 := hB.setCell (p := ⟨w.heap.size, 117 + j, none⟩) (Nat.le_refl _) (.float .f64 z)
  have hR2 : MemAt (w.heap.size + 1 + 1) mem0 (w1.setCell ⟨w.heap.size, 117 + j, none⟩ (.float .f64 z)) := hR.of_block (Below.heap_setCell _ _ _ _ (by simp; omega)) (by simpa [World.setCell] using hR.z)
  have hR3 := hR2.stored v'
  have hB3 := setCells_below v'.row.toList (w.heap.size + 1 + 1) 0 hB2 (by omega)
  go_wp2_with (first | refine list_load (t := 61) rfl rfl rfl (load_mem hA2) ?_ | refine list_store (t := 61) rfl rfl rfl rfl (store_mem v' hR2) ?_)
  exact ret_mem (c := 6) rfl rfl rfl hR3 ⟨rfl, hB3⟩

set_option maxRecDepth 100000 in
set_option maxHeartbeats 4000000 in
theorem impl_putreal (v : MemV) (k n p : Int) (z : Nat) (w : World) (T : KTab w) :
    Calls Tryd.prog 48 #[.agg v.row, .agg #[.int .i64 k, .int .i64 n, .int .i64 p], .float .f64 z] w fun e w' => e = .returned (.agg (putR v k n z).row) ∧ Below w.heap.size w w' := by
  by_cases h1 : k = 10
  · subst h1
    exact impl_putrealIn v n p z w T
  obtain ⟨hA, hR, hC, hB⟩ := three_boxes v w _ #[.int .i64 k, .int .i64 n, .int .i64 p] 61 24 61 (Below.refl _ _)
  have d0 := hC 0 _ rfl
  have e : putR v k n z = v := by unfold putR; rw [if_neg h1]
  rw [e]
  have hR3 := hR.stored v
  have hB3 := setCells_below v.row.toList (w.heap.size + 1 + 1) 0 hB (by omega)
  have h1 : (k == 10) = false := by simp; omega
  go_enter Tryd.func48, Tryd.ntmps48
  go_wp2_with (first | refine list_load (t := 61) rfl rfl rfl (load_mem hA) ?_ | refine list_store (t := 61) rfl rfl rfl rfl (store_mem v hR) ?_)
  exact ret_mem (c := 6) rfl rfl rfl hR3 ⟨rfl, hB3⟩

end Go.Proofs.YtdhoimjkgicneaaDoor
