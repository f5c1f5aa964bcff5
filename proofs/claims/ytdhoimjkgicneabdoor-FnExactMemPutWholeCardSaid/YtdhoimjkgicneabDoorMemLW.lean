/- The specification's MemPutWhole. -/
import Derived.Test.YtdhoimjkgicneabDoorMemKP
namespace Go.Proofs.YtdhoimjkgicneabDoor
open Go Go.RowKit

set_option maxRecDepth 100000 in
set_option maxHeartbeats 4000000 in
theorem spec_putwholeIn (v : MemV) (n p : Int) (z : Int) (w : World) :
    Calls Tryd.prog 24 #[.agg v.row, .agg #[.int .i64 9, .int .i64 n, .int .i64 p], .int .i16 z] w fun e w' => e = .returned (.agg (putW v 9 n z).row) ∧ Below w.heap.size w w' := by
  obtain ⟨j, hj, hz, hc⟩ := at_nat 9 n p
  have e : putW v 9 n z = { v with d := fun i => if i = j then z else v.d i } := by unfold putW; rw [hj]; rfl
  have h16 := atZ_lt (k := 9) (n := n) (s := 32) rfl (by omega)
  rw [hj] at h16
  rw [e]
  clear e hj
  have hlt : j < 32 := by omega
  obtain ⟨v', ev⟩ : ∃ v' : MemV, v' = { v with d := fun i => if i = j then z else v.d i } := ⟨_, rfl⟩
  have hu : v'.cell (85 + j) = .int .i16 z := by rw [ev]; exact putD_cell v j hlt z
  have ho : ∀ i, i < 136 → i ≠ 85 + j → v'.cell i = v.cell i := by rw [ev]; exact putD_other v j z
  rw [← ev]
  clear ev
  go_enter Tryd.func24, Tryd.ntmps24
  go_wp2_with fail
  refine (hc _).mono ?_
  rintro e w1 ⟨rfl, hB⟩
  obtain ⟨hA, hR, hC, hB⟩ := three_boxes v w w1 _ _ _ _ hB
  have c0 := hA.c (85 + j) (by omega)
  rw [MemV.cell_d v j hlt] at c0
  have f0 := hA.f (85 + j) (by omega)
  have hA2 := hA.put (by omega) hu ho
  have hB2 := hB.setCell (p := ⟨w.heap.size, 85 + j, none⟩) (Nat.le_refl _) (.int .i16 z)
  have hR2 : MemAt (w.heap.size + 1 + 1) mem0 (w1.setCell ⟨w.heap.size, 85 + j, none⟩ (.int .i16 z)) := hR.of_block (Below.heap_setCell _ _ _ _ (by simp; omega)) (by simpa [World.setCell] using hR.z)
  have hR3 := hR2.stored v'
  have hB3 := setCells_below v'.row.toList (w.heap.size + 1 + 1) 0 hB2 (by omega)
  go_wp2_with (first | refine list_load (t := 37) rfl rfl rfl (load_mem hA2) ?_ | refine list_store (t := 37) rfl rfl rfl rfl (store_mem v' hR2) ?_)
  exact ret_mem (c := 6) rfl rfl rfl hR3 ⟨rfl, hB3⟩

set_option maxRecDepth 100000 in
set_option maxHeartbeats 4000000 in
theorem spec_putwhole (v : MemV) (k n p : Int) (z : Int) (w : World) :
    Calls Tryd.prog 24 #[.agg v.row, .agg #[.int .i64 k, .int .i64 n, .int .i64 p], .int .i16 z] w fun e w' => e = .returned (.agg (putW v k n z).row) ∧ Below w.heap.size w w' := by
  by_cases h1 : k = 9
  · subst h1
    exact spec_putwholeIn v n p z w
  obtain ⟨hA, hR, hC, hB⟩ := three_boxes v w _ #[.int .i64 k, .int .i64 n, .int .i64 p] 37 42 37 (Below.refl _ _)
  have d0 := hC 0 _ rfl
  have e : putW v k n z = v := by unfold putW; rw [if_neg h1]
  rw [e]
  have hR3 := hR.stored v
  have hB3 := setCells_below v.row.toList (w.heap.size + 1 + 1) 0 hB (by omega)
  have h1 : (k == 9) = false := by simp; omega
  go_enter Tryd.func24, Tryd.ntmps24
  go_wp2_with (first | refine list_load (t := 37) rfl rfl rfl (load_mem hA) ?_ | refine list_store (t := 37) rfl rfl rfl rfl (store_mem v hR) ?_)
  exact ret_mem (c := 6) rfl rfl rfl hR3 ⟨rfl, hB3⟩

end Go.Proofs.YtdhoimjkgicneabDoor
