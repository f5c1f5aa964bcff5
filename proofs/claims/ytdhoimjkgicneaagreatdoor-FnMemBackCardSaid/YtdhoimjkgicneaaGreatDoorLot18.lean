/- Texts of this proof laid together: MemJ0, Dev4, MrQ. -/
import Derived.Test.YtdhoimjkgicneaaGreatDoorLot17
import Derived.Test.YtdhoimjkgicneaaGreatDoorLot8
import Derived.Test.YtdhoimjkgicneaaGreatDoorLot12
/- The program's memPutBit. -/
namespace Go.Proofs.YtdhoimjkgicneaaGreatDoor
open Go Go.RowKit

/-- A memory in which a bit is put, an input too. -/
def pbV (v : MemV) (k n : Int) (b : Bool) : MemV := if k = 1 then { v with x := turnN v.x (atZ k n).toNat b } else putV v k n b

set_option maxRecDepth 100000 in
set_option maxHeartbeats 4000000 in
theorem impl_putbit1 (v : MemV) (n p : Int) (b : Bool) (w : World) (hv : v.Ok) (T : KTab w) :
    Calls Tryz.prog 47 #[.agg v.row, .agg #[.int .i64 1, .int .i64 n, .int .i64 p], .bool b] w fun e w' => e = .returned (.agg (pbV v 1 n b).row) ∧ Below w.heap.size w w' := by
  obtain ⟨j, hj, hz, hc⟩ := place_nat 1 n p
  have e : pbV v 1 n b = { v with x := turnN v.x j b } := by unfold pbV; rw [hj]; rfl
  have h16 := atZ_lt (k := 1) (n := n) (s := 32) rfl (by omega)
  rw [hj] at h16
  rw [e]
  clear e hj
  have hx := hv.x
  have ht : turnN v.x j b < 4294967296 := turn_small (s := 32) hx (by omega) b
  obtain ⟨t, et⟩ : ∃ t, t = turnN v.x j b := ⟨_, rfl⟩
  rw [← et] at ht ⊢
  have hT : ∀ w, Calls Tryz.prog 88 #[.agg #[.int .i64 j, .bool b], .int .u64 v.x] w fun e w' => e = .returned (.int .u64 t) ∧ Below w.heap.size w w' := fun w => et ▸ impl_put v.x j b w (by omega) hz
  have hW : ∀ w, Calls Tryz.prog 65 #[.agg v.row, .int .i64 1] w fun e w' => e = .returned (.int .u64 v.x) ∧ Below w.heap.size w w' := fun w => impl_word v 1 w hv
  clear et
  obtain ⟨v', ev⟩ : ∃ v' : MemV, v' = { v with x := t } := ⟨_, rfl⟩
  have hu : v'.cell 0 = .int .u32 t := by rw [ev]; rfl
  have ho : ∀ i, i < 136 → i ≠ 0 → v'.cell i = v.cell i := by
    intro i _ hi
    rw [ev]
    unfold MemV.cell
    simp only [if_neg hi]
  rw [← ev]
  clear ev
  go_enter Tryz.func47, Tryz.ntmps47
  go_wp2_with fail
  refine (hc _ (((T.alloc _).alloc _).alloc _)).mono ?_
  rintro e w1 ⟨rfl, hB⟩
  obtain ⟨hA, hR, hC, hB⟩ := three_boxes v w w1 _ _ _ _ hB
  have c0 := hA.c 0 (by omega)
  rw [MemV.cell_x] at c0
  have d0 := hC 0 _ rfl
  go_wp2_with (refine list_load (t := 37) rfl rfl rfl (load_mem hA) ?_)
  refine (hW _).mono ?_
  rintro e w2 ⟨rfl, hB2⟩
  go_wp2_with fail
  refine (hT _).mono ?_
  rintro e w3 ⟨rfl, hB3⟩
  have hz1 := hR.z
  have hs2 := hB2.size
  have HB3 : Below w1.heap.size w1 w3 := hB2.trans (hB3.mono hs2)
  clear hB2 hB3 hs2 c0 d0
  have hA := hA.below HB3 hA.z
  have hR := hR.below HB3 hR.z
  have d0 := (HB3.cell (p := ⟨w.heap.size + 1, 0, none⟩) (by show w.heap.size + 1 < w1.heap.size; omega)).trans (hC 0 _ rfl)
  have hB := hB.trans (HB3.mono hB.size)
  clear HB3 hC
  have c0 := hA.c 0 (by omega)
  rw [MemV.cell_x] at c0
  have f0 := hA.f 0 (by omega)
  have hA2 := hA.put (by omega) hu ho
  have hB2 := hB.setCell (p := ⟨w.heap.size, 0, none⟩) (Nat.le_refl _) (.int .u32 t)
  have hR2 : MemAt (w.heap.size + 1 + 1) mem0 (w3.setCell ⟨w.heap.size, 0, none⟩ (.int .u32 t)) := hR.of_block (Below.heap_setCell _ _ _ _ (by simp; omega)) (by simpa [World.setCell] using hR.z)
  have hR3 := hR2.stored v'
  have hB3 := setCells_below v'.row.toList (w.heap.size + 1 + 1) 0 hB2 (by omega)
  go_wp2_with (first | refine list_load (t := 37) rfl rfl rfl (load_mem hA2) ?_ | refine list_store (t := 37) rfl rfl rfl rfl (store_mem v' hR2) ?_)
  exact ret_mem (c := 6) rfl rfl rfl hR3 ⟨rfl, hB3⟩

set_option maxRecDepth 100000 in
set_option maxHeartbeats 4000000 in
theorem impl_putbit2 (v : MemV) (n p : Int) (b : Bool) (w : World) (hv : v.Ok) (T : KTab w) :
    Calls Tryz.prog 47 #[.agg v.row, .agg #[.int .i64 2, .int .i64 n, .int .i64 p], .bool b] w fun e w' => e = .returned (.agg (pbV v 2 n b).row) ∧ Below w.heap.size w w' := by
  obtain ⟨j, hj, hz, hc⟩ := place_nat 2 n p
  have e : pbV v 2 n b = { v with y := turnN v.y j b } := by unfold pbV putV; rw [hj]; rfl
  have h16 := atZ_lt (k := 2) (n := n) (s := 32) rfl (by omega)
  rw [hj] at h16
  rw [e]
  clear e hj
  have hx := hv.y
  have ht : turnN v.y j b < 4294967296 := turn_small (s := 32) hx (by omega) b
  obtain ⟨t, et⟩ : ∃ t, t = turnN v.y j b := ⟨_, rfl⟩
  rw [← et] at ht ⊢
  have hT : ∀ w, Calls Tryz.prog 88 #[.agg #[.int .i64 j, .bool b], .int .u64 v.y] w fun e w' => e = .returned (.int .u64 t) ∧ Below w.heap.size w w' := fun w => et ▸ impl_put v.y j b w (by omega) hz
  have hW : ∀ w, Calls Tryz.prog 65 #[.agg v.row, .int .i64 2] w fun e w' => e = .returned (.int .u64 v.y) ∧ Below w.heap.size w w' := fun w => impl_word v 2 w hv
  clear et
  obtain ⟨v', ev⟩ : ∃ v' : MemV, v' = { v with y := t } := ⟨_, rfl⟩
  have hu : v'.cell 1 = .int .u32 t := by rw [ev]; rfl
  have ho : ∀ i, i < 136 → i ≠ 1 → v'.cell i = v.cell i := by
    intro i _ hi
    rw [ev]
    unfold MemV.cell
    simp only [if_neg hi]
  rw [← ev]
  clear ev
  go_enter Tryz.func47, Tryz.ntmps47
  go_wp2_with fail
  refine (hc _ (((T.alloc _).alloc _).alloc _)).mono ?_
  rintro e w1 ⟨rfl, hB⟩
  obtain ⟨hA, hR, hC, hB⟩ := three_boxes v w w1 _ _ _ _ hB
  have c0 := hA.c 1 (by omega)
  rw [MemV.cell_y] at c0
  have d0 := hC 0 _ rfl
  go_wp2_with (refine list_load (t := 37) rfl rfl rfl (load_mem hA) ?_)
  refine (hW _).mono ?_
  rintro e w2 ⟨rfl, hB2⟩
  go_wp2_with fail
  refine (hT _).mono ?_
  rintro e w3 ⟨rfl, hB3⟩
  have hz1 := hR.z
  have hs2 := hB2.size
  have HB3 : Below w1.heap.size w1 w3 := hB2.trans (hB3.mono hs2)
  clear hB2 hB3 hs2 c0 d0
  have hA := hA.below HB3 hA.z
  have hR := hR.below HB3 hR.z
  have d0 := (HB3.cell (p := ⟨w.heap.size + 1, 0, none⟩) (by show w.heap.size + 1 < w1.heap.size; omega)).trans (hC 0 _ rfl)
  have hB := hB.trans (HB3.mono hB.size)
  clear HB3 hC
  have c0 := hA.c 1 (by omega)
  rw [MemV.cell_y] at c0
  have f0 := hA.f 1 (by omega)
  have hA2 := hA.put (by omega) hu ho
  have hB2 := hB.setCell (p := ⟨w.heap.size, 1, none⟩) (Nat.le_refl _) (.int .u32 t)
  have hR2 : MemAt (w.heap.size + 1 + 1) mem0 (w3.setCell ⟨w.heap.size, 1, none⟩ (.int .u32 t)) := hR.of_block (Below.heap_setCell _ _ _ _ (by simp; omega)) (by simpa [World.setCell] using hR.z)
  have hR3 := hR2.stored v'
  have hB3 := setCells_below v'.row.toList (w.heap.size + 1 + 1) 0 hB2 (by omega)
  go_wp2_with (first | refine list_load (t := 37) rfl rfl rfl (load_mem hA2) ?_ | refine list_store (t := 37) rfl rfl rfl rfl (store_mem v' hR2) ?_)
  exact ret_mem (c := 6) rfl rfl rfl hR3 ⟨rfl, hB3⟩

set_option maxRecDepth 100000 in
set_option maxHeartbeats 4000000 in
theorem impl_putbit3 (v : MemV) (n p : Int) (b : Bool) (w : World) (hv : v.Ok) (T : KTab w) :
    Calls Tryz.prog 47 #[.agg v.row, .agg #[.int .i64 3, .int .i64 n, .int .i64 p], .bool b] w fun e w' => e = .returned (.agg (pbV v 3 n b).row) ∧ Below w.heap.size w w' := by
  obtain ⟨j, hj, hz, hc⟩ := place_nat 3 n p
  have e : pbV v 3 n b = { v with m := turnN v.m j b } := by unfold pbV putV; rw [hj]; rfl
  have h16 := atZ_lt (k := 3) (n := n) (s := 64) rfl (by omega)
  rw [hj] at h16
  rw [e]
  clear e hj
  have hx := hv.m
  have ht : turnN v.m j b < 18446744073709551616 := turn_small (s := 64) hx (by omega) b
  obtain ⟨t, et⟩ : ∃ t, t = turnN v.m j b := ⟨_, rfl⟩
  rw [← et] at ht ⊢
  have hT : ∀ w, Calls Tryz.prog 88 #[.agg #[.int .i64 j, .bool b], .int .u64 v.m] w fun e w' => e = .returned (.int .u64 t) ∧ Below w.heap.size w w' := fun w => et ▸ impl_put v.m j b w (by omega) hz
  have hW : ∀ w, Calls Tryz.prog 65 #[.agg v.row, .int .i64 3] w fun e w' => e = .returned (.int .u64 v.m) ∧ Below w.heap.size w w' := fun w => impl_word v 3 w hv
  clear et
  obtain ⟨v', ev⟩ : ∃ v' : MemV, v' = { v with m := t } := ⟨_, rfl⟩
  have hu : v'.cell 2 = .int .u64 t := by rw [ev]; rfl
  have ho : ∀ i, i < 136 → i ≠ 2 → v'.cell i = v.cell i := by
    intro i _ hi
    rw [ev]
    unfold MemV.cell
    simp only [if_neg hi]
  rw [← ev]
  clear ev
  go_enter Tryz.func47, Tryz.ntmps47
  go_wp2_with fail
  refine (hc _ (((T.alloc _).alloc _).alloc _)).mono ?_
  rintro e w1 ⟨rfl, hB⟩
  obtain ⟨hA, hR, hC, hB⟩ := three_boxes v w w1 _ _ _ _ hB
  have c0 := hA.c 2 (by omega)
  rw [MemV.cell_m] at c0
  have d0 := hC 0 _ rfl
  go_wp2_with (refine list_load (t := 37) rfl rfl rfl (load_mem hA) ?_)
  refine (hW _).mono ?_
  rintro e w2 ⟨rfl, hB2⟩
  go_wp2_with fail
  refine (hT _).mono ?_
  rintro e w3 ⟨rfl, hB3⟩
  have hz1 := hR.z
  have hs2 := hB2.size
  have HB3 : Below w1.heap.size w1 w3 := hB2.trans (hB3.mono hs2)
  clear hB2 hB3 hs2 c0 d0
  have hA := hA.below HB3 hA.z
  have hR := hR.below HB3 hR.z
  have d0 := (HB3.cell (p := ⟨w.heap.size + 1, 0, none⟩) (by show w.heap.size + 1 < w1.heap.size; omega)).trans (hC 0 _ rfl)
  have hB := hB.trans (HB3.mono hB.size)
  clear HB3 hC
  have c0 := hA.c 2 (by omega)
  rw [MemV.cell_m] at c0
  have f0 := hA.f 2 (by omega)
  have hA2 := hA.put (by omega) hu ho
  have hB2 := hB.setCell (p := ⟨w.heap.size, 2, none⟩) (Nat.le_refl _) (.int .u64 t)
  have hR2 : MemAt (w.heap.size + 1 + 1) mem0 (w3.setCell ⟨w.heap.size, 2, none⟩ (.int .u64 t)) := hR.of_block (Below.heap_setCell _ _ _ _ (by simp; omega)) (by simpa [World.setCell] using hR.z)
  have hR3 := hR2.stored v'
  have hB3 := setCells_below v'.row.toList (w.heap.size + 1 + 1) 0 hB2 (by omega)
  go_wp2_with (first | refine list_load (t := 37) rfl rfl rfl (load_mem hA2) ?_ | refine list_store (t := 37) rfl rfl rfl rfl (store_mem v' hR2) ?_)
  exact ret_mem (c := 6) rfl rfl rfl hR3 ⟨rfl, hB3⟩

set_option maxRecDepth 100000 in
set_option maxHeartbeats 4000000 in
theorem impl_putbit4 (v : MemV) (n p : Int) (b : Bool) (w : World) (hv : v.Ok) (T : KTab w) :
    Calls Tryz.prog 47 #[.agg v.row, .agg #[.int .i64 4, .int .i64 n, .int .i64 p], .bool b] w fun e w' => e = .returned (.agg (pbV v 4 n b).row) ∧ Below w.heap.size w w' := by
  obtain ⟨j, hj, hz, hc⟩ := place_nat 4 n p
  have e : pbV v 4 n b = { v with s := turnN v.s j b } := by unfold pbV putV; rw [hj]; rfl
  have h16 := atZ_lt (k := 4) (n := n) (s := 16) rfl (by omega)
  rw [hj] at h16
  rw [e]
  clear e hj
  have hx := hv.s
  have ht : turnN v.s j b < 65536 := turn_small (s := 16) hx (by omega) b
  obtain ⟨t, et⟩ : ∃ t, t = turnN v.s j b := ⟨_, rfl⟩
  rw [← et] at ht ⊢
  have hT : ∀ w, Calls Tryz.prog 88 #[.agg #[.int .i64 j, .bool b], .int .u64 v.s] w fun e w' => e = .returned (.int .u64 t) ∧ Below w.heap.size w w' := fun w => et ▸ impl_put v.s j b w (by omega) hz
  have hW : ∀ w, Calls Tryz.prog 65 #[.agg v.row, .int .i64 4] w fun e w' => e = .returned (.int .u64 v.s) ∧ Below w.heap.size w w' := fun w => impl_word v 4 w hv
  clear et
  obtain ⟨v', ev⟩ : ∃ v' : MemV, v' = { v with s := t } := ⟨_, rfl⟩
  have hu : v'.cell 3 = .int .u16 t := by rw [ev]; rfl
  have ho : ∀ i, i < 136 → i ≠ 3 → v'.cell i = v.cell i := by
    intro i _ hi
    rw [ev]
    unfold MemV.cell
    simp only [if_neg hi]
  rw [← ev]
  clear ev
  go_enter Tryz.func47, Tryz.ntmps47
  go_wp2_with fail
  refine (hc _ (((T.alloc _).alloc _).alloc _)).mono ?_
  rintro e w1 ⟨rfl, hB⟩
  obtain ⟨hA, hR, hC, hB⟩ := three_boxes v w w1 _ _ _ _ hB
  have c0 := hA.c 3 (by omega)
  rw [MemV.cell_s] at c0
  have d0 := hC 0 _ rfl
  go_wp2_with (refine list_load (t := 37) rfl rfl rfl (load_mem hA) ?_)
  refine (hW _).mono ?_
  rintro e w2 ⟨rfl, hB2⟩
  go_wp2_with fail
  refine (hT _).mono ?_
  rintro e w3 ⟨rfl, hB3⟩
  have hz1 := hR.z
  have hs2 := hB2.size
  have HB3 : Below w1.heap.size w1 w3 := hB2.trans (hB3.mono hs2)
  clear hB2 hB3 hs2 c0 d0
  have hA := hA.below HB3 hA.z
  have hR := hR.below HB3 hR.z
  have d0 := (HB3.cell (p := ⟨w.heap.size + 1, 0, none⟩) (by show w.heap.size + 1 < w1.heap.size; omega)).trans (hC 0 _ rfl)
  have hB := hB.trans (HB3.mono hB.size)
  clear HB3 hC
  have c0 := hA.c 3 (by omega)
  rw [MemV.cell_s] at c0
  have f0 := hA.f 3 (by omega)
  have hA2 := hA.put (by omega) hu ho
  have hB2 := hB.setCell (p := ⟨w.heap.size, 3, none⟩) (Nat.le_refl _) (.int .u16 t)
  have hR2 : MemAt (w.heap.size + 1 + 1) mem0 (w3.setCell ⟨w.heap.size, 3, none⟩ (.int .u16 t)) := hR.of_block (Below.heap_setCell _ _ _ _ (by simp; omega)) (by simpa [World.setCell] using hR.z)
  have hR3 := hR2.stored v'
  have hB3 := setCells_below v'.row.toList (w.heap.size + 1 + 1) 0 hB2 (by omega)
  go_wp2_with (first | refine list_load (t := 37) rfl rfl rfl (load_mem hA2) ?_ | refine list_store (t := 37) rfl rfl rfl rfl (store_mem v' hR2) ?_)
  exact ret_mem (c := 6) rfl rfl rfl hR3 ⟨rfl, hB3⟩

set_option maxRecDepth 100000 in
set_option maxHeartbeats 4000000 in
theorem impl_putbit5 (v : MemV) (n p : Int) (b : Bool) (w : World) (hv : v.Ok) (T : KTab w) :
    Calls Tryz.prog 47 #[.agg v.row, .agg #[.int .i64 5, .int .i64 n, .int .i64 p], .bool b] w fun e w' => e = .returned (.agg (pbV v 5 n b).row) ∧ Below w.heap.size w w' := by
  obtain ⟨j, hj, hz, hc⟩ := place_nat 5 n p
  have e : pbV v 5 n b = { v with e := turnN v.e j b } := by unfold pbV putV; rw [hj]; rfl
  have h16 := atZ_lt (k := 5) (n := n) (s := 32) rfl (by omega)
  rw [hj] at h16
  rw [e]
  clear e hj
  have hx := hv.e
  have ht : turnN v.e j b < 4294967296 := turn_small (s := 32) hx (by omega) b
  obtain ⟨t, et⟩ : ∃ t, t = turnN v.e j b := ⟨_, rfl⟩
  rw [← et] at ht ⊢
  have hT : ∀ w, Calls Tryz.prog 88 #[.agg #[.int .i64 j, .bool b], .int .u64 v.e] w fun e w' => e = .returned (.int .u64 t) ∧ Below w.heap.size w w' := fun w => et ▸ impl_put v.e j b w (by omega) hz
  have hW : ∀ w, Calls Tryz.prog 65 #[.agg v.row, .int .i64 5] w fun e w' => e = .returned (.int .u64 v.e) ∧ Below w.heap.size w w' := fun w => impl_word v 5 w hv
  clear et
  obtain ⟨v', ev⟩ : ∃ v' : MemV, v' = { v with e := t } := ⟨_, rfl⟩
  have hu : v'.cell 4 = .int .u32 t := by rw [ev]; rfl
  have ho : ∀ i, i < 136 → i ≠ 4 → v'.cell i = v.cell i := by
    intro i _ hi
    rw [ev]
    unfold MemV.cell
    simp only [if_neg hi]
  rw [← ev]
  clear ev
  go_enter Tryz.func47, Tryz.ntmps47
  go_wp2_with fail
  refine (hc _ (((T.alloc _).alloc _).alloc _)).mono ?_
  rintro e w1 ⟨rfl, hB⟩
  obtain ⟨hA, hR, hC, hB⟩ := three_boxes v w w1 _ _ _ _ hB
  have c0 := hA.c 4 (by omega)
  rw [MemV.cell_e] at c0
  have d0 := hC 0 _ rfl
  go_wp2_with (refine list_load (t := 37) rfl rfl rfl (load_mem hA) ?_)
  refine (hW _).mono ?_
  rintro e w2 ⟨rfl, hB2⟩
  go_wp2_with fail
  refine (hT _).mono ?_
  rintro e w3 ⟨rfl, hB3⟩
  have hz1 := hR.z
  have hs2 := hB2.size
  have HB3 : Below w1.heap.size w1 w3 := hB2.trans (hB3.mono hs2)
  clear hB2 hB3 hs2 c0 d0
  have hA := hA.below HB3 hA.z
  have hR := hR.below HB3 hR.z
  have d0 := (HB3.cell (p := ⟨w.heap.size + 1, 0, none⟩) (by show w.heap.size + 1 < w1.heap.size; omega)).trans (hC 0 _ rfl)
  have hB := hB.trans (HB3.mono hB.size)
  clear HB3 hC
  have c0 := hA.c 4 (by omega)
  rw [MemV.cell_e] at c0
  have f0 := hA.f 4 (by omega)
  have hA2 := hA.put (by omega) hu ho
  have hB2 := hB.setCell (p := ⟨w.heap.size, 4, none⟩) (Nat.le_refl _) (.int .u32 t)
  have hR2 : MemAt (w.heap.size + 1 + 1) mem0 (w3.setCell ⟨w.heap.size, 4, none⟩ (.int .u32 t)) := hR.of_block (Below.heap_setCell _ _ _ _ (by simp; omega)) (by simpa [World.setCell] using hR.z)
  have hR3 := hR2.stored v'
  have hB3 := setCells_below v'.row.toList (w.heap.size + 1 + 1) 0 hB2 (by omega)
  go_wp2_with (first | refine list_load (t := 37) rfl rfl rfl (load_mem hA2) ?_ | refine list_store (t := 37) rfl rfl rfl rfl (store_mem v' hR2) ?_)
  exact ret_mem (c := 6) rfl rfl rfl hR3 ⟨rfl, hB3⟩

set_option maxRecDepth 100000 in
set_option maxHeartbeats 4000000 in
theorem impl_putbit0 (v : MemV) (k n p : Int) (b : Bool) (w : World) (hv : v.Ok) (T : KTab w) (h : k < 1 ∨ 5 < k) :
    Calls Tryz.prog 47 #[.agg v.row, .agg #[.int .i64 k, .int .i64 n, .int .i64 p], .bool b] w fun e w' => e = .returned (.agg (pbV v k n b).row) ∧ Below w.heap.size w w' := by
  obtain ⟨j, hj, hz, hc⟩ := place_nat k n p
  have e : pbV v k n b = v := by
    unfold pbV putV
    rw [if_neg (by omega), if_neg (by omega), if_neg (by omega), if_neg (by omega), if_neg (by omega)]
  rw [e]
  clear e hj
  have hx : wordN v k = 0 := by
    unfold wordN
    rw [if_neg (by omega), if_neg (by omega), if_neg (by omega), if_neg (by omega), if_neg (by omega)]
  have hT : ∀ w, Calls Tryz.prog 88 #[.agg #[.int .i64 j, .bool b], .int .u64 0] w fun e w' => e = .returned (.int .u64 (turnN 0 j b)) ∧ Below w.heap.size w w' := fun w => impl_put 0 j b w (by omega) hz
  have hW : ∀ w, Calls Tryz.prog 65 #[.agg v.row, .int .i64 k] w fun e w' => e = .returned (.int .u64 0) ∧ Below w.heap.size w w' := fun w => by
    have := impl_word v k w hv
    rw [hx] at this
    exact this
  have h1 : (k == 1) = false := by simp; omega
  have h2 : (k == 2) = false := by simp; omega
  have h3 : (k == 3) = false := by simp; omega
  have h4 : (k == 4) = false := by simp; omega
  have h5 : (k == 5) = false := by simp; omega
  go_enter Tryz.func47, Tryz.ntmps47
  go_wp2_with fail
  refine (hc _ (((T.alloc _).alloc _).alloc _)).mono ?_
  rintro e w1 ⟨rfl, hB⟩
  obtain ⟨hA, hR, hC, hB⟩ := three_boxes v w w1 _ _ _ _ hB
  have d0 := hC 0 _ rfl
  go_wp2_with (refine list_load (t := 37) rfl rfl rfl (load_mem hA) ?_)
  refine (hW _).mono ?_
  rintro e w2 ⟨rfl, hB2⟩
  go_wp2_with fail
  refine (hT _).mono ?_
  rintro e w3 ⟨rfl, hB3⟩
  have hz1 := hR.z
  have hs2 := hB2.size
  have HB3 : Below w1.heap.size w1 w3 := hB2.trans (hB3.mono hs2)
  clear hB2 hB3 hs2 d0
  have hA := hA.below HB3 hA.z
  have hR := hR.below HB3 hR.z
  have d0 := (HB3.cell (p := ⟨w.heap.size + 1, 0, none⟩) (by show w.heap.size + 1 < w1.heap.size; omega)).trans (hC 0 _ rfl)
  have hB := hB.trans (HB3.mono hB.size)
  clear HB3 hC
  have hR3 := hR.stored v
  have hB3 := setCells_below v.row.toList (w.heap.size + 1 + 1) 0 hB (by omega)
  go_wp2_with (first | refine list_load (t := 37) rfl rfl rfl (load_mem hA) ?_ | refine list_store (t := 37) rfl rfl rfl rfl (store_mem v hR) ?_)
  exact ret_mem (c := 6) rfl rfl rfl hR3 ⟨rfl, hB3⟩

theorem impl_putbit (v : MemV) (k n p : Int) (b : Bool) (w : World) (hv : v.Ok) (T : KTab w) :
    Calls Tryz.prog 47 #[.agg v.row, .agg #[.int .i64 k, .int .i64 n, .int .i64 p], .bool b] w fun e w' => e = .returned (.agg (pbV v k n b).row) ∧ Below w.heap.size w w' := by
  by_cases h : k < 1 ∨ 5 < k
  · exact impl_putbit0 v k n p b w hv T h
  have : k = 1 ∨ k = 2 ∨ k = 3 ∨ k = 4 ∨ k = 5 := by omega
  rcases this with rfl | rfl | rfl | rfl | rfl
  · exact impl_putbit1 v n p b w hv T
  · exact impl_putbit2 v n p b w hv T
  · exact impl_putbit3 v n p b w hv T
  · exact impl_putbit4 v n p b w hv T
  · exact impl_putbit5 v n p b w hv T

end Go.Proofs.YtdhoimjkgicneaaGreatDoor

/- Each reader gives back the operand out of its text. Plain. -/
namespace Go.Proofs.YtdhoimjkgicneaaGreatDoor
open Go

theorem all_take {l : List UInt8} (a : Nat) (h : l.all isDig = true) : (l.take a).all isDig = true := by
  rw [List.all_eq_true] at h ⊢
  intro x hx; exact h x (List.mem_of_mem_take hx)
theorem all_drop {l : List UInt8} (a : Nat) (h : l.all isDig = true) : (l.drop a).all isDig = true := by
  rw [List.all_eq_true] at h ⊢
  intro x hx; exact h x (List.mem_of_mem_drop hx)
theorem dval_split (l : List UInt8) (a : Nat) : dval (l.drop a) (dval (l.take a) 0) = dval l 0 := by
  rw [← dval_append, List.take_append_drop]

theorem pad_len (m p : Nat) (hm : m ≤ 999999999) (hp : p ≤ 6) : p < (padL (Lib.decDigits m) p).length ∧ (padL (Lib.decDigits m) p).length ≤ 10 := by
  have := dd_len 8 m (by omega)
  rw [padL]; simp; omega
theorem pad_val (m p : Nat) : dval (padL (Lib.decDigits m) p) 0 = m := by rw [padL, dval_pad, dval_dd]

theorem numP_int (s : Int) (m : Nat) (hm : m ≤ 999999999) : numP s (Lib.decDigits m) = ((11 : Int), s * (m : Int), (0 : Int)) := by
  have h1 := dd_len 8 m (by omega)
  have h2 := dd_pos m
  unfold numP
  rw [fnd_none (dd_all m)]
  simp only []
  rw [digitsZ, if_pos ⟨by omega, by omega, dd_all m⟩, dval_dd]

theorem numP_dec (s : Int) (m p : Nat) (hm : m ≤ 999999999) (hp : p ≤ 6) : numP s (decM m p) = ((12 : Int), s * (m : Int), (p : Int)) := by
  obtain ⟨h1, h2⟩ := pad_len m p hm hp
  have ha := pad_all m p
  have hv := pad_val m p
  unfold decM
  generalize padL (Lib.decDigits m) p = d at *
  have e : pointL d p = d.take (d.length - p) ++ 46 :: d.drop (d.length - p) := by simp [pointL]
  have hl : (d.take (d.length - p)).length = d.length - p := by simp
  unfold numP
  rw [e, fnd_some _ (all_take _ ha), hl]
  simp only []
  have e2 : (d.take (d.length - p) ++ 46 :: d.drop (d.length - p)).take (d.length - p) = d.take (d.length - p) := by
    rw [List.take_append_of_le_length (by omega), List.take_take, Nat.min_self]
  have e3 : (d.take (d.length - p) ++ 46 :: d.drop (d.length - p)).drop (d.length - p + 1) = d.drop (d.length - p) := by
    rw [List.drop_append, hl, List.drop_of_length_le (by omega)]
    simp
  rw [e2, e3, List.take_append_drop, digitsZ, if_pos ⟨by omega, by omega, ha⟩, hv]
  simp; omega

theorem scan_int (k s : Int) (m : Nat) (hm : m ≤ 999999999) (hk : k ≠ 12) : scanL k s 0 0 (Lib.decDigits m) = (k, (m : Int) * s, (0 : Int)) := by
  have := scan_digits k s [] (Lib.decDigits m) 0 0 (dd_all m) (by rw [dval_dd]; omega)
  rw [List.append_nil, dval_dd, if_neg hk] at this
  rw [this, scanL]; rfl

theorem scan_dec (s : Int) (m p : Nat) (hm : m ≤ 999999999) (hp : p ≤ 6) : scanL 11 s 0 0 (decM m p) = ((12 : Int), (m : Int) * s, (p : Int)) := by
  obtain ⟨h1, h2⟩ := pad_len m p hm hp
  have ha := pad_all m p
  have hv := pad_val m p
  unfold decM
  generalize padL (Lib.decDigits m) p = d at *
  have e : pointL d p = d.take (d.length - p) ++ 46 :: d.drop (d.length - p) := by simp [pointL]
  have hs := dval_split d (d.length - p)
  have hle := dval_le (d.drop (d.length - p)) (dval (d.take (d.length - p)) 0)
  rw [e, scan_digits 11 s _ _ 0 0 (all_take _ ha) (by omega), if_neg (by decide), scanL, if_pos ⟨rfl, rfl⟩]
  have h3 := scan_digits 12 s [] (d.drop (d.length - p)) (dval (d.take (d.length - p)) 0) 0 (all_drop _ ha) (by omega)
  rw [List.append_nil, hs, hv, if_pos rfl] at h3
  rw [h3, scanL]
  simp; omega

theorem head_dec (m p : Nat) (hm : m ≤ 999999999) (hp : p ≤ 6) : ∃ c cs, decM m p = c :: cs ∧ isDig c = true := by
  obtain ⟨h1, h2⟩ := pad_len m p hm hp
  have ha := pad_all m p
  unfold decM
  generalize padL (Lib.decDigits m) p = d at *
  obtain ⟨c, cs, e, hc⟩ := head_dig (all_take (d.length - p) ha) (by simp; omega)
  exact ⟨c, cs ++ 46 :: d.drop (d.length - p), by simp [pointL, e], hc⟩
theorem head_int (m : Nat) : ∃ c cs, Lib.decDigits m = c :: cs ∧ isDig c = true := head_dig (dd_all m) (dd_pos m)

theorem dec_not (m p : Nat) (hm : m ≤ 999999999) (hp : p ≤ 6) (h0 : 1 ≤ m) : decM m p ≠ [48, 46, 48] := by
  intro e
  have h := scan_dec 1 m p hm hp
  rw [e] at h
  have : scanL 11 1 0 0 [48, 46, 48] = (12, 0, 1) := by decide
  rw [this] at h
  have h2 := (Prod.mk.inj (Prod.mk.inj h).2).1
  omega
theorem int_not (m : Nat) : Lib.decDigits m ≠ [48, 46, 48] := by
  intro e
  have := dd_all m
  rw [e] at this
  revert this; decide

theorem read_both {k n p : Int} (h : okB k n p = true) : guessP (textL k n p) = (k, n, p) ∧ scanP (textL k n p) = (k, n, p) := by
  unfold textL
  rw [if_neg (by rw [h]; decide)]
  split
  · rename_i hk; subst hk
    obtain ⟨h1, h2, rfl⟩ := ok_int h
    by_cases h0 : 0 ≤ n
    · obtain ⟨m, rfl⟩ : ∃ m : Nat, n = m := ⟨n.toNat, by omega⟩
      rw [Lib.itoa_nonneg, guess_plus (head_int m), scan_plus (head_int m), numP_int 1 m (by omega), scan_int 11 1 m (by omega) (by decide)]
      simp
    · obtain ⟨m, rfl⟩ : ∃ m : Nat, n = -(m : Int) := ⟨n.natAbs, by omega⟩
      rw [Lib.itoa_neg m (by omega), guess_minus (head_int m) (int_not m), scan_minus (head_int m) (int_not m), numP_int (-1) m (by omega), scan_int 11 (-1) m (by omega) (by decide)]
      simp
  · split
    · rename_i hk; subst hk
      obtain ⟨h1, h2, h3, h4, -⟩ := ok_dec h
      obtain ⟨q, rfl⟩ : ∃ q : Nat, p = q := ⟨p.toNat, by omega⟩
      rw [show (q : Int).toNat = q from rfl]
      by_cases h0 : 0 ≤ n
      · obtain ⟨m, rfl⟩ : ∃ m : Nat, n = m := ⟨n.toNat, by omega⟩
        have e : decT (m : Int) q = decM m q := by unfold decT; rw [if_neg (by omega)]; simp
        have hh := head_dec m q (by omega) (by omega)
        rw [e, guess_plus hh, scan_plus hh, numP_dec 1 m q (by omega) (by omega), scan_dec 1 m q (by omega) (by omega)]
        simp
      · obtain ⟨m, rfl⟩ : ∃ m : Nat, n = -(m : Int) := ⟨n.natAbs, by omega⟩
        have e : decT (-(m : Int)) q = 45 :: decM m q := by unfold decT; rw [if_pos (by omega)]; simp
        have hh := head_dec m q (by omega) (by omega)
        have hn := dec_not m q (by omega) (by omega) (by omega)
        rw [e, guess_minus hh hn, scan_minus hh hn, numP_dec (-1) m q (by omega) (by omega), scan_dec (-1) m q (by omega) (by omega)]
        simp
    · split
      · rename_i hk; subst hk
        obtain ⟨h1, h2, rfl⟩ := ok_word h
        have h4 : n = 0 ∨ n = 1 ∨ n = 2 ∨ n = 3 := by omega
        rcases h4 with rfl | rfl | rfl | rfl <;> decide
      · obtain ⟨h1, h2, rfl⟩ := ok_dev h (by omega)
        obtain ⟨h3, h4⟩ := ok_kind h (by omega)
        have hz := sizeZ_bd k
        obtain ⟨m, rfl⟩ : ∃ m : Nat, n = m := ⟨n.toNat, by omega⟩
        have hm : m ≤ 64 := by omega
        rw [Lib.itoa_nonneg]
        have hd := numP_int 1 m (by omega)
        have hdz : digitsZ (Lib.decDigits m) = m := by
          have := dd_len 8 m (by omega)
          have := dd_pos m
          rw [digitsZ, if_pos ⟨by omega, by omega, dd_all m⟩, dval_dd]
        have hK : k = 1 ∨ k = 2 ∨ k = 3 ∨ k = 4 ∨ k = 5 ∨ k = 6 ∨ k = 7 ∨ k = 8 ∨ k = 9 ∨ k = 10 := by omega
        have key : ∀ (c : UInt8) (k : Int), letK (c :: Lib.decDigits m) = k → k ≠ 0 → k ≠ 12 → c ≠ 110 → c ≠ 105 → c ≠ 45 → guessP (c :: Lib.decDigits m) = (k, (m : Int), (0 : Int)) ∧ scanP (c :: Lib.decDigits m) = (k, (m : Int), (0 : Int)) := by
          intro c k hk h0 h12 a b e
          have w0 : c :: Lib.decDigits m ≠ wordL 0 := by rw [show wordL 0 = [110, 97, 110] by decide]; simp [a]
          have w1 : c :: Lib.decDigits m ≠ wordL 1 := by rw [show wordL 1 = [105, 110, 102] by decide]; simp [b]
          have w2 : c :: Lib.decDigits m ≠ wordL 2 := by rw [show wordL 2 = [45, 105, 110, 102] by decide]; simp [e]
          have w3 : c :: Lib.decDigits m ≠ wordL 3 := by rw [show wordL 3 = [45, 48, 46, 48] by decide]; simp [e]
          unfold guessP scanP
          rw [if_neg w0, if_neg w1, if_neg w2, if_neg w3, hk, if_pos h0, if_neg w0, if_neg w1, if_neg w2, if_neg w3, if_pos h0]
          simp only [List.drop_succ_cons, List.drop_zero]
          rw [hdz, scan_int k 1 m (by omega) h12]
          simp
        rcases hK with rfl | rfl | rfl | rfl | rfl | rfl | rfl | rfl | rfl | rfl
        · exact key 88 1 (by simp [letK]) (by decide) (by decide) (by decide) (by decide) (by decide)
        · exact key 89 2 (by simp [letK]) (by decide) (by decide) (by decide) (by decide) (by decide)
        · exact key 77 3 (by simp [letK]) (by decide) (by decide) (by decide) (by decide) (by decide)
        · exact key 83 4 (by simp [letK]) (by decide) (by decide) (by decide) (by decide) (by decide)
        · exact key 69 5 (by simp [letK]) (by decide) (by decide) (by decide) (by decide) (by decide)
        · exact key 71 6 (by simp [letK]) (by decide) (by decide) (by decide) (by decide) (by decide)
        · exact key 84 7 (by simp [letK]) (by decide) (by decide) (by decide) (by decide) (by decide)
        · exact key 67 8 (by simp [letK]) (by decide) (by decide) (by decide) (by decide) (by decide)
        · exact key 68 9 (by simp [letK]) (by decide) (by decide) (by decide) (by decide) (by decide)
        · exact key 82 10 (by simp [letK]) (by decide) (by decide) (by decide) (by decide) (by decide)

/-- A text that one reader's operand writes is read so by both. -/
theorem read_same {l : List UInt8} {k n p : Int} (h : okB k n p = true) (e : textL k n p = l) : guessP l = (k, n, p) ∧ scanP l = (k, n, p) := by
  subst e; exact read_both h

end Go.Proofs.YtdhoimjkgicneaaGreatDoor

/- The words of the text of a memory, one by one: what stands ahead of the sign of equality and what behind it; and what a reader of one word makes of a memory. -/
namespace Go.Proofs.YtdhoimjkgicneaaGreatDoor
open Go

def timeL : List UInt8 := [116, 105, 109, 101]
def ranL : List UInt8 := [114, 97, 110]
def faultL : List UInt8 := [102, 97, 117, 108, 116]

theorem text_uniq {k n p k' n' p' : Int} (h : okB k n p = true) (h' : okB k' n' p' = true) (e : textL k n p = textL k' n' p') : k = k' ∧ n = n' ∧ p = p' := by
  have a := (read_same h rfl).2
  have b := (read_same h' e.symm).2
  rw [a] at b
  simpa using b

theorem ok_devN {k n : Nat} (hk : 1 ≤ k ∧ k ≤ 10) (hn : (n : Int) < sizeZ k) : okB k n 0 = true := by
  unfold okB
  rw [if_neg (by omega), if_neg (by omega), if_neg (by omega)]
  exact decide_eq_true ⟨by omega, hn, rfl⟩

theorem text_devN {k n : Nat} (hk : 1 ≤ k ∧ k ≤ 10) (h : okB k n 0 = true) : textL k n 0 = letterL k ++ Lib.decDigits n := by
  unfold textL
  rw [if_neg (by rw [h]; decide), if_neg (by omega), if_neg (by omega), if_neg (by omega), Lib.itoa_nonneg]

/-- The first letter of a device is a great one. -/
theorem letter_great {k : Nat} (hk : 1 ≤ k ∧ k ≤ 10) : ∃ c : UInt8, letterL k = [c] ∧ 65 ≤ c.toNat ∧ c.toNat ≤ 90 := by
  obtain ⟨h1, h2⟩ := hk
  have h : k = 1 ∨ k = 2 ∨ k = 3 ∨ k = 4 ∨ k = 5 ∨ k = 6 ∨ k = 7 ∨ k = 8 ∨ k = 9 ∨ k = 10 := by omega
  rcases h with rfl | rfl | rfl | rfl | rfl | rfl | rfl | rfl | rfl | rfl
  · exact ⟨88, by decide, by decide, by decide⟩
  · exact ⟨89, by decide, by decide, by decide⟩
  · exact ⟨77, by decide, by decide, by decide⟩
  · exact ⟨83, by decide, by decide, by decide⟩
  · exact ⟨69, by decide, by decide, by decide⟩
  · exact ⟨71, by decide, by decide, by decide⟩
  · exact ⟨84, by decide, by decide, by decide⟩
  · exact ⟨67, by decide, by decide, by decide⟩
  · exact ⟨68, by decide, by decide, by decide⟩
  · exact ⟨82, by decide, by decide, by decide⟩

theorem dev_name {k n : Nat} (hk : 1 ≤ k ∧ k ≤ 10) (h : okB k n 0 = true) : ∃ (c : UInt8) (r : List UInt8), textL k n 0 = c :: r ∧ 65 ≤ c.toNat ∧ c.toNat ≤ 90 ∧ (61 : UInt8) ∉ textL k n 0 := by
  obtain ⟨c, e, h1, h2⟩ := letter_great hk
  have ht := text_devN hk h
  rw [e] at ht
  refine ⟨c, Lib.decDigits n, by simpa using ht, h1, h2, ?_⟩
  rw [ht]
  intro hm
  rcases List.mem_append.1 hm with hm | hm
  · have : (61 : UInt8) = c := by simpa using hm
    subst this
    exact absurd h1 (by decide)
  · have := List.all_eq_true.1 (dd_all n) 61 hm
    exact absurd this (by decide)

/-- What stands ahead of the first sign of equality, and behind it. -/
def NV (l nm va : List UInt8) : Prop := ((61 : UInt8) ∉ l ∧ nm = l ∧ va = []) ∨ (l = nm ++ 61 :: va ∧ (61 : UInt8) ∉ nm)

theorem split_eq : ∀ {a b r r' : List UInt8}, (61 : UInt8) ∉ a → (61 : UInt8) ∉ b → a ++ 61 :: r = b ++ 61 :: r' → a = b ∧ r = r'
  | [], [], _, _, _, _, h => by simpa using h
  | [], c :: cs, _, _, _, hb, h => by
    have := (List.cons.inj h).1
    exact absurd (by simp [this]) hb
  | c :: cs, [], _, _, ha, _, h => by
    have := (List.cons.inj h).1
    exact absurd (by simp [this]) ha
  | c :: cs, d :: ds, r, r', ha, hb, h => by
    obtain ⟨h1, h2⟩ := List.cons.inj h
    obtain ⟨e1, e2⟩ := split_eq (fun g => ha (by simp [g])) (fun g => hb (by simp [g])) h2
    exact ⟨by rw [h1, e1], e2⟩

theorem nv_one {l nm va : List UInt8} (h : NV l nm va) (h0 : (61 : UInt8) ∉ l) : nm = l ∧ va = [] := by
  rcases h with ⟨-, h1, h2⟩ | ⟨h1, -⟩
  · exact ⟨h1, h2⟩
  · exact absurd (by rw [h1]; simp) h0
theorem nv_two {l nm va a r : List UInt8} (h : NV l nm va) (e : l = a ++ 61 :: r) (h0 : (61 : UInt8) ∉ a) : nm = a ∧ va = r := by
  rcases h with ⟨h1, -, -⟩ | ⟨h1, h2⟩
  · exact absurd (by rw [e]; simp) h1
  · exact split_eq h2 h0 (h1.symm.trans e)

theorem scans_of {m m' : MemV} {l nm va : List UInt8} (ok : m'.Ok) (hnv : NV l nm va) (h0 : l = [] → m' = m)
    (ht : nm = timeL → ∀ c, c < 4294967296 → va = Lib.decDigits c → m' = { m with time := c }) (hr : l = ranL → m' = { m with ran := true }) (hf : l = faultL → m' = { m with fault := true })
    (hb : ∀ k n : Nat, 1 ≤ k → k ≤ 5 → n < szN k → okB k n 0 = true → textL k n 0 = nm → l = nm → m' = orV m k n)
    (h7 : ∀ (n c : Nat) (d : Bool), n < 16 → c < 65536 → okB 7 n 0 = true → textL 7 n 0 = nm → va = countL c d false → m' = timV m n c d)
    (h8 : ∀ (n c : Nat) (d e : Bool), n < 16 → c < 65536 → okB 8 n 0 = true → textL 8 n 0 = nm → va = countL c d e → m' = cntV m n c d e)
    (h9 : ∀ (n : Nat) (z : Int), n < 32 → -32768 ≤ z → z ≤ 32767 → okB 9 n 0 = true → textL 9 n 0 = nm → va = Lib.itoa z → m' = intV m n z)
    (h10 : ∀ (n x : Nat), n < 16 → Txt x va → okB 10 n 0 = true → textL 10 n 0 = nm → ∃ y, Txt y va ∧ m' = reaV m n y) : Scans m l m' := by
  refine ⟨ok, h0, ?_⟩
  intro v tx w hv hx hw e
  have dev : ∀ (k : Nat) (r : List UInt8), w.k = k → k = 7 ∨ k = 8 ∨ k = 9 ∨ k = 10 → w.n < 16 ∨ (k = 9 ∧ w.n < 32) → w.tail = 61 :: r → okB k w.n 0 = true ∧ textL k w.n 0 = nm ∧ va = r := by
    intro k r hk hs hn htl
    have hok : okB k w.n 0 = true := ok_devN ⟨by omega, by omega⟩ (by
      rcases hs with rfl | rfl | rfl | rfl
      all_goals (simp [sizeZ]; omega))
    obtain ⟨c, q, -, -, -, hne⟩ := dev_name ⟨by omega, by omega⟩ hok
    have e2 : l = textL k w.n 0 ++ 61 :: r := by
      rw [← e, text_devN ⟨by omega, by omega⟩ hok]
      unfold Wd.text
      rw [hk, if_neg (by omega), if_neg (by omega), if_neg (by omega), htl]
      simp
    obtain ⟨h1, h2⟩ := nv_two hnv e2 hne
    exact ⟨hok, h1.symm, h2⟩
  have bit : 1 ≤ w.k → w.k ≤ 5 → Step m w m' := by
    intro h1 h5
    obtain ⟨hn, -⟩ := hw.bit h5
    have hz : (szN w.k : Int) = sizeZ w.k := by
      have hs : w.k = 1 ∨ w.k = 2 ∨ w.k = 3 ∨ w.k = 4 ∨ w.k = 5 := by omega
      rcases hs with h | h | h | h | h <;> rw [h] <;> decide
    have hok : okB w.k w.n 0 = true := ok_devN ⟨by omega, by omega⟩ (by omega)
    obtain ⟨c, q, -, -, -, hne⟩ := dev_name ⟨by omega, by omega⟩ hok
    have e2 : l = textL w.k w.n 0 := by
      rw [← e, text_devN ⟨by omega, by omega⟩ hok]
      unfold Wd.text Wd.tail
      rw [if_neg (by omega), if_neg (by omega), if_neg (by omega), if_pos h5]
      simp
    obtain ⟨g1, -⟩ := nv_one hnv (e2 ▸ hne)
    unfold Step
    rw [if_pos h5]
    exact hb w.k w.n h1 h5 hn hok (e2.symm.trans g1.symm) g1.symm
  rcases hw.kind with h | h | h | h | h | h | h | h | h | h | h | h
  · exact bit (by omega) (by omega)
  · exact bit (by omega) (by omega)
  · exact bit (by omega) (by omega)
  · exact bit (by omega) (by omega)
  · exact bit (by omega) (by omega)
  · obtain ⟨hn, hc, hd, hl, -⟩ := hw.timer h
    obtain ⟨a, b, c⟩ := dev 7 (countL w.c w.d w.l) h (by omega) (by omega) (by simp [Wd.tail, h])
    unfold Step
    rw [if_neg (by omega), if_pos h]
    exact h7 w.n w.c w.d hn (by rw [hc]; exact hv.tC _) a b (by rw [c, hl])
  · obtain ⟨hn, hc, -⟩ := hw.counter h
    obtain ⟨a, b, c⟩ := dev 8 (countL w.c w.d w.l) h (by omega) (by omega) (by simp [Wd.tail, h])
    unfold Step
    rw [if_neg (by omega), if_neg (by omega), if_pos h]
    exact h8 w.n w.c w.d w.l hn (by rw [hc]; exact hv.cC _) a b c
  · obtain ⟨hn, hz, -⟩ := hw.int h
    obtain ⟨a, b, c⟩ := dev 9 (Lib.itoa w.z) h (by omega) (by omega) (by simp [Wd.tail, h])
    unfold Step
    rw [if_neg (by omega), if_neg (by omega), if_neg (by omega), if_pos h]
    exact h9 w.n w.z hn (by rw [hz]; exact hv.d1 _) (by rw [hz]; exact hv.d2 _) a b c
  · obtain ⟨hn, ht', -⟩ := hw.real h
    obtain ⟨a, b, c⟩ := dev 10 w.t h (by omega) (by omega) (by simp [Wd.tail, h])
    unfold Step
    rw [if_neg (by omega), if_neg (by omega), if_neg (by omega), if_neg (by omega), if_pos h]
    obtain ⟨y, y1, y2⟩ := h10 w.n (v.r w.n) hn (by rw [c, ht']; exact hx _ hn) a b
    exact ⟨y, c ▸ y1, y2⟩
  · obtain ⟨hc, -⟩ := hw.time h
    have e2 : l = timeL ++ 61 :: Lib.decDigits w.c := by
      rw [← e]
      unfold Wd.text
      rw [if_pos h]
      rfl
    obtain ⟨a, b⟩ := nv_two hnv e2 (by decide)
    unfold Step
    rw [if_neg (by omega), if_neg (by omega), if_neg (by omega), if_neg (by omega), if_neg (by omega), if_pos h]
    exact ht a w.c (by rw [hc]; exact hv.time) b
  · have e2 : l = ranL := by
      rw [← e]
      unfold Wd.text
      rw [if_neg (by omega), if_pos h]
      rfl
    unfold Step
    rw [if_neg (by omega), if_neg (by omega), if_neg (by omega), if_neg (by omega), if_neg (by omega), if_neg (by omega), if_pos h]
    exact hr e2
  · have e2 : l = faultL := by
      rw [← e]
      unfold Wd.text
      rw [if_neg (by omega), if_neg (by omega), if_pos h]
      rfl
    unfold Step
    rw [if_neg (by omega), if_neg (by omega), if_neg (by omega), if_neg (by omega), if_neg (by omega), if_neg (by omega), if_neg (by omega)]
    exact hf e2

/-- A name that begins with a small letter is no device's. -/
theorem small_name {k n : Nat} {l : List UInt8} (hk : 1 ≤ k ∧ k ≤ 10) (h : okB k n 0 = true) (hl : ∀ c r, l = c :: r → ¬ (65 ≤ c.toNat ∧ c.toNat ≤ 90)) : textL k n 0 ≠ l := by
  obtain ⟨c, r, e, h1, h2, -⟩ := dev_name hk h
  intro e2
  exact hl c r (e2.symm.trans e) ⟨h1, h2⟩

theorem small_time : ∀ c r, timeL = c :: r → ¬ (65 ≤ c.toNat ∧ c.toNat ≤ 90) := by
  intro c r h
  obtain ⟨rfl, -⟩ := List.cons.inj h
  decide
theorem small_ran : ∀ c r, ranL = c :: r → ¬ (65 ≤ c.toNat ∧ c.toNat ≤ 90) := by
  intro c r h
  obtain ⟨rfl, -⟩ := List.cons.inj h
  decide
theorem small_fault : ∀ c r, faultL = c :: r → ¬ (65 ≤ c.toNat ∧ c.toNat ≤ 90) := by
  intro c r h
  obtain ⟨rfl, -⟩ := List.cons.inj h
  decide

theorem nv_nm {l nm va a : List UInt8} (h : NV l nm va) (e : l = a) (h0 : (61 : UInt8) ∉ a) : nm = a := by
  subst e
  exact (nv_one h h0).1

theorem scans_time {m m' : MemV} {l nm va : List UInt8} (hnv : NV l nm va) (e : nm = timeL) (ok : m'.Ok) (h : ∀ c, c < 4294967296 → va = Lib.decDigits c → m' = { m with time := c }) : Scans m l m' := by
  subst e
  refine scans_of ok hnv (fun g => ?_) (fun _ => h) (fun g => ?_) (fun g => ?_) (fun k n h1 h2 _ h3 h4 _ => ?_) (fun n c d _ _ h3 h4 _ => ?_) (fun n c d e _ _ h3 h4 _ => ?_) (fun n z _ _ _ h3 h4 _ => ?_) (fun n x _ _ h3 h4 => ?_)
  · exact absurd (nv_nm hnv g (by decide)) (by decide)
  · exact absurd (nv_nm hnv g (by decide)) (by decide)
  · exact absurd (nv_nm hnv g (by decide)) (by decide)
  · exact absurd h4 (small_name ⟨h1, by omega⟩ h3 small_time)
  · exact absurd h4 (small_name (k := 7) (by omega) h3 small_time)
  · exact absurd h4 (small_name (k := 8) (by omega) h3 small_time)
  · exact absurd h4 (small_name (k := 9) (by omega) h3 small_time)
  · exact absurd h4 (small_name (k := 10) (by omega) h3 small_time)

theorem scans_ran {m m' : MemV} {l nm va : List UInt8} (hnv : NV l nm va) (e : nm = ranL) (ok : m'.Ok) (h : l = ranL → m' = { m with ran := true }) : Scans m l m' := by
  subst e
  refine scans_of ok hnv (fun g => ?_) (fun g => absurd g (by decide)) h (fun g => ?_) (fun k n h1 h2 _ h3 h4 _ => ?_) (fun n c d _ _ h3 h4 _ => ?_) (fun n c d e _ _ h3 h4 _ => ?_) (fun n z _ _ _ h3 h4 _ => ?_) (fun n x _ _ h3 h4 => ?_)
  · exact absurd (nv_nm hnv g (by decide)) (by decide)
  · exact absurd (nv_nm hnv g (by decide)) (by decide)
  · exact absurd h4 (small_name ⟨h1, by omega⟩ h3 small_ran)
  · exact absurd h4 (small_name (k := 7) (by omega) h3 small_ran)
  · exact absurd h4 (small_name (k := 8) (by omega) h3 small_ran)
  · exact absurd h4 (small_name (k := 9) (by omega) h3 small_ran)
  · exact absurd h4 (small_name (k := 10) (by omega) h3 small_ran)

theorem scans_fault {m m' : MemV} {l nm va : List UInt8} (hnv : NV l nm va) (e : nm = faultL) (ok : m'.Ok) (h : l = faultL → m' = { m with fault := true }) : Scans m l m' := by
  subst e
  refine scans_of ok hnv (fun g => ?_) (fun g => absurd g (by decide)) (fun g => ?_) h (fun k n h1 h2 _ h3 h4 _ => ?_) (fun n c d _ _ h3 h4 _ => ?_) (fun n c d e _ _ h3 h4 _ => ?_) (fun n z _ _ _ h3 h4 _ => ?_) (fun n x _ _ h3 h4 => ?_)
  · exact absurd (nv_nm hnv g (by decide)) (by decide)
  · exact absurd (nv_nm hnv g (by decide)) (by decide)
  · exact absurd h4 (small_name ⟨h1, by omega⟩ h3 small_fault)
  · exact absurd h4 (small_name (k := 7) (by omega) h3 small_fault)
  · exact absurd h4 (small_name (k := 8) (by omega) h3 small_fault)
  · exact absurd h4 (small_name (k := 9) (by omega) h3 small_fault)
  · exact absurd h4 (small_name (k := 10) (by omega) h3 small_fault)

theorem scans_none {m m' : MemV} {l nm va : List UInt8} (hnv : NV l nm va) (e1 : nm ≠ timeL) (e2 : nm ≠ ranL) (e3 : nm ≠ faultL) (hn : ∀ k n p : Int, okB k n p = true → textL k n p ≠ nm) (ok : m'.Ok) (h : l = [] → m' = m) : Scans m l m' := by
  refine scans_of ok hnv h (fun g => absurd g e1) (fun g => ?_) (fun g => ?_) (fun k n _ _ _ h3 h4 _ => ?_) (fun n c d _ _ h3 h4 _ => ?_) (fun n c d e _ _ h3 h4 _ => ?_) (fun n z _ _ _ h3 h4 _ => ?_) (fun n x _ _ h3 h4 => ?_)
  · exact absurd (nv_nm hnv g (by decide)) e2
  · exact absurd (nv_nm hnv g (by decide)) e3
  all_goals exact absurd h4 (hn _ _ _ h3)

theorem scans_dev {m m' : MemV} {l nm va : List UInt8} {k n p : Int} (hnv : NV l nm va) (e1 : nm ≠ timeL) (e2 : nm ≠ ranL) (e3 : nm ≠ faultL) (ho : okB k n p = true) (hn : textL k n p = nm) (ok : m'.Ok)
    (hb : 1 ≤ k → k ≤ 5 → l = nm → m' = orV m k.toNat n.toNat)
    (h7 : k = 7 → ∀ (c : Nat) (d : Bool), c < 65536 → va = countL c d false → m' = timV m n.toNat c d)
    (h8 : k = 8 → ∀ (c : Nat) (d e : Bool), c < 65536 → va = countL c d e → m' = cntV m n.toNat c d e)
    (h9 : k = 9 → ∀ (z : Int), -32768 ≤ z → z ≤ 32767 → va = Lib.itoa z → m' = intV m n.toNat z)
    (h10 : k = 10 → ∀ x, Txt x va → ∃ y, Txt y va ∧ m' = reaV m n.toNat y) : Scans m l m' := by
  have un : ∀ {j i : Nat}, okB j i 0 = true → textL j i 0 = nm → k = j ∧ n = i ∧ p = 0 := fun h3 h4 => text_uniq ho h3 (hn.trans h4.symm)
  refine scans_of ok hnv (fun g => ?_) (fun g => absurd g e1) (fun g => absurd (nv_nm hnv g (by decide)) e2) (fun g => absurd (nv_nm hnv g (by decide)) e3) (fun j i h1 h2 _ h3 h4 h5 => ?_) (fun i c d _ hc h3 h4 h5 => ?_) (fun i c d e _ hc h3 h4 h5 => ?_) (fun i z _ z1 z2 h3 h4 h5 => ?_) (fun i x _ hx h3 h4 => ?_)
  · exfalso
    have g2 := nv_nm hnv g (by decide)
    exact textL_ne ho (hn.trans g2)
  · obtain ⟨rfl, rfl, -⟩ := un h3 h4
    simpa using hb (by omega) (by omega) h5
  · obtain ⟨rfl, rfl, -⟩ := un (j := 7) h3 h4
    simpa using h7 rfl c d hc h5
  · obtain ⟨rfl, rfl, -⟩ := un (j := 8) h3 h4
    simpa using h8 rfl c d e hc h5
  · obtain ⟨rfl, rfl, -⟩ := un (j := 9) h3 h4
    simpa using h9 rfl z z1 z2 h5
  · obtain ⟨rfl, rfl, -⟩ := un (j := 10) h3 h4
    simpa using h10 rfl x hx

end Go.Proofs.YtdhoimjkgicneaaGreatDoor
