/- Texts of this proof laid together: MemJ0, MemJ, MsA0. -/
import Derived.Test.YtdhoimjkgicneaaDoorLot26
import Derived.Test.YtdhoimjkgicneaaDoorLot12
import Derived.Test.YtdhoimjkgicneaaDoorLot1
import Derived.ChangeKeysEq
import Derived.Laws.StructEq
/- The program's memPutBit. -/
namespace Go.Proofs.YtdhoimjkgicneaaDoor
open Go Go.RowKit

/-- A memory in which a bit is put, an input too. -/
def pbV (v : MemV) (k n : Int) (b : Bool) : MemV := if k = 1 then { v with x := turnN v.x (atZ k n).toNat b } else putV v k n b

set_option maxRecDepth 100000 in
set_option maxHeartbeats 4000000 in
theorem impl_putbit1 (v : MemV) (n p : Int) (b : Bool) (w : World) (hv : v.Ok) (T : KTab w) :
    Calls Tryd.prog 94 #[.agg v.row, .agg #[.int .i64 1, .int .i64 n, .int .i64 p], .bool b] w fun e w' => e = .returned (.agg (pbV v 1 n b).row) ∧ Below w.heap.size w w' := by
  obtain ⟨j, hj, hz, hc⟩ := place_nat 1 n p
  have e : pbV v 1 n b = { v with x := turnN v.x j b } := by unfold pbV; rw [hj]; rfl
  have h16 := atZ_lt (k := 1) (n := n) (s := 32) rfl (by omega)
  rw [hj] at h16
  rw [e]
  clear e hj
  have hx := hv.x
  have ht : turnN v.x j b < 4294967296 := turn_small (s := 32) hx (by omega) b
  obtain ⟨t, et⟩ : ∃ t, t = turnN v.x j b := ⟨_, rfl⟩
  rw [← et] at ht ⊢
  have hT : ∀ w, Calls Tryd.prog 132 #[.agg #[.int .i64 j, .bool b], .int .u64 v.x] w fun e w' => e = .returned (.int .u64 t) ∧ Below w.heap.size w w' := fun w => et ▸ impl_put v.x j b w (by omega) hz
  have hW : ∀ w, Calls Tryd.prog 93 #[.agg v.row, .int .i64 1] w fun e w' => e = .returned (.int .u64 v.x) ∧ Below w.heap.size w w' := fun w => impl_word v 1 w hv
  clear et
  obtain ⟨v', ev⟩ : ∃ v' : MemV, v' = { v with x := t } := ⟨_, rfl⟩
  have hu : v'.cell 0 = .int .u32 t := by rw [ev]; rfl
  have ho : ∀ i, i < 136 → i ≠ 0 → v'.cell i = v.cell i := by
    intro i _ hi
    rw [ev]
    unfold MemV.cell
    simp only [if_neg hi]
  rw [← ev]
  clear ev
  go_enter Tryd.func94, Tryd.ntmps94
  go_wp2_with fail
  refine (hc _ (((T.alloc _).alloc _).alloc _)).mono ?_
  rintro e w1 ⟨rfl, hB⟩
  obtain ⟨hA, hR, hC, hB⟩ := three_boxes v w w1 _ _ _ _ hB
  have c0 := hA.c 0 (by omega)
  rw [MemV.cell_x] at c0
  have d0 := hC 0 _ rfl
  go_wp2_with (refine list_load (t := 61) rfl rfl rfl (load_mem hA) ?_)
  refine (hW _).mono ?_
  rintro e w2 ⟨rfl, hB2⟩
  go_wp2_with fail
  refine (hT _).mono ?_
  rintro e w3 ⟨rfl, hB3⟩
  have hz1 := hR.z
  have hs2 := hB2.size
  have HB3 : Below w1.heap.size w1 w3 := hB2.trans (hB3.mono hs2)
  clear hB2 hB3 hs2 c0 d0
  have hA := hA.below HB3 hA.z
  have hR := hR.below HB3 hR.z
  have d0 := (HB3.cell (p := ⟨w.heap.size + 1, 0, none⟩) (by show w.heap.size + 1 < w1.heap.size; omega)).trans (hC 0 _ rfl)
  have hB := hB.trans (HB3.mono hB.size)
  clear HB3 hC
  have c0 := hA.c 0 (by omega)
  rw [MemV.cell_x] at c0
  have f0 := hA.f 0 (by omega)
  have hA2 := hA.put (by omega) hu ho
  have hB2 := hB.setCell (p := ⟨w.heap.size, 0, none⟩) (Nat.le_refl _) (.int .u32 t)
  have hR2 : MemAt (w.heap.size + 1 + 1) mem0 (w3.setCell ⟨w.heap.size, 0, none⟩ (.int .u32 t)) := hR.of_block (Below.heap_setCell _ _ _ _ (by simp; omega)) (by simpa [World.setCell] using hR.z)
  have hR3 := hR2.stored v'
  have hB3 := setCells_below v'.row.toList (w.heap.size + 1 + 1) 0 hB2 (by omega)
  go_wp2_with (first | refine list_load (t := 61) rfl rfl rfl (load_mem hA2) ?_ | refine list_store (t := 61) rfl rfl rfl rfl (store_mem v' hR2) ?_)
  exact ret_mem (c := 6) rfl rfl rfl hR3 ⟨rfl, hB3⟩

set_option maxRecDepth 100000 in
set_option maxHeartbeats 4000000 in
theorem impl_putbit2 (v : MemV) (n p : Int) (b : Bool) (w : World) (hv : v.Ok) (T : KTab w) :
    Calls Tryd.prog 94 #[.agg v.row, .agg #[.int .i64 2, .int .i64 n, .int .i64 p], .bool b] w fun e w' => e = .returned (.agg (pbV v 2 n b).row) ∧ Below w.heap.size w w' := by
  obtain ⟨j, hj, hz, hc⟩ := place_nat 2 n p
  have e : pbV v 2 n b = { v with y := turnN v.y j b } := by unfold pbV putV; rw [hj]; rfl
  have h16 := atZ_lt (k := 2) (n := n) (s := 32) rfl (by omega)
  rw [hj] at h16
  rw [e]
  clear e hj
  have hx := hv.y
  have ht : turnN v.y j b < 4294967296 := turn_small (s := 32) hx (by omega) b
  obtain ⟨t, et⟩ : ∃ t, t = turnN v.y j b := ⟨_, rfl⟩
  rw [← et] at ht ⊢
  have hT : ∀ w, Calls Tryd.prog 132 #[.agg #[.int .i64 j, .bool b], .int .u64 v.y] w fun e w' => e = .returned (.int .u64 t) ∧ Below w.heap.size w w' := fun w => et ▸ impl_put v.y j b w (by omega) hz
  have hW : ∀ w, Calls Tryd.prog 93 #[.agg v.row, .int .i64 2] w fun e w' => e = .returned (.int .u64 v.y) ∧ Below w.heap.size w w' := fun w => impl_word v 2 w hv
  clear et
  obtain ⟨v', ev⟩ : ∃ v' : MemV, v' = { v with y := t } := ⟨_, rfl⟩
  have hu : v'.cell 1 = .int .u32 t := by rw [ev]; rfl
  have ho : ∀ i, i < 136 → i ≠ 1 → v'.cell i = v.cell i := by
    intro i _ hi
    rw [ev]
    unfold MemV.cell
    simp only [if_neg hi]
  rw [← ev]
  clear ev
  go_enter Tryd.func94, Tryd.ntmps94
  go_wp2_with fail
  refine (hc _ (((T.alloc _).alloc _).alloc _)).mono ?_
  rintro e w1 ⟨rfl, hB⟩
  obtain ⟨hA, hR, hC, hB⟩ := three_boxes v w w1 _ _ _ _ hB
  have c0 := hA.c 1 (by omega)
  rw [MemV.cell_y] at c0
  have d0 := hC 0 _ rfl
  go_wp2_with (refine list_load (t := 61) rfl rfl rfl (load_mem hA) ?_)
  refine (hW _).mono ?_
  rintro e w2 ⟨rfl, hB2⟩
  go_wp2_with fail
  refine (hT _).mono ?_
  rintro e w3 ⟨rfl, hB3⟩
  have hz1 := hR.z
  have hs2 := hB2.size
  have HB3 : Below w1.heap.size w1 w3 := hB2.trans (hB3.mono hs2)
  clear hB2 hB3 hs2 c0 d0
  have hA := hA.below HB3 hA.z
  have hR := hR.below HB3 hR.z
  have d0 := (HB3.cell (p := ⟨w.heap.size + 1, 0, none⟩) (by show w.heap.size + 1 < w1.heap.size; omega)).trans (hC 0 _ rfl)
  have hB := hB.trans (HB3.mono hB.size)
  clear HB3 hC
  have c0 := hA.c 1 (by omega)
  rw [MemV.cell_y] at c0
  have f0 := hA.f 1 (by omega)
  have hA2 := hA.put (by omega) hu ho
  have hB2 := hB.setCell (p := ⟨w.heap.size, 1, none⟩) (Nat.le_refl _) (.int .u32 t)
  have hR2 : MemAt (w.heap.size + 1 + 1) mem0 (w3.setCell ⟨w.heap.size, 1, none⟩ (.int .u32 t)) := hR.of_block (Below.heap_setCell _ _ _ _ (by simp; omega)) (by simpa [World.setCell] using hR.z)
  have hR3 := hR2.stored v'
  have hB3 := setCells_below v'.row.toList (w.heap.size + 1 + 1) 0 hB2 (by omega)
  go_wp2_with (first | refine list_load (t := 61) rfl rfl rfl (load_mem hA2) ?_ | refine list_store (t := 61) rfl rfl rfl rfl (store_mem v' hR2) ?_)
  exact ret_mem (c := 6) rfl rfl rfl hR3 ⟨rfl, hB3⟩

set_option maxRecDepth 100000 in
set_option maxHeartbeats 4000000 in
theorem impl_putbit3 (v : MemV) (n p : Int) (b : Bool) (w : World) (hv : v.Ok) (T : KTab w) :
    Calls Tryd.prog 94 #[.agg v.row, .agg #[.int .i64 3, .int .i64 n, .int .i64 p], .bool b] w fun e w' => e = .returned (.agg (pbV v 3 n b).row) ∧ Below w.heap.size w w' := by
  obtain ⟨j, hj, hz, hc⟩ := place_nat 3 n p
  have e : pbV v 3 n b = { v with m := turnN v.m j b } := by unfold pbV putV; rw [hj]; rfl
  have h16 := atZ_lt (k := 3) (n := n) (s := 64) rfl (by omega)
  rw [hj] at h16
  rw [e]
  clear e hj
  have hx := hv.m
  have ht : turnN v.m j b < 18446744073709551616 := turn_small (s := 64) hx (by omega) b
  obtain ⟨t, et⟩ : ∃ t, t = turnN v.m j b := ⟨_, rfl⟩
  rw [← et] at ht ⊢
  have hT : ∀ w, Calls Tryd.prog 132 #[.agg #[.int .i64 j, .bool b], .int .u64 v.m] w fun e w' => e = .returned (.int .u64 t) ∧ Below w.heap.size w w' := fun w => et ▸ impl_put v.m j b w (by omega) hz
  have hW : ∀ w, Calls Tryd.prog 93 #[.agg v.row, .int .i64 3] w fun e w' => e = .returned (.int .u64 v.m) ∧ Below w.heap.size w w' := fun w => impl_word v 3 w hv
  clear et
  obtain ⟨v', ev⟩ : ∃ v' : MemV, v' = { v with m := t } := ⟨_, rfl⟩
  have hu : v'.cell 2 = .int .u64 t := by rw [ev]; rfl
  have ho : ∀ i, i < 136 → i ≠ 2 → v'.cell i = v.cell i := by
    intro i _ hi
    rw [ev]
    unfold MemV.cell
    simp only [if_neg hi]
  rw [← ev]
  clear ev
  go_enter Tryd.func94, Tryd.ntmps94
  go_wp2_with fail
  refine (hc _ (((T.alloc _).alloc _).alloc _)).mono ?_
  rintro e w1 ⟨rfl, hB⟩
  obtain ⟨hA, hR, hC, hB⟩ := three_boxes v w w1 _ _ _ _ hB
  have c0 := hA.c 2 (by omega)
  rw [MemV.cell_m] at c0
  have d0 := hC 0 _ rfl
  go_wp2_with (refine list_load (t := 61) rfl rfl rfl (load_mem hA) ?_)
  refine (hW _).mono ?_
  rintro e w2 ⟨rfl, hB2⟩
  go_wp2_with fail
  refine (hT _).mono ?_
  rintro e w3 ⟨rfl, hB3⟩
  have hz1 := hR.z
  have hs2 := hB2.size
  have HB3 : Below w1.heap.size w1 w3 := hB2.trans (hB3.mono hs2)
  clear hB2 hB3 hs2 c0 d0
  have hA := hA.below HB3 hA.z
  have hR := hR.below HB3 hR.z
  have d0 := (HB3.cell (p := ⟨w.heap.size + 1, 0, none⟩) (by show w.heap.size + 1 < w1.heap.size; omega)).trans (hC 0 _ rfl)
  have hB := hB.trans (HB3.mono hB.size)
  clear HB3 hC
  have c0 := hA.c 2 (by omega)
  rw [MemV.cell_m] at c0
  have f0 := hA.f 2 (by omega)
  have hA2 := hA.put (by omega) hu ho
  have hB2 := hB.setCell (p := ⟨w.heap.size, 2, none⟩) (Nat.le_refl _) (.int .u64 t)
  have hR2 : MemAt (w.heap.size + 1 + 1) mem0 (w3.setCell ⟨w.heap.size, 2, none⟩ (.int .u64 t)) := hR.of_block (Below.heap_setCell _ _ _ _ (by simp; omega)) (by simpa [World.setCell] using hR.z)
  have hR3 := hR2.stored v'
  have hB3 := setCells_below v'.row.toList (w.heap.size + 1 + 1) 0 hB2 (by omega)
  go_wp2_with (first | refine list_load (t := 61) rfl rfl rfl (load_mem hA2) ?_ | refine list_store (t := 61) rfl rfl rfl rfl (store_mem v' hR2) ?_)
  exact ret_mem (c := 6) rfl rfl rfl hR3 ⟨rfl, hB3⟩

set_option maxRecDepth 100000 in
set_option maxHeartbeats 4000000 in
theorem impl_putbit4 (v : MemV) (n p : Int) (b : Bool) (w : World) (hv : v.Ok) (T : KTab w) :
    Calls Tryd.prog 94 #[.agg v.row, .agg #[.int .i64 4, .int .i64 n, .int .i64 p], .bool b] w fun e w' => e = .returned (.agg (pbV v 4 n b).row) ∧ Below w.heap.size w w' := by
  obtain ⟨j, hj, hz, hc⟩ := place_nat 4 n p
  have e : pbV v 4 n b = { v with s := turnN v.s j b } := by unfold pbV putV; rw [hj]; rfl
  have h16 := atZ_lt (k := 4) (n := n) (s := 16) rfl (by omega)
  rw [hj] at h16
  rw [e]
  clear e hj
  have hx := hv.s
  have ht : turnN v.s j b < 65536 := turn_small (s := 16) hx (by omega) b
  obtain ⟨t, et⟩ : ∃ t, t = turnN v.s j b := ⟨_, rfl⟩
  rw [← et] at ht ⊢
  have hT : ∀ w, Calls Tryd.prog 132 #[.agg #[.int .i64 j, .bool b], .int .u64 v.s] w fun e w' => e = .returned (.int .u64 t) ∧ Below w.heap.size w w' := fun w => et ▸ impl_put v.s j b w (by omega) hz
  have hW : ∀ w, Calls Tryd.prog 93 #[.agg v.row, .int .i64 4] w fun e w' => e = .returned (.int .u64 v.s) ∧ Below w.heap.size w w' := fun w => impl_word v 4 w hv
  clear et
  obtain ⟨v', ev⟩ : ∃ v' : MemV, v' = { v with s := t } := ⟨_, rfl⟩
  have hu : v'.cell 3 = .int .u16 t := by rw [ev]; rfl
  have ho : ∀ i, i < 136 → i ≠ 3 → v'.cell i = v.cell i := by
    intro i _ hi
    rw [ev]
    unfold MemV.cell
    simp only [if_neg hi]
  rw [← ev]
  clear ev
  go_enter Tryd.func94, Tryd.ntmps94
  go_wp2_with fail
  refine (hc _ (((T.alloc _).alloc _).alloc _)).mono ?_
  rintro e w1 ⟨rfl, hB⟩
  obtain ⟨hA, hR, hC, hB⟩ := three_boxes v w w1 _ _ _ _ hB
  have c0 := hA.c 3 (by omega)
  rw [MemV.cell_s] at c0
  have d0 := hC 0 _ rfl
  go_wp2_with (refine list_load (t := 61) rfl rfl rfl (load_mem hA) ?_)
  refine (hW _).mono ?_
  rintro e w2 ⟨rfl, hB2⟩
  go_wp2_with fail
  refine (hT _).mono ?_
  rintro e w3 ⟨rfl, hB3⟩
  have hz1 := hR.z
  have hs2 := hB2.size
  have HB3 : Below w1.heap.size w1 w3 := hB2.trans (hB3.mono hs2)
  clear hB2 hB3 hs2 c0 d0
  have hA := hA.below HB3 hA.z
  have hR := hR.below HB3 hR.z
  have d0 := (HB3.cell (p := ⟨w.heap.size + 1, 0, none⟩) (by show w.heap.size + 1 < w1.heap.size; omega)).trans (hC 0 _ rfl)
  have hB := hB.trans (HB3.mono hB.size)
  clear HB3 hC
  have c0 := hA.c 3 (by omega)
  rw [MemV.cell_s] at c0
  have f0 := hA.f 3 (by omega)
  have hA2 := hA.put (by omega) hu ho
  have hB2 := hB.setCell (p := ⟨w.heap.size, 3, none⟩) (Nat.le_refl _) (.int .u16 t)
  have hR2 : MemAt (w.heap.size + 1 + 1) mem0 (w3.setCell ⟨w.heap.size, 3, none⟩ (.int .u16 t)) := hR.of_block (Below.heap_setCell _ _ _ _ (by simp; omega)) (by simpa [World.setCell] using hR.z)
  have hR3 := hR2.stored v'
  have hB3 := setCells_below v'.row.toList (w.heap.size + 1 + 1) 0 hB2 (by omega)
  go_wp2_with (first | refine list_load (t := 61) rfl rfl rfl (load_mem hA2) ?_ | refine list_store (t := 61) rfl rfl rfl rfl (store_mem v' hR2) ?_)
  exact ret_mem (c := 6) rfl rfl rfl hR3 ⟨rfl, hB3⟩

set_option maxRecDepth 100000 in
set_option maxHeartbeats 4000000 in
theorem impl_putbit5 (v : MemV) (n p : Int) (b : Bool) (w : World) (hv : v.Ok) (T : KTab w) :
    Calls Tryd.prog 94 #[.agg v.row, .agg #[.int .i64 5, .int .i64 n, .int .i64 p], .bool b] w fun e w' => e = .returned (.agg (pbV v 5 n b).row) ∧ Below w.heap.size w w' := by
  obtain ⟨j, hj, hz, hc⟩ := place_nat 5 n p
  have e : pbV v 5 n b = { v with e := turnN v.e j b } := by unfold pbV putV; rw [hj]; rfl
  have h16 := atZ_lt (k := 5) (n := n) (s := 32) rfl (by omega)
  rw [hj] at h16
  rw [e]
  clear e hj
  have hx := hv.e
  have ht : turnN v.e j b < 4294967296 := turn_small (s := 32) hx (by omega) b
  obtain ⟨t, et⟩ : ∃ t, t = turnN v.e j b := ⟨_, rfl⟩
  rw [← et] at ht ⊢
  have hT : ∀ w, Calls Tryd.prog 132 #[.agg #[.int .i64 j, .bool b], .int .u64 v.e] w fun e w' => e = .returned (.int .u64 t) ∧ Below w.heap.size w w' := fun w => et ▸ impl_put v.e j b w (by omega) hz
  have hW : ∀ w, Calls Tryd.prog 93 #[.agg v.row, .int .i64 5] w fun e w' => e = .returned (.int .u64 v.e) ∧ Below w.heap.size w w' := fun w => impl_word v 5 w hv
  clear et
  obtain ⟨v', ev⟩ : ∃ v' : MemV, v' = { v with e := t } := ⟨_, rfl⟩
  have hu : v'.cell 4 = .int .u32 t := by rw [ev]; rfl
  have ho : ∀ i, i < 136 → i ≠ 4 → v'.cell i = v.cell i := by
    intro i _ hi
    rw [ev]
    unfold MemV.cell
    simp only [if_neg hi]
  rw [← ev]
  clear ev
  go_enter Tryd.func94, Tryd.ntmps94
  go_wp2_with fail
  refine (hc _ (((T.alloc _).alloc _).alloc _)).mono ?_
  rintro e w1 ⟨rfl, hB⟩
  obtain ⟨hA, hR, hC, hB⟩ := three_boxes v w w1 _ _ _ _ hB
  have c0 := hA.c 4 (by omega)
  rw [MemV.cell_e] at c0
  have d0 := hC 0 _ rfl
  go_wp2_with (refine list_load (t := 61) rfl rfl rfl (load_mem hA) ?_)
  refine (hW _).mono ?_
  rintro e w2 ⟨rfl, hB2⟩
  go_wp2_with fail
  refine (hT _).mono ?_
  rintro e w3 ⟨rfl, hB3⟩
  have hz1 := hR.z
  have hs2 := hB2.size
  have HB3 : Below w1.heap.size w1 w3 := hB2.trans (hB3.mono hs2)
  clear hB2 hB3 hs2 c0 d0
  have hA := hA.below HB3 hA.z
  have hR := hR.below HB3 hR.z
  have d0 := (HB3.cell (p := ⟨w.heap.size + 1, 0, none⟩) (by show w.heap.size + 1 < w1.heap.size; omega)).trans (hC 0 _ rfl)
  have hB := hB.trans (HB3.mono hB.size)
  clear HB3 hC
  have c0 := hA.c 4 (by omega)
  rw [MemV.cell_e] at c0
  have f0 := hA.f 4 (by omega)
  have hA2 := hA.put (by omega) hu ho
  have hB2 := hB.setCell (p := ⟨w.heap.size, 4, none⟩) (Nat.le_refl _) (.int .u32 t)
  have hR2 : MemAt (w.heap.size + 1 + 1) mem0 (w3.setCell ⟨w.heap.size, 4, none⟩ (.int .u32 t)) := hR.of_block (Below.heap_setCell _ _ _ _ (by simp; omega)) (by simpa [World.setCell] using hR.z)
  have hR3 := hR2.stored v'
  have hB3 := setCells_below v'.row.toList (w.heap.size + 1 + 1) 0 hB2 (by omega)
  go_wp2_with (first | refine list_load (t := 61) rfl rfl rfl (load_mem hA2) ?_ | refine list_store (t := 61) rfl rfl rfl rfl (store_mem v' hR2) ?_)
  exact ret_mem (c := 6) rfl rfl rfl hR3 ⟨rfl, hB3⟩

set_option maxRecDepth 100000 in
set_option maxHeartbeats 4000000 in
theorem impl_putbit0 (v : MemV) (k n p : Int) (b : Bool) (w : World) (hv : v.Ok) (T : KTab w) (h : k < 1 ∨ 5 < k) :
    Calls Tryd.prog 94 #[.agg v.row, .agg #[.int .i64 k, .int .i64 n, .int .i64 p], .bool b] w fun e w' => e = .returned (.agg (pbV v k n b).row) ∧ Below w.heap.size w w' := by
  obtain ⟨j, hj, hz, hc⟩ := place_nat k n p
  have e : pbV v k n b = v := by
    unfold pbV putV
    rw [if_neg (by omega), if_neg (by omega), if_neg (by omega), if_neg (by omega), if_neg (by omega)]
  rw [e]
  clear e hj
  have hx : wordN v k = 0 := by
    unfold wordN
    rw [if_neg (by omega), if_neg (by omega), if_neg (by omega), if_neg (by omega), if_neg (by omega)]
  have hT : ∀ w, Calls Tryd.prog 132 #[.agg #[.int .i64 j, .bool b], .int .u64 0] w fun e w' => e = .returned (.int .u64 (turnN 0 j b)) ∧ Below w.heap.size w w' := fun w => impl_put 0 j b w (by omega) hz
  have hW : ∀ w, Calls Tryd.prog 93 #[.agg v.row, .int .i64 k] w fun e w' => e = .returned (.int .u64 0) ∧ Below w.heap.size w w' := fun w => by
    have := impl_word v k w hv
    rw [hx] at this
    exact this
  have h1 : (k == 1) = false := by simp; omega
  have h2 : (k == 2) = false := by simp; omega
  have h3 : (k == 3) = false := by simp; omega
  have h4 : (k == 4) = false := by simp; omega
  have h5 : (k == 5) = false := by simp; omega
  go_enter Tryd.func94, Tryd.ntmps94
  go_wp2_with fail
  refine (hc _ (((T.alloc _).alloc _).alloc _)).mono ?_
  rintro e w1 ⟨rfl, hB⟩
  obtain ⟨hA, hR, hC, hB⟩ := three_boxes v w w1 _ _ _ _ hB
  have d0 := hC 0 _ rfl
  go_wp2_with (refine list_load (t := 61) rfl rfl rfl (load_mem hA) ?_)
  refine (hW _).mono ?_
  rintro e w2 ⟨rfl, hB2⟩
  go_wp2_with fail
  refine (hT _).mono ?_
  rintro e w3 ⟨rfl, hB3⟩
  have hz1 := hR.z
  have hs2 := hB2.size
  have HB3 : Below w1.heap.size w1 w3 := hB2.trans (hB3.mono hs2)
  clear hB2 hB3 hs2 d0
  have hA := hA.below HB3 hA.z
  have hR := hR.below HB3 hR.z
  have d0 := (HB3.cell (p := ⟨w.heap.size + 1, 0, none⟩) (by show w.heap.size + 1 < w1.heap.size; omega)).trans (hC 0 _ rfl)
  have hB := hB.trans (HB3.mono hB.size)
  clear HB3 hC
  have hR3 := hR.stored v
  have hB3 := setCells_below v.row.toList (w.heap.size + 1 + 1) 0 hB (by omega)
  go_wp2_with (first | refine list_load (t := 61) rfl rfl rfl (load_mem hA) ?_ | refine list_store (t := 61) rfl rfl rfl rfl (store_mem v hR) ?_)
  exact ret_mem (c := 6) rfl rfl rfl hR3 ⟨rfl, hB3⟩

theorem impl_putbit (v : MemV) (k n p : Int) (b : Bool) (w : World) (hv : v.Ok) (T : KTab w) :
    Calls Tryd.prog 94 #[.agg v.row, .agg #[.int .i64 k, .int .i64 n, .int .i64 p], .bool b] w fun e w' => e = .returned (.agg (pbV v k n b).row) ∧ Below w.heap.size w w' := by
  by_cases h : k < 1 ∨ 5 < k
  · exact impl_putbit0 v k n p b w hv T h
  have : k = 1 ∨ k = 2 ∨ k = 3 ∨ k = 4 ∨ k = 5 := by omega
  rcases this with rfl | rfl | rfl | rfl | rfl
  · exact impl_putbit1 v n p b w hv T
  · exact impl_putbit2 v n p b w hv T
  · exact impl_putbit3 v n p b w hv T
  · exact impl_putbit4 v n p b w hv T
  · exact impl_putbit5 v n p b w hv T

end Go.Proofs.YtdhoimjkgicneaaDoor

/- The program's MemPut. -/
namespace Go.Proofs.YtdhoimjkgicneaaDoor
open Go Go.RowKit

set_option maxRecDepth 100000 in
set_option maxHeartbeats 4000000 in
theorem impl_memput (v : MemV) (k n p : Int) (b : Bool) (w : World) (hv : v.Ok) (T : KTab w) :
    Calls Tryd.prog 40 #[.agg v.row, .agg #[.int .i64 k, .int .i64 n, .int .i64 p], .bool b] w fun e w' => e = .returned (.agg (putV v k n b).row) ∧ Below w.heap.size w w' := by
  obtain ⟨hA, hR, hC, hB⟩ := three_boxes v w _ #[.int .i64 k, .int .i64 n, .int .i64 p] 61 24 61 (Below.refl _ _)
  have d0 := hC 0 _ rfl
  by_cases h1 : k = 1
  · subst h1
    have e : putV v 1 n b = v := rfl
    rw [e]
    have hR3 := hR.stored v
    have hB3 := setCells_below v.row.toList (w.heap.size + 1 + 1) 0 hB (by omega)
    go_enter Tryd.func40, Tryd.ntmps40
    go_wp2_with (first | refine list_load (t := 61) rfl rfl rfl (load_mem hA) ?_ | refine list_store (t := 61) rfl rfl rfl rfl (store_mem v hR) ?_)
    exact ret_mem (c := 6) rfl rfl rfl hR3 ⟨rfl, hB3⟩
  · have e : putV v k n b = pbV v k n b := by unfold pbV; rw [if_neg h1]
    rw [e]
    obtain ⟨v', ev⟩ : ∃ v', v' = pbV v k n b := ⟨_, rfl⟩
    have hc : ∀ w, KTab w → Calls Tryd.prog 94 #[.agg v.row, .agg #[.int .i64 k, .int .i64 n, .int .i64 p], .bool b] w fun e w' => e = .returned (.agg v'.row) ∧ Below w.heap.size w w' := fun w T => ev ▸ impl_putbit v k n p b w hv T
    rw [← ev]
    clear ev e
    have h1 : (k == 1) = false := by simp; omega
    go_enter Tryd.func40, Tryd.ntmps40
    go_wp2_with (first | refine list_load (t := 61) rfl rfl rfl (load_mem hA) ?_)
    refine (hc _ (((T.alloc _).alloc _).alloc _)).mono ?_
    rintro e w1 ⟨rfl, hB1⟩
    obtain ⟨hA, hR, hC, hB⟩ := three_boxes v w w1 _ _ _ _ hB1
    have hR3 := hR.stored v'
    have hB3 := setCells_below v'.row.toList (w.heap.size + 1 + 1) 0 hB (by omega)
    go_wp2_with (first | refine list_store (t := 61) rfl rfl rfl rfl (store_mem v' hR) ?_)
    exact ret_mem (c := 6) rfl rfl rfl hR3 ⟨rfl, hB3⟩

end Go.Proofs.YtdhoimjkgicneaaDoor

/- How rows of cells are compared: arrays of numbers, and whole memories without real numbers. -/
namespace Go.Proofs.YtdhoimjkgicneaaDoor
open Go Go.RowKit

section
variable {P : Program} (w : World)

/-- A part of two rows is compared. -/
def EqPart (P : Program) (d : Nat) (xs ys : Array Value) (t : TypeId) (off : Nat) (w : World) (Q : Prop) : Prop :=
  ∃ (a c : Value) (b : Bool), (part t xs off).run P w = .ok a w ∧ (part t ys off).run P w = .ok c w ∧ (Op.equalIn d t a c).run P w = .ok b w ∧ (b = true ↔ Q)

theorem eqFields_iff (d : Nat) (xs ys : Array Value) (Q : Field → Prop) : ∀ fs : List Field, (∀ f ∈ fs, f.name ≠ "_" ∧ EqPart P d xs ys f.type f.offset w (Q f)) →
    ∃ b : Bool, (Op.eqFields d xs ys fs).run P w = .ok b w ∧ (b = true ↔ ∀ f ∈ fs, Q f)
  | [], _ => ⟨true, by simp [Op.eqFields], by simp⟩
  | f :: fs, h => by
    obtain ⟨hn, a, c, b, h1, h2, h3, h4⟩ := h f (by simp)
    obtain ⟨b', g1, g2⟩ := eqFields_iff d xs ys Q fs (fun f hf => h f (by simp [hf]))
    simp only [Op.eqFields, if_pos hn, Sem.run_bind, h1, h2, h3, Result.andThen_ok]
    cases b
    · refine ⟨false, by simp, ?_⟩
      constructor
      · intro e; cases e
      · intro e
        have := h4.2 (e f (by simp))
        cases this
    · refine ⟨b', by simpa using g1, ?_⟩
      rw [g2]
      constructor
      · intro e x hx
        rcases List.mem_cons.1 hx with rfl | hx
        · exact h4.1 rfl
        · exact e x hx
      · exact fun e x hx => e x (by simp [hx])

theorem eqItems_iff (d : Nat) (e : TypeId) (n : Nat) (xs ys : Array Value) (Q : Nat → Prop) : ∀ is : List Nat, (∀ i ∈ is, EqPart P d xs ys e (i * n) w (Q i)) →
    ∃ b : Bool, (Op.eqItems d e n xs ys is).run P w = .ok b w ∧ (b = true ↔ ∀ i ∈ is, Q i)
  | [], _ => ⟨true, by simp [Op.eqItems], by simp⟩
  | i :: is, h => by
    obtain ⟨a, c, b, h1, h2, h3, h4⟩ := h i (by simp)
    obtain ⟨b', g1, g2⟩ := eqItems_iff d e n xs ys Q is (fun f hf => h f (by simp [hf]))
    simp only [Op.eqItems, Sem.run_bind, h1, h2, h3, Result.andThen_ok]
    cases b
    · refine ⟨false, by simp, ?_⟩
      constructor
      · intro e; cases e
      · intro e
        have := h4.2 (e i (by simp))
        cases this
    · refine ⟨b', by simpa using g1, ?_⟩
      rw [g2]
      constructor
      · intro e x hx
        rcases List.mem_cons.1 hx with rfl | hx
        · exact h4.1 rfl
        · exact e x hx
      · exact fun e x hx => e x (by simp [hx])

theorem part_one {t : TypeId} {xs : Array Value} {off : Nat} {v : Value} (ha : (isAgg t).run P w = .ok false w) (h : xs[off]? = some v) : (part t xs off).run P w = .ok v w := by
  simp [part, ha, h]
theorem part_agg {t : TypeId} {xs : Array Value} {off n : Nat} (ha : (isAgg t).run P w = .ok true w) (hs : (sizeOf t).run P w = .ok n w) : (part t xs off).run P w = .ok (.agg (xs.extract off (off + n))) w := by
  simp [part, ha, hs]

theorem eq_int {d : Nat} {xs ys : Array Value} {t : TypeId} {off : Nat} {k : IntKind} {a c : Int} (ha : (isAgg t).run P w = .ok false w) (hu : P.underlying t = some (.int k)) (h1 : xs[off]? = some (.int k a)) (h2 : ys[off]? = some (.int k c)) :
    EqPart P (d + 1) xs ys t off w (xs[off]? = ys[off]?) :=
  ⟨_, _, _, part_one w ha h1, part_one w ha h2, run_equalIn_int w d t k k a c hu, by rw [h1, h2]; simp⟩
theorem eq_bool {d : Nat} {xs ys : Array Value} {t : TypeId} {off : Nat} {a c : Bool} (ha : (isAgg t).run P w = .ok false w) (hu : P.underlying t = some .bool) (h1 : xs[off]? = some (.bool a)) (h2 : ys[off]? = some (.bool c)) :
    EqPart P (d + 1) xs ys t off w (xs[off]? = ys[off]?) :=
  ⟨_, _, _, part_one w ha h1, part_one w ha h2, run_equalIn_bool' w d t a c hu, by rw [h1, h2]; simp⟩
end

theorem extract_row (f : Nat → Value) {n off m : Nat} (h : off + m ≤ n) : (rowOf f n).extract off (off + m) = rowOf (fun j => f (off + j)) m := by
  apply Array.ext
  · simp [rowOf]; omega
  · intro i h1 h2
    simp [rowOf]

end Go.Proofs.YtdhoimjkgicneaaDoor
