/- Texts of this proof laid together: MemF0, MemJ0, Dev4. -/
import Derived.Test.YtdhoimjkgicneacGreatDoorLot8
import Derived.Test.YtdhoimjkgicneacGreatDoorLot11
import Derived.Test.YtdhoimjkgicneacGreatDoorLot2
/- A memory with a bit put; boxes of a memory, an operand and an answer. -/
namespace Go.Proofs.YtdhoimjkgicneacGreatDoor
open Go Go.RowKit

theorem turn_small {x k s : Nat} (hx : x < 2 ^ s) (hk : k < s) (b : Bool) : turnN x k b < 2 ^ s := by
  unfold turnN
  split
  · exact hx
  · rename_i hb
    cases b with
    | false =>
      rw [if_neg (by decide)]
      exact Nat.lt_of_le_of_lt (Nat.sub_le _ _) hx
    | true =>
      rw [if_pos rfl]
      have hb : x / 2 ^ k % 2 ≠ 1 := by intro h; apply hb; simp [h]
      have hp : 0 < 2 ^ k := Nat.two_pow_pos k
      have h1 := Nat.div_add_mod x (2 ^ k)
      have h2 := Nat.mod_lt x hp
      obtain ⟨q, hq⟩ : ∃ q, q = x / 2 ^ k := ⟨_, rfl⟩
      rw [← hq] at h1 hb
      obtain ⟨p, hp2⟩ : ∃ p, p = 2 ^ (s - 1 - k) := ⟨_, rfl⟩
      have hpp : 2 ^ k * (2 * p) = 2 ^ s := by
        rw [hp2, ← Nat.pow_succ', ← Nat.pow_add, show k + (s - 1 - k + 1) = s by omega]
      have hqlt : q < 2 * p := by
        rw [hq]
        refine (Nat.div_lt_iff_lt_mul hp).2 ?_
        rw [Nat.mul_comm, hpp]; exact hx
      have hq2 : q + 2 ≤ 2 * p := by omega
      have h3 : 2 ^ k * (q + 2) ≤ 2 ^ k * (2 * p) := Nat.mul_le_mul_left _ hq2
      rw [hpp, Nat.mul_add] at h3
      omega

theorem three_boxes (v : MemV) (w w1 : World) (cs : Array Value) (t1 t2 t3 : TypeId)
    (hB : Below (((w.alloc (.cells v.row t1)).alloc (.cells cs t2)).alloc (.cells Tryz.zeroCells36 t3)).heap.size (((w.alloc (.cells v.row t1)).alloc (.cells cs t2)).alloc (.cells Tryz.zeroCells36 t3)) w1) :
    MemAt w.heap.size v w1 ∧ MemAt (w.heap.size + 1 + 1) mem0 w1 ∧ (∀ k c, cs[k]? = some c → w1.cell? ⟨w.heap.size + 1, k, none⟩ = some c) ∧ Below w.heap.size w w1 := by
  rw [zero_row] at hB
  have h1 : Below (w.heap.size + 1) (w.alloc (.cells v.row t1)) ((w.alloc (.cells v.row t1)).alloc (.cells cs t2)) := (Below.refl _ _).alloc (by simp) _
  have h2 : Below (w.heap.size + 2) ((w.alloc (.cells v.row t1)).alloc (.cells cs t2)) (((w.alloc (.cells v.row t1)).alloc (.cells cs t2)).alloc (.cells mem0.row t3)) := (Below.refl _ _).alloc (by simp) _
  refine ⟨((((MemAt.alloc v w t1).below h1 (by omega)).below h2 (by omega)).below hB (by simp; omega)), ?_, fun k c hk => ?_, ?_⟩
  · have := (MemAt.alloc mem0 ((w.alloc (.cells v.row t1)).alloc (.cells cs t2)) t3).below hB (by simp)
    simpa using this
  · rw [hB.cell (p := ⟨w.heap.size + 1, k, none⟩) (by simp), h2.cell (p := ⟨w.heap.size + 1, k, none⟩) (by simp)]
    simp [hk]
  · exact ((((Below.refl w.heap.size w).alloc (Nat.le_refl _) _).alloc (by simp) _).alloc (by simp; omega) _).trans (hB.mono (by simp; omega))

/-- A memory in which a bit is put. -/
def putV (v : MemV) (k n : Int) (b : Bool) : MemV :=
  if k = 2 then { v with y := turnN v.y (atZ k n).toNat b } else if k = 3 then { v with m := turnN v.m (atZ k n).toNat b }
  else if k = 4 then { v with s := turnN v.s (atZ k n).toNat b } else if k = 5 then { v with e := turnN v.e (atZ k n).toNat b } else v

end Go.Proofs.YtdhoimjkgicneacGreatDoor

/- The program's memPutBit. -/
namespace Go.Proofs.YtdhoimjkgicneacGreatDoor
open Go Go.RowKit

/-- A memory in which a bit is put, an input too. -/
def pbV (v : MemV) (k n : Int) (b : Bool) : MemV := if k = 1 then { v with x := turnN v.x (atZ k n).toNat b } else putV v k n b

set_option maxRecDepth 100000 in
set_option maxHeartbeats 4000000 in
theorem impl_putbit1 (v : MemV) (n p : Int) (b : Bool) (w : World) (hv : v.Ok) (T : KTab w) :
    Calls Tryz.prog 36 #[.agg v.row, .agg #[.int .i64 1, .int .i64 n, .int .i64 p], .bool b] w fun e w' => e = .returned (.agg (pbV v 1 n b).row) ∧ Below w.heap.size w w' := by
  obtain ⟨j, hj, hz, hc⟩ := place_nat 1 n p
  have e : pbV v 1 n b = { v with x := turnN v.x j b } := by unfold pbV; rw [hj]; rfl
  have h16 := atZ_lt (k := 1) (n := n) (s := 32) rfl (by omega)
  rw [hj] at h16
  rw [e]
  clear e hj
  have hx := hv.x
  have ht : turnN v.x j b < 4294967296 := turn_small (s := 32) hx (by omega) b
  obtain ⟨t, et⟩ : ∃ t, t = turnN v.x j b := ⟨_, rfl⟩
  rw [← et] at ht ⊢
  have hT : ∀ w, Calls Tryz.prog 70 #[.agg #[.int .i64 j, .bool b], .int .u64 v.x] w fun e w' => e = .returned (.int .u64 t) ∧ Below w.heap.size w w' := fun w => et ▸ impl_put v.x j b w (by omega) hz
  have hW : ∀ w, Calls Tryz.prog 71 #[.agg v.row, .int .i64 1] w fun e w' => e = .returned (.int .u64 v.x) ∧ Below w.heap.size w w' := fun w => impl_word v 1 w hv
  clear et
  obtain ⟨v', ev⟩ : ∃ v' : MemV, v' = { v with x := t } := ⟨_, rfl⟩
  have hu : v'.cell 0 = .int .u32 t := by rw [ev]; rfl
  have ho : ∀ i, i < 136 → i ≠ 0 → v'.cell i = v.cell i := by
    intro i _ hi
    rw [ev]
    unfold MemV.cell
    simp only [if_neg hi]
  rw [← ev]
  clear ev
  go_enter Tryz.func36, Tryz.ntmps36
  go_wp2_with fail
  refine (hc _ (((T.alloc _).alloc _).alloc _)).mono ?_
  rintro e w1 ⟨rfl, hB⟩
  obtain ⟨hA, hR, hC, hB⟩ := three_boxes v w w1 _ _ _ _ hB
  have c0 := hA.c 0 (by omega)
  rw [MemV.cell_x] at c0
  have d0 := hC 0 _ rfl
  go_wp2_with (refine list_load (t := 36) rfl rfl rfl (load_mem hA) ?_)
  refine (hW _).mono ?_
  rintro e w2 ⟨rfl, hB2⟩
  go_wp2_with fail
  refine (hT _).mono ?_
  rintro e w3 ⟨rfl, hB3⟩
  have hz1 := hR.z
  have hs2 := hB2.size
  have HB3 : Below w1.heap.size w1 w3 := hB2.trans (hB3.mono hs2)
  clear hB2 hB3 hs2 c0 d0
  have hA := hA.below HB3 hA.z
  have hR := hR.below HB3 hR.z
  have d0 := (HB3.cell (p := ⟨w.heap.size + 1, 0, none⟩) (by show w.heap.size + 1 < w1.heap.size; omega)).trans (hC 0 _ rfl)
  have hB := hB.trans (HB3.mono hB.size)
  clear HB3 hC
  have c0 := hA.c 0 (by omega)
  rw [MemV.cell_x] at c0
  have f0 := hA.f 0 (by omega)
  have hA2 := hA.put (by omega) hu ho
  have hB2 := hB.setCell (p := ⟨w.heap.size, 0, none⟩) (Nat.le_refl _) (.int .u32 t)
  have hR2 : MemAt (w.heap.size + 1 + 1) mem0 (w3.setCell ⟨w.heap.size, 0, none⟩ (.int .u32 t)) := hR.of_block (Below.heap_setCell _ _ _ _ (by simp; omega)) (by simpa [World.setCell] using hR.z)
  have hR3 := hR2.stored v'
  have hB3 := setCells_below v'.row.toList (w.heap.size + 1 + 1) 0 hB2 (by omega)
  go_wp2_with (first | refine list_load (t := 36) rfl rfl rfl (load_mem hA2) ?_ | refine list_store (t := 36) rfl rfl rfl rfl (store_mem v' hR2) ?_)
  exact ret_mem (c := 6) rfl rfl rfl hR3 ⟨rfl, hB3⟩

set_option maxRecDepth 100000 in
set_option maxHeartbeats 4000000 in
theorem impl_putbit2 (v : MemV) (n p : Int) (b : Bool) (w : World) (hv : v.Ok) (T : KTab w) :
    Calls Tryz.prog 36 #[.agg v.row, .agg #[.int .i64 2, .int .i64 n, .int .i64 p], .bool b] w fun e w' => e = .returned (.agg (pbV v 2 n b).row) ∧ Below w.heap.size w w' := by
  obtain ⟨j, hj, hz, hc⟩ := place_nat 2 n p
  have e : pbV v 2 n b = { v with y := turnN v.y j b } := by unfold pbV putV; rw [hj]; rfl
  have h16 := atZ_lt (k := 2) (n := n) (s := 32) rfl (by omega)
  rw [hj] at h16
  rw [e]
  clear e hj
  have hx := hv.y
  have ht : turnN v.y j b < 4294967296 := turn_small (s := 32) hx (by omega) b
  obtain ⟨t, et⟩ : ∃ t, t = turnN v.y j b := ⟨_, rfl⟩
  rw [← et] at ht ⊢
  have hT : ∀ w, Calls Tryz.prog 70 #[.agg #[.int .i64 j, .bool b], .int .u64 v.y] w fun e w' => e = .returned (.int .u64 t) ∧ Below w.heap.size w w' := fun w => et ▸ impl_put v.y j b w (by omega) hz
  have hW : ∀ w, Calls Tryz.prog 71 #[.agg v.row, .int .i64 2] w fun e w' => e = .returned (.int .u64 v.y) ∧ Below w.heap.size w w' := fun w => impl_word v 2 w hv
  clear et
  obtain ⟨v', ev⟩ : ∃ v' : MemV, v' = { v with y := t } := ⟨_, rfl⟩
  have hu : v'.cell 1 = .int .u32 t := by rw [ev]; rfl
  have ho : ∀ i, i < 136 → i ≠ 1 → v'.cell i = v.cell i := by
    intro i _ hi
    rw [ev]
    unfold MemV.cell
    simp only [if_neg hi]
  rw [← ev]
  clear ev
  go_enter Tryz.func36, Tryz.ntmps36
  go_wp2_with fail
  refine (hc _ (((T.alloc _).alloc _).alloc _)).mono ?_
  rintro e w1 ⟨rfl, hB⟩
  obtain ⟨hA, hR, hC, hB⟩ := three_boxes v w w1 _ _ _ _ hB
  have c0 := hA.c 1 (by omega)
  rw [MemV.cell_y] at c0
  have d0 := hC 0 _ rfl
  go_wp2_with (refine list_load (t := 36) rfl rfl rfl (load_mem hA) ?_)
  refine (hW _).mono ?_
  rintro e w2 ⟨rfl, hB2⟩
  go_wp2_with fail
  refine (hT _).mono ?_
  rintro e w3 ⟨rfl, hB3⟩
  have hz1 := hR.z
  have hs2 := hB2.size
  have HB3 : Below w1.heap.size w1 w3 := hB2.trans (hB3.mono hs2)
  clear hB2 hB3 hs2 c0 d0
  have hA := hA.below HB3 hA.z
  have hR := hR.below HB3 hR.z
  have d0 := (HB3.cell (p := ⟨w.heap.size + 1, 0, none⟩) (by show w.heap.size + 1 < w1.heap.size; omega)).trans (hC 0 _ rfl)
  have hB := hB.trans (HB3.mono hB.size)
  clear HB3 hC
  have c0 := hA.c 1 (by omega)
  rw [MemV.cell_y] at c0
  have f0 := hA.f 1 (by omega)
  have hA2 := hA.put (by omega) hu ho
  have hB2 := hB.setCell (p := ⟨w.heap.size, 1, none⟩) (Nat.le_refl _) (.int .u32 t)
  have hR2 : MemAt (w.heap.size + 1 + 1) mem0 (w3.setCell ⟨w.heap.size, 1, none⟩ (.int .u32 t)) := hR.of_block (Below.heap_setCell _ _ _ _ (by simp; omega)) (by simpa [World.setCell] using hR.z)
  have hR3 := hR2.stored v'
  have hB3 := setCells_below v'.row.toList (w.heap.size + 1 + 1) 0 hB2 (by omega)
  go_wp2_with (first | refine list_load (t := 36) rfl rfl rfl (load_mem hA2) ?_ | refine list_store (t := 36) rfl rfl rfl rfl (store_mem v' hR2) ?_)
  exact ret_mem (c := 6) rfl rfl rfl hR3 ⟨rfl, hB3⟩

set_option maxRecDepth 100000 in
set_option maxHeartbeats 4000000 in
theorem impl_putbit3 (v : MemV) (n p : Int) (b : Bool) (w : World) (hv : v.Ok) (T : KTab w) :
    Calls Tryz.prog 36 #[.agg v.row, .agg #[.int .i64 3, .int .i64 n, .int .i64 p], .bool b] w fun e w' => e = .returned (.agg (pbV v 3 n b).row) ∧ Below w.heap.size w w' := by
  obtain ⟨j, hj, hz, hc⟩ := place_nat 3 n p
  have e : pbV v 3 n b = { v with m := turnN v.m j b } := by unfold pbV putV; rw [hj]; rfl
  have h16 := atZ_lt (k := 3) (n := n) (s := 64) rfl (by omega)
  rw [hj] at h16
  rw [e]
  clear e hj
  have hx := hv.m
  have ht : turnN v.m j b < 18446744073709551616 := turn_small (s := 64) hx (by omega) b
  obtain ⟨t, et⟩ : ∃ t, t = turnN v.m j b := ⟨_, rfl⟩
  rw [← et] at ht ⊢
  have hT : ∀ w, Calls Tryz.prog 70 #[.agg #[.int .i64 j, .bool b], .int .u64 v.m] w fun e w' => e = .returned (.int .u64 t) ∧ Below w.heap.size w w' := fun w => et ▸ impl_put v.m j b w (by omega) hz
  have hW : ∀ w, Calls Tryz.prog 71 #[.agg v.row, .int .i64 3] w fun e w' => e = .returned (.int .u64 v.m) ∧ Below w.heap.size w w' := fun w => impl_word v 3 w hv
  clear et
  obtain ⟨v', ev⟩ : ∃ v' : MemV, v' = { v with m := t } := ⟨_, rfl⟩
  have hu : v'.cell 2 = .int .u64 t := by rw [ev]; rfl
  have ho : ∀ i, i < 136 → i ≠ 2 → v'.cell i = v.cell i := by
    intro i _ hi
    rw [ev]
    unfold MemV.cell
    simp only [if_neg hi]
  rw [← ev]
  clear ev
  go_enter Tryz.func36, Tryz.ntmps36
  go_wp2_with fail
  refine (hc _ (((T.alloc _).alloc _).alloc _)).mono ?_
  rintro e w1 ⟨rfl, hB⟩
  obtain ⟨hA, hR, hC, hB⟩ := three_boxes v w w1 _ _ _ _ hB
  have c0 := hA.c 2 (by omega)
  rw [MemV.cell_m] at c0
  have d0 := hC 0 _ rfl
  go_wp2_with (refine list_load (t := 36) rfl rfl rfl (load_mem hA) ?_)
  refine (hW _).mono ?_
  rintro e w2 ⟨rfl, hB2⟩
  go_wp2_with fail
  refine (hT _).mono ?_
  rintro e w3 ⟨rfl, hB3⟩
  have hz1 := hR.z
  have hs2 := hB2.size
  have HB3 : Below w1.heap.size w1 w3 := hB2.trans (hB3.mono hs2)
  clear hB2 hB3 hs2 c0 d0
  have hA := hA.below HB3 hA.z
  have hR := hR.below HB3 hR.z
  have d0 := (HB3.cell (p := ⟨w.heap.size + 1, 0, none⟩) (by show w.heap.size + 1 < w1.heap.size; omega)).trans (hC 0 _ rfl)
  have hB := hB.trans (HB3.mono hB.size)
  clear HB3 hC
  have c0 := hA.c 2 (by omega)
  rw [MemV.cell_m] at c0
  have f0 := hA.f 2 (by omega)
  have hA2 := hA.put (by omega) hu ho
  have hB2 := hB.setCell (p := ⟨w.heap.size, 2, none⟩) (Nat.le_refl _) (.int .u64 t)
  have hR2 : MemAt (w.heap.size + 1 + 1) mem0 (w3.setCell ⟨w.heap.size, 2, none⟩ (.int .u64 t)) := hR.of_block (Below.heap_setCell _ _ _ _ (by simp; omega)) (by simpa [World.setCell] using hR.z)
  have hR3 := hR2.stored v'
  have hB3 := setCells_below v'.row.toList (w.heap.size + 1 + 1) 0 hB2 (by omega)
  go_wp2_with (first | refine list_load (t := 36) rfl rfl rfl (load_mem hA2) ?_ | refine list_store (t := 36) rfl rfl rfl rfl (store_mem v' hR2) ?_)
  exact ret_mem (c := 6) rfl rfl rfl hR3 ⟨rfl, hB3⟩

set_option maxRecDepth 100000 in
set_option maxHeartbeats 4000000 in
theorem impl_putbit4 (v : MemV) (n p : Int) (b : Bool) (w : World) (hv : v.Ok) (T : KTab w) :
    Calls Tryz.prog 36 #[.agg v.row, .agg #[.int .i64 4, .int .i64 n, .int .i64 p], .bool b] w fun e w' => e = .returned (.agg (pbV v 4 n b).row) ∧ Below w.heap.size w w' := by
  obtain ⟨j, hj, hz, hc⟩ := place_nat 4 n p
  have e : pbV v 4 n b = { v with s := turnN v.s j b } := by unfold pbV putV; rw [hj]; rfl
  have h16 := atZ_lt (k := 4) (n := n) (s := 16) rfl (by omega)
  rw [hj] at h16
  rw [e]
  clear e hj
  have hx := hv.s
  have ht : turnN v.s j b < 65536 := turn_small (s := 16) hx (by omega) b
  obtain ⟨t, et⟩ : ∃ t, t = turnN v.s j b := ⟨_, rfl⟩
  rw [← et] at ht ⊢
  have hT : ∀ w, Calls Tryz.prog 70 #[.agg #[.int .i64 j, .bool b], .int .u64 v.s] w fun e w' => e = .returned (.int .u64 t) ∧ Below w.heap.size w w' := fun w => et ▸ impl_put v.s j b w (by omega) hz
  have hW : ∀ w, Calls Tryz.prog 71 #[.agg v.row, .int .i64 4] w fun e w' => e = .returned (.int .u64 v.s) ∧ Below w.heap.size w w' := fun w => impl_word v 4 w hv
  clear et
  obtain ⟨v', ev⟩ : ∃ v' : MemV, v' = { v with s := t } := ⟨_, rfl⟩
  have hu : v'.cell 3 = .int .u16 t := by rw [ev]; rfl
  have ho : ∀ i, i < 136 → i ≠ 3 → v'.cell i = v.cell i := by
    intro i _ hi
    rw [ev]
    unfold MemV.cell
    simp only [if_neg hi]
  rw [← ev]
  clear ev
  go_enter Tryz.func36, Tryz.ntmps36
  go_wp2_with fail
  refine (hc _ (((T.alloc _).alloc _).alloc _)).mono ?_
  rintro e w1 ⟨rfl, hB⟩
  obtain ⟨hA, hR, hC, hB⟩ := three_boxes v w w1 _ _ _ _ hB
  have c0 := hA.c 3 (by omega)
  rw [MemV.cell_s] at c0
  have d0 := hC 0 _ rfl
  go_wp2_with (refine list_load (t := 36) rfl rfl rfl (load_mem hA) ?_)
  refine (hW _).mono ?_
  rintro e w2 ⟨rfl, hB2⟩
  go_wp2_with fail
  refine (hT _).mono ?_
  rintro e w3 ⟨rfl, hB3⟩
  have hz1 := hR.z
  have hs2 := hB2.size
  have HB3 : Below w1.heap.size w1 w3 := hB2.trans (hB3.mono hs2)
  clear hB2 hB3 hs2 c0 d0
  have hA := hA.below HB3 hA.z
  have hR := hR.below HB3 hR.z
  have d0 := (HB3.cell (p := ⟨w.heap.size + 1, 0, none⟩) (by show w.heap.size + 1 < w1.heap.size; omega)).trans (hC 0 _ rfl)
  have hB := hB.trans (HB3.mono hB.size)
  clear HB3 hC
  have c0 := hA.c 3 (by omega)
  rw [MemV.cell_s] at c0
  have f0 := hA.f 3 (by omega)
  have hA2 := hA.put (by omega) hu ho
  have hB2 := hB.setCell (p := ⟨w.heap.size, 3, none⟩) (Nat.le_refl _) (.int .u16 t)
  have hR2 : MemAt (w.heap.size + 1 + 1) mem0 (w3.setCell ⟨w.heap.size, 3, none⟩ (.int .u16 t)) := hR.of_block (Below.heap_setCell _ _ _ _ (by simp; omega)) (by simpa [World.setCell] using hR.z)
  have hR3 := hR2.stored v'
  have hB3 := setCells_below v'.row.toList (w.heap.size + 1 + 1) 0 hB2 (by omega)
  go_wp2_with (first | refine list_load (t := 36) rfl rfl rfl (load_mem hA2) ?_ | refine list_store (t := 36) rfl rfl rfl rfl (store_mem v' hR2) ?_)
  exact ret_mem (c := 6) rfl rfl rfl hR3 ⟨rfl, hB3⟩

set_option maxRecDepth 100000 in
set_option maxHeartbeats 4000000 in
theorem impl_putbit5 (v : MemV) (n p : Int) (b : Bool) (w : World) (hv : v.Ok) (T : KTab w) :
    Calls Tryz.prog 36 #[.agg v.row, .agg #[.int .i64 5, .int .i64 n, .int .i64 p], .bool b] w fun e w' => e = .returned (.agg (pbV v 5 n b).row) ∧ Below w.heap.size w w' := by
  obtain ⟨j, hj, hz, hc⟩ := place_nat 5 n p
  have e : pbV v 5 n b = { v with e := turnN v.e j b } := by unfold pbV putV; rw [hj]; rfl
  have h16 := atZ_lt (k := 5) (n := n) (s := 32) rfl (by omega)
  rw [hj] at h16
  rw [e]
  clear e hj
  have hx := hv.e
  have ht : turnN v.e j b < 4294967296 := turn_small (s := 32) hx (by omega) b
  obtain ⟨t, et⟩ : ∃ t, t = turnN v.e j b := ⟨_, rfl⟩
  rw [← et] at ht ⊢
  have hT : ∀ w, Calls Tryz.prog 70 #[.agg #[.int .i64 j, .bool b], .int .u64 v.e] w fun e w' => e = .returned (.int .u64 t) ∧ Below w.heap.size w w' := fun w => et ▸ impl_put v.e j b w (by omega) hz
  have hW : ∀ w, Calls Tryz.prog 71 #[.agg v.row, .int .i64 5] w fun e w' => e = .returned (.int .u64 v.e) ∧ Below w.heap.size w w' := fun w => impl_word v 5 w hv
  clear et
  obtain ⟨v', ev⟩ : ∃ v' : MemV, v' = { v with e := t } := ⟨_, rfl⟩
  have hu : v'.cell 4 = .int .u32 t := by rw [ev]; rfl
  have ho : ∀ i, i < 136 → i ≠ 4 → v'.cell i = v.cell i := by
    intro i _ hi
    rw [ev]
    unfold MemV.cell
    simp only [if_neg hi]
  rw [← ev]
  clear ev
  go_enter Tryz.func36, Tryz.ntmps36
  go_wp2_with fail
  refine (hc _ (((T.alloc _).alloc _).alloc _)).mono ?_
  rintro e w1 ⟨rfl, hB⟩
  obtain ⟨hA, hR, hC, hB⟩ := three_boxes v w w1 _ _ _ _ hB
  have c0 := hA.c 4 (by omega)
  rw [MemV.cell_e] at c0
  have d0 := hC 0 _ rfl
  go_wp2_with (refine list_load (t := 36) rfl rfl rfl (load_mem hA) ?_)
  refine (hW _).mono ?_
  rintro e w2 ⟨rfl, hB2⟩
  go_wp2_with fail
  refine (hT _).mono ?_
  rintro e w3 ⟨rfl, hB3⟩
  have hz1 := hR.z
  have hs2 := hB2.size
  have HB3 : Below w1.heap.size w1 w3 := hB2.trans (hB3.mono hs2)
  clear hB2 hB3 hs2 c0 d0
  have hA := hA.below HB3 hA.z
  have hR := hR.below HB3 hR.z
  have d0 := (HB3.cell (p := ⟨w.heap.size + 1, 0, none⟩) (by show w.heap.size + 1 < w1.heap.size; omega)).trans (hC 0 _ rfl)
  have hB := hB.trans (HB3.mono hB.size)
  clear HB3 hC
  have c0 := hA.c 4 (by omega)
  rw [MemV.cell_e] at c0
  have f0 := hA.f 4 (by omega)
  have hA2 := hA.put (by omega) hu ho
  have hB2 := hB.setCell (p := ⟨w.heap.size, 4, none⟩) (Nat.le_refl _) (.int .u32 t)
  have hR2 : MemAt (w.heap.size + 1 + 1) mem0 (w3.setCell ⟨w.heap.size, 4, none⟩ (.int .u32 t)) := hR.of_block (Below.heap_setCell _ _ _ _ (by simp; omega)) (by simpa [World.setCell] using hR.z)
  have hR3 := hR2.stored v'
  have hB3 := setCells_below v'.row.toList (w.heap.size + 1 + 1) 0 hB2 (by omega)
  go_wp2_with (first | refine list_load (t := 36) rfl rfl rfl (load_mem hA2) ?_ | refine list_store (t := 36) rfl rfl rfl rfl (store_mem v' hR2) ?_)
  exact ret_mem (c := 6) rfl rfl rfl hR3 ⟨rfl, hB3⟩

set_option maxRecDepth 100000 in
set_option maxHeartbeats 4000000 in
theorem impl_putbit0 (v : MemV) (k n p : Int) (b : Bool) (w : World) (hv : v.Ok) (T : KTab w) (h : k < 1 ∨ 5 < k) :
    Calls Tryz.prog 36 #[.agg v.row, .agg #[.int .i64 k, .int .i64 n, .int .i64 p], .bool b] w fun e w' => e = .returned (.agg (pbV v k n b).row) ∧ Below w.heap.size w w' := by
  obtain ⟨j, hj, hz, hc⟩ := place_nat k n p
  have e : pbV v k n b = v := by
    unfold pbV putV
    rw [if_neg (by omega), if_neg (by omega), if_neg (by omega), if_neg (by omega), if_neg (by omega)]
  rw [e]
  clear e hj
  have hx : wordN v k = 0 := by
    unfold wordN
    rw [if_neg (by omega), if_neg (by omega), if_neg (by omega), if_neg (by omega), if_neg (by omega)]
  have hT : ∀ w, Calls Tryz.prog 70 #[.agg #[.int .i64 j, .bool b], .int .u64 0] w fun e w' => e = .returned (.int .u64 (turnN 0 j b)) ∧ Below w.heap.size w w' := fun w => impl_put 0 j b w (by omega) hz
  have hW : ∀ w, Calls Tryz.prog 71 #[.agg v.row, .int .i64 k] w fun e w' => e = .returned (.int .u64 0) ∧ Below w.heap.size w w' := fun w => by
    have := impl_word v k w hv
    rw [hx] at this
    exact this
  have h1 : (k == 1) = false := by simp; omega
  have h2 : (k == 2) = false := by simp; omega
  have h3 : (k == 3) = false := by simp; omega
  have h4 : (k == 4) = false := by simp; omega
  have h5 : (k == 5) = false := by simp; omega
  go_enter Tryz.func36, Tryz.ntmps36
  go_wp2_with fail
  refine (hc _ (((T.alloc _).alloc _).alloc _)).mono ?_
  rintro e w1 ⟨rfl, hB⟩
  obtain ⟨hA, hR, hC, hB⟩ := three_boxes v w w1 _ _ _ _ hB
  have d0 := hC 0 _ rfl
  go_wp2_with (refine list_load (t := 36) rfl rfl rfl (load_mem hA) ?_)
  refine (hW _).mono ?_
  rintro e w2 ⟨rfl, hB2⟩
  go_wp2_with fail
  refine (hT _).mono ?_
  rintro e w3 ⟨rfl, hB3⟩
  have hz1 := hR.z
  have hs2 := hB2.size
  have HB3 : Below w1.heap.size w1 w3 := hB2.trans (hB3.mono hs2)
  clear hB2 hB3 hs2 d0
  have hA := hA.below HB3 hA.z
  have hR := hR.below HB3 hR.z
  have d0 := (HB3.cell (p := ⟨w.heap.size + 1, 0, none⟩) (by show w.heap.size + 1 < w1.heap.size; omega)).trans (hC 0 _ rfl)
  have hB := hB.trans (HB3.mono hB.size)
  clear HB3 hC
  have hR3 := hR.stored v
  have hB3 := setCells_below v.row.toList (w.heap.size + 1 + 1) 0 hB (by omega)
  go_wp2_with (first | refine list_load (t := 36) rfl rfl rfl (load_mem hA) ?_ | refine list_store (t := 36) rfl rfl rfl rfl (store_mem v hR) ?_)
  exact ret_mem (c := 6) rfl rfl rfl hR3 ⟨rfl, hB3⟩

theorem impl_putbit (v : MemV) (k n p : Int) (b : Bool) (w : World) (hv : v.Ok) (T : KTab w) :
    Calls Tryz.prog 36 #[.agg v.row, .agg #[.int .i64 k, .int .i64 n, .int .i64 p], .bool b] w fun e w' => e = .returned (.agg (pbV v k n b).row) ∧ Below w.heap.size w w' := by
  by_cases h : k < 1 ∨ 5 < k
  · exact impl_putbit0 v k n p b w hv T h
  have : k = 1 ∨ k = 2 ∨ k = 3 ∨ k = 4 ∨ k = 5 := by omega
  rcases this with rfl | rfl | rfl | rfl | rfl
  · exact impl_putbit1 v n p b w hv T
  · exact impl_putbit2 v n p b w hv T
  · exact impl_putbit3 v n p b w hv T
  · exact impl_putbit4 v n p b w hv T
  · exact impl_putbit5 v n p b w hv T

end Go.Proofs.YtdhoimjkgicneacGreatDoor

/- Each reader gives back the operand out of its text. Plain. -/
namespace Go.Proofs.YtdhoimjkgicneacGreatDoor
open Go

theorem all_take {l : List UInt8} (a : Nat) (h : l.all isDig = true) : (l.take a).all isDig = true := by
  rw [List.all_eq_true] at h ⊢
  intro x hx; exact h x (List.mem_of_mem_take hx)
theorem all_drop {l : List UInt8} (a : Nat) (h : l.all isDig = true) : (l.drop a).all isDig = true := by
  rw [List.all_eq_true] at h ⊢
  intro x hx; exact h x (List.mem_of_mem_drop hx)
theorem dval_split (l : List UInt8) (a : Nat) : dval (l.drop a) (dval (l.take a) 0) = dval l 0 := by
  rw [← dval_append, List.take_append_drop]

theorem pad_len (m p : Nat) (hm : m ≤ 999999999) (hp : p ≤ 6) : p < (padL (Lib.decDigits m) p).length ∧ (padL (Lib.decDigits m) p).length ≤ 10 := by
  have := dd_len 8 m (by omega)
  rw [padL]; simp; omega
theorem pad_val (m p : Nat) : dval (padL (Lib.decDigits m) p) 0 = m := by rw [padL, dval_pad, dval_dd]

theorem numP_int (s : Int) (m : Nat) (hm : m ≤ 999999999) : numP s (Lib.decDigits m) = ((11 : Int), s * (m : Int), (0 : Int)) := by
  have h1 := dd_len 8 m (by omega)
  have h2 := dd_pos m
  unfold numP
  rw [fnd_none (dd_all m)]
  simp only []
  rw [digitsZ, if_pos ⟨by omega, by omega, dd_all m⟩, dval_dd]

theorem numP_dec (s : Int) (m p : Nat) (hm : m ≤ 999999999) (hp : p ≤ 6) : numP s (decM m p) = ((12 : Int), s * (m : Int), (p : Int)) := by
  obtain ⟨h1, h2⟩ := pad_len m p hm hp
  have ha := pad_all m p
  have hv := pad_val m p
  unfold decM
  generalize padL (Lib.decDigits m) p = d at *
  have e : pointL d p = d.take (d.length - p) ++ 46 :: d.drop (d.length - p) := by simp [pointL]
  have hl : (d.take (d.length - p)).length = d.length - p := by simp
  unfold numP
  rw [e, fnd_some _ (all_take _ ha), hl]
  simp only []
  have e2 : (d.take (d.length - p) ++ 46 :: d.drop (d.length - p)).take (d.length - p) = d.take (d.length - p) := by
    rw [List.take_append_of_le_length (by omega), List.take_take, Nat.min_self]
  have e3 : (d.take (d.length - p) ++ 46 :: d.drop (d.length - p)).drop (d.length - p + 1) = d.drop (d.length - p) := by
    rw [List.drop_append, hl, List.drop_of_length_le (by omega)]
    simp
  rw [e2, e3, List.take_append_drop, digitsZ, if_pos ⟨by omega, by omega, ha⟩, hv]
  simp; omega

theorem scan_int (k s : Int) (m : Nat) (hm : m ≤ 999999999) (hk : k ≠ 12) : scanL k s 0 0 (Lib.decDigits m) = (k, (m : Int) * s, (0 : Int)) := by
  have := scan_digits k s [] (Lib.decDigits m) 0 0 (dd_all m) (by rw [dval_dd]; omega)
  rw [List.append_nil, dval_dd, if_neg hk] at this
  rw [this, scanL]; rfl

theorem scan_dec (s : Int) (m p : Nat) (hm : m ≤ 999999999) (hp : p ≤ 6) : scanL 11 s 0 0 (decM m p) = ((12 : Int), (m : Int) * s, (p : Int)) := by
  obtain ⟨h1, h2⟩ := pad_len m p hm hp
  have ha := pad_all m p
  have hv := pad_val m p
  unfold decM
  generalize padL (Lib.decDigits m) p = d at *
  have e : pointL d p = d.take (d.length - p) ++ 46 :: d.drop (d.length - p) := by simp [pointL]
  have hs := dval_split d (d.length - p)
  have hle := dval_le (d.drop (d.length - p)) (dval (d.take (d.length - p)) 0)
  rw [e, scan_digits 11 s _ _ 0 0 (all_take _ ha) (by omega), if_neg (by decide), scanL, if_pos ⟨rfl, rfl⟩]
  have h3 := scan_digits 12 s [] (d.drop (d.length - p)) (dval (d.take (d.length - p)) 0) 0 (all_drop _ ha) (by omega)
  rw [List.append_nil, hs, hv, if_pos rfl] at h3
  rw [h3, scanL]
  simp; omega

theorem head_dec (m p : Nat) (hm : m ≤ 999999999) (hp : p ≤ 6) : ∃ c cs, decM m p = c :: cs ∧ isDig c = true := by
  obtain ⟨h1, h2⟩ := pad_len m p hm hp
  have ha := pad_all m p
  unfold decM
  generalize padL (Lib.decDigits m) p = d at *
  obtain ⟨c, cs, e, hc⟩ := head_dig (all_take (d.length - p) ha) (by simp; omega)
  exact ⟨c, cs ++ 46 :: d.drop (d.length - p), by simp [pointL, e], hc⟩
theorem head_int (m : Nat) : ∃ c cs, Lib.decDigits m = c :: cs ∧ isDig c = true := head_dig (dd_all m) (dd_pos m)

theorem dec_not (m p : Nat) (hm : m ≤ 999999999) (hp : p ≤ 6) (h0 : 1 ≤ m) : decM m p ≠ [48, 46, 48] := by
  intro e
  have h := scan_dec 1 m p hm hp
  rw [e] at h
  have : scanL 11 1 0 0 [48, 46, 48] = (12, 0, 1) := by decide
  rw [this] at h
  have h2 := (Prod.mk.inj (Prod.mk.inj h).2).1
  omega
theorem int_not (m : Nat) : Lib.decDigits m ≠ [48, 46, 48] := by
  intro e
  have := dd_all m
  rw [e] at this
  revert this; decide

theorem read_both {k n p : Int} (h : okB k n p = true) : guessP (textL k n p) = (k, n, p) ∧ scanP (textL k n p) = (k, n, p) := by
  unfold textL
  rw [if_neg (by rw [h]; decide)]
  split
  · rename_i hk; subst hk
    obtain ⟨h1, h2, rfl⟩ := ok_int h
    by_cases h0 : 0 ≤ n
    · obtain ⟨m, rfl⟩ : ∃ m : Nat, n = m := ⟨n.toNat, by omega⟩
      rw [Lib.itoa_nonneg, guess_plus (head_int m), scan_plus (head_int m), numP_int 1 m (by omega), scan_int 11 1 m (by omega) (by decide)]
      simp
    · obtain ⟨m, rfl⟩ : ∃ m : Nat, n = -(m : Int) := ⟨n.natAbs, by omega⟩
      rw [Lib.itoa_neg m (by omega), guess_minus (head_int m) (int_not m), scan_minus (head_int m) (int_not m), numP_int (-1) m (by omega), scan_int 11 (-1) m (by omega) (by decide)]
      simp
  · split
    · rename_i hk; subst hk
      obtain ⟨h1, h2, h3, h4, -⟩ := ok_dec h
      obtain ⟨q, rfl⟩ : ∃ q : Nat, p = q := ⟨p.toNat, by omega⟩
      rw [show (q : Int).toNat = q from rfl]
      by_cases h0 : 0 ≤ n
      · obtain ⟨m, rfl⟩ : ∃ m : Nat, n = m := ⟨n.toNat, by omega⟩
        have e : decT (m : Int) q = decM m q := by unfold decT; rw [if_neg (by omega)]; simp
        have hh := head_dec m q (by omega) (by omega)
        rw [e, guess_plus hh, scan_plus hh, numP_dec 1 m q (by omega) (by omega), scan_dec 1 m q (by omega) (by omega)]
        simp
      · obtain ⟨m, rfl⟩ : ∃ m : Nat, n = -(m : Int) := ⟨n.natAbs, by omega⟩
        have e : decT (-(m : Int)) q = 45 :: decM m q := by unfold decT; rw [if_pos (by omega)]; simp
        have hh := head_dec m q (by omega) (by omega)
        have hn := dec_not m q (by omega) (by omega) (by omega)
        rw [e, guess_minus hh hn, scan_minus hh hn, numP_dec (-1) m q (by omega) (by omega), scan_dec (-1) m q (by omega) (by omega)]
        simp
    · split
      · rename_i hk; subst hk
        obtain ⟨h1, h2, rfl⟩ := ok_word h
        have h4 : n = 0 ∨ n = 1 ∨ n = 2 ∨ n = 3 := by omega
        rcases h4 with rfl | rfl | rfl | rfl <;> decide
      · obtain ⟨h1, h2, rfl⟩ := ok_dev h (by omega)
        obtain ⟨h3, h4⟩ := ok_kind h (by omega)
        have hz := sizeZ_bd k
        obtain ⟨m, rfl⟩ : ∃ m : Nat, n = m := ⟨n.toNat, by omega⟩
        have hm : m ≤ 64 := by omega
        rw [Lib.itoa_nonneg]
        have hd := numP_int 1 m (by omega)
        have hdz : digitsZ (Lib.decDigits m) = m := by
          have := dd_len 8 m (by omega)
          have := dd_pos m
          rw [digitsZ, if_pos ⟨by omega, by omega, dd_all m⟩, dval_dd]
        have hK : k = 1 ∨ k = 2 ∨ k = 3 ∨ k = 4 ∨ k = 5 ∨ k = 6 ∨ k = 7 ∨ k = 8 ∨ k = 9 ∨ k = 10 := by omega
        have key : ∀ (c : UInt8) (k : Int), letK (c :: Lib.decDigits m) = k → k ≠ 0 → k ≠ 12 → c ≠ 110 → c ≠ 105 → c ≠ 45 → guessP (c :: Lib.decDigits m) = (k, (m : Int), (0 : Int)) ∧ scanP (c :: Lib.decDigits m) = (k, (m : Int), (0 : Int)) := by
          intro c k hk h0 h12 a b e
          have w0 : c :: Lib.decDigits m ≠ wordL 0 := by rw [show wordL 0 = [110, 97, 110] by decide]; simp [a]
          have w1 : c :: Lib.decDigits m ≠ wordL 1 := by rw [show wordL 1 = [105, 110, 102] by decide]; simp [b]
          have w2 : c :: Lib.decDigits m ≠ wordL 2 := by rw [show wordL 2 = [45, 105, 110, 102] by decide]; simp [e]
          have w3 : c :: Lib.decDigits m ≠ wordL 3 := by rw [show wordL 3 = [45, 48, 46, 48] by decide]; simp [e]
          unfold guessP scanP
          rw [if_neg w0, if_neg w1, if_neg w2, if_neg w3, hk, if_pos h0, if_neg w0, if_neg w1, if_neg w2, if_neg w3, if_pos h0]
          simp only [List.drop_succ_cons, List.drop_zero]
          rw [hdz, scan_int k 1 m (by omega) h12]
          simp
        rcases hK with rfl | rfl | rfl | rfl | rfl | rfl | rfl | rfl | rfl | rfl
        · exact key 88 1 (by simp [letK]) (by decide) (by decide) (by decide) (by decide) (by decide)
        · exact key 89 2 (by simp [letK]) (by decide) (by decide) (by decide) (by decide) (by decide)
        · exact key 77 3 (by simp [letK]) (by decide) (by decide) (by decide) (by decide) (by decide)
        · exact key 83 4 (by simp [letK]) (by decide) (by decide) (by decide) (by decide) (by decide)
        · exact key 69 5 (by simp [letK]) (by decide) (by decide) (by decide) (by decide) (by decide)
        · exact key 71 6 (by simp [letK]) (by decide) (by decide) (by decide) (by decide) (by decide)
        · exact key 84 7 (by simp [letK]) (by decide) (by decide) (by decide) (by decide) (by decide)
        · exact key 67 8 (by simp [letK]) (by decide) (by decide) (by decide) (by decide) (by decide)
        · exact key 68 9 (by simp [letK]) (by decide) (by decide) (by decide) (by decide) (by decide)
        · exact key 82 10 (by simp [letK]) (by decide) (by decide) (by decide) (by decide) (by decide)

/-- A text that one reader's operand writes is read so by both. -/
theorem read_same {l : List UInt8} {k n p : Int} (h : okB k n p = true) (e : textL k n p = l) : guessP l = (k, n, p) ∧ scanP l = (k, n, p) := by
  subst e; exact read_both h

end Go.Proofs.YtdhoimjkgicneacGreatDoor
