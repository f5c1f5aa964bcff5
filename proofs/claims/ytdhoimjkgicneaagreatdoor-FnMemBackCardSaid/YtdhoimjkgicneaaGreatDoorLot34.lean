/- Texts of this proof laid together: MemC2, MemF, MrX. -/
import Derived.Test.YtdhoimjkgicneaaGreatDoorLot14
import Derived.Test.YtdhoimjkgicneaaGreatDoorLot17
import Derived.Test.YtdhoimjkgicneaaGreatDoorLot33
import Derived.Test.YtdhoimjkgicneaaGreatDoorLot26
/- The specification's word with a bit put. -/
namespace Go.Proofs.YtdhoimjkgicneaaGreatDoor
open Go Go.RowKit

set_option maxHeartbeats 800000 in
theorem spec_turned (x k : Nat) (b : Bool) (w : World) (hx : x < 18446744073709551616) (hk : k ≤ 63) :
    Calls Tryz.prog 58 #[.int .u64 x, .int .i64 k, .bool b] w fun e w' => e = .returned (.int .u64 (turnN x k b)) ∧ w' = w := by
  obtain ⟨q, hq⟩ : ∃ q, q = (x / 2 ^ k % 2 == 1) := ⟨_, rfl⟩
  have HQ : Hid (q = (x / 2 ^ k % 2 == 1)) := hq
  clear hq
  go_enter Tryz.func58, Tryz.ntmps58
  go_wp2_with fail
  refine (spec_bit x k w hx hk).mono ?_
  rintro e w1 ⟨rfl, rfl⟩
  rw [← HQ.out]
  by_cases hb : q = b
  · have e : turnN x k b = x := by unfold turnN; rw [← HQ.out, if_pos hb]
    subst hb
    go_wp2_with fail
    go_ret
    exact ⟨ret_int (by rw [e]), rfl⟩
  · have hb2 : (q == b) = false := by simpa using hb
    go_wp2_with fail
    go_loop [7, 8] (fun u i => ∃ j p : Nat, j ≤ k ∧ i = .int .i64 j ∧ u = .int .u64 p ∧ p = 2 ^ j ∧ p ≤ 9223372036854775808) (fun _ i => k - (intOf i).toNat)
    case atStart => exact ⟨0, 1, by omega, rfl, rfl, rfl, by omega⟩
    case round =>
      obtain ⟨j, p, hj, rfl, rfl, hp, hp9⟩ := hrel
      have HP : Hid (p = 2 ^ j) := hp
      clear hp
      by_cases hlt : j < k
      · have hp2 : p * 2 ≤ 9223372036854775808 := by
          rw [HP.out, ← Nat.pow_succ, show (9223372036854775808 : Nat) = 2 ^ 63 from by decide +kernel]
          exact Nat.pow_le_pow_right (by omega) (by omega)
        go_wp2
        go_round
        case rel => exact ⟨j + 1, p * 2, by omega, by go_num, by go_num, by rw [HP.out, Nat.pow_succ], by omega⟩
        case measure => simp [intOf]; omega
      · have e : j = k := by omega
        subst e
        cases b with
        | true =>
          have hq : q = false := by cases q <;> simp_all
          have hlt2 : x + p < 18446744073709551616 := by
            rw [HP.out]
            refine turn_lt hx hk ?_
            have := HQ.out
            rw [hq] at this
            simpa using this.symm
          have e : turnN x j true = x + p := by
            unfold turnN
            rw [← HQ.out, hq, if_neg (by decide), if_pos rfl, HP.out]
          clear hb hb2
          go_wp2_with fail
          go_ret
          exact ⟨ret_int (by omega), rfl⟩
        | false =>
          have hq : q = true := by cases q <;> simp_all
          have hle : p ≤ x := by
            rw [HP.out]
            refine turn_le ?_
            have := HQ.out
            rw [hq] at this
            simpa using this.symm
          have e : turnN x j false = x - p := by
            unfold turnN
            rw [← HQ.out, hq, if_neg (by decide), if_neg (by decide), HP.out]
          clear hb hb2
          go_wp2_with fail
          go_ret
          exact ⟨ret_int (by omega), rfl⟩

end Go.Proofs.YtdhoimjkgicneaaGreatDoor

/- The specification's MemPut. -/
namespace Go.Proofs.YtdhoimjkgicneaaGreatDoor
open Go Go.RowKit

set_option maxRecDepth 100000 in
set_option maxHeartbeats 4000000 in
theorem spec_memput2 (v : MemV) (n p : Int) (b : Bool) (w : World) (hv : v.Ok) :
    Calls Tryz.prog 59 #[.agg v.row, .agg #[.int .i64 2, .int .i64 n, .int .i64 p], .bool b] w fun e w' => e = .returned (.agg (putV v 2 n b).row) ∧ Below w.heap.size w w' := by
  obtain ⟨j, hj, hz, hc⟩ := at_nat 2 n p
  have e : putV v 2 n b = { v with y := turnN v.y j b } := by unfold putV; rw [hj]; rfl
  have h16 := atZ_lt (k := 2) (n := n) (s := 32) rfl (by omega)
  rw [hj] at h16
  rw [e]
  clear e hj
  have hx := hv.y
  have ht : turnN v.y j b < 4294967296 := turn_small (s := 32) hx (by omega) b
  obtain ⟨t, et⟩ : ∃ t, t = turnN v.y j b := ⟨_, rfl⟩
  rw [← et] at ht ⊢
  have hT : ∀ w, Calls Tryz.prog 58 #[.int .u64 v.y, .int .i64 j, .bool b] w fun e w' => e = .returned (.int .u64 t) ∧ w' = w := fun w => et ▸ spec_turned v.y j b w (by omega) hz
  clear et
  obtain ⟨v', ev⟩ : ∃ v' : MemV, v' = { v with y := t } := ⟨_, rfl⟩
  have hu : v'.cell 1 = .int .u32 t := by rw [ev]; rfl
  have ho : ∀ i, i < 136 → i ≠ 1 → v'.cell i = v.cell i := by
    intro i _ hi
    rw [ev]
    unfold MemV.cell
    simp only [if_neg hi]
  rw [← ev]
  clear ev
  go_enter Tryz.func59, Tryz.ntmps59
  go_wp2_with fail
  refine (hc _).mono ?_
  rintro e w1 ⟨rfl, hB⟩
  obtain ⟨hA, hR, hC, hB⟩ := three_boxes v w w1 _ _ _ _ hB
  have c0 := hA.c 1 (by omega)
  rw [MemV.cell_y] at c0
  have f0 := hA.f 1 (by omega)
  have d0 := hC 0 _ rfl
  go_wp2_with fail
  refine (hT _).mono ?_
  rintro e w2 ⟨rfl, rfl⟩
  have hA2 := hA.put (by omega) hu ho
  have hB2 := hB.setCell (p := ⟨w.heap.size, 1, none⟩) (Nat.le_refl _) (.int .u32 t)
  have hR2 : MemAt (w.heap.size + 1 + 1) mem0 (w2.setCell ⟨w.heap.size, 1, none⟩ (.int .u32 t)) := hR.of_block (Below.heap_setCell _ _ _ _ (by simp; omega)) (by simpa [World.setCell] using hR.z)
  have hR3 := hR2.stored v'
  have hB3 := setCells_below v'.row.toList (w.heap.size + 1 + 1) 0 hB2 (by omega)
  go_wp2_with (first | refine list_load (t := 37) rfl rfl rfl (load_mem hA2) ?_ | refine list_store (t := 37) rfl rfl rfl rfl (store_mem v' hR2) ?_)
  exact ret_mem (c := 6) rfl rfl rfl hR3 ⟨rfl, hB3⟩

set_option maxRecDepth 100000 in
set_option maxHeartbeats 4000000 in
theorem spec_memput3 (v : MemV) (n p : Int) (b : Bool) (w : World) (hv : v.Ok) :
    Calls Tryz.prog 59 #[.agg v.row, .agg #[.int .i64 3, .int .i64 n, .int .i64 p], .bool b] w fun e w' => e = .returned (.agg (putV v 3 n b).row) ∧ Below w.heap.size w w' := by
  obtain ⟨j, hj, hz, hc⟩ := at_nat 3 n p
  have e : putV v 3 n b = { v with m := turnN v.m j b } := by unfold putV; rw [hj]; rfl
  have h16 := atZ_lt (k := 3) (n := n) (s := 64) rfl (by omega)
  rw [hj] at h16
  rw [e]
  clear e hj
  have hx := hv.m
  have ht : turnN v.m j b < 18446744073709551616 := turn_small (s := 64) hx (by omega) b
  obtain ⟨t, et⟩ : ∃ t, t = turnN v.m j b := ⟨_, rfl⟩
  rw [← et] at ht ⊢
  have hT : ∀ w, Calls Tryz.prog 58 #[.int .u64 v.m, .int .i64 j, .bool b] w fun e w' => e = .returned (.int .u64 t) ∧ w' = w := fun w => et ▸ spec_turned v.m j b w (by omega) hz
  clear et
  obtain ⟨v', ev⟩ : ∃ v' : MemV, v' = { v with m := t } := ⟨_, rfl⟩
  have hu : v'.cell 2 = .int .u64 t := by rw [ev]; rfl
  have ho : ∀ i, i < 136 → i ≠ 2 → v'.cell i = v.cell i := by
    intro i _ hi
    rw [ev]
    unfold MemV.cell
    simp only [if_neg hi]
  rw [← ev]
  clear ev
  go_enter Tryz.func59, Tryz.ntmps59
  go_wp2_with fail
  refine (hc _).mono ?_
  rintro e w1 ⟨rfl, hB⟩
  obtain ⟨hA, hR, hC, hB⟩ := three_boxes v w w1 _ _ _ _ hB
  have c0 := hA.c 2 (by omega)
  rw [MemV.cell_m] at c0
  have f0 := hA.f 2 (by omega)
  have d0 := hC 0 _ rfl
  go_wp2_with fail
  refine (hT _).mono ?_
  rintro e w2 ⟨rfl, rfl⟩
  have hA2 := hA.put (by omega) hu ho
  have hB2 := hB.setCell (p := ⟨w.heap.size, 2, none⟩) (Nat.le_refl _) (.int .u64 t)
  have hR2 : MemAt (w.heap.size + 1 + 1) mem0 (w2.setCell ⟨w.heap.size, 2, none⟩ (.int .u64 t)) := hR.of_block (Below.heap_setCell _ _ _ _ (by simp; omega)) (by simpa [World.setCell] using hR.z)
  have hR3 := hR2.stored v'
  have hB3 := setCells_below v'.row.toList (w.heap.size + 1 + 1) 0 hB2 (by omega)
  go_wp2_with (first | refine list_load (t := 37) rfl rfl rfl (load_mem hA2) ?_ | refine list_store (t := 37) rfl rfl rfl rfl (store_mem v' hR2) ?_)
  exact ret_mem (c := 6) rfl rfl rfl hR3 ⟨rfl, hB3⟩

set_option maxRecDepth 100000 in
set_option maxHeartbeats 4000000 in
theorem spec_memput4 (v : MemV) (n p : Int) (b : Bool) (w : World) (hv : v.Ok) :
    Calls Tryz.prog 59 #[.agg v.row, .agg #[.int .i64 4, .int .i64 n, .int .i64 p], .bool b] w fun e w' => e = .returned (.agg (putV v 4 n b).row) ∧ Below w.heap.size w w' := by
  obtain ⟨j, hj, hz, hc⟩ := at_nat 4 n p
  have e : putV v 4 n b = { v with s := turnN v.s j b } := by unfold putV; rw [hj]; rfl
  have h16 := atZ_lt (k := 4) (n := n) (s := 16) rfl (by omega)
  rw [hj] at h16
  rw [e]
  clear e hj
  have hx := hv.s
  have ht : turnN v.s j b < 65536 := turn_small (s := 16) hx (by omega) b
  obtain ⟨t, et⟩ : ∃ t, t = turnN v.s j b := ⟨_, rfl⟩
  rw [← et] at ht ⊢
  have hT : ∀ w, Calls Tryz.prog 58 #[.int .u64 v.s, .int .i64 j, .bool b] w fun e w' => e = .returned (.int .u64 t) ∧ w' = w := fun w => et ▸ spec_turned v.s j b w (by omega) hz
  clear et
  obtain ⟨v', ev⟩ : ∃ v' : MemV, v' = { v with s := t } := ⟨_, rfl⟩
  have hu : v'.cell 3 = .int .u16 t := by rw [ev]; rfl
  have ho : ∀ i, i < 136 → i ≠ 3 → v'.cell i = v.cell i := by
    intro i _ hi
    rw [ev]
    unfold MemV.cell
    simp only [if_neg hi]
  rw [← ev]
  clear ev
  go_enter Tryz.func59, Tryz.ntmps59
  go_wp2_with fail
  refine (hc _).mono ?_
  rintro e w1 ⟨rfl, hB⟩
  obtain ⟨hA, hR, hC, hB⟩ := three_boxes v w w1 _ _ _ _ hB
  have c0 := hA.c 3 (by omega)
  rw [MemV.cell_s] at c0
  have f0 := hA.f 3 (by omega)
  have d0 := hC 0 _ rfl
  go_wp2_with fail
  refine (hT _).mono ?_
  rintro e w2 ⟨rfl, rfl⟩
  have hA2 := hA.put (by omega) hu ho
  have hB2 := hB.setCell (p := ⟨w.heap.size, 3, none⟩) (Nat.le_refl _) (.int .u16 t)
  have hR2 : MemAt (w.heap.size + 1 + 1) mem0 (w2.setCell ⟨w.heap.size, 3, none⟩ (.int .u16 t)) := hR.of_block (Below.heap_setCell _ _ _ _ (by simp; omega)) (by simpa [World.setCell] using hR.z)
  have hR3 := hR2.stored v'
  have hB3 := setCells_below v'.row.toList (w.heap.size + 1 + 1) 0 hB2 (by omega)
  go_wp2_with (first | refine list_load (t := 37) rfl rfl rfl (load_mem hA2) ?_ | refine list_store (t := 37) rfl rfl rfl rfl (store_mem v' hR2) ?_)
  exact ret_mem (c := 6) rfl rfl rfl hR3 ⟨rfl, hB3⟩

set_option maxRecDepth 100000 in
set_option maxHeartbeats 4000000 in
theorem spec_memput5 (v : MemV) (n p : Int) (b : Bool) (w : World) (hv : v.Ok) :
    Calls Tryz.prog 59 #[.agg v.row, .agg #[.int .i64 5, .int .i64 n, .int .i64 p], .bool b] w fun e w' => e = .returned (.agg (putV v 5 n b).row) ∧ Below w.heap.size w w' := by
  obtain ⟨j, hj, hz, hc⟩ := at_nat 5 n p
  have e : putV v 5 n b = { v with e := turnN v.e j b } := by unfold putV; rw [hj]; rfl
  have h16 := atZ_lt (k := 5) (n := n) (s := 32) rfl (by omega)
  rw [hj] at h16
  rw [e]
  clear e hj
  have hx := hv.e
  have ht : turnN v.e j b < 4294967296 := turn_small (s := 32) hx (by omega) b
  obtain ⟨t, et⟩ : ∃ t, t = turnN v.e j b := ⟨_, rfl⟩
  rw [← et] at ht ⊢
  have hT : ∀ w, Calls Tryz.prog 58 #[.int .u64 v.e, .int .i64 j, .bool b] w fun e w' => e = .returned (.int .u64 t) ∧ w' = w := fun w => et ▸ spec_turned v.e j b w (by omega) hz
  clear et
  obtain ⟨v', ev⟩ : ∃ v' : MemV, v' = { v with e := t } := ⟨_, rfl⟩
  have hu : v'.cell 4 = .int .u32 t := by rw [ev]; rfl
  have ho : ∀ i, i < 136 → i ≠ 4 → v'.cell i = v.cell i := by
    intro i _ hi
    rw [ev]
    unfold MemV.cell
    simp only [if_neg hi]
  rw [← ev]
  clear ev
  go_enter Tryz.func59, Tryz.ntmps59
  go_wp2_with fail
  refine (hc _).mono ?_
  rintro e w1 ⟨rfl, hB⟩
  obtain ⟨hA, hR, hC, hB⟩ := three_boxes v w w1 _ _ _ _ hB
  have c0 := hA.c 4 (by omega)
  rw [MemV.cell_e] at c0
  have f0 := hA.f 4 (by omega)
  have d0 := hC 0 _ rfl
  go_wp2_with fail
  refine (hT _).mono ?_
  rintro e w2 ⟨rfl, rfl⟩
  have hA2 := hA.put (by omega) hu ho
  have hB2 := hB.setCell (p := ⟨w.heap.size, 4, none⟩) (Nat.le_refl _) (.int .u32 t)
  have hR2 : MemAt (w.heap.size + 1 + 1) mem0 (w2.setCell ⟨w.heap.size, 4, none⟩ (.int .u32 t)) := hR.of_block (Below.heap_setCell _ _ _ _ (by simp; omega)) (by simpa [World.setCell] using hR.z)
  have hR3 := hR2.stored v'
  have hB3 := setCells_below v'.row.toList (w.heap.size + 1 + 1) 0 hB2 (by omega)
  go_wp2_with (first | refine list_load (t := 37) rfl rfl rfl (load_mem hA2) ?_ | refine list_store (t := 37) rfl rfl rfl rfl (store_mem v' hR2) ?_)
  exact ret_mem (c := 6) rfl rfl rfl hR3 ⟨rfl, hB3⟩

set_option maxRecDepth 100000 in
set_option maxHeartbeats 4000000 in
theorem spec_memput0 (v : MemV) (k n p : Int) (b : Bool) (w : World) (h : k < 2 ∨ 5 < k) :
    Calls Tryz.prog 59 #[.agg v.row, .agg #[.int .i64 k, .int .i64 n, .int .i64 p], .bool b] w fun e w' => e = .returned (.agg (putV v k n b).row) ∧ Below w.heap.size w w' := by
  obtain ⟨j, hj, hz, hc⟩ := at_nat k n p
  have e : putV v k n b = v := by
    unfold putV
    rw [if_neg (by omega), if_neg (by omega), if_neg (by omega), if_neg (by omega)]
  rw [e]
  clear e hj
  go_enter Tryz.func59, Tryz.ntmps59
  go_wp2_with fail
  refine (hc _).mono ?_
  rintro e w1 ⟨rfl, hB⟩
  obtain ⟨hA, hR, hC, hB⟩ := three_boxes v w w1 _ _ _ _ hB
  have d0 := hC 0 _ rfl
  have hR3 := hR.stored v
  have hB3 := setCells_below v.row.toList (w.heap.size + 1 + 1) 0 hB (by omega)
  go_wp2_with (first | refine list_load (t := 37) rfl rfl rfl (load_mem hA) ?_ | refine list_store (t := 37) rfl rfl rfl rfl (store_mem v hR) ?_)
  exact ret_mem (c := 6) rfl rfl rfl hR3 ⟨rfl, hB3⟩

theorem spec_memput (v : MemV) (k n p : Int) (b : Bool) (w : World) (hv : v.Ok) :
    Calls Tryz.prog 59 #[.agg v.row, .agg #[.int .i64 k, .int .i64 n, .int .i64 p], .bool b] w fun e w' => e = .returned (.agg (putV v k n b).row) ∧ Below w.heap.size w w' := by
  by_cases h : k < 2 ∨ 5 < k
  · exact spec_memput0 v k n p b w h
  have : k = 2 ∨ k = 3 ∨ k = 4 ∨ k = 5 := by omega
  rcases this with rfl | rfl | rfl | rfl
  · exact spec_memput2 v n p b w hv
  · exact spec_memput3 v n p b w hv
  · exact spec_memput4 v n p b w hv
  · exact spec_memput5 v n p b w hv

end Go.Proofs.YtdhoimjkgicneaaGreatDoor

/- The specification's l3Word: what one word of a text makes of a memory. -/
namespace Go.Proofs.YtdhoimjkgicneaaGreatDoor
open Go Go.RowKit
attribute [local go_sem] zMemK

theorem time_no {k n p : Int} (h : okB k n p = true) : textL k n p ≠ timeL := by
  intro e
  have := (read_same h e).2
  rw [show scanP timeL = (0, 0, 0) by decide] at this
  simp only [Prod.mk.injEq] at this
  obtain ⟨rfl, rfl, rfl⟩ := this
  revert h
  decide

theorem ran_no {k n p : Int} (h : okB k n p = true) : textL k n p ≠ ranL := by
  intro e
  have := (read_same h e).2
  rw [show scanP ranL = (0, 0, 0) by decide] at this
  simp only [Prod.mk.injEq] at this
  obtain ⟨rfl, rfl, rfl⟩ := this
  revert h
  decide
theorem fault_no {k n p : Int} (h : okB k n p = true) : textL k n p ≠ faultL := by
  intro e
  have := (read_same h e).2
  rw [show scanP faultL = (0, 0, 0) by decide] at this
  simp only [Prod.mk.injEq] at this
  obtain ⟨rfl, rfl, rfl⟩ := this
  revert h
  decide

theorem ext_ahead {s : ByteArray} {a r : List UInt8} (e : s.data.toList = a ++ 61 :: r) : (s.extract 0 a.length).data.toList = a := by
  rw [Lib.extract_from_zero, e]
  simp
theorem ext_behind {s : ByteArray} {a r : List UInt8} (e : s.data.toList = a ++ 61 :: r) : (s.extract (a.length + 1) s.size).data.toList = r := by
  have hl : s.data.toList.length = s.size := by rw [Array.length_toList]; rfl
  have h : s = ⟨(a ++ 61 :: r).toArray⟩ := by
    apply ByteArray.ext
    apply Array.toList_inj.1
    simpa using e
  have h2 : s.extract (a.length + 1) s.size = ⟨r.toArray⟩ := by
    have hs : s.size = (a ++ 61 :: r).length := by rw [← hl, e]
    rw [hs, h, ext_take, List.take_length]
    simp [List.drop_append]
  rw [h2]

theorem scans_skip {m : MemV} {l nm va : List UInt8} (hm : m.Ok) (hnv : NV l nm va) (h1 : nm = timeL → ∀ c, va ≠ Lib.decDigits c) (h2 : l ≠ ranL) (h3 : l ≠ faultL) (hn : ∀ k n p : Int, okB k n p = true → textL k n p ≠ nm) : Scans m l m := by
  refine scans_of hm hnv (fun _ => rfl) (fun g c _ e => absurd e (h1 g c)) (fun g => absurd g h2) (fun g => absurd g h3) (fun k n _ _ _ h3 h4 _ => ?_) (fun n c d _ _ h3 h4 _ => ?_) (fun n c d e _ _ h3 h4 _ => ?_) (fun n z _ _ _ h3 h4 _ => ?_) (fun n x _ _ h3 h4 => ?_)
  all_goals exact absurd h4 (hn _ _ _ h3)

theorem dd_ne (c : Nat) : [] ≠ Lib.decDigits c := by
  obtain ⟨x, xs, e, -⟩ := dd_first (c := c)
  rw [e]
  simp

theorem op_loadX {o : Oper} {a : Act} {w : World} {K : Act → World → Prop} {Q : Exit → Act → World → Prop} {t : TypeId} {p : Operand} {v : Value} (ho : o.op = .load t p)
    (h : (Instr.loadAt t (a.eval p)).run Tryz.prog w = .ok v w) (hK : K (a.put o.dst v) w) : o.wp Tryz.prog a w K Q := by
  have e : (execOp a.eval o).run Tryz.prog w = .ok (.value v) w := by
    simp only [execOp, ho, Sem.run_bind, h, Result.andThen, Sem.run_pure]
  unfold Oper.wp
  rw [e]
  exact hK

theorem atZ32 (j : Nat) (hj : (j : Int) < 32) : (atZ 1 (j : Int)).toNat = j := by
  show ((j : Int) % 32).toNat = j
  omega
theorem cnt_ne (c : Nat) (d e : Bool) : [] ≠ countL c d e := by
  obtain ⟨x, xs, h, -⟩ := dd_first (c := c)
  unfold countL
  rw [h]
  simp
theorem itoa_ne (z : Int) : [] ≠ Lib.itoa z := by
  have := itoa_pos z
  intro h
  rw [← h] at this
  simp at this

set_option maxRecDepth 100000 in
set_option maxHeartbeats 8000000 in
theorem spec_word (m : MemV) (s : ByteArray) (w : World) (hm : m.Ok) (hs : s.size ≤ 6000) :
    Calls Tryz.prog 24 #[.agg m.row, .string s] w fun e w' => ∃ m' : MemV, e = .returned (.agg m'.row) ∧ Scans m s.data.toList m' ∧ Below w.heap.size w w' := by
  have hl : s.data.toList.length = s.size := by rw [Array.length_toList]; rfl
  have H : Hid (Scn m w _) := scn_open m w 37 37
  go_enter Tryz.func24, Tryz.ntmps24
  go_upto_region 1 with fail
  generalize (w.alloc (.cells m.row 37)).alloc (.cells mem0.row 37) = w1 at H ⊢
  go_wp2_with fail
  refine (find_eq s w1 hs).mono ?_
  rintro e w2 ⟨i, rfl, rfl, hi⟩
  have HI : Hid ((i = -1 ∧ (61 : UInt8) ∉ s.data.toList) ∨ ∃ a r, s.data.toList = a ++ 61 :: r ∧ (61 : UInt8) ∉ a ∧ i = a.length) := hi
  clear hi
  by_cases e0 : s.data.toList = ranL
  · have q0 : (s.toList == [114, 97, 110]) = true := by rw [ByteArray.toList_eq, e0]; decide
    have hu : fitC 134 (.bool true) := fit_b (by omega) true
    have H3 : Hid (Scn (m.upd 134 (.bool true)) w _) := H.out.upd (by omega) hu
    have hok : Hid ((m.upd 134 (.bool true)).Ok ∧ m.upd 134 (.bool true) = { m with ran := true }) := ⟨upd_ok hm (by omega) hu, upd_ran m true⟩
    have c0 := H.out.M.c 134 (by omega)
    have f0 := H.out.M.f 134 (by omega)
    have hnv : NV s.data.toList s.data.toList [] := Or.inl ⟨by rw [e0]; decide, rfl, rfl⟩
    have HS : Hid (Scans m s.data.toList (m.upd 134 (.bool true))) := scans_ran hnv e0 hok.out.1 fun _ => hok.out.2
    clear hu e0 hnv hok
    go_upto_region 19 with fail
    generalize (w2.setCell ⟨w.heap.size, 134, none⟩ (.bool true)) = w3 at H3 ⊢
    generalize m.upd 134 (.bool true) = m3 at H3 HS
    clear c0 f0
    have L := load_mem H3.out.M
    have S := store_mem m3 H3.out.Z
    go_wp2_with (first | refine list_load (t := 37) rfl rfl rfl L ?_ | refine list_store (t := 37) rfl rfl rfl rfl S ?_)
    exact ret_mem (c := 4) rfl rfl rfl (H3.out.fin m3).1 ⟨m3, rfl, HS.out, (H3.out.fin m3).2⟩
  have q0 : (s.toList == [114, 97, 110]) = false := by rw [ByteArray.toList_eq]; simpa [ranL] using e0
  have E1 : Hid (s.data.toList ≠ ranL) := e0
  clear e0
  by_cases e0 : s.data.toList = faultL
  · have q1 : (s.toList == [102, 97, 117, 108, 116]) = true := by rw [ByteArray.toList_eq, e0]; decide
    have hu : fitC 135 (.bool true) := fit_b (by omega) true
    have H3 : Hid (Scn (m.upd 135 (.bool true)) w _) := H.out.upd (by omega) hu
    have hok : Hid ((m.upd 135 (.bool true)).Ok ∧ m.upd 135 (.bool true) = { m with fault := true }) := ⟨upd_ok hm (by omega) hu, upd_fault m true⟩
    have c0 := H.out.M.c 135 (by omega)
    have f0 := H.out.M.f 135 (by omega)
    have hnv : NV s.data.toList s.data.toList [] := Or.inl ⟨by rw [e0]; decide, rfl, rfl⟩
    have HS : Hid (Scans m s.data.toList (m.upd 135 (.bool true))) := scans_fault hnv e0 hok.out.1 fun _ => hok.out.2
    clear hu e0 hnv hok
    go_upto_region 19 with fail
    generalize (w2.setCell ⟨w.heap.size, 135, none⟩ (.bool true)) = w3 at H3 ⊢
    generalize m.upd 135 (.bool true) = m3 at H3 HS
    clear c0 f0
    have L := load_mem H3.out.M
    have S := store_mem m3 H3.out.Z
    go_wp2_with (first | refine list_load (t := 37) rfl rfl rfl L ?_ | refine list_store (t := 37) rfl rfl rfl rfl S ?_)
    exact ret_mem (c := 4) rfl rfl rfl (H3.out.fin m3).1 ⟨m3, rfl, HS.out, (H3.out.fin m3).2⟩
  have q1 : (s.toList == [102, 97, 117, 108, 116]) = false := by rw [ByteArray.toList_eq]; simpa [faultL] using e0
  have E2 : Hid (s.data.toList ≠ faultL) := e0
  clear e0
  rcases HI.out with ⟨rfl, h61⟩ | ⟨a, r, hla, h61, rfl⟩
  · have hnv : NV s.data.toList s.data.toList [] := Or.inl ⟨h61, rfl, rfl⟩
    go_wp2_with fail
    refine (spec_read s w2 hs).mono ?_
    rintro e w3 ⟨hrd, hb⟩
    have H : Hid (Scn m w w3) := H.out.call hb
    obtain ⟨k, n, p, ob, rfl, hd⟩ := reads_cases hrd
    have HD : Hid ((ob = true ∧ okB k n p = true ∧ textL k n p = s.data.toList) ∨ (ob = false ∧ k = 0 ∧ n = 0 ∧ p = 0 ∧ ∀ k n p : Int, okB k n p = true → textL k n p ≠ s.data.toList)) := hd
    clear hb hrd hd
    obtain ⟨A0, D0⟩ := scd_open H.out k n p 66
    have L1 := A0.store (x' := .int .i64 k) (y' := .int .i64 n) (z' := .int .i64 p) rfl rfl rfl
    have H : Hid (Scd m k n p w3.heap.size w _) := D0
    clear A0 D0
    go_upto_region 3 with (refine list_store (t := 66) (x := .pointer (some ⟨w3.heap.size, 0, none⟩)) (u := .agg #[.int .i64 k, .int .i64 n, .int .i64 p]) rfl rfl rfl rfl L1 ?_; simp only [Act.put])
    generalize (w3.alloc (.cells #[.int .i64 0, .int .i64 0, .int .i64 0] 66)).setCells w3.heap.size 0 [.int .i64 k, .int .i64 n, .int .i64 p] = w4 at H L1 ⊢
    clear L1
    generalize w3.heap.size = q at H ⊢
    cases ob with
    | false =>
      have HS : Hid (Scans m s.data.toList m) := by
        show Scans m s.data.toList m
        rcases HD.out with ⟨h, -⟩ | ⟨-, -, -, -, hn⟩
        · cases h
        · exact scans_skip hm hnv (fun _ c => dd_ne c) E1.out E2.out hn
      have H : Hid (Scn m w w4) := H.out.S
      have L := load_mem H.out.M
      have S := store_mem m H.out.Z
      go_wp2_with (first | refine list_load (t := 37) rfl rfl rfl L ?_ | refine list_store (t := 37) rfl rfl rfl rfl S ?_)
      exact ret_mem (c := 4) rfl rfl rfl (H.out.fin m).1 ⟨m, rfl, HS.out, (H.out.fin m).2⟩
    | true =>
      have HO : Hid (okB k n p = true ∧ textL k n p = s.data.toList) := by
        show okB k n p = true ∧ textL k n p = s.data.toList
        rcases HD.out with ⟨-, a, b⟩ | ⟨h, -⟩
        · exact ⟨a, b⟩
        · cases h
      clear HD
      have g0 := H.out.A.c0
      by_cases h1 : k = 1
      · subst h1
        have g1 := H.out.A.c1
        obtain ⟨j, rfl, hj⟩ := ok_num (s := 32) HO.out.1 (by omega) rfl
        have c0 : w4.cell? ⟨w.heap.size, 0, none⟩ = some (.int .u32 (m.x : Int)) := H.out.S.M.c 0 (by omega)
        have f0 := H.out.S.M.f 0 (by omega)
        have hx := hm.x
        have hw1 : IntKind.u64.wrap (m.x : Int) = m.x := by simp [IntKind.wrap, IntKind.signed, IntKind.bits]; omega
        go_wp2_with fail
        refine (spec_turned m.x j true w4 (by omega) (by omega)).mono ?_
        rintro e w5 ⟨rfl, rfl⟩
        have ht : turnN m.x j true < 4294967296 := turn_small (s := 32) hx (by omega) true
        obtain ⟨t, et⟩ : ∃ t, t = turnN m.x j true := ⟨_, rfl⟩
        rw [← et] at ht ⊢
        have ET : Hid (t = turnN m.x j true) := et
        have hw2 : IntKind.u32.wrap (t : Int) = t := by simp [IntKind.wrap, IntKind.signed, IntKind.bits]; omega
        have hu : fitC 0 (.int .u32 (t : Int)) := by
          unfold fitC
          rw [if_pos (by omega)]
          exact ⟨t, ht, rfl⟩
        have H3 : Hid (Scn (m.upd 0 (.int .u32 (t : Int))) w _) := H.out.S.upd (by omega) hu
        have hok : (m.upd 0 (.int .u32 (t : Int))).Ok := upd_ok hm (by omega) hu
        have HS : Hid (Scans m s.data.toList (m.upd 0 (.int .u32 (t : Int)))) := by
          show Scans m s.data.toList (m.upd 0 (.int .u32 (t : Int)))
          rw [upd_x, ET.out]
          exact scans_dev hnv (by rw [← HO.out.2]; exact time_no HO.out.1) E1.out E2.out HO.out.1 HO.out.2 (by rw [← ET.out, ← upd_x]; exact hok) (fun _ _ _ => by rw [← pb_or HO.out.1 (by omega) (by omega)]; simp [pbV, atZ32 j hj]) (fun h => absurd h (by omega)) (fun h => absurd h (by omega)) (fun h => absurd h (by omega)) (fun h => absurd h (by omega))
        clear hu et hok
        go_upto_region 19 with fail
        generalize (w5.setCell ⟨w.heap.size, 0, none⟩ (.int .u32 (t : Int))) = w6 at H3 ⊢
        generalize m.upd 0 (.int .u32 (t : Int)) = m3 at H3 HS
        clear c0 f0 hw1 hw2 g0 g1
        have L := load_mem H3.out.M
        have S := store_mem m3 H3.out.Z
        go_wp2_with (first | refine list_load (t := 37) rfl rfl rfl L ?_ | refine list_store (t := 37) rfl rfl rfl rfl S ?_)
        exact ret_mem (c := 4) rfl rfl rfl (H3.out.fin m3).1 ⟨m3, rfl, HS.out, (H3.out.fin m3).2⟩
      · have h1' : (k == 1) = false := by simpa using h1
        have L := load_mem H.out.S.M
        have LA := H.out.A.load
        go_wp2_with (first | refine list_load (t := 37) rfl rfl rfl L ?_ | refine list_load (t := 66) rfl rfl rfl LA ?_)
        refine (spec_memput m k n p true w4 hm).mono ?_
        rintro e w5 ⟨rfl, hb⟩
        have H : Hid (Scd m k n p q w w5) := H.out.call hb
        have eb : putV m k n true = pbV m k n true := by unfold pbV; rw [if_neg h1]
        rw [eb]
        have HS : Hid (Scans m s.data.toList (pbV m k n true)) := by
          show Scans m s.data.toList (pbV m k n true)
          exact scans_dev hnv (by rw [← HO.out.2]; exact time_no HO.out.1) E1.out E2.out HO.out.1 HO.out.2 (pb_ok hm) (fun a b _ => pb_or HO.out.1 a b) (fun h c d _ e => absurd e (cnt_ne c d false)) (fun h c d e' _ e => absurd e (cnt_ne c d e')) (fun h z _ _ e => absurd e (itoa_ne z)) (fun h x hx => absurd rfl (txt_ne hx))
        generalize pbV m k n true = m3 at HS
        clear L LA hb eb g0
        have S := store_mem m3 H.out.S.M
        have M6 := H.out.S.M.stored m3
        have Z6 := H.out.S.Z.other (c := w.heap.size) (o := 0) (vs := m3.row.toList) (by omega)
        have B6 := setCells_below m3.row.toList w.heap.size 0 H.out.S.b (Nat.le_refl _)
        have H6 : Hid (Scn m3 w (w5.setCells w.heap.size 0 m3.row.toList)) := ⟨M6, Z6, B6⟩
        clear M6 Z6 B6
        go_upto_region 19 with (refine list_store (t := 37) (x := .pointer (some ⟨w.heap.size, 0, none⟩)) (u := .agg m3.row) rfl rfl rfl rfl S ?_; simp only [Act.put])
        clear S
        generalize (w5.setCells w.heap.size 0 m3.row.toList) = w6 at H6 ⊢
        have L := load_mem H6.out.M
        have S := store_mem m3 H6.out.Z
        go_wp2_with (first | refine list_load (t := 37) rfl rfl rfl L ?_ | refine list_store (t := 37) rfl rfl rfl rfl S ?_)
        exact ret_mem (c := 4) rfl rfl rfl (H6.out.fin m3).1 ⟨m3, rfl, HS.out, (H6.out.fin m3).2⟩
  have hnv : NV s.data.toList a r := Or.inr ⟨hla, h61⟩
  have HL : Hid (s.data.toList = a ++ 61 :: r) := hla
  have hal : a.length + 1 + r.length = s.size := by rw [← hl, hla]; simp; omega
  have HN : Hid (NV s.data.toList a r) := hnv
  clear HI h61 hla hnv
  by_cases ha0 : a = []
  · subst ha0
    have hnv := HN.out
    rw [List.length_nil]
    go_wp2_with fail
    refine (spec_read s w2 hs).mono ?_
    rintro e w3 ⟨hrd, hb⟩
    have H : Hid (Scn m w w3) := H.out.call hb
    obtain ⟨k, n, p, ob, rfl, hd⟩ := reads_cases hrd
    have HD : Hid ((ob = true ∧ okB k n p = true ∧ textL k n p = s.data.toList) ∨ (ob = false ∧ k = 0 ∧ n = 0 ∧ p = 0 ∧ ∀ k n p : Int, okB k n p = true → textL k n p ≠ s.data.toList)) := hd
    clear hb hrd hd
    obtain ⟨A0, D0⟩ := scd_open H.out k n p 66
    have L1 := A0.store (x' := .int .i64 k) (y' := .int .i64 n) (z' := .int .i64 p) rfl rfl rfl
    have H : Hid (Scd m k n p w3.heap.size w _) := D0
    clear A0 D0
    go_upto_region 3 with (refine list_store (t := 66) (x := .pointer (some ⟨w3.heap.size, 0, none⟩)) (u := .agg #[.int .i64 k, .int .i64 n, .int .i64 p]) rfl rfl rfl rfl L1 ?_; simp only [Act.put])
    generalize (w3.alloc (.cells #[.int .i64 0, .int .i64 0, .int .i64 0] 66)).setCells w3.heap.size 0 [.int .i64 k, .int .i64 n, .int .i64 p] = w4 at H L1 ⊢
    clear L1
    generalize w3.heap.size = q at H ⊢
    cases ob with
    | false =>
      have HS : Hid (Scans m s.data.toList m) := by
        show Scans m s.data.toList m
        rcases HD.out with ⟨h, -⟩ | ⟨-, -, -, -, hn⟩
        · cases h
        · exact scans_none hnv (by decide) (by decide) (by decide) (fun _ _ _ h => textL_ne h) hm (fun _ => rfl)
      have H : Hid (Scn m w w4) := H.out.S
      have L := load_mem H.out.M
      have S := store_mem m H.out.Z
      go_wp2_with (first | refine list_load (t := 37) rfl rfl rfl L ?_ | refine list_store (t := 37) rfl rfl rfl rfl S ?_)
      exact ret_mem (c := 4) rfl rfl rfl (H.out.fin m).1 ⟨m, rfl, HS.out, (H.out.fin m).2⟩
    | true =>
      have HO : Hid (okB k n p = true ∧ textL k n p = s.data.toList) := by
        show okB k n p = true ∧ textL k n p = s.data.toList
        rcases HD.out with ⟨-, a, b⟩ | ⟨h, -⟩
        · exact ⟨a, b⟩
        · cases h
      clear HD
      have g0 := H.out.A.c0
      by_cases h1 : k = 1
      · subst h1
        have g1 := H.out.A.c1
        obtain ⟨j, rfl, hj⟩ := ok_num (s := 32) HO.out.1 (by omega) rfl
        have c0 : w4.cell? ⟨w.heap.size, 0, none⟩ = some (.int .u32 (m.x : Int)) := H.out.S.M.c 0 (by omega)
        have f0 := H.out.S.M.f 0 (by omega)
        have hx := hm.x
        have hw1 : IntKind.u64.wrap (m.x : Int) = m.x := by simp [IntKind.wrap, IntKind.signed, IntKind.bits]; omega
        go_wp2_with fail
        refine (spec_turned m.x j true w4 (by omega) (by omega)).mono ?_
        rintro e w5 ⟨rfl, rfl⟩
        have ht : turnN m.x j true < 4294967296 := turn_small (s := 32) hx (by omega) true
        obtain ⟨t, et⟩ : ∃ t, t = turnN m.x j true := ⟨_, rfl⟩
        rw [← et] at ht ⊢
        have ET : Hid (t = turnN m.x j true) := et
        have hw2 : IntKind.u32.wrap (t : Int) = t := by simp [IntKind.wrap, IntKind.signed, IntKind.bits]; omega
        have hu : fitC 0 (.int .u32 (t : Int)) := by
          unfold fitC
          rw [if_pos (by omega)]
          exact ⟨t, ht, rfl⟩
        have H3 : Hid (Scn (m.upd 0 (.int .u32 (t : Int))) w _) := H.out.S.upd (by omega) hu
        have hok : (m.upd 0 (.int .u32 (t : Int))).Ok := upd_ok hm (by omega) hu
        have HS : Hid (Scans m s.data.toList (m.upd 0 (.int .u32 (t : Int)))) := by
          show Scans m s.data.toList (m.upd 0 (.int .u32 (t : Int)))
          exact scans_none hnv (by decide) (by decide) (by decide) (fun _ _ _ h => textL_ne h) hok (fun h => absurd h (fun g => by rw [HL.out] at g; cases g))
        clear hu et hok
        go_upto_region 19 with fail
        generalize (w5.setCell ⟨w.heap.size, 0, none⟩ (.int .u32 (t : Int))) = w6 at H3 ⊢
        generalize m.upd 0 (.int .u32 (t : Int)) = m3 at H3 HS
        clear c0 f0 hw1 hw2 g0 g1
        have L := load_mem H3.out.M
        have S := store_mem m3 H3.out.Z
        go_wp2_with (first | refine list_load (t := 37) rfl rfl rfl L ?_ | refine list_store (t := 37) rfl rfl rfl rfl S ?_)
        exact ret_mem (c := 4) rfl rfl rfl (H3.out.fin m3).1 ⟨m3, rfl, HS.out, (H3.out.fin m3).2⟩
      · have h1' : (k == 1) = false := by simpa using h1
        have L := load_mem H.out.S.M
        have LA := H.out.A.load
        go_wp2_with (first | refine list_load (t := 37) rfl rfl rfl L ?_ | refine list_load (t := 66) rfl rfl rfl LA ?_)
        refine (spec_memput m k n p true w4 hm).mono ?_
        rintro e w5 ⟨rfl, hb⟩
        have H : Hid (Scd m k n p q w w5) := H.out.call hb
        have eb : putV m k n true = pbV m k n true := by unfold pbV; rw [if_neg h1]
        rw [eb]
        have HS : Hid (Scans m s.data.toList (pbV m k n true)) := by
          show Scans m s.data.toList (pbV m k n true)
          exact scans_none hnv (by decide) (by decide) (by decide) (fun _ _ _ h => textL_ne h) (pb_ok hm) (fun h => absurd h (fun g => by rw [HL.out] at g; cases g))
        generalize pbV m k n true = m3 at HS
        clear L LA hb eb g0
        have S := store_mem m3 H.out.S.M
        have M6 := H.out.S.M.stored m3
        have Z6 := H.out.S.Z.other (c := w.heap.size) (o := 0) (vs := m3.row.toList) (by omega)
        have B6 := setCells_below m3.row.toList w.heap.size 0 H.out.S.b (Nat.le_refl _)
        have H6 : Hid (Scn m3 w (w5.setCells w.heap.size 0 m3.row.toList)) := ⟨M6, Z6, B6⟩
        clear M6 Z6 B6
        go_upto_region 19 with (refine list_store (t := 37) (x := .pointer (some ⟨w.heap.size, 0, none⟩)) (u := .agg m3.row) rfl rfl rfl rfl S ?_; simp only [Act.put])
        clear S
        generalize (w5.setCells w.heap.size 0 m3.row.toList) = w6 at H6 ⊢
        have L := load_mem H6.out.M
        have S := store_mem m3 H6.out.Z
        go_wp2_with (first | refine list_load (t := 37) rfl rfl rfl L ?_ | refine list_store (t := 37) rfl rfl rfl rfl S ?_)
        exact ret_mem (c := 4) rfl rfl rfl (H6.out.fin m3).1 ⟨m3, rfl, HS.out, (H6.out.fin m3).2⟩
  have hap : 0 < a.length := List.length_pos_iff.2 ha0
  have X1 := ext_ahead HL.out
  by_cases hat : a = timeL
  · subst hat
    have h4 : timeL.length = 4 := rfl
    have X3 := ext_behind HL.out
    rw [h4] at X1 X3 hal
    have X2 : ((s.extract 0 4).toList == [116, 105, 109, 101]) = true := by
      rw [ByteArray.toList_eq, X1]
      decide
    have h5 : 5 ≤ s.size := by omega
    have HX3 : Hid ((s.extract 5 s.size).data.toList = r) := X3
    have hsz : (s.extract 5 s.size).size ≤ 6000 := by simp; omega
    have CN := num_all (s.extract 5 s.size) w2 hsz
    rw [X3] at CN
    rw [h4]
    clear X1 X3 hal hap ha0 hsz h4
    go_wp2_with fail
    refine CN.mono ?_
    rintro e w3 ⟨hr, rfl⟩
    clear CN X2
    rcases hr with ⟨v, rfl, hv, -⟩ | ⟨rfl, hn⟩
    · have HV : Hid (r = Lib.itoa v) := hv
      clear hv
      by_cases hv0 : 0 ≤ v
      · by_cases hv1 : v ≤ 4294967295
        · obtain ⟨c, rfl⟩ : ∃ c : Nat, v = c := ⟨v.toNat, by omega⟩
          have hw : IntKind.u32.wrap (c : Int) = c := by simp [IntKind.wrap, IntKind.signed, IntKind.bits]; omega
          have hu : fitC 133 (.int .u32 (c : Int)) := by
            unfold fitC
            rw [if_pos (by omega)]
            exact ⟨c, by omega, rfl⟩
          have H3 : Hid (Scn (m.upd 133 (.int .u32 (c : Int))) w _) := H.out.upd (by omega) hu
          have HS : Hid (Scans m s.data.toList (m.upd 133 (.int .u32 (c : Int)))) := scans_time HN.out rfl (upd_ok hm (by omega) hu) fun c' hc' e => by
            have hcc : (c : Int) = c' := itoa_inj (HV.out.symm.trans (e.trans (Lib.itoa_nonneg c').symm))
            have hcc' : c = c' := by omega
            rw [upd_time, hcc']
          have c0 := H.out.M.c 133 (by omega)
          have f0 := H.out.M.f 133 (by omega)
          clear hu
          go_upto_region 19 with fail
          generalize (w3.setCell ⟨w.heap.size, 133, none⟩ (.int .u32 (c : Int))) = w4 at H3 ⊢
          generalize m.upd 133 (.int .u32 (c : Int)) = m3 at H3 HS
          clear c0 f0 hw
          have L := load_mem H3.out.M
          have S := store_mem m3 H3.out.Z
          go_wp2_with (first | refine list_load (t := 37) rfl rfl rfl L ?_ | refine list_store (t := 37) rfl rfl rfl rfl S ?_)
          exact ret_mem (c := 4) rfl rfl rfl (H3.out.fin m3).1 ⟨m3, rfl, HS.out, (H3.out.fin m3).2⟩
        · have HS : Hid (Scans m s.data.toList m) := scans_time HN.out rfl hm fun c' hc' e => by
            have hcc : v = c' := itoa_inj (HV.out.symm.trans (e.trans (Lib.itoa_nonneg c').symm))
            omega
          have L := load_mem H.out.M
          have S := store_mem m H.out.Z
          go_wp2_with (first | refine list_load (t := 37) rfl rfl rfl L ?_ | refine list_store (t := 37) rfl rfl rfl rfl S ?_)
          exact ret_mem (c := 4) rfl rfl rfl (H.out.fin m).1 ⟨m, rfl, HS.out, (H.out.fin m).2⟩
      · have HS : Hid (Scans m s.data.toList m) := scans_time HN.out rfl hm fun c' hc' e => by
          have hcc : v = c' := itoa_inj (HV.out.symm.trans (e.trans (Lib.itoa_nonneg c').symm))
          omega
        have L := load_mem H.out.M
        have S := store_mem m H.out.Z
        go_wp2_with (first | refine list_load (t := 37) rfl rfl rfl L ?_ | refine list_store (t := 37) rfl rfl rfl rfl S ?_)
        exact ret_mem (c := 4) rfl rfl rfl (H.out.fin m).1 ⟨m, rfl, HS.out, (H.out.fin m).2⟩
    · have HS : Hid (Scans m s.data.toList m) := scans_time HN.out rfl hm fun c' hc' e => absurd (e.trans (Lib.itoa_nonneg c').symm) (hn c' (by omega))
      clear hn
      have L := load_mem H.out.M
      have S := store_mem m H.out.Z
      go_wp2_with (first | refine list_load (t := 37) rfl rfl rfl L ?_ | refine list_store (t := 37) rfl rfl rfl rfl S ?_)
      exact ret_mem (c := 4) rfl rfl rfl (H.out.fin m).1 ⟨m, rfl, HS.out, (H.out.fin m).2⟩
  by_cases h4 : a.length = 4
  · have h4' : ((a.length : Int) == 4) = true := by simp; omega
    have X2 : ((s.extract 0 4).toList == [116, 105, 109, 101]) = false := by
      rw [ByteArray.toList_eq, ← h4, X1]
      simpa [timeL] using hat
    have h44 : 4 ≤ s.size := by omega
    clear h4
    go_wp2_with fail
    refine (spec_read (s.extract 0 a.length) w2 (by simp; omega)).mono ?_
    rintro e w3 ⟨hrd, hb⟩
    rw [X1] at hrd
    have H : Hid (Scn m w w3) := H.out.call hb
    obtain ⟨k, n, p, ob, rfl, hd⟩ := reads_cases hrd
    have HD : Hid ((ob = true ∧ okB k n p = true ∧ textL k n p = a) ∨ (ob = false ∧ k = 0 ∧ n = 0 ∧ p = 0 ∧ ∀ k n p : Int, okB k n p = true → textL k n p ≠ a)) := hd
    clear hb hrd hd X1
    obtain ⟨A0, D0⟩ := scd_open H.out k n p 66
    have L1 := A0.store (x' := .int .i64 k) (y' := .int .i64 n) (z' := .int .i64 p) rfl rfl rfl
    have H : Hid (Scd m k n p w3.heap.size w _) := D0
    clear A0 D0
    go_upto_region 17 with (refine list_store (t := 66) (x := .pointer (some ⟨w3.heap.size, 0, none⟩)) (u := .agg #[.int .i64 k, .int .i64 n, .int .i64 p]) rfl rfl rfl rfl L1 ?_; simp only [Act.put])
    generalize (w3.alloc (.cells #[.int .i64 0, .int .i64 0, .int .i64 0] 66)).setCells w3.heap.size 0 [.int .i64 k, .int .i64 n, .int .i64 p] = w4 at H L1 ⊢
    clear L1
    generalize w3.heap.size = q at H ⊢
    cases ob with
    | false =>
      have HS : Hid (Scans m s.data.toList m) := by
        show Scans m s.data.toList m
        rcases HD.out with ⟨h, -⟩ | ⟨-, -, -, -, hn⟩
        · cases h
        · exact scans_skip hm HN.out (fun g => absurd g hat) E1.out E2.out hn
      have H : Hid (Scn m w w4) := H.out.S
      have L := load_mem H.out.M
      have S := store_mem m H.out.Z
      go_wp2_with (first | refine list_load (t := 37) rfl rfl rfl L ?_ | refine list_store (t := 37) rfl rfl rfl rfl S ?_)
      exact ret_mem (c := 4) rfl rfl rfl (H.out.fin m).1 ⟨m, rfl, HS.out, (H.out.fin m).2⟩
    | true =>
      have HO : Hid (okB k n p = true ∧ textL k n p = a) := by
        show okB k n p = true ∧ textL k n p = a
        rcases HD.out with ⟨-, a, b⟩ | ⟨h, -⟩
        · exact ⟨a, b⟩
        · cases h
      clear HD
      go_upto_region 18 with fail
      have H : Hid (Scd m k n p q w w4.drew) := H.out.call (Below.refl _ _).drew
      have CV := spec_value m k n p (s.extract (a.length + 1) s.size) w4.drew hm HO.out.1 (by simp; omega)
      rw [ext_behind HL.out] at CV
      have hw1 : IntKind.i64.wrap ((a.length : Int) + 1) = ((a.length + 1 : Nat) : Int) := by simp [IntKind.wrap, IntKind.signed, IntKind.bits]; omega
      refine wp_region_held (S := fun w' => ArgAt q (.int .i64 k) (.int .i64 n) (.int .i64 p) w') (by kernel_rfl) ?_
      have hS := H.out.A
      refine held_load (fuel := 7) (i := 1) (t := 66) (v := .agg #[.int .i64 k, .int .i64 n, .int .i64 p]) rfl rfl rfl (by kernel_rfl) (by kernel_rfl) (by kernel_rfl) rfl (fun _ _ _ h => h) (fun w' hw' => hw'.load) hS ?_
      go_simp
      refine held_any (fuel := 6) (i := 2) (v := .string s) rfl (by kernel_rfl) (by kernel_rfl) (by kernel_rfl) rfl (fun _ _ _ h => h) (fun _ _ => rfl) hS ?_
      go_simp
      refine held_any (fuel := 5) (i := 3) (v := .int .i64 (a.length : Int)) rfl (by kernel_rfl) (by kernel_rfl) (by kernel_rfl) rfl (fun _ _ _ h => h) (fun _ _ => rfl) hS ?_
      go_simp
      refine held_any (fuel := 4) (i := 4) (v := .int .i64 ((a.length + 1 : Nat) : Int)) rfl (by kernel_rfl) (by kernel_rfl) (by kernel_rfl) rfl (fun _ _ _ h => h) (fun _ _ => by go_simp) hS ?_
      go_simp
      refine held_any (fuel := 3) (i := 5) (v := .string (s.extract (a.length + 1) s.size)) rfl (by kernel_rfl) (by kernel_rfl) (by kernel_rfl) rfl (fun _ _ _ h => h) (fun _ _ => by go_simp; intro h; exfalso; have := h (by omega); omega) hS ?_
      go_simp
      refine wpAnyH_ready (rs := [0]) (by kernel_rfl) (by simp) ?_
      refine AllReadyH.cons rfl (fun K hK => ?_) AllReadyH.nil
      rw [if_pos (by rfl)]
      refine op_loadX rfl (load_mem H.out.S.M) ?_
      refine hK.out _ _ hS (fun _ => ?_)
      clear hK K
      go_simp
      refine wpAnyH_ready (rs := [6]) (by kernel_rfl) (by simp) ?_
      refine AllReadyH.cons rfl (fun K hK => ?_) AllReadyH.nil
      go_simp
      refine CV.mono ?_
      rintro e w5 ⟨m3, rfl, hval, hb⟩
      have H : Hid (Scd m k n p q w w5) := H.out.call hb
      refine hK.out _ _ H.out.A (fun _ => ?_)
      clear hK K hS CV hb
      go_simp
      have HS : Hid (Scans m s.data.toList m3) := by
        obtain ⟨v0, v7, v8, v9, v10⟩ := hval
        exact scans_dev HN.out hat (by rw [← HO.out.2]; exact ran_no HO.out.1) (by rw [← HO.out.2]; exact fault_no HO.out.1) HO.out.1 HO.out.2 v0 (fun _ _ h => absurd (HL.out.symm.trans h) (by simp)) v7 v8 v9 v10
      clear hval
      refine wpAnyH_ready (rs := [7]) (by kernel_rfl) (by simp) ?_
      refine AllReadyH.cons rfl (fun K hK => ?_) AllReadyH.nil
      rw [if_pos (by rfl)]
      have hq := H.out.h
      have A6 := H.out.A.other (c := w.heap.size) (o := 0) (vs := m3.row.toList) (by omega)
      have M6 := H.out.S.M.stored m3
      have Z6 := H.out.S.Z.other (c := w.heap.size) (o := 0) (vs := m3.row.toList) (by omega)
      have B6 := setCells_below m3.row.toList w.heap.size 0 H.out.S.b (Nat.le_refl _)
      have H6 : Hid (Scn m3 w (w5.setCells w.heap.size 0 m3.row.toList)) := ⟨M6, Z6, B6⟩
      refine op_store rfl (store_mem m3 H.out.S.M) ?_
      refine hK.out _ _ A6 (fun _ => ?_)
      clear hK K M6 Z6 B6 A6
      go_simp
      generalize (w5.setCells w.heap.size 0 m3.row.toList) = w6 at H6 ⊢
      refine wpAnyH_done (by kernel_rfl) ?_ _
      have L := load_mem H6.out.M
      have S := store_mem m3 H6.out.Z
      go_wp2_with (first | refine list_load (t := 37) rfl rfl rfl L ?_ | refine list_store (t := 37) rfl rfl rfl rfl S ?_)
      exact ret_mem (c := 4) rfl rfl rfl (H6.out.fin m3).1 ⟨m3, rfl, HS.out, (H6.out.fin m3).2⟩
  have h4' : ((a.length : Int) == 4) = false := by simp; omega
  go_wp2_with fail
  refine (spec_read (s.extract 0 a.length) w2 (by simp; omega)).mono ?_
  rintro e w3 ⟨hrd, hb⟩
  rw [X1] at hrd
  have H : Hid (Scn m w w3) := H.out.call hb
  obtain ⟨k, n, p, ob, rfl, hd⟩ := reads_cases hrd
  have HD : Hid ((ob = true ∧ okB k n p = true ∧ textL k n p = a) ∨ (ob = false ∧ k = 0 ∧ n = 0 ∧ p = 0 ∧ ∀ k n p : Int, okB k n p = true → textL k n p ≠ a)) := hd
  clear hb hrd hd X1
  obtain ⟨A0, D0⟩ := scd_open H.out k n p 66
  have L1 := A0.store (x' := .int .i64 k) (y' := .int .i64 n) (z' := .int .i64 p) rfl rfl rfl
  have H : Hid (Scd m k n p w3.heap.size w _) := D0
  clear A0 D0
  go_upto_region 17 with (refine list_store (t := 66) (x := .pointer (some ⟨w3.heap.size, 0, none⟩)) (u := .agg #[.int .i64 k, .int .i64 n, .int .i64 p]) rfl rfl rfl rfl L1 ?_; simp only [Act.put])
  generalize (w3.alloc (.cells #[.int .i64 0, .int .i64 0, .int .i64 0] 66)).setCells w3.heap.size 0 [.int .i64 k, .int .i64 n, .int .i64 p] = w4 at H L1 ⊢
  clear L1
  generalize w3.heap.size = q at H ⊢
  cases ob with
  | false =>
    have HS : Hid (Scans m s.data.toList m) := by
      show Scans m s.data.toList m
      rcases HD.out with ⟨h, -⟩ | ⟨-, -, -, -, hn⟩
      · cases h
      · exact scans_skip hm HN.out (fun g => absurd g hat) E1.out E2.out hn
    have H : Hid (Scn m w w4) := H.out.S
    have L := load_mem H.out.M
    have S := store_mem m H.out.Z
    go_wp2_with (first | refine list_load (t := 37) rfl rfl rfl L ?_ | refine list_store (t := 37) rfl rfl rfl rfl S ?_)
    exact ret_mem (c := 4) rfl rfl rfl (H.out.fin m).1 ⟨m, rfl, HS.out, (H.out.fin m).2⟩
  | true =>
    have HO : Hid (okB k n p = true ∧ textL k n p = a) := by
      show okB k n p = true ∧ textL k n p = a
      rcases HD.out with ⟨-, a, b⟩ | ⟨h, -⟩
      · exact ⟨a, b⟩
      · cases h
    clear HD
    go_upto_region 18 with fail
    have H : Hid (Scd m k n p q w w4.drew) := H.out.call (Below.refl _ _).drew
    have CV := spec_value m k n p (s.extract (a.length + 1) s.size) w4.drew hm HO.out.1 (by simp; omega)
    rw [ext_behind HL.out] at CV
    have hw1 : IntKind.i64.wrap ((a.length : Int) + 1) = ((a.length + 1 : Nat) : Int) := by simp [IntKind.wrap, IntKind.signed, IntKind.bits]; omega
    refine wp_region_held (S := fun w' => ArgAt q (.int .i64 k) (.int .i64 n) (.int .i64 p) w') (by kernel_rfl) ?_
    have hS := H.out.A
    refine held_load (fuel := 7) (i := 1) (t := 66) (v := .agg #[.int .i64 k, .int .i64 n, .int .i64 p]) rfl rfl rfl (by kernel_rfl) (by kernel_rfl) (by kernel_rfl) rfl (fun _ _ _ h => h) (fun w' hw' => hw'.load) hS ?_
    go_simp
    refine held_any (fuel := 6) (i := 2) (v := .string s) rfl (by kernel_rfl) (by kernel_rfl) (by kernel_rfl) rfl (fun _ _ _ h => h) (fun _ _ => rfl) hS ?_
    go_simp
    refine held_any (fuel := 5) (i := 3) (v := .int .i64 (a.length : Int)) rfl (by kernel_rfl) (by kernel_rfl) (by kernel_rfl) rfl (fun _ _ _ h => h) (fun _ _ => rfl) hS ?_
    go_simp
    refine held_any (fuel := 4) (i := 4) (v := .int .i64 ((a.length + 1 : Nat) : Int)) rfl (by kernel_rfl) (by kernel_rfl) (by kernel_rfl) rfl (fun _ _ _ h => h) (fun _ _ => by go_simp) hS ?_
    go_simp
    refine held_any (fuel := 3) (i := 5) (v := .string (s.extract (a.length + 1) s.size)) rfl (by kernel_rfl) (by kernel_rfl) (by kernel_rfl) rfl (fun _ _ _ h => h) (fun _ _ => by go_simp; intro h; exfalso; have := h (by omega); omega) hS ?_
    go_simp
    refine wpAnyH_ready (rs := [0]) (by kernel_rfl) (by simp) ?_
    refine AllReadyH.cons rfl (fun K hK => ?_) AllReadyH.nil
    rw [if_pos (by rfl)]
    refine op_loadX rfl (load_mem H.out.S.M) ?_
    refine hK.out _ _ hS (fun _ => ?_)
    clear hK K
    go_simp
    refine wpAnyH_ready (rs := [6]) (by kernel_rfl) (by simp) ?_
    refine AllReadyH.cons rfl (fun K hK => ?_) AllReadyH.nil
    go_simp
    refine CV.mono ?_
    rintro e w5 ⟨m3, rfl, hval, hb⟩
    have H : Hid (Scd m k n p q w w5) := H.out.call hb
    refine hK.out _ _ H.out.A (fun _ => ?_)
    clear hK K hS CV hb
    go_simp
    have HS : Hid (Scans m s.data.toList m3) := by
      obtain ⟨v0, v7, v8, v9, v10⟩ := hval
      exact scans_dev HN.out hat (by rw [← HO.out.2]; exact ran_no HO.out.1) (by rw [← HO.out.2]; exact fault_no HO.out.1) HO.out.1 HO.out.2 v0 (fun _ _ h => absurd (HL.out.symm.trans h) (by simp)) v7 v8 v9 v10
    clear hval
    refine wpAnyH_ready (rs := [7]) (by kernel_rfl) (by simp) ?_
    refine AllReadyH.cons rfl (fun K hK => ?_) AllReadyH.nil
    rw [if_pos (by rfl)]
    have hq := H.out.h
    have A6 := H.out.A.other (c := w.heap.size) (o := 0) (vs := m3.row.toList) (by omega)
    have M6 := H.out.S.M.stored m3
    have Z6 := H.out.S.Z.other (c := w.heap.size) (o := 0) (vs := m3.row.toList) (by omega)
    have B6 := setCells_below m3.row.toList w.heap.size 0 H.out.S.b (Nat.le_refl _)
    have H6 : Hid (Scn m3 w (w5.setCells w.heap.size 0 m3.row.toList)) := ⟨M6, Z6, B6⟩
    refine op_store rfl (store_mem m3 H.out.S.M) ?_
    refine hK.out _ _ A6 (fun _ => ?_)
    clear hK K M6 Z6 B6 A6
    go_simp
    generalize (w5.setCells w.heap.size 0 m3.row.toList) = w6 at H6 ⊢
    refine wpAnyH_done (by kernel_rfl) ?_ _
    have L := load_mem H6.out.M
    have S := store_mem m3 H6.out.Z
    go_wp2_with (first | refine list_load (t := 37) rfl rfl rfl L ?_ | refine list_store (t := 37) rfl rfl rfl rfl S ?_)
    exact ret_mem (c := 4) rfl rfl rfl (H6.out.fin m3).1 ⟨m3, rfl, HS.out, (H6.out.fin m3).2⟩

end Go.Proofs.YtdhoimjkgicneaaGreatDoor
