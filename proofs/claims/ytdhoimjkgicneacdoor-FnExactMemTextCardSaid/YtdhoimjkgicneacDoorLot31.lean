/- Texts of this proof laid together: MemF0, MemU. -/
import Derived.Test.YtdhoimjkgicneacDoorLot11
import Derived.Test.YtdhoimjkgicneacDoorLot30
import Derived.Deep.Cut
/- A memory with a bit put; boxes of a memory, an operand and an answer. -/
namespace Go.Proofs.YtdhoimjkgicneacDoor
open Go Go.RowKit

theorem turn_small {x k s : Nat} (hx : x < 2 ^ s) (hk : k < s) (b : Bool) : turnN x k b < 2 ^ s := by
  unfold turnN
  split
  · exact hx
  · rename_i hb
    cases b with
    | false =>
      rw [if_neg (by decide)]
      exact Nat.lt_of_le_of_lt (Nat.sub_le _ _) hx
    | true =>
      rw [if_pos rfl]
      have hb : x / 2 ^ k % 2 ≠ 1 := by intro h; apply hb; simp [h]
      have hp : 0 < 2 ^ k := Nat.two_pow_pos k
      have h1 := Nat.div_add_mod x (2 ^ k)
      have h2 := Nat.mod_lt x hp
      obtain ⟨q, hq⟩ : ∃ q, q = x / 2 ^ k := ⟨_, rfl⟩
      rw [← hq] at h1 hb
      obtain ⟨p, hp2⟩ : ∃ p, p = 2 ^ (s - 1 - k) := ⟨_, rfl⟩
      have hpp : 2 ^ k * (2 * p) = 2 ^ s := by
        rw [hp2, ← Nat.pow_succ', ← Nat.pow_add, show k + (s - 1 - k + 1) = s by omega]
      have hqlt : q < 2 * p := by
        rw [hq]
        refine (Nat.div_lt_iff_lt_mul hp).2 ?_
        rw [Nat.mul_comm, hpp]; exact hx
      have hq2 : q + 2 ≤ 2 * p := by omega
      have h3 : 2 ^ k * (q + 2) ≤ 2 ^ k * (2 * p) := Nat.mul_le_mul_left _ hq2
      rw [hpp, Nat.mul_add] at h3
      omega

theorem three_boxes (v : MemV) (w w1 : World) (cs : Array Value) (t1 t2 t3 : TypeId)
    (hB : Below (((w.alloc (.cells v.row t1)).alloc (.cells cs t2)).alloc (.cells Tryd.zeroCells45 t3)).heap.size (((w.alloc (.cells v.row t1)).alloc (.cells cs t2)).alloc (.cells Tryd.zeroCells45 t3)) w1) :
    MemAt w.heap.size v w1 ∧ MemAt (w.heap.size + 1 + 1) mem0 w1 ∧ (∀ k c, cs[k]? = some c → w1.cell? ⟨w.heap.size + 1, k, none⟩ = some c) ∧ Below w.heap.size w w1 := by
  rw [zero_row] at hB
  have h1 : Below (w.heap.size + 1) (w.alloc (.cells v.row t1)) ((w.alloc (.cells v.row t1)).alloc (.cells cs t2)) := (Below.refl _ _).alloc (by simp) _
  have h2 : Below (w.heap.size + 2) ((w.alloc (.cells v.row t1)).alloc (.cells cs t2)) (((w.alloc (.cells v.row t1)).alloc (.cells cs t2)).alloc (.cells mem0.row t3)) := (Below.refl _ _).alloc (by simp) _
  refine ⟨((((MemAt.alloc v w t1).below h1 (by omega)).below h2 (by omega)).below hB (by simp; omega)), ?_, fun k c hk => ?_, ?_⟩
  · have := (MemAt.alloc mem0 ((w.alloc (.cells v.row t1)).alloc (.cells cs t2)) t3).below hB (by simp)
    simpa using this
  · rw [hB.cell (p := ⟨w.heap.size + 1, k, none⟩) (by simp), h2.cell (p := ⟨w.heap.size + 1, k, none⟩) (by simp)]
    simp [hk]
  · exact ((((Below.refl w.heap.size w).alloc (Nat.le_refl _) _).alloc (by simp) _).alloc (by simp; omega) _).trans (hB.mono (by simp; omega))

/-- A memory in which a bit is put. -/
def putV (v : MemV) (k n : Int) (b : Bool) : MemV :=
  if k = 2 then { v with y := turnN v.y (atZ k n).toNat b } else if k = 3 then { v with m := turnN v.m (atZ k n).toNat b }
  else if k = 4 then { v with s := turnN v.s (atZ k n).toNat b } else if k = 5 then { v with e := turnN v.e (atZ k n).toNat b } else v

end Go.Proofs.YtdhoimjkgicneacDoor

/- The laws' copy of a memory is the memory. -/
namespace Go.Proofs.YtdhoimjkgicneacDoor
open Go Go.RowKit

theorem aTimerL : ∀ w, (isAgg 27).run Tryd.prog w = .ok true w := fun _ => by kernel_rfl
theorem sTimerL : ∀ w, (sizeOf 27).run Tryd.prog w = .ok 32 w := fun _ => by kernel_rfl
theorem aCounterL : ∀ w, (isAgg 30).run Tryd.prog w = .ok true w := fun _ => by kernel_rfl
theorem sCounterL : ∀ w, (sizeOf 30).run Tryd.prog w = .ok 48 w := fun _ => by kernel_rfl

/-- What is behind a box that came in and two memories of nothing. -/
theorem mem_boxes (v : MemV) (w : World) (t1 t2 t3 : TypeId) :
    MemAt w.heap.size v (((w.alloc (.cells v.row t1)).alloc (.cells Tryd.zeroCells45 t2)).alloc (.cells Tryd.zeroCells45 t3)) ∧
    MemAt (w.heap.size + 1) mem0 (((w.alloc (.cells v.row t1)).alloc (.cells Tryd.zeroCells45 t2)).alloc (.cells Tryd.zeroCells45 t3)) ∧
    MemAt (w.heap.size + 1 + 1) mem0 (((w.alloc (.cells v.row t1)).alloc (.cells Tryd.zeroCells45 t2)).alloc (.cells Tryd.zeroCells45 t3)) ∧
    Below w.heap.size w (((w.alloc (.cells v.row t1)).alloc (.cells Tryd.zeroCells45 t2)).alloc (.cells Tryd.zeroCells45 t3)) := by
  rw [zero_row]
  have h1 : ∀ (w : World) (o : Obj), Below w.heap.size w (w.alloc o) := fun w o => (Below.refl _ _).alloc (Nat.le_refl _) _
  refine ⟨?_, ?_, ?_, ?_⟩
  · exact ((MemAt.alloc v w t1).below (h1 _ _) (by simp)).below (h1 _ _) (by simp; omega)
  · have := (MemAt.alloc mem0 (w.alloc (.cells v.row t1)) t2).below (h1 _ (.cells mem0.row t3)) (by simp)
    simpa using this
  · have := MemAt.alloc mem0 ((w.alloc (.cells v.row t1)).alloc (.cells mem0.row t2)) t3
    simpa using this
  · exact (((Below.refl w.heap.size w).alloc (Nat.le_refl _) _).alloc (by simp) _).alloc (by simp; omega) _

set_option maxRecDepth 100000 in
set_option maxHeartbeats 3000000 in
theorem to_mem (v : MemV) (w : World) :
    Calls Tryd.prog 7 #[.agg v.row] w fun e w' => e = .returned (.agg v.row) ∧ Below w.heap.size w w' := by
  obtain ⟨A, R, O, B⟩ := mem_boxes v w 36 45 45
  go_enter Tryd.func7, Tryd.ntmps7
  go_upto_region 2 with fail
  generalize (((w.alloc (.cells v.row 36)).alloc (.cells Tryd.zeroCells45 45)).alloc (.cells Tryd.zeroCells45 45)) = w0 at A R O B ⊢
  have c0 := A.c 0 (by omega)
  rw [MemV.cell_x] at c0
  have d0 := O.c 0 (by omega)
  have e0 := O.f 0 (by omega)
  have c1 := A.c 1 (by omega)
  rw [MemV.cell_y] at c1
  have d1 := O.c 1 (by omega)
  have e1 := O.f 1 (by omega)
  have c2 := A.c 2 (by omega)
  rw [MemV.cell_m] at c2
  have d2 := O.c 2 (by omega)
  have e2 := O.f 2 (by omega)
  have c3 := A.c 3 (by omega)
  rw [MemV.cell_s] at c3
  have d3 := O.c 3 (by omega)
  have e3 := O.f 3 (by omega)
  have c4 := A.c 4 (by omega)
  rw [MemV.cell_e] at c4
  have d4 := O.c 4 (by omega)
  have e4 := O.f 4 (by omega)
  have O0 : RowAt (w.heap.size + 1 + 1) 0 136 (fun j => if j < 0 then v.cell j else mem0.cell j) w0 := O.rowAt.congr (fun k _ => by rw [if_neg (by omega)])
  have O5 := ((((O0.more (m := 1) (by omega) rfl (v.cell_x)).more (m := 2) (by omega) rfl (v.cell_y)).more (m := 3) (by omega) rfl (v.cell_m)).more (m := 4) (by omega) rfl (v.cell_s)).more (m := 5) (by omega) rfl (v.cell_e)
  have A5 := (((((A.at_other (c := w.heap.size + 1 + 1) (k := 0) (u := .int .u32 v.x) (by omega)).at_other (c := w.heap.size + 1 + 1) (k := 1) (u := .int .u32 v.y) (by omega)).at_other (c := w.heap.size + 1 + 1) (k := 2) (u := .int .u64 v.m) (by omega)).at_other (c := w.heap.size + 1 + 1) (k := 3) (u := .int .u16 v.s) (by omega)).at_other (c := w.heap.size + 1 + 1) (k := 4) (u := .int .u32 v.e) (by omega))
  have R5 := (((((R.at_other (c := w.heap.size + 1 + 1) (k := 0) (u := .int .u32 v.x) (by omega)).at_other (c := w.heap.size + 1 + 1) (k := 1) (u := .int .u32 v.y) (by omega)).at_other (c := w.heap.size + 1 + 1) (k := 2) (u := .int .u64 v.m) (by omega)).at_other (c := w.heap.size + 1 + 1) (k := 3) (u := .int .u16 v.s) (by omega)).at_other (c := w.heap.size + 1 + 1) (k := 4) (u := .int .u32 v.e) (by omega))
  have B5 := (((((B.setCell (p := ⟨w.heap.size + 1 + 1, 0, none⟩) (by simp; omega) (.int .u32 v.x)).setCell (p := ⟨w.heap.size + 1 + 1, 1, none⟩) (by simp; omega) (.int .u32 v.y)).setCell (p := ⟨w.heap.size + 1 + 1, 2, none⟩) (by simp; omega) (.int .u64 v.m)).setCell (p := ⟨w.heap.size + 1 + 1, 3, none⟩) (by simp; omega) (.int .u16 v.s)).setCell (p := ⟨w.heap.size + 1 + 1, 4, none⟩) (by simp; omega) (.int .u32 v.e))
  clear A R O B O0
  have HO : Hid (RowAt _ _ _ _ _) := O5
  have HR : Hid (MemAt _ _ _) := R5
  have HA : Hid (MemAt _ _ _) := A5
  have HB : Hid (Below _ _ _) := B5
  clear A5 R5 O5 B5
  have L1 := load_row aTimerL sTimerL HA.out.timers
  go_upto_region 7 with fail
  go_wp2_with (refine list_load (t := 27) (x := .pointer (some ⟨w.heap.size, 5, none⟩)) (u := .agg (rowOf (fTimer v.tD v.tC) 32)) rfl rfl rfl L1 ?_)
  refine (to_timers v.tD v.tC _).mono ?_
  rintro e w1 ⟨rfl, hb⟩
  clear c0 d0 e0 c1 d1 e1 c2 d2 e2 c3 d3 e3 c4 d4 e4
  have A := HA.out.below hb HA.out.z
  have R := HR.out.below hb HR.out.z
  have O := HO.out.below hb HO.out.z
  have B := HB.out.trans (hb.mono HB.out.size)
  clear hb HA HR HO HB
  have A' := A.other (c := w.heap.size + 1 + 1) (o := 5) (vs := (rowOf (fTimer v.tD v.tC) 32).toList) (by omega)
  have R' := R.other (c := w.heap.size + 1 + 1) (o := 5) (vs := (rowOf (fTimer v.tD v.tC) 32).toList) (by omega)
  have O' : RowAt (w.heap.size + 1 + 1) 0 136 (fun j => if j < 37 then v.cell j else mem0.cell j) _ := O.moreRow (n := 32) (g := fTimer v.tD v.tC) (by omega) (fun i hi => (cell_timer hi).symm)
  have B' := setCells_below (rowOf (fTimer v.tD v.tC) 32).toList (w.heap.size + 1 + 1) 5 B (by omega)
  have L2 := store_row (fTimer v.tD v.tC) sTimer (fun k _ => fTimer_one _ _ k) (O.sub (k := 5) (n := 32) (by omega))
  have L3 := load_row aCounterL sCounterL A'.counters
  go_upto_region 8 with (refine list_store (t := 41) (x := .pointer (some ⟨w.heap.size + 1 + 1, 5, none⟩)) (u := .agg (rowOf (fTimer v.tD v.tC) 32)) rfl rfl rfl rfl L2 ?_)
  go_wp2_with (refine list_load (t := 30) (x := .pointer (some ⟨w.heap.size, 37, none⟩)) (u := .agg (rowOf (fCounter v.cD v.cL v.cC) 48)) rfl rfl rfl L3 ?_)
  refine (to_counters v.cD v.cL v.cC _).mono ?_
  rintro e w2 ⟨rfl, hb⟩
  clear A R O B
  have A := A'.below hb A'.z
  have R := R'.below hb R'.z
  have O := O'.below hb O'.z
  have B := B'.trans (hb.mono B'.size)
  clear hb A' R' O' B'
  have A' := A.other (c := w.heap.size + 1 + 1) (o := 37) (vs := (rowOf (fCounter v.cD v.cL v.cC) 48).toList) (by omega)
  have R' := R.other (c := w.heap.size + 1 + 1) (o := 37) (vs := (rowOf (fCounter v.cD v.cL v.cC) 48).toList) (by omega)
  have O' : RowAt (w.heap.size + 1 + 1) 0 136 (fun j => if j < 85 then v.cell j else mem0.cell j) _ := O.moreRow (n := 48) (g := fCounter v.cD v.cL v.cC) (by omega) (fun i hi => (cell_counter hi).symm)
  have B' := setCells_below (rowOf (fCounter v.cD v.cL v.cC) 48).toList (w.heap.size + 1 + 1) 37 B (by omega)
  have L4 := store_row (fCounter v.cD v.cL v.cC) sCounter (fun k _ => fCounter_one _ _ _ k) (O.sub (k := 37) (n := 48) (by omega))
  have L5 := load_row aInt sInt A'.ints
  go_upto_region 9 with (refine list_store (t := 43) (x := .pointer (some ⟨w.heap.size + 1 + 1, 37, none⟩)) (u := .agg (rowOf (fCounter v.cD v.cL v.cC) 48)) rfl rfl rfl rfl L4 ?_)
  go_wp2_with (refine list_load (t := 32) (x := .pointer (some ⟨w.heap.size, 85, none⟩)) (u := .agg (rowOf (fInt v.d) 32)) rfl rfl rfl L5 ?_)
  refine (to_ints v.d _).mono ?_
  rintro e w3 ⟨rfl, hb⟩
  clear A R O B
  have A := A'.below hb A'.z
  have R := R'.below hb R'.z
  have O := O'.below hb O'.z
  have B := B'.trans (hb.mono B'.size)
  clear hb A' R' O' B'
  have A' := A.other (c := w.heap.size + 1 + 1) (o := 85) (vs := (rowOf (fInt v.d) 32).toList) (by omega)
  have R' := R.other (c := w.heap.size + 1 + 1) (o := 85) (vs := (rowOf (fInt v.d) 32).toList) (by omega)
  have O' : RowAt (w.heap.size + 1 + 1) 0 136 (fun j => if j < 117 then v.cell j else mem0.cell j) _ := O.moreRow (n := 32) (g := fInt v.d) (by omega) (fun i hi => (cell_int' hi).symm)
  have B' := setCells_below (rowOf (fInt v.d) 32).toList (w.heap.size + 1 + 1) 85 B (by omega)
  have L6 := store_row (fInt v.d) sInt (fun k _ => rfl) (O.sub (k := 85) (n := 32) (by omega))
  have L7 := load_row aReal sReal A'.reals
  go_upto_region 10 with (refine list_store (t := 32) (x := .pointer (some ⟨w.heap.size + 1 + 1, 85, none⟩)) (u := .agg (rowOf (fInt v.d) 32)) rfl rfl rfl rfl L6 ?_)
  go_wp2_with (refine list_load (t := 34) (x := .pointer (some ⟨w.heap.size, 117, none⟩)) (u := .agg (rowOf (fReal v.r) 16)) rfl rfl rfl L7 ?_)
  refine (to_reals v.r _).mono ?_
  rintro e w4 ⟨rfl, hb⟩
  clear A R O B
  have A := A'.below hb A'.z
  have R := R'.below hb R'.z
  have O := O'.below hb O'.z
  have B := B'.trans (hb.mono B'.size)
  clear hb A' R' O' B'
  have A' := A.other (c := w.heap.size + 1 + 1) (o := 117) (vs := (rowOf (fReal v.r) 16).toList) (by omega)
  have R' := R.other (c := w.heap.size + 1 + 1) (o := 117) (vs := (rowOf (fReal v.r) 16).toList) (by omega)
  have O' : RowAt (w.heap.size + 1 + 1) 0 136 (fun j => if j < 133 then v.cell j else mem0.cell j) _ := O.moreRow (n := 16) (g := fReal v.r) (by omega) (fun i hi => (cell_real' hi).symm)
  have B' := setCells_below (rowOf (fReal v.r) 16).toList (w.heap.size + 1 + 1) 117 B (by omega)
  have c133 := A'.c 133 (by omega)
  have c134 := A'.c 134 (by omega)
  have c135 := A'.c 135 (by omega)
  rw [MemV.cell_time] at c133
  rw [MemV.cell_ran] at c134
  rw [MemV.cell_fault] at c135
  have d133 := O'.c0 (k := 133) (by omega)
  have d134 := O'.c0 (k := 134) (by omega)
  have d135 := O'.c0 (k := 135) (by omega)
  have e133 := O'.f0 (k := 133) (by omega)
  have e134 := O'.f0 (k := 134) (by omega)
  have e135 := O'.f0 (k := 135) (by omega)
  have P : MemAt (w.heap.size + 1 + 1) v _ := ((((O'.more (m := 134) (by omega) rfl v.cell_time).more (m := 135) (by omega) rfl v.cell_ran).more (m := 136) (by omega) rfl v.cell_fault).congr (fun k hk => by rw [if_pos hk])).mem
  have R2 := ((R'.at_other (c := w.heap.size + 1 + 1) (k := 133) (u := .int .u32 v.time) (by omega)).at_other (c := w.heap.size + 1 + 1) (k := 134) (u := .bool v.ran) (by omega)).at_other (c := w.heap.size + 1 + 1) (k := 135) (u := .bool v.fault) (by omega)
  have B2 := ((B'.setCell (p := ⟨w.heap.size + 1 + 1, 133, none⟩) (by simp; omega) (.int .u32 v.time)).setCell (p := ⟨w.heap.size + 1 + 1, 134, none⟩) (by simp; omega) (.bool v.ran)).setCell (p := ⟨w.heap.size + 1 + 1, 135, none⟩) (by simp; omega) (.bool v.fault)
  have R3 := R2.stored v
  have B3 := setCells_below v.row.toList (w.heap.size + 1) 0 B2 (by omega)
  have L8 := store_row (fReal v.r) sReal (fun k _ => rfl) (O.sub (k := 117) (n := 16) (by omega))
  have L9 := load_mem P
  have L10 := store_mem v R2
  go_upto_region 11 with (refine list_store (t := 34) (x := .pointer (some ⟨w.heap.size + 1 + 1, 117, none⟩)) (u := .agg (rowOf (fReal v.r) 16)) rfl rfl rfl rfl L8 ?_)
  go_upto_region 14 with fail
  go_wp2_with (first | (refine list_load (t := 45) (x := .pointer (some ⟨w.heap.size + 1 + 1, 0, none⟩)) (u := .agg v.row) rfl rfl rfl L9 ?_) | refine list_store (t := 45) (x := .pointer (some ⟨w.heap.size + 1, 0, none⟩)) (u := .agg v.row) rfl rfl rfl rfl L10 ?_)
  exact ret_mem (c := 2) rfl rfl rfl R3 ⟨rfl, B3⟩

end Go.Proofs.YtdhoimjkgicneacDoor
