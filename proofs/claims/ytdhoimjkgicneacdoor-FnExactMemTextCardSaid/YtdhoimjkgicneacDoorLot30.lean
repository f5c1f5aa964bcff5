/- Texts of this proof laid together: MemT, MemZ. -/
import Derived.Test.YtdhoimjkgicneacDoorLot29
import Derived.Test.YtdhoimjkgicneacDoorLot8
import Derived.Test.YtdhoimjkgicneacDoorLot13
/- The laws' copies of the arrays of a memory. -/
namespace Go.Proofs.YtdhoimjkgicneacDoor
open Go Go.RowKit

set_option maxHeartbeats 400000 in
theorem to_timer (a : Bool) (c : Nat) (w : World) :
    Calls Tryd.prog 41 #[.agg #[.bool a, .int .u16 c]] w fun e w' => e = .returned (.agg #[.bool a, .int .u16 c]) ∧ Below w.heap.size w w' := by
  go_enter Tryd.func41, Tryd.ntmps41
  go_wp2
  exact bodyPost_ret (v := .agg #[.bool a, .int .u16 c]) (by simp [results, Tryd.results41, go_sem]) rfl
    ⟨rfl, (((Below.refl _ _).alloc (Nat.le_refl _) _).alloc (by simp) _).alloc (by simp; omega) _⟩

set_option maxHeartbeats 400000 in
theorem to_counter (a b : Bool) (c : Nat) (w : World) :
    Calls Tryd.prog 42 #[.agg #[.bool a, .bool b, .int .u16 c]] w fun e w' => e = .returned (.agg #[.bool a, .bool b, .int .u16 c]) ∧ Below w.heap.size w w' := by
  go_enter Tryd.func42, Tryd.ntmps42
  go_wp2
  exact bodyPost_ret (v := .agg #[.bool a, .bool b, .int .u16 c]) (by simp [results, Tryd.results42, go_sem]) rfl
    ⟨rfl, (((Below.refl _ _).alloc (Nat.le_refl _) _).alloc (by simp) _).alloc (by simp; omega) _⟩

set_option maxRecDepth 100000 in
set_option maxHeartbeats 2000000 in
theorem to_timers (D : Nat → Bool) (C : Nat → Nat) (w : World) :
    Calls Tryd.prog 18 #[.agg (rowOf (fTimer D C) 32)] w fun e w' => e = .returned (.agg (rowOf (fTimer D C) 32)) ∧ Below w.heap.size w w' := by
  obtain ⟨f, hf⟩ : ∃ f, f = fTimer D C := ⟨_, rfl⟩
  have f0 : ∀ k : Nat, f (k * 2) = .bool (D k) := fun k => by rw [hf]; exact fTimer_0 D C k
  have f1 : ∀ k : Nat, f (k * 2 + 1) = .int .u16 (C k) := fun k => by rw [hf]; exact fTimer_1 D C k
  have fo : ∀ k, (f k).oneCell' = true := fun k => by rw [hf]; exact fTimer_one D C k
  rw [← hf]
  clear hf
  obtain ⟨R0, R1, R2, RB⟩ := three_rows f zTimer 32 w 27 41 41
  go_enter Tryd.func18, Tryd.ntmps18
  go_wp2_with fail
  go_loopw [4] (fun i wr => ∃ k : Nat, k ≤ 16 ∧ i = .int .i64 k ∧ RowAt w.heap.size 0 32 f wr ∧ RowAt (w.heap.size + 1) 0 32 zTimer wr ∧ RowAt (w.heap.size + 1 + 1) 0 32 (fun j => if j < k * 2 then f j else zTimer j) wr ∧ Below w.heap.size w wr) (fun i _ => 16 - (intOf i).toNat)
  case atStart => exact ⟨0, by omega, rfl, R0, R1, R2, RB⟩
  case round =>
    clear R0 R1 R2 RB
    obtain ⟨k, hk, rfl, R0, R1, R2, RB⟩ := hrel
    by_cases hlt : k < 16
    · have c0 := R0.c0 (k := k * 2) (by omega)
      rw [f0] at c0
      have c1 := R0.c0 (k := k * 2 + 1) (by omega)
      rw [f1] at c1
      go_wp2_with fail
      refine (to_timer (D k) (C k) wr).mono ?_
      rintro e w1 ⟨rfl, hB⟩
      clear c0 c1
      have R0 := R0.below hB R0.z
      have R1 := R1.below hB R1.z
      have R2 := R2.below hB R2.z
      have RB := RB.trans (hB.mono RB.size)
      clear hB
      have c0 := R2.c0 (k := k * 2) (by omega)
      have e0 := R2.f0 (k := k * 2) (by omega)
      have c1 := R2.c0 (k := k * 2 + 1) (by omega)
      have e1 := R2.f0 (k := k * 2 + 1) (by omega)
      go_wp2_with fail
      go_roundw
      case rel => exact ⟨k + 1, by omega, by go_num, ((R0.at_other (by omega)).at_other (by omega)), ((R1.at_other (by omega)).at_other (by omega)), ((R2.more (m := k * 2 + 1) (by omega) (by omega) (f0 k)).more (m := (k + 1) * 2) (by omega) (by omega) (f1 k)), ((RB.setCell (by simp; omega) _).setCell (by simp; omega) _)⟩
      case measure => simp [intOf]; omega
    · have e : k = 16 := by omega
      subst e
      have R2 : RowAt (w.heap.size + 1 + 1) 0 32 f wr := R2.congr (fun j hj => by rw [if_pos (by omega)])
      have R1' := R1.stored f
      have RB' := setCells_below (rowOf f 32).toList (w.heap.size + 1) 0 RB (by omega)
      go_wp2_with (first | refine list_load (t := 41) rfl rfl rfl (load_row aTimer sTimer R2) ?_ | refine list_store (t := 41) rfl rfl rfl rfl (store_row f sTimer (fun k _ => fo k) R1) ?_)
      exact ret_row (c := 2) aTimer sTimer rfl rfl rfl R1' ⟨rfl, RB'⟩

set_option maxRecDepth 100000 in
set_option maxHeartbeats 2000000 in
theorem to_counters (D L : Nat → Bool) (C : Nat → Nat) (w : World) :
    Calls Tryd.prog 19 #[.agg (rowOf (fCounter D L C) 48)] w fun e w' => e = .returned (.agg (rowOf (fCounter D L C) 48)) ∧ Below w.heap.size w w' := by
  obtain ⟨f, hf⟩ : ∃ f, f = fCounter D L C := ⟨_, rfl⟩
  have f0 : ∀ k : Nat, f (k * 3) = .bool (D k) := fun k => by rw [hf]; exact fCounter_0 D L C k
  have f1 : ∀ k : Nat, f (k * 3 + 1) = .bool (L k) := fun k => by rw [hf]; exact fCounter_1 D L C k
  have f2 : ∀ k : Nat, f (k * 3 + 2) = .int .u16 (C k) := fun k => by rw [hf]; exact fCounter_2 D L C k
  have fo : ∀ k, (f k).oneCell' = true := fun k => by rw [hf]; exact fCounter_one D L C k
  rw [← hf]
  clear hf
  obtain ⟨R0, R1, R2, RB⟩ := three_rows f zCounter 48 w 30 43 43
  go_enter Tryd.func19, Tryd.ntmps19
  go_wp2_with fail
  go_loopw [4] (fun i wr => ∃ k : Nat, k ≤ 16 ∧ i = .int .i64 k ∧ RowAt w.heap.size 0 48 f wr ∧ RowAt (w.heap.size + 1) 0 48 zCounter wr ∧ RowAt (w.heap.size + 1 + 1) 0 48 (fun j => if j < k * 3 then f j else zCounter j) wr ∧ Below w.heap.size w wr) (fun i _ => 16 - (intOf i).toNat)
  case atStart => exact ⟨0, by omega, rfl, R0, R1, R2, RB⟩
  case round =>
    clear R0 R1 R2 RB
    obtain ⟨k, hk, rfl, R0, R1, R2, RB⟩ := hrel
    by_cases hlt : k < 16
    · have c0 := R0.c0 (k := k * 3) (by omega)
      rw [f0] at c0
      have c1 := R0.c0 (k := k * 3 + 1) (by omega)
      rw [f1] at c1
      have c2 := R0.c0 (k := k * 3 + 2) (by omega)
      rw [f2] at c2
      go_wp2_with fail
      refine (to_counter (D k) (L k) (C k) wr).mono ?_
      rintro e w1 ⟨rfl, hB⟩
      clear c0 c1 c2
      have R0 := R0.below hB R0.z
      have R1 := R1.below hB R1.z
      have R2 := R2.below hB R2.z
      have RB := RB.trans (hB.mono RB.size)
      clear hB
      have c0 := R2.c0 (k := k * 3) (by omega)
      have e0 := R2.f0 (k := k * 3) (by omega)
      have c1 := R2.c0 (k := k * 3 + 1) (by omega)
      have e1 := R2.f0 (k := k * 3 + 1) (by omega)
      have c2 := R2.c0 (k := k * 3 + 2) (by omega)
      have e2 := R2.f0 (k := k * 3 + 2) (by omega)
      go_wp2_with fail
      go_roundw
      case rel => exact ⟨k + 1, by omega, by go_num, (((R0.at_other (by omega)).at_other (by omega)).at_other (by omega)), (((R1.at_other (by omega)).at_other (by omega)).at_other (by omega)), (((R2.more (m := k * 3 + 1) (by omega) (by omega) (f0 k)).more (m := k * 3 + 1 + 1) (by omega) (by omega) (f1 k)).more (m := (k + 1) * 3) (by omega) (by omega) (f2 k)), (((RB.setCell (by simp; omega) _).setCell (by simp; omega) _).setCell (by simp; omega) _)⟩
      case measure => simp [intOf]; omega
    · have e : k = 16 := by omega
      subst e
      have R2 : RowAt (w.heap.size + 1 + 1) 0 48 f wr := R2.congr (fun j hj => by rw [if_pos (by omega)])
      have R1' := R1.stored f
      have RB' := setCells_below (rowOf f 48).toList (w.heap.size + 1) 0 RB (by omega)
      go_wp2_with (first | refine list_load (t := 43) rfl rfl rfl (load_row aCounter sCounter R2) ?_ | refine list_store (t := 43) rfl rfl rfl rfl (store_row f sCounter (fun k _ => fo k) R1) ?_)
      exact ret_row (c := 2) aCounter sCounter rfl rfl rfl R1' ⟨rfl, RB'⟩

set_option maxRecDepth 100000 in
set_option maxHeartbeats 2000000 in
theorem to_ints (D : Nat → Int) (w : World) :
    Calls Tryd.prog 20 #[.agg (rowOf (fInt D) 32)] w fun e w' => e = .returned (.agg (rowOf (fInt D) 32)) ∧ Below w.heap.size w w' := by
  obtain ⟨f, hf⟩ : ∃ f, f = fInt D := ⟨_, rfl⟩
  have f0 : ∀ k : Nat, f (k) = .int .i16 (D k) := fun k => by rw [hf]; rfl
  have fo : ∀ k, (f k).oneCell' = true := fun k => by rw [hf]; rfl
  rw [← hf]
  clear hf
  obtain ⟨R0, R1, R2, RB⟩ := three_rows f zInt 32 w 32 32 32
  go_enter Tryd.func20, Tryd.ntmps20
  go_wp2_with fail
  go_loopw [4] (fun i wr => ∃ k : Nat, k ≤ 32 ∧ i = .int .i64 k ∧ RowAt w.heap.size 0 32 f wr ∧ RowAt (w.heap.size + 1) 0 32 zInt wr ∧ RowAt (w.heap.size + 1 + 1) 0 32 (fun j => if j < k then f j else zInt j) wr ∧ Below w.heap.size w wr) (fun i _ => 32 - (intOf i).toNat)
  case atStart => exact ⟨0, by omega, rfl, R0, R1, R2, RB⟩
  case round =>
    clear R0 R1 R2 RB
    obtain ⟨k, hk, rfl, R0, R1, R2, RB⟩ := hrel
    by_cases hlt : k < 32
    · have c0 := R0.c0 (k := k) (by omega)
      rw [f0] at c0
      have d0 := R2.c0 (k := k) (by omega)
      have e0 := R2.f0 (k := k) (by omega)
      go_wp2_with fail
      go_roundw
      case rel => exact ⟨k + 1, by omega, by go_num, (R0.at_other (by omega)), (R1.at_other (by omega)), (R2.more (m := k + 1) (by omega) (by omega) (f0 k)), (RB.setCell (by simp; omega) _)⟩
      case measure => simp [intOf]; omega
    · have e : k = 32 := by omega
      subst e
      have R2 : RowAt (w.heap.size + 1 + 1) 0 32 f wr := R2.congr (fun j hj => by rw [if_pos (by omega)])
      have R1' := R1.stored f
      have RB' := setCells_below (rowOf f 32).toList (w.heap.size + 1) 0 RB (by omega)
      go_wp2_with (first | refine list_load (t := 32) rfl rfl rfl (load_row aInt sInt R2) ?_ | refine list_store (t := 32) rfl rfl rfl rfl (store_row f sInt (fun k _ => fo k) R1) ?_)
      exact ret_row (c := 2) aInt sInt rfl rfl rfl R1' ⟨rfl, RB'⟩

set_option maxRecDepth 100000 in
set_option maxHeartbeats 2000000 in
theorem to_reals (R : Nat → Nat) (w : World) :
    Calls Tryd.prog 21 #[.agg (rowOf (fReal R) 16)] w fun e w' => e = .returned (.agg (rowOf (fReal R) 16)) ∧ Below w.heap.size w w' := by
  obtain ⟨f, hf⟩ : ∃ f, f = fReal R := ⟨_, rfl⟩
  have f0 : ∀ k : Nat, f (k) = .float .f64 (R k) := fun k => by rw [hf]; rfl
  have fo : ∀ k, (f k).oneCell' = true := fun k => by rw [hf]; rfl
  rw [← hf]
  clear hf
  obtain ⟨R0, R1, R2, RB⟩ := three_rows f zReal 16 w 34 34 34
  go_enter Tryd.func21, Tryd.ntmps21
  go_wp2_with fail
  go_loopw [4] (fun i wr => ∃ k : Nat, k ≤ 16 ∧ i = .int .i64 k ∧ RowAt w.heap.size 0 16 f wr ∧ RowAt (w.heap.size + 1) 0 16 zReal wr ∧ RowAt (w.heap.size + 1 + 1) 0 16 (fun j => if j < k then f j else zReal j) wr ∧ Below w.heap.size w wr) (fun i _ => 16 - (intOf i).toNat)
  case atStart => exact ⟨0, by omega, rfl, R0, R1, R2, RB⟩
  case round =>
    clear R0 R1 R2 RB
    obtain ⟨k, hk, rfl, R0, R1, R2, RB⟩ := hrel
    by_cases hlt : k < 16
    · have c0 := R0.c0 (k := k) (by omega)
      rw [f0] at c0
      have d0 := R2.c0 (k := k) (by omega)
      have e0 := R2.f0 (k := k) (by omega)
      have s0 := store_float (z := R k) d0 e0
      go_wp2_with fail
      go_roundw
      case rel => exact ⟨k + 1, by omega, by go_num, (R0.at_other (by omega)), (R1.at_other (by omega)), (R2.more (m := k + 1) (by omega) (by omega) (f0 k)), (RB.setCell (by simp; omega) _)⟩
      case measure => simp [intOf]; omega
    · have e : k = 16 := by omega
      subst e
      have R2 : RowAt (w.heap.size + 1 + 1) 0 16 f wr := R2.congr (fun j hj => by rw [if_pos (by omega)])
      have R1' := R1.stored f
      have RB' := setCells_below (rowOf f 16).toList (w.heap.size + 1) 0 RB (by omega)
      go_wp2_with (first | refine list_load (t := 34) rfl rfl rfl (load_row aReal sReal R2) ?_ | refine list_store (t := 34) rfl rfl rfl rfl (store_row f sReal (fun k _ => fo k) R1) ?_)
      exact ret_row (c := 2) aReal sReal rfl rfl rfl R1' ⟨rfl, RB'⟩

end Go.Proofs.YtdhoimjkgicneacDoor

/- A cell of a memory put; a memory of nothing as the program names it. -/
namespace Go.Proofs.YtdhoimjkgicneacDoor
open Go Go.RowKit

theorem MemAt.put {b k : Nat} {v v' : MemV} {u : Value} {w : World} (h : MemAt b v w) (hk : k < 136) (hu : v'.cell k = u) (ho : ∀ i, i < 136 → i ≠ k → v'.cell i = v.cell i) :
    MemAt b v' (w.setCell ⟨b, k, none⟩ u) := by
  refine ⟨by simpa [World.setCell] using h.z, fun i hi => ?_, fun i hi => by rw [World.frozen?_setCell]; exact h.f i hi⟩
  by_cases e : i = k
  · subst e
    rw [World.cell?_setCell_same _ _ _ (h.c i hi), hu]
  · rw [World.cell?_setCell_other _ _ _ _ (by intro hh; cases hh; exact e rfl), h.c i hi, ho i hi e]

theorem zero_row : Tryd.zeroCells45 = mem0.row := by kernel_rfl

end Go.Proofs.YtdhoimjkgicneacDoor
