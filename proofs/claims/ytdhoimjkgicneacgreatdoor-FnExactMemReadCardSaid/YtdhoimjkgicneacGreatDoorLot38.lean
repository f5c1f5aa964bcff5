/- Texts of this proof laid together: EqM, ExMR, Close. -/
import Derived.Test.YtdhoimjkgicneacGreatDoorLot11
import Derived.Test.YtdhoimjkgicneacGreatDoorLot23
import Derived.Test.YtdhoimjkgicneacGreatDoorLot37
import Derived.Test.YtdhoimjkgicneacGreatDoorLot4
import Derived.Deep.Cut
import Derived.ProofKit
import Derived.OpenVars
import Derived.OpenShut
/- The laws' sameness of memories: of two memories that are one it says so. -/
namespace Go.Proofs.YtdhoimjkgicneacGreatDoor
open Go Go.RowKit

set_option maxHeartbeats 800000 in
theorem same_flt {x y : Nat} (w : World) (h : Same x y) : Calls Tryz.prog 44 #[.float .f64 x, .float .f64 y] w fun e w' => e = .returned (.bool true) ∧ w' = w := by
  rcases same_tests h with ⟨h1, h2⟩ | ⟨h1, h2, h3, ⟨h4, h5, r, q1, q2⟩ | ⟨h4, h5⟩⟩
  · clear h
    go_enter Tryz.func44, Tryz.ntmps44
    go_wp2_with fail
    go_ret
    exact ⟨rfl, rfl⟩
  · have f1 : ∀ t w, (binOp .quo t (.float .f64 4607182418800017408) (.float .f64 x)).run Tryz.prog w = .ok (.float .f64 r) w := fun t w => run_float_arith w .quo t .f64 _ _ _ q1
    have f2 : ∀ t w, (binOp .quo t (.float .f64 4607182418800017408) (.float .f64 y)).run Tryz.prog w = .ok (.float .f64 r) w := fun t w => run_float_arith w .quo t .f64 _ _ _ q2
    clear h q1 q2
    go_enter Tryz.func44, Tryz.ntmps44
    go_wp2_with fail
    go_ret
    exact ⟨by simp, rfl⟩
  · clear h
    go_enter Tryz.func44, Tryz.ntmps44
    go_wp2_with fail
    go_ret
    exact ⟨rfl, rfl⟩

set_option maxHeartbeats 800000 in
theorem eq_tm (a : Bool) (c : Nat) (w : World) : Calls Tryz.prog 42 #[.agg #[.bool a, .int .u16 c], .agg #[.bool a, .int .u16 c]] w fun e w' => e = .returned (.bool true) ∧ Below w.heap.size w w' := by
  go_enter Tryz.func42, Tryz.ntmps42
  go_wp2
  go_ret
  exact ⟨rfl, ((Below.refl _ _).alloc (Nat.le_refl _) _).alloc (by simp) _⟩
set_option maxHeartbeats 800000 in
theorem eq_ct (a b : Bool) (c : Nat) (w : World) : Calls Tryz.prog 43 #[.agg #[.bool a, .bool b, .int .u16 c], .agg #[.bool a, .bool b, .int .u16 c]] w fun e w' => e = .returned (.bool true) ∧ Below w.heap.size w w' := by
  go_enter Tryz.func43, Tryz.ntmps43
  go_wp2
  go_ret
  exact ⟨rfl, ((Below.refl _ _).alloc (Nat.le_refl _) _).alloc (by simp) _⟩

/-- Two rows that came in. -/
theorem two_rows (f g : Nat → Value) (n : Nat) (w : World) (t1 t2 : TypeId) :
    RowAt w.heap.size 0 n f ((w.alloc (.cells (rowOf f n) t1)).alloc (.cells (rowOf g n) t2)) ∧ RowAt (w.heap.size + 1) 0 n g ((w.alloc (.cells (rowOf f n) t1)).alloc (.cells (rowOf g n) t2)) ∧
    Below w.heap.size w ((w.alloc (.cells (rowOf f n) t1)).alloc (.cells (rowOf g n) t2)) := by
  have h1 : ∀ (w : World) (o : Obj), Below w.heap.size w (w.alloc o) := fun w o => (Below.refl _ _).alloc (Nat.le_refl _) _
  refine ⟨(RowAt.alloc f n w t1).below (h1 _ _) (by simp), ?_, ((Below.refl w.heap.size w).alloc (Nat.le_refl _) _).alloc (by simp) _⟩
  have := RowAt.alloc g n (w.alloc (.cells (rowOf f n) t1)) t2
  simpa using this

set_option maxRecDepth 100000 in
set_option maxHeartbeats 2000000 in
theorem eq_tms (D : Nat → Bool) (C : Nat → Nat) (w : World) : Calls Tryz.prog 13 #[.agg (rowOf (fTimer D C) 32), .agg (rowOf (fTimer D C) 32)] w fun e w' => e = .returned (.bool true) ∧ Below w.heap.size w w' := by
  obtain ⟨R0, R1, RB⟩ := two_rows (fTimer D C) (fTimer D C) 32 w 27 27
  go_enter Tryz.func13, Tryz.ntmps13
  go_wp2_with fail
  go_loopw [5] (fun i wr => ∃ k : Nat, k ≤ 16 ∧ i = .int .i64 k ∧ RowAt w.heap.size 0 32 (fTimer D C) wr ∧ RowAt (w.heap.size + 1) 0 32 (fTimer D C) wr ∧ Below w.heap.size w wr) (fun i _ => 16 - (intOf i).toNat)
  case atStart => exact ⟨0, by omega, rfl, R0, R1, RB⟩
  case round =>
    clear R0 R1 RB
    obtain ⟨k, hk, rfl, R0, R1, RB⟩ := hrel
    by_cases hlt : k < 16
    · have LA : ∀ w', Below wr.heap.size wr w' → w'.cell? ⟨w.heap.size, k * 2, none⟩ = some (.bool (D k)) ∧ w'.cell? ⟨w.heap.size, k * 2 + 1, none⟩ = some (.int .u16 (C k)) := fun w' hw' => ⟨by rw [(R0.below hw' R0.z).c0 (by omega), fTimer_0], by rw [(R0.below hw' R0.z).c0 (by omega), fTimer_1]⟩
      have LB : ∀ w', Below wr.heap.size wr w' → w'.cell? ⟨w.heap.size + 1, k * 2, none⟩ = some (.bool (D k)) ∧ w'.cell? ⟨w.heap.size + 1, k * 2 + 1, none⟩ = some (.int .u16 (C k)) := fun w' hw' => ⟨by rw [(R1.below hw' R1.z).c0 (by omega), fTimer_0], by rw [(R1.below hw' R1.z).c0 (by omega), fTimer_1]⟩
      go_wp2_with fail
      refine wp_region_belowM (by kernel_rfl) (by kernel_rfl) ?_
      quiet_step (exact fun _ => rfl)
      refine wpQuiet_step (fun K hK => ?_)
      go_simp
      refine ⟨_, fun _ _ => rfl, hK _ ?_⟩
      clear hK K
      refine wpQuiet_step (fun K hK => ?_)
      go_simp
      refine ⟨.agg #[.bool (D k), .int .u16 (C k)], fun w' hw' => ?_, hK _ ?_⟩
      · obtain ⟨c0, c1⟩ := LA w' hw'
        simp [c0, c1]
      clear hK K
      quiet_step (exact fun _ => rfl)
      refine wpQuiet_step (fun K hK => ?_)
      go_simp
      refine ⟨_, fun _ _ => rfl, hK _ ?_⟩
      clear hK K
      refine wpQuiet_step (fun K hK => ?_)
      go_simp
      refine ⟨.agg #[.bool (D k), .int .u16 (C k)], fun w' hw' => ?_, hK _ ?_⟩
      · obtain ⟨c0, c1⟩ := LB w' hw'
        simp [c0, c1]
      clear hK K
      refine wpQuiet_step (fun K hK => ?_)
      go_simp
      refine ⟨.bool true, fun w' hw' => (eq_tm (D k) (C k) w').mono fun e w'' ⟨he, hb⟩ => ⟨he, hw'.trans (hb.mono hw'.size)⟩, hK _ ?_⟩
      clear hK K
      quiet_step (exact fun _ => rfl)
      refine wpQuiet_nil ?_
      intro w1 hw1
      have R0' := R0.below hw1 R0.z
      have R1' := R1.below hw1 R1.z
      have RB' := RB.trans (hw1.mono RB.size)
      clear R0 R1 RB LA LB hw1
      go_wp2_with fail
      go_roundw
      case rel => exact ⟨k + 1, by omega, by go_num, R0', R1', RB'⟩
      case measure => simp [intOf]; omega
    · have e : k = 16 := by omega
      subst e
      go_wp2_with fail
      go_ret
      exact ⟨rfl, RB⟩

set_option maxRecDepth 100000 in
set_option maxHeartbeats 2000000 in
theorem eq_cts (D L : Nat → Bool) (C : Nat → Nat) (w : World) : Calls Tryz.prog 14 #[.agg (rowOf (fCounter D L C) 48), .agg (rowOf (fCounter D L C) 48)] w fun e w' => e = .returned (.bool true) ∧ Below w.heap.size w w' := by
  obtain ⟨R0, R1, RB⟩ := two_rows (fCounter D L C) (fCounter D L C) 48 w 30 30
  go_enter Tryz.func14, Tryz.ntmps14
  go_wp2_with fail
  go_loopw [5] (fun i wr => ∃ k : Nat, k ≤ 16 ∧ i = .int .i64 k ∧ RowAt w.heap.size 0 48 (fCounter D L C) wr ∧ RowAt (w.heap.size + 1) 0 48 (fCounter D L C) wr ∧ Below w.heap.size w wr) (fun i _ => 16 - (intOf i).toNat)
  case atStart => exact ⟨0, by omega, rfl, R0, R1, RB⟩
  case round =>
    clear R0 R1 RB
    obtain ⟨k, hk, rfl, R0, R1, RB⟩ := hrel
    by_cases hlt : k < 16
    · have LA : ∀ w', Below wr.heap.size wr w' → w'.cell? ⟨w.heap.size, k * 3, none⟩ = some (.bool (D k)) ∧ w'.cell? ⟨w.heap.size, k * 3 + 1, none⟩ = some (.bool (L k)) ∧ w'.cell? ⟨w.heap.size, k * 3 + 2, none⟩ = some (.int .u16 (C k)) := fun w' hw' => ⟨by rw [(R0.below hw' R0.z).c0 (by omega), fCounter_0], by rw [(R0.below hw' R0.z).c0 (by omega), fCounter_1], by rw [(R0.below hw' R0.z).c0 (by omega), fCounter_2]⟩
      have LB : ∀ w', Below wr.heap.size wr w' → w'.cell? ⟨w.heap.size + 1, k * 3, none⟩ = some (.bool (D k)) ∧ w'.cell? ⟨w.heap.size + 1, k * 3 + 1, none⟩ = some (.bool (L k)) ∧ w'.cell? ⟨w.heap.size + 1, k * 3 + 2, none⟩ = some (.int .u16 (C k)) := fun w' hw' => ⟨by rw [(R1.below hw' R1.z).c0 (by omega), fCounter_0], by rw [(R1.below hw' R1.z).c0 (by omega), fCounter_1], by rw [(R1.below hw' R1.z).c0 (by omega), fCounter_2]⟩
      go_wp2_with fail
      refine wp_region_belowM (by kernel_rfl) (by kernel_rfl) ?_
      quiet_step (exact fun _ => rfl)
      refine wpQuiet_step (fun K hK => ?_)
      go_simp
      refine ⟨_, fun _ _ => rfl, hK _ ?_⟩
      clear hK K
      refine wpQuiet_step (fun K hK => ?_)
      go_simp
      refine ⟨.agg #[.bool (D k), .bool (L k), .int .u16 (C k)], fun w' hw' => ?_, hK _ ?_⟩
      · obtain ⟨c0, c1, c2⟩ := LA w' hw'
        simp [c0, c1, c2]
      clear hK K
      quiet_step (exact fun _ => rfl)
      refine wpQuiet_step (fun K hK => ?_)
      go_simp
      refine ⟨_, fun _ _ => rfl, hK _ ?_⟩
      clear hK K
      refine wpQuiet_step (fun K hK => ?_)
      go_simp
      refine ⟨.agg #[.bool (D k), .bool (L k), .int .u16 (C k)], fun w' hw' => ?_, hK _ ?_⟩
      · obtain ⟨c0, c1, c2⟩ := LB w' hw'
        simp [c0, c1, c2]
      clear hK K
      refine wpQuiet_step (fun K hK => ?_)
      go_simp
      refine ⟨.bool true, fun w' hw' => (eq_ct (D k) (L k) (C k) w').mono fun e w'' ⟨he, hb⟩ => ⟨he, hw'.trans (hb.mono hw'.size)⟩, hK _ ?_⟩
      clear hK K
      quiet_step (exact fun _ => rfl)
      refine wpQuiet_nil ?_
      intro w1 hw1
      have R0' := R0.below hw1 R0.z
      have R1' := R1.below hw1 R1.z
      have RB' := RB.trans (hw1.mono RB.size)
      clear R0 R1 RB LA LB hw1
      go_wp2_with fail
      go_roundw
      case rel => exact ⟨k + 1, by omega, by go_num, R0', R1', RB'⟩
      case measure => simp [intOf]; omega
    · have e : k = 16 := by omega
      subst e
      go_wp2_with fail
      go_ret
      exact ⟨rfl, RB⟩

set_option maxRecDepth 100000 in
set_option maxHeartbeats 2000000 in
theorem eq_rls (r s : Nat → Nat) (w : World) (h : ∀ i, i < 16 → Same (r i) (s i)) : Calls Tryz.prog 16 #[.agg (rowOf (fReal r) 16), .agg (rowOf (fReal s) 16)] w fun e w' => e = .returned (.bool true) ∧ Below w.heap.size w w' := by
  obtain ⟨R0, R1, RB⟩ := two_rows (fReal r) (fReal s) 16 w 34 34
  go_enter Tryz.func16, Tryz.ntmps16
  go_wp2_with fail
  go_loopw [5] (fun i wr => ∃ k : Nat, k ≤ 16 ∧ i = .int .i64 k ∧ RowAt w.heap.size 0 16 (fReal r) wr ∧ RowAt (w.heap.size + 1) 0 16 (fReal s) wr ∧ Below w.heap.size w wr) (fun i _ => 16 - (intOf i).toNat)
  case atStart => exact ⟨0, by omega, rfl, R0, R1, RB⟩
  case round =>
    clear R0 R1 RB
    obtain ⟨k, hk, rfl, R0, R1, RB⟩ := hrel
    by_cases hlt : k < 16
    · have LA : ∀ w', Below wr.heap.size wr w' → w'.cell? ⟨w.heap.size, k, none⟩ = some (.float .f64 (r k)) := fun w' hw' => (R0.below hw' R0.z).c0 (by omega)
      have LB : ∀ w', Below wr.heap.size wr w' → w'.cell? ⟨w.heap.size + 1, k, none⟩ = some (.float .f64 (s k)) := fun w' hw' => (R1.below hw' R1.z).c0 (by omega)
      go_wp2_with fail
      refine wp_region_belowM (by kernel_rfl) (by kernel_rfl) ?_
      quiet_step (exact fun _ => rfl)
      refine wpQuiet_step (fun K hK => ?_)
      go_simp
      refine ⟨_, fun _ _ => rfl, hK _ ?_⟩
      clear hK K
      refine wpQuiet_step (fun K hK => ?_)
      go_simp
      refine ⟨.float .f64 (r k), fun w' hw' => ?_, hK _ ?_⟩
      · have c0 := LA w' hw'
        simp [c0]
      clear hK K
      quiet_step (exact fun _ => rfl)
      refine wpQuiet_step (fun K hK => ?_)
      go_simp
      refine ⟨_, fun _ _ => rfl, hK _ ?_⟩
      clear hK K
      refine wpQuiet_step (fun K hK => ?_)
      go_simp
      refine ⟨.float .f64 (s k), fun w' hw' => ?_, hK _ ?_⟩
      · have c0 := LB w' hw'
        simp [c0]
      clear hK K
      refine wpQuiet_step (fun K hK => ?_)
      go_simp
      refine ⟨.bool true, fun w' hw' => (same_flt w' (h k hlt)).mono fun e w'' ⟨he, hb⟩ => ⟨he, by rw [hb]; exact hw'⟩, hK _ ?_⟩
      clear hK K
      quiet_step (exact fun _ => rfl)
      refine wpQuiet_nil ?_
      intro w1 hw1
      have R0' := R0.below hw1 R0.z
      have R1' := R1.below hw1 R1.z
      have RB' := RB.trans (hw1.mono RB.size)
      clear R0 R1 RB LA LB hw1
      go_wp2_with fail
      go_roundw
      case rel => exact ⟨k + 1, by omega, by go_num, R0', R1', RB'⟩
      case measure => simp [intOf]; omega
    · have e : k = 16 := by omega
      subst e
      go_wp2_with fail
      go_ret
      exact ⟨rfl, RB⟩

set_option maxRecDepth 100000 in
set_option maxHeartbeats 2000000 in
theorem eq_its (D : Nat → Int) (w : World) : Calls Tryz.prog 15 #[.agg (rowOf (fInt D) 32), .agg (rowOf (fInt D) 32)] w fun e w' => e = .returned (.bool true) ∧ Below w.heap.size w w' := by
  obtain ⟨R0, R1, RB⟩ := two_rows (fInt D) (fInt D) 32 w 32 32
  go_enter Tryz.func15, Tryz.ntmps15
  go_wp2_with fail
  go_loopw [5] (fun i wr => ∃ k : Nat, k ≤ 32 ∧ i = .int .i64 k ∧ RowAt w.heap.size 0 32 (fInt D) wr ∧ RowAt (w.heap.size + 1) 0 32 (fInt D) wr ∧ Below w.heap.size w wr) (fun i _ => 32 - (intOf i).toNat)
  case atStart => exact ⟨0, by omega, rfl, R0, R1, RB⟩
  case round =>
    clear R0 R1 RB
    obtain ⟨k, hk, rfl, R0, R1, RB⟩ := hrel
    by_cases hlt : k < 32
    · have LA : ∀ w', Below wr.heap.size wr w' → w'.cell? ⟨w.heap.size, k, none⟩ = some (.int .i16 (D k)) := fun w' hw' => (R0.below hw' R0.z).c0 (by omega)
      have LB : ∀ w', Below wr.heap.size wr w' → w'.cell? ⟨w.heap.size + 1, k, none⟩ = some (.int .i16 (D k)) := fun w' hw' => (R1.below hw' R1.z).c0 (by omega)
      go_wp2_with fail
      refine wp_region_belowM (by kernel_rfl) (by kernel_rfl) ?_
      quiet_step (exact fun _ => rfl)
      refine wpQuiet_step (fun K hK => ?_)
      go_simp
      refine ⟨_, fun _ _ => rfl, hK _ ?_⟩
      clear hK K
      refine wpQuiet_step (fun K hK => ?_)
      go_simp
      refine ⟨.int .i16 (D k), fun w' hw' => ?_, hK _ ?_⟩
      · have c0 := LA w' hw'
        simp [c0]
      clear hK K
      quiet_step (exact fun _ => rfl)
      refine wpQuiet_step (fun K hK => ?_)
      go_simp
      refine ⟨_, fun _ _ => rfl, hK _ ?_⟩
      clear hK K
      refine wpQuiet_step (fun K hK => ?_)
      go_simp
      refine ⟨.int .i16 (D k), fun w' hw' => ?_, hK _ ?_⟩
      · have c0 := LB w' hw'
        simp [c0]
      clear hK K
      refine wpQuiet_step (fun K hK => ?_)
      go_simp
      refine ⟨_, fun _ _ => rfl, hK _ ?_⟩
      clear hK K
      refine wpQuiet_nil ?_
      intro w1 hw1
      have R0' := R0.below hw1 R0.z
      have R1' := R1.below hw1 R1.z
      have RB' := RB.trans (hw1.mono RB.size)
      clear R0 R1 RB LA LB hw1
      go_wp2_with fail
      go_roundw
      case rel => exact ⟨k + 1, by omega, by go_num, R0', R1', RB'⟩
      case measure => simp [intOf]; omega
    · have e : k = 32 := by omega
      subst e
      go_wp2_with fail
      go_ret
      exact ⟨rfl, RB⟩

/-- Two memories that came in, and are one: the second one's cells, told by the first. -/
structure Two (a : MemV) (s : Nat → Nat) (p q : Nat) (w : World) : Prop where
  A : MemAt p a w
  B : MemAt q { a with r := s } w

theorem Two.below {a : MemV} {s : Nat → Nat} {p q : Nat} {w w' : World} (h : Two a s p q w) (hb : Below w.heap.size w w') : Two a s p q w' := ⟨h.A.below hb h.A.z, h.B.below hb h.B.z⟩

theorem sameM_row {a b : MemV} (h : SameM a b) : b.row = ({ a with r := b.r } : MemV).row := by
  unfold MemV.row
  congr 1
  refine List.map_congr_left fun j hj => ?_
  have hj : j < 136 := by simpa using hj
  unfold MemV.cell
  simp only [h.x, h.y, h.m, h.s, h.e, h.time, h.ran, h.fault]
  by_cases h37 : j < 37
  · by_cases h5 : j < 5
    · have : j = 0 ∨ j = 1 ∨ j = 2 ∨ j = 3 ∨ j = 4 := by omega
      rcases this with rfl | rfl | rfl | rfl | rfl <;> rfl
    · rw [h.tD ((j - 5) / 2) (by omega), h.tC ((j - 5) / 2) (by omega)]
      simp only [h37, if_true]
  by_cases h85 : j < 85
  · rw [h.cD ((j - 37) / 3) (by omega), h.cL ((j - 37) / 3) (by omega), h.cC ((j - 37) / 3) (by omega)]
    simp only [h37, h85, if_true, if_false]
  by_cases h117 : j < 117
  · rw [h.d (j - 85) (by omega)]
    simp only [h37, h85, h117, if_true, if_false]
  · simp only [h37, h85, h117, if_false]

theorem two_in (a b : MemV) (w : World) (t1 t2 : TypeId) :
    MemAt w.heap.size a ((w.alloc (.cells a.row t1)).alloc (.cells b.row t2)) ∧ MemAt (w.heap.size + 1) b ((w.alloc (.cells a.row t1)).alloc (.cells b.row t2)) ∧ Below w.heap.size w ((w.alloc (.cells a.row t1)).alloc (.cells b.row t2)) := by
  have h1 : ∀ (w : World) (o : Obj), Below w.heap.size w (w.alloc o) := fun w o => (Below.refl _ _).alloc (Nat.le_refl _) _
  refine ⟨(MemAt.alloc a w t1).below (h1 _ _) (by simp), ?_, ((Below.refl w.heap.size w).alloc (Nat.le_refl _) _).alloc (by simp) _⟩
  have := MemAt.alloc b (w.alloc (.cells a.row t1)) t2
  simpa using this

set_option maxRecDepth 100000 in
set_option maxHeartbeats 2000000 in
theorem eq_mem {a b : MemV} (w : World) (h : SameM a b) : Calls Tryz.prog 6 #[.agg a.row, .agg b.row] w fun e w' => e = .returned (.bool true) ∧ Below w.heap.size w w' := by
  rw [sameM_row h]
  obtain ⟨s, hs⟩ : ∃ s, s = b.r := ⟨_, rfl⟩
  have hr : ∀ i, i < 16 → Same (a.r i) (s i) := hs ▸ h.r
  rw [← hs]
  clear hs h
  obtain ⟨A, B, BW⟩ := two_in a { a with r := s } w 36 36
  go_enter Tryz.func6, Tryz.ntmps6
  go_upto_region 1 with fail
  generalize ((w.alloc (.cells a.row 36)).alloc (.cells ({ a with r := s } : MemV).row 36)) = w0 at A B BW ⊢
  have TW : Hid (Two a s w.heap.size (w.heap.size + 1) w0) := ⟨A, B⟩
  have HB : Hid (Below w.heap.size w w0) := BW
  have c0 := A.c 0 (by omega)
  rw [MemV.cell_x] at c0
  have d0 := B.c 0 (by omega)
  rw [MemV.cell_x] at d0
  have c1 := A.c 1 (by omega)
  rw [MemV.cell_y] at c1
  have d1 := B.c 1 (by omega)
  rw [MemV.cell_y] at d1
  have c2 := A.c 2 (by omega)
  rw [MemV.cell_m] at c2
  have d2 := B.c 2 (by omega)
  rw [MemV.cell_m] at d2
  have c3 := A.c 3 (by omega)
  rw [MemV.cell_s] at c3
  have d3 := B.c 3 (by omega)
  rw [MemV.cell_s] at d3
  have c4 := A.c 4 (by omega)
  rw [MemV.cell_e] at c4
  have d4 := B.c 4 (by omega)
  rw [MemV.cell_e] at d4
  have L1 := load_row aTimer sTimer A.timers
  have L2 := load_row aTimer sTimer B.timers
  clear A B BW
  go_upto_region 11 with fail
  clear c0 d0 c1 d1 c2 d2 c3 d3 c4 d4
  go_wp2_with (first | (refine list_load (t := 27) (x := .pointer (some ⟨w.heap.size, 5, none⟩)) (u := .agg (rowOf (fTimer a.tD a.tC) 32)) rfl rfl rfl L1 ?_) | (refine list_load (t := 27) (x := .pointer (some ⟨w.heap.size + 1, 5, none⟩)) (u := .agg (rowOf (fTimer a.tD a.tC) 32)) rfl rfl rfl L2 ?_))
  refine (eq_tms a.tD a.tC _).mono ?_
  rintro e w1 ⟨rfl, hb⟩
  clear L1 L2
  have TW1 : Hid (Two a s w.heap.size (w.heap.size + 1) w1) := TW.out.below hb
  have HB1 : Hid (Below w.heap.size w w1) := HB.out.trans (hb.mono HB.out.size)
  clear hb TW HB
  have L1 := load_row aCounter sCounter TW1.out.A.counters
  have L2 := load_row aCounter sCounter TW1.out.B.counters
  go_wp2_with (first | (refine list_load (t := 30) (x := .pointer (some ⟨w.heap.size, 37, none⟩)) (u := .agg (rowOf (fCounter a.cD a.cL a.cC) 48)) rfl rfl rfl L1 ?_) | (refine list_load (t := 30) (x := .pointer (some ⟨w.heap.size + 1, 37, none⟩)) (u := .agg (rowOf (fCounter a.cD a.cL a.cC) 48)) rfl rfl rfl L2 ?_))
  refine (eq_cts a.cD a.cL a.cC _).mono ?_
  rintro e w2 ⟨rfl, hb⟩
  clear L1 L2
  have TW2 : Hid (Two a s w.heap.size (w.heap.size + 1) w2) := TW1.out.below hb
  have HB2 : Hid (Below w.heap.size w w2) := HB1.out.trans (hb.mono HB1.out.size)
  clear hb TW1 HB1
  have L1 := load_row aInt sInt TW2.out.A.ints
  have L2 := load_row aInt sInt TW2.out.B.ints
  go_wp2_with (first | (refine list_load (t := 32) (x := .pointer (some ⟨w.heap.size, 85, none⟩)) (u := .agg (rowOf (fInt a.d) 32)) rfl rfl rfl L1 ?_) | (refine list_load (t := 32) (x := .pointer (some ⟨w.heap.size + 1, 85, none⟩)) (u := .agg (rowOf (fInt a.d) 32)) rfl rfl rfl L2 ?_))
  refine (eq_its a.d _).mono ?_
  rintro e w3 ⟨rfl, hb⟩
  clear L1 L2
  have TW3 : Hid (Two a s w.heap.size (w.heap.size + 1) w3) := TW2.out.below hb
  have HB3 : Hid (Below w.heap.size w w3) := HB2.out.trans (hb.mono HB2.out.size)
  clear hb TW2 HB2
  have L1 := load_row aReal sReal TW3.out.A.reals
  have L2 := load_row aReal sReal TW3.out.B.reals
  go_wp2_with (first | (refine list_load (t := 34) (x := .pointer (some ⟨w.heap.size, 117, none⟩)) (u := .agg (rowOf (fReal a.r) 16)) rfl rfl rfl L1 ?_) | (refine list_load (t := 34) (x := .pointer (some ⟨w.heap.size + 1, 117, none⟩)) (u := .agg (rowOf (fReal s) 16)) rfl rfl rfl L2 ?_))
  refine (eq_rls a.r s _ hr).mono ?_
  rintro e w4 ⟨rfl, hb⟩
  clear L1 L2
  have TW4 : Hid (Two a s w.heap.size (w.heap.size + 1) w4) := TW3.out.below hb
  have HB4 : Hid (Below w.heap.size w w4) := HB3.out.trans (hb.mono HB3.out.size)
  clear hb TW3 HB3
  have c0 := TW4.out.A.c 133 (by omega)
  rw [MemV.cell_time] at c0
  have d0 := TW4.out.B.c 133 (by omega)
  rw [MemV.cell_time] at d0
  have c1 := TW4.out.A.c 134 (by omega)
  rw [MemV.cell_ran] at c1
  have d1 := TW4.out.B.c 134 (by omega)
  rw [MemV.cell_ran] at d1
  have c2 := TW4.out.A.c 135 (by omega)
  rw [MemV.cell_fault] at c2
  have d2 := TW4.out.B.c 135 (by omega)
  rw [MemV.cell_fault] at d2
  go_wp2_with fail
  go_ret
  exact ⟨rfl, HB4.out⟩

end Go.Proofs.YtdhoimjkgicneacGreatDoor

/- At every text the program's MemRead answers as the specification's: the law, walked. -/
namespace Go.Proofs.YtdhoimjkgicneacGreatDoor
open Go Go.RowKit
attribute [local go_sem] zMemK

theorem fresh_putR (x : MemV) (w : World) : MemAt w.heap.size mem0 (w.alloc (.cells mem0.row 36)) ∧ MemAt w.heap.size x ((w.alloc (.cells mem0.row 36)).setCells w.heap.size 0 x.row.toList) ∧ Below w.heap.size w ((w.alloc (.cells mem0.row 36)).setCells w.heap.size 0 x.row.toList) := by
  have h := MemAt.alloc mem0 w 36
  exact ⟨h, h.stored x, setCells_below _ _ _ ((Below.refl _ _).alloc (Nat.le_refl _) _) (Nat.le_refl _)⟩

set_option maxHeartbeats 400000 in
theorem law_long (s : ByteArray) (w : World) (h : 1048576 < s.size) :
    Calls Tryz.prog 3 #[.string s] w fun e w' => e = .returned (.bool true) ∧ Below w.heap.size w w' := by
  go_enter Tryz.func3, Tryz.ntmps3
  go_wp2
  go_ret
  exact ⟨rfl, Below.refl _ _⟩

set_option maxRecDepth 100000 in
set_option maxHeartbeats 1600000 in
theorem law_short (s : ByteArray) (w : World) (h0 : s.size ≤ 1048576) (T : Tabs w) (R : RTab w) :
    Calls Tryz.prog 3 #[.string s] w fun e w' => e = .returned (.bool true) ∧ Below w.heap.size w w' := by
  have TT : Hid (∀ w', Below w.heap.size w w' → Tabs w' ∧ RTab w') := fun w' hw' => ⟨T.below hw' (Nat.le_refl _), R.below hw' (Nat.le_refl _)⟩
  clear T R
  go_enter Tryz.func3, Tryz.ntmps3
  go_wp2_with fail
  refine (spec_mread s w (by omega)).mono ?_
  rintro e w1 ⟨a, pa, rfl, ra, b1⟩
  have RA : Hid (ReadsM s.data.toList a pa) := ra
  obtain ⟨m0, m1, b2⟩ := fresh_putR a w1
  have b12 := b1.trans (b2.mono b1.size)
  have H2 : Hid (MemAt w1.heap.size a _ ∧ Below w.heap.size w _) := ⟨m1, b12⟩
  have L1 := store_mem a m0
  generalize (w1.alloc (.cells mem0.row 36)).setCells w1.heap.size 0 a.row.toList = w2 at H2 L1
  clear m0 m1 b2 b12 b1 ra
  go_upto_region 4 with (refine list_store (t := 36) (x := .pointer (some ⟨w1.heap.size, 0, none⟩)) (u := .agg a.row) rfl rfl rfl rfl L1 ?_; simp only [Act.put])
  clear L1
  generalize w1.heap.size = q1 at H2 ⊢
  go_wp2_with fail
  refine (impl_mread s w2 (by omega) (TT.out w2 H2.out.2).1 (TT.out w2 H2.out.2).2).mono ?_
  rintro e w3 ⟨b, pb, rfl, rb, b3⟩
  have HS : Hid (SameM b a) := (reads_two rb RA.out).2
  obtain rfl : pb = pa := (reads_two rb RA.out).1
  obtain ⟨m0, m1, b4⟩ := fresh_putR b w3
  have b34 := b3.trans (b4.mono b3.size)
  have H4 : Hid (MemAt w3.heap.size b _ ∧ MemAt q1 a _ ∧ Below w.heap.size w _) := ⟨m1, H2.out.1.below b34 H2.out.1.z, H2.out.2.trans (b34.mono H2.out.2.size)⟩
  have L1 := store_mem b m0
  have L2 := load_mem H4.out.1
  have L3 := load_mem H4.out.2.1
  generalize (w3.alloc (.cells mem0.row 36)).setCells w3.heap.size 0 b.row.toList = w4 at H4 L1 L2 L3
  clear m0 m1 b4 b34 b3 rb RA H2
  go_upto_region 5 with (refine list_store (t := 36) (x := .pointer (some ⟨w3.heap.size, 0, none⟩)) (u := .agg b.row) rfl rfl rfl rfl L1 ?_; simp only [Act.put])
  clear L1
  generalize w3.heap.size = q3 at H4 L2 ⊢
  go_wp2_with (first | refine list_load (t := 36) (x := .pointer (some ⟨q3, 0, none⟩)) (u := .agg b.row) rfl rfl rfl L2 ?_ | refine list_load (t := 36) (x := .pointer (some ⟨q1, 0, none⟩)) (u := .agg a.row) rfl rfl rfl L3 ?_)
  clear L2 L3
  refine (eq_mem w4 HS.out).mono ?_
  rintro e w5 ⟨rfl, b5⟩
  have H5 : Hid (Below w.heap.size w w5) := H4.out.2.2.trans (b5.mono H4.out.2.2.size)
  clear b5 H4
  cases pb
  all_goals
    go_wp2_with fail
    go_ret
    exact ⟨rfl, H5.out⟩

theorem law (s : ByteArray) (w : World) (T : Tabs w) (R : RTab w) :
    Calls Tryz.prog 3 #[.string s] w fun e w' => e = .returned (.bool true) ∧ Below w.heap.size w w' := by
  by_cases h : 1048576 < s.size
  · exact law_long s w h
  · exact law_short s w (by omega) T R

end Go.Proofs.YtdhoimjkgicneacGreatDoor

/- How a law that answers true, and writes into nothing that was there, is closed: its arguments and the named variables read as they did. Of no one program. -/
namespace Go.Proofs.YtdhoimjkgicneacGreatDoor
open Go Go.ChangeShapes Go.WideShapes Go.ChangeAt Go.RowKit

theorem below_trodAll {H : Type} {enc : TypeId × Value → H} {P : Program} (hl : laidOutB P = true) {W W' : World} (hb : Below W.heap.size W W') :
    ∀ {ts : List TypeId} {vs : List Value} {ds : List (DataW H)} {ps : List MemPlace}, (ts.all fun t => P.readableRec t && decide (t < P.types.size)) = true → (∀ x ∈ ps, x.block < W.heap.size) →
      DataW.TrodAll enc P W 0 (fun _ => true) true ts vs ds ps → DataW.TrodAll enc P W' 0 (fun b => decide (b < W.heap.size)) true ts vs ds ps := by
  intro ts
  induction ts with
  | nil =>
    intro vs ds ps _ _ h
    obtain ⟨rfl, rfl, rfl⟩ := trodAll_nil h
    exact trodAll_mk0
  | cons t ts ih =>
    intro vs ds ps hrow hlt h
    obtain ⟨v0, vs0, d0, ds0, p0, q0, rfl, rfl, rfl, h0, r0⟩ := trodAll_cons h
    simp only [List.all_cons, Bool.and_eq_true, decide_eq_true_eq] at hrow
    exact trodAll_cons_mk (Below.trod hl hrow.1.1 hrow.1.2 h0 hb (fun x hx => hlt x (by simp [hx]))) (ih (by simpa using hrow.2) (fun x hx => hlt x (by simp [hx])) r0)

theorem close_true {H : Type} {enc : TypeId × Value → H} {P : Program} {f : Func} {s : ChangeSpec} {W W' : World} {args : Array Value} {ds gs : List (DataW H)} {before : List MemPlace} {tb : TypeId}
    (hl : laidOutB P = true) (hrow : (f.params.toList.all fun t => P.readableRec t && decide (t < P.types.size)) = true) (hv : varsRowed P s.vars = true)
    (hres : f.resultTypes = #[tb]) (hbool : P.underlying tb = some .bool)
    (hW : DataW.Whole enc P f.params.toList s.vars false W args.toList ds gs before)
    (hfn : s.fn H (ds ++ gs) = { results := [.lit (.bool true)], args := ds, vars := gs })
    (hb : Below W.heap.size W W') : s.post enc P f false true false false W args (.bool true) W' := by
  have hlt := hW.lt
  have hW' := hW
  obtain ⟨p, q, hA, hV, rfl, hfz, hnd⟩ := hW
  refine ⟨ds, gs, p ++ q, [], p, q, hW', ?_, ?_, ?_, hb.frame _, fun h => by cases h⟩
  · rw [hfn, hres]
    exact trodAll_cons_mk (shut_bool hbool _) trodAll_mk0
  · rw [hfn]
    exact below_trodAll hl hb hrow (fun x hx => hlt x (by simp [hx])) hA
  · rw [hfn]
    exact Below.trodVars hl hb hv hV

end Go.Proofs.YtdhoimjkgicneacGreatDoor
