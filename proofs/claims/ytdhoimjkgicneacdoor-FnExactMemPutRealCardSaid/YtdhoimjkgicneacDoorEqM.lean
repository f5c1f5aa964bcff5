/- The laws' sameness of memories: of two memories that are one it says so. -/
import Derived.Test.YtdhoimjkgicneacDoorRowA
import Derived.Test.YtdhoimjkgicneacDoorRegB
import Derived.Test.YtdhoimjkgicneacDoorFltH
import Derived.Test.YtdhoimjkgicneacDoorMtA
import Derived.Deep.Cut
namespace Go.Proofs.YtdhoimjkgicneacDoor
open Go Go.RowKit

set_option maxHeartbeats 800000 in
theorem same_flt {x y : Nat} (w : World) (h : Same x y) : Calls Tryd.prog 10 #[.float .f64 x, .float .f64 y] w fun e w' => e = .returned (.bool true) ∧ w' = w := by
  rcases same_tests h with ⟨h1, h2⟩ | ⟨h1, h2, h3, ⟨h4, h5, r, q1, q2⟩ | ⟨h4, h5⟩⟩
  · clear h
    go_enter Tryd.func10, Tryd.ntmps10
    go_wp2_with fail
    go_ret
    exact ⟨rfl, rfl⟩
  · have f1 : ∀ t w, (binOp .quo t (.float .f64 4607182418800017408) (.float .f64 x)).run Tryd.prog w = .ok (.float .f64 r) w := fun t w => run_float_arith w .quo t .f64 _ _ _ q1
    have f2 : ∀ t w, (binOp .quo t (.float .f64 4607182418800017408) (.float .f64 y)).run Tryd.prog w = .ok (.float .f64 r) w := fun t w => run_float_arith w .quo t .f64 _ _ _ q2
    clear h q1 q2
    go_enter Tryd.func10, Tryd.ntmps10
    go_wp2_with fail
    go_ret
    exact ⟨by simp, rfl⟩
  · clear h
    go_enter Tryd.func10, Tryd.ntmps10
    go_wp2_with fail
    go_ret
    exact ⟨rfl, rfl⟩

set_option maxHeartbeats 800000 in
theorem eq_tm (a : Bool) (c : Nat) (w : World) : Calls Tryd.prog 49 #[.agg #[.bool a, .int .u16 c], .agg #[.bool a, .int .u16 c]] w fun e w' => e = .returned (.bool true) ∧ Below w.heap.size w w' := by
  go_enter Tryd.func49, Tryd.ntmps49
  go_wp2
  go_ret
  exact ⟨rfl, ((Below.refl _ _).alloc (Nat.le_refl _) _).alloc (by simp) _⟩
set_option maxHeartbeats 800000 in
theorem eq_ct (a b : Bool) (c : Nat) (w : World) : Calls Tryd.prog 50 #[.agg #[.bool a, .bool b, .int .u16 c], .agg #[.bool a, .bool b, .int .u16 c]] w fun e w' => e = .returned (.bool true) ∧ Below w.heap.size w w' := by
  go_enter Tryd.func50, Tryd.ntmps50
  go_wp2
  go_ret
  exact ⟨rfl, ((Below.refl _ _).alloc (Nat.le_refl _) _).alloc (by simp) _⟩

/-- Two rows that came in. -/
theorem two_rows (f g : Nat → Value) (n : Nat) (w : World) (t1 t2 : TypeId) :
    RowAt w.heap.size 0 n f ((w.alloc (.cells (rowOf f n) t1)).alloc (.cells (rowOf g n) t2)) ∧ RowAt (w.heap.size + 1) 0 n g ((w.alloc (.cells (rowOf f n) t1)).alloc (.cells (rowOf g n) t2)) ∧
    Below w.heap.size w ((w.alloc (.cells (rowOf f n) t1)).alloc (.cells (rowOf g n) t2)) := by
  have h1 : ∀ (w : World) (o : Obj), Below w.heap.size w (w.alloc o) := fun w o => (Below.refl _ _).alloc (Nat.le_refl _) _
  refine ⟨(RowAt.alloc f n w t1).below (h1 _ _) (by simp), ?_, ((Below.refl w.heap.size w).alloc (Nat.le_refl _) _).alloc (by simp) _⟩
  have := RowAt.alloc g n (w.alloc (.cells (rowOf f n) t1)) t2
  simpa using this

set_option maxRecDepth 100000 in
set_option maxHeartbeats 2000000 in
theorem eq_tms (D : Nat → Bool) (C : Nat → Nat) (w : World) : Calls Tryd.prog 24 #[.agg (rowOf (fTimer D C) 32), .agg (rowOf (fTimer D C) 32)] w fun e w' => e = .returned (.bool true) ∧ Below w.heap.size w w' := by
  obtain ⟨R0, R1, RB⟩ := two_rows (fTimer D C) (fTimer D C) 32 w 41 41
  go_enter Tryd.func24, Tryd.ntmps24
  go_wp2_with fail
  go_loopw [5] (fun i wr => ∃ k : Nat, k ≤ 16 ∧ i = .int .i64 k ∧ RowAt w.heap.size 0 32 (fTimer D C) wr ∧ RowAt (w.heap.size + 1) 0 32 (fTimer D C) wr ∧ Below w.heap.size w wr) (fun i _ => 16 - (intOf i).toNat)
  case atStart => exact ⟨0, by omega, rfl, R0, R1, RB⟩
  case round =>
    clear R0 R1 RB
    obtain ⟨k, hk, rfl, R0, R1, RB⟩ := hrel
    by_cases hlt : k < 16
    · have LA : ∀ w', Below wr.heap.size wr w' → w'.cell? ⟨w.heap.size, k * 2, none⟩ = some (.bool (D k)) ∧ w'.cell? ⟨w.heap.size, k * 2 + 1, none⟩ = some (.int .u16 (C k)) := fun w' hw' => ⟨by rw [(R0.below hw' R0.z).c0 (by omega), fTimer_0], by rw [(R0.below hw' R0.z).c0 (by omega), fTimer_1]⟩
      have LB : ∀ w', Below wr.heap.size wr w' → w'.cell? ⟨w.heap.size + 1, k * 2, none⟩ = some (.bool (D k)) ∧ w'.cell? ⟨w.heap.size + 1, k * 2 + 1, none⟩ = some (.int .u16 (C k)) := fun w' hw' => ⟨by rw [(R1.below hw' R1.z).c0 (by omega), fTimer_0], by rw [(R1.below hw' R1.z).c0 (by omega), fTimer_1]⟩
      go_wp2_with fail
      refine wp_region_belowM (by kernel_rfl) (by kernel_rfl) ?_
      quiet_step (exact fun _ => rfl)
      refine wpQuiet_step (fun K hK => ?_)
      go_simp
      refine ⟨_, fun _ _ => rfl, hK _ ?_⟩
      clear hK K
      refine wpQuiet_step (fun K hK => ?_)
      go_simp
      refine ⟨.agg #[.bool (D k), .int .u16 (C k)], fun w' hw' => ?_, hK _ ?_⟩
      · obtain ⟨c0, c1⟩ := LA w' hw'
        simp [c0, c1]
      clear hK K
      quiet_step (exact fun _ => rfl)
      refine wpQuiet_step (fun K hK => ?_)
      go_simp
      refine ⟨_, fun _ _ => rfl, hK _ ?_⟩
      clear hK K
      refine wpQuiet_step (fun K hK => ?_)
      go_simp
      refine ⟨.agg #[.bool (D k), .int .u16 (C k)], fun w' hw' => ?_, hK _ ?_⟩
      · obtain ⟨c0, c1⟩ := LB w' hw'
        simp [c0, c1]
      clear hK K
      refine wpQuiet_step (fun K hK => ?_)
      go_simp
      refine ⟨.bool true, fun w' hw' => (eq_tm (D k) (C k) w').mono fun e w'' ⟨he, hb⟩ => ⟨he, hw'.trans (hb.mono hw'.size)⟩, hK _ ?_⟩
      clear hK K
      quiet_step (exact fun _ => rfl)
      refine wpQuiet_nil ?_
      intro w1 hw1
      have R0' := R0.below hw1 R0.z
      have R1' := R1.below hw1 R1.z
      have RB' := RB.trans (hw1.mono RB.size)
      clear R0 R1 RB LA LB hw1
      go_wp2_with fail
      go_roundw
      case rel => exact ⟨k + 1, by omega, by go_num, R0', R1', RB'⟩
      case measure => simp [intOf]; omega
    · have e : k = 16 := by omega
      subst e
      go_wp2_with fail
      go_ret
      exact ⟨rfl, RB⟩

set_option maxRecDepth 100000 in
set_option maxHeartbeats 2000000 in
theorem eq_cts (D L : Nat → Bool) (C : Nat → Nat) (w : World) : Calls Tryd.prog 25 #[.agg (rowOf (fCounter D L C) 48), .agg (rowOf (fCounter D L C) 48)] w fun e w' => e = .returned (.bool true) ∧ Below w.heap.size w w' := by
  obtain ⟨R0, R1, RB⟩ := two_rows (fCounter D L C) (fCounter D L C) 48 w 43 43
  go_enter Tryd.func25, Tryd.ntmps25
  go_wp2_with fail
  go_loopw [5] (fun i wr => ∃ k : Nat, k ≤ 16 ∧ i = .int .i64 k ∧ RowAt w.heap.size 0 48 (fCounter D L C) wr ∧ RowAt (w.heap.size + 1) 0 48 (fCounter D L C) wr ∧ Below w.heap.size w wr) (fun i _ => 16 - (intOf i).toNat)
  case atStart => exact ⟨0, by omega, rfl, R0, R1, RB⟩
  case round =>
    clear R0 R1 RB
    obtain ⟨k, hk, rfl, R0, R1, RB⟩ := hrel
    by_cases hlt : k < 16
    · have LA : ∀ w', Below wr.heap.size wr w' → w'.cell? ⟨w.heap.size, k * 3, none⟩ = some (.bool (D k)) ∧ w'.cell? ⟨w.heap.size, k * 3 + 1, none⟩ = some (.bool (L k)) ∧ w'.cell? ⟨w.heap.size, k * 3 + 2, none⟩ = some (.int .u16 (C k)) := fun w' hw' => ⟨by rw [(R0.below hw' R0.z).c0 (by omega), fCounter_0], by rw [(R0.below hw' R0.z).c0 (by omega), fCounter_1], by rw [(R0.below hw' R0.z).c0 (by omega), fCounter_2]⟩
      have LB : ∀ w', Below wr.heap.size wr w' → w'.cell? ⟨w.heap.size + 1, k * 3, none⟩ = some (.bool (D k)) ∧ w'.cell? ⟨w.heap.size + 1, k * 3 + 1, none⟩ = some (.bool (L k)) ∧ w'.cell? ⟨w.heap.size + 1, k * 3 + 2, none⟩ = some (.int .u16 (C k)) := fun w' hw' => ⟨by rw [(R1.below hw' R1.z).c0 (by omega), fCounter_0], by rw [(R1.below hw' R1.z).c0 (by omega), fCounter_1], by rw [(R1.below hw' R1.z).c0 (by omega), fCounter_2]⟩
      go_wp2_with fail
      refine wp_region_belowM (by kernel_rfl) (by kernel_rfl) ?_
      quiet_step (exact fun _ => rfl)
      refine wpQuiet_step (fun K hK => ?_)
      go_simp
      refine ⟨_, fun _ _ => rfl, hK _ ?_⟩
      clear hK K
      refine wpQuiet_step (fun K hK => ?_)
      go_simp
      refine ⟨.agg #[.bool (D k), .bool (L k), .int .u16 (C k)], fun w' hw' => ?_, hK _ ?_⟩
      · obtain ⟨c0, c1, c2⟩ := LA w' hw'
        simp [c0, c1, c2]
      clear hK K
      quiet_step (exact fun _ => rfl)
      refine wpQuiet_step (fun K hK => ?_)
      go_simp
      refine ⟨_, fun _ _ => rfl, hK _ ?_⟩
      clear hK K
      refine wpQuiet_step (fun K hK => ?_)
      go_simp
      refine ⟨.agg #[.bool (D k), .bool (L k), .int .u16 (C k)], fun w' hw' => ?_, hK _ ?_⟩
      · obtain ⟨c0, c1, c2⟩ := LB w' hw'
        simp [c0, c1, c2]
      clear hK K
      refine wpQuiet_step (fun K hK => ?_)
      go_simp
      refine ⟨.bool true, fun w' hw' => (eq_ct (D k) (L k) (C k) w').mono fun e w'' ⟨he, hb⟩ => ⟨he, hw'.trans (hb.mono hw'.size)⟩, hK _ ?_⟩
      clear hK K
      quiet_step (exact fun _ => rfl)
      refine wpQuiet_nil ?_
      intro w1 hw1
      have R0' := R0.below hw1 R0.z
      have R1' := R1.below hw1 R1.z
      have RB' := RB.trans (hw1.mono RB.size)
      clear R0 R1 RB LA LB hw1
      go_wp2_with fail
      go_roundw
      case rel => exact ⟨k + 1, by omega, by go_num, R0', R1', RB'⟩
      case measure => simp [intOf]; omega
    · have e : k = 16 := by omega
      subst e
      go_wp2_with fail
      go_ret
      exact ⟨rfl, RB⟩

set_option maxRecDepth 100000 in
set_option maxHeartbeats 2000000 in
theorem eq_rls (r s : Nat → Nat) (w : World) (h : ∀ i, i < 16 → Same (r i) (s i)) : Calls Tryd.prog 27 #[.agg (rowOf (fReal r) 16), .agg (rowOf (fReal s) 16)] w fun e w' => e = .returned (.bool true) ∧ Below w.heap.size w w' := by
  obtain ⟨R0, R1, RB⟩ := two_rows (fReal r) (fReal s) 16 w 34 34
  go_enter Tryd.func27, Tryd.ntmps27
  go_wp2_with fail
  go_loopw [5] (fun i wr => ∃ k : Nat, k ≤ 16 ∧ i = .int .i64 k ∧ RowAt w.heap.size 0 16 (fReal r) wr ∧ RowAt (w.heap.size + 1) 0 16 (fReal s) wr ∧ Below w.heap.size w wr) (fun i _ => 16 - (intOf i).toNat)
  case atStart => exact ⟨0, by omega, rfl, R0, R1, RB⟩
  case round =>
    clear R0 R1 RB
    obtain ⟨k, hk, rfl, R0, R1, RB⟩ := hrel
    by_cases hlt : k < 16
    · have LA : ∀ w', Below wr.heap.size wr w' → w'.cell? ⟨w.heap.size, k, none⟩ = some (.float .f64 (r k)) := fun w' hw' => (R0.below hw' R0.z).c0 (by omega)
      have LB : ∀ w', Below wr.heap.size wr w' → w'.cell? ⟨w.heap.size + 1, k, none⟩ = some (.float .f64 (s k)) := fun w' hw' => (R1.below hw' R1.z).c0 (by omega)
      go_wp2_with fail
      refine wp_region_belowM (by kernel_rfl) (by kernel_rfl) ?_
      quiet_step (exact fun _ => rfl)
      refine wpQuiet_step (fun K hK => ?_)
      go_simp
      refine ⟨_, fun _ _ => rfl, hK _ ?_⟩
      clear hK K
      refine wpQuiet_step (fun K hK => ?_)
      go_simp
      refine ⟨.float .f64 (r k), fun w' hw' => ?_, hK _ ?_⟩
      · have c0 := LA w' hw'
        simp [c0]
      clear hK K
      quiet_step (exact fun _ => rfl)
      refine wpQuiet_step (fun K hK => ?_)
      go_simp
      refine ⟨_, fun _ _ => rfl, hK _ ?_⟩
      clear hK K
      refine wpQuiet_step (fun K hK => ?_)
      go_simp
      refine ⟨.float .f64 (s k), fun w' hw' => ?_, hK _ ?_⟩
      · have c0 := LB w' hw'
        simp [c0]
      clear hK K
      refine wpQuiet_step (fun K hK => ?_)
      go_simp
      refine ⟨.bool true, fun w' hw' => (same_flt w' (h k hlt)).mono fun e w'' ⟨he, hb⟩ => ⟨he, by rw [hb]; exact hw'⟩, hK _ ?_⟩
      clear hK K
      quiet_step (exact fun _ => rfl)
      refine wpQuiet_nil ?_
      intro w1 hw1
      have R0' := R0.below hw1 R0.z
      have R1' := R1.below hw1 R1.z
      have RB' := RB.trans (hw1.mono RB.size)
      clear R0 R1 RB LA LB hw1
      go_wp2_with fail
      go_roundw
      case rel => exact ⟨k + 1, by omega, by go_num, R0', R1', RB'⟩
      case measure => simp [intOf]; omega
    · have e : k = 16 := by omega
      subst e
      go_wp2_with fail
      go_ret
      exact ⟨rfl, RB⟩

set_option maxRecDepth 100000 in
set_option maxHeartbeats 2000000 in
theorem eq_its (D : Nat → Int) (w : World) : Calls Tryd.prog 26 #[.agg (rowOf (fInt D) 32), .agg (rowOf (fInt D) 32)] w fun e w' => e = .returned (.bool true) ∧ Below w.heap.size w w' := by
  obtain ⟨R0, R1, RB⟩ := two_rows (fInt D) (fInt D) 32 w 32 32
  go_enter Tryd.func26, Tryd.ntmps26
  go_wp2_with fail
  go_loopw [5] (fun i wr => ∃ k : Nat, k ≤ 32 ∧ i = .int .i64 k ∧ RowAt w.heap.size 0 32 (fInt D) wr ∧ RowAt (w.heap.size + 1) 0 32 (fInt D) wr ∧ Below w.heap.size w wr) (fun i _ => 32 - (intOf i).toNat)
  case atStart => exact ⟨0, by omega, rfl, R0, R1, RB⟩
  case round =>
    clear R0 R1 RB
    obtain ⟨k, hk, rfl, R0, R1, RB⟩ := hrel
    by_cases hlt : k < 32
    · have LA : ∀ w', Below wr.heap.size wr w' → w'.cell? ⟨w.heap.size, k, none⟩ = some (.int .i16 (D k)) := fun w' hw' => (R0.below hw' R0.z).c0 (by omega)
      have LB : ∀ w', Below wr.heap.size wr w' → w'.cell? ⟨w.heap.size + 1, k, none⟩ = some (.int .i16 (D k)) := fun w' hw' => (R1.below hw' R1.z).c0 (by omega)
      go_wp2_with fail
      refine wp_region_belowM (by kernel_rfl) (by kernel_rfl) ?_
      quiet_step (exact fun _ => rfl)
      refine wpQuiet_step (fun K hK => ?_)
      go_simp
      refine ⟨_, fun _ _ => rfl, hK _ ?_⟩
      clear hK K
      refine wpQuiet_step (fun K hK => ?_)
      go_simp
      refine ⟨.int .i16 (D k), fun w' hw' => ?_, hK _ ?_⟩
      · have c0 := LA w' hw'
        simp [c0]
      clear hK K
      quiet_step (exact fun _ => rfl)
      refine wpQuiet_step (fun K hK => ?_)
      go_simp
      refine ⟨_, fun _ _ => rfl, hK _ ?_⟩
      clear hK K
      refine wpQuiet_step (fun K hK => ?_)
      go_simp
      refine ⟨.int .i16 (D k), fun w' hw' => ?_, hK _ ?_⟩
      · have c0 := LB w' hw'
        simp [c0]
      clear hK K
      refine wpQuiet_step (fun K hK => ?_)
      go_simp
      refine ⟨_, fun _ _ => rfl, hK _ ?_⟩
      clear hK K
      refine wpQuiet_nil ?_
      intro w1 hw1
      have R0' := R0.below hw1 R0.z
      have R1' := R1.below hw1 R1.z
      have RB' := RB.trans (hw1.mono RB.size)
      clear R0 R1 RB LA LB hw1
      go_wp2_with fail
      go_roundw
      case rel => exact ⟨k + 1, by omega, by go_num, R0', R1', RB'⟩
      case measure => simp [intOf]; omega
    · have e : k = 32 := by omega
      subst e
      go_wp2_with fail
      go_ret
      exact ⟨rfl, RB⟩

/-- Two memories that came in, and are one: the second one's cells, told by the first. -/
structure Two (a : MemV) (s : Nat → Nat) (p q : Nat) (w : World) : Prop where
  A : MemAt p a w
  B : MemAt q { a with r := s } w

theorem Two.below {a : MemV} {s : Nat → Nat} {p q : Nat} {w w' : World} (h : Two a s p q w) (hb : Below w.heap.size w w') : Two a s p q w' := ⟨h.A.below hb h.A.z, h.B.below hb h.B.z⟩

theorem sameM_row {a b : MemV} (h : SameM a b) : b.row = ({ a with r := b.r } : MemV).row := by
  unfold MemV.row
  congr 1
  refine List.map_congr_left fun j hj => ?_
  have hj : j < 136 := by simpa using hj
  unfold MemV.cell
  simp only [h.x, h.y, h.m, h.s, h.e, h.time, h.ran, h.fault]
  by_cases h37 : j < 37
  · by_cases h5 : j < 5
    · have : j = 0 ∨ j = 1 ∨ j = 2 ∨ j = 3 ∨ j = 4 := by omega
      rcases this with rfl | rfl | rfl | rfl | rfl <;> rfl
    · rw [h.tD ((j - 5) / 2) (by omega), h.tC ((j - 5) / 2) (by omega)]
      simp only [h37, if_true]
  by_cases h85 : j < 85
  · rw [h.cD ((j - 37) / 3) (by omega), h.cL ((j - 37) / 3) (by omega), h.cC ((j - 37) / 3) (by omega)]
    simp only [h37, h85, if_true, if_false]
  by_cases h117 : j < 117
  · rw [h.d (j - 85) (by omega)]
    simp only [h37, h85, h117, if_true, if_false]
  · simp only [h37, h85, h117, if_false]

theorem two_in (a b : MemV) (w : World) (t1 t2 : TypeId) :
    MemAt w.heap.size a ((w.alloc (.cells a.row t1)).alloc (.cells b.row t2)) ∧ MemAt (w.heap.size + 1) b ((w.alloc (.cells a.row t1)).alloc (.cells b.row t2)) ∧ Below w.heap.size w ((w.alloc (.cells a.row t1)).alloc (.cells b.row t2)) := by
  have h1 : ∀ (w : World) (o : Obj), Below w.heap.size w (w.alloc o) := fun w o => (Below.refl _ _).alloc (Nat.le_refl _) _
  refine ⟨(MemAt.alloc a w t1).below (h1 _ _) (by simp), ?_, ((Below.refl w.heap.size w).alloc (Nat.le_refl _) _).alloc (by simp) _⟩
  have := MemAt.alloc b (w.alloc (.cells a.row t1)) t2
  simpa using this

set_option maxRecDepth 100000 in
set_option maxHeartbeats 2000000 in
theorem eq_mem {a b : MemV} (w : World) (h : SameM a b) : Calls Tryd.prog 13 #[.agg a.row, .agg b.row] w fun e w' => e = .returned (.bool true) ∧ Below w.heap.size w w' := by
  rw [sameM_row h]
  obtain ⟨s, hs⟩ : ∃ s, s = b.r := ⟨_, rfl⟩
  have hr : ∀ i, i < 16 → Same (a.r i) (s i) := hs ▸ h.r
  rw [← hs]
  clear hs h
  obtain ⟨A, B, BW⟩ := two_in a { a with r := s } w 45 45
  go_enter Tryd.func13, Tryd.ntmps13
  go_upto_region 1 with fail
  generalize ((w.alloc (.cells a.row 45)).alloc (.cells ({ a with r := s } : MemV).row 45)) = w0 at A B BW ⊢
  have TW : Hid (Two a s w.heap.size (w.heap.size + 1) w0) := ⟨A, B⟩
  have HB : Hid (Below w.heap.size w w0) := BW
  have c0 := A.c 0 (by omega)
  rw [MemV.cell_x] at c0
  have d0 := B.c 0 (by omega)
  rw [MemV.cell_x] at d0
  have c1 := A.c 1 (by omega)
  rw [MemV.cell_y] at c1
  have d1 := B.c 1 (by omega)
  rw [MemV.cell_y] at d1
  have c2 := A.c 2 (by omega)
  rw [MemV.cell_m] at c2
  have d2 := B.c 2 (by omega)
  rw [MemV.cell_m] at d2
  have c3 := A.c 3 (by omega)
  rw [MemV.cell_s] at c3
  have d3 := B.c 3 (by omega)
  rw [MemV.cell_s] at d3
  have c4 := A.c 4 (by omega)
  rw [MemV.cell_e] at c4
  have d4 := B.c 4 (by omega)
  rw [MemV.cell_e] at d4
  have L1 := load_row aTimer sTimer A.timers
  have L2 := load_row aTimer sTimer B.timers
  clear A B BW
  go_upto_region 11 with fail
  clear c0 d0 c1 d1 c2 d2 c3 d3 c4 d4
  go_wp2_with (first | (refine list_load (t := 41) (x := .pointer (some ⟨w.heap.size, 5, none⟩)) (u := .agg (rowOf (fTimer a.tD a.tC) 32)) rfl rfl rfl L1 ?_) | (refine list_load (t := 41) (x := .pointer (some ⟨w.heap.size + 1, 5, none⟩)) (u := .agg (rowOf (fTimer a.tD a.tC) 32)) rfl rfl rfl L2 ?_))
  refine (eq_tms a.tD a.tC _).mono ?_
  rintro e w1 ⟨rfl, hb⟩
  clear L1 L2
  have TW1 : Hid (Two a s w.heap.size (w.heap.size + 1) w1) := TW.out.below hb
  have HB1 : Hid (Below w.heap.size w w1) := HB.out.trans (hb.mono HB.out.size)
  clear hb TW HB
  have L1 := load_row aCounter sCounter TW1.out.A.counters
  have L2 := load_row aCounter sCounter TW1.out.B.counters
  go_wp2_with (first | (refine list_load (t := 43) (x := .pointer (some ⟨w.heap.size, 37, none⟩)) (u := .agg (rowOf (fCounter a.cD a.cL a.cC) 48)) rfl rfl rfl L1 ?_) | (refine list_load (t := 43) (x := .pointer (some ⟨w.heap.size + 1, 37, none⟩)) (u := .agg (rowOf (fCounter a.cD a.cL a.cC) 48)) rfl rfl rfl L2 ?_))
  refine (eq_cts a.cD a.cL a.cC _).mono ?_
  rintro e w2 ⟨rfl, hb⟩
  clear L1 L2
  have TW2 : Hid (Two a s w.heap.size (w.heap.size + 1) w2) := TW1.out.below hb
  have HB2 : Hid (Below w.heap.size w w2) := HB1.out.trans (hb.mono HB1.out.size)
  clear hb TW1 HB1
  have L1 := load_row aInt sInt TW2.out.A.ints
  have L2 := load_row aInt sInt TW2.out.B.ints
  go_wp2_with (first | (refine list_load (t := 32) (x := .pointer (some ⟨w.heap.size, 85, none⟩)) (u := .agg (rowOf (fInt a.d) 32)) rfl rfl rfl L1 ?_) | (refine list_load (t := 32) (x := .pointer (some ⟨w.heap.size + 1, 85, none⟩)) (u := .agg (rowOf (fInt a.d) 32)) rfl rfl rfl L2 ?_))
  refine (eq_its a.d _).mono ?_
  rintro e w3 ⟨rfl, hb⟩
  clear L1 L2
  have TW3 : Hid (Two a s w.heap.size (w.heap.size + 1) w3) := TW2.out.below hb
  have HB3 : Hid (Below w.heap.size w w3) := HB2.out.trans (hb.mono HB2.out.size)
  clear hb TW2 HB2
  have L1 := load_row aReal sReal TW3.out.A.reals
  have L2 := load_row aReal sReal TW3.out.B.reals
  go_wp2_with (first | (refine list_load (t := 34) (x := .pointer (some ⟨w.heap.size, 117, none⟩)) (u := .agg (rowOf (fReal a.r) 16)) rfl rfl rfl L1 ?_) | (refine list_load (t := 34) (x := .pointer (some ⟨w.heap.size + 1, 117, none⟩)) (u := .agg (rowOf (fReal s) 16)) rfl rfl rfl L2 ?_))
  refine (eq_rls a.r s _ hr).mono ?_
  rintro e w4 ⟨rfl, hb⟩
  clear L1 L2
  have TW4 : Hid (Two a s w.heap.size (w.heap.size + 1) w4) := TW3.out.below hb
  have HB4 : Hid (Below w.heap.size w w4) := HB3.out.trans (hb.mono HB3.out.size)
  clear hb TW3 HB3
  have c0 := TW4.out.A.c 133 (by omega)
  rw [MemV.cell_time] at c0
  have d0 := TW4.out.B.c 133 (by omega)
  rw [MemV.cell_time] at d0
  have c1 := TW4.out.A.c 134 (by omega)
  rw [MemV.cell_ran] at c1
  have d1 := TW4.out.B.c 134 (by omega)
  rw [MemV.cell_ran] at d1
  have c2 := TW4.out.A.c 135 (by omega)
  rw [MemV.cell_fault] at c2
  have d2 := TW4.out.B.c 135 (by omega)
  rw [MemV.cell_fault] at d2
  go_wp2_with fail
  go_ret
  exact ⟨rfl, HB4.out⟩

end Go.Proofs.YtdhoimjkgicneacDoor
