/- At every two memories the program's MemSame answers as the specification's: the law, walked. -/
import Derived.Test.YtdhoimjkgicneabMsX
import Derived.Test.YtdhoimjkgicneabToMemp
namespace Go.Proofs.Ytdhoimjkgicneab
open Go Go.RowKit

theorem in_two (a b : MemV) (w : World) (t1 t2 : TypeId) {w' : World} (hb : Below ((w.alloc (.cells a.row t1)).alloc (.cells b.row t2)).heap.size ((w.alloc (.cells a.row t1)).alloc (.cells b.row t2)) w') :
    MemAt w.heap.size a w' ∧ MemAt (w.heap.size + 1) b w' ∧ Below w.heap.size w w' := by
  obtain ⟨A, B, BW⟩ := two_mems a b w t1 t2
  exact ⟨A.below hb A.z, B.below hb B.z, BW.trans (hb.mono BW.size)⟩

set_option maxRecDepth 100000 in
set_option maxHeartbeats 2000000 in
theorem law (a b : MemV) (w : World) (ha : a.Ok) (hb : b.Ok) :
    Calls Try.prog 8 #[.agg a.row, .agg b.row] w fun e w' => e = .returned (.bool true) ∧ Below w.heap.size w w' := by
  have IB : ∀ w', Below ((w.alloc (.cells a.row 71)).alloc (.cells b.row 71)).heap.size ((w.alloc (.cells a.row 71)).alloc (.cells b.row 71)) w' → _ := fun w' hw' => in_two a b w 71 71 hw'
  obtain ⟨q, hq⟩ : ∃ q : Bool, q = true ↔ SameM a b := by
    by_cases h : SameM a b
    · exact ⟨true, by simp [h]⟩
    · exact ⟨false, by simp [h]⟩
  have S1 : ∀ w, Calls Try.prog 29 #[.agg a.row, .agg b.row] w fun e w' => e = .returned (.bool q) ∧ Below w.heap.size w w' := fun w => (spec_same a b w).mono fun e w' ⟨q', h1, h2, h3⟩ => ⟨by rw [h1, show q' = q from by rw [Bool.eq_iff_iff, h2, hq]], h3⟩
  have S2 : ∀ w, Calls Try.prog 24 #[.agg a.row, .agg b.row] w fun e w' => e = .returned (.bool q) ∧ Below w.heap.size w w' := fun w => (impl_same a b ha hb w).mono fun e w' ⟨q', h1, h2, h3⟩ => ⟨by rw [h1, show q' = q from by rw [Bool.eq_iff_iff, h2, hq]], h3⟩
  clear hq
  go_enter Try.func8, Try.ntmps8
  go_wp2_with fail
  have R0 := Below.refl ((w.alloc (.cells a.row 71)).alloc (.cells b.row 71)).heap.size ((w.alloc (.cells a.row 71)).alloc (.cells b.row 71))
  generalize ((w.alloc (.cells a.row 71)).alloc (.cells b.row 71)) = w0 at IB R0 ⊢
  refine wp_region_belowM (by kernel_rfl) (by kernel_rfl) ?_
  refine quiet_load (t := 71) (v := .agg a.row) rfl rfl rfl (fun w' hw' => load_memL (IB w' (R0.trans (hw'.mono R0.size))).1) ?_
  go_simp
  refine wpQuiet_step (fun K hK => ?_)
  go_simp
  refine ⟨.agg a.row, fun w' hw' => (to_mem a w').mono fun e w'' ⟨he, hb⟩ => ⟨he, hw'.trans (hb.mono hw'.size)⟩, hK _ ?_⟩
  clear hK K
  refine quiet_load (t := 71) (v := .agg b.row) rfl rfl rfl (fun w' hw' => load_memL (IB w' (R0.trans (hw'.mono R0.size))).2.1) ?_
  go_simp
  refine wpQuiet_step (fun K hK => ?_)
  go_simp
  refine ⟨.agg b.row, fun w' hw' => (to_mem b w').mono fun e w'' ⟨he, hb⟩ => ⟨he, hw'.trans (hb.mono hw'.size)⟩, hK _ ?_⟩
  clear hK K
  refine wpQuiet_step (fun K hK => ?_)
  go_simp
  refine ⟨.bool q, fun w' hw' => (S1 w').mono fun e w'' ⟨he, hb⟩ => ⟨he, hw'.trans (hb.mono hw'.size)⟩, hK _ ?_⟩
  clear hK K
  quiet_step (exact fun _ => rfl)
  refine wpQuiet_nil ?_
  intro w1 hw
  have Rw1 := R0.trans (hw.mono R0.size)
  clear hw
  go_wp2_with fail
  refine wp_region_belowM (by kernel_rfl) (by kernel_rfl) ?_
  refine quiet_load (t := 71) (v := .agg a.row) rfl rfl rfl (fun w' hw' => load_memL (IB w' (Rw1.trans (hw'.mono Rw1.size))).1) ?_
  go_simp
  refine wpQuiet_step (fun K hK => ?_)
  go_simp
  refine ⟨.agg a.row, fun w' hw' => (to_mem a w').mono fun e w'' ⟨he, hb⟩ => ⟨he, hw'.trans (hb.mono hw'.size)⟩, hK _ ?_⟩
  clear hK K
  refine quiet_load (t := 71) (v := .agg b.row) rfl rfl rfl (fun w' hw' => load_memL (IB w' (Rw1.trans (hw'.mono Rw1.size))).2.1) ?_
  go_simp
  refine wpQuiet_step (fun K hK => ?_)
  go_simp
  refine ⟨.agg b.row, fun w' hw' => (to_mem b w').mono fun e w'' ⟨he, hb⟩ => ⟨he, hw'.trans (hb.mono hw'.size)⟩, hK _ ?_⟩
  clear hK K
  refine wpQuiet_step (fun K hK => ?_)
  go_simp
  refine ⟨.bool q, fun w' hw' => (S2 w').mono fun e w'' ⟨he, hb⟩ => ⟨he, hw'.trans (hb.mono hw'.size)⟩, hK _ ?_⟩
  clear hK K
  quiet_step (exact fun _ => rfl)
  refine wpQuiet_nil ?_
  intro w2 hw
  have Rw2 := Rw1.trans (hw.mono Rw1.size)
  clear hw
  cases q
  all_goals
    go_wp2_with fail
    go_ret
    exact ⟨rfl, (IB _ Rw2).2.2⟩

end Go.Proofs.Ytdhoimjkgicneab
