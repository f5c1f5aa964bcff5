/- At every memory and operand the program's MemWhole answers as the specification's: the law, walked. -/
import Derived.Test.YtdhoimjkgicneabDoorToArg
import Derived.Test.YtdhoimjkgicneabDoorRegB
import Derived.Test.YtdhoimjkgicneabDoorMemK
namespace Go.Proofs.YtdhoimjkgicneabDoor
open Go Go.RowKit

set_option maxRecDepth 100000 in
set_option maxHeartbeats 2000000 in
theorem law (v : MemV) (k n p : Int) (w : World) (hv : v.Ok) (T : KTab w) :
    Calls Tryd.prog 7 #[.agg v.row, .agg #[.int .i64 k, .int .i64 n, .int .i64 p]] w fun e w' => e = .returned (.bool true) ∧ Below w.heap.size w w' := by
  have IB : ∀ w', Below ((w.alloc (.cells v.row 55)).alloc (.cells #[.int .i64 k, .int .i64 n, .int .i64 p] 46)).heap.size ((w.alloc (.cells v.row 55)).alloc (.cells #[.int .i64 k, .int .i64 n, .int .i64 p] 46)) w' → _ := fun w' hw' => in_boxes v k n p w 55 46 hw'
  obtain ⟨r, hr⟩ : ∃ r, r = wholeZ v k n := ⟨_, rfl⟩
  have S1 : ∀ w, Calls Tryd.prog 23 #[.agg v.row, .agg #[.int .i64 k, .int .i64 n, .int .i64 p]] w fun e w' => e = .returned (.int .i16 r) ∧ Below w.heap.size w w' := fun w => hr ▸ spec_memwhole v k n p w hv
  have S2 : ∀ w, KTab w → Calls Tryd.prog 14 #[.agg v.row, .agg #[.int .i64 k, .int .i64 n, .int .i64 p]] w fun e w' => e = .returned (.int .i16 r) ∧ Below w.heap.size w w' := fun w T => hr ▸ impl_memwhole v k n p w hv T
  clear hr
  go_enter Tryd.func7, Tryd.ntmps7
  go_wp2_with fail
  have R0 := Below.refl ((w.alloc (.cells v.row 55)).alloc (.cells #[.int .i64 k, .int .i64 n, .int .i64 p] 46)).heap.size ((w.alloc (.cells v.row 55)).alloc (.cells #[.int .i64 k, .int .i64 n, .int .i64 p] 46))
  generalize ((w.alloc (.cells v.row 55)).alloc (.cells #[.int .i64 k, .int .i64 n, .int .i64 p] 46)) = w0 at IB R0 ⊢
  refine wp_region_belowM (by kernel_rfl) (by kernel_rfl) ?_
  refine quiet_load (t := 55) (v := .agg v.row) rfl rfl rfl (fun w' hw' => load_memL (IB w' (R0.trans (hw'.mono R0.size))).1) ?_
  refine wpQuiet_step (fun K hK => ?_)
  go_simp
  refine ⟨.agg v.row, fun w' hw' => (to_mem v w').mono fun e w'' ⟨he, hb⟩ => ⟨he, hw'.trans (hb.mono hw'.size)⟩, hK _ ?_⟩
  clear hK K
  refine wpQuiet_step (fun K hK => ?_)
  go_simp
  refine ⟨.agg #[.int .i64 k, .int .i64 n, .int .i64 p], fun w' hw' => ?_, hK _ ?_⟩
  · obtain ⟨-, c0, c1, c2, -⟩ := IB w' (R0.trans (hw'.mono R0.size))
    simp [c0, c1, c2]
  clear hK K
  refine wpQuiet_step (fun K hK => ?_)
  go_simp
  refine ⟨.agg #[.int .i64 k, .int .i64 n, .int .i64 p], fun w' hw' => (to_arg k n p w').mono fun e w'' ⟨he, hb⟩ => ⟨he, hw'.trans (hb.mono hw'.size)⟩, hK _ ?_⟩
  clear hK K
  refine wpQuiet_step (fun K hK => ?_)
  go_simp
  refine ⟨(.int .i16 r), fun w' hw' => (S1 w').mono fun e w'' ⟨he, hb⟩ => ⟨he, hw'.trans (hb.mono hw'.size)⟩, hK _ ?_⟩
  clear hK K
  quiet_step (exact fun _ => rfl)
  refine wpQuiet_nil ?_
  intro w1 hw
  have Rw1 := R0.trans (hw.mono R0.size)
  clear hw
  go_wp2_with fail
  refine wp_region_belowM (by kernel_rfl) (by kernel_rfl) ?_
  refine quiet_load (t := 55) (v := .agg v.row) rfl rfl rfl (fun w' hw' => load_memL (IB w' (Rw1.trans (hw'.mono Rw1.size))).1) ?_
  refine wpQuiet_step (fun K hK => ?_)
  go_simp
  refine ⟨.agg v.row, fun w' hw' => (to_mem v w').mono fun e w'' ⟨he, hb⟩ => ⟨he, hw'.trans (hb.mono hw'.size)⟩, hK _ ?_⟩
  clear hK K
  refine wpQuiet_step (fun K hK => ?_)
  go_simp
  refine ⟨.agg #[.int .i64 k, .int .i64 n, .int .i64 p], fun w' hw' => ?_, hK _ ?_⟩
  · obtain ⟨-, c0, c1, c2, -⟩ := IB w' (Rw1.trans (hw'.mono Rw1.size))
    simp [c0, c1, c2]
  clear hK K
  refine wpQuiet_step (fun K hK => ?_)
  go_simp
  refine ⟨.agg #[.int .i64 k, .int .i64 n, .int .i64 p], fun w' hw' => (to_arg k n p w').mono fun e w'' ⟨he, hb⟩ => ⟨he, hw'.trans (hb.mono hw'.size)⟩, hK _ ?_⟩
  clear hK K
  refine wpQuiet_step (fun K hK => ?_)
  go_simp
  refine ⟨(.int .i16 r), fun w' hw' => (S2 w' (T.below (IB w' (Rw1.trans (hw'.mono Rw1.size))).2.2.2.2 (Nat.le_refl _))).mono fun e w'' ⟨he, hb⟩ => ⟨he, hw'.trans (hb.mono hw'.size)⟩, hK _ ?_⟩
  clear hK K
  quiet_step (exact fun _ => rfl)
  refine wpQuiet_nil ?_
  intro w2 hw
  have Rw2 := Rw1.trans (hw.mono Rw1.size)
  clear hw
  have hB := (IB w2 Rw2).2.2.2.2
  clear IB S1 S2
  go_wp2
  go_ret
  exact ⟨rfl, hB⟩

end Go.Proofs.YtdhoimjkgicneabDoor
