/- Texts of this proof laid together: ToMem, ExMT. -/
import Derived.Test.YtdhoimjkgicneacDoorLot31
import Derived.Test.YtdhoimjkgicneacDoorLot25
import Derived.Test.YtdhoimjkgicneacDoorLot28
/- The laws' copy of a memory, as their argument comes in: its load. -/
namespace Go.Proofs.YtdhoimjkgicneacDoor
open Go Go.RowKit

theorem aMemL : ∀ w, (isAgg 36).run Tryd.prog w = .ok true w := fun _ => by kernel_rfl
theorem sMemL : ∀ w, (sizeOf 36).run Tryd.prog w = .ok 136 w := fun _ => by kernel_rfl
theorem load_memL {b : Nat} {v : MemV} {w : World} (h : MemAt b v w) : (Instr.loadAt 36 (.pointer (some ⟨b, 0, none⟩))).run Tryd.prog w = .ok (.agg v.row) w := load_row aMemL sMemL h.rowAt

end Go.Proofs.YtdhoimjkgicneacDoor

/- At every memory the program's MemText answers as the specification's: the law, walked. -/
namespace Go.Proofs.YtdhoimjkgicneacDoor
open Go Go.RowKit

set_option maxRecDepth 100000 in
set_option maxHeartbeats 800000 in
theorem law (v : MemV) (w : World) (hv : v.Ok) (T : Tabs w) :
    Calls Tryd.prog 5 #[.agg v.row] w fun e w' => e = .returned (.bool true) ∧ Below w.heap.size w w' := by
  obtain ⟨tx, ht⟩ := txts_ex v.r
  have hl : ∀ i, i < 16 → (tx i).length ≤ 50 := fun i _ => txt_len (ht i)
  have CS : ∀ w, Calls Tryd.prog 14 #[.agg v.row] w fun e w' => e = .returned (.string ⟨(textV v tx).toArray⟩) ∧ Below w.heap.size w w' := fun w => spec_mtext v tx w hv (fun i _ => ht i) hl
  have CI : ∀ w, Tabs w → Calls Tryd.prog 15 #[.agg v.row] w fun e w' => e = .returned (.string ⟨(textV v tx).toArray⟩) ∧ Below w.heap.size w w' := fun w T => impl_mtext v tx w hv (fun i _ => ht i) hl T
  have M0 : MemAt w.heap.size v (w.alloc (.cells v.row 36)) := MemAt.alloc v w 36
  have B0 : Below w.heap.size w (w.alloc (.cells v.row 36)) := (Below.refl _ _).alloc (Nat.le_refl _) _
  have TT : ∀ w', Below w.heap.size w w' → Tabs w' := fun w' hw' => T.below hw' (Nat.le_refl _)
  have H0 : Hid (MemAt w.heap.size v (w.alloc (.cells v.row 36)) ∧ Below w.heap.size w (w.alloc (.cells v.row 36))) := ⟨M0, B0⟩
  obtain ⟨A, hA⟩ : ∃ A, A = textV v tx := ⟨_, rfl⟩
  rw [← hA] at CS CI
  clear M0 B0 hl ht hv T hA
  go_enter Tryd.func5, Tryd.ntmps5
  go_upto_region 1 with fail
  generalize w.alloc (.cells v.row 36) = w1 at H0 ⊢
  have L1 := load_memL H0.out.1
  go_wp2_with (refine list_load (t := 36) rfl rfl rfl L1 ?_)
  clear L1
  refine (to_mem v w1).mono ?_
  rintro e w2 ⟨rfl, b2⟩
  have H2 : Hid (MemAt w.heap.size v w2 ∧ Below w.heap.size w w2) := ⟨H0.out.1.below b2 H0.out.1.z, H0.out.2.trans (b2.mono H0.out.2.size)⟩
  clear b2 H0
  go_wp2_with fail
  refine (CS w2).mono ?_
  rintro e w3 ⟨rfl, b3⟩
  have H3 : Hid (MemAt w.heap.size v w3 ∧ Below w.heap.size w w3) := ⟨H2.out.1.below b3 H2.out.1.z, H2.out.2.trans (b3.mono H2.out.2.size)⟩
  clear b3 H2 CS
  have L3 := load_memL H3.out.1
  go_wp2_with (refine list_load (t := 36) rfl rfl rfl L3 ?_)
  clear L3
  refine (to_mem v w3).mono ?_
  rintro e w4 ⟨rfl, b4⟩
  have H4 : Hid (Below w.heap.size w w4) := H3.out.2.trans (b4.mono H3.out.2.size)
  have C4 := CI w4 (TT w4 H4.out)
  clear b4 H3 CI
  go_wp2_with fail
  refine C4.mono ?_
  rintro e w5 ⟨rfl, b5⟩
  have H5 : Hid (Below w.heap.size w w5) := H4.out.trans (b5.mono H4.out.size)
  clear b5 H4 C4
  go_wp2_with fail
  go_ret
  exact ⟨rfl, H5.out⟩

end Go.Proofs.YtdhoimjkgicneacDoor
