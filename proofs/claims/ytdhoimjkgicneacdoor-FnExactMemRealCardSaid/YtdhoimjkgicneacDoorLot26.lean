/- Texts of this proof laid together: ReaB, ExReal. -/
import Derived.Test.YtdhoimjkgicneacDoorLot25
import Derived.Test.YtdhoimjkgicneacDoorLot9
import Derived.Test.YtdhoimjkgicneacDoorLot10
import Derived.Test.YtdhoimjkgicneacDoorLot11
import Derived.Test.YtdhoimjkgicneacDoorLot17
import Derived.Deep.RegionHeld
/- The specification's MemReal. -/
namespace Go.Proofs.YtdhoimjkgicneacDoor
open Go Go.RowKit

theorem same_any (x : Nat) : SameF x x := by
  rcases order_self x with h | ⟨s, t, h⟩
  · exact Or.inr ⟨rfl, h⟩
  · exact Or.inl ⟨order_nan_left h, order_nan_left h⟩

set_option maxHeartbeats 4000000 in
theorem spec_memreal (v : MemV) (k n p : Int) (w : World) :
    Calls Tryd.prog 6 #[.agg v.row, .agg #[.int .i64 k, .int .i64 n, .int .i64 p]] w fun e w' => ∃ y, e = .returned (.float .f64 y) ∧ SameF (realX v k n p) y ∧ Below w.heap.size w w' := by
  by_cases h1 : k = 10
  · subst h1
    obtain ⟨j, hj, hz, hc⟩ := at_nat 10 n p
    have e : realX v 10 n p = v.r j := by unfold realX; rw [if_pos rfl, hj]; rfl
    have h16 := atZ_lt (k := 10) (n := n) (s := 16) rfl (by omega)
    rw [hj] at h16
    rw [e]
    clear e hj
    have hlt : j < 16 := by omega
    go_enter Tryd.func6, Tryd.ntmps6
    go_wp2_with fail
    refine (hc _).mono ?_
    rintro e w1 ⟨rfl, hB⟩
    obtain ⟨hA, hC, hB⟩ := two_boxes v w w1 _ _ _ hB
    have c0 := hA.c (117 + j) (by omega)
    rw [MemV.cell_r v j hlt] at c0
    go_wp2_with fail
    go_ret
    exact ⟨_, rfl, same_any _, hB⟩
  · have e : realX v k n p = argX k n p := by unfold realX; rw [if_neg h1]
    rw [e]
    have h1 : (k == 10) = false := by simpa using h1
    clear e
    go_enter Tryd.func6, Tryd.ntmps6
    go_wp2_with fail
    refine (spec_arg k n p _).mono ?_
    rintro e w1 ⟨y, rfl, hs, hB⟩
    obtain ⟨hA, hC, hB⟩ := two_boxes v w w1 _ _ _ hB
    have HS : Hid (SameF (argX k n p) y) := hs
    clear hA hC hs
    go_wp2_with fail
    go_ret
    exact ⟨_, rfl, HS.out, hB⟩

end Go.Proofs.YtdhoimjkgicneacDoor

/- At every memory and operand the program's MemReal answers as the specification's: the law, walked. -/
namespace Go.Proofs.YtdhoimjkgicneacDoor
open Go Go.RowKit

theorem sameF_same {x y : Nat} (h : SameF x y) : Same x y := by
  rcases h with ⟨h1, h2⟩ | ⟨rfl, -⟩
  · refine Or.inl ⟨?_, ?_⟩
    · rcases order_self x with g | g
      · have g' : FloatKind.f64.format.order x x = some .eq := g
        rw [g'] at h1; cases h1
      · exact g
    · rcases order_self y with g | g
      · have g' : FloatKind.f64.format.order y y = some .eq := g
        rw [g'] at h2; cases h2
      · exact g
  · exact same_refl x
theorem load_arg {b : Nat} {x y z : Value} {w : World} (h0 : w.cell? ⟨b, 0, none⟩ = some x) (h1 : w.cell? ⟨b, 1, none⟩ = some y) (h2 : w.cell? ⟨b, 2, none⟩ = some z) :
    (Instr.loadAt 38 (.pointer (some ⟨b, 0, none⟩))).run Tryd.prog w = .ok (.agg #[x, y, z]) w := by
  have ha : (isAgg 38).run Tryd.prog w = .ok true w := by kernel_rfl
  have hs : (sizeOf 38).run Tryd.prog w = .ok 3 w := by kernel_rfl
  have hl : (loadCells ⟨b, 0, none⟩ 3).run Tryd.prog w = .ok #[x, y, z] w := run_loadCells (P := Tryd.prog) (w := w) ⟨b, 0, none⟩ 3 (fun i => if i = 0 then x else if i = 1 then y else z) (fun j hj => by
    have hj : j = 0 ∨ j = 1 ∨ j = 2 := by omega
    rcases hj with rfl | rfl | rfl
    · simpa [Addr.add] using h0
    · simpa [Addr.add] using h1
    · simpa [Addr.add] using h2)
  simp only [Instr.loadAt, Instr.sureAddr, Sem.run_bind, Sem.run_pure, Result.andThen, loadVar, ha, hs, if_true, hl]

set_option maxRecDepth 100000 in
set_option maxHeartbeats 2000000 in
theorem law (v : MemV) (k n p : Int) (w : World) (_hv : v.Ok) (T : KTab w) :
    Calls Tryd.prog 3 #[.agg v.row, .agg #[.int .i64 k, .int .i64 n, .int .i64 p]] w fun e w' => e = .returned (.bool true) ∧ Below w.heap.size w w' := by
  have IB : ∀ w', Below ((w.alloc (.cells v.row 36)).alloc (.cells #[.int .i64 k, .int .i64 n, .int .i64 p] 38)).heap.size ((w.alloc (.cells v.row 36)).alloc (.cells #[.int .i64 k, .int .i64 n, .int .i64 p] 38)) w' → _ := fun w' hw' => in_boxes v k n p w 36 38 hw'
  obtain ⟨r, hr⟩ : ∃ r, r = realX v k n p := ⟨_, rfl⟩
  have S1 : ∀ w, Calls Tryd.prog 6 #[.agg v.row, .agg #[.int .i64 k, .int .i64 n, .int .i64 p]] w fun e w' => ∃ y, e = .returned (.float .f64 y) ∧ SameF r y ∧ Below w.heap.size w w' := fun w => hr ▸ spec_memreal v k n p w
  have S2 : ∀ w, KTab w → Calls Tryd.prog 9 #[.agg v.row, .agg #[.int .i64 k, .int .i64 n, .int .i64 p]] w fun e w' => e = .returned (.float .f64 r) ∧ Below w.heap.size w w' := fun w T => hr ▸ impl_memreal v k n p w T
  clear hr
  go_enter Tryd.func3, Tryd.ntmps3
  go_upto_region 1 with fail
  have R0 := Below.refl ((w.alloc (.cells v.row 36)).alloc (.cells #[.int .i64 k, .int .i64 n, .int .i64 p] 38)).heap.size ((w.alloc (.cells v.row 36)).alloc (.cells #[.int .i64 k, .int .i64 n, .int .i64 p] 38))
  generalize ((w.alloc (.cells v.row 36)).alloc (.cells #[.int .i64 k, .int .i64 n, .int .i64 p] 38)) = w0 at IB R0 ⊢
  have hS : Below w0.heap.size w0 w0.drew := (Below.refl _ _).drew
  refine wp_region_held (S := Below w0.heap.size w0) (by kernel_rfl) ?_
  refine held_load (fuel := 5) (i := 0) (t := 36) (v := .agg v.row) rfl rfl rfl (by kernel_rfl) (by kernel_rfl) (by kernel_rfl) rfl (fun _ _ _ h => h) (fun w' hw' => load_memL (IB w' hw').1) hS ?_
  go_simp
  refine held_load (fuel := 4) (i := 2) (t := 38) (v := .agg #[.int .i64 k, .int .i64 n, .int .i64 p]) rfl rfl rfl (by kernel_rfl) (by kernel_rfl) (by kernel_rfl) rfl (fun _ _ _ h => h) (fun w' hw' => load_arg (IB w' hw').2.1 (IB w' hw').2.2.1 (IB w' hw').2.2.2.1) hS ?_
  go_simp
  refine wpAnyH_ready (rs := [1]) (by kernel_rfl) (by simp) ?_
  refine AllReadyH.cons rfl (fun K hK => ?_) AllReadyH.nil
  go_simp
  refine (to_mem v _).mono ?_
  rintro e x1 ⟨rfl, hb1⟩
  have hs1 := hS.trans (hb1.mono hS.size)
  clear hb1
  refine hK.out _ _ hs1 (fun _ => ?_)
  clear hK K
  go_simp
  refine wpAnyH_ready (rs := [3]) (by kernel_rfl) (by simp) ?_
  refine AllReadyH.cons rfl (fun K hK => ?_) AllReadyH.nil
  go_simp
  refine (to_arg k n p _).mono ?_
  rintro e x2 ⟨rfl, hb2⟩
  have hs2 := hs1.trans (hb2.mono hs1.size)
  clear hb2
  refine hK.out _ _ hs2 (fun _ => ?_)
  clear hK K
  go_simp
  refine wpAnyH_ready (rs := [4]) (by kernel_rfl) (by simp) ?_
  refine AllReadyH.cons rfl (fun K hK => ?_) AllReadyH.nil
  go_simp
  refine (S1 _).mono ?_
  rintro e x3 ⟨y, rfl, hy, hb3⟩
  have hs3 := hs2.trans (hb3.mono hs2.size)
  have HY : Hid (SameF r y) := hy
  clear hb3 hy
  refine hK.out _ _ hs3 (fun _ => ?_)
  clear hK K
  go_simp
  refine wpAnyH_ready (rs := [5]) (by kernel_rfl) (by simp) ?_
  refine AllReadyH.cons rfl (fun K hK => ?_) AllReadyH.nil
  go_simp
  refine hK.out _ _ hs3 (fun _ => ?_)
  clear hK K
  go_simp
  refine wpAnyH_done (by kernel_rfl) ?_ _
  clear hS hs1 hs2
  go_upto_region 2 with fail
  refine wp_region_belowM (by kernel_rfl) (by kernel_rfl) ?_
  refine quiet_load (t := 36) (v := .agg v.row) rfl rfl rfl (fun w' hw' => load_memL (IB w' (hs3.trans (hw'.mono hs3.size))).1) ?_
  refine wpQuiet_step (fun K hK => ?_)
  go_simp
  refine ⟨.agg v.row, fun w' hw' => (to_mem v w').mono fun e w'' ⟨he, hb⟩ => ⟨he, hw'.trans (hb.mono hw'.size)⟩, hK _ ?_⟩
  clear hK K
  refine wpQuiet_step (fun K hK => ?_)
  go_simp
  refine ⟨.agg #[.int .i64 k, .int .i64 n, .int .i64 p], fun w' hw' => ?_, hK _ ?_⟩
  · obtain ⟨-, c0, c1, c2, -⟩ := IB w' (hs3.trans (hw'.mono hs3.size))
    simp [c0, c1, c2]
  clear hK K
  refine wpQuiet_step (fun K hK => ?_)
  go_simp
  refine ⟨.agg #[.int .i64 k, .int .i64 n, .int .i64 p], fun w' hw' => (to_arg k n p w').mono fun e w'' ⟨he, hb⟩ => ⟨he, hw'.trans (hb.mono hw'.size)⟩, hK _ ?_⟩
  clear hK K
  refine wpQuiet_step (fun K hK => ?_)
  go_simp
  refine ⟨.float .f64 r, fun w' hw' => (S2 w' (T.below (IB w' (hs3.trans (hw'.mono hs3.size))).2.2.2.2 (Nat.le_refl _))).mono fun e w'' ⟨he, hb⟩ => ⟨he, hw'.trans (hb.mono hw'.size)⟩, hK _ ?_⟩
  clear hK K
  quiet_step (exact fun _ => rfl)
  refine wpQuiet_nil ?_
  intro w2 hw
  have hB := (IB w2 (hs3.trans (hw.mono hs3.size))).2.2.2.2
  clear IB S1 S2 hs3 hw R0
  go_wp2_with fail
  refine (same_flt w2 (sameF_same HY.out)).mono ?_
  rintro e w3 ⟨rfl, rfl⟩
  go_wp2_with fail
  go_ret
  exact ⟨rfl, hB⟩

end Go.Proofs.YtdhoimjkgicneacDoor
