/- At every memory, operand and value the program's MemPutReal answers as the specification's: the law, walked. -/
import Derived.Test.YtdhoimjkgicneacDoorToArg
import Derived.Test.YtdhoimjkgicneacDoorRegB
import Derived.Test.YtdhoimjkgicneacDoorRegH
import Derived.Deep.RegionHeld
import Derived.Test.YtdhoimjkgicneacDoorEqM
import Derived.Deep.CutRange
import Derived.Test.YtdhoimjkgicneacDoorMemKR
import Derived.Test.YtdhoimjkgicneacDoorMemLR
namespace Go.Proofs.YtdhoimjkgicneacDoor
open Go Go.RowKit

theorem same_self (v : MemV) : SameM v v := ⟨rfl, rfl, rfl, rfl, rfl, fun _ _ => rfl, fun _ _ => rfl, fun _ _ => rfl, fun _ _ => rfl, fun _ _ => rfl, fun _ _ => rfl, fun _ _ => same_refl _, rfl, rfl, rfl⟩

theorem fresh_mem {w w' : World} (hb : Below w.heap.size w w') : MemAt w'.heap.size mem0 (w'.alloc (.cells Tryd.zeroCells45 45)) ∧ Below w.heap.size w (w'.alloc (.cells Tryd.zeroCells45 45)) ∧ w.heap.size ≤ w'.heap.size := by
  rw [zero_row]
  exact ⟨MemAt.alloc mem0 w' _, hb.alloc hb.size _, hb.size⟩

theorem load_arg {b : Nat} {x y z : Value} {w : World} (h0 : w.cell? ⟨b, 0, none⟩ = some x) (h1 : w.cell? ⟨b, 1, none⟩ = some y) (h2 : w.cell? ⟨b, 2, none⟩ = some z) :
    (Instr.loadAt 38 (.pointer (some ⟨b, 0, none⟩))).run Tryd.prog w = .ok (.agg #[x, y, z]) w := by
  have ha : (isAgg 38).run Tryd.prog w = .ok true w := by kernel_rfl
  have hs : (sizeOf 38).run Tryd.prog w = .ok 3 w := by kernel_rfl
  have hl : (loadCells ⟨b, 0, none⟩ 3).run Tryd.prog w = .ok #[x, y, z] w := run_loadCells (P := Tryd.prog) (w := w) ⟨b, 0, none⟩ 3 (fun i => if i = 0 then x else if i = 1 then y else z) (fun j hj => by
    have hj : j = 0 ∨ j = 1 ∨ j = 2 := by omega
    rcases hj with rfl | rfl | rfl
    · simpa [Addr.add] using h0
    · simpa [Addr.add] using h1
    · simpa [Addr.add] using h2)
  simp only [Instr.loadAt, Instr.sureAddr, Sem.run_bind, Sem.run_pure, Result.andThen, loadVar, ha, hs, if_true, hl]

set_option maxRecDepth 100000 in
set_option maxHeartbeats 2000000 in
theorem law (v : MemV) (k n p : Int) (b : Nat) (w : World) (_hv : v.Ok) (_h1 : b < 2 ^ 64) (T : KTab w) :
    Calls Tryd.prog 4 #[.agg v.row, .agg #[.int .i64 k, .int .i64 n, .int .i64 p], .float .f64 b] w fun e w' => e = .returned (.bool true) ∧ Below w.heap.size w w' := by
  have IB : ∀ w', Below ((w.alloc (.cells v.row 36)).alloc (.cells #[.int .i64 k, .int .i64 n, .int .i64 p] 38)).heap.size ((w.alloc (.cells v.row 36)).alloc (.cells #[.int .i64 k, .int .i64 n, .int .i64 p] 38)) w' → _ := fun w' hw' => in_boxes v k n p w 36 38 hw'
  obtain ⟨r, hr⟩ : ∃ r, r = putR v k n b := ⟨_, rfl⟩
  have S1 : ∀ w, Calls Tryd.prog 11 #[.agg v.row, .agg #[.int .i64 k, .int .i64 n, .int .i64 p], .float .f64 b] w fun e w' => e = .returned (.agg r.row) ∧ Below w.heap.size w w' := fun w => hr ▸ spec_putreal v k n p b w
  have S2 : ∀ w, KTab w → Calls Tryd.prog 12 #[.agg v.row, .agg #[.int .i64 k, .int .i64 n, .int .i64 p], .float .f64 b] w fun e w' => e = .returned (.agg r.row) ∧ Below w.heap.size w w' := fun w T => hr ▸ impl_putreal v k n p b w T
  clear hr
  go_enter Tryd.func4, Tryd.ntmps4
  go_upto_region 1 with fail
  have R0 := Below.refl ((w.alloc (.cells v.row 36)).alloc (.cells #[.int .i64 k, .int .i64 n, .int .i64 p] 38)).heap.size ((w.alloc (.cells v.row 36)).alloc (.cells #[.int .i64 k, .int .i64 n, .int .i64 p] 38))
  generalize ((w.alloc (.cells v.row 36)).alloc (.cells #[.int .i64 k, .int .i64 n, .int .i64 p] 38)) = w0 at IB R0 ⊢
  go_cut [7] from 9 to 24 (fun s wx => ∃ q : Nat, s = .pointer (some ⟨q, 0, none⟩) ∧ MemAt q r wx ∧ Below w0.heap.size w0 wx)
  case first =>
    have hS : Below w0.heap.size w0 w0.drew := (Below.refl _ _).drew
    refine wp_region_held (S := Below w0.heap.size w0) (by kernel_rfl) ?_
    refine held_load (fuel := 7) (i := 0) (t := 36) (v := .agg v.row) rfl rfl rfl (by kernel_rfl) (by kernel_rfl) (by kernel_rfl) rfl (fun _ _ _ h => h) (fun w' hw' => load_memL (IB w' (R0.trans (hw'.mono R0.size))).1) hS ?_
    go_simp
    refine held_load (fuel := 6) (i := 2) (t := 38) (v := .agg #[.int .i64 k, .int .i64 n, .int .i64 p]) rfl rfl rfl (by kernel_rfl) (by kernel_rfl) (by kernel_rfl) rfl (fun _ _ _ h => h) (fun w' hw' => load_arg (IB w' (R0.trans (hw'.mono R0.size))).2.1 (IB w' (R0.trans (hw'.mono R0.size))).2.2.1 (IB w' (R0.trans (hw'.mono R0.size))).2.2.2.1) hS ?_
    go_simp
    refine held_any (fuel := 5) (i := 4) (v := .float .f64 b) rfl (by kernel_rfl) (by kernel_rfl) (by kernel_rfl) rfl (fun _ _ _ h => h) (fun _ _ => rfl) hS ?_
    go_simp
    refine wpAnyH_ready (rs := [1, 6]) (by kernel_rfl) (by simp) ?_
    refine AllReadyH.cons rfl (fun K hK => ?_) ?_
    · skip
      go_simp
      refine (to_mem v _).mono ?_
      rintro e x1 ⟨rfl, hb1⟩
      have hs1 := hS.trans (hb1.mono hS.size)
      clear hb1
      refine hK.out _ _ hs1 (fun _ => ?_)
      clear hK K
      go_simp
      refine wpAnyH_ready (rs := [3, 6]) (by kernel_rfl) (by simp) ?_
      refine AllReadyH.cons rfl (fun K hK => ?_) ?_
      · skip
        go_simp
        refine (to_arg k n p _).mono ?_
        rintro e x2 ⟨rfl, hb2⟩
        have hs2 := hs1.trans (hb2.mono hs1.size)
        clear hb2
        refine hK.out _ _ hs2 (fun _ => ?_)
        clear hK K
        go_simp
        refine wpAnyH_ready (rs := [5, 6]) (by kernel_rfl) (by simp) ?_
        refine AllReadyH.cons rfl (fun K hK => ?_) ?_
        · skip
          go_simp
          refine (S1 _).mono ?_
          rintro e x3 ⟨rfl, hb3⟩
          have hs3 := hs2.trans (hb3.mono hs2.size)
          clear hb3
          refine hK.out _ _ hs3 (fun _ => ?_)
          clear hK K
          go_simp
          refine wpAnyH_ready (rs := [6]) (by kernel_rfl) (by simp) ?_
          refine AllReadyH.cons rfl (fun K hK => ?_) ?_
          · skip
            obtain ⟨hm4, hs4, hz4⟩ := fresh_mem hs3
            go_simp
            refine hK.out _ _ hs4 (fun _ => ?_)
            clear hK K
            try go_simp
            refine wpAnyH_ready (rs := [7]) (by kernel_rfl) (by simp) ?_
            refine AllReadyH.cons rfl (fun K hK => ?_) ?_
            · skip
              rw [if_pos (by rfl)]
              have hst := setCells_below r.row.toList _ 0 hs4 (by first | omega | exact hz1 | exact hz2 | exact hz3 | exact hz4)
              refine op_store rfl (store_mem r hm4) ?_
              refine hK.out _ _ hst (fun _ => ?_)
              clear hK K
              go_simp
              refine wpAnyH_done (by kernel_rfl) ?_ _
              go_wp2_with fail
              go_meet
              case rel => exact ⟨_, rfl, hm4.stored r, hst⟩
            exact AllReadyH.nil
          exact AllReadyH.nil
        refine AllReadyH.cons rfl (fun K hK => ?_) ?_
        · skip
          obtain ⟨hm3, hs3, hz3⟩ := fresh_mem hs2
          go_simp
          refine hK.out _ _ hs3 (fun _ => ?_)
          clear hK K
          try go_simp
          refine wpAnyH_ready (rs := [5]) (by kernel_rfl) (by simp) ?_
          refine AllReadyH.cons rfl (fun K hK => ?_) ?_
          · skip
            go_simp
            refine (S1 _).mono ?_
            rintro e x4 ⟨rfl, hb4⟩
            have hs4 := hs3.trans (hb4.mono hs3.size)
            have hm4 := hm3.below hb4 hm3.z
            clear hb4
            refine hK.out _ _ hs4 (fun _ => ?_)
            clear hK K
            go_simp
            refine wpAnyH_ready (rs := [7]) (by kernel_rfl) (by simp) ?_
            refine AllReadyH.cons rfl (fun K hK => ?_) ?_
            · skip
              rw [if_pos (by rfl)]
              have hst := setCells_below r.row.toList _ 0 hs4 (by first | omega | exact hz1 | exact hz2 | exact hz3 | exact hz4)
              refine op_store rfl (store_mem r hm4) ?_
              refine hK.out _ _ hst (fun _ => ?_)
              clear hK K
              go_simp
              refine wpAnyH_done (by kernel_rfl) ?_ _
              go_wp2_with fail
              go_meet
              case rel => exact ⟨_, rfl, hm4.stored r, hst⟩
            exact AllReadyH.nil
          exact AllReadyH.nil
        exact AllReadyH.nil
      refine AllReadyH.cons rfl (fun K hK => ?_) ?_
      · skip
        obtain ⟨hm2, hs2, hz2⟩ := fresh_mem hs1
        go_simp
        refine hK.out _ _ hs2 (fun _ => ?_)
        clear hK K
        try go_simp
        refine wpAnyH_ready (rs := [3]) (by kernel_rfl) (by simp) ?_
        refine AllReadyH.cons rfl (fun K hK => ?_) ?_
        · skip
          go_simp
          refine (to_arg k n p _).mono ?_
          rintro e x3 ⟨rfl, hb3⟩
          have hs3 := hs2.trans (hb3.mono hs2.size)
          have hm3 := hm2.below hb3 hm2.z
          clear hb3
          refine hK.out _ _ hs3 (fun _ => ?_)
          clear hK K
          go_simp
          refine wpAnyH_ready (rs := [5]) (by kernel_rfl) (by simp) ?_
          refine AllReadyH.cons rfl (fun K hK => ?_) ?_
          · skip
            go_simp
            refine (S1 _).mono ?_
            rintro e x4 ⟨rfl, hb4⟩
            have hs4 := hs3.trans (hb4.mono hs3.size)
            have hm4 := hm3.below hb4 hm3.z
            clear hb4
            refine hK.out _ _ hs4 (fun _ => ?_)
            clear hK K
            go_simp
            refine wpAnyH_ready (rs := [7]) (by kernel_rfl) (by simp) ?_
            refine AllReadyH.cons rfl (fun K hK => ?_) ?_
            · skip
              rw [if_pos (by rfl)]
              have hst := setCells_below r.row.toList _ 0 hs4 (by first | omega | exact hz1 | exact hz2 | exact hz3 | exact hz4)
              refine op_store rfl (store_mem r hm4) ?_
              refine hK.out _ _ hst (fun _ => ?_)
              clear hK K
              go_simp
              refine wpAnyH_done (by kernel_rfl) ?_ _
              go_wp2_with fail
              go_meet
              case rel => exact ⟨_, rfl, hm4.stored r, hst⟩
            exact AllReadyH.nil
          exact AllReadyH.nil
        exact AllReadyH.nil
      exact AllReadyH.nil
    refine AllReadyH.cons rfl (fun K hK => ?_) ?_
    · skip
      obtain ⟨hm1, hs1, hz1⟩ := fresh_mem hS
      go_simp
      refine hK.out _ _ hs1 (fun _ => ?_)
      clear hK K
      try go_simp
      refine wpAnyH_ready (rs := [1]) (by kernel_rfl) (by simp) ?_
      refine AllReadyH.cons rfl (fun K hK => ?_) ?_
      · skip
        go_simp
        refine (to_mem v _).mono ?_
        rintro e x2 ⟨rfl, hb2⟩
        have hs2 := hs1.trans (hb2.mono hs1.size)
        have hm2 := hm1.below hb2 hm1.z
        clear hb2
        refine hK.out _ _ hs2 (fun _ => ?_)
        clear hK K
        go_simp
        refine wpAnyH_ready (rs := [3]) (by kernel_rfl) (by simp) ?_
        refine AllReadyH.cons rfl (fun K hK => ?_) ?_
        · skip
          go_simp
          refine (to_arg k n p _).mono ?_
          rintro e x3 ⟨rfl, hb3⟩
          have hs3 := hs2.trans (hb3.mono hs2.size)
          have hm3 := hm2.below hb3 hm2.z
          clear hb3
          refine hK.out _ _ hs3 (fun _ => ?_)
          clear hK K
          go_simp
          refine wpAnyH_ready (rs := [5]) (by kernel_rfl) (by simp) ?_
          refine AllReadyH.cons rfl (fun K hK => ?_) ?_
          · skip
            go_simp
            refine (S1 _).mono ?_
            rintro e x4 ⟨rfl, hb4⟩
            have hs4 := hs3.trans (hb4.mono hs3.size)
            have hm4 := hm3.below hb4 hm3.z
            clear hb4
            refine hK.out _ _ hs4 (fun _ => ?_)
            clear hK K
            go_simp
            refine wpAnyH_ready (rs := [7]) (by kernel_rfl) (by simp) ?_
            refine AllReadyH.cons rfl (fun K hK => ?_) ?_
            · skip
              rw [if_pos (by rfl)]
              have hst := setCells_below r.row.toList _ 0 hs4 (by first | omega | exact hz1 | exact hz2 | exact hz3 | exact hz4)
              refine op_store rfl (store_mem r hm4) ?_
              refine hK.out _ _ hst (fun _ => ?_)
              clear hK K
              go_simp
              refine wpAnyH_done (by kernel_rfl) ?_ _
              go_wp2_with fail
              go_meet
              case rel => exact ⟨_, rfl, hm4.stored r, hst⟩
            exact AllReadyH.nil
          exact AllReadyH.nil
        exact AllReadyH.nil
      exact AllReadyH.nil
    exact AllReadyH.nil
  case rest =>
  obtain ⟨q1, rfl, M1, B1⟩ := hcut
  obtain ⟨w1, rfl⟩ : ∃ w1, w1 = wc := ⟨_, rfl⟩
  have R1 := R0.trans (B1.mono R0.size)
  go_upto_region 2 with fail
  go_cut [8] from 9 to 24 (fun s wx => ∃ q : Nat, s = .pointer (some ⟨q, 0, none⟩) ∧ MemAt q r wx ∧ Below w1.heap.size w1 wx)
  case first =>
    have hS : Below w1.heap.size w1 w1.drew := (Below.refl _ _).drew
    refine wp_region_held (S := Below w1.heap.size w1) (by kernel_rfl) ?_
    refine held_load (fuel := 7) (i := 0) (t := 36) (v := .agg v.row) rfl rfl rfl (by kernel_rfl) (by kernel_rfl) (by kernel_rfl) rfl (fun _ _ _ h => h) (fun w' hw' => load_memL (IB w' (R1.trans (hw'.mono R1.size))).1) hS ?_
    go_simp
    refine held_load (fuel := 6) (i := 2) (t := 38) (v := .agg #[.int .i64 k, .int .i64 n, .int .i64 p]) rfl rfl rfl (by kernel_rfl) (by kernel_rfl) (by kernel_rfl) rfl (fun _ _ _ h => h) (fun w' hw' => load_arg (IB w' (R1.trans (hw'.mono R1.size))).2.1 (IB w' (R1.trans (hw'.mono R1.size))).2.2.1 (IB w' (R1.trans (hw'.mono R1.size))).2.2.2.1) hS ?_
    go_simp
    refine held_any (fuel := 5) (i := 4) (v := .float .f64 b) rfl (by kernel_rfl) (by kernel_rfl) (by kernel_rfl) rfl (fun _ _ _ h => h) (fun _ _ => rfl) hS ?_
    go_simp
    refine wpAnyH_ready (rs := [1, 6]) (by kernel_rfl) (by simp) ?_
    refine AllReadyH.cons rfl (fun K hK => ?_) ?_
    · skip
      go_simp
      refine (to_mem v _).mono ?_
      rintro e x1 ⟨rfl, hb1⟩
      have hs1 := hS.trans (hb1.mono hS.size)
      clear hb1
      refine hK.out _ _ hs1 (fun _ => ?_)
      clear hK K
      go_simp
      refine wpAnyH_ready (rs := [3, 6]) (by kernel_rfl) (by simp) ?_
      refine AllReadyH.cons rfl (fun K hK => ?_) ?_
      · skip
        go_simp
        refine (to_arg k n p _).mono ?_
        rintro e x2 ⟨rfl, hb2⟩
        have hs2 := hs1.trans (hb2.mono hs1.size)
        clear hb2
        refine hK.out _ _ hs2 (fun _ => ?_)
        clear hK K
        go_simp
        refine wpAnyH_ready (rs := [5, 6]) (by kernel_rfl) (by simp) ?_
        refine AllReadyH.cons rfl (fun K hK => ?_) ?_
        · skip
          go_simp
          refine (S2 _ (T.below (IB _ (R1.trans (hs2.mono R1.size))).2.2.2.2 (Nat.le_refl _))).mono ?_
          rintro e x3 ⟨rfl, hb3⟩
          have hs3 := hs2.trans (hb3.mono hs2.size)
          clear hb3
          refine hK.out _ _ hs3 (fun _ => ?_)
          clear hK K
          go_simp
          refine wpAnyH_ready (rs := [6]) (by kernel_rfl) (by simp) ?_
          refine AllReadyH.cons rfl (fun K hK => ?_) ?_
          · skip
            obtain ⟨hm4, hs4, hz4⟩ := fresh_mem hs3
            go_simp
            refine hK.out _ _ hs4 (fun _ => ?_)
            clear hK K
            try go_simp
            refine wpAnyH_ready (rs := [7]) (by kernel_rfl) (by simp) ?_
            refine AllReadyH.cons rfl (fun K hK => ?_) ?_
            · skip
              rw [if_pos (by rfl)]
              have hst := setCells_below r.row.toList _ 0 hs4 (by first | omega | exact hz1 | exact hz2 | exact hz3 | exact hz4)
              refine op_store rfl (store_mem r hm4) ?_
              refine hK.out _ _ hst (fun _ => ?_)
              clear hK K
              go_simp
              refine wpAnyH_done (by kernel_rfl) ?_ _
              go_wp2_with fail
              go_meet
              case rel => exact ⟨_, rfl, hm4.stored r, hst⟩
            exact AllReadyH.nil
          exact AllReadyH.nil
        refine AllReadyH.cons rfl (fun K hK => ?_) ?_
        · skip
          obtain ⟨hm3, hs3, hz3⟩ := fresh_mem hs2
          go_simp
          refine hK.out _ _ hs3 (fun _ => ?_)
          clear hK K
          try go_simp
          refine wpAnyH_ready (rs := [5]) (by kernel_rfl) (by simp) ?_
          refine AllReadyH.cons rfl (fun K hK => ?_) ?_
          · skip
            go_simp
            refine (S2 _ (T.below (IB _ (R1.trans (hs3.mono R1.size))).2.2.2.2 (Nat.le_refl _))).mono ?_
            rintro e x4 ⟨rfl, hb4⟩
            have hs4 := hs3.trans (hb4.mono hs3.size)
            have hm4 := hm3.below hb4 hm3.z
            clear hb4
            refine hK.out _ _ hs4 (fun _ => ?_)
            clear hK K
            go_simp
            refine wpAnyH_ready (rs := [7]) (by kernel_rfl) (by simp) ?_
            refine AllReadyH.cons rfl (fun K hK => ?_) ?_
            · skip
              rw [if_pos (by rfl)]
              have hst := setCells_below r.row.toList _ 0 hs4 (by first | omega | exact hz1 | exact hz2 | exact hz3 | exact hz4)
              refine op_store rfl (store_mem r hm4) ?_
              refine hK.out _ _ hst (fun _ => ?_)
              clear hK K
              go_simp
              refine wpAnyH_done (by kernel_rfl) ?_ _
              go_wp2_with fail
              go_meet
              case rel => exact ⟨_, rfl, hm4.stored r, hst⟩
            exact AllReadyH.nil
          exact AllReadyH.nil
        exact AllReadyH.nil
      refine AllReadyH.cons rfl (fun K hK => ?_) ?_
      · skip
        obtain ⟨hm2, hs2, hz2⟩ := fresh_mem hs1
        go_simp
        refine hK.out _ _ hs2 (fun _ => ?_)
        clear hK K
        try go_simp
        refine wpAnyH_ready (rs := [3]) (by kernel_rfl) (by simp) ?_
        refine AllReadyH.cons rfl (fun K hK => ?_) ?_
        · skip
          go_simp
          refine (to_arg k n p _).mono ?_
          rintro e x3 ⟨rfl, hb3⟩
          have hs3 := hs2.trans (hb3.mono hs2.size)
          have hm3 := hm2.below hb3 hm2.z
          clear hb3
          refine hK.out _ _ hs3 (fun _ => ?_)
          clear hK K
          go_simp
          refine wpAnyH_ready (rs := [5]) (by kernel_rfl) (by simp) ?_
          refine AllReadyH.cons rfl (fun K hK => ?_) ?_
          · skip
            go_simp
            refine (S2 _ (T.below (IB _ (R1.trans (hs3.mono R1.size))).2.2.2.2 (Nat.le_refl _))).mono ?_
            rintro e x4 ⟨rfl, hb4⟩
            have hs4 := hs3.trans (hb4.mono hs3.size)
            have hm4 := hm3.below hb4 hm3.z
            clear hb4
            refine hK.out _ _ hs4 (fun _ => ?_)
            clear hK K
            go_simp
            refine wpAnyH_ready (rs := [7]) (by kernel_rfl) (by simp) ?_
            refine AllReadyH.cons rfl (fun K hK => ?_) ?_
            · skip
              rw [if_pos (by rfl)]
              have hst := setCells_below r.row.toList _ 0 hs4 (by first | omega | exact hz1 | exact hz2 | exact hz3 | exact hz4)
              refine op_store rfl (store_mem r hm4) ?_
              refine hK.out _ _ hst (fun _ => ?_)
              clear hK K
              go_simp
              refine wpAnyH_done (by kernel_rfl) ?_ _
              go_wp2_with fail
              go_meet
              case rel => exact ⟨_, rfl, hm4.stored r, hst⟩
            exact AllReadyH.nil
          exact AllReadyH.nil
        exact AllReadyH.nil
      exact AllReadyH.nil
    refine AllReadyH.cons rfl (fun K hK => ?_) ?_
    · skip
      obtain ⟨hm1, hs1, hz1⟩ := fresh_mem hS
      go_simp
      refine hK.out _ _ hs1 (fun _ => ?_)
      clear hK K
      try go_simp
      refine wpAnyH_ready (rs := [1]) (by kernel_rfl) (by simp) ?_
      refine AllReadyH.cons rfl (fun K hK => ?_) ?_
      · skip
        go_simp
        refine (to_mem v _).mono ?_
        rintro e x2 ⟨rfl, hb2⟩
        have hs2 := hs1.trans (hb2.mono hs1.size)
        have hm2 := hm1.below hb2 hm1.z
        clear hb2
        refine hK.out _ _ hs2 (fun _ => ?_)
        clear hK K
        go_simp
        refine wpAnyH_ready (rs := [3]) (by kernel_rfl) (by simp) ?_
        refine AllReadyH.cons rfl (fun K hK => ?_) ?_
        · skip
          go_simp
          refine (to_arg k n p _).mono ?_
          rintro e x3 ⟨rfl, hb3⟩
          have hs3 := hs2.trans (hb3.mono hs2.size)
          have hm3 := hm2.below hb3 hm2.z
          clear hb3
          refine hK.out _ _ hs3 (fun _ => ?_)
          clear hK K
          go_simp
          refine wpAnyH_ready (rs := [5]) (by kernel_rfl) (by simp) ?_
          refine AllReadyH.cons rfl (fun K hK => ?_) ?_
          · skip
            go_simp
            refine (S2 _ (T.below (IB _ (R1.trans (hs3.mono R1.size))).2.2.2.2 (Nat.le_refl _))).mono ?_
            rintro e x4 ⟨rfl, hb4⟩
            have hs4 := hs3.trans (hb4.mono hs3.size)
            have hm4 := hm3.below hb4 hm3.z
            clear hb4
            refine hK.out _ _ hs4 (fun _ => ?_)
            clear hK K
            go_simp
            refine wpAnyH_ready (rs := [7]) (by kernel_rfl) (by simp) ?_
            refine AllReadyH.cons rfl (fun K hK => ?_) ?_
            · skip
              rw [if_pos (by rfl)]
              have hst := setCells_below r.row.toList _ 0 hs4 (by first | omega | exact hz1 | exact hz2 | exact hz3 | exact hz4)
              refine op_store rfl (store_mem r hm4) ?_
              refine hK.out _ _ hst (fun _ => ?_)
              clear hK K
              go_simp
              refine wpAnyH_done (by kernel_rfl) ?_ _
              go_wp2_with fail
              go_meet
              case rel => exact ⟨_, rfl, hm4.stored r, hst⟩
            exact AllReadyH.nil
          exact AllReadyH.nil
        exact AllReadyH.nil
      exact AllReadyH.nil
    exact AllReadyH.nil
  case rest =>
  obtain ⟨q2, rfl, M2, B2⟩ := hcut
  have L3 := load_mem M2
  have L4 := load_mem (M1.below B2 M1.z)
  have HH : Hid (Below w.heap.size w wc) := (IB _ (R1.trans (B2.mono R1.size))).2.2.2.2
  clear M1 M2 B1 B2 R0 R1 IB S1 S2
  go_wp2_with (first | (refine list_load (t := 45) (x := .pointer (some ⟨q2, 0, none⟩)) (u := .agg r.row) rfl rfl rfl L3 ?_) | (refine list_load (t := 45) (x := .pointer (some ⟨q1, 0, none⟩)) (u := .agg r.row) rfl rfl rfl L4 ?_))
  refine (eq_mem _ (same_self r)).mono ?_
  rintro e w5 ⟨rfl, hb⟩
  have HB5 : Hid (Below w.heap.size w w5) := HH.out.trans (hb.mono HH.out.size)
  clear hb HH L3 L4
  go_wp2_with fail
  go_ret
  exact ⟨rfl, HB5.out⟩

end Go.Proofs.YtdhoimjkgicneacDoor
