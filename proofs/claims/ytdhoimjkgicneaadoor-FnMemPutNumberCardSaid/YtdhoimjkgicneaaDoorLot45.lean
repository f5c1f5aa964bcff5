/- Texts of this proof laid together: PutC, DevKT. -/
import Derived.Test.YtdhoimjkgicneaaDoorLot42
import Derived.Test.YtdhoimjkgicneaaDoorLot43
import Derived.Test.YtdhoimjkgicneaaDoorLot44
import Derived.Deep.CutRange
import Derived.Test.YtdhoimjkgicneaaDoorLot24
import Derived.Deep.RegionHeld
import Derived.Test.YtdhoimjkgicneaaDoorLot27
import Derived.Test.YtdhoimjkgicneaaDoorLot34
import Derived.Lib.LaidTab
import Derived.OpenShut
/- The law that a number that is put changes that register and nothing else, walked. -/
namespace Go.Proofs.YtdhoimjkgicneaaDoor.PutD
open Go Go.RowKit Go.Proofs.YtdhoimjkgicneaaDoor.PutB

theorem pheld_skip {P : Program} {ops : Array Oper} {Q : Exit → Act → World → Prop} {md : Region.Mode} {S : World → Prop} {fuel : Nat} {ls : Array Bool} {a : Act} {w : World} {i : Nat} {o : Oper} (hi : ops[i]? = some o) (hs : Region.noSelect ops = true) (hf : Region.free md ops ls i = true) (hr : (Region.ready md ops ls).contains i = true)
    (hg : Region.wanted o (yielded ops a.tmps) = false) (hQ : ∀ c a w, Q (.panic c) (a.put o.dst undef) w → Q (.panic c) a w) (hS : S w)
    (h : wpAnyH P md ops Q S fuel (ls.setIfInBounds i true) (a.put o.dst undef) w) : wpAnyH P md ops Q S (fuel + 1) ls a w :=
  wpAnyH_take hi hs hf hr hQ (Or.inr ⟨hg, rfl⟩) hS h

set_option maxRecDepth 100000 in
set_option maxHeartbeats 8000000 in
theorem law_short (a0 a1 : Option Addr) (l0 c0 l1 c1 : Nat) (w : World) (T : KTab w) (h0 : l0 ≤ 1048576) (h1 : l1 ≤ 1048576) (C0 : CodeAt (.slice a0 l0 c0) w) (C1 : CodeAt (.slice a1 l1 c1) w) :
    Calls Tryd.prog 9 #[.slice a0 l0 c0, .slice a1 l1 c1] w fun e w' => e = .returned (.bool true) ∧ Below w.heap.size w w' := by
  go_enter Tryd.func9, Tryd.ntmps9
  go_wp2_with fail
  refine (draw_putW _ w C0).mono ?_
  rintro e w1 ⟨m, k, n, p, z, hm, hz, rfl, hb⟩
  obtain ⟨hz1, hz2⟩ := hz
  have Hz : Hid (-32768 ≤ z ∧ z ≤ 32767) := ⟨hz1, hz2⟩
  clear hz1 hz2
  obtain ⟨Z, Y, D⟩ := drew_of (m := m) (k := k) (n := n) (p := p) hb 61 24
  have L1 := store_mem m Z
  have L2 := Y.store (x' := .int .i64 k) (y' := .int .i64 n) (z' := .int .i64 p) rfl rfl rfl
  clear Z Y hb C0
  generalize ((((w1.alloc (.cells Tryd.zeroCells61 61)).alloc (.cells #[.int .i64 0, .int .i64 0, .int .i64 0] 24)).setCells w1.heap.size 0 m.row.toList).setCells (w1.heap.size + 1) 0 [.int .i64 k, .int .i64 n, .int .i64 p]) = w2 at D L2
  go_upto_region 4 with (refine list_store (t := 61) (x := .pointer (some ⟨w1.heap.size, 0, none⟩)) (u := .agg m.row) rfl rfl rfl rfl L1 ?_; refine list_store (t := 24) (x := .pointer (some ⟨w1.heap.size + 1, 0, none⟩)) (u := .agg #[.int .i64 k, .int .i64 n, .int .i64 p]) rfl rfl rfl rfl L2 ?_; simp only [Act.put]; clear L1 L2)
  generalize w1.heap.size = q at D ⊢
  obtain ⟨M2, G2, BW2⟩ := D
  go_wp2_with fail
  refine (draw_putR _ w2 (C1.below BW2)).mono ?_
  rintro e w3 ⟨m', k', n', p', x, hm', hx, rfl, hb3⟩
  have Hx : Hid (x < 18446744073709551616) := hx
  clear hx
  obtain ⟨Z, Y, D⟩ := drew_of (m := m') (k := k') (n := n') (p := p') hb3 61 24
  have L1 := store_mem m' Z
  have L2 := Y.store (x' := .int .i64 k') (y' := .int .i64 n') (z' := .int .i64 p') rfl rfl rfl
  clear Z Y hb3
  generalize ((((w3.alloc (.cells Tryd.zeroCells61 61)).alloc (.cells #[.int .i64 0, .int .i64 0, .int .i64 0] 24)).setCells w3.heap.size 0 m'.row.toList).setCells (w3.heap.size + 1) 0 [.int .i64 k', .int .i64 n', .int .i64 p']) = w4 at D L2
  go_upto_region 5 with (refine list_store (t := 61) (x := .pointer (some ⟨w3.heap.size, 0, none⟩)) (u := .agg m'.row) rfl rfl rfl rfl L1 ?_; refine list_store (t := 24) (x := .pointer (some ⟨w3.heap.size + 1, 0, none⟩)) (u := .agg #[.int .i64 k', .int .i64 n', .int .i64 p']) rfl rfl rfl rfl L2 ?_; simp only [Act.put]; clear L1 L2)
  generalize w3.heap.size = q' at D ⊢
  obtain ⟨N4, O4, BW4'⟩ := D
  have M4 := M2.below BW4' M2.z
  have G4 := G2.below BW4' G2.lt
  have BW4 := BW2.trans (BW4'.mono BW2.size)
  have T4 : KTab w4 := T.below BW4 (Nat.le_refl _)
  clear BW4' M2 G2 BW2 C1
  obtain ⟨was, hwas⟩ : ∃ was, was = wholeZ m k n := ⟨_, rfl⟩
  have CW : ∀ w, KTab w → Calls Tryd.prog 43 #[.agg m.row, .agg #[.int .i64 k, .int .i64 n, .int .i64 p]] w fun e w' => e = .returned (.int .i16 was) ∧ Below w.heap.size w w' := fun w T => hwas ▸ impl_memwhole m k n p w hm T
  have Hwas : Hid (was = wholeZ m k n) := hwas
  clear hwas
  obtain ⟨r, hr⟩ : ∃ r, r = putW m k n z := ⟨_, rfl⟩
  have CP : ∀ w, KTab w → Calls Tryd.prog 46 #[.agg m.row, .agg #[.int .i64 k, .int .i64 n, .int .i64 p], .int .i16 z] w fun e w' => e = .returned (.agg r.row) ∧ Below w.heap.size w w' := fun w T => hr ▸ impl_putwhole m k n p z w T
  have Hr : Hid (r = putW m k n z) := hr
  clear hr
  go_upto_region 6 with (refine list_load (t := 61) rfl rfl rfl (load_mem M4) ?_; refine list_load (t := 24) rfl rfl rfl G4.load ?_)
  refine (CW w4 T4).mono ?_
  rintro e w5 ⟨rfl, hw5⟩
  have M5 := M4.below hw5 M4.z
  have G5 := G4.below hw5 G4.lt
  have N5 := N4.below hw5 N4.z
  have O5 := O4.below hw5 O4.lt
  have BW5 := BW4.trans (hw5.mono BW4.size)
  have T5 : KTab w5 := T.below BW5 (Nat.le_refl _)
  clear M4 G4 N4 O4 BW4 T4 hw5 CW
  go_upto_region 6 with fail
  go_upto_region 7 with (refine list_load (t := 61) rfl rfl rfl (load_mem M5) ?_; refine list_load (t := 24) rfl rfl rfl G5.load ?_)
  refine (CP w5 T5).mono ?_
  rintro e w6 ⟨rfl, hw6⟩
  have M6 := M5.below hw6 M5.z
  have G6 := G5.below hw6 G5.lt
  have N6 := N5.below hw6 N5.z
  have O6 := O5.below hw6 O5.lt
  have BW6 := BW5.trans (hw6.mono BW5.size)
  clear M5 G5 N5 O5 BW5 T5 CP hw6
  obtain ⟨Z, S, D5⟩ := box_of (m := m) (k := k) (n := n) (p := p) r BW6 M6 G6
  have N7 := (N6.below ((Below.refl w6.heap.size w6).alloc (Nat.le_refl _) (.cells Tryd.zeroCells61 61)) N6.z).other (c := w6.heap.size) (o := 0) (vs := r.row.toList) (Nat.ne_of_lt N6.z)
  have O7 := (O6.below ((Below.refl w6.heap.size w6).alloc (Nat.le_refl _) (.cells Tryd.zeroCells61 61)) O6.lt).other (c := w6.heap.size) (o := 0) (vs := r.row.toList) (Nat.ne_of_lt O6.lt)
  generalize ((w6.alloc (.cells Tryd.zeroCells61 61)).setCells w6.heap.size 0 r.row.toList) = w7 at D5 S N7 O7
  clear M6 G6 N6 O6 BW6
  go_upto_region 7 with (refine list_store (t := 61) (x := .pointer (some ⟨w6.heap.size, 0, none⟩)) (u := .agg r.row) rfl rfl rfl rfl S ?_; simp only [Act.put]; clear S Z)
  generalize w6.heap.size = q7 at D5 ⊢
  obtain ⟨M7, P7, G7, BW7⟩ := D5
  have TT : ∀ w', Below w7.heap.size w7 w' → KTab w' := fun w' hw' => T.below (BW7.trans (hw'.mono BW7.size)) (Nat.le_refl _)
  have hrm : r.Ok := by rw [Hr.out]; exact putW_ok hm Hz.out.1 Hz.out.2
  obtain ⟨old, hold⟩ : ∃ old, old = realX m' k' n' p' := ⟨_, rfl⟩
  have CO : ∀ w, KTab w → Calls Tryd.prog 47 #[.agg m'.row, .agg #[.int .i64 k', .int .i64 n', .int .i64 p']] w fun e w' => e = .returned (.float .f64 old) ∧ Below w.heap.size w w' := fun w T => hold ▸ impl_memreal m' k' n' p' w T
  have Hold : Hid (old = realX m' k' n' p') := hold
  clear hold
  obtain ⟨r2, hr2⟩ : ∃ r2, r2 = putR m' k' n' x := ⟨_, rfl⟩
  have CQ : ∀ w, KTab w → Calls Tryd.prog 48 #[.agg m'.row, .agg #[.int .i64 k', .int .i64 n', .int .i64 p'], .float .f64 x] w fun e w' => e = .returned (.agg r2.row) ∧ Below w.heap.size w w' := fun w T => hr2 ▸ impl_putreal m' k' n' p' x w T
  have Hr2 : Hid (r2 = putR m' k' n' x) := hr2
  clear hr2
  go_cut [71] from 42 to 71 (fun s wx => s = .bool false ∧ Below w7.heap.size w7 wx)
  case first =>
    have hS : Below w7.heap.size w7 w7.drew := (Below.refl _ _).drew
    by_cases hk : k = 9
    · subst hk
      have CX : ∀ w, KTab w → Calls Tryd.prog 43 #[.agg r.row, .agg #[.int .i64 9, .int .i64 n, .int .i64 p]] w fun e w' => e = .returned (.int .i16 z) ∧ Below w.heap.size w w' := by
        have h1 : wholeZ r 9 n = z := by rw [Hr.out]; exact putW_there m n z
        intro w T
        have h2 := impl_memwhole r 9 n p w hrm T
        rw [h1] at h2
        exact h2
      have CY : ∀ w, KTab w → Calls Tryd.prog 46 #[.agg r.row, .agg #[.int .i64 9, .int .i64 n, .int .i64 p], .int .i16 was] w fun e w' => e = .returned (.agg m.row) ∧ Below w.heap.size w w' := by
        have h1 : putW r 9 n was = m := by rw [Hr.out, Hwas.out]; exact putW_back m n z
        intro w T
        have h2 := impl_putwhole r 9 n p was w T
        rw [h1] at h2
        exact h2
      have CZ : ∀ w, Calls Tryd.prog 41 #[.agg m.row, .agg m.row] w fun e w' => e = .returned (.bool true) ∧ Below w.heap.size w w' := fun w => same_true hm hm (same_self m) w
      refine wp_region_held (S := Below w7.heap.size w7) (by kernel_rfl) ?_
      refine held_any (fuel := 29) (i := 0) (v := .pointer (some ⟨q + 1, 0, none⟩)) rfl (by kernel_rfl) (by kernel_rfl) (by kernel_rfl) rfl (fun _ _ _ h => h) (fun _ _ => by simp [go_sem]) hS ?_
      go_simp
      refine held_load (fuel := 28) (i := 1) (t := 3) (v := .int .i64 9) rfl rfl rfl (by kernel_rfl) (by kernel_rfl) (by kernel_rfl) rfl (fun _ _ _ h => h) (fun w' hw' => load_int (G7.below hw' G7.lt).c0) hS ?_
      go_simp
      refine held_any (fuel := 27) (i := 2) (v := .bool false) rfl (by kernel_rfl) (by kernel_rfl) (by kernel_rfl) rfl (fun _ _ _ h => h) (fun _ _ => by go_simp) hS ?_
      go_simp
      refine held_any (fuel := 26) (i := 3) (v := .bool false) rfl (by kernel_rfl) (by kernel_rfl) (by kernel_rfl) rfl (fun _ _ _ h => h) (fun _ _ => rfl) hS ?_
      go_simp
      refine pheld_skip (fuel := 25) (i := 4) rfl (by kernel_rfl) (by kernel_rfl) (by kernel_rfl) rfl (fun _ _ _ h => h) hS ?_
      go_simp
      refine pheld_skip (fuel := 24) (i := 5) rfl (by kernel_rfl) (by kernel_rfl) (by kernel_rfl) rfl (fun _ _ _ h => h) hS ?_
      go_simp
      refine pheld_skip (fuel := 23) (i := 6) rfl (by kernel_rfl) (by kernel_rfl) (by kernel_rfl) rfl (fun _ _ _ h => h) hS ?_
      go_simp
      refine pheld_skip (fuel := 22) (i := 7) rfl (by kernel_rfl) (by kernel_rfl) (by kernel_rfl) rfl (fun _ _ _ h => h) hS ?_
      go_simp
      refine held_any (fuel := 21) (i := 8) (v := .bool false) rfl (by kernel_rfl) (by kernel_rfl) (by kernel_rfl) rfl (fun _ _ _ h => h) (fun _ _ => rfl) hS ?_
      go_simp
      refine held_any (fuel := 20) (i := 9) (v := .bool false) rfl (by kernel_rfl) (by kernel_rfl) (by kernel_rfl) rfl (fun _ _ _ h => h) (fun _ _ => rfl) hS ?_
      go_simp
      refine held_any (fuel := 19) (i := 10) (v := .pointer (some ⟨q + 1, 0, none⟩)) rfl (by kernel_rfl) (by kernel_rfl) (by kernel_rfl) rfl (fun _ _ _ h => h) (fun _ _ => by simp [go_sem]) hS ?_
      go_simp
      refine held_load (fuel := 18) (i := 11) (t := 3) (v := .int .i64 9) rfl rfl rfl (by kernel_rfl) (by kernel_rfl) (by kernel_rfl) rfl (fun _ _ _ h => h) (fun w' hw' => load_int (G7.below hw' G7.lt).c0) hS ?_
      go_simp
      refine held_any (fuel := 17) (i := 12) (v := .bool true) rfl (by kernel_rfl) (by kernel_rfl) (by kernel_rfl) rfl (fun _ _ _ h => h) (fun _ _ => by go_simp) hS ?_
      go_simp
      refine held_any (fuel := 16) (i := 13) (v := .bool true) rfl (by kernel_rfl) (by kernel_rfl) (by kernel_rfl) rfl (fun _ _ _ h => h) (fun _ _ => rfl) hS ?_
      go_simp
      refine held_load (fuel := 15) (i := 14) (t := 61) (v := .agg r.row) rfl rfl rfl (by kernel_rfl) (by kernel_rfl) (by kernel_rfl) rfl (fun _ _ _ h => h) (fun w' hw' => load_mem (P7.below hw' P7.z)) hS ?_
      go_simp
      refine held_load (fuel := 14) (i := 15) (t := 24) (v := .agg #[.int .i64 9, .int .i64 n, .int .i64 p]) rfl rfl rfl (by kernel_rfl) (by kernel_rfl) (by kernel_rfl) rfl (fun _ _ _ h => h) (fun w' hw' => (G7.below hw' G7.lt).load) hS ?_
      go_simp
      refine held_any (fuel := 13) (i := 17) (v := .int .i16 z) rfl (by kernel_rfl) (by kernel_rfl) (by kernel_rfl) rfl (fun _ _ _ h => h) (fun _ _ => rfl) hS ?_
      go_simp
      refine wpAnyH_ready (rs := [16]) (by kernel_rfl) (by simp) ?_
      refine AllReadyH.cons rfl (fun K hK => ?_) AllReadyH.nil
      go_simp
      refine (CX _ (TT _ hS)).mono ?_
      rintro e ax0 ⟨rfl, bx0⟩
      have ahT0 := hS.trans (bx0.mono hS.size)
      refine hK.out _ _ ahT0 (fun _ => ?_)
      clear hK K bx0
      go_simp
      refine held_any (fuel := 11) (i := 18) (v := .bool false) rfl (by kernel_rfl) (by kernel_rfl) (by kernel_rfl) rfl (fun _ _ _ h => h) (fun _ _ => by go_simp) ahT0 ?_
      go_simp
      refine held_any (fuel := 10) (i := 19) (v := .bool false) rfl (by kernel_rfl) (by kernel_rfl) (by kernel_rfl) rfl (fun _ _ _ h => h) (fun _ _ => rfl) ahT0 ?_
      go_simp
      refine held_load (fuel := 9) (i := 20) (t := 61) (v := .agg r.row) rfl rfl rfl (by kernel_rfl) (by kernel_rfl) (by kernel_rfl) rfl (fun _ _ _ h => h) (fun w' hw' => load_mem (P7.below hw' P7.z)) ahT0 ?_
      go_simp
      refine held_load (fuel := 8) (i := 21) (t := 24) (v := .agg #[.int .i64 9, .int .i64 n, .int .i64 p]) rfl rfl rfl (by kernel_rfl) (by kernel_rfl) (by kernel_rfl) rfl (fun _ _ _ h => h) (fun w' hw' => (G7.below hw' G7.lt).load) ahT0 ?_
      go_simp
      refine held_any (fuel := 7) (i := 22) (v := .int .i16 was) rfl (by kernel_rfl) (by kernel_rfl) (by kernel_rfl) rfl (fun _ _ _ h => h) (fun _ _ => rfl) ahT0 ?_
      go_simp
      refine held_load (fuel := 6) (i := 24) (t := 61) (v := .agg m.row) rfl rfl rfl (by kernel_rfl) (by kernel_rfl) (by kernel_rfl) rfl (fun _ _ _ h => h) (fun w' hw' => load_mem (M7.below hw' M7.z)) ahT0 ?_
      go_simp
      refine wpAnyH_ready (rs := [23]) (by kernel_rfl) (by simp) ?_
      refine AllReadyH.cons rfl (fun K hK => ?_) AllReadyH.nil
      go_simp
      refine (CY _ (TT _ ahT0)).mono ?_
      rintro e ax1 ⟨rfl, bx1⟩
      have ahT1 := ahT0.trans (bx1.mono ahT0.size)
      refine hK.out _ _ ahT1 (fun _ => ?_)
      clear hK K bx1
      go_simp
      refine wpAnyH_ready (rs := [25]) (by kernel_rfl) (by simp) ?_
      refine AllReadyH.cons rfl (fun K hK => ?_) AllReadyH.nil
      go_simp
      refine (CZ _).mono ?_
      rintro e ax2 ⟨rfl, bx2⟩
      have ahT2 := ahT1.trans (bx2.mono ahT1.size)
      refine hK.out _ _ ahT2 (fun _ => ?_)
      clear hK K bx2
      go_simp
      refine held_any (fuel := 3) (i := 26) (v := .bool false) rfl (by kernel_rfl) (by kernel_rfl) (by kernel_rfl) rfl (fun _ _ _ h => h) (fun _ _ => by go_simp) ahT2 ?_
      go_simp
      refine held_any (fuel := 2) (i := 27) (v := .bool false) rfl (by kernel_rfl) (by kernel_rfl) (by kernel_rfl) rfl (fun _ _ _ h => h) (fun _ _ => rfl) ahT2 ?_
      go_simp
      refine held_any (fuel := 1) (i := 28) (v := .bool false) rfl (by kernel_rfl) (by kernel_rfl) (by kernel_rfl) rfl (fun _ _ _ h => h) (fun _ _ => rfl) ahT2 ?_
      go_simp
      refine held_any (fuel := 0) (i := 29) (v := .bool false) rfl (by kernel_rfl) (by kernel_rfl) (by kernel_rfl) rfl (fun _ _ _ h => h) (fun _ _ => rfl) ahT2 ?_
      go_simp
      refine wpAnyH_done (by kernel_rfl) ?_ _
      go_wp2_with fail
      go_meet
      case rel => exact ⟨rfl, ahT2⟩
    · have e0 : r = m := Hr.out.trans (putW_none m z hk)
      have CS : ∀ w, Calls Tryd.prog 41 #[.agg r.row, .agg m.row] w fun e w' => e = .returned (.bool true) ∧ Below w.heap.size w w' := fun w => same_true hrm hm (e0 ▸ same_self r) w
      have hk9 : (k == 9) = false := by simpa using hk
      have hk9' : (k != 9) = true := by simpa using hk
      clear e0
      refine wp_region_held (S := Below w7.heap.size w7) (by kernel_rfl) ?_
      refine held_any (fuel := 29) (i := 0) (v := .pointer (some ⟨q + 1, 0, none⟩)) rfl (by kernel_rfl) (by kernel_rfl) (by kernel_rfl) rfl (fun _ _ _ h => h) (fun _ _ => by simp [go_sem]) hS ?_
      go_simp
      refine held_load (fuel := 28) (i := 1) (t := 3) (v := .int .i64 k) rfl rfl rfl (by kernel_rfl) (by kernel_rfl) (by kernel_rfl) rfl (fun _ _ _ h => h) (fun w' hw' => load_int (G7.below hw' G7.lt).c0) hS ?_
      go_simp
      refine held_any (fuel := 27) (i := 2) (v := .bool true) rfl (by kernel_rfl) (by kernel_rfl) (by kernel_rfl) rfl (fun _ _ _ h => h) (fun _ _ => by go_simp) hS ?_
      go_simp
      refine held_any (fuel := 26) (i := 3) (v := .bool true) rfl (by kernel_rfl) (by kernel_rfl) (by kernel_rfl) rfl (fun _ _ _ h => h) (fun _ _ => rfl) hS ?_
      go_simp
      refine held_load (fuel := 25) (i := 4) (t := 61) (v := .agg r.row) rfl rfl rfl (by kernel_rfl) (by kernel_rfl) (by kernel_rfl) rfl (fun _ _ _ h => h) (fun w' hw' => load_mem (P7.below hw' P7.z)) hS ?_
      go_simp
      refine held_load (fuel := 24) (i := 5) (t := 61) (v := .agg m.row) rfl rfl rfl (by kernel_rfl) (by kernel_rfl) (by kernel_rfl) rfl (fun _ _ _ h => h) (fun w' hw' => load_mem (M7.below hw' M7.z)) hS ?_
      go_simp
      refine wpAnyH_ready (rs := [6]) (by kernel_rfl) (by simp) ?_
      refine AllReadyH.cons rfl (fun K hK => ?_) AllReadyH.nil
      go_simp
      refine (CS _).mono ?_
      rintro e ax0 ⟨rfl, bx0⟩
      have ahT0 := hS.trans (bx0.mono hS.size)
      refine hK.out _ _ ahT0 (fun _ => ?_)
      clear hK K bx0
      go_simp
      refine held_any (fuel := 22) (i := 7) (v := .bool false) rfl (by kernel_rfl) (by kernel_rfl) (by kernel_rfl) rfl (fun _ _ _ h => h) (fun _ _ => by go_simp) ahT0 ?_
      go_simp
      refine held_any (fuel := 21) (i := 8) (v := .bool false) rfl (by kernel_rfl) (by kernel_rfl) (by kernel_rfl) rfl (fun _ _ _ h => h) (fun _ _ => rfl) ahT0 ?_
      go_simp
      refine held_any (fuel := 20) (i := 9) (v := .bool false) rfl (by kernel_rfl) (by kernel_rfl) (by kernel_rfl) rfl (fun _ _ _ h => h) (fun _ _ => rfl) ahT0 ?_
      go_simp
      refine held_any (fuel := 19) (i := 10) (v := .pointer (some ⟨q + 1, 0, none⟩)) rfl (by kernel_rfl) (by kernel_rfl) (by kernel_rfl) rfl (fun _ _ _ h => h) (fun _ _ => by simp [go_sem]) ahT0 ?_
      go_simp
      refine held_load (fuel := 18) (i := 11) (t := 3) (v := .int .i64 k) rfl rfl rfl (by kernel_rfl) (by kernel_rfl) (by kernel_rfl) rfl (fun _ _ _ h => h) (fun w' hw' => load_int (G7.below hw' G7.lt).c0) ahT0 ?_
      go_simp
      refine held_any (fuel := 17) (i := 12) (v := .bool false) rfl (by kernel_rfl) (by kernel_rfl) (by kernel_rfl) rfl (fun _ _ _ h => h) (fun _ _ => by go_simp) ahT0 ?_
      go_simp
      refine held_any (fuel := 16) (i := 13) (v := .bool false) rfl (by kernel_rfl) (by kernel_rfl) (by kernel_rfl) rfl (fun _ _ _ h => h) (fun _ _ => rfl) ahT0 ?_
      go_simp
      refine pheld_skip (fuel := 15) (i := 14) rfl (by kernel_rfl) (by kernel_rfl) (by kernel_rfl) rfl (fun _ _ _ h => h) ahT0 ?_
      go_simp
      refine pheld_skip (fuel := 14) (i := 15) rfl (by kernel_rfl) (by kernel_rfl) (by kernel_rfl) rfl (fun _ _ _ h => h) ahT0 ?_
      go_simp
      refine pheld_skip (fuel := 13) (i := 16) rfl (by kernel_rfl) (by kernel_rfl) (by kernel_rfl) rfl (fun _ _ _ h => h) ahT0 ?_
      go_simp
      refine pheld_skip (fuel := 12) (i := 17) rfl (by kernel_rfl) (by kernel_rfl) (by kernel_rfl) rfl (fun _ _ _ h => h) ahT0 ?_
      go_simp
      refine pheld_skip (fuel := 11) (i := 18) rfl (by kernel_rfl) (by kernel_rfl) (by kernel_rfl) rfl (fun _ _ _ h => h) ahT0 ?_
      go_simp
      refine pheld_skip (fuel := 10) (i := 19) rfl (by kernel_rfl) (by kernel_rfl) (by kernel_rfl) rfl (fun _ _ _ h => h) ahT0 ?_
      go_simp
      refine pheld_skip (fuel := 9) (i := 20) rfl (by kernel_rfl) (by kernel_rfl) (by kernel_rfl) rfl (fun _ _ _ h => h) ahT0 ?_
      go_simp
      refine pheld_skip (fuel := 8) (i := 21) rfl (by kernel_rfl) (by kernel_rfl) (by kernel_rfl) rfl (fun _ _ _ h => h) ahT0 ?_
      go_simp
      refine pheld_skip (fuel := 7) (i := 22) rfl (by kernel_rfl) (by kernel_rfl) (by kernel_rfl) rfl (fun _ _ _ h => h) ahT0 ?_
      go_simp
      refine pheld_skip (fuel := 6) (i := 23) rfl (by kernel_rfl) (by kernel_rfl) (by kernel_rfl) rfl (fun _ _ _ h => h) ahT0 ?_
      go_simp
      refine pheld_skip (fuel := 5) (i := 24) rfl (by kernel_rfl) (by kernel_rfl) (by kernel_rfl) rfl (fun _ _ _ h => h) ahT0 ?_
      go_simp
      refine pheld_skip (fuel := 4) (i := 25) rfl (by kernel_rfl) (by kernel_rfl) (by kernel_rfl) rfl (fun _ _ _ h => h) ahT0 ?_
      go_simp
      refine pheld_skip (fuel := 3) (i := 26) rfl (by kernel_rfl) (by kernel_rfl) (by kernel_rfl) rfl (fun _ _ _ h => h) ahT0 ?_
      go_simp
      refine pheld_skip (fuel := 2) (i := 27) rfl (by kernel_rfl) (by kernel_rfl) (by kernel_rfl) rfl (fun _ _ _ h => h) ahT0 ?_
      go_simp
      refine held_any (fuel := 1) (i := 28) (v := .bool false) rfl (by kernel_rfl) (by kernel_rfl) (by kernel_rfl) rfl (fun _ _ _ h => h) (fun _ _ => rfl) ahT0 ?_
      go_simp
      refine held_any (fuel := 0) (i := 29) (v := .bool false) rfl (by kernel_rfl) (by kernel_rfl) (by kernel_rfl) rfl (fun _ _ _ h => h) (fun _ _ => rfl) ahT0 ?_
      go_simp
      refine wpAnyH_done (by kernel_rfl) ?_ _
      go_wp2_with fail
      go_meet
      case rel => exact ⟨rfl, ahT0⟩
  case rest =>
  obtain ⟨rfl, hw8⟩ := hcut
  obtain ⟨w8, rfl⟩ : ∃ v, v = wc := ⟨_, rfl⟩
  have N8 := N7.below hw8 N7.z
  have O8 := O7.below hw8 O7.lt
  have BW8 := BW7.trans (hw8.mono BW7.size)
  clear M7 P7 G7 N7 O7 BW7 TT hw8
  go_upto_region 9 with fail
  go_upto_region 10 with (refine list_load (t := 61) rfl rfl rfl (load_mem N8) ?_; refine list_load (t := 24) rfl rfl rfl O8.load ?_)
  refine (CO w8 (T.below BW8 (Nat.le_refl _))).mono ?_
  rintro e w9 ⟨rfl, hw9⟩
  have N9 := N8.below hw9 N8.z
  have O9 := O8.below hw9 O8.lt
  have BW9 := BW8.trans (hw9.mono BW8.size)
  have T9 : KTab w9 := T.below BW9 (Nat.le_refl _)
  clear N8 O8 BW8 hw9 CO
  go_upto_region 10 with fail
  go_upto_region 11 with (refine list_load (t := 61) rfl rfl rfl (load_mem N9) ?_; refine list_load (t := 24) rfl rfl rfl O9.load ?_)
  refine (CQ w9 T9).mono ?_
  rintro e w10 ⟨rfl, hw10⟩
  have N10 := N9.below hw10 N9.z
  have O10 := O9.below hw10 O9.lt
  have BW10 := BW9.trans (hw10.mono BW9.size)
  clear N9 O9 BW9 T9 CQ hw10
  obtain ⟨Z, S, D5⟩ := box_of (m := m') (k := k') (n := n') (p := p') r2 BW10 N10 O10
  generalize ((w10.alloc (.cells Tryd.zeroCells61 61)).setCells w10.heap.size 0 r2.row.toList) = w11 at D5 S
  clear N10 O10 BW10
  go_upto_region 11 with (refine list_store (t := 61) (x := .pointer (some ⟨w10.heap.size, 0, none⟩)) (u := .agg r2.row) rfl rfl rfl rfl S ?_; simp only [Act.put]; clear S Z)
  generalize w10.heap.size = q10 at D5 ⊢
  obtain ⟨N11, P11, O11, BW11⟩ := D5
  have g0 := O11.c0
  by_cases hk' : k' = 10
  · subst hk'
    go_upto_region 13 with fail
    have CX : ∀ w, KTab w → Calls Tryd.prog 47 #[.agg r2.row, .agg #[.int .i64 10, .int .i64 n', .int .i64 p']] w fun e w' => e = .returned (.float .f64 x) ∧ Below w.heap.size w w' := by
      have h1 : realX r2 10 n' p' = x := by rw [Hr2.out]; exact putR_there m' n' x
      exact fun w T => h1 ▸ impl_memreal r2 10 n' p' w T
    have CY : ∀ w, KTab w → Calls Tryd.prog 48 #[.agg r2.row, .agg #[.int .i64 10, .int .i64 n', .int .i64 p'], .float .f64 old] w fun e w' => e = .returned (.agg m'.row) ∧ Below w.heap.size w w' := by
      have h1 : putR r2 10 n' old = m' := by rw [Hr2.out, Hold.out]; exact putR_back m' n' x
      intro w T
      have h2 := impl_putreal r2 10 n' p' old w T
      rw [h1] at h2
      exact h2
    have CZ : ∀ w, Calls Tryd.prog 41 #[.agg m'.row, .agg m'.row] w fun e w' => e = .returned (.bool true) ∧ Below w.heap.size w w' := fun w => same_true hm' hm' (same_self m') w
    have CV : ∀ w, Calls Tryd.prog 30 #[.float .f64 x, .float .f64 x] w fun e w' => e = .returned (.bool true) ∧ Below w.heap.size w w' := fun w => (wr_same w (same_any x)).mono fun _ _ ⟨he, hb⟩ => ⟨he, by rw [hb]; exact Below.refl _ _⟩
    have TT : ∀ w', Below w11.heap.size w11 w' → KTab w' := fun w' hw' => T.below (BW11.trans (hw'.mono BW11.size)) (Nat.le_refl _)
    have hS : Below w11.heap.size w11 w11.drew := (Below.refl _ _).drew
    refine wp_region_held (S := Below w11.heap.size w11) (by kernel_rfl) ?_
    refine held_load (fuel := 13) (i := 0) (t := 61) (v := .agg r2.row) rfl rfl rfl (by kernel_rfl) (by kernel_rfl) (by kernel_rfl) rfl (fun _ _ _ h => h) (fun w' hw' => load_mem (P11.below hw' P11.z)) hS ?_
    go_simp
    refine held_load (fuel := 12) (i := 1) (t := 24) (v := .agg #[.int .i64 10, .int .i64 n', .int .i64 p']) rfl rfl rfl (by kernel_rfl) (by kernel_rfl) (by kernel_rfl) rfl (fun _ _ _ h => h) (fun w' hw' => (O11.below hw' O11.lt).load) hS ?_
    go_simp
    refine held_any (fuel := 11) (i := 3) (v := .float .f64 x) rfl (by kernel_rfl) (by kernel_rfl) (by kernel_rfl) rfl (fun _ _ _ h => h) (fun _ _ => rfl) hS ?_
    go_simp
    refine wpAnyH_ready (rs := [2]) (by kernel_rfl) (by simp) ?_
    refine AllReadyH.cons rfl (fun K hK => ?_) AllReadyH.nil
    go_simp
    refine (CX _ (TT _ hS)).mono ?_
    rintro e bx0 ⟨rfl, bx0⟩
    have bhT0 := hS.trans (bx0.mono hS.size)
    refine hK.out _ _ bhT0 (fun _ => ?_)
    clear hK K bx0
    go_simp
    refine wpAnyH_ready (rs := [4]) (by kernel_rfl) (by simp) ?_
    refine AllReadyH.cons rfl (fun K hK => ?_) AllReadyH.nil
    go_simp
    refine (CV _).mono ?_
    rintro e bx1 ⟨rfl, bx1⟩
    have bhT1 := bhT0.trans (bx1.mono bhT0.size)
    refine hK.out _ _ bhT1 (fun _ => ?_)
    clear hK K bx1
    go_simp
    refine held_any (fuel := 8) (i := 5) (v := .bool true) rfl (by kernel_rfl) (by kernel_rfl) (by kernel_rfl) rfl (fun _ _ _ h => h) (fun _ _ => rfl) bhT1 ?_
    go_simp
    refine held_load (fuel := 7) (i := 6) (t := 61) (v := .agg r2.row) rfl rfl rfl (by kernel_rfl) (by kernel_rfl) (by kernel_rfl) rfl (fun _ _ _ h => h) (fun w' hw' => load_mem (P11.below hw' P11.z)) bhT1 ?_
    go_simp
    refine held_load (fuel := 6) (i := 7) (t := 24) (v := .agg #[.int .i64 10, .int .i64 n', .int .i64 p']) rfl rfl rfl (by kernel_rfl) (by kernel_rfl) (by kernel_rfl) rfl (fun _ _ _ h => h) (fun w' hw' => (O11.below hw' O11.lt).load) bhT1 ?_
    go_simp
    refine held_any (fuel := 5) (i := 8) (v := .float .f64 old) rfl (by kernel_rfl) (by kernel_rfl) (by kernel_rfl) rfl (fun _ _ _ h => h) (fun _ _ => rfl) bhT1 ?_
    go_simp
    refine held_load (fuel := 4) (i := 10) (t := 61) (v := .agg m'.row) rfl rfl rfl (by kernel_rfl) (by kernel_rfl) (by kernel_rfl) rfl (fun _ _ _ h => h) (fun w' hw' => load_mem (N11.below hw' N11.z)) bhT1 ?_
    go_simp
    refine wpAnyH_ready (rs := [9]) (by kernel_rfl) (by simp) ?_
    refine AllReadyH.cons rfl (fun K hK => ?_) AllReadyH.nil
    go_simp
    refine (CY _ (TT _ bhT1)).mono ?_
    rintro e bx2 ⟨rfl, bx2⟩
    have bhT2 := bhT1.trans (bx2.mono bhT1.size)
    refine hK.out _ _ bhT2 (fun _ => ?_)
    clear hK K bx2
    go_simp
    refine wpAnyH_ready (rs := [11]) (by kernel_rfl) (by simp) ?_
    refine AllReadyH.cons rfl (fun K hK => ?_) AllReadyH.nil
    go_simp
    refine (CZ _).mono ?_
    rintro e bx3 ⟨rfl, bx3⟩
    have bhT3 := bhT2.trans (bx3.mono bhT2.size)
    refine hK.out _ _ bhT3 (fun _ => ?_)
    clear hK K bx3
    go_simp
    refine held_any (fuel := 1) (i := 12) (v := .bool true) rfl (by kernel_rfl) (by kernel_rfl) (by kernel_rfl) rfl (fun _ _ _ h => h) (fun _ _ => rfl) bhT3 ?_
    go_simp
    refine held_any (fuel := 0) (i := 13) (v := .bool true) rfl (by kernel_rfl) (by kernel_rfl) (by kernel_rfl) rfl (fun _ _ _ h => h) (fun _ _ => rfl) bhT3 ?_
    go_simp
    refine wpAnyH_done (by kernel_rfl) ?_ _
    have hw12 := bhT3
    have BW12 := BW11.trans (hw12.mono BW11.size)
    clear hw12 TT N11 P11 O11 BW11 CX CY CZ CV g0
    go_wp2_with fail
    go_ret
    exact ⟨rfl, BW12⟩
  · have e0 : r2 = m' := Hr2.out.trans (putR_none m' x hk')
    have CS : ∀ w, Calls Tryd.prog 41 #[.agg r2.row, .agg m'.row] w fun e w' => e = .returned (.bool true) ∧ Below w.heap.size w w' := fun w => same_true (e0 ▸ hm') hm' (e0 ▸ same_self r2) w
    clear e0
    have hk10 : (k' == 10) = false := by simpa using hk'
    go_upto_region 12 with fail
    go_wp2_with (refine list_load (t := 61) rfl rfl rfl (load_mem P11) ?_; refine list_load (t := 61) rfl rfl rfl (load_mem N11) ?_)
    refine (CS w11).mono ?_
    rintro e w12 ⟨rfl, hb12⟩
    have BW12 := BW11.trans (hb12.mono BW11.size)
    clear N11 P11 O11 BW11 hb12 CS g0
    go_wp2_with fail
    go_ret
    exact ⟨rfl, BW12⟩

set_option maxHeartbeats 400000 in
theorem law_long (a0 a1 : Option Addr) (l0 c0 l1 c1 : Nat) (w : World) (h : 1048576 < l0 ∨ 1048576 < l1) :
    Calls Tryd.prog 9 #[.slice a0 l0 c0, .slice a1 l1 c1] w fun e w' => e = .returned (.bool true) ∧ Below w.heap.size w w' := by
  by_cases h0 : 1048576 < l0
  · go_enter Tryd.func9, Tryd.ntmps9
    go_wp2
    go_ret
    exact ⟨rfl, Below.refl _ _⟩
  · have h1 : 1048576 < l1 := by omega
    clear h
    go_enter Tryd.func9, Tryd.ntmps9
    go_wp2
    go_ret
    exact ⟨rfl, Below.refl _ _⟩

theorem law (a0 a1 : Option Addr) (l0 c0 l1 c1 : Nat) (w : World) (C0 : CodeAt (.slice a0 l0 c0) w) (C1 : CodeAt (.slice a1 l1 c1) w) (T : KTab w) :
    Calls Tryd.prog 9 #[.slice a0 l0 c0, .slice a1 l1 c1] w fun e w' => e = .returned (.bool true) ∧ Below w.heap.size w w' := by
  by_cases hs : 1048576 < l0 ∨ 1048576 < l1
  · exact law_long a0 a1 l0 c0 l1 c1 w hs
  · exact law_short a0 a1 l0 c0 l1 c1 w T (by omega) (by omega) C0 C1

end Go.Proofs.YtdhoimjkgicneaaDoor.PutD

/- The row's list of package variables gives what the walks ask of the table of kinds. -/
namespace Go.Proofs.YtdhoimjkgicneaaDoor
open Go Go.ChangeShapes Go.WideShapes Go.ChangeAt Go.RowKit

theorem cStr : Tryd.prog.cellsOf 9 = 1 := by kernel_rfl
theorem cInt : Tryd.prog.cellsOf 3 = 1 := by kernel_rfl
theorem cBool : Tryd.prog.cellsOf 4 = 1 := by kernel_rfl
theorem cKind : Tryd.prog.cellsOf 127 = 5 := by kernel_rfl
theorem cKinds : Tryd.prog.cellsOf 164 = 70 := by kernel_rfl
theorem gKinds : Tryd.prog.globalNamed "loop.example/stilhold/impl.devKinds" = some 3 := by kernel_rfl
theorem tKinds : (Tryd.prog.globals[3]?).map (·.type) = some 164 := by kernel_rfl

theorem str_of {s : ByteArray} {l : List UInt8} (h : s.data.toList = l) : s = ⟨l.toArray⟩ := by
  subst h; rfl

section
variable {H : Type} {enc : TypeId × Value → H} {w : World} {base : Nat} {spare : Nat → Bool} {held : Bool}

set_option maxRecDepth 100000 in
/-- The five cells of one row of the table of kinds. -/
theorem kind_cells {fuel : Nat} {cs : List Value} {l : List UInt8} {z : Int} {a b c : Bool} {p : List MemPlace}
    (h : DataW.trod enc Tryd.prog w base spare held fuel 127 cs = some (.agg [.lit (.string l), .lit (.int .i64 z), .lit (.bool a), .lit (.bool b), .lit (.bool c)], p)) :
    cs = [.string ⟨l.toArray⟩, .int .i64 z, .bool a, .bool b, .bool c] := by
  obtain ⟨xs, m, -, hx, hl, hlen, hf⟩ := DataW.trod_struct Tryd.underlying127 h
  rw [cKind] at hl
  have h0 := hf 0 _ rfl
  have h1 := hf 1 _ rfl
  have h2 := hf 2 _ rfl
  have h3 := hf 3 _ rfl
  have h4 := hf 4 _ rfl
  clear hf h
  match xs, hlen with
  | [y0, y1, y2, y3, y4], _ =>
    match cs, hl with
    | [c0, c1, c2, c3, c4], _ =>
      obtain ⟨s0, e0, rfl, -⟩ := DataW.trod_string Tryd.underlying9 h0
      obtain ⟨n1, e1, rfl, -⟩ := DataW.trod_int Tryd.underlying3 h1
      obtain ⟨b2, e2, rfl⟩ := DataW.trod_bool Tryd.underlying4 h2
      obtain ⟨b3, e3, rfl⟩ := DataW.trod_bool Tryd.underlying4 h3
      obtain ⟨b4, e4, rfl⟩ := DataW.trod_bool Tryd.underlying4 h4
      simp at hx
      simp [cStr] at e0
      simp [cInt] at e1
      simp [cBool] at e2 e3 e4
      obtain ⟨⟨x0, x1, x2, x3, x4⟩, -⟩ := hx
      subst e0 e1 e2 e3 e4 x1 x2 x3 x4
      rw [str_of x0.symm]

end

theorem size_of {W : World} {n : String} {g : Nat} {cs : Array Value} (hg : Tryd.prog.globalNamed n = some g) (hv : W.var? Tryd.prog n = some cs) : g < W.heap.size := by
  unfold World.var? at hv
  simp only [hg, Option.bind_some] at hv
  cases hh : W.heap[g]? with
  | none => rw [hh] at hv; cases hv
  | some o => exact (Array.getElem?_eq_some_iff.1 hh).1

set_option maxRecDepth 100000 in
theorem ktab_of {H : Type} {enc : TypeId × Value → H} {W : World} {base : Nat} {spare : Nat → Bool} {held : Bool} {fuel : Nat} {cd : Array Value} {pd : List MemPlace} (hvd : W.var? Tryd.prog "loop.example/stilhold/impl.devKinds" = some cd)
    (hdd : DataW.trod enc Tryd.prog W base spare held fuel 164 cd.toList = some (Rows.laid_loop_example_stilhold_impl_devKinds, pd)) : KTab W := by
  have hrow : ∀ k : Nat, 1 ≤ k → k ≤ 13 → (cd.toList.drop (k * 5)).take 5 = [.string ⟨(letterL k).toArray⟩, .int .i64 (sizeZ k), .bool (bitB k), .bool (wholeB k), .bool (realB k)] := by
    obtain ⟨xs, m, -, hx, hl, hlen, hf⟩ := DataW.trod_array Tryd.underlying164 hdd
    simp only [cKind] at hf
    have hx1 := congrArg Prod.fst hx
    simp only [Rows.laid_loop_example_stilhold_impl_devKinds, DataW.agg.injEq] at hx1
    intro k h1 h2
    have hk := hf k (by omega)
    have hxk : k < xs.length := by omega
    rw [List.getElem?_eq_getElem hxk] at hk
    have hD : (xs.map (·.1))[k]? = some (xs[k].1) := by simp [hxk]
    rw [← hx1] at hD
    rw [show xs[k] = (xs[k].1, xs[k].2) from rfl] at hk
    have hcase : k = 1 ∨ k = 2 ∨ k = 3 ∨ k = 4 ∨ k = 5 ∨ k = 6 ∨ k = 7 ∨ k = 8 ∨ k = 9 ∨ k = 10 ∨ k = 11 ∨ k = 12 ∨ k = 13 := by omega
    rcases hcase with rfl | rfl | rfl | rfl | rfl | rfl | rfl | rfl | rfl | rfl | rfl | rfl | rfl
    all_goals
      rw [← Option.some.inj hD] at hk
      exact kind_cells hk
  have hkc : ∀ k j : Nat, 1 ≤ k → k ≤ 13 → j < 5 → W.cell? ⟨3, k * 5 + j, none⟩ = ([.string ⟨(letterL k).toArray⟩, .int .i64 (sizeZ k), .bool (bitB k), .bool (wholeB k), .bool (realB k)] : List Value)[j]? := by
    intro k j h1 h2 h3
    have e := World.var?_cell gKinds hvd (k * 5 + j)
    rw [e, ← hrow k h1 h2]
    simp [List.getElem?_drop, h3]
  exact ⟨size_of gKinds hvd, fun k a b => hkc k 0 a b (by omega), fun k a b => hkc k 1 a b (by omega), fun k a b => hkc k 2 a b (by omega), fun k a b => hkc k 3 a b (by omega), fun k a b => hkc k 4 a b (by omega)⟩

end Go.Proofs.YtdhoimjkgicneaaDoor
