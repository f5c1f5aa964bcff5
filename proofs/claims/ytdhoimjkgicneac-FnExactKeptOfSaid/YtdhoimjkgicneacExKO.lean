/- At every memory the program's KeptOf answers as the specification's: the law, walked. -/
import Derived.Test.YtdhoimjkgicneacKepF
import Derived.Test.YtdhoimjkgicneacToMemp
import Derived.Test.YtdhoimjkgicneacEqM
namespace Go.Proofs.Ytdhoimjkgicneac
open Go Go.RowKit

attribute [local go_sem] zMemK

theorem same_self (v : MemV) : SameM v v := ⟨rfl, rfl, rfl, rfl, rfl, fun _ _ => rfl, fun _ _ => rfl, fun _ _ => rfl, fun _ _ => rfl, fun _ _ => rfl, fun _ _ => rfl, fun _ _ => same_refl _, rfl, rfl, rfl⟩

theorem fresh_put (x : MemV) (w : World) : MemAt w.heap.size mem0 (w.alloc (.cells mem0.row 78)) ∧ MemAt w.heap.size x ((w.alloc (.cells mem0.row 78)).setCells w.heap.size 0 x.row.toList) ∧ Below w.heap.size w ((w.alloc (.cells mem0.row 78)).setCells w.heap.size 0 x.row.toList) := by
  have h := MemAt.alloc mem0 w 78
  exact ⟨h, h.stored x, setCells_below _ _ _ ((Below.refl _ _).alloc (Nat.le_refl _) _) (Nat.le_refl _)⟩

set_option maxRecDepth 100000 in
set_option maxHeartbeats 800000 in
theorem law (v : MemV) (w : World) (hv : v.Ok) :
    Calls Try.prog 8 #[.agg v.row] w fun e w' => e = .returned (.bool true) ∧ Below w.heap.size w w' := by
  have S1 : ∀ w, Calls Try.prog 36 #[.agg v.row] w fun e w' => e = .returned (.agg (keptV v).row) ∧ Below w.heap.size w w' := fun w => spec_kept v w hv
  have S2 : ∀ w, Calls Try.prog 38 #[.agg v.row] w fun e w' => e = .returned (.agg (keptV v).row) ∧ Below w.heap.size w w' := fun w => impl_kept v w hv
  obtain ⟨r, hr⟩ : ∃ r, r = keptV v := ⟨_, rfl⟩
  rw [← hr] at S1 S2
  clear hr
  have B0 : Below w.heap.size w (w.alloc (.cells v.row 72)) := (Below.refl _ _).alloc (Nat.le_refl _) _
  have M0 : MemAt w.heap.size v (w.alloc (.cells v.row 72)) := MemAt.alloc v w _
  go_enter Try.func8, Try.ntmps8
  obtain ⟨w0, hw0⟩ : ∃ w0, w0 = w.alloc (.cells v.row 72) := ⟨_, rfl⟩
  rw [← hw0] at B0 M0
  have H0 : Hid (Below w.heap.size w w0 ∧ MemAt w.heap.size v w0) := ⟨B0, M0⟩
  clear B0 M0
  have L0 := load_memL H0.out.2
  rw [hw0] at L0
  go_wp2_with (refine list_load (t := 72) (x := .pointer (some ⟨w.heap.size, 0, none⟩)) (u := .agg v.row) rfl rfl rfl L0 ?_)
  rw [← hw0]
  clear hw0 L0
  refine (to_mem v w0).mono ?_
  rintro e w1 ⟨rfl, b1⟩
  go_wp2_with fail
  refine (S1 w1).mono ?_
  rintro e w2 ⟨rfl, b2⟩
  obtain ⟨m0, m1, b3⟩ := fresh_put r w2
  have b02 := b1.trans (b2.mono b1.size)
  have H2 : Hid (MemAt w2.heap.size r _ ∧ Below w0.heap.size w0 _ ∧ MemAt w.heap.size v _) := ⟨m1, b02.trans (b3.mono b02.size), H0.out.2.below (b02.trans (b3.mono b02.size)) H0.out.2.z⟩
  have L1 := store_mem r m0
  have L2 := load_memL H2.out.2.2
  clear m0 m1 b3 b02 b1 b2
  go_upto_region 2 with (refine list_store (t := 78) (x := .pointer (some ⟨w2.heap.size, 0, none⟩)) (u := .agg r.row) rfl rfl rfl rfl L1 ?_)
  simp only [Act.put]
  clear L1
  generalize hw3 : (w2.alloc (.cells mem0.row 78)).setCells w2.heap.size 0 r.row.toList = w3 at H2 L2 ⊢
  clear hw3
  generalize w2.heap.size = q2 at H2 ⊢
  go_wp2_with (refine list_load (t := 72) (x := .pointer (some ⟨w.heap.size, 0, none⟩)) (u := .agg v.row) rfl rfl rfl L2 ?_)
  clear L2
  refine (to_mem v w3).mono ?_
  rintro e w4 ⟨rfl, b1⟩
  go_wp2_with fail
  refine (S2 w4).mono ?_
  rintro e w5 ⟨rfl, b2⟩
  obtain ⟨m0, m1, b3⟩ := fresh_put r w5
  have b02 := b1.trans (b2.mono b1.size)
  have b35 := b02.trans (b3.mono b02.size)
  have H3 : Hid (MemAt w5.heap.size r _ ∧ Below w3.heap.size w3 _ ∧ MemAt q2 r _) := ⟨m1, b35, H2.out.1.below b35 H2.out.1.z⟩
  have L1 := store_mem r m0
  have L2 := load_mem H3.out.1
  have L3 := load_mem H3.out.2.2
  clear m0 m1 b3 b02 b1 b2 b35
  go_upto_region 3 with (refine list_store (t := 78) (x := .pointer (some ⟨w5.heap.size, 0, none⟩)) (u := .agg r.row) rfl rfl rfl rfl L1 ?_)
  simp only [Act.put]
  clear L1
  generalize hw6 : (w5.alloc (.cells mem0.row 78)).setCells w5.heap.size 0 r.row.toList = w6 at H3 L2 L3 ⊢
  clear hw6
  generalize w5.heap.size = q5 at H3 L2 ⊢
  go_wp2_with (first | refine list_load (t := 78) (x := .pointer (some ⟨q5, 0, none⟩)) (u := .agg r.row) rfl rfl rfl L2 ?_ | refine list_load (t := 78) (x := .pointer (some ⟨q2, 0, none⟩)) (u := .agg r.row) rfl rfl rfl L3 ?_)
  clear L2 L3
  refine (eq_mem w6 (same_self r)).mono ?_
  rintro e w7 ⟨rfl, b7⟩
  go_wp2_with fail
  go_ret
  have b03 := H2.out.2.1
  have b06 := b03.trans (H3.out.2.1.mono b03.size)
  have b07 := b06.trans (b7.mono b06.size)
  exact ⟨rfl, H0.out.1.trans (b07.mono H0.out.1.size)⟩

end Go.Proofs.Ytdhoimjkgicneac
