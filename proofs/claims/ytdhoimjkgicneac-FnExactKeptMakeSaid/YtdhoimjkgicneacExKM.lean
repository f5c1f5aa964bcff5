/- At every memory the program's KeptMake answers as the specification's: the law, walked. -/
import Derived.Test.YtdhoimjkgicneacKepC
import Derived.Test.YtdhoimjkgicneacHelA
import Derived.Test.YtdhoimjkgicneacToMemp
namespace Go.Proofs.Ytdhoimjkgicneac
open Go Go.RowKit

set_option maxRecDepth 100000 in
set_option maxHeartbeats 2000000 in
theorem law (v : MemV) (w : World) (hv : v.Ok) :
    Calls Try.prog 9 #[.agg v.row] w fun e w' => e = .returned (.bool true) ∧ Below w.heap.size w w' := by
  have S1 : ∀ w, Calls Try.prog 40 #[.agg v.row] w fun e w' => ∃ o, e = .returned o ∧ Own w.heap.size o (pre v 134) w' ∧ Below w.heap.size w w' := fun w => spec_make v w hv
  have S2 : ∀ w, Calls Try.prog 41 #[.agg v.row] w fun e w' => ∃ o, e = .returned o ∧ Own w.heap.size o (pre v 134) w' ∧ Below w.heap.size w w' := fun w => impl_make v w hv
  have PL := pre_len v 134
  obtain ⟨xs, hxs⟩ : ∃ xs, xs = pre v 134 := ⟨_, rfl⟩
  rw [← hxs] at S1 S2 PL
  clear hxs
  have B0 : Below w.heap.size w (w.alloc (.cells v.row 72)) := (Below.refl _ _).alloc (Nat.le_refl _) _
  have M0 : MemAt w.heap.size v (w.alloc (.cells v.row 72)) := MemAt.alloc v w _
  go_enter Try.func9, Try.ntmps9
  obtain ⟨w0, hw0⟩ : ∃ w0, w0 = w.alloc (.cells v.row 72) := ⟨_, rfl⟩
  rw [← hw0] at B0 M0
  have z0 : w.heap.size + 1 = w0.heap.size := by rw [hw0]; simp
  have H0 : Hid (Below w.heap.size w w0 ∧ MemAt w.heap.size v w0 ∧ w.heap.size + 1 = w0.heap.size) := ⟨B0, M0, z0⟩
  clear B0 M0 z0
  have L0 := load_memL H0.out.2.1
  rw [hw0] at L0
  go_wp2_with (refine list_load (t := 72) (x := .pointer (some ⟨w.heap.size, 0, none⟩)) (u := .agg v.row) rfl rfl rfl L0 ?_)
  rw [← hw0]
  clear hw0 L0
  refine (to_mem v w0).mono ?_
  rintro e w1 ⟨rfl, b1⟩
  go_wp2_with fail
  refine (S1 w1).mono ?_
  rintro e w2 ⟨o2, rfl, own2, b2⟩
  have H2 : Hid (Own w0.heap.size o2 xs w2 ∧ Below w0.heap.size w0 w2) := ⟨own2.mono b1.size, b1.trans (b2.mono b1.size)⟩
  have L2 := load_memL (H0.out.2.1.below H2.out.2 (by have := H0.out.2.2; omega))
  clear own2 b2 b1
  go_wp2_with (refine list_load (t := 72) (x := .pointer (some ⟨w.heap.size, 0, none⟩)) (u := .agg v.row) rfl rfl rfl L2 ?_)
  clear L2
  refine (to_mem v w2).mono ?_
  rintro e w3 ⟨rfl, b3⟩
  go_wp2_with fail
  refine (S2 w3).mono ?_
  rintro e w4 ⟨o4, rfl, own4, b4⟩
  have H4 : Hid (Own w2.heap.size o4 xs w4 ∧ Below w2.heap.size w2 w4) := ⟨own4.mono b3.size, b3.trans (b4.mono b3.size)⟩
  have K4 : Hid (Own w0.heap.size o2 xs w4) := H2.out.1.below H4.out.2 (Nat.le_refl _)
  clear own4 b4 b3
  go_wp2_with fail
  refine (eq_bytes o4 o2 xs xs w4 H4.out.1.at K4.out.at (by omega)).mono ?_
  rintro e w5 ⟨q, rfl, hq, b5⟩
  obtain rfl : q = true := hq.2 rfl
  have H5 : Hid (Own w2.heap.size o4 xs w5 ∧ Below w2.heap.size w2 w5 ∧ Own w0.heap.size o2 xs w5) := ⟨H4.out.1.below b5 (Nat.le_refl _), H4.out.2.trans (b5.mono H4.out.2.size), K4.out.below b5 (Nat.le_refl _)⟩
  clear b5 hq H4 K4
  go_wp2_with fail
  refine (mark_bytes w2.heap.size o4 xs 1 w5 H5.out.1 (by omega) (by omega)).mono ?_
  rintro e w6 ⟨rfl, own6, b6⟩
  have H6 : Hid (Own w2.heap.size o4 (marks 1 xs.length) w6 ∧ Below w2.heap.size w2 w6 ∧ Own w0.heap.size o2 xs w6) := ⟨own6, H5.out.2.1.trans b6, H2.out.1.below (H5.out.2.1.trans b6) (Nat.le_refl _)⟩
  clear own6 b6 H5
  rw [PL] at H6 ⊢
  go_wp2_with fail
  refine (held_bytes o4 134 1 w6 H6.out.1.at (by omega) (by omega)).mono ?_
  rintro e w7 ⟨rfl, rfl⟩
  have L7 := load_memL (H0.out.2.1.below (H2.out.2.trans (H6.out.2.1.mono H2.out.2.size)) (by have := H0.out.2.2; omega))
  go_wp2_with (refine list_load (t := 72) (x := .pointer (some ⟨w.heap.size, 0, none⟩)) (u := .agg v.row) rfl rfl rfl L7 ?_)
  clear L7
  refine (to_mem v w7).mono ?_
  rintro e w8 ⟨rfl, b8⟩
  go_wp2_with fail
  refine (S2 w8).mono ?_
  rintro e w9 ⟨o9, rfl, own9, b9⟩
  have b89 := b8.trans (b9.mono b8.size)
  have H9 : Hid (Own w8.heap.size o9 xs w9 ∧ Below w7.heap.size w7 w9 ∧ Own w2.heap.size o4 (marks 1 134) w9 ∧ Own w0.heap.size o2 xs w9) := ⟨own9, b89, H6.out.1.below b89 (Nat.le_refl _), H6.out.2.2.below b89 (Nat.le_refl _)⟩
  clear own9 b9 b89 b8
  go_wp2_with fail
  refine (eq_bytes o9 o2 xs xs w9 H9.out.1.at H9.out.2.2.2.at (by omega)).mono ?_
  rintro e w10 ⟨q, rfl, hq, b10⟩
  obtain rfl : q = true := hq.2 rfl
  have H10 : Hid (Own w2.heap.size o4 (marks 1 134) w10 ∧ Below w7.heap.size w7 w10) := ⟨H9.out.2.2.1.below b10 (Nat.le_refl _), H9.out.2.1.trans (b10.mono H9.out.2.1.size)⟩
  clear b10 hq H9
  go_wp2_with fail
  refine (held_bytes o4 134 1 w10 H10.out.1.at (by omega) (by omega)).mono ?_
  rintro e w11 ⟨rfl, rfl⟩
  go_wp2_with fail
  go_ret
  have b26 := H6.out.2.1
  have b02 := H2.out.2
  have a1 := b02.trans (b26.mono b02.size)
  have a2 := a1.trans (H10.out.2.mono a1.size)
  exact ⟨rfl, H0.out.1.trans (a2.mono H0.out.1.size)⟩

end Go.Proofs.Ytdhoimjkgicneac
