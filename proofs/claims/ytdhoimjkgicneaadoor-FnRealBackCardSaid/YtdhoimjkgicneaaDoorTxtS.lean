/- The law on real numbers and their texts, out of the contracts. -/
import Derived.Test.YtdhoimjkgicneaaDoorTxtP
import Derived.Test.YtdhoimjkgicneaaDoorTxtQ
import Derived.Test.YtdhoimjkgicneaaDoorTxtR
namespace Go.Proofs.YtdhoimjkgicneaaDoor
open Go Go.RowKit

set_option maxHeartbeats 400000 in
theorem law_longB (a0 a1 : Option Addr) (l0 c0 l1 c1 : Nat) (w : World) (h : 1048576 < l0 ∨ 1048576 < l1) (m0 : l0 ≤ 9223372036854775807) (m1 : l1 ≤ 9223372036854775807) :
    Calls Tryd.prog 6 #[.slice a0 l0 c0, .slice a1 l1 c1] w fun e w' => e = .returned (.bool true) ∧ Below w.heap.size w w' := by
  by_cases h0 : 1048576 < l0
  · go_enter Tryd.func6, Tryd.ntmps6
    go_wp2
    go_ret
    exact ⟨rfl, Below.refl _ _⟩
  · have h1 : 1048576 < l1 := by omega
    clear h
    go_enter Tryd.func6, Tryd.ntmps6
    go_wp2
    go_ret
    exact ⟨rfl, Below.refl _ _⟩

theorem wr_true {x y : Nat} {w w' : World} {e : Ending} (h : WrOf x y w e w') (s : Same x y) : e = .returned (.bool true) ∧ w' = w := by
  obtain ⟨b, rfl, hb, rfl⟩ := h
  rw [hb.2 s]
  exact ⟨rfl, rfl⟩
theorem wr_false {x y : Nat} {w w' : World} {e : Ending} (h : WrOf x y w e w') (s : ¬ Same x y) : e = .returned (.bool false) ∧ w' = w := by
  obtain ⟨b, rfl, hb, rfl⟩ := h
  cases b
  · exact ⟨rfl, rfl⟩
  · exact absurd (hb.1 rfl) s

set_option maxHeartbeats 2000000 in
theorem law_shortB (a0 a1 : Option Addr) (l0 c0 l1 c1 : Nat) (w : World) (T : RTab w) (h0 : l0 ≤ 1048576) (h1 : l1 ≤ 1048576) (C0 : CodeAt (.slice a0 l0 c0) w) (C1 : CodeAt (.slice a1 l1 c1) w) :
    Calls Tryd.prog 6 #[.slice a0 l0 c0, .slice a1 l1 c1] w fun e w' => e = .returned (.bool true) ∧ Below w.heap.size w w' := by
  have X1 : Hid (CodeAt (.slice a1 l1 c1) w) := C1
  have TT : Hid (RTab w) := T
  clear C1 T
  go_enter Tryd.func6, Tryd.ntmps6
  go_wp2_with fail
  refine (draw_rtext _ w C0).mono ?_
  rintro e w1 ⟨x, rfl, hb⟩
  have B1 : Hid (Below w.heap.size w w1) := hb
  clear hb C0
  go_wp2_with fail
  refine (draw_rtext _ w1 (X1.out.below B1.out)).mono ?_
  rintro e w2 ⟨y, rfl, hb⟩
  have B2 : Hid (Below w.heap.size w w2) := B1.out.trans (hb.mono B1.out.size)
  clear hb
  go_wp2_with fail
  refine (text_any x w2 (TT.out.below B2.out (Nat.le_refl _))).mono ?_
  rintro e w3 ⟨s, rfl, hs, hsl, hb⟩
  have B3 : Hid (Below w.heap.size w w3) := B2.out.trans (hb.mono B2.out.size)
  have HS : Hid (Txt x s) := hs
  clear hb hs
  go_wp2_with fail
  refine (impl_read ⟨s.toArray⟩ w3 (by rw [str_size]; omega) (TT.out.below B3.out (Nat.le_refl _))).mono ?_
  rintro e w4 ⟨hr, hb⟩
  have B4 : Hid (Below w.heap.size w w4) := B3.out.trans (hb.mono B3.out.size)
  clear hb
  have hr2 : ∃ z, e = .returned (.tuple #[.float .f64 z, .bool true]) ∧ Txt z s := by
    rcases hr with h | ⟨-, h⟩
    · exact h
    · exact absurd HS.out (h x)
  obtain ⟨z, rfl, hz⟩ := hr2
  have SZ : Hid (Same z x) := txt_same hz HS.out
  clear hr hz
  go_wp2_with fail
  refine (wr_any z x w4).mono ?_
  rintro e w5 hwr
  obtain ⟨rfl, rfl⟩ := wr_true hwr SZ.out
  clear hwr
  go_wp2_with fail
  refine (text_any y w5 (TT.out.below B4.out (Nat.le_refl _))).mono ?_
  rintro e w6 ⟨s2, rfl, hs2, hsl2, hb⟩
  have B6 : Hid (Below w.heap.size w w6) := B4.out.trans (hb.mono B4.out.size)
  have HS2 : Hid (Txt y s2) := hs2
  clear hb hs2
  go_wp2_with fail
  refine (wr_any x y w6).mono ?_
  rintro e w7 hwr
  have heq : e = .returned (.bool (s == s2)) ∧ w7 = w6 := by
    by_cases hss : s = s2
    · have hsm : Same x y := txt_same HS.out (by rw [hss]; exact HS2.out)
      obtain ⟨h1, h2⟩ := wr_true hwr hsm
      exact ⟨by rw [h1, hss]; simp, h2⟩
    · have hsm : ¬ Same x y := fun h => hss (txt_fun (txt_of_same h HS.out) HS2.out)
      obtain ⟨h1, h2⟩ := wr_false hwr hsm
      exact ⟨by rw [h1, show (s == s2) = false from by simpa using hss], h2⟩
  obtain ⟨rfl, rfl⟩ := heq
  clear hwr
  obtain ⟨q, hq⟩ : ∃ q, q = (s == s2) := ⟨_, rfl⟩
  rw [← hq]
  have hq2 : (s == s2) = q := hq.symm
  clear hq
  go_wp2_with fail
  refine (draw_rread _ w7 (X1.out.below B6.out)).mono ?_
  rintro e w8 ⟨l, rfl, hl, hb⟩
  have B8 : Hid (Below w.heap.size w w8) := B6.out.trans (hb.mono B6.out.size)
  clear hb hq2
  go_wp2_with fail
  refine (impl_read ⟨l.toArray⟩ w8 (by rw [str_size]; omega) (TT.out.below B8.out (Nat.le_refl _))).mono ?_
  rintro e w9 ⟨hr1, hb⟩
  have B9 : Hid (Below w.heap.size w w9) := B8.out.trans (hb.mono B8.out.size)
  clear hb
  rcases hr1 with ⟨z1, rfl, hz1⟩ | ⟨rfl, hn1⟩
  · have Z1 : Hid (Txt z1 l) := hz1
    clear hz1
    go_wp2_with fail
    refine (spec_rread ⟨l.toArray⟩ w9 (by rw [str_size]; omega)).mono ?_
    rintro e w10 ⟨hr2, hb⟩
    have B10 : Hid (Below w.heap.size w w10) := B9.out.trans (hb.mono B9.out.size)
    clear hb
    have hr3 : ∃ z2, e = .returned (.tuple #[.float .f64 z2, .bool true]) ∧ Txt z2 l := by
      rcases hr2 with h | ⟨-, h⟩
      · exact h
      · exact absurd Z1.out (h z1)
    obtain ⟨z2, rfl, hz2⟩ := hr3
    have S2 : Hid (Same z1 z2) := txt_same Z1.out hz2
    clear hr2 hz2
    go_wp2_with fail
    refine (wr_any z1 z2 w10).mono ?_
    rintro e w11 hwr
    obtain ⟨rfl, rfl⟩ := wr_true hwr S2.out
    clear hwr
    go_wp2_with fail
    refine (text_any z1 w11 (TT.out.below B10.out (Nat.le_refl _))).mono ?_
    rintro e w12 ⟨l2, rfl, hl2, -, hb⟩
    have B12 : Hid (Below w.heap.size w w12) := B10.out.trans (hb.mono B10.out.size)
    obtain rfl := txt_fun hl2 Z1.out
    clear hb hl2
    go_wp2_with fail
    go_ret
    exact ⟨rfl, B12.out⟩
  · have N1 : Hid (∀ z, ¬ Txt z l) := hn1
    clear hn1
    go_wp2_with fail
    refine (spec_rread ⟨l.toArray⟩ w9 (by rw [str_size]; omega)).mono ?_
    rintro e w10 ⟨hr2, hb⟩
    have B10 : Hid (Below w.heap.size w w10) := B9.out.trans (hb.mono B9.out.size)
    clear hb
    have hr3 : e = .returned (.tuple #[.float .f64 0, .bool false]) := by
      rcases hr2 with ⟨z2, -, h⟩ | ⟨h, -⟩
      · exact absurd h (N1.out z2)
      · exact h
    subst hr3
    clear hr2
    go_wp2_with fail
    refine (wr_any 0 0 w10).mono ?_
    rintro e w11 hwr
    obtain ⟨rfl, rfl⟩ := wr_true hwr (Or.inr (Or.inr ⟨false, 0, 0, 0, 0, num_zero, num_zero, rfl⟩))
    clear hwr
    go_wp2_with fail
    go_ret
    exact ⟨rfl, B10.out⟩

end Go.Proofs.YtdhoimjkgicneaaDoor
