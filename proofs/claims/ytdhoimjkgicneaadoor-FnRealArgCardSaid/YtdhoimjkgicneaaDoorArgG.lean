/- The law on decimal numbers as real numbers, out of the contracts. -/
import Derived.Test.YtdhoimjkgicneaaDoorArgF
namespace Go.Proofs.YtdhoimjkgicneaaDoor
open Go Go.RowKit

theorem keep3 {w1 w2 : World} {b : Nat} {x y z : Value} (hb : Below w1.heap.size w1 w2) (hz : b < w1.heap.size) (q : w1.cell? ⟨b, 0, none⟩ = some x ∧ w1.cell? ⟨b, 1, none⟩ = some y ∧ w1.cell? ⟨b, 2, none⟩ = some z) :
    w2.cell? ⟨b, 0, none⟩ = some x ∧ w2.cell? ⟨b, 1, none⟩ = some y ∧ w2.cell? ⟨b, 2, none⟩ = some z :=
  ⟨(hb.cell (p := ⟨b, 0, none⟩) hz).trans q.1, (hb.cell (p := ⟨b, 1, none⟩) hz).trans q.2.1, (hb.cell (p := ⟨b, 2, none⟩) hz).trans q.2.2⟩

set_option maxHeartbeats 400000 in
theorem law_longA (a0 a1 : Option Addr) (l0 c0 l1 c1 : Nat) (w : World) (h : 1048576 < l0 ∨ 1048576 < l1) (m0 : l0 ≤ 9223372036854775807) (m1 : l1 ≤ 9223372036854775807) :
    Calls Tryd.prog 7 #[.slice a0 l0 c0, .slice a1 l1 c1] w fun e w' => e = .returned (.bool true) ∧ Below w.heap.size w w' := by
  by_cases h0 : 1048576 < l0
  · go_enter Tryd.func7, Tryd.ntmps7
    go_wp2
    go_ret
    exact ⟨rfl, Below.refl _ _⟩
  · have h1 : 1048576 < l1 := by omega
    clear h
    go_enter Tryd.func7, Tryd.ntmps7
    go_wp2
    go_ret
    exact ⟨rfl, Below.refl _ _⟩

/-- A region that draws its order, whose operations and callees leave what was there. -/
theorem wp_region_below {P : Program} {id : Nat} {Q : Exit → Act → World → Prop} {a : Act} {w : World} {l : List Oper} (hm : P.follows .mixedOrders = true) (hB : Region.lexB .any l.toArray = true)
    (h : wpQuiet P l.toArray (Below w.heap.size w) (fun a' => ∀ w', Below w.heap.size w w' → Q .normal a' w') l a) : (Code.region id l.toArray true).wp P Q a w :=
  wp_region_quiet (C := Below w.heap.size w) hm hB (Below.refl w.heap.size w).drew (by simpa using h)

set_option maxHeartbeats 2000000 in
theorem law_shortA (a0 a1 : Option Addr) (l0 c0 l1 c1 : Nat) (w : World) (T : KTab w) (h0 : l0 ≤ 1048576) (h1 : l1 ≤ 1048576) (C0 : CodeAt (.slice a0 l0 c0) w) (C1 : CodeAt (.slice a1 l1 c1) w) :
    Calls Tryd.prog 7 #[.slice a0 l0 c0, .slice a1 l1 c1] w fun e w' => e = .returned (.bool true) ∧ Below w.heap.size w w' := by
  have X1 : Hid (CodeAt (.slice a1 l1 c1) w) := C1
  have TT : Hid (KTab w) := T
  clear C1 T
  go_enter Tryd.func7, Tryd.ntmps7
  go_wp2_with fail
  refine (draw_rarg _ w C0).mono ?_
  rintro e w1 ⟨k, n, p, rfl, hb1⟩
  have B1 : Hid (Below w.heap.size w w1) := hb1
  have s1 : w.heap.size ≤ w1.heap.size := hb1.size
  clear hb1 C0
  go_wp2_with fail
  have B1' : Hid (Below w.heap.size w (w1.alloc (.cells #[.int .i64 k, .int .i64 n, .int .i64 p] 24))) := B1.out.alloc s1 _
  refine (draw_rarg _ _ (X1.out.below B1'.out)).mono ?_
  rintro e w2 ⟨k2, n2, p2, rfl, hb2⟩
  obtain ⟨e0, e1, e2, z2, b2⟩ := box3 hb2
  have B2 : Hid (Below w.heap.size w w2) := B1.out.trans (b2.mono s1)
  have s2 : w.heap.size ≤ w2.heap.size := B2.out.size
  have x0 := past e0 z2
  have x1 := past e1 z2
  have x2 := past e2 z2
  clear hb2 b2
  go_wp2_with fail
  have B2' : Hid (Below w.heap.size w (w2.alloc (.cells #[.int .i64 k2, .int .i64 n2, .int .i64 p2] 24))) := B2.out.alloc s2 _
  refine (impl_arg k n p _ (TT.out.below B2'.out (Nat.le_refl _))).mono ?_
  rintro e w3 ⟨rfl, hb3⟩
  obtain ⟨g0, g1, g2, z3, b3⟩ := box3 hb3
  obtain ⟨a30, a31, a32⟩ := keep3 b3 z2 ⟨e0, e1, e2⟩
  have B3 : Hid (Below w.heap.size w w3) := B2.out.trans (b3.mono s2)
  have z3' : w1.heap.size < w3.heap.size := Nat.lt_of_lt_of_le z2 b3.size
  clear hb3 b3 x0 x1 x2 e0 e1 e2
  go_wp2_with fail
  refine (impl_arg k2 n2 p2 w3 (TT.out.below B3.out (Nat.le_refl _))).mono ?_
  rintro e w4 ⟨rfl, hb4⟩
  obtain ⟨a40, a41, a42⟩ := keep3 hb4 z3' ⟨a30, a31, a32⟩
  obtain ⟨b40, b41, b42⟩ := keep3 hb4 z3 ⟨g0, g1, g2⟩
  have B4 : Hid (Below w.heap.size w w4) := B3.out.trans (hb4.mono B3.out.size)
  have z4 : w2.heap.size < w4.heap.size := Nat.lt_of_lt_of_le z3 hb4.size
  have z4' : w1.heap.size < w4.heap.size := Nat.lt_of_lt_of_le z3' hb4.size
  clear hb4 a30 a31 a32 g0 g1 g2
  go_wp2_with fail
  refine (spec_arg k n p w4).mono ?_
  rintro e w5 ⟨y, rfl, hs, hb5⟩
  obtain ⟨a50, a51, a52⟩ := keep3 hb5 z4' ⟨a40, a41, a42⟩
  obtain ⟨b50, b51, b52⟩ := keep3 hb5 z4 ⟨b40, b41, b42⟩
  have B5 : Hid (Below w.heap.size w w5) := B4.out.trans (hb5.mono B4.out.size)
  have z5 : w2.heap.size < w5.heap.size := Nat.lt_of_lt_of_le z4 hb5.size
  have z5' : w1.heap.size < w5.heap.size := Nat.lt_of_lt_of_le z4' hb5.size
  have S : Hid (SameF (argX k n p) y) := hs
  clear hb5 hs a40 a41 a42 b40 b41 b42
  go_wp2_with fail
  refine (wr_same w5 S.out).mono ?_
  rintro e w6 ⟨rfl, rfl⟩
  by_cases hk1 : k = 12
  · subst hk1
    by_cases hk2 : k2 = 12
    · subst hk2
      go_wp2_with fail
      refine (spec_ok 12 n p w6).mono ?_
      rintro e w7 ⟨rfl, hb7⟩
      obtain ⟨a70, a71, a72⟩ := keep3 hb7 z5' ⟨a50, a51, a52⟩
      obtain ⟨b70, b71, b72⟩ := keep3 hb7 z5 ⟨b50, b51, b52⟩
      have B7 : Hid (Below w.heap.size w w7) := B5.out.trans (hb7.mono B5.out.size)
      have z7 : w2.heap.size < w7.heap.size := Nat.lt_of_lt_of_le z5 hb7.size
      have z7' : w1.heap.size < w7.heap.size := Nat.lt_of_lt_of_le z5' hb7.size
      clear hb7 a50 a51 a52 b50 b51 b52
      cases hok : okB 12 n p with
      | false =>
        go_wp2
        go_ret
        exact ⟨rfl, B7.out⟩
      | true =>
        go_wp2_with fail
        refine (spec_ok 12 n2 p2 w7).mono ?_
        rintro e w8 ⟨rfl, hb8⟩
        obtain ⟨a80, a81, a82⟩ := keep3 hb8 z7' ⟨a70, a71, a72⟩
        obtain ⟨b80, b81, b82⟩ := keep3 hb8 z7 ⟨b70, b71, b72⟩
        have B8 : Hid (Below w.heap.size w w8) := B7.out.trans (hb8.mono B7.out.size)
        have z8 : w2.heap.size < w8.heap.size := Nat.lt_of_lt_of_le z7 hb8.size
        have z8' : w1.heap.size < w8.heap.size := Nat.lt_of_lt_of_le z7' hb8.size
        clear hb8 a70 a71 a72 b70 b71 b72
        cases hok2 : okB 12 n2 p2 with
        | false =>
          go_wp2
          go_ret
          exact ⟨rfl, B8.out⟩
        | true =>
          have ord := arg_order hok hok2
          obtain ⟨o1, o2, o3, o4, -⟩ := ok_dec hok
          obtain ⟨u1, u2, u3, u4, -⟩ := ok_dec hok2
          obtain ⟨j, rfl⟩ : ∃ j : Nat, p = j := ⟨p.toNat, by omega⟩
          obtain ⟨j2, rfl⟩ : ∃ j : Nat, p2 = j := ⟨p2.toNat, by omega⟩
          have LA : ∀ w', Below w8.heap.size w8 w' → w'.cell? ⟨w1.heap.size, 0, none⟩ = some (.int .i64 12) ∧ w'.cell? ⟨w1.heap.size, 1, none⟩ = some (.int .i64 n) ∧ w'.cell? ⟨w1.heap.size, 2, none⟩ = some (.int .i64 j) := fun w' hw' => keep3 hw' z8' ⟨a80, a81, a82⟩
          have LB : ∀ w', Below w8.heap.size w8 w' → w'.cell? ⟨w2.heap.size, 0, none⟩ = some (.int .i64 12) ∧ w'.cell? ⟨w2.heap.size, 1, none⟩ = some (.int .i64 n2) ∧ w'.cell? ⟨w2.heap.size, 2, none⟩ = some (.int .i64 j2) := fun w' hw' => keep3 hw' z8 ⟨b80, b81, b82⟩
          obtain ⟨d1, hd1⟩ : ∃ d, d = decW n j := ⟨_, rfl⟩
          obtain ⟨d2, hd2⟩ : ∃ d, d = decW n2 j2 := ⟨_, rfl⟩
          have D1 : ∀ w', Below w8.heap.size w8 w' → Calls Tryd.prog 37 #[.agg #[.int .i64 12, .int .i64 n, .int .i64 j]] w' fun e w'' => e = .returned (.int .i64 d1) ∧ Below w8.heap.size w8 w'' := fun w' hw' =>
            (law_dec n j w' o1 o2 (by omega) (by omega)).mono fun e w'' ⟨he, hb⟩ => ⟨by rw [hd1]; exact he, hw'.trans (hb.mono hw'.size)⟩
          have D2 : ∀ w', Below w8.heap.size w8 w' → Calls Tryd.prog 37 #[.agg #[.int .i64 12, .int .i64 n2, .int .i64 j2]] w' fun e w'' => e = .returned (.int .i64 d2) ∧ Below w8.heap.size w8 w'' := fun w' hw' =>
            (law_dec n2 j2 w' u1 u2 (by omega) (by omega)).mono fun e w'' ⟨he, hb⟩ => ⟨by rw [hd2]; exact he, hw'.trans (hb.mono hw'.size)⟩
          rw [← hd1, ← hd2] at ord
          have lt1 : (FloatKind.f64.format.order (argX 12 n j) (argX 12 n2 j2) == some .lt) = decide (d1 < d2) := by
            rw [ord]; rcases Int.lt_trichotomy d1 d2 with h | h | h
            · rw [cmp_lt.2 h]; simp [h]
            · subst h; simp
            · rw [cmp_gt.2 h]; simp; omega
          have eq1 : (FloatKind.f64.format.order (argX 12 n j) (argX 12 n2 j2) == some .eq) = (d1 == d2) := by
            rw [ord]; rcases Int.lt_trichotomy d1 d2 with h | h | h
            · rw [cmp_lt.2 h, show (d1 == d2) = false from by simp; omega]; rfl
            · subst h; simp
            · rw [cmp_gt.2 h, show (d1 == d2) = false from by simp; omega]; rfl
          clear ord hd1 hd2 hok hok2 a80 a81 a82 b80 b81 b82
          go_wp2_with fail
          refine wp_region_below (by kernel_rfl) (by kernel_rfl) ?_
          refine wpQuiet_step (fun K hK => ?_)
          go_simp
          refine ⟨.agg #[.int .i64 12, .int .i64 n, .int .i64 j], fun w' hw' => ?_, hK _ ?_⟩
          · obtain ⟨c0, c1, c2⟩ := LA w' hw'
            simp [c0, c1, c2]
          clear hK K
          refine wpQuiet_step (fun K hK => ?_)
          go_simp
          refine ⟨.int .i64 d1, fun w' hw' => ?_, hK _ ?_⟩
          · exact D1 w' hw'
          clear hK K
          refine wpQuiet_step (fun K hK => ?_)
          go_simp
          refine ⟨.agg #[.int .i64 12, .int .i64 n2, .int .i64 j2], fun w' hw' => ?_, hK _ ?_⟩
          · obtain ⟨c0, c1, c2⟩ := LB w' hw'
            simp [c0, c1, c2]
          clear hK K
          refine wpQuiet_step (fun K hK => ?_)
          go_simp
          refine ⟨.int .i64 d2, fun w' hw' => ?_, hK _ ?_⟩
          · exact D2 w' hw'
          clear hK K
          quiet_step (exact fun _ => rfl)
          quiet_step (exact fun _ => rfl)
          quiet_step (exact fun _ => rfl)
          quiet_step (exact fun _ => rfl)
          quiet_step (exact fun _ => rfl)
          quiet_step (exact fun _ => rfl)
          refine wpQuiet_step (fun K hK => ?_)
          go_simp
          refine ⟨.agg #[.int .i64 12, .int .i64 n, .int .i64 j], fun w' hw' => ?_, hK _ ?_⟩
          · obtain ⟨c0, c1, c2⟩ := LA w' hw'
            simp [c0, c1, c2]
          clear hK K
          refine wpQuiet_step (fun K hK => ?_)
          go_simp
          refine ⟨.int .i64 d1, fun w' hw' => ?_, hK _ ?_⟩
          · exact D1 w' hw'
          clear hK K
          refine wpQuiet_step (fun K hK => ?_)
          go_simp
          refine ⟨.agg #[.int .i64 12, .int .i64 n2, .int .i64 j2], fun w' hw' => ?_, hK _ ?_⟩
          · obtain ⟨c0, c1, c2⟩ := LB w' hw'
            simp [c0, c1, c2]
          clear hK K
          refine wpQuiet_step (fun K hK => ?_)
          go_simp
          refine ⟨.int .i64 d2, fun w' hw' => ?_, hK _ ?_⟩
          · exact D2 w' hw'
          clear hK K
          quiet_step (exact fun _ => rfl)
          quiet_step (exact fun _ => rfl)
          quiet_step (exact fun _ => rfl)
          quiet_step (exact fun _ => rfl)
          quiet_step (exact fun _ => rfl)
          quiet_step (exact fun _ => rfl)
          quiet_step (exact fun _ => rfl)
          refine wpQuiet_nil ?_
          intro w9 hb9
          go_wp2
          go_ret
          exact ⟨rfl, B8.out.trans (hb9.mono B8.out.size)⟩
    · have b1 : (k2 != 12) = true := by simpa using hk2
      go_wp2
      go_ret
      exact ⟨rfl, B5.out⟩
  · have b1 : (k != 12) = true := by simpa using hk1
    go_wp2
    go_ret
    exact ⟨rfl, B5.out⟩

end Go.Proofs.YtdhoimjkgicneaaDoor
