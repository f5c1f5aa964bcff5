/- The law on operands read back, out of the contracts. -/
import Derived.Test.YtdhoimjkgicneaaDoorScanB
import Derived.Test.YtdhoimjkgicneaaDoorDrawE
namespace Go.Proofs.YtdhoimjkgicneaaDoor
open Go Go.RowKit

theorem cells3 {w1 w2 : World} {b : Nat} {x y z : Value} (hb : Below w1.heap.size w1 w2) (hz : b < w1.heap.size) (q : w1.cell? ⟨b, 0, none⟩ = some x ∧ w1.cell? ⟨b, 1, none⟩ = some y ∧ w1.cell? ⟨b, 2, none⟩ = some z) :
    w2.cell? ⟨b, 0, none⟩ = some x ∧ w2.cell? ⟨b, 1, none⟩ = some y ∧ w2.cell? ⟨b, 2, none⟩ = some z :=
  ⟨(hb.cell (p := ⟨b, 0, none⟩) hz).trans q.1, (hb.cell (p := ⟨b, 1, none⟩) hz).trans q.2.1, (hb.cell (p := ⟨b, 2, none⟩) hz).trans q.2.2⟩

theorem back_one {k n p : Int} {e : Ending} (h : okB k n p = true) (hr : Reads (textL k n p) e) : e = .returned (.tuple #[.agg #[.int .i64 k, .int .i64 n, .int .i64 p], .bool true]) := by
  rcases hr with ⟨k', n', p', h1, h2, rfl⟩ | ⟨h1, -⟩
  · have a := (read_both h).1
    have b := (read_same h1 h2).1
    rw [a] at b
    cases b; rfl
  · exact absurd rfl (h1 k n p h)
theorem back_none {k n p : Int} {e : Ending} (h : okB k n p = false) (hr : Reads (textL k n p) e) : e = .returned (.tuple #[.agg #[.int .i64 0, .int .i64 0, .int .i64 0], .bool false]) := by
  rcases hr with ⟨k', n', p', h1, h2, rfl⟩ | ⟨-, rfl⟩
  · exfalso; rw [text_no h] at h2; exact textL_ne h1 h2
  · rfl
theorem back_both {l : List UInt8} {e1 e2 : Ending} (h1 : Reads l e1) (h2 : Reads l e2) :
    (∃ k n p : Int, okB k n p = true ∧ textL k n p = l ∧ e1 = .returned (.tuple #[.agg #[.int .i64 k, .int .i64 n, .int .i64 p], .bool true]) ∧ e2 = .returned (.tuple #[.agg #[.int .i64 k, .int .i64 n, .int .i64 p], .bool true])) ∨
    (e1 = .returned (.tuple #[.agg #[.int .i64 0, .int .i64 0, .int .i64 0], .bool false]) ∧ e2 = .returned (.tuple #[.agg #[.int .i64 0, .int .i64 0, .int .i64 0], .bool false])) := by
  rcases h1 with ⟨k, n, p, a1, a2, rfl⟩ | ⟨a1, rfl⟩
  · subst a2
    exact Or.inl ⟨k, n, p, a1, rfl, rfl, back_one a1 h2⟩
  · rcases h2 with ⟨k, n, p, b1, b2, rfl⟩ | ⟨b1, rfl⟩
    · exact absurd b2 (a1 k n p b1)
    · exact Or.inr ⟨rfl, rfl⟩

set_option maxRecDepth 100000 in
set_option maxHeartbeats 400000 in
theorem law_long (a0 a1 : Option Addr) (l0 c0 l1 c1 : Nat) (w : World) (h : 1048576 < l0 ∨ 1048576 < l1) (m0 : l0 ≤ 9223372036854775807) (m1 : l1 ≤ 9223372036854775807) :
    Calls Tryd.prog 3 #[.slice a0 l0 c0, .slice a1 l1 c1] w fun e w' => e = .returned (.bool true) ∧ Below w.heap.size w w' := by
  by_cases h0 : 1048576 < l0
  · go_enter Tryd.func3, Tryd.ntmps3
    go_wp2
    go_ret
    exact ⟨rfl, Below.refl _ _⟩
  · have h1 : 1048576 < l1 := by omega
    clear h
    go_enter Tryd.func3, Tryd.ntmps3
    go_wp2
    go_ret
    exact ⟨rfl, Below.refl _ _⟩

set_option maxRecDepth 100000 in
set_option maxHeartbeats 2000000 in
theorem law_short (a0 a1 : Option Addr) (l0 c0 l1 c1 : Nat) (w : World) (T : Tabs w) (h0 : l0 ≤ 1048576) (h1 : l1 ≤ 1048576) (C0 : CodeAt (.slice a0 l0 c0) w) (C1 : CodeAt (.slice a1 l1 c1) w) :
    Calls Tryd.prog 3 #[.slice a0 l0 c0, .slice a1 l1 c1] w fun e w' => e = .returned (.bool true) ∧ Below w.heap.size w w' := by
  have X1 : Hid (CodeAt (.slice a1 l1 c1) w) := C1
  have TT : Hid (Tabs w) := T
  clear C1 T
  go_enter Tryd.func3, Tryd.ntmps3
  go_wp2_with fail
  refine (draw_arg _ w C0).mono ?_
  rintro e w1 ⟨k, n, p, rfl, hb1⟩
  have B1 : Hid (Below w.heap.size w w1) := hb1
  have s1 : w.heap.size ≤ w1.heap.size := hb1.size
  clear hb1 C0
  go_wp2_with fail
  refine (impl_text k n p _ ((TT.out.below B1.out (Nat.le_refl _)).alloc _)).mono ?_
  rintro e w2 ⟨rfl, hb2⟩
  obtain ⟨e0, e1, e2, z2, b2⟩ := box3 hb2
  have B2 : Hid (Below w.heap.size w w2) := B1.out.trans (b2.mono s1)
  clear hb2 b2
  go_wp2_with fail
  refine (spec_text k n p w2).mono ?_
  rintro e w3 ⟨rfl, hb3⟩
  obtain ⟨g0, g1, g2⟩ := cells3 hb3 z2 ⟨e0, e1, e2⟩
  have B3 : Hid (Below w.heap.size w w3) := B2.out.trans (hb3.mono B2.out.size)
  have z3 : w1.heap.size < w3.heap.size := Nat.lt_of_lt_of_le z2 hb3.size
  clear hb3 e0 e1 e2 z2
  go_wp2_with fail
  refine (impl_ok k n p w3 (TT.out.below B3.out (Nat.le_refl _))).mono ?_
  rintro e w4 ⟨rfl, hb4⟩
  obtain ⟨e0, e1, e2⟩ := cells3 hb4 z3 ⟨g0, g1, g2⟩
  have B4 : Hid (Below w.heap.size w w4) := B3.out.trans (hb4.mono B3.out.size)
  have z4 : w1.heap.size < w4.heap.size := Nat.lt_of_lt_of_le z3 hb4.size
  clear hb4 g0 g1 g2 z3
  have hsz : (⟨(textL k n p).toArray⟩ : ByteArray).size ≤ 1000 := by rw [str_size]; have := textL_len k n p; omega
  cases hok : okB k n p with
  | true =>
    have hE : (textL k n p).isEmpty = false := by
      cases ht : textL k n p with
      | nil => exact absurd ht (textL_ne hok)
      | cons c cs => rfl
    have HO : Hid (okB k n p = true) := hok
    go_wp2_with fail
    refine (impl_read _ w4 (TT.out.below B4.out (Nat.le_refl _)) hsz).mono ?_
    rintro e w5 ⟨hr, hb5⟩
    obtain rfl := back_one HO.out hr
    obtain ⟨g0, g1, g2⟩ := cells3 hb5 z4 ⟨e0, e1, e2⟩
    have B5 : Hid (Below w.heap.size w w5) := B4.out.trans (hb5.mono B4.out.size)
    have s5 : w.heap.size ≤ w5.heap.size := B5.out.size
    have z5 : w1.heap.size < w5.heap.size := Nat.lt_of_lt_of_le z4 hb5.size
    have p0 := past g0 z5
    have p1 := past g1 z5
    have p2 := past g2 z5
    clear hb5 e0 e1 e2 z4 hr g0 g1 g2
    go_wp2_with fail
    have B6 : Hid (Below w.heap.size w (w5.alloc (.cells #[.int .i64 k, .int .i64 n, .int .i64 p] 24))) := B5.out.alloc s5 _
    refine (draw_text _ _ (X1.out.below B6.out)).mono ?_
    rintro e w6 ⟨l, rfl, hl, hb6⟩
    have B7 : Hid (Below w.heap.size w w6) := B6.out.trans (hb6.mono B6.out.size)
    have hsz2 : (⟨l.toArray⟩ : ByteArray).size ≤ 1000 := by rw [str_size]; omega
    clear hb6 p0 p1 p2 z5 hE hok HO hsz
    go_wp2_with fail
    refine (impl_read _ w6 (TT.out.below B7.out (Nat.le_refl _)) hsz2).mono ?_
    rintro e w7 ⟨hr1, hb7⟩
    have B8 : Hid (Below w.heap.size w w7) := B7.out.trans (hb7.mono B7.out.size)
    clear hb7
    rcases hr1 with ⟨k1, n1, r1, o1, t1, rfl⟩ | ⟨no1, rfl⟩
    · have t1' : textL k1 n1 r1 = l := t1
      subst t1'
      clear t1
      have O1 : Hid (okB k1 n1 r1 = true) := o1
      go_wp2_with fail
      refine (spec_read _ _ hsz2).mono ?_
      rintro e w8 ⟨hr2, hb8⟩
      obtain rfl := back_one O1.out hr2
      obtain ⟨v0, v1, v2, z8, b8⟩ := box3 hb8
      have B9 : Hid (Below w.heap.size w w8) := B8.out.trans (b8.mono B8.out.size)
      have s9 : w.heap.size ≤ w8.heap.size := B9.out.size
      have x0 := past v0 z8
      have x1 := past v1 z8
      have x2 := past v2 z8
      clear hb8 b8 hr2
      go_wp2_with fail
      refine (impl_ok k1 n1 r1 _ ((TT.out.below B9.out (Nat.le_refl _)).alloc _)).mono ?_
      rintro e w9 ⟨rfl, hb9⟩
      have B10 : Hid (Below w.heap.size w w9) := (B9.out.alloc s9 _).trans (hb9.mono (by have := s9; simp; omega))
      have y0 : w9.cell? ⟨w7.heap.size, 0, none⟩ = some (.int .i64 k1) := (hb9.cell (p := ⟨w7.heap.size, 0, none⟩) (by simp; omega)).trans (x0 _)
      have y1 : w9.cell? ⟨w7.heap.size, 1, none⟩ = some (.int .i64 n1) := (hb9.cell (p := ⟨w7.heap.size, 1, none⟩) (by simp; omega)).trans (x1 _)
      have y2 : w9.cell? ⟨w7.heap.size, 2, none⟩ = some (.int .i64 r1) := (hb9.cell (p := ⟨w7.heap.size, 2, none⟩) (by simp; omega)).trans (x2 _)
      clear hb9 x0 x1 x2 v0 v1 v2
      go_wp2_with fail
      refine (impl_text k1 n1 r1 w9 (TT.out.below B10.out (Nat.le_refl _))).mono ?_
      rintro e w10 ⟨rfl, hb10⟩
      have B11 : Hid (Below w.heap.size w w10) := B10.out.trans (hb10.mono B10.out.size)
      clear hb10
      go_wp2
      go_ret
      exact ⟨rfl, B11.out⟩
    · go_wp2_with fail
      refine (spec_read _ _ hsz2).mono ?_
      rintro e w8 ⟨hr2, hb8⟩
      obtain rfl : e = .returned (.tuple #[.agg #[.int .i64 0, .int .i64 0, .int .i64 0], .bool false]) := by
        rcases hr2 with ⟨k2, n2, r2, o2, t2, rfl⟩ | ⟨-, rfl⟩
        · exact absurd t2 (no1 k2 n2 r2 o2)
        · rfl
      obtain ⟨v0, v1, v2, z8, b8⟩ := box3 hb8
      have B9 : Hid (Below w.heap.size w w8) := B8.out.trans (b8.mono B8.out.size)
      have s9 : w.heap.size ≤ w8.heap.size := B9.out.size
      have x0 := past v0 z8
      have x1 := past v1 z8
      have x2 := past v2 z8
      clear hb8 b8 hr2 no1
      go_wp2
      go_ret
      exact ⟨rfl, B9.out.alloc s9 _⟩
  | false =>
    have HO : Hid (okB k n p = false) := hok
    have hT : textL k n p = [] := text_no hok
    have hszE : (⟨#[]⟩ : ByteArray).size ≤ 1000 := by decide
    clear hsz
    go_wp2_with fail
    refine (impl_read _ w4 (TT.out.below B4.out (Nat.le_refl _)) hszE).mono ?_
    rintro e w5 ⟨hr, hb5⟩
    have hr' : Reads (textL k n p) e := by rw [hT]; exact hr
    obtain rfl := back_none HO.out hr'
    obtain ⟨g0, g1, g2⟩ := cells3 hb5 z4 ⟨e0, e1, e2⟩
    have B5 : Hid (Below w.heap.size w w5) := B4.out.trans (hb5.mono B4.out.size)
    have s5 : w.heap.size ≤ w5.heap.size := B5.out.size
    have z5 : w1.heap.size < w5.heap.size := Nat.lt_of_lt_of_le z4 hb5.size
    have p0 := past g0 z5
    have p1 := past g1 z5
    have p2 := past g2 z5
    clear hb5 e0 e1 e2 z4 hr hr' g0 g1 g2
    go_wp2_with fail
    have B6 : Hid (Below w.heap.size w (w5.alloc (.cells #[.int .i64 0, .int .i64 0, .int .i64 0] 24))) := B5.out.alloc s5 _
    refine (draw_text _ _ (X1.out.below B6.out)).mono ?_
    rintro e w6 ⟨l, rfl, hl, hb6⟩
    have B7 : Hid (Below w.heap.size w w6) := B6.out.trans (hb6.mono B6.out.size)
    have hsz2 : (⟨l.toArray⟩ : ByteArray).size ≤ 1000 := by rw [str_size]; omega
    clear hb6 p0 p1 p2 z5 hok HO hT hszE
    go_wp2_with fail
    refine (impl_read _ w6 (TT.out.below B7.out (Nat.le_refl _)) hsz2).mono ?_
    rintro e w7 ⟨hr1, hb7⟩
    have B8 : Hid (Below w.heap.size w w7) := B7.out.trans (hb7.mono B7.out.size)
    clear hb7
    rcases hr1 with ⟨k1, n1, r1, o1, t1, rfl⟩ | ⟨no1, rfl⟩
    · have t1' : textL k1 n1 r1 = l := t1
      subst t1'
      clear t1
      have O1 : Hid (okB k1 n1 r1 = true) := o1
      go_wp2_with fail
      refine (spec_read _ _ hsz2).mono ?_
      rintro e w8 ⟨hr2, hb8⟩
      obtain rfl := back_one O1.out hr2
      obtain ⟨v0, v1, v2, z8, b8⟩ := box3 hb8
      have B9 : Hid (Below w.heap.size w w8) := B8.out.trans (b8.mono B8.out.size)
      have s9 : w.heap.size ≤ w8.heap.size := B9.out.size
      have x0 := past v0 z8
      have x1 := past v1 z8
      have x2 := past v2 z8
      clear hb8 b8 hr2
      go_wp2_with fail
      refine (impl_ok k1 n1 r1 _ ((TT.out.below B9.out (Nat.le_refl _)).alloc _)).mono ?_
      rintro e w9 ⟨rfl, hb9⟩
      have B10 : Hid (Below w.heap.size w w9) := (B9.out.alloc s9 _).trans (hb9.mono (by have := s9; simp; omega))
      have y0 : w9.cell? ⟨w7.heap.size, 0, none⟩ = some (.int .i64 k1) := (hb9.cell (p := ⟨w7.heap.size, 0, none⟩) (by simp; omega)).trans (x0 _)
      have y1 : w9.cell? ⟨w7.heap.size, 1, none⟩ = some (.int .i64 n1) := (hb9.cell (p := ⟨w7.heap.size, 1, none⟩) (by simp; omega)).trans (x1 _)
      have y2 : w9.cell? ⟨w7.heap.size, 2, none⟩ = some (.int .i64 r1) := (hb9.cell (p := ⟨w7.heap.size, 2, none⟩) (by simp; omega)).trans (x2 _)
      clear hb9 x0 x1 x2 v0 v1 v2
      go_wp2_with fail
      refine (impl_text k1 n1 r1 w9 (TT.out.below B10.out (Nat.le_refl _))).mono ?_
      rintro e w10 ⟨rfl, hb10⟩
      have B11 : Hid (Below w.heap.size w w10) := B10.out.trans (hb10.mono B10.out.size)
      clear hb10
      go_wp2
      go_ret
      exact ⟨rfl, B11.out⟩
    · go_wp2_with fail
      refine (spec_read _ _ hsz2).mono ?_
      rintro e w8 ⟨hr2, hb8⟩
      obtain rfl : e = .returned (.tuple #[.agg #[.int .i64 0, .int .i64 0, .int .i64 0], .bool false]) := by
        rcases hr2 with ⟨k2, n2, r2, o2, t2, rfl⟩ | ⟨-, rfl⟩
        · exact absurd t2 (no1 k2 n2 r2 o2)
        · rfl
      obtain ⟨v0, v1, v2, z8, b8⟩ := box3 hb8
      have B9 : Hid (Below w.heap.size w w8) := B8.out.trans (b8.mono B8.out.size)
      have s9 : w.heap.size ≤ w8.heap.size := B9.out.size
      have x0 := past v0 z8
      have x1 := past v1 z8
      have x2 := past v2 z8
      clear hb8 b8 hr2 no1
      go_wp2
      go_ret
      exact ⟨rfl, B9.out.alloc s9 _⟩

end Go.Proofs.YtdhoimjkgicneaaDoor
