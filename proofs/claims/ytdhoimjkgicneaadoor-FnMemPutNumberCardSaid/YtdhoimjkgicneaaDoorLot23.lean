/- Texts of this proof laid together: DrawC, DrawD. -/
import Derived.Test.YtdhoimjkgicneaaDoorLot20
import Derived.Test.YtdhoimjkgicneaaDoorLot22
import Derived.Test.YtdhoimjkgicneaaDoorLot5
/- Spoilt operands, and the draws of an operand and of a text. -/
namespace Go.Proofs.YtdhoimjkgicneaaDoor
open Go Go.RowKit

theorem boxM2 {R : Nat} {w w1 : World} {a b c x y z : Value} {t s : TypeId} (mv : Moved R ((w.alloc (.cells #[a, b, c] t)).alloc (.cells #[x, y, z] s)) w1) (hR : R < w.heap.size) :
    (w1.cell? ⟨w.heap.size, 0, none⟩ = some a ∧ w1.cell? ⟨w.heap.size, 1, none⟩ = some b ∧ w1.cell? ⟨w.heap.size, 2, none⟩ = some c ∧
    w1.frozen? ⟨w.heap.size, 0, none⟩ = false ∧ w1.frozen? ⟨w.heap.size, 1, none⟩ = false ∧ w1.frozen? ⟨w.heap.size, 2, none⟩ = false) ∧
    (w1.cell? ⟨w.heap.size + 1, 0, none⟩ = some x ∧ w1.cell? ⟨w.heap.size + 1, 1, none⟩ = some y ∧ w1.cell? ⟨w.heap.size + 1, 2, none⟩ = some z ∧
    w1.frozen? ⟨w.heap.size + 1, 0, none⟩ = false ∧ w1.frozen? ⟨w.heap.size + 1, 1, none⟩ = false ∧ w1.frozen? ⟨w.heap.size + 1, 2, none⟩ = false) ∧ w.heap.size + 1 < w1.heap.size ∧ Moved R w w1 := by
  have hs : (w.alloc (.cells #[a, b, c] t)).heap.size = w.heap.size + 1 := by simp
  obtain ⟨c0, c1, c2, d0, d1, d2, hz, mv1⟩ := boxM mv (by rw [hs]; omega)
  rw [hs] at c0 c1 c2 d0 d1 d2 hz
  obtain ⟨e0, e1, e2, g0, g1, g2, -, mv2⟩ := boxM mv1 hR
  exact ⟨⟨e0, e1, e2, g0, g1, g2⟩, ⟨c0, c1, c2, d0, d1, d2⟩, hz, mv2⟩

set_option maxHeartbeats 1000000 in
theorem spoilt_any (R c : Nat) (k n p : Int) (w : World) (h : Rd R c w) (hc : c ≤ 900) :
    Calls Tryd.prog 109 #[.pointer (some ⟨R, 0, none⟩), .agg #[.int .i64 k, .int .i64 n, .int .i64 p]] w fun e w' => ∃ k n p : Int, e = .returned (.agg #[.int .i64 k, .int .i64 n, .int .i64 p]) ∧ Rd R (c + 2) w' ∧ Moved R w w' := by
  have hR := h.size
  go_enter Tryd.func109, Tryd.ntmps109
  go_wp2_with fail
  refine (pick_any R c 6 _ ((h.alloc _).alloc _) (by omega) (by omega)).mono ?_
  rintro e w1 ⟨x, rfl, x0, x1, -, rd1, mv⟩
  have hx : x = 0 ∨ x = 1 ∨ x = 2 ∨ x = 3 ∨ x = 4 ∨ x = 5 := by have := x1 (by omega); omega
  clear x0 x1 h
  rcases hx with rfl | rfl | rfl | rfl | rfl | rfl
  · go_wp2_with fail
    refine (pick_any R (c + 1) 16 _ rd1 (by omega) (by omega)).mono ?_
    rintro e w2 ⟨y, rfl, y0, y1, -, rd2, mv2⟩
    have hy : y < 16 := y1 (by omega)
    obtain ⟨⟨e0, e1, e2, g0, g1, g2⟩, ⟨q0, q1, q2, f0, f1, f2⟩, hz, mv3⟩ := boxM2 (mv.trans mv2) hR
    have MV : Hid (Moved R w w2) := mv3
    have RD : Hid (Rd R (c + 1 + 1) w2) := rd2
    clear mv mv2 mv3 rd1 rd2 y1
    go_wp2
    exact bodyPost_ret (v := .agg #[.int .i64 (y - 1), .int .i64 n, .int .i64 p]) (by simp [results, Tryd.results109, go_sem, q0, q1, q2]) rfl ⟨_, _, _, rfl, set3 (RD.out.setCell (by show R < w.heap.size; omega) _) (MV.out.setCell (Nat.le_refl _) _) hR (by omega) _ (by omega) _ _ _⟩
  · go_wp2_with fail
    refine (num_lit R (c + 1) _ _ _ rfl rd1 (by omega) (by simp) (by simp) (by simp) 16 rfl).mono ?_
    rintro e w2 ⟨y, rfl, rd2, mv2⟩
    obtain ⟨⟨e0, e1, e2, g0, g1, g2⟩, ⟨q0, q1, q2, f0, f1, f2⟩, hz, mv3⟩ := boxM2 (mv.trans mv2) hR
    have MV : Hid (Moved R w w2) := mv3
    have RD : Hid (Rd R (c + 1 + 1) w2) := rd2
    clear mv mv2 mv3 rd1 rd2
    go_wp2
    exact bodyPost_ret (v := .agg #[.int .i64 k, .int .i64 y, .int .i64 p]) (by simp [results, Tryd.results109, go_sem, q0, q1, q2]) rfl ⟨_, _, _, rfl, set3 (RD.out.setCell (by show R < w.heap.size; omega) _) (MV.out.setCell (Nat.le_refl _) _) hR (by omega) _ (by omega) _ _ _⟩
  · go_wp2_with fail
    refine (num_lit R (c + 1) _ _ _ rfl rd1 (by omega) (by simp) (by simp) (by simp) 5 rfl).mono ?_
    rintro e w2 ⟨y, rfl, rd2, mv2⟩
    obtain ⟨⟨e0, e1, e2, g0, g1, g2⟩, ⟨q0, q1, q2, f0, f1, f2⟩, hz, mv3⟩ := boxM2 (mv.trans mv2) hR
    have MV : Hid (Moved R w w2) := mv3
    have RD : Hid (Rd R (c + 1 + 1) w2) := rd2
    clear mv mv2 mv3 rd1 rd2
    go_wp2
    exact bodyPost_ret (v := .agg #[.int .i64 k, .int .i64 n, .int .i64 y]) (by simp [results, Tryd.results109, go_sem, q0, q1, q2]) rfl ⟨_, _, _, rfl, set3 (RD.out.setCell (by show R < w.heap.size; omega) _) (MV.out.setCell (Nat.le_refl _) _) hR (by omega) _ (by omega) _ _ _⟩
  all_goals
    obtain ⟨⟨e0, e1, e2, g0, g1, g2⟩, ⟨q0, q1, q2, f0, f1, f2⟩, hz, mv3⟩ := boxM2 mv hR
    have MV : Hid (Moved R w w1) := mv3
    have RD : Hid (Rd R (c + 1) w1) := rd1
    have hzk := sizeZ_bd k
    clear mv mv3 rd1
  · go_wp2_with (go_at_call 52; refine (spec_size k _).mono ?_; rintro e w' ⟨rfl, rfl⟩)
    exact bodyPost_ret (v := .agg #[.int .i64 k, .int .i64 (sizeZ k), .int .i64 p]) (by simp [results, Tryd.results109, go_sem, q0, q1, q2]) rfl ⟨_, _, _, rfl, set3 (RD.out.setCell (by show R < w.heap.size; omega) _) (MV.out.setCell (Nat.le_refl _) _) hR (by omega) _ (by omega) _ _ _⟩
  · go_wp2_with (go_at_call 52; refine (spec_size k _).mono ?_; rintro e w' ⟨rfl, rfl⟩)
    exact bodyPost_ret (v := .agg #[.int .i64 k, .int .i64 (sizeZ k - 1), .int .i64 p]) (by simp [results, Tryd.results109, go_sem, q0, q1, q2]) rfl ⟨_, _, _, rfl, set3 (RD.out.setCell (by show R < w.heap.size; omega) _) (MV.out.setCell (Nat.le_refl _) _) hR (by omega) _ (by omega) _ _ _⟩
  · go_wp2
    exact bodyPost_ret (v := .agg #[.int .i64 k, .int .i64 (wrap64 (-n)), .int .i64 p]) (by simp [results, Tryd.results109, go_sem, q0, q1, q2]) rfl ⟨_, _, _, rfl, set3 (RD.out.setCell (by show R < w.heap.size; omega) _) (MV.out.setCell (Nat.le_refl _) _) hR (by omega) _ (by omega) _ _ _⟩

end Go.Proofs.YtdhoimjkgicneaaDoor

/- The draws of an operand and of a text, from a code. -/
namespace Go.Proofs.YtdhoimjkgicneaaDoor
open Go Go.RowKit

set_option maxHeartbeats 800000 in
theorem any_any (R c : Nat) (w : World) (h : Rd R c w) (hc : c ≤ 800) :
    Calls Tryd.prog 55 #[.pointer (some ⟨R, 0, none⟩)] w fun e w' => ∃ k n p : Int, e = .returned (.agg #[.int .i64 k, .int .i64 n, .int .i64 p]) ∧ Rd R (c + 10) w' ∧ Moved R w w' := by
  have hR := h.size
  go_enter Tryd.func55, Tryd.ntmps55
  go_wp2_with fail
  refine (pick_any R c 13 _ (h.alloc _) (by omega) (by omega)).mono ?_
  rintro e w1 ⟨x, rfl, x0, x1, -, rd1, mv1⟩
  have hx : x < 13 := x1 (by omega)
  clear x1 h
  go_wp2_with fail
  refine (arg_any R (c + 1) (1 + x) w1 rd1 (by omega)).mono ?_
  rintro e w2 ⟨k, n, p, rfl, rd2, mv2⟩
  have hR2 : R < w2.heap.size := rd2.size
  have M2 := mv1.trans mv2
  clear mv1 mv2 rd1
  go_wp2_with fail
  refine (pick_any R (c + 1 + 4) 20 _ (rd2.alloc _) (by omega) (by omega)).mono ?_
  rintro e w3 ⟨y, rfl, y0, -, -, rd3, mv3⟩
  clear rd2
  cases hy : y == 0 with
  | true =>
    obtain ⟨e0, e1, e2, g0, g1, g2, hz3, mv3'⟩ := boxM mv3 hR2
    go_wp2_with fail
    refine (spoilt_any R (c + 1 + 4 + 1) k n p _ rd3 (by omega)).mono ?_
    rintro e w4 ⟨k', n', p', rfl, rd4, mv4⟩
    obtain ⟨q0, q1, q2, f0, f1, f2, hz, mv5⟩ := boxM (M2.trans (mv3'.trans mv4)) hR
    have MV : Hid (Moved R w w4) := mv5
    have RD : Hid (Rd R (c + 1 + 4 + 1 + 2) w4) := rd4
    clear mv3 mv3' mv4 mv5 rd3 rd4 M2 e0 e1 e2 g0 g1 g2
    go_wp2
    exact bodyPost_ret (v := .agg #[.int .i64 k', .int .i64 n', .int .i64 p']) (by simp [results, Tryd.results55, go_sem, q0, q1, q2]) rfl ⟨k', n', p', rfl, set3 RD.out MV.out hR (by omega) _ (Nat.le_refl _) _ _ _⟩
  | false =>
    obtain ⟨e0, e1, e2, g0, g1, g2, hz3, mv3'⟩ := boxM mv3 hR2
    obtain ⟨q0, q1, q2, f0, f1, f2, hz, mv5⟩ := boxM (M2.trans mv3') hR
    have MV : Hid (Moved R w w3) := mv5
    have RD : Hid (Rd R (c + 1 + 4 + 1) w3) := rd3
    clear mv3 mv3' mv5 rd3 M2
    go_wp2
    exact bodyPost_ret (v := .agg #[.int .i64 k, .int .i64 n, .int .i64 p]) (by simp [results, Tryd.results55, go_sem, q0, q1, q2]) rfl ⟨k, n, p, rfl, set3 RD.out MV.out hR (by omega) _ (Nat.le_refl _) _ _ _⟩

set_option maxHeartbeats 400000 in
theorem draw_arg (v : Value) (w : World) (h : CodeAt v w) :
    Calls Tryd.prog 12 #[v] w fun e w' => ∃ k n p : Int, e = .returned (.agg #[.int .i64 k, .int .i64 n, .int .i64 p]) ∧ Below w.heap.size w w' := by
  have h' := h.below ((Below.refl w.heap.size w).alloc (Nat.le_refl _) (.cells #[.int .i64 0, .int .i64 0, .int .i64 0] 24))
  go_enter Tryd.func12, Tryd.ntmps12
  go_wp2_with fail
  refine (open_any v _ h').mono ?_
  rintro e w1 ⟨rfl, rd1, hb1⟩
  rw [show (w.alloc (.cells #[.int .i64 0, .int .i64 0, .int .i64 0] 24)).heap.size = w.heap.size + 1 from by simp] at rd1 hb1 ⊢
  go_wp2_with fail
  refine (any_any (w.heap.size + 1) 0 w1 rd1 (by omega)).mono ?_
  rintro e w2 ⟨k, n, p, rfl, rd2, mv2⟩
  have hs1 := hb1.size
  simp at hs1
  have hb2 : Below (w.heap.size + 1) (w.alloc (.cells #[.int .i64 0, .int .i64 0, .int .i64 0] 24)) w2 := hb1.trans (mv2.below (by omega) (Nat.le_refl _))
  have hb3 : Below (w.alloc (.cells #[.int .i64 0, .int .i64 0, .int .i64 0] 24)).heap.size (w.alloc (.cells #[.int .i64 0, .int .i64 0, .int .i64 0] 24)) w2 := by simpa using hb2
  obtain ⟨q0, q1, q2, hz, hb4⟩ := box3 hb3
  have f0 : w2.frozen? ⟨w.heap.size, 0, none⟩ = false := by rw [hb3.frozen (p := ⟨w.heap.size, 0, none⟩) (by simp)]; simp
  have f1 : w2.frozen? ⟨w.heap.size, 1, none⟩ = false := by rw [hb3.frozen (p := ⟨w.heap.size, 1, none⟩) (by simp)]; simp
  have f2 : w2.frozen? ⟨w.heap.size, 2, none⟩ = false := by rw [hb3.frozen (p := ⟨w.heap.size, 2, none⟩) (by simp)]; simp
  have HB : Hid (Below w.heap.size w w2) := hb4
  clear hb1 hb2 hb3 hb4 rd1 rd2 mv2 h h' hs1
  go_wp2
  exact bodyPost_ret (v := .agg #[.int .i64 k, .int .i64 n, .int .i64 p]) (by simp [results, Tryd.results12, go_sem, q0, q1, q2]) rfl ⟨k, n, p, rfl, ((HB.out.setCell (Nat.le_refl _) _).setCell (Nat.le_refl _) _).setCell (Nat.le_refl _) _⟩

end Go.Proofs.YtdhoimjkgicneaaDoor
