/- Spoilt operands, and the draws of an operand and of a text. -/
import Derived.Test.YtdhoimjkgicneaaDoorDrawB
import Derived.Test.YtdhoimjkgicneaaDoorDevD
namespace Go.Proofs.YtdhoimjkgicneaaDoor
open Go Go.RowKit

theorem boxM2 {R : Nat} {w w1 : World} {a b c x y z : Value} {t s : TypeId} (mv : Moved R ((w.alloc (.cells #[a, b, c] t)).alloc (.cells #[x, y, z] s)) w1) (hR : R < w.heap.size) :
    (w1.cell? ⟨w.heap.size, 0, none⟩ = some a ∧ w1.cell? ⟨w.heap.size, 1, none⟩ = some b ∧ w1.cell? ⟨w.heap.size, 2, none⟩ = some c ∧
    w1.frozen? ⟨w.heap.size, 0, none⟩ = false ∧ w1.frozen? ⟨w.heap.size, 1, none⟩ = false ∧ w1.frozen? ⟨w.heap.size, 2, none⟩ = false) ∧
    (w1.cell? ⟨w.heap.size + 1, 0, none⟩ = some x ∧ w1.cell? ⟨w.heap.size + 1, 1, none⟩ = some y ∧ w1.cell? ⟨w.heap.size + 1, 2, none⟩ = some z ∧
    w1.frozen? ⟨w.heap.size + 1, 0, none⟩ = false ∧ w1.frozen? ⟨w.heap.size + 1, 1, none⟩ = false ∧ w1.frozen? ⟨w.heap.size + 1, 2, none⟩ = false) ∧ w.heap.size + 1 < w1.heap.size ∧ Moved R w w1 := by
  have hs : (w.alloc (.cells #[a, b, c] t)).heap.size = w.heap.size + 1 := by simp
  obtain ⟨c0, c1, c2, d0, d1, d2, hz, mv1⟩ := boxM mv (by rw [hs]; omega)
  rw [hs] at c0 c1 c2 d0 d1 d2 hz
  obtain ⟨e0, e1, e2, g0, g1, g2, -, mv2⟩ := boxM mv1 hR
  exact ⟨⟨e0, e1, e2, g0, g1, g2⟩, ⟨c0, c1, c2, d0, d1, d2⟩, hz, mv2⟩

set_option maxHeartbeats 1000000 in
theorem spoilt_any (R c : Nat) (k n p : Int) (w : World) (h : Rd R c w) (hc : c ≤ 900) :
    Calls Tryd.prog 109 #[.pointer (some ⟨R, 0, none⟩), .agg #[.int .i64 k, .int .i64 n, .int .i64 p]] w fun e w' => ∃ k n p : Int, e = .returned (.agg #[.int .i64 k, .int .i64 n, .int .i64 p]) ∧ Rd R (c + 2) w' ∧ Moved R w w' := by
  have hR := h.size
  go_enter Tryd.func109, Tryd.ntmps109
  go_wp2_with fail
  refine (pick_any R c 6 _ ((h.alloc _).alloc _) (by omega) (by omega)).mono ?_
  rintro e w1 ⟨x, rfl, x0, x1, -, rd1, mv⟩
  have hx : x = 0 ∨ x = 1 ∨ x = 2 ∨ x = 3 ∨ x = 4 ∨ x = 5 := by have := x1 (by omega); omega
  clear x0 x1 h
  rcases hx with rfl | rfl | rfl | rfl | rfl | rfl
  · go_wp2_with fail
    refine (pick_any R (c + 1) 16 _ rd1 (by omega) (by omega)).mono ?_
    rintro e w2 ⟨y, rfl, y0, y1, -, rd2, mv2⟩
    have hy : y < 16 := y1 (by omega)
    obtain ⟨⟨e0, e1, e2, g0, g1, g2⟩, ⟨q0, q1, q2, f0, f1, f2⟩, hz, mv3⟩ := boxM2 (mv.trans mv2) hR
    have MV : Hid (Moved R w w2) := mv3
    have RD : Hid (Rd R (c + 1 + 1) w2) := rd2
    clear mv mv2 mv3 rd1 rd2 y1
    go_wp2
    exact bodyPost_ret (v := .agg #[.int .i64 (y - 1), .int .i64 n, .int .i64 p]) (by simp [results, Tryd.results109, go_sem, q0, q1, q2]) rfl ⟨_, _, _, rfl, set3 (RD.out.setCell (by show R < w.heap.size; omega) _) (MV.out.setCell (Nat.le_refl _) _) hR (by omega) _ (by omega) _ _ _⟩
  · go_wp2_with fail
    refine (num_lit R (c + 1) _ _ _ rfl rd1 (by omega) (by simp) (by simp) (by simp) 16 rfl).mono ?_
    rintro e w2 ⟨y, rfl, rd2, mv2⟩
    obtain ⟨⟨e0, e1, e2, g0, g1, g2⟩, ⟨q0, q1, q2, f0, f1, f2⟩, hz, mv3⟩ := boxM2 (mv.trans mv2) hR
    have MV : Hid (Moved R w w2) := mv3
    have RD : Hid (Rd R (c + 1 + 1) w2) := rd2
    clear mv mv2 mv3 rd1 rd2
    go_wp2
    exact bodyPost_ret (v := .agg #[.int .i64 k, .int .i64 y, .int .i64 p]) (by simp [results, Tryd.results109, go_sem, q0, q1, q2]) rfl ⟨_, _, _, rfl, set3 (RD.out.setCell (by show R < w.heap.size; omega) _) (MV.out.setCell (Nat.le_refl _) _) hR (by omega) _ (by omega) _ _ _⟩
  · go_wp2_with fail
    refine (num_lit R (c + 1) _ _ _ rfl rd1 (by omega) (by simp) (by simp) (by simp) 5 rfl).mono ?_
    rintro e w2 ⟨y, rfl, rd2, mv2⟩
    obtain ⟨⟨e0, e1, e2, g0, g1, g2⟩, ⟨q0, q1, q2, f0, f1, f2⟩, hz, mv3⟩ := boxM2 (mv.trans mv2) hR
    have MV : Hid (Moved R w w2) := mv3
    have RD : Hid (Rd R (c + 1 + 1) w2) := rd2
    clear mv mv2 mv3 rd1 rd2
    go_wp2
    exact bodyPost_ret (v := .agg #[.int .i64 k, .int .i64 n, .int .i64 y]) (by simp [results, Tryd.results109, go_sem, q0, q1, q2]) rfl ⟨_, _, _, rfl, set3 (RD.out.setCell (by show R < w.heap.size; omega) _) (MV.out.setCell (Nat.le_refl _) _) hR (by omega) _ (by omega) _ _ _⟩
  all_goals
    obtain ⟨⟨e0, e1, e2, g0, g1, g2⟩, ⟨q0, q1, q2, f0, f1, f2⟩, hz, mv3⟩ := boxM2 mv hR
    have MV : Hid (Moved R w w1) := mv3
    have RD : Hid (Rd R (c + 1) w1) := rd1
    have hzk := sizeZ_bd k
    clear mv mv3 rd1
  · go_wp2_with (go_at_call 52; refine (spec_size k _).mono ?_; rintro e w' ⟨rfl, rfl⟩)
    exact bodyPost_ret (v := .agg #[.int .i64 k, .int .i64 (sizeZ k), .int .i64 p]) (by simp [results, Tryd.results109, go_sem, q0, q1, q2]) rfl ⟨_, _, _, rfl, set3 (RD.out.setCell (by show R < w.heap.size; omega) _) (MV.out.setCell (Nat.le_refl _) _) hR (by omega) _ (by omega) _ _ _⟩
  · go_wp2_with (go_at_call 52; refine (spec_size k _).mono ?_; rintro e w' ⟨rfl, rfl⟩)
    exact bodyPost_ret (v := .agg #[.int .i64 k, .int .i64 (sizeZ k - 1), .int .i64 p]) (by simp [results, Tryd.results109, go_sem, q0, q1, q2]) rfl ⟨_, _, _, rfl, set3 (RD.out.setCell (by show R < w.heap.size; omega) _) (MV.out.setCell (Nat.le_refl _) _) hR (by omega) _ (by omega) _ _ _⟩
  · go_wp2
    exact bodyPost_ret (v := .agg #[.int .i64 k, .int .i64 (wrap64 (-n)), .int .i64 p]) (by simp [results, Tryd.results109, go_sem, q0, q1, q2]) rfl ⟨_, _, _, rfl, set3 (RD.out.setCell (by show R < w.heap.size; omega) _) (MV.out.setCell (Nat.le_refl _) _) hR (by omega) _ (by omega) _ _ _⟩

end Go.Proofs.YtdhoimjkgicneaaDoor
