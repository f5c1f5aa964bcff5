/- The real number of any operand, as the program and as the specification have it; the draw of an operand. -/
import Derived.Test.YtdhoimjkgicneaaDoorArgE
namespace Go.Proofs.YtdhoimjkgicneaaDoor
open Go Go.RowKit

/-- Two decimal numbers, and what the program makes of them. -/
theorem arg_order {n p m q : Int} (h : okB 12 n p = true) (g : okB 12 m q = true) : FloatKind.f64.format.order (argX 12 n p) (argX 12 m q) = some (compare (decW n p) (decW m q)) := by
  obtain ⟨h1, h2, h3, h4, h5⟩ := ok_dec h
  obtain ⟨g1, g2, g3, g4, g5⟩ := ok_dec g
  obtain ⟨r, t, a, b, c⟩ := dec_order h1 h2 h3 h4 g1 g2 g3 g4 h5 g5
  have e1 := (argX_dec h).1
  have e2 := (argX_dec g).1
  have f1 : floatBits .quo .f64 (floatOfInt .f64 n) (floatOfInt .f64 (tenZ p)) = some r := a
  have f2 : floatBits .quo .f64 (floatOfInt .f64 m) (floatOfInt .f64 (tenZ q)) = some t := b
  rw [f1] at e1
  rw [f2] at e2
  rw [← Option.some.inj e1, ← Option.some.inj e2]
  exact c

theorem frz3 {w w1 : World} {a b c : Value} {t : TypeId} (hb : Below (w.alloc (.cells #[a, b, c] t)).heap.size (w.alloc (.cells #[a, b, c] t)) w1) :
    w1.frozen? ⟨w.heap.size, 0, none⟩ = false ∧ w1.frozen? ⟨w.heap.size, 1, none⟩ = false ∧ w1.frozen? ⟨w.heap.size, 2, none⟩ = false := by
  refine ⟨?_, ?_, ?_⟩
  · rw [hb.frozen (p := ⟨w.heap.size, 0, none⟩) (by simp)]; simp
  · rw [hb.frozen (p := ⟨w.heap.size, 1, none⟩) (by simp)]; simp
  · rw [hb.frozen (p := ⟨w.heap.size, 2, none⟩) (by simp)]; simp

set_option maxHeartbeats 800000 in
theorem draw_rarg (v : Value) (w : World) (h : CodeAt v w) :
    Calls Tryd.prog 33 #[v] w fun e w' => ∃ k n p : Int, e = .returned (.agg #[.int .i64 k, .int .i64 n, .int .i64 p]) ∧ Below w.heap.size w w' := by
  have h' := h.below ((Below.refl w.heap.size w).alloc (Nat.le_refl _) (.cells #[.int .i64 0, .int .i64 0, .int .i64 0] 24))
  go_enter Tryd.func33, Tryd.ntmps33
  go_wp2_with fail
  refine (open_any v _ h').mono ?_
  rintro e w1 ⟨rfl, rd1, hb1⟩
  rw [show (w.alloc (.cells #[.int .i64 0, .int .i64 0, .int .i64 0] 24)).heap.size = w.heap.size + 1 from by simp] at rd1 hb1 ⊢
  have hs1 := hb1.size
  simp at hs1
  clear h h'
  go_wp2_with fail
  refine (pick_any (w.heap.size + 1) 0 4 w1 rd1 (by omega) (by omega)).mono ?_
  rintro e w2 ⟨x, rfl, x0, -, -, rd2, mv2⟩
  clear rd1
  cases hx : x == 0 with
  | true =>
    go_wp2_with fail
    refine (any_any (w.heap.size + 1) (0 + 1) w2 rd2 (by omega)).mono ?_
    rintro e w3 ⟨k, n, p, rfl, rd3, mv3⟩
    have hb2 : Below (w.heap.size + 1) (w.alloc (.cells #[.int .i64 0, .int .i64 0, .int .i64 0] 24)) w3 := hb1.trans ((mv2.trans mv3).below (by omega) (Nat.le_refl _))
    have hb3 : Below (w.alloc (.cells #[.int .i64 0, .int .i64 0, .int .i64 0] 24)).heap.size (w.alloc (.cells #[.int .i64 0, .int .i64 0, .int .i64 0] 24)) w3 := by simpa using hb2
    obtain ⟨q0, q1, q2, hz, hb4⟩ := box3 hb3
    obtain ⟨f0, f1, f2⟩ := frz3 hb3
    have HB : Hid (Below w.heap.size w w3) := hb4
    clear hb1 hb2 hb3 hb4 rd2 rd3 mv2 mv3 hs1
    go_wp2
    exact bodyPost_ret (v := .agg #[.int .i64 k, .int .i64 n, .int .i64 p]) (by simp [results, Tryd.results33, go_sem, q0, q1, q2]) rfl ⟨k, n, p, rfl, ((HB.out.setCell (Nat.le_refl _) _).setCell (Nat.le_refl _) _).setCell (Nat.le_refl _) _⟩
  | false =>
    go_wp2_with fail
    refine (pick_any (w.heap.size + 1) (0 + 1) 2 w2 rd2 (by omega) (by omega)).mono ?_
    rintro e w3 ⟨y, rfl, y0, y1, -, rd3, mv3⟩
    have hy : y < 2 := y1 (by omega)
    clear rd2 y1
    go_wp2_with fail
    refine (arg_any (w.heap.size + 1) (0 + 1 + 1) (12 + y) w3 rd3 (by omega)).mono ?_
    rintro e w4 ⟨k, n, p, rfl, rd4, mv4⟩
    have hb2 : Below (w.heap.size + 1) (w.alloc (.cells #[.int .i64 0, .int .i64 0, .int .i64 0] 24)) w4 := hb1.trans (((mv2.trans mv3).trans mv4).below (by omega) (Nat.le_refl _))
    have hb3 : Below (w.alloc (.cells #[.int .i64 0, .int .i64 0, .int .i64 0] 24)).heap.size (w.alloc (.cells #[.int .i64 0, .int .i64 0, .int .i64 0] 24)) w4 := by simpa using hb2
    obtain ⟨q0, q1, q2, hz, hb4⟩ := box3 hb3
    obtain ⟨f0, f1, f2⟩ := frz3 hb3
    have HB : Hid (Below w.heap.size w w4) := hb4
    clear hb1 hb2 hb3 hb4 rd3 rd4 mv2 mv3 mv4 hs1
    go_wp2
    exact bodyPost_ret (v := .agg #[.int .i64 k, .int .i64 n, .int .i64 p]) (by simp [results, Tryd.results33, go_sem, q0, q1, q2]) rfl ⟨k, n, p, rfl, ((HB.out.setCell (Nat.le_refl _) _).setCell (Nat.le_refl _) _).setCell (Nat.le_refl _) _⟩

end Go.Proofs.YtdhoimjkgicneaaDoor
