/- The draws of an operand and of a text, from a code. -/
import Derived.Test.YtaimgafbjmgplaaDoorDrawC
namespace Go.Proofs.YtaimgafbjmgplaaDoor
open Go Go.RowKit

/-- A value that is a slice of bytes, as it lies before the call. -/
def CodeAt (v : Value) (w : World) : Prop :=
  (∃ b off len cap : Nat, v = .slice (some ⟨b, off, none⟩) len cap ∧ b < w.heap.size ∧ 1 ≤ len ∧ len ≤ cap ∧ cap ≤ 9223372036854775807 ∧ ∀ i, i < len → ∃ x : Nat, x ≤ 255 ∧ w.cell? ⟨b, off + i, none⟩ = some (.int .u8 x)) ∨ (∃ (a : Option Addr) (cap : Nat), v = .slice a 0 cap)

theorem CodeAt.below {v : Value} {w w' : World} (h : CodeAt v w) (hb : Below w.heap.size w w') : CodeAt v w' := by
  rcases h with ⟨b, off, len, cap, rfl, hz, h1, h2, h3, he⟩ | ⟨a, cap, rfl⟩
  · refine Or.inl ⟨b, off, len, cap, rfl, Nat.lt_of_lt_of_le hz hb.size, h1, h2, h3, fun i hi => ?_⟩
    obtain ⟨x, hx, ex⟩ := he i hi
    exact ⟨x, hx, (hb.cell (p := ⟨b, off + i, none⟩) hz).trans ex⟩
  · exact Or.inr ⟨a, cap, rfl⟩

theorem rd_new {w : World} {b off len cap : Nat} (hz : b < w.heap.size) (h1 : 1 ≤ len) (h2 : len ≤ 2000) (he : ∀ i, i < len → ∃ x : Nat, x ≤ 255 ∧ w.cell? ⟨b, off + i, none⟩ = some (.int .u8 x)) (t : TypeId) :
    Rd w.heap.size 0 (w.alloc (.cells #[.slice (some ⟨b, off, none⟩) len cap, .int .i64 0] t)) := by
  refine Or.inl ⟨b, off, len, cap, 0, Nat.le_refl _, by simp, hz, by simp, by simp, by simp, ?_, h1, h2⟩
  intro i hi
  obtain ⟨x, hx, ex⟩ := he i hi
  refine ⟨x, hx, ?_⟩
  rw [← ex]; exact World.cell?_of_block (w := w) (Below.heap_alloc _ _ _ hz)

theorem rd_no {w : World} {a : Option Addr} {cap : Nat} (t : TypeId) : Rd w.heap.size 0 (w.alloc (.cells #[.slice a 0 cap, .int .i64 0] t)) :=
  Or.inr ⟨0, Nat.le_refl _, by simp, ⟨a, cap, by simp⟩, by simp, by simp⟩

set_option maxHeartbeats 400000 in
theorem open_any (v : Value) (w : World) (h : CodeAt v w) :
    Calls Tryd.prog 12 #[v] w fun e w' => e = .returned (.pointer (some ⟨w.heap.size, 0, none⟩)) ∧ Rd w.heap.size 0 w' ∧ Below w.heap.size w w' := by
  rcases h with ⟨b, off, len, cap, rfl, hz, h1, h2, h3, he⟩ | ⟨a, cap, rfl⟩
  · by_cases hl : len ≤ 2000
    · go_enter Tryd.func12, Tryd.ntmps12
      go_wp2
      go_ret
      exact ⟨rfl, rd_new hz h1 hl he _, (Below.refl _ _).alloc (Nat.le_refl _) _⟩
    · go_enter Tryd.func12, Tryd.ntmps12
      go_wp2
      go_ret
      exact ⟨rfl, rd_new hz (by omega) (by omega) (fun i hi => he i (by omega)) _, (Below.refl _ _).alloc (Nat.le_refl _) _⟩
  · go_enter Tryd.func12, Tryd.ntmps12
    go_wp2
    go_ret
    exact ⟨rfl, rd_no _, (Below.refl _ _).alloc (Nat.le_refl _) _⟩

set_option maxHeartbeats 800000 in
theorem any_any (R c : Nat) (w : World) (h : Rd R c w) (hc : c ≤ 800) :
    Calls Tryd.prog 11 #[.pointer (some ⟨R, 0, none⟩)] w fun e w' => ∃ k n p : Int, e = .returned (.agg #[.int .i64 k, .int .i64 n, .int .i64 p]) ∧ Rd R (c + 10) w' ∧ Moved R w w' := by
  have hR := h.size
  go_enter Tryd.func11, Tryd.ntmps11
  go_wp2_with fail
  refine (pick_any R c 13 _ (h.alloc _) (by omega) (by omega)).mono ?_
  rintro e w1 ⟨x, rfl, x0, x1, -, rd1, mv1⟩
  have hx : x < 13 := x1 (by omega)
  clear x1 h
  go_wp2_with fail
  refine (arg_any R (c + 1) (1 + x) w1 rd1 (by omega)).mono ?_
  rintro e w2 ⟨k, n, p, rfl, rd2, mv2⟩
  have hR2 : R < w2.heap.size := rd2.size
  have M2 := mv1.trans mv2
  clear mv1 mv2 rd1
  go_wp2_with fail
  refine (pick_any R (c + 1 + 4) 20 _ (rd2.alloc _) (by omega) (by omega)).mono ?_
  rintro e w3 ⟨y, rfl, y0, -, -, rd3, mv3⟩
  clear rd2
  cases hy : y == 0 with
  | true =>
    obtain ⟨e0, e1, e2, g0, g1, g2, hz3, mv3'⟩ := boxM mv3 hR2
    go_wp2_with fail
    refine (spoilt_any R (c + 1 + 4 + 1) k n p _ rd3 (by omega)).mono ?_
    rintro e w4 ⟨k', n', p', rfl, rd4, mv4⟩
    obtain ⟨q0, q1, q2, f0, f1, f2, hz, mv5⟩ := boxM (M2.trans (mv3'.trans mv4)) hR
    have MV : Hid (Moved R w w4) := mv5
    have RD : Hid (Rd R (c + 1 + 4 + 1 + 2) w4) := rd4
    clear mv3 mv3' mv4 mv5 rd3 rd4 M2 e0 e1 e2 g0 g1 g2
    go_wp2
    exact bodyPost_ret (v := .agg #[.int .i64 k', .int .i64 n', .int .i64 p']) (by simp [results, Tryd.results11, go_sem, q0, q1, q2]) rfl ⟨k', n', p', rfl, set3 RD.out MV.out hR (by omega) _ (Nat.le_refl _) _ _ _⟩
  | false =>
    obtain ⟨e0, e1, e2, g0, g1, g2, hz3, mv3'⟩ := boxM mv3 hR2
    obtain ⟨q0, q1, q2, f0, f1, f2, hz, mv5⟩ := boxM (M2.trans mv3') hR
    have MV : Hid (Moved R w w3) := mv5
    have RD : Hid (Rd R (c + 1 + 4 + 1) w3) := rd3
    clear mv3 mv3' mv5 rd3 M2
    go_wp2
    exact bodyPost_ret (v := .agg #[.int .i64 k, .int .i64 n, .int .i64 p]) (by simp [results, Tryd.results11, go_sem, q0, q1, q2]) rfl ⟨k, n, p, rfl, set3 RD.out MV.out hR (by omega) _ (Nat.le_refl _) _ _ _⟩

set_option maxHeartbeats 400000 in
theorem draw_arg (v : Value) (w : World) (h : CodeAt v w) :
    Calls Tryd.prog 4 #[v] w fun e w' => ∃ k n p : Int, e = .returned (.agg #[.int .i64 k, .int .i64 n, .int .i64 p]) ∧ Below w.heap.size w w' := by
  have h' := h.below ((Below.refl w.heap.size w).alloc (Nat.le_refl _) (.cells #[.int .i64 0, .int .i64 0, .int .i64 0] 24))
  go_enter Tryd.func4, Tryd.ntmps4
  go_wp2_with fail
  refine (open_any v _ h').mono ?_
  rintro e w1 ⟨rfl, rd1, hb1⟩
  rw [show (w.alloc (.cells #[.int .i64 0, .int .i64 0, .int .i64 0] 24)).heap.size = w.heap.size + 1 from by simp] at rd1 hb1 ⊢
  go_wp2_with fail
  refine (any_any (w.heap.size + 1) 0 w1 rd1 (by omega)).mono ?_
  rintro e w2 ⟨k, n, p, rfl, rd2, mv2⟩
  have hs1 := hb1.size
  simp at hs1
  have hb2 : Below (w.heap.size + 1) (w.alloc (.cells #[.int .i64 0, .int .i64 0, .int .i64 0] 24)) w2 := hb1.trans (mv2.below (by omega) (Nat.le_refl _))
  have hb3 : Below (w.alloc (.cells #[.int .i64 0, .int .i64 0, .int .i64 0] 24)).heap.size (w.alloc (.cells #[.int .i64 0, .int .i64 0, .int .i64 0] 24)) w2 := by simpa using hb2
  obtain ⟨q0, q1, q2, hz, hb4⟩ := box3 hb3
  have f0 : w2.frozen? ⟨w.heap.size, 0, none⟩ = false := by rw [hb3.frozen (p := ⟨w.heap.size, 0, none⟩) (by simp)]; simp
  have f1 : w2.frozen? ⟨w.heap.size, 1, none⟩ = false := by rw [hb3.frozen (p := ⟨w.heap.size, 1, none⟩) (by simp)]; simp
  have f2 : w2.frozen? ⟨w.heap.size, 2, none⟩ = false := by rw [hb3.frozen (p := ⟨w.heap.size, 2, none⟩) (by simp)]; simp
  have HB : Hid (Below w.heap.size w w2) := hb4
  clear hb1 hb2 hb3 hb4 rd1 rd2 mv2 h h' hs1
  go_wp2
  exact bodyPost_ret (v := .agg #[.int .i64 k, .int .i64 n, .int .i64 p]) (by simp [results, Tryd.results4, go_sem, q0, q1, q2]) rfl ⟨k, n, p, rfl, ((HB.out.setCell (Nat.le_refl _) _).setCell (Nat.le_refl _) _).setCell (Nat.le_refl _) _⟩

end Go.Proofs.YtaimgafbjmgplaaDoor
