/- Drawn numbers and operands: that each draw ends, answers, and turns nothing but the reader. -/
import Derived.Test.YtaimgafbjmgplaaDoorDrawA
import Derived.Test.YtaimgafbjmgplaaDoorDevB
namespace Go.Proofs.YtaimgafbjmgplaaDoor
open Go Go.RowKit

theorem ints_of {w : World} {cs : Array Value} {t : TypeId} (h : ∀ v ∈ cs.toList, ∃ z : Int, v = .int .i64 z) : ∀ i, i < cs.size → ∃ z : Int, (w.alloc (.cells cs t)).cell? ⟨w.heap.size, i, none⟩ = some (.int .i64 z) := by
  intro i hi
  obtain ⟨z, hz⟩ := h cs[i] (by simp)
  refine ⟨z, ?_⟩
  rw [← hz]
  simp [hi]

set_option maxHeartbeats 400000 in
theorem num_any (R c L len cap : Nat) (w : World) (h : Rd R c w) (hc : c ≤ 1000) (hL : L < w.heap.size) (hn : L ≠ R) (l1 : 1 ≤ len) (l2 : len ≤ 1000)
    (hl : ∀ i, i < len → ∃ z : Int, w.cell? ⟨L, i, none⟩ = some (.int .i64 z)) :
    Calls Tryd.prog 35 #[.pointer (some ⟨R, 0, none⟩), .slice (some ⟨L, 0, none⟩) len cap] w fun e w' => ∃ z : Int, e = .returned (.int .i64 z) ∧ Rd R (c + 1) w' ∧ Moved R w w' := by
  go_enter Tryd.func35, Tryd.ntmps35
  go_wp2_with fail
  refine (pick_any R c len w h (by omega) (by omega)).mono ?_
  rintro e w1 ⟨x, rfl, x0, x1, -, rd, mv⟩
  obtain ⟨i, rfl⟩ : ∃ i : Nat, x = i := ⟨x.toNat, by omega⟩
  have hi : i < len := by have := x1 (by omega); omega
  obtain ⟨z, hz⟩ := hl i hi
  have ez : w1.cell? ⟨L, i, none⟩ = some (.int .i64 z) := (mv.cell (p := ⟨L, i, none⟩) hL hn).trans hz
  clear x0 x1 hl hz h
  go_wp2
  go_ret
  exact ⟨z, rfl, rd, mv⟩

theorem num_lit (R c : Nat) (cs : Array Value) (w : World) (q : Nat) (hq : q = w.heap.size) (h : Rd R c w) (hc : c ≤ 1000) (hcs : ∀ v ∈ cs.toList, ∃ z : Int, v = .int .i64 z) (l1 : 1 ≤ cs.size) (l2 : cs.size ≤ 1000) (n : Nat) (hn : n = cs.size) :
    Calls Tryd.prog 35 #[.pointer (some ⟨R, 0, none⟩), .slice (some ⟨q, 0, none⟩) n n] (w.alloc (.cells cs 3)) fun e w' => ∃ z : Int, e = .returned (.int .i64 z) ∧ Rd R (c + 1) w' ∧ Moved R w w' := by
  subst hq hn
  have hs := h.size
  refine (num_any R c w.heap.size cs.size cs.size _ (h.alloc _) hc (by simp) (by omega) l1 l2 (ints_of hcs)).mono ?_
  rintro e w' ⟨z, rfl, rd, mv⟩
  exact ⟨z, rfl, rd, (Moved.alloc R w _).trans mv⟩

theorem boxM {R : Nat} {w w1 : World} {a b c : Value} {t : TypeId} (mv : Moved R (w.alloc (.cells #[a, b, c] t)) w1) (hR : R < w.heap.size) :
    w1.cell? ⟨w.heap.size, 0, none⟩ = some a ∧ w1.cell? ⟨w.heap.size, 1, none⟩ = some b ∧ w1.cell? ⟨w.heap.size, 2, none⟩ = some c ∧
    w1.frozen? ⟨w.heap.size, 0, none⟩ = false ∧ w1.frozen? ⟨w.heap.size, 1, none⟩ = false ∧ w1.frozen? ⟨w.heap.size, 2, none⟩ = false ∧ w.heap.size < w1.heap.size ∧ Moved R w w1 := by
  refine ⟨?_, ?_, ?_, ?_, ?_, ?_, ?_, (Moved.alloc R w _).trans mv⟩
  · rw [mv.cell (p := ⟨w.heap.size, 0, none⟩) (by simp) (by simp; omega)]; simp
  · rw [mv.cell (p := ⟨w.heap.size, 1, none⟩) (by simp) (by simp; omega)]; simp
  · rw [mv.cell (p := ⟨w.heap.size, 2, none⟩) (by simp) (by simp; omega)]; simp
  · rw [mv.frozen (p := ⟨w.heap.size, 0, none⟩) (by simp) (by simp; omega)]; simp
  · rw [mv.frozen (p := ⟨w.heap.size, 1, none⟩) (by simp) (by simp; omega)]; simp
  · rw [mv.frozen (p := ⟨w.heap.size, 2, none⟩) (by simp) (by simp; omega)]; simp
  · have := mv.size; simp at this; omega

theorem set3 {R c c' : Nat} {w w1 : World} (rd : Rd R c w1) (mv : Moved R w w1) (hR : R < w.heap.size) (hc : c ≤ c') (q : Nat) (hq : w.heap.size ≤ q) (a b d : Value) :
    Rd R c' (((w1.setCell ⟨q, 0, none⟩ a).setCell ⟨q, 1, none⟩ b).setCell ⟨q, 2, none⟩ d) ∧ Moved R w (((w1.setCell ⟨q, 0, none⟩ a).setCell ⟨q, 1, none⟩ b).setCell ⟨q, 2, none⟩ d) :=
  ⟨(((rd.mono hc).setCell (by show R < q; omega) _).setCell (by show R < q; omega) _).setCell (by show R < q; omega) _,
    ((mv.setCell (by show _ ≤ q; omega) _).setCell (by show _ ≤ q; omega) _).setCell (by show _ ≤ q; omega) _⟩

set_option maxHeartbeats 400000 in
theorem arg_int (R c : Nat) (w : World) (h : Rd R c w) (hc : c ≤ 900) :
    Calls Tryd.prog 27 #[.pointer (some ⟨R, 0, none⟩), .int .i64 11] w fun e w' => ∃ k n p : Int, e = .returned (.agg #[.int .i64 k, .int .i64 n, .int .i64 p]) ∧ Rd R (c + 4) w' ∧ Moved R w w' := by
  have hR := h.size
  go_enter Tryd.func27, Tryd.ntmps27
  go_wp2_with fail
  refine (num_lit R c _ _ _ (by simp) (h.alloc _) (by omega) (by simp) (by simp) (by simp) 12 rfl).mono ?_
  rintro e w1 ⟨z, rfl, rd, mv⟩
  obtain ⟨q0, q1, q2, f0, f1, f2, hz, mv1⟩ := boxM mv hR
  have MV : Hid (Moved R w w1) := mv1
  have RD : Hid (Rd R (c + 1) w1) := rd
  clear mv mv1 rd h
  go_wp2
  exact bodyPost_ret (v := .agg #[.int .i64 11, .int .i64 z, .int .i64 0]) (by simp [results, Tryd.results27, go_sem, q0, q1, q2]) rfl ⟨11, z, 0, rfl, set3 RD.out MV.out hR (by omega) _ (Nat.le_refl _) _ _ _⟩

set_option maxHeartbeats 400000 in
theorem arg_dec (R c : Nat) (w : World) (h : Rd R c w) (hc : c ≤ 900) :
    Calls Tryd.prog 27 #[.pointer (some ⟨R, 0, none⟩), .int .i64 12] w fun e w' => ∃ k n p : Int, e = .returned (.agg #[.int .i64 k, .int .i64 n, .int .i64 p]) ∧ Rd R (c + 4) w' ∧ Moved R w w' := by
  have hR := h.size
  go_enter Tryd.func27, Tryd.ntmps27
  go_wp2_with fail
  refine (num_lit R c _ _ _ (by simp) (h.alloc _) (by omega) (by simp) (by simp) (by simp) 11 rfl).mono ?_
  rintro e w1 ⟨z, rfl, rd, mv⟩
  clear h
  go_wp2_with fail
  refine (pick_any R (c + 1) 6 w1 rd (by omega) (by omega)).mono ?_
  rintro e w2 ⟨x, rfl, x0, x1, -, rd2, mv2⟩
  have hx : x < 6 := x1 (by omega)
  obtain ⟨q0, q1, q2, f0, f1, f2, hz, mv1⟩ := boxM (mv.trans mv2) hR
  have MV : Hid (Moved R w w2) := mv1
  have RD : Hid (Rd R (c + 1 + 1) w2) := rd2
  clear mv mv1 rd mv2 rd2 x1
  go_wp2
  · exact bodyPost_ret (v := .agg #[.int .i64 12, .int .i64 z, .int .i64 1]) (by simp [results, Tryd.results27, go_sem, q0, q1, q2]) rfl ⟨12, z, 1, rfl, set3 RD.out MV.out hR (by omega) _ (Nat.le_refl _) _ _ _⟩
  · exact bodyPost_ret (v := .agg #[.int .i64 12, .int .i64 z, .int .i64 (1 + x)]) (by simp [results, Tryd.results27, go_sem, q0, q1, q2]) rfl ⟨12, z, _, rfl, set3 RD.out MV.out hR (by omega) _ (Nat.le_refl _) _ _ _⟩

set_option maxHeartbeats 400000 in
theorem arg_word (R c : Nat) (w : World) (h : Rd R c w) (hc : c ≤ 900) :
    Calls Tryd.prog 27 #[.pointer (some ⟨R, 0, none⟩), .int .i64 13] w fun e w' => ∃ k n p : Int, e = .returned (.agg #[.int .i64 k, .int .i64 n, .int .i64 p]) ∧ Rd R (c + 4) w' ∧ Moved R w w' := by
  have hR := h.size
  go_enter Tryd.func27, Tryd.ntmps27
  go_wp2_with fail
  refine (pick_any R c 4 _ (h.alloc _) (by omega) (by omega)).mono ?_
  rintro e w2 ⟨x, rfl, x0, x1, -, rd2, mv⟩
  obtain ⟨q0, q1, q2, f0, f1, f2, hz, mv1⟩ := boxM mv hR
  have MV : Hid (Moved R w w2) := mv1
  have RD : Hid (Rd R (c + 1) w2) := rd2
  clear mv mv1 rd2 x1 h
  go_wp2
  exact bodyPost_ret (v := .agg #[.int .i64 13, .int .i64 x, .int .i64 0]) (by simp [results, Tryd.results27, go_sem, q0, q1, q2]) rfl ⟨13, x, 0, rfl, set3 RD.out MV.out hR (by omega) _ (Nat.le_refl _) _ _ _⟩

set_option maxHeartbeats 800000 in
theorem arg_dev (R c : Nat) (k : Int) (w : World) (h : Rd R c w) (hc : c ≤ 900) (hk : k < 11 ∨ 13 < k) :
    Calls Tryd.prog 27 #[.pointer (some ⟨R, 0, none⟩), .int .i64 k] w fun e w' => ∃ k n p : Int, e = .returned (.agg #[.int .i64 k, .int .i64 n, .int .i64 p]) ∧ Rd R (c + 4) w' ∧ Moved R w w' := by
  have hR := h.size
  have hz := sizeZ_bd k
  have hz1 : sizeZ k ≤ 64 := hz.2
  have b1 : (k == 11) = false := by simp; omega
  have b2 : (k == 12) = false := by simp; omega
  have b3 : (k == 13) = false := by simp; omega
  clear hk hz
  go_enter Tryd.func27, Tryd.ntmps27
  go_wp2_with fail
  refine (pick_any R c 4 _ (h.alloc _) (by omega) (by omega)).mono ?_
  rintro e w1 ⟨x, rfl, x0, -, -, rd1, mv⟩
  clear h
  go_wp2_with fail
  refine (pick_any R (c + 1) 6 w1 rd1 (by omega) (by omega)).mono ?_
  rintro e w2 ⟨y, rfl, y0, -, -, rd2, mv2⟩
  clear rd1
  have mv2' := mv.trans mv2
  clear mv mv2
  cases hy : y == 0 with
  | false =>
    obtain ⟨q0, q1, q2, f0, f1, f2, hz, mv1⟩ := boxM mv2' hR
    have MV : Hid (Moved R w w2) := mv1
    have RD : Hid (Rd R (c + 1 + 1) w2) := rd2
    clear mv1 rd2 mv2'
    go_wp2_with (go_at_call 32; refine (spec_size k _).mono ?_; rintro e w' ⟨rfl, rfl⟩)
    · exact bodyPost_ret (v := .agg #[.int .i64 k, .int .i64 0, .int .i64 0]) (by simp [results, Tryd.results27, go_sem, q0, q1, q2]) rfl ⟨k, 0, 0, rfl, set3 RD.out MV.out hR (by omega) _ (Nat.le_refl _) _ _ _⟩
    · exact bodyPost_ret (v := .agg #[.int .i64 k, .int .i64 x, .int .i64 0]) (by simp [results, Tryd.results27, go_sem, q0, q1, q2]) rfl ⟨k, x, 0, rfl, set3 RD.out MV.out hR (by omega) _ (Nat.le_refl _) _ _ _⟩
  | true =>
    go_wp2_with (go_at_call 32; refine (spec_size k _).mono ?_; rintro e w' ⟨rfl, rfl⟩)
    refine (pick_any R (c + 1 + 1) (sizeZ k) _ rd2 (by omega) (by omega)).mono ?_
    rintro e w3 ⟨u, rfl, u0, -, -, rd3, mv3⟩
    obtain ⟨q0, q1, q2, f0, f1, f2, hz, mv1⟩ := boxM (mv2'.trans mv3) hR
    have MV : Hid (Moved R w w3) := mv1
    have RD : Hid (Rd R (c + 1 + 1 + 1) w3) := rd3
    clear mv1 rd2 mv2' rd3 mv3
    go_wp2_with (go_at_call 32; refine (spec_size k _).mono ?_; rintro e w' ⟨rfl, rfl⟩)
    · exact bodyPost_ret (v := .agg #[.int .i64 k, .int .i64 0, .int .i64 0]) (by simp [results, Tryd.results27, go_sem, q0, q1, q2]) rfl ⟨k, 0, 0, rfl, set3 RD.out MV.out hR (by omega) _ (Nat.le_refl _) _ _ _⟩
    · exact bodyPost_ret (v := .agg #[.int .i64 k, .int .i64 u, .int .i64 0]) (by simp [results, Tryd.results27, go_sem, q0, q1, q2]) rfl ⟨k, u, 0, rfl, set3 RD.out MV.out hR (by omega) _ (Nat.le_refl _) _ _ _⟩

theorem arg_any (R c : Nat) (k : Int) (w : World) (h : Rd R c w) (hc : c ≤ 900) :
    Calls Tryd.prog 27 #[.pointer (some ⟨R, 0, none⟩), .int .i64 k] w fun e w' => ∃ k n p : Int, e = .returned (.agg #[.int .i64 k, .int .i64 n, .int .i64 p]) ∧ Rd R (c + 4) w' ∧ Moved R w w' := by
  by_cases h1 : k = 11
  · subst h1; exact arg_int R c w h hc
  by_cases h2 : k = 12
  · subst h2; exact arg_dec R c w h hc
  by_cases h3 : k = 13
  · subst h3; exact arg_word R c w h hc
  exact arg_dev R c k w h hc (by omega)

end Go.Proofs.YtaimgafbjmgplaaDoor
