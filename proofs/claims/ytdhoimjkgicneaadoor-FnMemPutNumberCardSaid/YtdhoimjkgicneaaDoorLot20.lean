/- Texts of this proof laid together: DrB, DrawB. -/
import Derived.Test.YtdhoimjkgicneaaDoorLot14
import Derived.Test.YtdhoimjkgicneaaDoorLot19
import Derived.Test.YtdhoimjkgicneaaDoorLot4
import Derived.Test.YtdhoimjkgicneaaDoorLot16
/- A drawn memory, with the rest of its chapter. -/
namespace Go.Proofs.YtdhoimjkgicneaaDoor
open Go Go.RowKit

end Go.Proofs.YtdhoimjkgicneaaDoor

/- Drawn numbers and operands: that each draw ends, answers, and turns nothing but the reader. -/
namespace Go.Proofs.YtdhoimjkgicneaaDoor
open Go Go.RowKit

set_option maxHeartbeats 400000 in
theorem arg_int (R c : Nat) (w : World) (h : Rd R c w) (hc : c ≤ 900) :
    Calls Tryd.prog 83 #[.pointer (some ⟨R, 0, none⟩), .int .i64 11] w fun e w' => ∃ k n p : Int, e = .returned (.agg #[.int .i64 k, .int .i64 n, .int .i64 p]) ∧ Rd R (c + 4) w' ∧ Moved R w w' := by
  have hR := h.size
  go_enter Tryd.func83, Tryd.ntmps83
  go_wp2_with fail
  refine (num_lit R c _ _ _ (by simp) (h.alloc _) (by omega) (by simp) (by simp) (by simp) 12 rfl).mono ?_
  rintro e w1 ⟨z, rfl, rd, mv⟩
  obtain ⟨q0, q1, q2, f0, f1, f2, hz, mv1⟩ := boxM mv hR
  have MV : Hid (Moved R w w1) := mv1
  have RD : Hid (Rd R (c + 1) w1) := rd
  clear mv mv1 rd h
  go_wp2
  exact bodyPost_ret (v := .agg #[.int .i64 11, .int .i64 z, .int .i64 0]) (by simp [results, Tryd.results83, go_sem, q0, q1, q2]) rfl ⟨11, z, 0, rfl, set3 RD.out MV.out hR (by omega) _ (Nat.le_refl _) _ _ _⟩

set_option maxHeartbeats 400000 in
theorem arg_dec (R c : Nat) (w : World) (h : Rd R c w) (hc : c ≤ 900) :
    Calls Tryd.prog 83 #[.pointer (some ⟨R, 0, none⟩), .int .i64 12] w fun e w' => ∃ k n p : Int, e = .returned (.agg #[.int .i64 k, .int .i64 n, .int .i64 p]) ∧ Rd R (c + 4) w' ∧ Moved R w w' := by
  have hR := h.size
  go_enter Tryd.func83, Tryd.ntmps83
  go_wp2_with fail
  refine (num_lit R c _ _ _ (by simp) (h.alloc _) (by omega) (by simp) (by simp) (by simp) 11 rfl).mono ?_
  rintro e w1 ⟨z, rfl, rd, mv⟩
  clear h
  go_wp2_with fail
  refine (pick_any R (c + 1) 6 w1 rd (by omega) (by omega)).mono ?_
  rintro e w2 ⟨x, rfl, x0, x1, -, rd2, mv2⟩
  have hx : x < 6 := x1 (by omega)
  obtain ⟨q0, q1, q2, f0, f1, f2, hz, mv1⟩ := boxM (mv.trans mv2) hR
  have MV : Hid (Moved R w w2) := mv1
  have RD : Hid (Rd R (c + 1 + 1) w2) := rd2
  clear mv mv1 rd mv2 rd2 x1
  go_wp2
  · exact bodyPost_ret (v := .agg #[.int .i64 12, .int .i64 z, .int .i64 1]) (by simp [results, Tryd.results83, go_sem, q0, q1, q2]) rfl ⟨12, z, 1, rfl, set3 RD.out MV.out hR (by omega) _ (Nat.le_refl _) _ _ _⟩
  · exact bodyPost_ret (v := .agg #[.int .i64 12, .int .i64 z, .int .i64 (1 + x)]) (by simp [results, Tryd.results83, go_sem, q0, q1, q2]) rfl ⟨12, z, _, rfl, set3 RD.out MV.out hR (by omega) _ (Nat.le_refl _) _ _ _⟩

set_option maxHeartbeats 400000 in
theorem arg_word (R c : Nat) (w : World) (h : Rd R c w) (hc : c ≤ 900) :
    Calls Tryd.prog 83 #[.pointer (some ⟨R, 0, none⟩), .int .i64 13] w fun e w' => ∃ k n p : Int, e = .returned (.agg #[.int .i64 k, .int .i64 n, .int .i64 p]) ∧ Rd R (c + 4) w' ∧ Moved R w w' := by
  have hR := h.size
  go_enter Tryd.func83, Tryd.ntmps83
  go_wp2_with fail
  refine (pick_any R c 4 _ (h.alloc _) (by omega) (by omega)).mono ?_
  rintro e w2 ⟨x, rfl, x0, x1, -, rd2, mv⟩
  obtain ⟨q0, q1, q2, f0, f1, f2, hz, mv1⟩ := boxM mv hR
  have MV : Hid (Moved R w w2) := mv1
  have RD : Hid (Rd R (c + 1) w2) := rd2
  clear mv mv1 rd2 x1 h
  go_wp2
  exact bodyPost_ret (v := .agg #[.int .i64 13, .int .i64 x, .int .i64 0]) (by simp [results, Tryd.results83, go_sem, q0, q1, q2]) rfl ⟨13, x, 0, rfl, set3 RD.out MV.out hR (by omega) _ (Nat.le_refl _) _ _ _⟩

set_option maxHeartbeats 800000 in
theorem arg_dev (R c : Nat) (k : Int) (w : World) (h : Rd R c w) (hc : c ≤ 900) (hk : k < 11 ∨ 13 < k) :
    Calls Tryd.prog 83 #[.pointer (some ⟨R, 0, none⟩), .int .i64 k] w fun e w' => ∃ k n p : Int, e = .returned (.agg #[.int .i64 k, .int .i64 n, .int .i64 p]) ∧ Rd R (c + 4) w' ∧ Moved R w w' := by
  have hR := h.size
  have hz := sizeZ_bd k
  have hz1 : sizeZ k ≤ 64 := hz.2
  have b1 : (k == 11) = false := by simp; omega
  have b2 : (k == 12) = false := by simp; omega
  have b3 : (k == 13) = false := by simp; omega
  clear hk hz
  go_enter Tryd.func83, Tryd.ntmps83
  go_wp2_with fail
  refine (pick_any R c 4 _ (h.alloc _) (by omega) (by omega)).mono ?_
  rintro e w1 ⟨x, rfl, x0, -, -, rd1, mv⟩
  clear h
  go_wp2_with fail
  refine (pick_any R (c + 1) 6 w1 rd1 (by omega) (by omega)).mono ?_
  rintro e w2 ⟨y, rfl, y0, -, -, rd2, mv2⟩
  clear rd1
  have mv2' := mv.trans mv2
  clear mv mv2
  cases hy : y == 0 with
  | false =>
    obtain ⟨q0, q1, q2, f0, f1, f2, hz, mv1⟩ := boxM mv2' hR
    have MV : Hid (Moved R w w2) := mv1
    have RD : Hid (Rd R (c + 1 + 1) w2) := rd2
    clear mv1 rd2 mv2'
    go_wp2_with (go_at_call 52; refine (spec_size k _).mono ?_; rintro e w' ⟨rfl, rfl⟩)
    · exact bodyPost_ret (v := .agg #[.int .i64 k, .int .i64 0, .int .i64 0]) (by simp [results, Tryd.results83, go_sem, q0, q1, q2]) rfl ⟨k, 0, 0, rfl, set3 RD.out MV.out hR (by omega) _ (Nat.le_refl _) _ _ _⟩
    · exact bodyPost_ret (v := .agg #[.int .i64 k, .int .i64 x, .int .i64 0]) (by simp [results, Tryd.results83, go_sem, q0, q1, q2]) rfl ⟨k, x, 0, rfl, set3 RD.out MV.out hR (by omega) _ (Nat.le_refl _) _ _ _⟩
  | true =>
    go_wp2_with (go_at_call 52; refine (spec_size k _).mono ?_; rintro e w' ⟨rfl, rfl⟩)
    refine (pick_any R (c + 1 + 1) (sizeZ k) _ rd2 (by omega) (by omega)).mono ?_
    rintro e w3 ⟨u, rfl, u0, -, -, rd3, mv3⟩
    obtain ⟨q0, q1, q2, f0, f1, f2, hz, mv1⟩ := boxM (mv2'.trans mv3) hR
    have MV : Hid (Moved R w w3) := mv1
    have RD : Hid (Rd R (c + 1 + 1 + 1) w3) := rd3
    clear mv1 rd2 mv2' rd3 mv3
    go_wp2_with (go_at_call 52; refine (spec_size k _).mono ?_; rintro e w' ⟨rfl, rfl⟩)
    · exact bodyPost_ret (v := .agg #[.int .i64 k, .int .i64 0, .int .i64 0]) (by simp [results, Tryd.results83, go_sem, q0, q1, q2]) rfl ⟨k, 0, 0, rfl, set3 RD.out MV.out hR (by omega) _ (Nat.le_refl _) _ _ _⟩
    · exact bodyPost_ret (v := .agg #[.int .i64 k, .int .i64 u, .int .i64 0]) (by simp [results, Tryd.results83, go_sem, q0, q1, q2]) rfl ⟨k, u, 0, rfl, set3 RD.out MV.out hR (by omega) _ (Nat.le_refl _) _ _ _⟩

theorem arg_any (R c : Nat) (k : Int) (w : World) (h : Rd R c w) (hc : c ≤ 900) :
    Calls Tryd.prog 83 #[.pointer (some ⟨R, 0, none⟩), .int .i64 k] w fun e w' => ∃ k n p : Int, e = .returned (.agg #[.int .i64 k, .int .i64 n, .int .i64 p]) ∧ Rd R (c + 4) w' ∧ Moved R w w' := by
  by_cases h1 : k = 11
  · subst h1; exact arg_int R c w h hc
  by_cases h2 : k = 12
  · subst h2; exact arg_dec R c w h hc
  by_cases h3 : k = 13
  · subst h3; exact arg_word R c w h hc
  exact arg_dev R c k w h hc (by omega)

end Go.Proofs.YtdhoimjkgicneaaDoor
