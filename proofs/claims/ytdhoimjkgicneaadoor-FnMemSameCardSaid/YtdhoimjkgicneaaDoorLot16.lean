/- Texts of this proof laid together: Box, DevD, DrawC. -/
import Derived.Test.YtdhoimjkgicneaaDoorLot10
import Derived.Below
import Derived.Test.YtdhoimjkgicneaaDoorLot15
import Derived.Deep.RegionWith
/- An operand in a box, and the text of an operand by its kind. -/
namespace Go.Proofs.YtdhoimjkgicneaaDoor
open Go Go.RowKit

theorem box3 {w w1 : World} {a b c : Value} {t : TypeId} (hb : Below (w.alloc (.cells #[a, b, c] t)).heap.size (w.alloc (.cells #[a, b, c] t)) w1) :
    w1.cell? ⟨w.heap.size, 0, none⟩ = some a ∧ w1.cell? ⟨w.heap.size, 1, none⟩ = some b ∧ w1.cell? ⟨w.heap.size, 2, none⟩ = some c ∧ w.heap.size < w1.heap.size ∧ Below w.heap.size w w1 := by
  refine ⟨?_, ?_, ?_, ?_, ?_⟩
  · rw [hb.cell (p := ⟨w.heap.size, 0, none⟩) (by simp)]; simp
  · rw [hb.cell (p := ⟨w.heap.size, 1, none⟩) (by simp)]; simp
  · rw [hb.cell (p := ⟨w.heap.size, 2, none⟩) (by simp)]; simp
  · have := hb.size; simp at this; omega
  · exact ((Below.refl _ w).alloc (Nat.le_refl _) _).trans (hb.mono (by simp))

theorem text_no {k n p : Int} (h : okB k n p = false) : textL k n p = [] := by unfold textL; rw [if_pos h]
theorem text_int {n p : Int} (h : okB 11 n p = true) : textL 11 n p = Lib.itoa n := by unfold textL; rw [if_neg (by rw [h]; decide), if_pos rfl]
theorem text_dec {n p : Int} (h : okB 12 n p = true) : textL 12 n p = decT n p.toNat := by unfold textL; rw [if_neg (by rw [h]; decide), if_neg (by decide), if_pos rfl]
theorem text_word {n p : Int} (h : okB 13 n p = true) : textL 13 n p = wordL n := by unfold textL; rw [if_neg (by rw [h]; decide), if_neg (by decide), if_neg (by decide), if_pos rfl]
theorem text_dev {k n p : Int} (h : okB k n p = true) (hk : k < 11 ∨ 13 < k) : textL k n p = letterL k ++ Lib.itoa n := by
  unfold textL; rw [if_neg (by rw [h]; decide), if_neg (by omega), if_neg (by omega), if_neg (by omega)]

end Go.Proofs.YtdhoimjkgicneaaDoor

/- What the specification's DevText does. -/
namespace Go.Proofs.YtdhoimjkgicneaaDoor
open Go Go.RowKit

set_option maxHeartbeats 400000 in
theorem spec_text_no (k n p : Int) (w : World) (hk : okB k n p = false) :
    Calls Tryd.prog 14 #[.agg #[.int .i64 k, .int .i64 n, .int .i64 p]] w fun e w' => e = .returned (.string ⟨(textL k n p).toArray⟩) ∧ Below w.heap.size w w' := by
  rw [text_no hk]
  go_enter Tryd.func14, Tryd.ntmps14
  go_wp2_with (go_at_call 36; refine (spec_ok k n p _).mono ?_; rintro e w1 ⟨rfl, hb⟩)
  go_ret
  exact ⟨rfl, (box3 hb).2.2.2.2⟩

set_option maxHeartbeats 400000 in
theorem spec_text_int (n p : Int) (w : World) (hk : okB 11 n p = true) :
    Calls Tryd.prog 14 #[.agg #[.int .i64 11, .int .i64 n, .int .i64 p]] w fun e w' => e = .returned (.string ⟨(textL 11 n p).toArray⟩) ∧ Below w.heap.size w w' := by
  rw [text_int hk]
  have hn : -32768 ≤ n ∧ n ≤ 32767 ∧ p = 0 := by simpa [okB] using hk
  obtain ⟨n1, n2, -⟩ := hn
  go_enter Tryd.func14, Tryd.ntmps14
  go_wp2_with fail
  refine (spec_ok 11 n p _).mono ?_
  rintro e w1 ⟨rfl, hb⟩
  obtain ⟨c0, c1, c2, hz, hb1⟩ := box3 hb
  have HB : Hid (Below w.heap.size w w1) := hb1
  clear hb hb1
  go_wp2_with (go_at_call 60; refine (spec_dec n _ (by omega) (by omega)).mono ?_; rintro e w2 ⟨rfl, hb⟩)
  go_ret
  exact ⟨rfl, HB.out.trans (hb.mono (by omega))⟩

set_option maxHeartbeats 400000 in
theorem spec_text_dec (n p : Int) (w : World) (hk : okB 12 n p = true) :
    Calls Tryd.prog 14 #[.agg #[.int .i64 12, .int .i64 n, .int .i64 p]] w fun e w' => e = .returned (.string ⟨(textL 12 n p).toArray⟩) ∧ Below w.heap.size w w' := by
  rw [text_dec hk]
  have hn : -999999999 ≤ n ∧ n ≤ 999999999 ∧ 1 ≤ p ∧ p ≤ 6 ∧ (p = 1 ∨ n.tmod 10 ≠ 0) := by unfold okB at hk; rw [if_neg (by decide), if_pos rfl] at hk; exact of_decide_eq_true hk
  obtain ⟨q, rfl⟩ : ∃ q : Nat, p = q := ⟨p.toNat, by omega⟩
  rw [show (q : Int).toNat = q from rfl]
  obtain ⟨n1, n2, n3, n4, -⟩ := hn
  go_enter Tryd.func14, Tryd.ntmps14
  go_wp2_with fail
  refine (spec_ok 12 n q _).mono ?_
  rintro e w1 ⟨rfl, hb⟩
  obtain ⟨c0, c1, c2, hz, hb1⟩ := box3 hb
  have HB : Hid (Below w.heap.size w w1) := hb1
  clear hb hb1
  go_wp2_with (go_at_call 61; refine (spec_l1dec n q _ (by omega) (by omega) (by omega)).mono ?_; rintro e w2 ⟨rfl, hb⟩)
  go_ret
  exact ⟨rfl, HB.out.trans (hb.mono (by omega))⟩

set_option maxHeartbeats 400000 in
theorem spec_text_word (n p : Int) (w : World) (hk : okB 13 n p = true) :
    Calls Tryd.prog 14 #[.agg #[.int .i64 13, .int .i64 n, .int .i64 p]] w fun e w' => e = .returned (.string ⟨(textL 13 n p).toArray⟩) ∧ Below w.heap.size w w' := by
  rw [text_word hk]
  have hn : 0 ≤ n ∧ n ≤ 3 ∧ p = 0 := by simpa [okB] using hk
  obtain ⟨h0, h3, -⟩ := hn
  have h4 : n = 0 ∨ n = 1 ∨ n = 2 ∨ n = 3 := by omega
  clear h0 h3
  rcases h4 with rfl | rfl | rfl | rfl
  all_goals
    go_enter Tryd.func14, Tryd.ntmps14
    go_wp2_with fail
    refine (spec_ok 13 _ p _).mono ?_
    rintro e w1 ⟨rfl, hb⟩
    obtain ⟨c0, c1, c2, hz, hb1⟩ := box3 hb
    have HB : Hid (Below w.heap.size w w1) := hb1
    clear hb hb1
    go_wp2
    go_region_with (go_at_call 62; refine (spec_words _).mono ?_; rintro e w2 ⟨rfl, rfl⟩)
    all_goals
      go_wp2
      go_ret
      exact ⟨rfl, (HB.out.alloc (by omega) _).drew⟩

set_option maxHeartbeats 400000 in
theorem spec_text_dev (k n p : Int) (w : World) (hk : okB k n p = true) (hK : k < 11 ∨ 13 < k) :
    Calls Tryd.prog 14 #[.agg #[.int .i64 k, .int .i64 n, .int .i64 p]] w fun e w' => e = .returned (.string ⟨(textL k n p).toArray⟩) ∧ Below w.heap.size w w' := by
  rw [text_dev hk hK]
  have hn : 0 ≤ n ∧ n < sizeZ k := by
    unfold okB at hk; rw [if_neg (by omega), if_neg (by omega), if_neg (by omega)] at hk
    have := of_decide_eq_true hk; omega
  have hz := sizeZ_bd k
  have b1 : (k == 11) = false := by simp; omega
  have b2 : (k == 12) = false := by simp; omega
  have b3 : (k == 13) = false := by simp; omega
  have n1 : 0 ≤ n := hn.1
  have n2 : n ≤ 64 := by omega
  have l1 := letterL_len k
  have l2 := itoa_len (n := n) (by omega) (by omega)
  clear hn hz hK
  go_enter Tryd.func14, Tryd.ntmps14
  go_wp2_with fail
  refine (spec_ok k n p _).mono ?_
  rintro e w1 ⟨rfl, hb⟩
  obtain ⟨c0, c1, c2, hz, hb1⟩ := box3 hb
  have HB : Hid (Below w.heap.size w w1) := hb1
  clear hb hb1
  go_wp2
  go_region_with (first | (go_at_call 63; refine (spec_letter k _).mono ?_; rintro e w2 ⟨rfl, rfl⟩) | (go_at_call 60; refine (spec_dec n _ (by omega) (by omega)).mono ?_; rintro e w2 ⟨rfl, hb⟩))
  all_goals
    go_wp2
    go_ret
    exact ⟨ret_str (str_cat _ _), HB.out.drew.trans (hb.mono (by show _ ≤ w1.heap.size; omega))⟩

theorem spec_text (k n p : Int) (w : World) :
    Calls Tryd.prog 14 #[.agg #[.int .i64 k, .int .i64 n, .int .i64 p]] w fun e w' => e = .returned (.string ⟨(textL k n p).toArray⟩) ∧ Below w.heap.size w w' := by
  cases hk : okB k n p with
  | false => exact spec_text_no k n p w hk
  | true =>
    by_cases h1 : k = 11
    · subst h1; exact spec_text_int n p w hk
    by_cases h2 : k = 12
    · subst h2; exact spec_text_dec n p w hk
    by_cases h3 : k = 13
    · subst h3; exact spec_text_word n p w hk
    exact spec_text_dev k n p w hk (by omega)

end Go.Proofs.YtdhoimjkgicneaaDoor

/- Spoilt operands, and the draws of an operand and of a text. -/
namespace Go.Proofs.YtdhoimjkgicneaaDoor
open Go Go.RowKit

theorem boxM2 {R : Nat} {w w1 : World} {a b c x y z : Value} {t s : TypeId} (mv : Moved R ((w.alloc (.cells #[a, b, c] t)).alloc (.cells #[x, y, z] s)) w1) (hR : R < w.heap.size) :
    (w1.cell? ⟨w.heap.size, 0, none⟩ = some a ∧ w1.cell? ⟨w.heap.size, 1, none⟩ = some b ∧ w1.cell? ⟨w.heap.size, 2, none⟩ = some c ∧
    w1.frozen? ⟨w.heap.size, 0, none⟩ = false ∧ w1.frozen? ⟨w.heap.size, 1, none⟩ = false ∧ w1.frozen? ⟨w.heap.size, 2, none⟩ = false) ∧
    (w1.cell? ⟨w.heap.size + 1, 0, none⟩ = some x ∧ w1.cell? ⟨w.heap.size + 1, 1, none⟩ = some y ∧ w1.cell? ⟨w.heap.size + 1, 2, none⟩ = some z ∧
    w1.frozen? ⟨w.heap.size + 1, 0, none⟩ = false ∧ w1.frozen? ⟨w.heap.size + 1, 1, none⟩ = false ∧ w1.frozen? ⟨w.heap.size + 1, 2, none⟩ = false) ∧ w.heap.size + 1 < w1.heap.size ∧ Moved R w w1 := by
  have hs : (w.alloc (.cells #[a, b, c] t)).heap.size = w.heap.size + 1 := by simp
  obtain ⟨c0, c1, c2, d0, d1, d2, hz, mv1⟩ := boxM mv (by rw [hs]; omega)
  rw [hs] at c0 c1 c2 d0 d1 d2 hz
  obtain ⟨e0, e1, e2, g0, g1, g2, -, mv2⟩ := boxM mv1 hR
  exact ⟨⟨e0, e1, e2, g0, g1, g2⟩, ⟨c0, c1, c2, d0, d1, d2⟩, hz, mv2⟩

set_option maxHeartbeats 1000000 in
theorem spoilt_any (R c : Nat) (k n p : Int) (w : World) (h : Rd R c w) (hc : c ≤ 900) :
    Calls Tryd.prog 109 #[.pointer (some ⟨R, 0, none⟩), .agg #[.int .i64 k, .int .i64 n, .int .i64 p]] w fun e w' => ∃ k n p : Int, e = .returned (.agg #[.int .i64 k, .int .i64 n, .int .i64 p]) ∧ Rd R (c + 2) w' ∧ Moved R w w' := by
  have hR := h.size
  go_enter Tryd.func109, Tryd.ntmps109
  go_wp2_with fail
  refine (pick_any R c 6 _ ((h.alloc _).alloc _) (by omega) (by omega)).mono ?_
  rintro e w1 ⟨x, rfl, x0, x1, -, rd1, mv⟩
  have hx : x = 0 ∨ x = 1 ∨ x = 2 ∨ x = 3 ∨ x = 4 ∨ x = 5 := by have := x1 (by omega); omega
  clear x0 x1 h
  rcases hx with rfl | rfl | rfl | rfl | rfl | rfl
  · go_wp2_with fail
    refine (pick_any R (c + 1) 16 _ rd1 (by omega) (by omega)).mono ?_
    rintro e w2 ⟨y, rfl, y0, y1, -, rd2, mv2⟩
    have hy : y < 16 := y1 (by omega)
    obtain ⟨⟨e0, e1, e2, g0, g1, g2⟩, ⟨q0, q1, q2, f0, f1, f2⟩, hz, mv3⟩ := boxM2 (mv.trans mv2) hR
    have MV : Hid (Moved R w w2) := mv3
    have RD : Hid (Rd R (c + 1 + 1) w2) := rd2
    clear mv mv2 mv3 rd1 rd2 y1
    go_wp2
    exact bodyPost_ret (v := .agg #[.int .i64 (y - 1), .int .i64 n, .int .i64 p]) (by simp [results, Tryd.results109, go_sem, q0, q1, q2]) rfl ⟨_, _, _, rfl, set3 (RD.out.setCell (by show R < w.heap.size; omega) _) (MV.out.setCell (Nat.le_refl _) _) hR (by omega) _ (by omega) _ _ _⟩
  · go_wp2_with fail
    refine (num_lit R (c + 1) _ _ _ rfl rd1 (by omega) (by simp) (by simp) (by simp) 16 rfl).mono ?_
    rintro e w2 ⟨y, rfl, rd2, mv2⟩
    obtain ⟨⟨e0, e1, e2, g0, g1, g2⟩, ⟨q0, q1, q2, f0, f1, f2⟩, hz, mv3⟩ := boxM2 (mv.trans mv2) hR
    have MV : Hid (Moved R w w2) := mv3
    have RD : Hid (Rd R (c + 1 + 1) w2) := rd2
    clear mv mv2 mv3 rd1 rd2
    go_wp2
    exact bodyPost_ret (v := .agg #[.int .i64 k, .int .i64 y, .int .i64 p]) (by simp [results, Tryd.results109, go_sem, q0, q1, q2]) rfl ⟨_, _, _, rfl, set3 (RD.out.setCell (by show R < w.heap.size; omega) _) (MV.out.setCell (Nat.le_refl _) _) hR (by omega) _ (by omega) _ _ _⟩
  · go_wp2_with fail
    refine (num_lit R (c + 1) _ _ _ rfl rd1 (by omega) (by simp) (by simp) (by simp) 5 rfl).mono ?_
    rintro e w2 ⟨y, rfl, rd2, mv2⟩
    obtain ⟨⟨e0, e1, e2, g0, g1, g2⟩, ⟨q0, q1, q2, f0, f1, f2⟩, hz, mv3⟩ := boxM2 (mv.trans mv2) hR
    have MV : Hid (Moved R w w2) := mv3
    have RD : Hid (Rd R (c + 1 + 1) w2) := rd2
    clear mv mv2 mv3 rd1 rd2
    go_wp2
    exact bodyPost_ret (v := .agg #[.int .i64 k, .int .i64 n, .int .i64 y]) (by simp [results, Tryd.results109, go_sem, q0, q1, q2]) rfl ⟨_, _, _, rfl, set3 (RD.out.setCell (by show R < w.heap.size; omega) _) (MV.out.setCell (Nat.le_refl _) _) hR (by omega) _ (by omega) _ _ _⟩
  all_goals
    obtain ⟨⟨e0, e1, e2, g0, g1, g2⟩, ⟨q0, q1, q2, f0, f1, f2⟩, hz, mv3⟩ := boxM2 mv hR
    have MV : Hid (Moved R w w1) := mv3
    have RD : Hid (Rd R (c + 1) w1) := rd1
    have hzk := sizeZ_bd k
    clear mv mv3 rd1
  · go_wp2_with (go_at_call 52; refine (spec_size k _).mono ?_; rintro e w' ⟨rfl, rfl⟩)
    exact bodyPost_ret (v := .agg #[.int .i64 k, .int .i64 (sizeZ k), .int .i64 p]) (by simp [results, Tryd.results109, go_sem, q0, q1, q2]) rfl ⟨_, _, _, rfl, set3 (RD.out.setCell (by show R < w.heap.size; omega) _) (MV.out.setCell (Nat.le_refl _) _) hR (by omega) _ (by omega) _ _ _⟩
  · go_wp2_with (go_at_call 52; refine (spec_size k _).mono ?_; rintro e w' ⟨rfl, rfl⟩)
    exact bodyPost_ret (v := .agg #[.int .i64 k, .int .i64 (sizeZ k - 1), .int .i64 p]) (by simp [results, Tryd.results109, go_sem, q0, q1, q2]) rfl ⟨_, _, _, rfl, set3 (RD.out.setCell (by show R < w.heap.size; omega) _) (MV.out.setCell (Nat.le_refl _) _) hR (by omega) _ (by omega) _ _ _⟩
  · go_wp2
    exact bodyPost_ret (v := .agg #[.int .i64 k, .int .i64 (wrap64 (-n)), .int .i64 p]) (by simp [results, Tryd.results109, go_sem, q0, q1, q2]) rfl ⟨_, _, _, rfl, set3 (RD.out.setCell (by show R < w.heap.size; omega) _) (MV.out.setCell (Nat.le_refl _) _) hR (by omega) _ (by omega) _ _ _⟩

end Go.Proofs.YtdhoimjkgicneaaDoor
