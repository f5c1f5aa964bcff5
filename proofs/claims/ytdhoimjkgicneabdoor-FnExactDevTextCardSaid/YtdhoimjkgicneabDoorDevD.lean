/- What the specification's DevText does. -/
import Derived.Test.YtdhoimjkgicneabDoorDevC2
import Derived.Test.YtdhoimjkgicneabDoorBox
import Derived.Deep.RegionWith
namespace Go.Proofs.YtdhoimjkgicneabDoor
open Go Go.RowKit

set_option maxHeartbeats 400000 in
theorem spec_text_no (k n p : Int) (w : World) (hk : okB k n p = false) :
    Calls Tryd.prog 15 #[.agg #[.int .i64 k, .int .i64 n, .int .i64 p]] w fun e w' => e = .returned (.string ⟨(textL k n p).toArray⟩) ∧ Below w.heap.size w w' := by
  rw [text_no hk]
  go_enter Tryd.func15, Tryd.ntmps15
  go_wp2_with (go_at_call 33; refine (spec_ok k n p _).mono ?_; rintro e w1 ⟨rfl, hb⟩)
  go_ret
  exact ⟨rfl, (box3 hb).2.2.2.2⟩

set_option maxHeartbeats 400000 in
theorem spec_text_int (n p : Int) (w : World) (hk : okB 11 n p = true) :
    Calls Tryd.prog 15 #[.agg #[.int .i64 11, .int .i64 n, .int .i64 p]] w fun e w' => e = .returned (.string ⟨(textL 11 n p).toArray⟩) ∧ Below w.heap.size w w' := by
  rw [text_int hk]
  have hn : -32768 ≤ n ∧ n ≤ 32767 ∧ p = 0 := by simpa [okB] using hk
  obtain ⟨n1, n2, -⟩ := hn
  go_enter Tryd.func15, Tryd.ntmps15
  go_wp2_with fail
  refine (spec_ok 11 n p _).mono ?_
  rintro e w1 ⟨rfl, hb⟩
  obtain ⟨c0, c1, c2, hz, hb1⟩ := box3 hb
  have HB : Hid (Below w.heap.size w w1) := hb1
  clear hb hb1
  go_wp2_with (go_at_call 34; refine (spec_dec n _ (by omega) (by omega)).mono ?_; rintro e w2 ⟨rfl, hb⟩)
  go_ret
  exact ⟨rfl, HB.out.trans (hb.mono (by omega))⟩

set_option maxHeartbeats 400000 in
theorem spec_text_dec (n p : Int) (w : World) (hk : okB 12 n p = true) :
    Calls Tryd.prog 15 #[.agg #[.int .i64 12, .int .i64 n, .int .i64 p]] w fun e w' => e = .returned (.string ⟨(textL 12 n p).toArray⟩) ∧ Below w.heap.size w w' := by
  rw [text_dec hk]
  have hn : -999999999 ≤ n ∧ n ≤ 999999999 ∧ 1 ≤ p ∧ p ≤ 6 ∧ (p = 1 ∨ n.tmod 10 ≠ 0) := by unfold okB at hk; rw [if_neg (by decide), if_pos rfl] at hk; exact of_decide_eq_true hk
  obtain ⟨q, rfl⟩ : ∃ q : Nat, p = q := ⟨p.toNat, by omega⟩
  rw [show (q : Int).toNat = q from rfl]
  obtain ⟨n1, n2, n3, n4, -⟩ := hn
  go_enter Tryd.func15, Tryd.ntmps15
  go_wp2_with fail
  refine (spec_ok 12 n q _).mono ?_
  rintro e w1 ⟨rfl, hb⟩
  obtain ⟨c0, c1, c2, hz, hb1⟩ := box3 hb
  have HB : Hid (Below w.heap.size w w1) := hb1
  clear hb hb1
  go_wp2_with (go_at_call 35; refine (spec_l1dec n q _ (by omega) (by omega) (by omega)).mono ?_; rintro e w2 ⟨rfl, hb⟩)
  go_ret
  exact ⟨rfl, HB.out.trans (hb.mono (by omega))⟩

set_option maxHeartbeats 400000 in
theorem spec_text_word (n p : Int) (w : World) (hk : okB 13 n p = true) :
    Calls Tryd.prog 15 #[.agg #[.int .i64 13, .int .i64 n, .int .i64 p]] w fun e w' => e = .returned (.string ⟨(textL 13 n p).toArray⟩) ∧ Below w.heap.size w w' := by
  rw [text_word hk]
  have hn : 0 ≤ n ∧ n ≤ 3 ∧ p = 0 := by simpa [okB] using hk
  obtain ⟨h0, h3, -⟩ := hn
  have h4 : n = 0 ∨ n = 1 ∨ n = 2 ∨ n = 3 := by omega
  clear h0 h3
  rcases h4 with rfl | rfl | rfl | rfl
  all_goals
    go_enter Tryd.func15, Tryd.ntmps15
    go_wp2_with fail
    refine (spec_ok 13 _ p _).mono ?_
    rintro e w1 ⟨rfl, hb⟩
    obtain ⟨c0, c1, c2, hz, hb1⟩ := box3 hb
    have HB : Hid (Below w.heap.size w w1) := hb1
    clear hb hb1
    go_wp2
    go_region_with (go_at_call 36; refine (spec_words _).mono ?_; rintro e w2 ⟨rfl, rfl⟩)
    all_goals
      go_wp2
      go_ret
      exact ⟨rfl, (HB.out.alloc (by omega) _).drew⟩

set_option maxHeartbeats 400000 in
theorem spec_text_dev (k n p : Int) (w : World) (hk : okB k n p = true) (hK : k < 11 ∨ 13 < k) :
    Calls Tryd.prog 15 #[.agg #[.int .i64 k, .int .i64 n, .int .i64 p]] w fun e w' => e = .returned (.string ⟨(textL k n p).toArray⟩) ∧ Below w.heap.size w w' := by
  rw [text_dev hk hK]
  have hn : 0 ≤ n ∧ n < sizeZ k := by
    unfold okB at hk; rw [if_neg (by omega), if_neg (by omega), if_neg (by omega)] at hk
    have := of_decide_eq_true hk; omega
  have hz := sizeZ_bd k
  have b1 : (k == 11) = false := by simp; omega
  have b2 : (k == 12) = false := by simp; omega
  have b3 : (k == 13) = false := by simp; omega
  have n1 : 0 ≤ n := hn.1
  have n2 : n ≤ 64 := by omega
  have l1 := letterL_len k
  have l2 := itoa_len (n := n) (by omega) (by omega)
  clear hn hz hK
  go_enter Tryd.func15, Tryd.ntmps15
  go_wp2_with fail
  refine (spec_ok k n p _).mono ?_
  rintro e w1 ⟨rfl, hb⟩
  obtain ⟨c0, c1, c2, hz, hb1⟩ := box3 hb
  have HB : Hid (Below w.heap.size w w1) := hb1
  clear hb hb1
  go_wp2
  go_region_with (first | (go_at_call 37; refine (spec_letter k _).mono ?_; rintro e w2 ⟨rfl, rfl⟩) | (go_at_call 34; refine (spec_dec n _ (by omega) (by omega)).mono ?_; rintro e w2 ⟨rfl, hb⟩))
  all_goals
    go_wp2
    go_ret
    exact ⟨ret_str (str_cat _ _), HB.out.drew.trans (hb.mono (by show _ ≤ w1.heap.size; omega))⟩

theorem spec_text (k n p : Int) (w : World) :
    Calls Tryd.prog 15 #[.agg #[.int .i64 k, .int .i64 n, .int .i64 p]] w fun e w' => e = .returned (.string ⟨(textL k n p).toArray⟩) ∧ Below w.heap.size w w' := by
  cases hk : okB k n p with
  | false => exact spec_text_no k n p w hk
  | true =>
    by_cases h1 : k = 11
    · subst h1; exact spec_text_int n p w hk
    by_cases h2 : k = 12
    · subst h2; exact spec_text_dec n p w hk
    by_cases h3 : k = 13
    · subst h3; exact spec_text_word n p w hk
    exact spec_text_dev k n p w hk (by omega)

end Go.Proofs.YtdhoimjkgicneabDoor
