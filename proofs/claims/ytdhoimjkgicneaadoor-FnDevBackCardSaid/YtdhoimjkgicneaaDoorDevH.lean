/- What the program's DevText does. -/
import Derived.Test.YtdhoimjkgicneaaDoorDevG
import Derived.Test.YtdhoimjkgicneaaDoorBox
import Derived.Deep.RegionWith
namespace Go.Proofs.YtdhoimjkgicneaaDoor
open Go Go.RowKit

theorem later {W w1 w2 : World} {a : Addr} {v : Value} (hb : Below W.heap.size W w2) (hW : W.heap = w1.heap) (h : w1.cell? a = some v) (hz : a.block < w1.heap.size) (T : Tabs w1) :
    w2.cell? a = some v ∧ Tabs w2 ∧ w1.heap.size ≤ w2.heap.size := by
  have hs := hb.size
  have hb1 : ∀ k, k < w1.heap.size → w2.heap[k]? = w1.heap[k]? := fun k hk => by rw [hb.block k (by rw [hW]; exact hk), hW]
  refine ⟨?_, ?_, by rw [hW] at hs; exact hs⟩
  · rw [← h]; exact World.cell?_of_block (hb1 _ hz)
  · exact T.of_blocks hb1 (by rw [hW] at hs; exact hs)

set_option maxHeartbeats 400000 in
theorem impl_text_no (k n p : Int) (w : World) (T : Tabs w) (hk : okB k n p = false) :
    Calls Tryd.prog 13 #[.agg #[.int .i64 k, .int .i64 n, .int .i64 p]] w fun e w' => e = .returned (.string ⟨(textL k n p).toArray⟩) ∧ Below w.heap.size w w' := by
  rw [text_no hk]
  go_enter Tryd.func13, Tryd.ntmps13
  go_wp2_with (go_at_call 15; refine (impl_ok k n p _ (T.alloc _)).mono ?_; rintro e w1 ⟨rfl, hb⟩)
  go_ret
  exact ⟨rfl, (box3 hb).2.2.2.2⟩

set_option maxHeartbeats 400000 in
theorem impl_text_int (n p : Int) (w : World) (T : Tabs w) (hk : okB 11 n p = true) :
    Calls Tryd.prog 13 #[.agg #[.int .i64 11, .int .i64 n, .int .i64 p]] w fun e w' => e = .returned (.string ⟨(textL 11 n p).toArray⟩) ∧ Below w.heap.size w w' := by
  rw [text_int hk]
  have hn : -32768 ≤ n ∧ n ≤ 32767 ∧ p = 0 := by simpa [okB] using hk
  obtain ⟨n1, n2, -⟩ := hn
  go_enter Tryd.func13, Tryd.ntmps13
  go_wp2_with fail
  refine (impl_ok 11 n p _ (T.alloc _)).mono ?_
  rintro e w1 ⟨rfl, hb⟩
  obtain ⟨c0, c1, c2, hz, hb1⟩ := box3 hb
  have HB : Hid (Below w.heap.size w w1) := hb1
  have T1 : Tabs w1 := T.below hb1 (Nat.le_refl _)
  clear hb hb1
  go_wp2_with (go_at_call 57; refine (impl_itoa n _ (by omega) (by omega) T1).mono ?_; rintro e w2 ⟨rfl, hb⟩)
  go_ret
  exact ⟨rfl, HB.out.trans (hb.mono (by omega))⟩

set_option maxHeartbeats 400000 in
theorem impl_text_dec (n p : Int) (w : World) (T : Tabs w) (hk : okB 12 n p = true) :
    Calls Tryd.prog 13 #[.agg #[.int .i64 12, .int .i64 n, .int .i64 p]] w fun e w' => e = .returned (.string ⟨(textL 12 n p).toArray⟩) ∧ Below w.heap.size w w' := by
  rw [text_dec hk]
  have hn : -999999999 ≤ n ∧ n ≤ 999999999 ∧ 1 ≤ p ∧ p ≤ 6 ∧ (p = 1 ∨ n.tmod 10 ≠ 0) := by unfold okB at hk; rw [if_neg (by decide), if_pos rfl] at hk; exact of_decide_eq_true hk
  obtain ⟨q, rfl⟩ : ∃ q : Nat, p = q := ⟨p.toNat, by omega⟩
  rw [show (q : Int).toNat = q from rfl]
  obtain ⟨n1, n2, n3, n4, -⟩ := hn
  go_enter Tryd.func13, Tryd.ntmps13
  go_wp2_with fail
  refine (impl_ok 12 n q _ (T.alloc _)).mono ?_
  rintro e w1 ⟨rfl, hb⟩
  obtain ⟨c0, c1, c2, hz, hb1⟩ := box3 hb
  have HB : Hid (Below w.heap.size w w1) := hb1
  have T1 : Tabs w1 := T.below hb1 (Nat.le_refl _)
  clear hb hb1
  go_wp2_with (go_at_call 58; refine (impl_dec n q _ (by omega) (by omega) (by omega) T1).mono ?_; rintro e w2 ⟨rfl, hb⟩)
  go_ret
  exact ⟨rfl, HB.out.trans (hb.mono (by omega))⟩

set_option maxHeartbeats 400000 in
theorem impl_text_word (n p : Int) (w : World) (T : Tabs w) (hk : okB 13 n p = true) :
    Calls Tryd.prog 13 #[.agg #[.int .i64 13, .int .i64 n, .int .i64 p]] w fun e w' => e = .returned (.string ⟨(textL 13 n p).toArray⟩) ∧ Below w.heap.size w w' := by
  rw [text_word hk]
  have hn : 0 ≤ n ∧ n ≤ 3 ∧ p = 0 := by simpa [okB] using hk
  obtain ⟨h0, h3, -⟩ := hn
  have h4 : n = 0 ∨ n = 1 ∨ n = 2 ∨ n = 3 := by omega
  clear h0 h3
  rcases h4 with rfl | rfl | rfl | rfl
  all_goals
    go_enter Tryd.func13, Tryd.ntmps13
    go_wp2_with fail
    refine (impl_ok 13 _ p _ (T.alloc _)).mono ?_
    rintro e w1 ⟨rfl, hb⟩
    obtain ⟨c0, c1, c2, hz, hb1⟩ := box3 hb
    have HB : Hid (Below w.heap.size w w1) := hb1
    have T1 : Tabs w1 := T.below hb1 (Nat.le_refl _)
    clear hb hb1
    have cw0 := T1.wd 0 (by decide)
    have cw1 := T1.wd 1 (by decide)
    have cw2 := T1.wd 2 (by decide)
    have cw3 := T1.wd 3 (by decide)
    clear T T1
    go_wp2
    go_ret
    exact ⟨rfl, HB.out⟩

set_option maxHeartbeats 400000 in
theorem impl_text_dev (k n p : Int) (w : World) (T : Tabs w) (hk : okB k n p = true) (hK : k < 11 ∨ 13 < k) :
    Calls Tryd.prog 13 #[.agg #[.int .i64 k, .int .i64 n, .int .i64 p]] w fun e w' => e = .returned (.string ⟨(textL k n p).toArray⟩) ∧ Below w.heap.size w w' := by
  rw [text_dev hk hK]
  have hn : 0 ≤ n ∧ n < sizeZ k := by
    unfold okB at hk; rw [if_neg (by omega), if_neg (by omega), if_neg (by omega)] at hk
    have := of_decide_eq_true hk; omega
  have hz := sizeZ_bd k
  have b1 : (k == 11) = false := by simp; omega
  have b2 : (k == 12) = false := by simp; omega
  have b3 : (k == 13) = false := by simp; omega
  have n1 : 0 ≤ n := hn.1
  have n2 : n ≤ 64 := by omega
  have l1 := letterL_len k
  have l2 := itoa_len (n := n) (by omega) (by omega)
  clear hn hz hK
  go_enter Tryd.func13, Tryd.ntmps13
  go_wp2_with fail
  refine (impl_ok k n p _ (T.alloc _)).mono ?_
  rintro e w1 ⟨rfl, hb⟩
  obtain ⟨c0, c1, c2, hz, hb1⟩ := box3 hb
  have HB : Hid (Below w.heap.size w w1) := hb1
  have T1 : Tabs w1 := T.below hb1 (Nat.le_refl _)
  clear hb hb1
  go_wp2
  go_region_with (first
    | (go_at_call 59; refine (impl_letter k _ ?_).mono ?_; (first | exact T1 | exact T1.drew); rintro e w2 ⟨rfl, hb⟩; obtain ⟨d1, T2, dz⟩ := later (w1 := w1) hb rfl c1 hz T1)
    | (go_at_call 57; refine (impl_itoa n _ (by omega) (by omega) ?_).mono ?_; (first | exact T2 | exact T2.drew); rintro e w3 ⟨rfl, hb3⟩))
  all_goals
    go_wp2
    go_ret
    exact ⟨ret_str (str_cat _ _), (HB.out.drew.trans (hb.mono (by show _ ≤ w1.heap.size; omega))).trans (hb3.mono (by omega))⟩

theorem impl_text (k n p : Int) (w : World) (T : Tabs w) :
    Calls Tryd.prog 13 #[.agg #[.int .i64 k, .int .i64 n, .int .i64 p]] w fun e w' => e = .returned (.string ⟨(textL k n p).toArray⟩) ∧ Below w.heap.size w w' := by
  cases hk : okB k n p with
  | false => exact impl_text_no k n p w T hk
  | true =>
    by_cases h1 : k = 11
    · subst h1; exact impl_text_int n p w T hk
    by_cases h2 : k = 12
    · subst h2; exact impl_text_dec n p w T hk
    by_cases h3 : k = 13
    · subst h3; exact impl_text_word n p w T hk
    exact impl_text_dev k n p w T hk (by omega)

end Go.Proofs.YtdhoimjkgicneaaDoor
