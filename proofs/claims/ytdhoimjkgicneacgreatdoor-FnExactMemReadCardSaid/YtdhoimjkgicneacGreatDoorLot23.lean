/- Texts of this proof laid together: DevH, ScanB, RegB. -/
import Derived.Test.YtdhoimjkgicneacGreatDoorLot22
import Derived.Test.YtdhoimjkgicneacGreatDoorLot10
import Derived.Deep.RegionWith
import Derived.Test.YtdhoimjkgicneacGreatDoorLot20
import Derived.Test.YtdhoimjkgicneacGreatDoorLot7
import Derived.Deep.QuietTactic
import Derived.BigQuiet
/- What the program's DevText does. -/
namespace Go.Proofs.YtdhoimjkgicneacGreatDoor
open Go Go.RowKit

theorem later {W w1 w2 : World} {a : Addr} {v : Value} (hb : Below W.heap.size W w2) (hW : W.heap = w1.heap) (h : w1.cell? a = some v) (hz : a.block < w1.heap.size) (T : Tabs w1) :
    w2.cell? a = some v ∧ Tabs w2 ∧ w1.heap.size ≤ w2.heap.size := by
  have hs := hb.size
  have hb1 : ∀ k, k < w1.heap.size → w2.heap[k]? = w1.heap[k]? := fun k hk => by rw [hb.block k (by rw [hW]; exact hk), hW]
  refine ⟨?_, ?_, by rw [hW] at hs; exact hs⟩
  · rw [← h]; exact World.cell?_of_block (hb1 _ hz)
  · exact T.of_blocks hb1 (by rw [hW] at hs; exact hs)

set_option maxHeartbeats 400000 in
theorem impl_text_no (k n p : Int) (w : World) (T : Tabs w) (hk : okB k n p = false) :
    Calls Tryz.prog 64 #[.agg #[.int .i64 k, .int .i64 n, .int .i64 p]] w fun e w' => e = .returned (.string ⟨(textL k n p).toArray⟩) ∧ Below w.heap.size w w' := by
  rw [text_no hk]
  go_enter Tryz.func64, Tryz.ntmps64
  go_wp2_with (go_at_call 63; refine (impl_ok k n p _ (T.alloc _)).mono ?_; rintro e w1 ⟨rfl, hb⟩)
  go_ret
  exact ⟨rfl, (box3 hb).2.2.2.2⟩

set_option maxHeartbeats 400000 in
theorem impl_text_int (n p : Int) (w : World) (T : Tabs w) (hk : okB 11 n p = true) :
    Calls Tryz.prog 64 #[.agg #[.int .i64 11, .int .i64 n, .int .i64 p]] w fun e w' => e = .returned (.string ⟨(textL 11 n p).toArray⟩) ∧ Below w.heap.size w w' := by
  rw [text_int hk]
  have hn : -32768 ≤ n ∧ n ≤ 32767 ∧ p = 0 := by simpa [okB] using hk
  obtain ⟨n1, n2, -⟩ := hn
  go_enter Tryz.func64, Tryz.ntmps64
  go_wp2_with fail
  refine (impl_ok 11 n p _ (T.alloc _)).mono ?_
  rintro e w1 ⟨rfl, hb⟩
  obtain ⟨c0, c1, c2, hz, hb1⟩ := box3 hb
  have HB : Hid (Below w.heap.size w w1) := hb1
  have T1 : Tabs w1 := T.below hb1 (Nat.le_refl _)
  clear hb hb1
  go_wp2_with (go_at_call 76; refine (impl_itoa n _ (by omega) (by omega) T1).mono ?_; rintro e w2 ⟨rfl, hb⟩)
  go_ret
  exact ⟨rfl, HB.out.trans (hb.mono (by omega))⟩

set_option maxHeartbeats 400000 in
theorem impl_text_dec (n p : Int) (w : World) (T : Tabs w) (hk : okB 12 n p = true) :
    Calls Tryz.prog 64 #[.agg #[.int .i64 12, .int .i64 n, .int .i64 p]] w fun e w' => e = .returned (.string ⟨(textL 12 n p).toArray⟩) ∧ Below w.heap.size w w' := by
  rw [text_dec hk]
  have hn : -999999999 ≤ n ∧ n ≤ 999999999 ∧ 1 ≤ p ∧ p ≤ 6 ∧ (p = 1 ∨ n.tmod 10 ≠ 0) := by unfold okB at hk; rw [if_neg (by decide), if_pos rfl] at hk; exact of_decide_eq_true hk
  obtain ⟨q, rfl⟩ : ∃ q : Nat, p = q := ⟨p.toNat, by omega⟩
  rw [show (q : Int).toNat = q from rfl]
  obtain ⟨n1, n2, n3, n4, -⟩ := hn
  go_enter Tryz.func64, Tryz.ntmps64
  go_wp2_with fail
  refine (impl_ok 12 n q _ (T.alloc _)).mono ?_
  rintro e w1 ⟨rfl, hb⟩
  obtain ⟨c0, c1, c2, hz, hb1⟩ := box3 hb
  have HB : Hid (Below w.heap.size w w1) := hb1
  have T1 : Tabs w1 := T.below hb1 (Nat.le_refl _)
  clear hb hb1
  go_wp2_with (go_at_call 101; refine (impl_dec n q _ (by omega) (by omega) (by omega) T1).mono ?_; rintro e w2 ⟨rfl, hb⟩)
  go_ret
  exact ⟨rfl, HB.out.trans (hb.mono (by omega))⟩

set_option maxHeartbeats 400000 in
theorem impl_text_word (n p : Int) (w : World) (T : Tabs w) (hk : okB 13 n p = true) :
    Calls Tryz.prog 64 #[.agg #[.int .i64 13, .int .i64 n, .int .i64 p]] w fun e w' => e = .returned (.string ⟨(textL 13 n p).toArray⟩) ∧ Below w.heap.size w w' := by
  rw [text_word hk]
  have hn : 0 ≤ n ∧ n ≤ 3 ∧ p = 0 := by simpa [okB] using hk
  obtain ⟨h0, h3, -⟩ := hn
  have h4 : n = 0 ∨ n = 1 ∨ n = 2 ∨ n = 3 := by omega
  clear h0 h3
  rcases h4 with rfl | rfl | rfl | rfl
  all_goals
    go_enter Tryz.func64, Tryz.ntmps64
    go_wp2_with fail
    refine (impl_ok 13 _ p _ (T.alloc _)).mono ?_
    rintro e w1 ⟨rfl, hb⟩
    obtain ⟨c0, c1, c2, hz, hb1⟩ := box3 hb
    have HB : Hid (Below w.heap.size w w1) := hb1
    have T1 : Tabs w1 := T.below hb1 (Nat.le_refl _)
    clear hb hb1
    have cw0 := T1.wd 0 (by decide)
    have cw1 := T1.wd 1 (by decide)
    have cw2 := T1.wd 2 (by decide)
    have cw3 := T1.wd 3 (by decide)
    clear T T1
    go_wp2
    go_ret
    exact ⟨rfl, HB.out⟩

set_option maxHeartbeats 400000 in
theorem impl_text_dev (k n p : Int) (w : World) (T : Tabs w) (hk : okB k n p = true) (hK : k < 11 ∨ 13 < k) :
    Calls Tryz.prog 64 #[.agg #[.int .i64 k, .int .i64 n, .int .i64 p]] w fun e w' => e = .returned (.string ⟨(textL k n p).toArray⟩) ∧ Below w.heap.size w w' := by
  rw [text_dev hk hK]
  have hn : 0 ≤ n ∧ n < sizeZ k := by
    unfold okB at hk; rw [if_neg (by omega), if_neg (by omega), if_neg (by omega)] at hk
    have := of_decide_eq_true hk; omega
  have hz := sizeZ_bd k
  have b1 : (k == 11) = false := by simp; omega
  have b2 : (k == 12) = false := by simp; omega
  have b3 : (k == 13) = false := by simp; omega
  have n1 : 0 ≤ n := hn.1
  have n2 : n ≤ 64 := by omega
  have l1 := letterL_len k
  have l2 := itoa_len (n := n) (by omega) (by omega)
  clear hn hz hK
  go_enter Tryz.func64, Tryz.ntmps64
  go_wp2_with fail
  refine (impl_ok k n p _ (T.alloc _)).mono ?_
  rintro e w1 ⟨rfl, hb⟩
  obtain ⟨c0, c1, c2, hz, hb1⟩ := box3 hb
  have HB : Hid (Below w.heap.size w w1) := hb1
  have T1 : Tabs w1 := T.below hb1 (Nat.le_refl _)
  clear hb hb1
  go_wp2
  go_region_with (first
    | (go_at_call 99; refine (impl_letter k _ ?_).mono ?_; (first | exact T1 | exact T1.drew); rintro e w2 ⟨rfl, hb⟩; obtain ⟨d1, T2, dz⟩ := later (w1 := w1) hb rfl c1 hz T1)
    | (go_at_call 76; refine (impl_itoa n _ (by omega) (by omega) ?_).mono ?_; (first | exact T2 | exact T2.drew); rintro e w3 ⟨rfl, hb3⟩))
  all_goals
    go_wp2
    go_ret
    exact ⟨ret_str (str_cat _ _), (HB.out.drew.trans (hb.mono (by show _ ≤ w1.heap.size; omega))).trans (hb3.mono (by omega))⟩

theorem impl_text (k n p : Int) (w : World) (T : Tabs w) :
    Calls Tryz.prog 64 #[.agg #[.int .i64 k, .int .i64 n, .int .i64 p]] w fun e w' => e = .returned (.string ⟨(textL k n p).toArray⟩) ∧ Below w.heap.size w w' := by
  cases hk : okB k n p with
  | false => exact impl_text_no k n p w T hk
  | true =>
    by_cases h1 : k = 11
    · subst h1; exact impl_text_int n p w T hk
    by_cases h2 : k = 12
    · subst h2; exact impl_text_dec n p w T hk
    by_cases h3 : k = 13
    · subst h3; exact impl_text_word n p w T hk
    exact impl_text_dev k n p w T hk (by omega)

end Go.Proofs.YtdhoimjkgicneacGreatDoor

/- What the program's devScan does at a word, and so at every text; and what its DevRead does. -/
namespace Go.Proofs.YtdhoimjkgicneacGreatDoor
open Go Go.RowKit

set_option maxRecDepth 100000 in
set_option maxHeartbeats 400000 in
theorem scan_word0 (w : World) (T : Tabs w) :
    Calls Tryz.prog 62 #[.string ⟨#[110, 97, 110]⟩] w fun e w' => e = .returned (.agg #[.int .i64 13, .int .i64 0, .int .i64 0]) ∧ Below w.heap.size w w' := by
  have c0 := past (T.wd 0 (by decide)) T.zw
  have c1 := past (T.wd 1 (by decide)) T.zw
  have c2 := past (T.wd 2 (by decide)) T.zw
  have c3 := past (T.wd 3 (by decide)) T.zw
  rw [show wordL ((0 : Nat) : Int) = [110, 97, 110] by decide] at c0
  rw [show wordL ((1 : Nat) : Int) = [105, 110, 102] by decide] at c1
  rw [show wordL ((2 : Nat) : Int) = [45, 105, 110, 102] by decide] at c2
  rw [show wordL ((3 : Nat) : Int) = [45, 48, 46, 48] by decide] at c3
  have i0 := idx0
  have i1 := idx1
  have i2 := idx2
  have i3 := idx3
  go_enter Tryz.func62, Tryz.ntmps62
  go_wp2
  go_step3
  go_wp2
  go_loopg [11] 4 (fun g i wr => ∃ k : Nat, k + g = 4 ∧ k ≤ 0 ∧ i = .int .i64 k ∧ wr = w.alloc (.cells #[.int .i64 0, .int .i64 0, .int .i64 0] 55))
  case atStart => exact ⟨0, by omega, by omega, rfl, rfl⟩
  case round =>
    obtain ⟨k, hk, hk2, rfl, rfl⟩ := hrel
    have hk4 : k = 0 := by omega
    rcases hk4 with rfl
    · go_wp2
      try rw [Exit.noGoto_ret]
      exact bodyPost_ret (v := .agg #[.int .i64 13, .int .i64 0, .int .i64 0]) (by simp [results, Tryz.results62, go_sem]) rfl ⟨rfl, (Below.refl _ _).alloc (Nat.le_refl _) _⟩

set_option maxRecDepth 100000 in
set_option maxHeartbeats 400000 in
theorem scan_word1 (w : World) (T : Tabs w) :
    Calls Tryz.prog 62 #[.string ⟨#[105, 110, 102]⟩] w fun e w' => e = .returned (.agg #[.int .i64 13, .int .i64 1, .int .i64 0]) ∧ Below w.heap.size w w' := by
  have c0 := past (T.wd 0 (by decide)) T.zw
  have c1 := past (T.wd 1 (by decide)) T.zw
  have c2 := past (T.wd 2 (by decide)) T.zw
  have c3 := past (T.wd 3 (by decide)) T.zw
  rw [show wordL ((0 : Nat) : Int) = [110, 97, 110] by decide] at c0
  rw [show wordL ((1 : Nat) : Int) = [105, 110, 102] by decide] at c1
  rw [show wordL ((2 : Nat) : Int) = [45, 105, 110, 102] by decide] at c2
  rw [show wordL ((3 : Nat) : Int) = [45, 48, 46, 48] by decide] at c3
  have i0 := idx0
  have i1 := idx1
  have i2 := idx2
  have i3 := idx3
  go_enter Tryz.func62, Tryz.ntmps62
  go_wp2
  go_step3
  go_wp2
  go_loopg [11] 4 (fun g i wr => ∃ k : Nat, k + g = 4 ∧ k ≤ 1 ∧ i = .int .i64 k ∧ wr = w.alloc (.cells #[.int .i64 0, .int .i64 0, .int .i64 0] 55))
  case atStart => exact ⟨0, by omega, by omega, rfl, rfl⟩
  case round =>
    obtain ⟨k, hk, hk2, rfl, rfl⟩ := hrel
    have hk4 : k = 0 ∨ k = 1 := by omega
    rcases hk4 with rfl | rfl
    · go_wp2
      go_roundg 3
      case measure => omega
      case rel => exact ⟨1, by omega, by omega, rfl, rfl⟩
    · go_wp2
      try rw [Exit.noGoto_ret]
      exact bodyPost_ret (v := .agg #[.int .i64 13, .int .i64 1, .int .i64 0]) (by simp [results, Tryz.results62, go_sem]) rfl ⟨rfl, (Below.refl _ _).alloc (Nat.le_refl _) _⟩

set_option maxRecDepth 100000 in
set_option maxHeartbeats 400000 in
theorem scan_word2 (w : World) (T : Tabs w) :
    Calls Tryz.prog 62 #[.string ⟨#[45, 105, 110, 102]⟩] w fun e w' => e = .returned (.agg #[.int .i64 13, .int .i64 2, .int .i64 0]) ∧ Below w.heap.size w w' := by
  have c0 := past (T.wd 0 (by decide)) T.zw
  have c1 := past (T.wd 1 (by decide)) T.zw
  have c2 := past (T.wd 2 (by decide)) T.zw
  have c3 := past (T.wd 3 (by decide)) T.zw
  rw [show wordL ((0 : Nat) : Int) = [110, 97, 110] by decide] at c0
  rw [show wordL ((1 : Nat) : Int) = [105, 110, 102] by decide] at c1
  rw [show wordL ((2 : Nat) : Int) = [45, 105, 110, 102] by decide] at c2
  rw [show wordL ((3 : Nat) : Int) = [45, 48, 46, 48] by decide] at c3
  have i0 := idx0
  have i1 := idx1
  have i2 := idx2
  have i3 := idx3
  go_enter Tryz.func62, Tryz.ntmps62
  go_wp2
  go_step3
  go_wp2
  go_loopg [11] 4 (fun g i wr => ∃ k : Nat, k + g = 4 ∧ k ≤ 2 ∧ i = .int .i64 k ∧ wr = w.alloc (.cells #[.int .i64 0, .int .i64 0, .int .i64 0] 55))
  case atStart => exact ⟨0, by omega, by omega, rfl, rfl⟩
  case round =>
    obtain ⟨k, hk, hk2, rfl, rfl⟩ := hrel
    have hk4 : k = 0 ∨ k = 1 ∨ k = 2 := by omega
    rcases hk4 with rfl | rfl | rfl
    · go_wp2
      go_roundg 3
      case measure => omega
      case rel => exact ⟨1, by omega, by omega, rfl, rfl⟩
    · go_wp2
      go_roundg 2
      case measure => omega
      case rel => exact ⟨2, by omega, by omega, rfl, rfl⟩
    · go_wp2
      try rw [Exit.noGoto_ret]
      exact bodyPost_ret (v := .agg #[.int .i64 13, .int .i64 2, .int .i64 0]) (by simp [results, Tryz.results62, go_sem]) rfl ⟨rfl, (Below.refl _ _).alloc (Nat.le_refl _) _⟩

set_option maxRecDepth 100000 in
set_option maxHeartbeats 400000 in
theorem scan_word3 (w : World) (T : Tabs w) :
    Calls Tryz.prog 62 #[.string ⟨#[45, 48, 46, 48]⟩] w fun e w' => e = .returned (.agg #[.int .i64 13, .int .i64 3, .int .i64 0]) ∧ Below w.heap.size w w' := by
  have c0 := past (T.wd 0 (by decide)) T.zw
  have c1 := past (T.wd 1 (by decide)) T.zw
  have c2 := past (T.wd 2 (by decide)) T.zw
  have c3 := past (T.wd 3 (by decide)) T.zw
  rw [show wordL ((0 : Nat) : Int) = [110, 97, 110] by decide] at c0
  rw [show wordL ((1 : Nat) : Int) = [105, 110, 102] by decide] at c1
  rw [show wordL ((2 : Nat) : Int) = [45, 105, 110, 102] by decide] at c2
  rw [show wordL ((3 : Nat) : Int) = [45, 48, 46, 48] by decide] at c3
  have i0 := idx0
  have i1 := idx1
  have i2 := idx2
  have i3 := idx3
  go_enter Tryz.func62, Tryz.ntmps62
  go_wp2
  go_step3
  go_wp2
  go_loopg [11] 4 (fun g i wr => ∃ k : Nat, k + g = 4 ∧ k ≤ 3 ∧ i = .int .i64 k ∧ wr = w.alloc (.cells #[.int .i64 0, .int .i64 0, .int .i64 0] 55))
  case atStart => exact ⟨0, by omega, by omega, rfl, rfl⟩
  case round =>
    obtain ⟨k, hk, hk2, rfl, rfl⟩ := hrel
    have hk4 : k = 0 ∨ k = 1 ∨ k = 2 ∨ k = 3 := by omega
    rcases hk4 with rfl | rfl | rfl | rfl
    · go_wp2
      go_roundg 3
      case measure => omega
      case rel => exact ⟨1, by omega, by omega, rfl, rfl⟩
    · go_wp2
      go_roundg 2
      case measure => omega
      case rel => exact ⟨2, by omega, by omega, rfl, rfl⟩
    · go_wp2
      go_roundg 1
      case measure => omega
      case rel => exact ⟨3, by omega, by omega, rfl, rfl⟩
    · go_wp2
      try rw [Exit.noGoto_ret]
      exact bodyPost_ret (v := .agg #[.int .i64 13, .int .i64 3, .int .i64 0]) (by simp [results, Tryz.results62, go_sem]) rfl ⟨rfl, (Below.refl _ _).alloc (Nat.le_refl _) _⟩

theorem beq_word' (s : ByteArray) (l : List UInt8) (h : s.data.toList ≠ l) : (l == s.toList) = false := by
  rw [ByteArray.toList_eq, beq_eq_false_iff_ne]; exact fun e => h e.symm

theorem scan_all (s : ByteArray) (w : World) (T : Tabs w) (hs : s.size ≤ 6000) :
    Calls Tryz.prog 62 #[.string s] w fun e w' => ∃ k n p : Int, e = .returned (.agg #[.int .i64 k, .int .i64 n, .int .i64 p]) ∧ scanP s.data.toList = (k, n, p) ∧ Below w.heap.size w w' := by
  by_cases h0 : s.data.toList = wordL 0
  · rw [str_lit h0]
    exact (scan_word0 w T).mono fun e w' ⟨he, hb⟩ => ⟨13, 0, 0, he, by decide, hb⟩
  by_cases h1 : s.data.toList = wordL 1
  · rw [str_lit h1]
    exact (scan_word1 w T).mono fun e w' ⟨he, hb⟩ => ⟨13, 1, 0, he, by decide, hb⟩
  by_cases h2 : s.data.toList = wordL 2
  · rw [str_lit h2]
    exact (scan_word2 w T).mono fun e w' ⟨he, hb⟩ => ⟨13, 2, 0, he, by decide, hb⟩
  by_cases h3 : s.data.toList = wordL 3
  · rw [str_lit h3]
    exact (scan_word3 w T).mono fun e w' ⟨he, hb⟩ => ⟨13, 3, 0, he, by decide, hb⟩
  exact scan_num s w T hs (beq_word' s _ (by intro e; exact h0 (e.trans (by decide)))) (beq_word' s _ (by intro e; exact h1 (e.trans (by decide)))) (beq_word' s _ (by intro e; exact h2 (e.trans (by decide)))) (beq_word' s _ (by intro e; exact h3 (e.trans (by decide))))

set_option maxRecDepth 100000 in
set_option maxHeartbeats 800000 in
theorem impl_read (s : ByteArray) (w : World) (T : Tabs w) (hs : s.size ≤ 6000) :
    Calls Tryz.prog 32 #[.string s] w fun e w' => Reads s.data.toList e ∧ Below w.heap.size w w' := by
  go_enter Tryz.func32, Tryz.ntmps32
  go_wp2_with fail
  refine (scan_all s _ (T.alloc _) hs).mono ?_
  rintro e w1 ⟨k, n, p, rfl, hg, hb⟩
  obtain ⟨q0, q1, q2, f0, f1, f2, hz, hb1⟩ := box3b hb
  have HG : Hid (scanP s.data.toList = (k, n, p)) := hg
  have HB : Hid (Below w.heap.size w w1) := hb1
  have T1 : Tabs w1 := T.below hb1 (Nat.le_refl _)
  clear hg hb hb1
  go_wp2_with fail
  refine (impl_ok k n p _ (T1.alloc _)).mono ?_
  rintro e w2 ⟨rfl, hb2⟩
  obtain ⟨c0, c1, c2, hz2, hb3⟩ := box3 hb2
  obtain ⟨p0, p1, p2, g0, g1, g2⟩ := kept3 hb3 hz q0 q1 q2 f0 f1 f2
  have T2 : Tabs w2 := T1.below hb3 (Nat.le_refl _)
  have HB2 : Hid (Below w.heap.size w w2) := HB.out.trans (hb3.mono (by omega))
  have hz3 : w.heap.size < w2.heap.size := by omega
  clear hb2 hb3 q0 q1 q2 f0 f1 f2 T1
  cases hok : okB k n p with
  | false =>
    have HN : Hid (∀ k' n' p' : Int, okB k' n' p' = true → textL k' n' p' ≠ s.data.toList) := none_scan HG.out (Or.inl hok)
    go_wp2
    exact bodyPost_ret (v := .tuple #[.agg #[.int .i64 0, .int .i64 0, .int .i64 0], .bool false]) (by simp [results, Tryz.results32, go_sem, p0, p1, p2]) rfl
      ⟨Or.inr ⟨HN.out, rfl⟩, ((HB2.out.setCell (Nat.le_refl _) _).setCell (Nat.le_refl _) _).setCell (Nat.le_refl _) _⟩
  | true =>
    go_wp2_with fail
    refine (impl_text k n p w2 T2).mono ?_
    rintro e w3 ⟨rfl, hb4⟩
    obtain ⟨r0, r1, r2, s0, s1, s2⟩ := kept3 hb4 hz3 p0 p1 p2 g0 g1 g2
    have v0 : w3.cell? ⟨w1.heap.size, 0, none⟩ = some (.int .i64 k) := (hb4.cell (p := ⟨w1.heap.size, 0, none⟩) hz2).trans c0
    have v1 : w3.cell? ⟨w1.heap.size, 1, none⟩ = some (.int .i64 n) := (hb4.cell (p := ⟨w1.heap.size, 1, none⟩) hz2).trans c1
    have v2 : w3.cell? ⟨w1.heap.size, 2, none⟩ = some (.int .i64 p) := (hb4.cell (p := ⟨w1.heap.size, 2, none⟩) hz2).trans c2
    have HB3 : Hid (Below w.heap.size w w3) := HB2.out.trans (hb4.mono (by omega))
    clear hb4 p0 p1 p2 g0 g1 g2 c0 c1 c2
    cases hc : (textL k n p == s.toList) with
    | true =>
      have HT : Hid (textL k n p = s.data.toList) := by
        rw [ByteArray.toList_eq] at hc
        exact beq_iff_eq.1 hc
      have HO : Hid (okB k n p = true) := hok
      go_wp2
      exact bodyPost_ret (v := .tuple #[.agg #[.int .i64 k, .int .i64 n, .int .i64 p], .bool true]) (by simp [results, Tryz.results32, go_sem, r0, r1, r2]) rfl
        ⟨Or.inl ⟨k, n, p, HO.out, HT.out, rfl⟩, ((HB3.out.setCell (Nat.le_refl _) _).setCell (Nat.le_refl _) _).setCell (Nat.le_refl _) _⟩
    | false =>
      have HN : Hid (∀ k' n' p' : Int, okB k' n' p' = true → textL k' n' p' ≠ s.data.toList) := none_scan HG.out (Or.inr (by
        rw [ByteArray.toList_eq] at hc
        exact beq_eq_false_iff_ne.1 hc))
      go_wp2
      exact bodyPost_ret (v := .tuple #[.agg #[.int .i64 0, .int .i64 0, .int .i64 0], .bool false]) (by simp [results, Tryz.results32, go_sem, r0, r1, r2]) rfl
        ⟨Or.inr ⟨HN.out, rfl⟩, ((HB3.out.setCell (Nat.le_refl _) _).setCell (Nat.le_refl _) _).setCell (Nat.le_refl _) _⟩

end Go.Proofs.YtdhoimjkgicneacGreatDoor

/- Laws of walks: a region that draws its order and leaves what was there, operation by operation; an operator on two values, given what it gives. -/
namespace Go.Proofs.YtdhoimjkgicneacGreatDoor
open Go Go.RowKit

/-- A region that draws its order, whose operations and callees leave what was there. -/
theorem wp_region_belowM {P : Program} {id : Nat} {Q : Exit → Act → World → Prop} {a : Act} {w : World} {l : List Oper} (hm : P.follows .mixedOrders = true) (hB : Region.lexB .any l.toArray = true)
    (h : wpQuiet P l.toArray (Below w.heap.size w) (fun a' => ∀ w', Below w.heap.size w w' → Q .normal a' w') l a) : (Code.region id l.toArray true).wp P Q a w :=
  wp_region_quiet (C := Below w.heap.size w) hm hB (Below.refl w.heap.size w).drew (by simpa using h)

section
variable {ops : Array Oper} {C : World → Prop} {Q : Act → Prop} {rest : List Oper} {o : Oper} {a : Act}
theorem quiet_any {v : Value} (hg : Region.wanted o (yielded ops a.tmps) = true) (h : ∀ w, C w → (execOp a.eval o).run Tryz.prog w = .ok (.value v) w) (hK : wpQuiet Tryz.prog ops C Q rest (a.put o.dst v)) : wpQuiet Tryz.prog ops C Q (o :: rest) a := by
  rw [wpQuiet, if_pos hg]
  refine ⟨v, fun w hw => ?_, hK⟩
  unfold Oper.quietAt
  rw [h w hw]
  first | exact ⟨rfl, rfl⟩ | exact ⟨rfl, hw⟩ | simp [Oper.quietUpon, hw]
theorem quiet_load {t : TypeId} {p : Operand} {x v : Value} (ho : o.op = .load t p) (hx : a.eval p = x) (hg : Region.wanted o (yielded ops a.tmps) = true) (h : ∀ w, C w → (Instr.loadAt t x).run Tryz.prog w = .ok v w)
    (hK : wpQuiet Tryz.prog ops C Q rest (a.put o.dst v)) : wpQuiet Tryz.prog ops C Q (o :: rest) a := by
  refine quiet_any hg (fun w hw => ?_) hK
  subst hx
  simp only [execOp, ho, Sem.run_bind, h w hw, Result.andThen, Sem.run_pure]
theorem quiet_bin {op : BinOp} {t t2 : TypeId} {x y : Operand} {u1 u2 v : Value} (ho : o.op = .binOp op t x y t2) (hx : a.eval x = u1) (hy : a.eval y = u2) (hg : Region.wanted o (yielded ops a.tmps) = true)
    (h1 : ∀ w, (eqGuard op t x y u1 u2).run Tryz.prog w = .ok () w) (h2 : ∀ w, (binOp op t u1 u2).run Tryz.prog w = .ok v w) (hK : wpQuiet Tryz.prog ops C Q rest (a.put o.dst v)) : wpQuiet Tryz.prog ops C Q (o :: rest) a := by
  refine quiet_any hg (fun w _ => ?_) hK
  subst hx hy
  simp only [execOp, ho, Sem.run_bind, h1 w, h2 w, Result.andThen, Sem.run_pure]
end

theorem list_bin {ops : Array Oper} {Q : Exit → Act → World → Prop} {rest : List Oper} {o : Oper} {a : Act} {w : World} {op : BinOp} {t t2 : TypeId} {x y : Operand} {u1 u2 u : Value}
    (ho : o.op = .binOp op t x y t2) (hx : a.eval x = u1) (hy : a.eval y = u2) (hg : Region.wanted o (yielded ops a.tmps) = true)
    (h1 : (eqGuard op t x y u1 u2).run Tryz.prog w = .ok () w) (h2 : (binOp op t u1 u2).run Tryz.prog w = .ok u w) (hK : wpList Tryz.prog ops Q rest (a.put o.dst u) w) : wpList Tryz.prog ops Q (o :: rest) a w := by
  rw [wpList, if_pos hg]
  subst hx hy
  refine .inl ?_
  have e : (execOp a.eval o).run Tryz.prog w = .ok (.value u) w := by
    simp only [execOp, ho, Sem.run_bind, h1, h2, Result.andThen, Sem.run_pure]
  unfold Oper.wp
  rw [e]
  exact hK

end Go.Proofs.YtdhoimjkgicneacGreatDoor
