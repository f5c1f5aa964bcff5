/- What the program's devScan does at a word, and so at every text; and what its DevRead does. -/
import Derived.Test.YtdhoimjkgicneaaDoorScanA
import Derived.Test.YtdhoimjkgicneaaDoorReadH
import Derived.Test.YtdhoimjkgicneaaDoorDevH
namespace Go.Proofs.YtdhoimjkgicneaaDoor
open Go Go.RowKit

set_option maxRecDepth 100000 in
set_option maxHeartbeats 400000 in
theorem scan_word0 (w : World) (T : Tabs w) :
    Calls Tryd.prog 66 #[.string ⟨#[110, 97, 110]⟩] w fun e w' => e = .returned (.agg #[.int .i64 13, .int .i64 0, .int .i64 0]) ∧ Below w.heap.size w w' := by
  have c0 := past (T.wd 0 (by decide)) T.zw
  have c1 := past (T.wd 1 (by decide)) T.zw
  have c2 := past (T.wd 2 (by decide)) T.zw
  have c3 := past (T.wd 3 (by decide)) T.zw
  rw [show wordL ((0 : Nat) : Int) = [110, 97, 110] by decide] at c0
  rw [show wordL ((1 : Nat) : Int) = [105, 110, 102] by decide] at c1
  rw [show wordL ((2 : Nat) : Int) = [45, 105, 110, 102] by decide] at c2
  rw [show wordL ((3 : Nat) : Int) = [45, 48, 46, 48] by decide] at c3
  have i0 := idx0
  have i1 := idx1
  have i2 := idx2
  have i3 := idx3
  go_enter Tryd.func66, Tryd.ntmps66
  go_wp2
  go_step3
  go_wp2
  go_loopg [11] 4 (fun g i wr => ∃ k : Nat, k + g = 4 ∧ k ≤ 0 ∧ i = .int .i64 k ∧ wr = w.alloc (.cells #[.int .i64 0, .int .i64 0, .int .i64 0] 24))
  case atStart => exact ⟨0, by omega, by omega, rfl, rfl⟩
  case round =>
    obtain ⟨k, hk, hk2, rfl, rfl⟩ := hrel
    have hk4 : k = 0 := by omega
    rcases hk4 with rfl
    · go_wp2
      try rw [Exit.noGoto_ret]
      exact bodyPost_ret (v := .agg #[.int .i64 13, .int .i64 0, .int .i64 0]) (by simp [results, Tryd.results66, go_sem]) rfl ⟨rfl, (Below.refl _ _).alloc (Nat.le_refl _) _⟩

set_option maxRecDepth 100000 in
set_option maxHeartbeats 400000 in
theorem scan_word1 (w : World) (T : Tabs w) :
    Calls Tryd.prog 66 #[.string ⟨#[105, 110, 102]⟩] w fun e w' => e = .returned (.agg #[.int .i64 13, .int .i64 1, .int .i64 0]) ∧ Below w.heap.size w w' := by
  have c0 := past (T.wd 0 (by decide)) T.zw
  have c1 := past (T.wd 1 (by decide)) T.zw
  have c2 := past (T.wd 2 (by decide)) T.zw
  have c3 := past (T.wd 3 (by decide)) T.zw
  rw [show wordL ((0 : Nat) : Int) = [110, 97, 110] by decide] at c0
  rw [show wordL ((1 : Nat) : Int) = [105, 110, 102] by decide] at c1
  rw [show wordL ((2 : Nat) : Int) = [45, 105, 110, 102] by decide] at c2
  rw [show wordL ((3 : Nat) : Int) = [45, 48, 46, 48] by decide] at c3
  have i0 := idx0
  have i1 := idx1
  have i2 := idx2
  have i3 := idx3
  go_enter Tryd.func66, Tryd.ntmps66
  go_wp2
  go_step3
  go_wp2
  go_loopg [11] 4 (fun g i wr => ∃ k : Nat, k + g = 4 ∧ k ≤ 1 ∧ i = .int .i64 k ∧ wr = w.alloc (.cells #[.int .i64 0, .int .i64 0, .int .i64 0] 24))
  case atStart => exact ⟨0, by omega, by omega, rfl, rfl⟩
  case round =>
    obtain ⟨k, hk, hk2, rfl, rfl⟩ := hrel
    have hk4 : k = 0 ∨ k = 1 := by omega
    rcases hk4 with rfl | rfl
    · go_wp2
      go_roundg 3
      case measure => omega
      case rel => exact ⟨1, by omega, by omega, rfl, rfl⟩
    · go_wp2
      try rw [Exit.noGoto_ret]
      exact bodyPost_ret (v := .agg #[.int .i64 13, .int .i64 1, .int .i64 0]) (by simp [results, Tryd.results66, go_sem]) rfl ⟨rfl, (Below.refl _ _).alloc (Nat.le_refl _) _⟩

set_option maxRecDepth 100000 in
set_option maxHeartbeats 400000 in
theorem scan_word2 (w : World) (T : Tabs w) :
    Calls Tryd.prog 66 #[.string ⟨#[45, 105, 110, 102]⟩] w fun e w' => e = .returned (.agg #[.int .i64 13, .int .i64 2, .int .i64 0]) ∧ Below w.heap.size w w' := by
  have c0 := past (T.wd 0 (by decide)) T.zw
  have c1 := past (T.wd 1 (by decide)) T.zw
  have c2 := past (T.wd 2 (by decide)) T.zw
  have c3 := past (T.wd 3 (by decide)) T.zw
  rw [show wordL ((0 : Nat) : Int) = [110, 97, 110] by decide] at c0
  rw [show wordL ((1 : Nat) : Int) = [105, 110, 102] by decide] at c1
  rw [show wordL ((2 : Nat) : Int) = [45, 105, 110, 102] by decide] at c2
  rw [show wordL ((3 : Nat) : Int) = [45, 48, 46, 48] by decide] at c3
  have i0 := idx0
  have i1 := idx1
  have i2 := idx2
  have i3 := idx3
  go_enter Tryd.func66, Tryd.ntmps66
  go_wp2
  go_step3
  go_wp2
  go_loopg [11] 4 (fun g i wr => ∃ k : Nat, k + g = 4 ∧ k ≤ 2 ∧ i = .int .i64 k ∧ wr = w.alloc (.cells #[.int .i64 0, .int .i64 0, .int .i64 0] 24))
  case atStart => exact ⟨0, by omega, by omega, rfl, rfl⟩
  case round =>
    obtain ⟨k, hk, hk2, rfl, rfl⟩ := hrel
    have hk4 : k = 0 ∨ k = 1 ∨ k = 2 := by omega
    rcases hk4 with rfl | rfl | rfl
    · go_wp2
      go_roundg 3
      case measure => omega
      case rel => exact ⟨1, by omega, by omega, rfl, rfl⟩
    · go_wp2
      go_roundg 2
      case measure => omega
      case rel => exact ⟨2, by omega, by omega, rfl, rfl⟩
    · go_wp2
      try rw [Exit.noGoto_ret]
      exact bodyPost_ret (v := .agg #[.int .i64 13, .int .i64 2, .int .i64 0]) (by simp [results, Tryd.results66, go_sem]) rfl ⟨rfl, (Below.refl _ _).alloc (Nat.le_refl _) _⟩

set_option maxRecDepth 100000 in
set_option maxHeartbeats 400000 in
theorem scan_word3 (w : World) (T : Tabs w) :
    Calls Tryd.prog 66 #[.string ⟨#[45, 48, 46, 48]⟩] w fun e w' => e = .returned (.agg #[.int .i64 13, .int .i64 3, .int .i64 0]) ∧ Below w.heap.size w w' := by
  have c0 := past (T.wd 0 (by decide)) T.zw
  have c1 := past (T.wd 1 (by decide)) T.zw
  have c2 := past (T.wd 2 (by decide)) T.zw
  have c3 := past (T.wd 3 (by decide)) T.zw
  rw [show wordL ((0 : Nat) : Int) = [110, 97, 110] by decide] at c0
  rw [show wordL ((1 : Nat) : Int) = [105, 110, 102] by decide] at c1
  rw [show wordL ((2 : Nat) : Int) = [45, 105, 110, 102] by decide] at c2
  rw [show wordL ((3 : Nat) : Int) = [45, 48, 46, 48] by decide] at c3
  have i0 := idx0
  have i1 := idx1
  have i2 := idx2
  have i3 := idx3
  go_enter Tryd.func66, Tryd.ntmps66
  go_wp2
  go_step3
  go_wp2
  go_loopg [11] 4 (fun g i wr => ∃ k : Nat, k + g = 4 ∧ k ≤ 3 ∧ i = .int .i64 k ∧ wr = w.alloc (.cells #[.int .i64 0, .int .i64 0, .int .i64 0] 24))
  case atStart => exact ⟨0, by omega, by omega, rfl, rfl⟩
  case round =>
    obtain ⟨k, hk, hk2, rfl, rfl⟩ := hrel
    have hk4 : k = 0 ∨ k = 1 ∨ k = 2 ∨ k = 3 := by omega
    rcases hk4 with rfl | rfl | rfl | rfl
    · go_wp2
      go_roundg 3
      case measure => omega
      case rel => exact ⟨1, by omega, by omega, rfl, rfl⟩
    · go_wp2
      go_roundg 2
      case measure => omega
      case rel => exact ⟨2, by omega, by omega, rfl, rfl⟩
    · go_wp2
      go_roundg 1
      case measure => omega
      case rel => exact ⟨3, by omega, by omega, rfl, rfl⟩
    · go_wp2
      try rw [Exit.noGoto_ret]
      exact bodyPost_ret (v := .agg #[.int .i64 13, .int .i64 3, .int .i64 0]) (by simp [results, Tryd.results66, go_sem]) rfl ⟨rfl, (Below.refl _ _).alloc (Nat.le_refl _) _⟩

theorem beq_word' (s : ByteArray) (l : List UInt8) (h : s.data.toList ≠ l) : (l == s.toList) = false := by
  rw [ByteArray.toList_eq, beq_eq_false_iff_ne]; exact fun e => h e.symm

theorem scan_all (s : ByteArray) (w : World) (T : Tabs w) (hs : s.size ≤ 1000) :
    Calls Tryd.prog 66 #[.string s] w fun e w' => ∃ k n p : Int, e = .returned (.agg #[.int .i64 k, .int .i64 n, .int .i64 p]) ∧ scanP s.data.toList = (k, n, p) ∧ Below w.heap.size w w' := by
  by_cases h0 : s.data.toList = wordL 0
  · rw [str_lit h0]
    exact (scan_word0 w T).mono fun e w' ⟨he, hb⟩ => ⟨13, 0, 0, he, by decide, hb⟩
  by_cases h1 : s.data.toList = wordL 1
  · rw [str_lit h1]
    exact (scan_word1 w T).mono fun e w' ⟨he, hb⟩ => ⟨13, 1, 0, he, by decide, hb⟩
  by_cases h2 : s.data.toList = wordL 2
  · rw [str_lit h2]
    exact (scan_word2 w T).mono fun e w' ⟨he, hb⟩ => ⟨13, 2, 0, he, by decide, hb⟩
  by_cases h3 : s.data.toList = wordL 3
  · rw [str_lit h3]
    exact (scan_word3 w T).mono fun e w' ⟨he, hb⟩ => ⟨13, 3, 0, he, by decide, hb⟩
  exact scan_num s w T hs (beq_word' s _ (by intro e; exact h0 (e.trans (by decide)))) (beq_word' s _ (by intro e; exact h1 (e.trans (by decide)))) (beq_word' s _ (by intro e; exact h2 (e.trans (by decide)))) (beq_word' s _ (by intro e; exact h3 (e.trans (by decide))))

set_option maxRecDepth 100000 in
set_option maxHeartbeats 800000 in
theorem impl_read (s : ByteArray) (w : World) (T : Tabs w) (hs : s.size ≤ 1000) :
    Calls Tryd.prog 16 #[.string s] w fun e w' => Reads s.data.toList e ∧ Below w.heap.size w w' := by
  go_enter Tryd.func16, Tryd.ntmps16
  go_wp2_with fail
  refine (scan_all s _ (T.alloc _) hs).mono ?_
  rintro e w1 ⟨k, n, p, rfl, hg, hb⟩
  obtain ⟨q0, q1, q2, f0, f1, f2, hz, hb1⟩ := box3b hb
  have HG : Hid (scanP s.data.toList = (k, n, p)) := hg
  have HB : Hid (Below w.heap.size w w1) := hb1
  have T1 : Tabs w1 := T.below hb1 (Nat.le_refl _)
  clear hg hb hb1
  go_wp2_with fail
  refine (impl_ok k n p _ (T1.alloc _)).mono ?_
  rintro e w2 ⟨rfl, hb2⟩
  obtain ⟨c0, c1, c2, hz2, hb3⟩ := box3 hb2
  obtain ⟨p0, p1, p2, g0, g1, g2⟩ := kept3 hb3 hz q0 q1 q2 f0 f1 f2
  have T2 : Tabs w2 := T1.below hb3 (Nat.le_refl _)
  have HB2 : Hid (Below w.heap.size w w2) := HB.out.trans (hb3.mono (by omega))
  have hz3 : w.heap.size < w2.heap.size := by omega
  clear hb2 hb3 q0 q1 q2 f0 f1 f2 T1
  cases hok : okB k n p with
  | false =>
    have HN : Hid (∀ k' n' p' : Int, okB k' n' p' = true → textL k' n' p' ≠ s.data.toList) := none_scan HG.out (Or.inl hok)
    go_wp2
    exact bodyPost_ret (v := .tuple #[.agg #[.int .i64 0, .int .i64 0, .int .i64 0], .bool false]) (by simp [results, Tryd.results16, go_sem, p0, p1, p2]) rfl
      ⟨Or.inr ⟨HN.out, rfl⟩, ((HB2.out.setCell (Nat.le_refl _) _).setCell (Nat.le_refl _) _).setCell (Nat.le_refl _) _⟩
  | true =>
    go_wp2_with fail
    refine (impl_text k n p w2 T2).mono ?_
    rintro e w3 ⟨rfl, hb4⟩
    obtain ⟨r0, r1, r2, s0, s1, s2⟩ := kept3 hb4 hz3 p0 p1 p2 g0 g1 g2
    have v0 : w3.cell? ⟨w1.heap.size, 0, none⟩ = some (.int .i64 k) := (hb4.cell (p := ⟨w1.heap.size, 0, none⟩) hz2).trans c0
    have v1 : w3.cell? ⟨w1.heap.size, 1, none⟩ = some (.int .i64 n) := (hb4.cell (p := ⟨w1.heap.size, 1, none⟩) hz2).trans c1
    have v2 : w3.cell? ⟨w1.heap.size, 2, none⟩ = some (.int .i64 p) := (hb4.cell (p := ⟨w1.heap.size, 2, none⟩) hz2).trans c2
    have HB3 : Hid (Below w.heap.size w w3) := HB2.out.trans (hb4.mono (by omega))
    clear hb4 p0 p1 p2 g0 g1 g2 c0 c1 c2
    cases hc : (textL k n p == s.toList) with
    | true =>
      have HT : Hid (textL k n p = s.data.toList) := by
        rw [ByteArray.toList_eq] at hc
        exact beq_iff_eq.1 hc
      have HO : Hid (okB k n p = true) := hok
      go_wp2
      exact bodyPost_ret (v := .tuple #[.agg #[.int .i64 k, .int .i64 n, .int .i64 p], .bool true]) (by simp [results, Tryd.results16, go_sem, r0, r1, r2]) rfl
        ⟨Or.inl ⟨k, n, p, HO.out, HT.out, rfl⟩, ((HB3.out.setCell (Nat.le_refl _) _).setCell (Nat.le_refl _) _).setCell (Nat.le_refl _) _⟩
    | false =>
      have HN : Hid (∀ k' n' p' : Int, okB k' n' p' = true → textL k' n' p' ≠ s.data.toList) := none_scan HG.out (Or.inr (by
        rw [ByteArray.toList_eq] at hc
        exact beq_eq_false_iff_ne.1 hc))
      go_wp2
      exact bodyPost_ret (v := .tuple #[.agg #[.int .i64 0, .int .i64 0, .int .i64 0], .bool false]) (by simp [results, Tryd.results16, go_sem, r0, r1, r2]) rfl
        ⟨Or.inr ⟨HN.out, rfl⟩, ((HB3.out.setCell (Nat.le_refl _) _).setCell (Nat.le_refl _) _).setCell (Nat.le_refl _) _⟩

end Go.Proofs.YtdhoimjkgicneaaDoor
