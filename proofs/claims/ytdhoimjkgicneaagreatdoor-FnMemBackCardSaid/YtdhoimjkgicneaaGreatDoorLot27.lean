/- Texts of this proof laid together: DevG, DevH, ScanB. -/
import Derived.Test.YtdhoimjkgicneaaGreatDoorLot24
import Derived.Test.YtdhoimjkgicneaaGreatDoorLot16
import Derived.Deep.RegionWith
import Derived.Test.YtdhoimjkgicneaaGreatDoorLot26
/- What the program writes of a decimal number. -/
namespace Go.Proofs.YtdhoimjkgicneaaGreatDoor
open Go Go.RowKit

theorem point_eqS (s L : List UInt8) (p : Nat) : (⟨s.toArray⟩ : ByteArray) ++ (⟨L.toArray⟩ : ByteArray).extract 0 (L.length - p) ++ ⟨#[46]⟩ ++ (⟨L.toArray⟩ : ByteArray).extract (L.length - p) L.length = ⟨(s ++ pointL L p).toArray⟩ := by
  rw [ext_take, ext_take, show (⟨#[46]⟩ : ByteArray) = ⟨([46] : List UInt8).toArray⟩ from rfl, str_cat, str_cat, str_cat]
  simp [pointL]

theorem grow_below (w : World) (k : Nat) (os : Array Obj) : Below w.heap.size w (Sort.grow (w.drewN k) os) :=
  ⟨rfl, rfl, rfl, by show w.heap.size ≤ (w.heap ++ os).size; simp, fun i hi => by show (w.heap ++ os)[i]? = w.heap[i]?; rw [Array.getElem?_append_left hi]⟩

theorem impl_itoa (n : Int) (w : World) (h1 : -9223372036854775807 ≤ n) (h2 : n ≤ 9223372036854775807) (T : Tabs w) :
    Calls Tryz.prog 34 #[.int .i64 n] w fun e w' => e = .returned (.string ⟨(Lib.itoa n).toArray⟩) ∧ Below w.heap.size w w' :=
  (Tryz.strconv_Itoa n (by omega) (by omega) w T.tab).mono fun e w' ⟨he, k, os, hw⟩ => ⟨he, by rw [hw]; exact grow_below w k os⟩

theorem impl_itoaN (n : Nat) (w : World) (h2 : n ≤ 9223372036854775807) (T : Tabs w) :
    Calls Tryz.prog 34 #[.int .i64 n] w fun e w' => e = .returned (.string ⟨(Lib.decDigits n).toArray⟩) ∧ Below w.heap.size w w' := by
  have := impl_itoa n w (by omega) (by omega) T
  rwa [Lib.itoa_nonneg] at this

theorem repeatL_eq (c : Nat) : Lib.repeatL [48] c = List.replicate c 48 := by
  induction c with
  | zero => rfl
  | succ c ih => simp [Lib.repeatL, ih, List.replicate_succ]

theorem impl_zeros (c : Nat) (w : World) (h : c ≤ 100) :
    Calls Tryz.prog 101 #[.string ⟨#[48]⟩, .int .i64 c] w fun e w' => e = .returned (.string ⟨(List.replicate c 48).toArray⟩) ∧ Below w.heap.size w w' := by
  have := Tryz.strings_Repeat ⟨#[48]⟩ c w (by omega) (by show 1 * c ≤ _; omega)
  rwa [show (⟨#[48]⟩ : ByteArray).data.toList = [48] from rfl, repeatL_eq] at this

set_option maxHeartbeats 400000 in
theorem impl_dec0 (m p : Nat) (w : World) (hm : m ≤ 999999999) (hp : p ≤ 6) (T : Tabs w) :
    Calls Tryz.prog 67 #[.int .i64 m, .int .i64 p] w fun e w' => e = .returned (.string ⟨(decM m p).toArray⟩) ∧ Below w.heap.size w w' := by
  have hl : (Lib.decDigits m).length ≤ 19 := dd_len19 (by omega)
  go_enter Tryz.func67, Tryz.ntmps67
  go_wp2_with fail
  refine (impl_itoaN m w (by omega) T).mono ?_
  rintro e w1 ⟨rfl, hb⟩
  have HB : Hid (Below w.heap.size w w1) := hb
  have HZ : Hid (w.heap.size ≤ w1.heap.size) := hb.size
  clear hb
  by_cases hlt : (Lib.decDigits m).length ≤ p
  · go_wp2_with fail
    rw [show ((p : Int) + 1 - ((Lib.decDigits m).length : Int)) = ((p + 1 - (Lib.decDigits m).length : Nat) : Int) from by omega]
    refine (impl_zeros (p + 1 - (Lib.decDigits m).length) w1 (by omega)).mono ?_
    rintro e w2 ⟨rfl, hb⟩
    have HB2 : Hid (Below w.heap.size w w2) := HB.out.trans (hb.mono HZ.out)
    clear hb HB
    go_wp2
    rw [show (⟨Array.replicate (p + 1 - (Lib.decDigits m).length) 48⟩ : ByteArray) ++ ⟨(Lib.decDigits m).toArray⟩ = ⟨(padL (Lib.decDigits m) p).toArray⟩ from by
        rw [← List.toArray_replicate, str_cat]; rfl]
    rw [show (((p + 1 - (Lib.decDigits m).length : Nat) : Int) + ((Lib.decDigits m).length : Int) - (p : Int)) = (((padL (Lib.decDigits m) p).length : Nat) : Int) - (p : Int) from by
        rw [padL]; simp]
    have l1 : p < (padL (Lib.decDigits m) p).length := by rw [padL]; simp; omega
    have l2 : (padL (Lib.decDigits m) p).length ≤ 40 := by rw [padL]; simp; omega
    have HL : Hid (decM m p = pointL (padL (Lib.decDigits m) p) p) := rfl
    generalize padL (Lib.decDigits m) p = L at *
    go_quiet (fail)
    go_wp2
    go_ret
    refine ⟨ret_str ?_, below_drewN HB2.out _⟩
    rw [HL.out]
    exact point_eqS [] L p
  · go_wp2_with fail
    have l1 : p < (Lib.decDigits m).length := by omega
    have HL : Hid (decM m p = pointL (Lib.decDigits m) p) := by
      show decM m p = _
      rw [decM, padL, show p + 1 - (Lib.decDigits m).length = 0 from by omega]; rfl
    generalize Lib.decDigits m = L at *
    go_quiet (fail)
    go_wp2
    go_ret
    refine ⟨ret_str ?_, below_drewN HB.out _⟩
    rw [HL.out]
    exact point_eqS [] L p

set_option maxHeartbeats 400000 in
theorem impl_dec1 (m p : Nat) (w : World) (h0 : 0 < m) (hm : m ≤ 999999999) (hp : p ≤ 6) (T : Tabs w) :
    Calls Tryz.prog 67 #[.int .i64 (-(m : Int)), .int .i64 p] w fun e w' => e = .returned (.string ⟨(45 :: decM m p).toArray⟩) ∧ Below w.heap.size w w' := by
  have hl : (Lib.decDigits m).length ≤ 19 := dd_len19 (by omega)
  go_enter Tryz.func67, Tryz.ntmps67
  go_wp2_with fail
  refine (impl_itoaN m w (by omega) T).mono ?_
  rintro e w1 ⟨rfl, hb⟩
  have HB : Hid (Below w.heap.size w w1) := hb
  have HZ : Hid (w.heap.size ≤ w1.heap.size) := hb.size
  clear hb
  by_cases hlt : (Lib.decDigits m).length ≤ p
  · go_wp2_with fail
    rw [show ((p : Int) + 1 - ((Lib.decDigits m).length : Int)) = ((p + 1 - (Lib.decDigits m).length : Nat) : Int) from by omega]
    refine (impl_zeros (p + 1 - (Lib.decDigits m).length) w1 (by omega)).mono ?_
    rintro e w2 ⟨rfl, hb⟩
    have HB2 : Hid (Below w.heap.size w w2) := HB.out.trans (hb.mono HZ.out)
    clear hb HB
    go_wp2
    rw [show (⟨Array.replicate (p + 1 - (Lib.decDigits m).length) 48⟩ : ByteArray) ++ ⟨(Lib.decDigits m).toArray⟩ = ⟨(padL (Lib.decDigits m) p).toArray⟩ from by
        rw [← List.toArray_replicate, str_cat]; rfl]
    rw [show (((p + 1 - (Lib.decDigits m).length : Nat) : Int) + ((Lib.decDigits m).length : Int) - (p : Int)) = (((padL (Lib.decDigits m) p).length : Nat) : Int) - (p : Int) from by
        rw [padL]; simp]
    have l1 : p < (padL (Lib.decDigits m) p).length := by rw [padL]; simp; omega
    have l2 : (padL (Lib.decDigits m) p).length ≤ 40 := by rw [padL]; simp; omega
    have HL : Hid (45 :: decM m p = 45 :: pointL (padL (Lib.decDigits m) p) p) := rfl
    generalize padL (Lib.decDigits m) p = L at *
    go_quiet (fail)
    go_wp2
    go_ret
    refine ⟨ret_str ?_, below_drewN HB2.out _⟩
    rw [HL.out]
    exact point_eqS [45] L p
  · go_wp2_with fail
    have l1 : p < (Lib.decDigits m).length := by omega
    have HL : Hid (45 :: decM m p = 45 :: pointL (Lib.decDigits m) p) := by
      show 45 :: decM m p = _
      rw [decM, padL, show p + 1 - (Lib.decDigits m).length = 0 from by omega]; rfl
    generalize Lib.decDigits m = L at *
    go_quiet (fail)
    go_wp2
    go_ret
    refine ⟨ret_str ?_, below_drewN HB.out _⟩
    rw [HL.out]
    exact point_eqS [45] L p

theorem impl_dec (n : Int) (p : Nat) (w : World) (h1 : -999999999 ≤ n) (h2 : n ≤ 999999999) (hp : p ≤ 6) (T : Tabs w) :
    Calls Tryz.prog 67 #[.int .i64 n, .int .i64 p] w fun e w' => e = .returned (.string ⟨(decT n p).toArray⟩) ∧ Below w.heap.size w w' := by
  by_cases h0 : 0 ≤ n
  · obtain ⟨m, rfl⟩ : ∃ m : Nat, n = m := ⟨n.toNat, by omega⟩
    have e : decT (m : Int) p = decM m p := by unfold decT; rw [if_neg (by omega)]; simp
    rw [e]
    exact impl_dec0 m p w (by omega) hp T
  · obtain ⟨m, rfl⟩ : ∃ m : Nat, n = -(m : Int) := ⟨n.natAbs, by omega⟩
    have e : decT (-(m : Int)) p = 45 :: decM m p := by unfold decT; rw [if_pos (by omega)]; simp
    rw [e]
    exact impl_dec1 m p w (by omega) (by omega) hp T

end Go.Proofs.YtdhoimjkgicneaaGreatDoor

/- What the program's DevText does. -/
namespace Go.Proofs.YtdhoimjkgicneaaGreatDoor
open Go Go.RowKit

theorem later {W w1 w2 : World} {a : Addr} {v : Value} (hb : Below W.heap.size W w2) (hW : W.heap = w1.heap) (h : w1.cell? a = some v) (hz : a.block < w1.heap.size) (T : Tabs w1) :
    w2.cell? a = some v ∧ Tabs w2 ∧ w1.heap.size ≤ w2.heap.size := by
  have hs := hb.size
  have hb1 : ∀ k, k < w1.heap.size → w2.heap[k]? = w1.heap[k]? := fun k hk => by rw [hb.block k (by rw [hW]; exact hk), hW]
  refine ⟨?_, ?_, by rw [hW] at hs; exact hs⟩
  · rw [← h]; exact World.cell?_of_block (hb1 _ hz)
  · exact T.of_blocks hb1 (by rw [hW] at hs; exact hs)

set_option maxHeartbeats 400000 in
theorem impl_text_no (k n p : Int) (w : World) (T : Tabs w) (hk : okB k n p = false) :
    Calls Tryz.prog 31 #[.agg #[.int .i64 k, .int .i64 n, .int .i64 p]] w fun e w' => e = .returned (.string ⟨(textL k n p).toArray⟩) ∧ Below w.heap.size w w' := by
  rw [text_no hk]
  go_enter Tryz.func31, Tryz.ntmps31
  go_wp2_with (go_at_call 66; refine (impl_ok k n p _ (T.alloc _)).mono ?_; rintro e w1 ⟨rfl, hb⟩)
  go_ret
  exact ⟨rfl, (box3 hb).2.2.2.2⟩

set_option maxHeartbeats 400000 in
theorem impl_text_int (n p : Int) (w : World) (T : Tabs w) (hk : okB 11 n p = true) :
    Calls Tryz.prog 31 #[.agg #[.int .i64 11, .int .i64 n, .int .i64 p]] w fun e w' => e = .returned (.string ⟨(textL 11 n p).toArray⟩) ∧ Below w.heap.size w w' := by
  rw [text_int hk]
  have hn : -32768 ≤ n ∧ n ≤ 32767 ∧ p = 0 := by simpa [okB] using hk
  obtain ⟨n1, n2, -⟩ := hn
  go_enter Tryz.func31, Tryz.ntmps31
  go_wp2_with fail
  refine (impl_ok 11 n p _ (T.alloc _)).mono ?_
  rintro e w1 ⟨rfl, hb⟩
  obtain ⟨c0, c1, c2, hz, hb1⟩ := box3 hb
  have HB : Hid (Below w.heap.size w w1) := hb1
  have T1 : Tabs w1 := T.below hb1 (Nat.le_refl _)
  clear hb hb1
  go_wp2_with (go_at_call 34; refine (impl_itoa n _ (by omega) (by omega) T1).mono ?_; rintro e w2 ⟨rfl, hb⟩)
  go_ret
  exact ⟨rfl, HB.out.trans (hb.mono (by omega))⟩

set_option maxHeartbeats 400000 in
theorem impl_text_dec (n p : Int) (w : World) (T : Tabs w) (hk : okB 12 n p = true) :
    Calls Tryz.prog 31 #[.agg #[.int .i64 12, .int .i64 n, .int .i64 p]] w fun e w' => e = .returned (.string ⟨(textL 12 n p).toArray⟩) ∧ Below w.heap.size w w' := by
  rw [text_dec hk]
  have hn : -999999999 ≤ n ∧ n ≤ 999999999 ∧ 1 ≤ p ∧ p ≤ 6 ∧ (p = 1 ∨ n.tmod 10 ≠ 0) := by unfold okB at hk; rw [if_neg (by decide), if_pos rfl] at hk; exact of_decide_eq_true hk
  obtain ⟨q, rfl⟩ : ∃ q : Nat, p = q := ⟨p.toNat, by omega⟩
  rw [show (q : Int).toNat = q from rfl]
  obtain ⟨n1, n2, n3, n4, -⟩ := hn
  go_enter Tryz.func31, Tryz.ntmps31
  go_wp2_with fail
  refine (impl_ok 12 n q _ (T.alloc _)).mono ?_
  rintro e w1 ⟨rfl, hb⟩
  obtain ⟨c0, c1, c2, hz, hb1⟩ := box3 hb
  have HB : Hid (Below w.heap.size w w1) := hb1
  have T1 : Tabs w1 := T.below hb1 (Nat.le_refl _)
  clear hb hb1
  go_wp2_with (go_at_call 67; refine (impl_dec n q _ (by omega) (by omega) (by omega) T1).mono ?_; rintro e w2 ⟨rfl, hb⟩)
  go_ret
  exact ⟨rfl, HB.out.trans (hb.mono (by omega))⟩

set_option maxHeartbeats 400000 in
theorem impl_text_word (n p : Int) (w : World) (T : Tabs w) (hk : okB 13 n p = true) :
    Calls Tryz.prog 31 #[.agg #[.int .i64 13, .int .i64 n, .int .i64 p]] w fun e w' => e = .returned (.string ⟨(textL 13 n p).toArray⟩) ∧ Below w.heap.size w w' := by
  rw [text_word hk]
  have hn : 0 ≤ n ∧ n ≤ 3 ∧ p = 0 := by simpa [okB] using hk
  obtain ⟨h0, h3, -⟩ := hn
  have h4 : n = 0 ∨ n = 1 ∨ n = 2 ∨ n = 3 := by omega
  clear h0 h3
  rcases h4 with rfl | rfl | rfl | rfl
  all_goals
    go_enter Tryz.func31, Tryz.ntmps31
    go_wp2_with fail
    refine (impl_ok 13 _ p _ (T.alloc _)).mono ?_
    rintro e w1 ⟨rfl, hb⟩
    obtain ⟨c0, c1, c2, hz, hb1⟩ := box3 hb
    have HB : Hid (Below w.heap.size w w1) := hb1
    have T1 : Tabs w1 := T.below hb1 (Nat.le_refl _)
    clear hb hb1
    have cw0 := T1.wd 0 (by decide)
    have cw1 := T1.wd 1 (by decide)
    have cw2 := T1.wd 2 (by decide)
    have cw3 := T1.wd 3 (by decide)
    clear T T1
    go_wp2
    go_ret
    exact ⟨rfl, HB.out⟩

set_option maxHeartbeats 400000 in
theorem impl_text_dev (k n p : Int) (w : World) (T : Tabs w) (hk : okB k n p = true) (hK : k < 11 ∨ 13 < k) :
    Calls Tryz.prog 31 #[.agg #[.int .i64 k, .int .i64 n, .int .i64 p]] w fun e w' => e = .returned (.string ⟨(textL k n p).toArray⟩) ∧ Below w.heap.size w w' := by
  rw [text_dev hk hK]
  have hn : 0 ≤ n ∧ n < sizeZ k := by
    unfold okB at hk; rw [if_neg (by omega), if_neg (by omega), if_neg (by omega)] at hk
    have := of_decide_eq_true hk; omega
  have hz := sizeZ_bd k
  have b1 : (k == 11) = false := by simp; omega
  have b2 : (k == 12) = false := by simp; omega
  have b3 : (k == 13) = false := by simp; omega
  have n1 : 0 ≤ n := hn.1
  have n2 : n ≤ 64 := by omega
  have l1 := letterL_len k
  have l2 := itoa_len (n := n) (by omega) (by omega)
  clear hn hz hK
  go_enter Tryz.func31, Tryz.ntmps31
  go_wp2_with fail
  refine (impl_ok k n p _ (T.alloc _)).mono ?_
  rintro e w1 ⟨rfl, hb⟩
  obtain ⟨c0, c1, c2, hz, hb1⟩ := box3 hb
  have HB : Hid (Below w.heap.size w w1) := hb1
  have T1 : Tabs w1 := T.below hb1 (Nat.le_refl _)
  clear hb hb1
  go_wp2
  go_region_with (first
    | (go_at_call 68; refine (impl_letter k _ ?_).mono ?_; (first | exact T1 | exact T1.drew); rintro e w2 ⟨rfl, hb⟩; obtain ⟨d1, T2, dz⟩ := later (w1 := w1) hb rfl c1 hz T1)
    | (go_at_call 34; refine (impl_itoa n _ (by omega) (by omega) ?_).mono ?_; (first | exact T2 | exact T2.drew); rintro e w3 ⟨rfl, hb3⟩))
  all_goals
    go_wp2
    go_ret
    exact ⟨ret_str (str_cat _ _), (HB.out.drew.trans (hb.mono (by show _ ≤ w1.heap.size; omega))).trans (hb3.mono (by omega))⟩

theorem impl_text (k n p : Int) (w : World) (T : Tabs w) :
    Calls Tryz.prog 31 #[.agg #[.int .i64 k, .int .i64 n, .int .i64 p]] w fun e w' => e = .returned (.string ⟨(textL k n p).toArray⟩) ∧ Below w.heap.size w w' := by
  cases hk : okB k n p with
  | false => exact impl_text_no k n p w T hk
  | true =>
    by_cases h1 : k = 11
    · subst h1; exact impl_text_int n p w T hk
    by_cases h2 : k = 12
    · subst h2; exact impl_text_dec n p w T hk
    by_cases h3 : k = 13
    · subst h3; exact impl_text_word n p w T hk
    exact impl_text_dev k n p w T hk (by omega)

end Go.Proofs.YtdhoimjkgicneaaGreatDoor

/- What the program's devScan does at a word, and so at every text; and what its DevRead does. -/
namespace Go.Proofs.YtdhoimjkgicneaaGreatDoor
open Go Go.RowKit

set_option maxRecDepth 100000 in
set_option maxHeartbeats 400000 in
theorem scan_word0 (w : World) (T : Tabs w) :
    Calls Tryz.prog 84 #[.string ⟨#[110, 97, 110]⟩] w fun e w' => e = .returned (.agg #[.int .i64 13, .int .i64 0, .int .i64 0]) ∧ Below w.heap.size w w' := by
  have c0 := past (T.wd 0 (by decide)) T.zw
  have c1 := past (T.wd 1 (by decide)) T.zw
  have c2 := past (T.wd 2 (by decide)) T.zw
  have c3 := past (T.wd 3 (by decide)) T.zw
  rw [show wordL ((0 : Nat) : Int) = [110, 97, 110] by decide] at c0
  rw [show wordL ((1 : Nat) : Int) = [105, 110, 102] by decide] at c1
  rw [show wordL ((2 : Nat) : Int) = [45, 105, 110, 102] by decide] at c2
  rw [show wordL ((3 : Nat) : Int) = [45, 48, 46, 48] by decide] at c3
  have i0 := idx0
  have i1 := idx1
  have i2 := idx2
  have i3 := idx3
  go_enter Tryz.func84, Tryz.ntmps84
  go_wp2
  go_step3
  go_wp2
  go_loopg [11] 4 (fun g i wr => ∃ k : Nat, k + g = 4 ∧ k ≤ 0 ∧ i = .int .i64 k ∧ wr = w.alloc (.cells #[.int .i64 0, .int .i64 0, .int .i64 0] 66))
  case atStart => exact ⟨0, by omega, by omega, rfl, rfl⟩
  case round =>
    obtain ⟨k, hk, hk2, rfl, rfl⟩ := hrel
    have hk4 : k = 0 := by omega
    rcases hk4 with rfl
    · go_wp2
      try rw [Exit.noGoto_ret]
      exact bodyPost_ret (v := .agg #[.int .i64 13, .int .i64 0, .int .i64 0]) (by simp [results, Tryz.results84, go_sem]) rfl ⟨rfl, (Below.refl _ _).alloc (Nat.le_refl _) _⟩

set_option maxRecDepth 100000 in
set_option maxHeartbeats 400000 in
theorem scan_word1 (w : World) (T : Tabs w) :
    Calls Tryz.prog 84 #[.string ⟨#[105, 110, 102]⟩] w fun e w' => e = .returned (.agg #[.int .i64 13, .int .i64 1, .int .i64 0]) ∧ Below w.heap.size w w' := by
  have c0 := past (T.wd 0 (by decide)) T.zw
  have c1 := past (T.wd 1 (by decide)) T.zw
  have c2 := past (T.wd 2 (by decide)) T.zw
  have c3 := past (T.wd 3 (by decide)) T.zw
  rw [show wordL ((0 : Nat) : Int) = [110, 97, 110] by decide] at c0
  rw [show wordL ((1 : Nat) : Int) = [105, 110, 102] by decide] at c1
  rw [show wordL ((2 : Nat) : Int) = [45, 105, 110, 102] by decide] at c2
  rw [show wordL ((3 : Nat) : Int) = [45, 48, 46, 48] by decide] at c3
  have i0 := idx0
  have i1 := idx1
  have i2 := idx2
  have i3 := idx3
  go_enter Tryz.func84, Tryz.ntmps84
  go_wp2
  go_step3
  go_wp2
  go_loopg [11] 4 (fun g i wr => ∃ k : Nat, k + g = 4 ∧ k ≤ 1 ∧ i = .int .i64 k ∧ wr = w.alloc (.cells #[.int .i64 0, .int .i64 0, .int .i64 0] 66))
  case atStart => exact ⟨0, by omega, by omega, rfl, rfl⟩
  case round =>
    obtain ⟨k, hk, hk2, rfl, rfl⟩ := hrel
    have hk4 : k = 0 ∨ k = 1 := by omega
    rcases hk4 with rfl | rfl
    · go_wp2
      go_roundg 3
      case measure => omega
      case rel => exact ⟨1, by omega, by omega, rfl, rfl⟩
    · go_wp2
      try rw [Exit.noGoto_ret]
      exact bodyPost_ret (v := .agg #[.int .i64 13, .int .i64 1, .int .i64 0]) (by simp [results, Tryz.results84, go_sem]) rfl ⟨rfl, (Below.refl _ _).alloc (Nat.le_refl _) _⟩

set_option maxRecDepth 100000 in
set_option maxHeartbeats 400000 in
theorem scan_word2 (w : World) (T : Tabs w) :
    Calls Tryz.prog 84 #[.string ⟨#[45, 105, 110, 102]⟩] w fun e w' => e = .returned (.agg #[.int .i64 13, .int .i64 2, .int .i64 0]) ∧ Below w.heap.size w w' := by
  have c0 := past (T.wd 0 (by decide)) T.zw
  have c1 := past (T.wd 1 (by decide)) T.zw
  have c2 := past (T.wd 2 (by decide)) T.zw
  have c3 := past (T.wd 3 (by decide)) T.zw
  rw [show wordL ((0 : Nat) : Int) = [110, 97, 110] by decide] at c0
  rw [show wordL ((1 : Nat) : Int) = [105, 110, 102] by decide] at c1
  rw [show wordL ((2 : Nat) : Int) = [45, 105, 110, 102] by decide] at c2
  rw [show wordL ((3 : Nat) : Int) = [45, 48, 46, 48] by decide] at c3
  have i0 := idx0
  have i1 := idx1
  have i2 := idx2
  have i3 := idx3
  go_enter Tryz.func84, Tryz.ntmps84
  go_wp2
  go_step3
  go_wp2
  go_loopg [11] 4 (fun g i wr => ∃ k : Nat, k + g = 4 ∧ k ≤ 2 ∧ i = .int .i64 k ∧ wr = w.alloc (.cells #[.int .i64 0, .int .i64 0, .int .i64 0] 66))
  case atStart => exact ⟨0, by omega, by omega, rfl, rfl⟩
  case round =>
    obtain ⟨k, hk, hk2, rfl, rfl⟩ := hrel
    have hk4 : k = 0 ∨ k = 1 ∨ k = 2 := by omega
    rcases hk4 with rfl | rfl | rfl
    · go_wp2
      go_roundg 3
      case measure => omega
      case rel => exact ⟨1, by omega, by omega, rfl, rfl⟩
    · go_wp2
      go_roundg 2
      case measure => omega
      case rel => exact ⟨2, by omega, by omega, rfl, rfl⟩
    · go_wp2
      try rw [Exit.noGoto_ret]
      exact bodyPost_ret (v := .agg #[.int .i64 13, .int .i64 2, .int .i64 0]) (by simp [results, Tryz.results84, go_sem]) rfl ⟨rfl, (Below.refl _ _).alloc (Nat.le_refl _) _⟩

set_option maxRecDepth 100000 in
set_option maxHeartbeats 400000 in
theorem scan_word3 (w : World) (T : Tabs w) :
    Calls Tryz.prog 84 #[.string ⟨#[45, 48, 46, 48]⟩] w fun e w' => e = .returned (.agg #[.int .i64 13, .int .i64 3, .int .i64 0]) ∧ Below w.heap.size w w' := by
  have c0 := past (T.wd 0 (by decide)) T.zw
  have c1 := past (T.wd 1 (by decide)) T.zw
  have c2 := past (T.wd 2 (by decide)) T.zw
  have c3 := past (T.wd 3 (by decide)) T.zw
  rw [show wordL ((0 : Nat) : Int) = [110, 97, 110] by decide] at c0
  rw [show wordL ((1 : Nat) : Int) = [105, 110, 102] by decide] at c1
  rw [show wordL ((2 : Nat) : Int) = [45, 105, 110, 102] by decide] at c2
  rw [show wordL ((3 : Nat) : Int) = [45, 48, 46, 48] by decide] at c3
  have i0 := idx0
  have i1 := idx1
  have i2 := idx2
  have i3 := idx3
  go_enter Tryz.func84, Tryz.ntmps84
  go_wp2
  go_step3
  go_wp2
  go_loopg [11] 4 (fun g i wr => ∃ k : Nat, k + g = 4 ∧ k ≤ 3 ∧ i = .int .i64 k ∧ wr = w.alloc (.cells #[.int .i64 0, .int .i64 0, .int .i64 0] 66))
  case atStart => exact ⟨0, by omega, by omega, rfl, rfl⟩
  case round =>
    obtain ⟨k, hk, hk2, rfl, rfl⟩ := hrel
    have hk4 : k = 0 ∨ k = 1 ∨ k = 2 ∨ k = 3 := by omega
    rcases hk4 with rfl | rfl | rfl | rfl
    · go_wp2
      go_roundg 3
      case measure => omega
      case rel => exact ⟨1, by omega, by omega, rfl, rfl⟩
    · go_wp2
      go_roundg 2
      case measure => omega
      case rel => exact ⟨2, by omega, by omega, rfl, rfl⟩
    · go_wp2
      go_roundg 1
      case measure => omega
      case rel => exact ⟨3, by omega, by omega, rfl, rfl⟩
    · go_wp2
      try rw [Exit.noGoto_ret]
      exact bodyPost_ret (v := .agg #[.int .i64 13, .int .i64 3, .int .i64 0]) (by simp [results, Tryz.results84, go_sem]) rfl ⟨rfl, (Below.refl _ _).alloc (Nat.le_refl _) _⟩

theorem beq_word' (s : ByteArray) (l : List UInt8) (h : s.data.toList ≠ l) : (l == s.toList) = false := by
  rw [ByteArray.toList_eq, beq_eq_false_iff_ne]; exact fun e => h e.symm

theorem scan_all (s : ByteArray) (w : World) (T : Tabs w) (hs : s.size ≤ 6000) :
    Calls Tryz.prog 84 #[.string s] w fun e w' => ∃ k n p : Int, e = .returned (.agg #[.int .i64 k, .int .i64 n, .int .i64 p]) ∧ scanP s.data.toList = (k, n, p) ∧ Below w.heap.size w w' := by
  by_cases h0 : s.data.toList = wordL 0
  · rw [str_lit h0]
    exact (scan_word0 w T).mono fun e w' ⟨he, hb⟩ => ⟨13, 0, 0, he, by decide, hb⟩
  by_cases h1 : s.data.toList = wordL 1
  · rw [str_lit h1]
    exact (scan_word1 w T).mono fun e w' ⟨he, hb⟩ => ⟨13, 1, 0, he, by decide, hb⟩
  by_cases h2 : s.data.toList = wordL 2
  · rw [str_lit h2]
    exact (scan_word2 w T).mono fun e w' ⟨he, hb⟩ => ⟨13, 2, 0, he, by decide, hb⟩
  by_cases h3 : s.data.toList = wordL 3
  · rw [str_lit h3]
    exact (scan_word3 w T).mono fun e w' ⟨he, hb⟩ => ⟨13, 3, 0, he, by decide, hb⟩
  exact scan_num s w T hs (beq_word' s _ (by intro e; exact h0 (e.trans (by decide)))) (beq_word' s _ (by intro e; exact h1 (e.trans (by decide)))) (beq_word' s _ (by intro e; exact h2 (e.trans (by decide)))) (beq_word' s _ (by intro e; exact h3 (e.trans (by decide))))

set_option maxRecDepth 100000 in
set_option maxHeartbeats 800000 in
theorem impl_read (s : ByteArray) (w : World) (T : Tabs w) (hs : s.size ≤ 6000) :
    Calls Tryz.prog 43 #[.string s] w fun e w' => Reads s.data.toList e ∧ Below w.heap.size w w' := by
  go_enter Tryz.func43, Tryz.ntmps43
  go_wp2_with fail
  refine (scan_all s _ (T.alloc _) hs).mono ?_
  rintro e w1 ⟨k, n, p, rfl, hg, hb⟩
  obtain ⟨q0, q1, q2, f0, f1, f2, hz, hb1⟩ := box3b hb
  have HG : Hid (scanP s.data.toList = (k, n, p)) := hg
  have HB : Hid (Below w.heap.size w w1) := hb1
  have T1 : Tabs w1 := T.below hb1 (Nat.le_refl _)
  clear hg hb hb1
  go_wp2_with fail
  refine (impl_ok k n p _ (T1.alloc _)).mono ?_
  rintro e w2 ⟨rfl, hb2⟩
  obtain ⟨c0, c1, c2, hz2, hb3⟩ := box3 hb2
  obtain ⟨p0, p1, p2, g0, g1, g2⟩ := kept3 hb3 hz q0 q1 q2 f0 f1 f2
  have T2 : Tabs w2 := T1.below hb3 (Nat.le_refl _)
  have HB2 : Hid (Below w.heap.size w w2) := HB.out.trans (hb3.mono (by omega))
  have hz3 : w.heap.size < w2.heap.size := by omega
  clear hb2 hb3 q0 q1 q2 f0 f1 f2 T1
  cases hok : okB k n p with
  | false =>
    have HN : Hid (∀ k' n' p' : Int, okB k' n' p' = true → textL k' n' p' ≠ s.data.toList) := none_scan HG.out (Or.inl hok)
    go_wp2
    exact bodyPost_ret (v := .tuple #[.agg #[.int .i64 0, .int .i64 0, .int .i64 0], .bool false]) (by simp [results, Tryz.results43, go_sem, p0, p1, p2]) rfl
      ⟨Or.inr ⟨HN.out, rfl⟩, ((HB2.out.setCell (Nat.le_refl _) _).setCell (Nat.le_refl _) _).setCell (Nat.le_refl _) _⟩
  | true =>
    go_wp2_with fail
    refine (impl_text k n p w2 T2).mono ?_
    rintro e w3 ⟨rfl, hb4⟩
    obtain ⟨r0, r1, r2, s0, s1, s2⟩ := kept3 hb4 hz3 p0 p1 p2 g0 g1 g2
    have v0 : w3.cell? ⟨w1.heap.size, 0, none⟩ = some (.int .i64 k) := (hb4.cell (p := ⟨w1.heap.size, 0, none⟩) hz2).trans c0
    have v1 : w3.cell? ⟨w1.heap.size, 1, none⟩ = some (.int .i64 n) := (hb4.cell (p := ⟨w1.heap.size, 1, none⟩) hz2).trans c1
    have v2 : w3.cell? ⟨w1.heap.size, 2, none⟩ = some (.int .i64 p) := (hb4.cell (p := ⟨w1.heap.size, 2, none⟩) hz2).trans c2
    have HB3 : Hid (Below w.heap.size w w3) := HB2.out.trans (hb4.mono (by omega))
    clear hb4 p0 p1 p2 g0 g1 g2 c0 c1 c2
    cases hc : (textL k n p == s.toList) with
    | true =>
      have HT : Hid (textL k n p = s.data.toList) := by
        rw [ByteArray.toList_eq] at hc
        exact beq_iff_eq.1 hc
      have HO : Hid (okB k n p = true) := hok
      go_wp2
      exact bodyPost_ret (v := .tuple #[.agg #[.int .i64 k, .int .i64 n, .int .i64 p], .bool true]) (by simp [results, Tryz.results43, go_sem, r0, r1, r2]) rfl
        ⟨Or.inl ⟨k, n, p, HO.out, HT.out, rfl⟩, ((HB3.out.setCell (Nat.le_refl _) _).setCell (Nat.le_refl _) _).setCell (Nat.le_refl _) _⟩
    | false =>
      have HN : Hid (∀ k' n' p' : Int, okB k' n' p' = true → textL k' n' p' ≠ s.data.toList) := none_scan HG.out (Or.inr (by
        rw [ByteArray.toList_eq] at hc
        exact beq_eq_false_iff_ne.1 hc))
      go_wp2
      exact bodyPost_ret (v := .tuple #[.agg #[.int .i64 0, .int .i64 0, .int .i64 0], .bool false]) (by simp [results, Tryz.results43, go_sem, r0, r1, r2]) rfl
        ⟨Or.inr ⟨HN.out, rfl⟩, ((HB3.out.setCell (Nat.le_refl _) _).setCell (Nat.le_refl _) _).setCell (Nat.le_refl _) _⟩

end Go.Proofs.YtdhoimjkgicneaaGreatDoor
