/- Texts of this proof laid together: DevG, DevH, MyB. -/
import Derived.Test.YtdhoimjkgicneaaDoorLot34
import Derived.Test.YtdhoimjkgicneaaDoorLot16
import Derived.Deep.RegionWith
import Derived.Deep.Cut
import Derived.Test.YtdhoimjkgicneaaDoorLot20
/- What the program writes of a decimal number. -/
namespace Go.Proofs.YtdhoimjkgicneaaDoor
open Go Go.RowKit

theorem point_eqS (s L : List UInt8) (p : Nat) : (⟨s.toArray⟩ : ByteArray) ++ (⟨L.toArray⟩ : ByteArray).extract 0 (L.length - p) ++ ⟨#[46]⟩ ++ (⟨L.toArray⟩ : ByteArray).extract (L.length - p) L.length = ⟨(s ++ pointL L p).toArray⟩ := by
  rw [ext_take, ext_take, show (⟨#[46]⟩ : ByteArray) = ⟨([46] : List UInt8).toArray⟩ from rfl, str_cat, str_cat, str_cat]
  simp [pointL]

theorem grow_below (w : World) (k : Nat) (os : Array Obj) : Below w.heap.size w (Sort.grow (w.drewN k) os) :=
  ⟨rfl, rfl, rfl, by show w.heap.size ≤ (w.heap ++ os).size; simp, fun i hi => by show (w.heap ++ os)[i]? = w.heap[i]?; rw [Array.getElem?_append_left hi]⟩

theorem impl_itoa (n : Int) (w : World) (h1 : -9223372036854775807 ≤ n) (h2 : n ≤ 9223372036854775807) (T : Tabs w) :
    Calls Tryd.prog 57 #[.int .i64 n] w fun e w' => e = .returned (.string ⟨(Lib.itoa n).toArray⟩) ∧ Below w.heap.size w w' :=
  (Tryd.strconv_Itoa n (by omega) (by omega) w T.tab).mono fun e w' ⟨he, k, os, hw⟩ => ⟨he, by rw [hw]; exact grow_below w k os⟩

theorem impl_itoaN (n : Nat) (w : World) (h2 : n ≤ 9223372036854775807) (T : Tabs w) :
    Calls Tryd.prog 57 #[.int .i64 n] w fun e w' => e = .returned (.string ⟨(Lib.decDigits n).toArray⟩) ∧ Below w.heap.size w w' := by
  have := impl_itoa n w (by omega) (by omega) T
  rwa [Lib.itoa_nonneg] at this

theorem repeatL_eq (c : Nat) : Lib.repeatL [48] c = List.replicate c 48 := by
  induction c with
  | zero => rfl
  | succ c ih => simp [Lib.repeatL, ih, List.replicate_succ]

theorem impl_zeros (c : Nat) (w : World) (h : c ≤ 100) :
    Calls Tryd.prog 111 #[.string ⟨#[48]⟩, .int .i64 c] w fun e w' => e = .returned (.string ⟨(List.replicate c 48).toArray⟩) ∧ Below w.heap.size w w' := by
  have := Tryd.strings_Repeat ⟨#[48]⟩ c w (by omega) (by show 1 * c ≤ _; omega)
  rwa [show (⟨#[48]⟩ : ByteArray).data.toList = [48] from rfl, repeatL_eq] at this

set_option maxHeartbeats 400000 in
theorem impl_dec0 (m p : Nat) (w : World) (hm : m ≤ 999999999) (hp : p ≤ 6) (T : Tabs w) :
    Calls Tryd.prog 58 #[.int .i64 m, .int .i64 p] w fun e w' => e = .returned (.string ⟨(decM m p).toArray⟩) ∧ Below w.heap.size w w' := by
  have hl : (Lib.decDigits m).length ≤ 19 := dd_len19 (by omega)
  go_enter Tryd.func58, Tryd.ntmps58
  go_wp2_with fail
  refine (impl_itoaN m w (by omega) T).mono ?_
  rintro e w1 ⟨rfl, hb⟩
  have HB : Hid (Below w.heap.size w w1) := hb
  have HZ : Hid (w.heap.size ≤ w1.heap.size) := hb.size
  clear hb
  by_cases hlt : (Lib.decDigits m).length ≤ p
  · go_wp2_with fail
    rw [show ((p : Int) + 1 - ((Lib.decDigits m).length : Int)) = ((p + 1 - (Lib.decDigits m).length : Nat) : Int) from by omega]
    refine (impl_zeros (p + 1 - (Lib.decDigits m).length) w1 (by omega)).mono ?_
    rintro e w2 ⟨rfl, hb⟩
    have HB2 : Hid (Below w.heap.size w w2) := HB.out.trans (hb.mono HZ.out)
    clear hb HB
    go_wp2
    rw [show (⟨Array.replicate (p + 1 - (Lib.decDigits m).length) 48⟩ : ByteArray) ++ ⟨(Lib.decDigits m).toArray⟩ = ⟨(padL (Lib.decDigits m) p).toArray⟩ from by
        rw [← List.toArray_replicate, str_cat]; rfl]
    rw [show (((p + 1 - (Lib.decDigits m).length : Nat) : Int) + ((Lib.decDigits m).length : Int) - (p : Int)) = (((padL (Lib.decDigits m) p).length : Nat) : Int) - (p : Int) from by
        rw [padL]; simp]
    have l1 : p < (padL (Lib.decDigits m) p).length := by rw [padL]; simp; omega
    have l2 : (padL (Lib.decDigits m) p).length ≤ 40 := by rw [padL]; simp; omega
    have HL : Hid (decM m p = pointL (padL (Lib.decDigits m) p) p) := rfl
    generalize padL (Lib.decDigits m) p = L at *
    go_quiet (fail)
    go_wp2
    go_ret
    refine ⟨ret_str ?_, below_drewN HB2.out _⟩
    rw [HL.out]
    exact point_eqS [] L p
  · go_wp2_with fail
    have l1 : p < (Lib.decDigits m).length := by omega
    have HL : Hid (decM m p = pointL (Lib.decDigits m) p) := by
      show decM m p = _
      rw [decM, padL, show p + 1 - (Lib.decDigits m).length = 0 from by omega]; rfl
    generalize Lib.decDigits m = L at *
    go_quiet (fail)
    go_wp2
    go_ret
    refine ⟨ret_str ?_, below_drewN HB.out _⟩
    rw [HL.out]
    exact point_eqS [] L p

set_option maxHeartbeats 400000 in
theorem impl_dec1 (m p : Nat) (w : World) (h0 : 0 < m) (hm : m ≤ 999999999) (hp : p ≤ 6) (T : Tabs w) :
    Calls Tryd.prog 58 #[.int .i64 (-(m : Int)), .int .i64 p] w fun e w' => e = .returned (.string ⟨(45 :: decM m p).toArray⟩) ∧ Below w.heap.size w w' := by
  have hl : (Lib.decDigits m).length ≤ 19 := dd_len19 (by omega)
  go_enter Tryd.func58, Tryd.ntmps58
  go_wp2_with fail
  refine (impl_itoaN m w (by omega) T).mono ?_
  rintro e w1 ⟨rfl, hb⟩
  have HB : Hid (Below w.heap.size w w1) := hb
  have HZ : Hid (w.heap.size ≤ w1.heap.size) := hb.size
  clear hb
  by_cases hlt : (Lib.decDigits m).length ≤ p
  · go_wp2_with fail
    rw [show ((p : Int) + 1 - ((Lib.decDigits m).length : Int)) = ((p + 1 - (Lib.decDigits m).length : Nat) : Int) from by omega]
    refine (impl_zeros (p + 1 - (Lib.decDigits m).length) w1 (by omega)).mono ?_
    rintro e w2 ⟨rfl, hb⟩
    have HB2 : Hid (Below w.heap.size w w2) := HB.out.trans (hb.mono HZ.out)
    clear hb HB
    go_wp2
    rw [show (⟨Array.replicate (p + 1 - (Lib.decDigits m).length) 48⟩ : ByteArray) ++ ⟨(Lib.decDigits m).toArray⟩ = ⟨(padL (Lib.decDigits m) p).toArray⟩ from by
        rw [← List.toArray_replicate, str_cat]; rfl]
    rw [show (((p + 1 - (Lib.decDigits m).length : Nat) : Int) + ((Lib.decDigits m).length : Int) - (p : Int)) = (((padL (Lib.decDigits m) p).length : Nat) : Int) - (p : Int) from by
        rw [padL]; simp]
    have l1 : p < (padL (Lib.decDigits m) p).length := by rw [padL]; simp; omega
    have l2 : (padL (Lib.decDigits m) p).length ≤ 40 := by rw [padL]; simp; omega
    have HL : Hid (45 :: decM m p = 45 :: pointL (padL (Lib.decDigits m) p) p) := rfl
    generalize padL (Lib.decDigits m) p = L at *
    go_quiet (fail)
    go_wp2
    go_ret
    refine ⟨ret_str ?_, below_drewN HB2.out _⟩
    rw [HL.out]
    exact point_eqS [45] L p
  · go_wp2_with fail
    have l1 : p < (Lib.decDigits m).length := by omega
    have HL : Hid (45 :: decM m p = 45 :: pointL (Lib.decDigits m) p) := by
      show 45 :: decM m p = _
      rw [decM, padL, show p + 1 - (Lib.decDigits m).length = 0 from by omega]; rfl
    generalize Lib.decDigits m = L at *
    go_quiet (fail)
    go_wp2
    go_ret
    refine ⟨ret_str ?_, below_drewN HB.out _⟩
    rw [HL.out]
    exact point_eqS [45] L p

theorem impl_dec (n : Int) (p : Nat) (w : World) (h1 : -999999999 ≤ n) (h2 : n ≤ 999999999) (hp : p ≤ 6) (T : Tabs w) :
    Calls Tryd.prog 58 #[.int .i64 n, .int .i64 p] w fun e w' => e = .returned (.string ⟨(decT n p).toArray⟩) ∧ Below w.heap.size w w' := by
  by_cases h0 : 0 ≤ n
  · obtain ⟨m, rfl⟩ : ∃ m : Nat, n = m := ⟨n.toNat, by omega⟩
    have e : decT (m : Int) p = decM m p := by unfold decT; rw [if_neg (by omega)]; simp
    rw [e]
    exact impl_dec0 m p w (by omega) hp T
  · obtain ⟨m, rfl⟩ : ∃ m : Nat, n = -(m : Int) := ⟨n.natAbs, by omega⟩
    have e : decT (-(m : Int)) p = 45 :: decM m p := by unfold decT; rw [if_pos (by omega)]; simp
    rw [e]
    exact impl_dec1 m p w (by omega) (by omega) hp T

end Go.Proofs.YtdhoimjkgicneaaDoor

/- What the program's DevText does. -/
namespace Go.Proofs.YtdhoimjkgicneaaDoor
open Go Go.RowKit

theorem later {W w1 w2 : World} {a : Addr} {v : Value} (hb : Below W.heap.size W w2) (hW : W.heap = w1.heap) (h : w1.cell? a = some v) (hz : a.block < w1.heap.size) (T : Tabs w1) :
    w2.cell? a = some v ∧ Tabs w2 ∧ w1.heap.size ≤ w2.heap.size := by
  have hs := hb.size
  have hb1 : ∀ k, k < w1.heap.size → w2.heap[k]? = w1.heap[k]? := fun k hk => by rw [hb.block k (by rw [hW]; exact hk), hW]
  refine ⟨?_, ?_, by rw [hW] at hs; exact hs⟩
  · rw [← h]; exact World.cell?_of_block (hb1 _ hz)
  · exact T.of_blocks hb1 (by rw [hW] at hs; exact hs)

set_option maxHeartbeats 400000 in
theorem impl_text_no (k n p : Int) (w : World) (T : Tabs w) (hk : okB k n p = false) :
    Calls Tryd.prog 13 #[.agg #[.int .i64 k, .int .i64 n, .int .i64 p]] w fun e w' => e = .returned (.string ⟨(textL k n p).toArray⟩) ∧ Below w.heap.size w w' := by
  rw [text_no hk]
  go_enter Tryd.func13, Tryd.ntmps13
  go_wp2_with (go_at_call 15; refine (impl_ok k n p _ (T.alloc _)).mono ?_; rintro e w1 ⟨rfl, hb⟩)
  go_ret
  exact ⟨rfl, (box3 hb).2.2.2.2⟩

set_option maxHeartbeats 400000 in
theorem impl_text_int (n p : Int) (w : World) (T : Tabs w) (hk : okB 11 n p = true) :
    Calls Tryd.prog 13 #[.agg #[.int .i64 11, .int .i64 n, .int .i64 p]] w fun e w' => e = .returned (.string ⟨(textL 11 n p).toArray⟩) ∧ Below w.heap.size w w' := by
  rw [text_int hk]
  have hn : -32768 ≤ n ∧ n ≤ 32767 ∧ p = 0 := by simpa [okB] using hk
  obtain ⟨n1, n2, -⟩ := hn
  go_enter Tryd.func13, Tryd.ntmps13
  go_wp2_with fail
  refine (impl_ok 11 n p _ (T.alloc _)).mono ?_
  rintro e w1 ⟨rfl, hb⟩
  obtain ⟨c0, c1, c2, hz, hb1⟩ := box3 hb
  have HB : Hid (Below w.heap.size w w1) := hb1
  have T1 : Tabs w1 := T.below hb1 (Nat.le_refl _)
  clear hb hb1
  go_wp2_with (go_at_call 57; refine (impl_itoa n _ (by omega) (by omega) T1).mono ?_; rintro e w2 ⟨rfl, hb⟩)
  go_ret
  exact ⟨rfl, HB.out.trans (hb.mono (by omega))⟩

set_option maxHeartbeats 400000 in
theorem impl_text_dec (n p : Int) (w : World) (T : Tabs w) (hk : okB 12 n p = true) :
    Calls Tryd.prog 13 #[.agg #[.int .i64 12, .int .i64 n, .int .i64 p]] w fun e w' => e = .returned (.string ⟨(textL 12 n p).toArray⟩) ∧ Below w.heap.size w w' := by
  rw [text_dec hk]
  have hn : -999999999 ≤ n ∧ n ≤ 999999999 ∧ 1 ≤ p ∧ p ≤ 6 ∧ (p = 1 ∨ n.tmod 10 ≠ 0) := by unfold okB at hk; rw [if_neg (by decide), if_pos rfl] at hk; exact of_decide_eq_true hk
  obtain ⟨q, rfl⟩ : ∃ q : Nat, p = q := ⟨p.toNat, by omega⟩
  rw [show (q : Int).toNat = q from rfl]
  obtain ⟨n1, n2, n3, n4, -⟩ := hn
  go_enter Tryd.func13, Tryd.ntmps13
  go_wp2_with fail
  refine (impl_ok 12 n q _ (T.alloc _)).mono ?_
  rintro e w1 ⟨rfl, hb⟩
  obtain ⟨c0, c1, c2, hz, hb1⟩ := box3 hb
  have HB : Hid (Below w.heap.size w w1) := hb1
  have T1 : Tabs w1 := T.below hb1 (Nat.le_refl _)
  clear hb hb1
  go_wp2_with (go_at_call 58; refine (impl_dec n q _ (by omega) (by omega) (by omega) T1).mono ?_; rintro e w2 ⟨rfl, hb⟩)
  go_ret
  exact ⟨rfl, HB.out.trans (hb.mono (by omega))⟩

set_option maxHeartbeats 400000 in
theorem impl_text_word (n p : Int) (w : World) (T : Tabs w) (hk : okB 13 n p = true) :
    Calls Tryd.prog 13 #[.agg #[.int .i64 13, .int .i64 n, .int .i64 p]] w fun e w' => e = .returned (.string ⟨(textL 13 n p).toArray⟩) ∧ Below w.heap.size w w' := by
  rw [text_word hk]
  have hn : 0 ≤ n ∧ n ≤ 3 ∧ p = 0 := by simpa [okB] using hk
  obtain ⟨h0, h3, -⟩ := hn
  have h4 : n = 0 ∨ n = 1 ∨ n = 2 ∨ n = 3 := by omega
  clear h0 h3
  rcases h4 with rfl | rfl | rfl | rfl
  all_goals
    go_enter Tryd.func13, Tryd.ntmps13
    go_wp2_with fail
    refine (impl_ok 13 _ p _ (T.alloc _)).mono ?_
    rintro e w1 ⟨rfl, hb⟩
    obtain ⟨c0, c1, c2, hz, hb1⟩ := box3 hb
    have HB : Hid (Below w.heap.size w w1) := hb1
    have T1 : Tabs w1 := T.below hb1 (Nat.le_refl _)
    clear hb hb1
    have cw0 := T1.wd 0 (by decide)
    have cw1 := T1.wd 1 (by decide)
    have cw2 := T1.wd 2 (by decide)
    have cw3 := T1.wd 3 (by decide)
    clear T T1
    go_wp2
    go_ret
    exact ⟨rfl, HB.out⟩

set_option maxHeartbeats 400000 in
theorem impl_text_dev (k n p : Int) (w : World) (T : Tabs w) (hk : okB k n p = true) (hK : k < 11 ∨ 13 < k) :
    Calls Tryd.prog 13 #[.agg #[.int .i64 k, .int .i64 n, .int .i64 p]] w fun e w' => e = .returned (.string ⟨(textL k n p).toArray⟩) ∧ Below w.heap.size w w' := by
  rw [text_dev hk hK]
  have hn : 0 ≤ n ∧ n < sizeZ k := by
    unfold okB at hk; rw [if_neg (by omega), if_neg (by omega), if_neg (by omega)] at hk
    have := of_decide_eq_true hk; omega
  have hz := sizeZ_bd k
  have b1 : (k == 11) = false := by simp; omega
  have b2 : (k == 12) = false := by simp; omega
  have b3 : (k == 13) = false := by simp; omega
  have n1 : 0 ≤ n := hn.1
  have n2 : n ≤ 64 := by omega
  have l1 := letterL_len k
  have l2 := itoa_len (n := n) (by omega) (by omega)
  clear hn hz hK
  go_enter Tryd.func13, Tryd.ntmps13
  go_wp2_with fail
  refine (impl_ok k n p _ (T.alloc _)).mono ?_
  rintro e w1 ⟨rfl, hb⟩
  obtain ⟨c0, c1, c2, hz, hb1⟩ := box3 hb
  have HB : Hid (Below w.heap.size w w1) := hb1
  have T1 : Tabs w1 := T.below hb1 (Nat.le_refl _)
  clear hb hb1
  go_wp2
  go_region_with (first
    | (go_at_call 59; refine (impl_letter k _ ?_).mono ?_; (first | exact T1 | exact T1.drew); rintro e w2 ⟨rfl, hb⟩; obtain ⟨d1, T2, dz⟩ := later (w1 := w1) hb rfl c1 hz T1)
    | (go_at_call 57; refine (impl_itoa n _ (by omega) (by omega) ?_).mono ?_; (first | exact T2 | exact T2.drew); rintro e w3 ⟨rfl, hb3⟩))
  all_goals
    go_wp2
    go_ret
    exact ⟨ret_str (str_cat _ _), (HB.out.drew.trans (hb.mono (by show _ ≤ w1.heap.size; omega))).trans (hb3.mono (by omega))⟩

theorem impl_text (k n p : Int) (w : World) (T : Tabs w) :
    Calls Tryd.prog 13 #[.agg #[.int .i64 k, .int .i64 n, .int .i64 p]] w fun e w' => e = .returned (.string ⟨(textL k n p).toArray⟩) ∧ Below w.heap.size w w' := by
  cases hk : okB k n p with
  | false => exact impl_text_no k n p w T hk
  | true =>
    by_cases h1 : k = 11
    · subst h1; exact impl_text_int n p w T hk
    by_cases h2 : k = 12
    · subst h2; exact impl_text_dec n p w T hk
    by_cases h3 : k = 13
    · subst h3; exact impl_text_word n p w T hk
    exact impl_text_dev k n p w T hk (by omega)

end Go.Proofs.YtdhoimjkgicneaaDoor

/- The program's words of a memory: a number with its marks, a named value, the words of bits. -/
namespace Go.Proofs.YtdhoimjkgicneaaDoor
open Go Go.RowKit

set_option maxHeartbeats 800000 in
theorem impl_marked (c : Nat) (d l : Bool) (w : World) (T : Tabs w) (hc : c < 65536) :
    Calls Tryd.prog 136 #[.int .u16 c, .bool d, .bool l] w fun e w' => e = .returned (.string ⟨(countL c d l).toArray⟩) ∧ Below w.heap.size w w' := by
  have CI := impl_itoaN c w (by omega) T
  have l1 := dd_len5 hc
  clear T
  cases d <;> cases l
  all_goals
    go_enter Tryd.func136, Tryd.ntmps136
    go_wp2_with fail
    refine CI.mono ?_
    rintro e w1 ⟨rfl, b1⟩
    have H1 : Hid (Below w.heap.size w w1) := b1
    clear b1 CI
    go_wp2_with fail
    go_ret
    refine ⟨ret_str ?_, H1.out⟩
    first
      | (simp [countL, markL]; done)
      | (rw [show (⟨#[33]⟩ : ByteArray) = ⟨([33] : List UInt8).toArray⟩ from rfl, show (⟨#[43]⟩ : ByteArray) = ⟨([43] : List UInt8).toArray⟩ from rfl, str_cat, str_cat]; simp [countL, markL]; done)
      | (rw [show (⟨#[33]⟩ : ByteArray) = ⟨([33] : List UInt8).toArray⟩ from rfl, str_cat]; simp [countL, markL]; done)
      | (rw [show (⟨#[43]⟩ : ByteArray) = ⟨([43] : List UInt8).toArray⟩ from rfl, str_cat]; simp [countL, markL])

set_option maxHeartbeats 800000 in
theorem impl_named (kd n : Nat) (val : List UInt8) (w : World) (T : Tabs w) (h1 : 1 ≤ kd) (h2 : kd ≤ 10) (hn : (n : Int) < sizeZ kd) (hv : val.length ≤ 1000) :
    Calls Tryd.prog 135 #[.int .i64 kd, .int .i64 n, .string ⟨val.toArray⟩] w fun e w' => e = .returned (.string ⟨(letterL kd ++ (Lib.decDigits n ++ 61 :: val)).toArray⟩) ∧ Below w.heap.size w w' := by
  have hz := sizeZ_bd (kd : Int)
  have CT := impl_text kd n 0 w T
  rw [text_dev (by unfold okB; rw [if_neg (by omega), if_neg (by omega), if_neg (by omega)]; simp; omega) (by omega), Lib.itoa_nonneg] at CT
  have l1 := letterL_len (kd : Int)
  have l2 := dd_len 2 n (by omega)
  clear T hz hn
  go_enter Tryd.func135, Tryd.ntmps135
  go_wp2_with fail
  refine CT.mono ?_
  rintro e w1 ⟨rfl, b1⟩
  have H1 : Hid (Below w.heap.size w w1) := b1
  clear b1 CT
  go_wp2_with fail
  go_ret
  refine ⟨ret_str ?_, H1.out⟩
  rw [show (⟨#[61]⟩ : ByteArray) = ⟨([61] : List UInt8).toArray⟩ from rfl, str_cat, str_cat]
  simp

theorem bit_wordM (k n : Nat) (_h1 : 1 ≤ k) (h2 : k ≤ 5) : (⟨k, n, 0, false, false, 0, []⟩ : Wd).text = letterL k ++ (Lib.decDigits n ++ []) := by
  unfold Wd.text Wd.tail
  simp only
  rw [if_neg (by omega), if_neg (by omega), if_neg (by omega), if_pos h2]

/-- What stands while words are gathered. -/
def WS (v : MemV) (w : World) (s : Value) (L : List Wd) (wr : World) : Prop := OwnS (w.heap.size + 1) s (L.map Wd.text) wr ∧ MemAt w.heap.size v wr ∧ Below w.heap.size w wr

theorem WS.below {v : MemV} {w wr wr' : World} {s : Value} {L : List Wd} (h : WS v w s L wr) (b : Below wr.heap.size wr wr') : WS v w s L wr' :=
  ⟨h.1.below b (Nat.le_refl _), h.2.1.below b h.2.1.z, h.2.2.trans (b.mono h.2.2.size)⟩
theorem WS.app {v : MemV} {w wr wr' : World} {s s' : Value} {L : List Wd} {x : Wd} {ss : List (List UInt8)} (h : WS v w s L wr) (ho : OwnS (w.heap.size + 1) s' ss wr') (e : ss = L.map Wd.text ++ [x.text]) (hg : wr.grownBy wr' s.ownBlock) : WS v w s' (L ++ [x]) wr' := by
  have hz := h.2.1.z
  have b1 : Below (w.heap.size + 1) wr wr' := grownS_below hg (by omega) (fun g hg => (h.1.lt hg).1)
  exact ⟨by rw [List.map_append, List.map_singleton, ← e]; exact ho, h.2.1.below b1 (by omega), h.2.2.trans (b1.mono (by omega))⟩
theorem WS.first (v : MemV) (w : World) (t : TypeId) : WS v w (.slice none 0 0) [] (w.alloc (.cells v.row t)) := ⟨ownS_nil _ _, MemAt.alloc v w t, (Below.refl _ _).alloc (Nat.le_refl _) _⟩
theorem WS.size {v : MemV} {w wr : World} {s : Value} {L : List Wd} (h : WS v w s L wr) : ∃ (a : Option Addr) (cap : Nat), s = .slice a L.length cap := by
  obtain ⟨a, cap, e⟩ := ownS_size h.1
  exact ⟨a, cap, by rw [e, List.length_map]⟩

end Go.Proofs.YtdhoimjkgicneaaDoor
