/- Texts of this proof laid together: DevG, Box. -/
import Derived.Test.YtdhoimjkgicneacDoorLot16
import Derived.Test.YtdhoimjkgicneacDoorLot8
import Derived.Below
/- What the program writes of a decimal number. -/
namespace Go.Proofs.YtdhoimjkgicneacDoor
open Go Go.RowKit

theorem point_eqS (s L : List UInt8) (p : Nat) : (⟨s.toArray⟩ : ByteArray) ++ (⟨L.toArray⟩ : ByteArray).extract 0 (L.length - p) ++ ⟨#[46]⟩ ++ (⟨L.toArray⟩ : ByteArray).extract (L.length - p) L.length = ⟨(s ++ pointL L p).toArray⟩ := by
  rw [ext_take, ext_take, show (⟨#[46]⟩ : ByteArray) = ⟨([46] : List UInt8).toArray⟩ from rfl, str_cat, str_cat, str_cat]
  simp [pointL]

theorem grow_below (w : World) (k : Nat) (os : Array Obj) : Below w.heap.size w (Sort.grow (w.drewN k) os) :=
  ⟨rfl, rfl, rfl, by show w.heap.size ≤ (w.heap ++ os).size; simp, fun i hi => by show (w.heap ++ os)[i]? = w.heap[i]?; rw [Array.getElem?_append_left hi]⟩

theorem impl_itoa (n : Int) (w : World) (h1 : -9223372036854775807 ≤ n) (h2 : n ≤ 9223372036854775807) (T : Tabs w) :
    Calls Tryd.prog 58 #[.int .i64 n] w fun e w' => e = .returned (.string ⟨(Lib.itoa n).toArray⟩) ∧ Below w.heap.size w w' :=
  (Tryd.strconv_Itoa n (by omega) (by omega) w T.tab).mono fun e w' ⟨he, k, os, hw⟩ => ⟨he, by rw [hw]; exact grow_below w k os⟩

theorem impl_itoaN (n : Nat) (w : World) (h2 : n ≤ 9223372036854775807) (T : Tabs w) :
    Calls Tryd.prog 58 #[.int .i64 n] w fun e w' => e = .returned (.string ⟨(Lib.decDigits n).toArray⟩) ∧ Below w.heap.size w w' := by
  have := impl_itoa n w (by omega) (by omega) T
  rwa [Lib.itoa_nonneg] at this

theorem repeatL_eq (c : Nat) : Lib.repeatL [48] c = List.replicate c 48 := by
  induction c with
  | zero => rfl
  | succ c ih => simp [Lib.repeatL, ih, List.replicate_succ]

theorem impl_zeros (c : Nat) (w : World) (h : c ≤ 100) :
    Calls Tryd.prog 86 #[.string ⟨#[48]⟩, .int .i64 c] w fun e w' => e = .returned (.string ⟨(List.replicate c 48).toArray⟩) ∧ Below w.heap.size w w' := by
  have := Tryd.strings_Repeat ⟨#[48]⟩ c w (by omega) (by show 1 * c ≤ _; omega)
  rwa [show (⟨#[48]⟩ : ByteArray).data.toList = [48] from rfl, repeatL_eq] at this

set_option maxHeartbeats 400000 in
theorem impl_dec0 (m p : Nat) (w : World) (hm : m ≤ 999999999) (hp : p ≤ 6) (T : Tabs w) :
    Calls Tryd.prog 74 #[.int .i64 m, .int .i64 p] w fun e w' => e = .returned (.string ⟨(decM m p).toArray⟩) ∧ Below w.heap.size w w' := by
  have hl : (Lib.decDigits m).length ≤ 19 := dd_len19 (by omega)
  go_enter Tryd.func74, Tryd.ntmps74
  go_wp2_with fail
  refine (impl_itoaN m w (by omega) T).mono ?_
  rintro e w1 ⟨rfl, hb⟩
  have HB : Hid (Below w.heap.size w w1) := hb
  have HZ : Hid (w.heap.size ≤ w1.heap.size) := hb.size
  clear hb
  by_cases hlt : (Lib.decDigits m).length ≤ p
  · go_wp2_with fail
    rw [show ((p : Int) + 1 - ((Lib.decDigits m).length : Int)) = ((p + 1 - (Lib.decDigits m).length : Nat) : Int) from by omega]
    refine (impl_zeros (p + 1 - (Lib.decDigits m).length) w1 (by omega)).mono ?_
    rintro e w2 ⟨rfl, hb⟩
    have HB2 : Hid (Below w.heap.size w w2) := HB.out.trans (hb.mono HZ.out)
    clear hb HB
    go_wp2
    rw [show (⟨Array.replicate (p + 1 - (Lib.decDigits m).length) 48⟩ : ByteArray) ++ ⟨(Lib.decDigits m).toArray⟩ = ⟨(padL (Lib.decDigits m) p).toArray⟩ from by
        rw [← List.toArray_replicate, str_cat]; rfl]
    rw [show (((p + 1 - (Lib.decDigits m).length : Nat) : Int) + ((Lib.decDigits m).length : Int) - (p : Int)) = (((padL (Lib.decDigits m) p).length : Nat) : Int) - (p : Int) from by
        rw [padL]; simp]
    have l1 : p < (padL (Lib.decDigits m) p).length := by rw [padL]; simp; omega
    have l2 : (padL (Lib.decDigits m) p).length ≤ 40 := by rw [padL]; simp; omega
    have HL : Hid (decM m p = pointL (padL (Lib.decDigits m) p) p) := rfl
    generalize padL (Lib.decDigits m) p = L at *
    go_quiet (fail)
    go_wp2
    go_ret
    refine ⟨ret_str ?_, below_drewN HB2.out _⟩
    rw [HL.out]
    exact point_eqS [] L p
  · go_wp2_with fail
    have l1 : p < (Lib.decDigits m).length := by omega
    have HL : Hid (decM m p = pointL (Lib.decDigits m) p) := by
      show decM m p = _
      rw [decM, padL, show p + 1 - (Lib.decDigits m).length = 0 from by omega]; rfl
    generalize Lib.decDigits m = L at *
    go_quiet (fail)
    go_wp2
    go_ret
    refine ⟨ret_str ?_, below_drewN HB.out _⟩
    rw [HL.out]
    exact point_eqS [] L p

set_option maxHeartbeats 400000 in
theorem impl_dec1 (m p : Nat) (w : World) (h0 : 0 < m) (hm : m ≤ 999999999) (hp : p ≤ 6) (T : Tabs w) :
    Calls Tryd.prog 74 #[.int .i64 (-(m : Int)), .int .i64 p] w fun e w' => e = .returned (.string ⟨(45 :: decM m p).toArray⟩) ∧ Below w.heap.size w w' := by
  have hl : (Lib.decDigits m).length ≤ 19 := dd_len19 (by omega)
  go_enter Tryd.func74, Tryd.ntmps74
  go_wp2_with fail
  refine (impl_itoaN m w (by omega) T).mono ?_
  rintro e w1 ⟨rfl, hb⟩
  have HB : Hid (Below w.heap.size w w1) := hb
  have HZ : Hid (w.heap.size ≤ w1.heap.size) := hb.size
  clear hb
  by_cases hlt : (Lib.decDigits m).length ≤ p
  · go_wp2_with fail
    rw [show ((p : Int) + 1 - ((Lib.decDigits m).length : Int)) = ((p + 1 - (Lib.decDigits m).length : Nat) : Int) from by omega]
    refine (impl_zeros (p + 1 - (Lib.decDigits m).length) w1 (by omega)).mono ?_
    rintro e w2 ⟨rfl, hb⟩
    have HB2 : Hid (Below w.heap.size w w2) := HB.out.trans (hb.mono HZ.out)
    clear hb HB
    go_wp2
    rw [show (⟨Array.replicate (p + 1 - (Lib.decDigits m).length) 48⟩ : ByteArray) ++ ⟨(Lib.decDigits m).toArray⟩ = ⟨(padL (Lib.decDigits m) p).toArray⟩ from by
        rw [← List.toArray_replicate, str_cat]; rfl]
    rw [show (((p + 1 - (Lib.decDigits m).length : Nat) : Int) + ((Lib.decDigits m).length : Int) - (p : Int)) = (((padL (Lib.decDigits m) p).length : Nat) : Int) - (p : Int) from by
        rw [padL]; simp]
    have l1 : p < (padL (Lib.decDigits m) p).length := by rw [padL]; simp; omega
    have l2 : (padL (Lib.decDigits m) p).length ≤ 40 := by rw [padL]; simp; omega
    have HL : Hid (45 :: decM m p = 45 :: pointL (padL (Lib.decDigits m) p) p) := rfl
    generalize padL (Lib.decDigits m) p = L at *
    go_quiet (fail)
    go_wp2
    go_ret
    refine ⟨ret_str ?_, below_drewN HB2.out _⟩
    rw [HL.out]
    exact point_eqS [45] L p
  · go_wp2_with fail
    have l1 : p < (Lib.decDigits m).length := by omega
    have HL : Hid (45 :: decM m p = 45 :: pointL (Lib.decDigits m) p) := by
      show 45 :: decM m p = _
      rw [decM, padL, show p + 1 - (Lib.decDigits m).length = 0 from by omega]; rfl
    generalize Lib.decDigits m = L at *
    go_quiet (fail)
    go_wp2
    go_ret
    refine ⟨ret_str ?_, below_drewN HB.out _⟩
    rw [HL.out]
    exact point_eqS [45] L p

theorem impl_dec (n : Int) (p : Nat) (w : World) (h1 : -999999999 ≤ n) (h2 : n ≤ 999999999) (hp : p ≤ 6) (T : Tabs w) :
    Calls Tryd.prog 74 #[.int .i64 n, .int .i64 p] w fun e w' => e = .returned (.string ⟨(decT n p).toArray⟩) ∧ Below w.heap.size w w' := by
  by_cases h0 : 0 ≤ n
  · obtain ⟨m, rfl⟩ : ∃ m : Nat, n = m := ⟨n.toNat, by omega⟩
    have e : decT (m : Int) p = decM m p := by unfold decT; rw [if_neg (by omega)]; simp
    rw [e]
    exact impl_dec0 m p w (by omega) hp T
  · obtain ⟨m, rfl⟩ : ∃ m : Nat, n = -(m : Int) := ⟨n.natAbs, by omega⟩
    have e : decT (-(m : Int)) p = 45 :: decM m p := by unfold decT; rw [if_pos (by omega)]; simp
    rw [e]
    exact impl_dec1 m p w (by omega) (by omega) hp T

end Go.Proofs.YtdhoimjkgicneacDoor

/- An operand in a box, and the text of an operand by its kind. -/
namespace Go.Proofs.YtdhoimjkgicneacDoor
open Go Go.RowKit

theorem box3 {w w1 : World} {a b c : Value} {t : TypeId} (hb : Below (w.alloc (.cells #[a, b, c] t)).heap.size (w.alloc (.cells #[a, b, c] t)) w1) :
    w1.cell? ⟨w.heap.size, 0, none⟩ = some a ∧ w1.cell? ⟨w.heap.size, 1, none⟩ = some b ∧ w1.cell? ⟨w.heap.size, 2, none⟩ = some c ∧ w.heap.size < w1.heap.size ∧ Below w.heap.size w w1 := by
  refine ⟨?_, ?_, ?_, ?_, ?_⟩
  · rw [hb.cell (p := ⟨w.heap.size, 0, none⟩) (by simp)]; simp
  · rw [hb.cell (p := ⟨w.heap.size, 1, none⟩) (by simp)]; simp
  · rw [hb.cell (p := ⟨w.heap.size, 2, none⟩) (by simp)]; simp
  · have := hb.size; simp at this; omega
  · exact ((Below.refl _ w).alloc (Nat.le_refl _) _).trans (hb.mono (by simp))

theorem text_no {k n p : Int} (h : okB k n p = false) : textL k n p = [] := by unfold textL; rw [if_pos h]
theorem text_int {n p : Int} (h : okB 11 n p = true) : textL 11 n p = Lib.itoa n := by unfold textL; rw [if_neg (by rw [h]; decide), if_pos rfl]
theorem text_dec {n p : Int} (h : okB 12 n p = true) : textL 12 n p = decT n p.toNat := by unfold textL; rw [if_neg (by rw [h]; decide), if_neg (by decide), if_pos rfl]
theorem text_word {n p : Int} (h : okB 13 n p = true) : textL 13 n p = wordL n := by unfold textL; rw [if_neg (by rw [h]; decide), if_neg (by decide), if_neg (by decide), if_pos rfl]
theorem text_dev {k n p : Int} (h : okB k n p = true) (hk : k < 11 ∨ 13 < k) : textL k n p = letterL k ++ Lib.itoa n := by
  unfold textL; rw [if_neg (by rw [h]; decide), if_neg (by omega), if_neg (by omega), if_neg (by omega)]

end Go.Proofs.YtdhoimjkgicneacDoor
