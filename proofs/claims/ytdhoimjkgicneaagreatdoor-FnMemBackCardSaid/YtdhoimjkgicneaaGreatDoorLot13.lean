/- Texts of this proof laid together: DevA, DevB0, DevB. -/
import Derived.Test.YtdhoimjkgicneaaGreatDoorLot8
import Derived.Test.YtdhoimjkgicneaaGreatDoorRows
import Derived.WalkKit
import Derived.WalkSpells
import Derived.WalkLawsBesides
import Derived.Test.YtdhoimjkgicneaaGreatDoorLot3
import Derived.Deep.QuietTactic
import Derived.BigQuiet
/- What the small functions on operands of the specification do. -/
namespace Go.Proofs.YtdhoimjkgicneaaGreatDoor
open Go Go.RowKit

set_option maxHeartbeats 1000000 in
theorem spec_size (k : Int) (w : World) :
    Calls Tryz.prog 90 #[.int .i64 k] w fun e w' => e = .returned (.int .i64 (sizeZ k)) ∧ w' = w := by
  rcases kcases k with rfl | rfl | rfl | rfl | rfl | rfl | rfl | rfl | rfl | rfl | rfl | rfl | rfl | h | h
  all_goals
    go_enter Tryz.func90, Tryz.ntmps90
    go_wp2
    go_ret
    first | exact ⟨rfl, rfl⟩ | (rw [sizeZ_out (by omega)]; exact ⟨rfl, rfl⟩)

end Go.Proofs.YtdhoimjkgicneaaGreatDoor

/- How a return is met; the decimal text of a whole number, as the specification writes it. -/
namespace Go.Proofs.YtdhoimjkgicneaaGreatDoor
open Go Go.RowKit

theorem conv1 (w : World) (c : Int) (h0 : 0 ≤ c) (h1 : c ≤ 255) :
    (convert 22 9 (.slice (some ⟨w.heap.size, 0, none⟩) 1 1)).run Tryz.prog (w.alloc (.cells #[.int .u8 c] 5)) = .ok (.string ⟨#[UInt8.ofNat c.toNat]⟩) (w.alloc (.cells #[.int .u8 c] 5)) := by
  refine run_convert_bytes_back (P := Tryz.prog) (w.alloc (.cells #[.int .u8 c] 5)) 22 9 5 ⟨w.heap.size, 0, none⟩ 1 [UInt8.ofNat c.toNat] Tryz.underlying22 Tryz.underlying5 Tryz.underlying9 ?_
  intro j hj
  obtain rfl : j = 0 := by simp at hj; omega
  have hc : ((UInt8.ofNat c.toNat).toNat : Int) = c := by simp [UInt8.toNat_ofNat']; omega
  simp only [List.getElem_cons_zero]
  rw [hc]
  simp [Addr.add_lit]

set_option maxRecDepth 100000 in
set_option maxHeartbeats 400000 in
theorem spec_dec1 (n : Nat) (w : World) (h2 : n ≤ 9223372036854775807) :
    Calls Tryz.prog 51 #[.int .i64 n] w fun e w' => e = .returned (.string ⟨(Lib.decDigits n).toArray⟩) ∧ Below w.heap.size w w' := by
    go_enter Tryz.func51, Tryz.ntmps51
    go_wp2
    go_loopw [0, 3] (fun a b wr => ∃ (m : Nat) (acc : List UInt8), m ≤ n ∧ a = .int .i64 m ∧ b = .string ⟨acc.toArray⟩ ∧ Lib.decDigits m ++ acc = Lib.decDigits n ∧ Below w.heap.size w wr) (fun a _ _ => (intOf a).toNat)
    case atStart => exact ⟨n, [], Nat.le_refl _, rfl, rfl, by simp, Below.refl _ _⟩
    case round =>
      obtain ⟨m, acc, hm, rfl, rfl, hd, hb⟩ := hrel
      have hl : acc.length ≤ 19 := by
        have h1 := congrArg List.length hd
        have h3 := dd_len19 h2
        simp at h1; omega
      have HD : Hid (Lib.decDigits m ++ acc = Lib.decDigits n) := hd
      have HB : Hid (Below w.heap.size w wr) := hb
      have HZ : Hid (w.heap.size ≤ wr.heap.size) := hb.size
      clear hd hb
      by_cases hlt : 9 < m
      · have hcv := conv1 wr (48 + (m : Int) % 10) (by omega) (by omega)
        go_wp2
        go_roundw
        case rel =>
          refine ⟨m / 10, (48 + UInt8.ofNat (m % 10)) :: acc, by omega, by go_num, ?_, ?_, HB.out.alloc HZ.out _⟩
          · exact congrArg Value.string (str_cat [_] _)
          · rw [← HD.out, dd_ge hlt]; simp
        case measure => simp [intOf]; omega
      · have hcv := conv1 wr (48 + (m : Int)) (by omega) (by omega)
        go_wp2
        go_ret
        refine ⟨ret_str ?_, HB.out.alloc HZ.out _⟩
        rw [← HD.out, dd_lt (by omega)]
        exact str_cat [_] _

set_option maxHeartbeats 400000 in
theorem spec_dec (n : Int) (w : World) (h1 : -9223372036854775807 ≤ n) (h2 : n ≤ 9223372036854775807) :
    Calls Tryz.prog 51 #[.int .i64 n] w fun e w' => e = .returned (.string ⟨(Lib.itoa n).toArray⟩) ∧ Below w.heap.size w w' := by
  by_cases h0 : 0 ≤ n
  · obtain ⟨m, rfl⟩ : ∃ m : Nat, n = m := ⟨n.toNat, by omega⟩
    rw [Lib.itoa_nonneg]
    exact spec_dec1 m w (by omega)
  · obtain ⟨m, rfl⟩ : ∃ m : Nat, n = -(m : Int) := ⟨n.natAbs, by omega⟩
    rw [Lib.itoa_neg m (by omega)]
    have hm : m ≤ 9223372036854775807 := by omega
    have hl := dd_len19 hm
    go_enter Tryz.func51, Tryz.ntmps51
    go_wp2_with fail
    refine (spec_dec1 m w hm).mono ?_
    rintro e w' ⟨rfl, hb⟩
    have HB : Hid (Below w.heap.size w w') := hb
    clear hb
    go_wp2
    go_ret
    exact ⟨ret_str (str_cat [45] _), HB.out⟩

end Go.Proofs.YtdhoimjkgicneaaGreatDoor

/- What the small functions on operands of the specification do. -/
namespace Go.Proofs.YtdhoimjkgicneaaGreatDoor
open Go Go.RowKit

attribute [local go_sem] sz1 sz2 sz3 sz4 sz5 sz6 sz7 sz8 sz9 sz10 sz11 sz12 sz13

set_option maxHeartbeats 1000000 in
theorem spec_letter (k : Int) (w : World) :
    Calls Tryz.prog 92 #[.int .i64 k] w fun e w' => e = .returned (.string ⟨(letterL k).toArray⟩) ∧ w' = w := by
  rcases kcases k with rfl | rfl | rfl | rfl | rfl | rfl | rfl | rfl | rfl | rfl | rfl | rfl | rfl | h | h
  all_goals
    first | have hs : sizeZ k = 0 := sizeZ_out (by omega) | skip
    go_enter Tryz.func92, Tryz.ntmps92
    go_wp2_with (go_at_call 90; refine (spec_size _ _).mono ?_; rintro e w' ⟨rfl, rfl⟩)
    all_goals
      go_ret
      first | exact ⟨ret_str (by decide), rfl⟩ | (rw [letterL_out (by omega)]; exact ⟨rfl, rfl⟩)

set_option maxHeartbeats 400000 in
theorem spec_ok11 (n p : Int) (w : World) :
    Calls Tryz.prog 129 #[.agg #[.int .i64 11, .int .i64 n, .int .i64 p]] w fun e w' => e = .returned (.bool (okB 11 n p)) ∧ Below w.heap.size w w' := by
    go_enter Tryz.func129, Tryz.ntmps129
    go_wp2
    all_goals
      go_ret
      exact ⟨ret_bool (by rw [Bool.eq_iff_iff]; simp [okB]; omega), (Below.refl _ _).alloc (Nat.le_refl _) _⟩

set_option maxHeartbeats 400000 in
theorem spec_ok12 (n p : Int) (w : World) :
    Calls Tryz.prog 129 #[.agg #[.int .i64 12, .int .i64 n, .int .i64 p]] w fun e w' => e = .returned (.bool (okB 12 n p)) ∧ Below w.heap.size w w' := by
    go_enter Tryz.func129, Tryz.ntmps129
    go_wp2
    all_goals
      go_ret
      refine ⟨ret_bool ?_, (Below.refl _ _).alloc (Nat.le_refl _) _⟩
      rw [Bool.eq_iff_iff]; simp [okB]; omega

set_option maxHeartbeats 400000 in
theorem spec_ok13 (n p : Int) (w : World) :
    Calls Tryz.prog 129 #[.agg #[.int .i64 13, .int .i64 n, .int .i64 p]] w fun e w' => e = .returned (.bool (okB 13 n p)) ∧ Below w.heap.size w w' := by
    go_enter Tryz.func129, Tryz.ntmps129
    go_wp2
    all_goals
      go_ret
      exact ⟨ret_bool (by rw [Bool.eq_iff_iff]; simp [okB]; omega), (Below.refl _ _).alloc (Nat.le_refl _) _⟩

end Go.Proofs.YtdhoimjkgicneaaGreatDoor
