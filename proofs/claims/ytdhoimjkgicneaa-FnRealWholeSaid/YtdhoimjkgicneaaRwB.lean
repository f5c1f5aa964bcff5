/- The law on cutting real numbers, out of the contracts. -/
import Derived.Test.YtdhoimjkgicneaaRwA
namespace Go.Proofs.Ytdhoimjkgicneaa
open Go Go.RowKit

set_option maxHeartbeats 1000000 in
theorem law_shortR (a0 : Option Addr) (l0 c0 : Nat) (w : World) (h0 : l0 ≤ 1048576) (C0 : CodeAt (.slice a0 l0 c0) w) :
    Calls Try.prog 4 #[.slice a0 l0 c0] w fun e w' => e = .returned (.bool true) ∧ Below w.heap.size w w' := by
  have CC : Hid (CodeAt (.slice a0 l0 c0) w) := C0
  clear C0
  go_enter Try.func4, Try.ntmps4
  go_wp2_with fail
  refine (draw_cmp _ w CC.out).mono ?_
  rintro e w1 ⟨o, a, b, rfl, a1, a2, -, -, hb⟩
  have B : Hid (Below w.heap.size w w1) := hb
  clear hb
  go_wp2_with fail
  obtain ⟨i1, i2, i3⟩ := int_back a a1 a2
  refine (whole_ok (floatOfInt .f64 a) a w1 i1 i2 i3).mono ?_
  rintro e w2 ⟨rfl, rfl⟩
  clear i1 i2 i3
  go_wp2_with fail
  refine (draw_real _ w2 (CC.out.below B.out)).mono ?_
  rintro e w3 ⟨x, rfl, hb⟩
  have B3 : Hid (Below w.heap.size w w3) := B.out.trans (hb.mono B.out.size)
  clear hb
  cases g1 : FloatKind.f64.format.order x 13898108587504304128 == some .gt with
  | false =>
    go_wp2_with fail
    refine (whole_no x w3 (Or.inl g1)).mono ?_
    rintro e w4 ⟨rfl, rfl⟩
    go_wp2
    go_ret
    exact ⟨rfl, B3.out⟩
  | true =>
    cases g2 : FloatKind.f64.format.order x 4674736413210574848 == some .lt with
    | false =>
      go_wp2_with fail
      refine (whole_no x w3 (Or.inr g2)).mono ?_
      rintro e w4 ⟨rfl, rfl⟩
      go_wp2
      go_ret
      exact ⟨rfl, B3.out⟩
    | true =>
      obtain ⟨n, r, f1, f2, f3, f4, f5, f6⟩ := cut_facts g1 g2
      have F1 : Hid (floatToIntVal .f64 x .i16 = some n) := f1
      have sb : ∀ t w, (binOp .sub t (.float .f64 x) (.float .f64 (floatOfInt .f64 n))).run Try.prog w = .ok (.float .f64 r) w := fun t w => run_float_arith w .sub t .f64 _ _ _ f2
      have F5 : Hid ((FloatKind.f64.format.order x 0 == some .lt) = true ∨ (FloatKind.f64.format.order r 0 == some .gt || FloatKind.f64.format.order r 0 == some .eq) = true) := f5
      have F6 : Hid ((FloatKind.f64.format.order x 0 == some .gt) = true ∨ (FloatKind.f64.format.order r 0 == some .lt || FloatKind.f64.format.order r 0 == some .eq) = true) := f6
      clear f1 f2 f5 f6
      go_wp2_with fail
      refine (whole_ok x n w3 g1 g2 F1.out).mono ?_
      rintro e w4 ⟨rfl, rfl⟩
      clear g1 g2
      cases k1 : FloatKind.f64.format.order x 0 == some .lt with
      | true =>
        cases k2 : FloatKind.f64.format.order x 0 == some .gt with
        | true => simp at k1 k2; rw [k1] at k2; cases k2
        | false =>
          have k3 : (FloatKind.f64.format.order r 0 == some .lt || FloatKind.f64.format.order r 0 == some .eq) = true := by
            rcases F6.out with h | h
            · rw [k2] at h; cases h
            · exact h
          go_wp2
          go_ret
          exact ⟨rfl, B3.out⟩
      | false =>
        have k4 : (FloatKind.f64.format.order r 0 == some .gt || FloatKind.f64.format.order r 0 == some .eq) = true := by
          rcases F5.out with h | h
          · rw [k1] at h; cases h
          · exact h
        cases k2 : FloatKind.f64.format.order x 0 == some .gt with
        | true =>
          go_wp2
          go_ret
          exact ⟨rfl, B3.out⟩
        | false =>
          have k3 : (FloatKind.f64.format.order r 0 == some .lt || FloatKind.f64.format.order r 0 == some .eq) = true := by
            rcases F6.out with h | h
            · rw [k2] at h; cases h
            · exact h
          go_wp2
          go_ret
          exact ⟨rfl, B3.out⟩

end Go.Proofs.Ytdhoimjkgicneaa
