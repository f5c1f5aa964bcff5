/- Texts of this proof laid together: ReaA, ArgD. -/
import Derived.Test.YtdhoimjkgicneaaDoorLot28
import Derived.Test.YtdhoimjkgicneaaDoorLot19
import Derived.Test.YtdhoimjkgicneaaDoorLot31
/- MemReal, of the program and of the specification. -/
namespace Go.Proofs.YtdhoimjkgicneaaDoor
open Go Go.RowKit

/-- The bits of the real number that an operand asks a memory for, as the program has them. -/
def realX (v : MemV) (k n p : Int) : Nat := if k = 10 then v.r (atZ k n).toNat else argX k n p

set_option maxHeartbeats 4000000 in
theorem impl_memreal (v : MemV) (k n p : Int) (w : World) (T : KTab w) :
    Calls Tryd.prog 47 #[.agg v.row, .agg #[.int .i64 k, .int .i64 n, .int .i64 p]] w fun e w' => e = .returned (.float .f64 (realX v k n p)) ∧ Below w.heap.size w w' := by
  obtain ⟨hA, hC, hB⟩ := two_boxes v w _ #[.int .i64 k, .int .i64 n, .int .i64 p] 61 24 (Below.refl _ _)
  by_cases h1 : k = 10
  · subst h1
    obtain ⟨j, hj, hz, hc⟩ := place_nat 10 n p
    have e : realX v 10 n p = v.r j := by unfold realX; rw [if_pos rfl, hj]; rfl
    have h16 := atZ_lt (k := 10) (n := n) (s := 16) rfl (by omega)
    rw [hj] at h16
    rw [e]
    clear e hj hA hC hB
    have hlt : j < 16 := by omega
    go_enter Tryd.func47, Tryd.ntmps47
    go_wp2_with fail
    refine (hc _ ((T.alloc _).alloc _)).mono ?_
    rintro e w1 ⟨rfl, hB⟩
    obtain ⟨hA, hC, hB⟩ := two_boxes v w w1 _ _ _ hB
    have c0 := hA.c (117 + j) (by omega)
    rw [MemV.cell_r v j hlt] at c0
    go_wp2_with fail
    go_ret
    exact ⟨rfl, hB⟩
  · have e : realX v k n p = argX k n p := by unfold realX; rw [if_neg h1]
    rw [e]
    have h1 : (k == 10) = false := by simpa using h1
    clear hA hC hB e
    go_enter Tryd.func47, Tryd.ntmps47
    go_wp2_with fail
    refine (impl_arg k n p _ ((T.alloc _).alloc _)).mono ?_
    rintro e w1 ⟨rfl, hB⟩
    obtain ⟨hA, hC, hB⟩ := two_boxes v w w1 _ _ _ hB
    clear hA hC
    go_wp2_with fail
    go_ret
    exact ⟨rfl, hB⟩

end Go.Proofs.YtdhoimjkgicneaaDoor

/- Two real numbers that are the same to the law; the specification's real number of an operand. -/
namespace Go.Proofs.YtdhoimjkgicneaaDoor
open Go Go.RowKit Ieee

/-- One by nought is an infinity, of nought's sign. -/
theorem one_by_zero {x : Nat} (h : double.order x 0 = some .eq) : ∃ s k, Num x s 0 k ∧ double.div 4607182418800017408 x = some (double.word s 9218868437227405312) := by
  have v0 : Val 0 0 := by
    have := val_int 0 (by decide)
    rw [show floatOfInt .f64 0 = 0 from by decide +kernel] at this
    simpa using this
  rcases read_cases x with ⟨s, m, k, hx⟩ | ⟨s, hx⟩ | ⟨s, t, hx⟩
  · rw [order_val hx.val v0] at h
    have h1 := Int.compare_eq_eq.1 (Option.some.inj h)
    have h2 : m * 2 ^ k = 0 := by rw [← sg_abs s (m * 2 ^ k), h1]; rfl
    have hm : m = 0 := by
      rcases Nat.mul_eq_zero.1 h2 with h | h
      · exact h
      · exact absurd h (Nat.ne_of_gt (Nat.two_pow_pos _))
    subst hm
    refine ⟨s, k, hx, ?_⟩
    have r1 : double.read 4607182418800017408 = .number false 4503599627370496 (-52) := by decide +kernel
    simp [Format.div, r1, hx.read, Datum.quotient, Format.write, d_inf]
  · exfalso
    obtain ⟨s0, m0, k0, n0, -⟩ := v0
    simp only [Format.order, hx, n0.read, Datum.order] at h
    cases s <;> simp at h
  · rw [order_nan_left hx] at h
    cases h

set_option maxHeartbeats 400000 in
theorem wr_eq (x : Nat) (w : World) (h : FloatKind.f64.format.order x x = some .eq) :
    Calls Tryd.prog 30 #[.float .f64 x, .float .f64 x] w fun e w' => e = .returned (.bool true) ∧ w' = w := by
  cases hz : FloatKind.f64.format.order x 0 != some .eq with
  | true =>
    go_enter Tryd.func30, Tryd.ntmps30
    go_wp2
    go_ret
    exact ⟨rfl, rfl⟩
  | false =>
    obtain ⟨s, k, -, hd⟩ := one_by_zero (x := x) (by have h2 : FloatKind.f64.format.order x 0 = some .eq := by simpa using hz
                                                     exact h2)
    obtain ⟨r, hr⟩ : ∃ r, r = double.word s 9218868437227405312 := ⟨_, rfl⟩
    rw [← hr] at hd
    have q : ∀ t w, (binOp .quo t (.float .f64 4607182418800017408) (.float .f64 x)).run Tryd.prog w = .ok (.float .f64 r) w := fun t w => run_float_arith w .quo t .f64 _ _ _ hd
    clear hd hr
    go_enter Tryd.func30, Tryd.ntmps30
    go_wp2
    go_ret
    exact ⟨rfl, rfl⟩

set_option maxHeartbeats 400000 in
theorem wr_nan (x y : Nat) (w : World) (h : FloatKind.f64.format.order x x = none) (g : FloatKind.f64.format.order y y = none) :
    Calls Tryd.prog 30 #[.float .f64 x, .float .f64 y] w fun e w' => e = .returned (.bool true) ∧ w' = w := by
  go_enter Tryd.func30, Tryd.ntmps30
  go_wp2
  go_ret
  exact ⟨rfl, rfl⟩


theorem wr_same {x y : Nat} (w : World) (h : SameF x y) :
    Calls Tryd.prog 30 #[.float .f64 x, .float .f64 y] w fun e w' => e = .returned (.bool true) ∧ w' = w := by
  rcases h with ⟨h1, h2⟩ | ⟨rfl, h⟩
  · exact wr_nan x y w h1 h2
  · exact wr_eq x w h

end Go.Proofs.YtdhoimjkgicneaaDoor
