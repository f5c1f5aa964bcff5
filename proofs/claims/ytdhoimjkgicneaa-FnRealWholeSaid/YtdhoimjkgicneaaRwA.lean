/- Cutting a real number: the program's own, the draws, and the law. -/
import Derived.Test.YtdhoimjkgicneaaRealC
import Derived.Test.YtdhoimjkgicneaaFltC
import Derived.Test.YtdhoimjkgicneaaNumB
namespace Go.Proofs.Ytdhoimjkgicneaa
open Go Go.RowKit

theorem lit_lo : floatOfInt .f64 (-32769) = 13898108587504304128 := by decide +kernel
theorem lit_hi : floatOfInt .f64 32768 = 4674736413210574848 := by decide +kernel
theorem lit_neg1 : floatOfInt .f64 (-1) = 13830554455654793216 := by decide +kernel
theorem lit_1 : floatOfInt .f64 1 = 4607182418800017408 := by decide +kernel
theorem lit_0 : floatOfInt .f64 0 = 0 := by decide +kernel

/-- Whether a real number is within the bounds. -/
def inB (x : Nat) : Bool := (FloatKind.f64.format.order x 13898108587504304128 == some .gt) && (FloatKind.f64.format.order x 4674736413210574848 == some .lt)

set_option maxHeartbeats 400000 in
theorem whole_ok (x : Nat) (n : Int) (w : World) (g1 : (FloatKind.f64.format.order x 13898108587504304128 == some .gt) = true) (g2 : (FloatKind.f64.format.order x 4674736413210574848 == some .lt) = true)
    (hn : floatToIntVal .f64 x .i16 = some n) :
    Calls Try.prog 8 #[.float .f64 x] w fun e w' => e = .returned (.tuple #[.int .i16 n, .bool true]) ∧ w' = w := by
  have cv : ∀ w, (convert 30 23 (.float .f64 x)).run Try.prog w = .ok (.int .i16 n) w := fun w => run_convert_float_int w _ _ .f64 .i16 x n (by kernel_rfl) Try.underlying23 hn
  clear hn
  go_enter Try.func8, Try.ntmps8
  go_wp2
  go_ret2
  exact ⟨rfl, rfl⟩

set_option maxHeartbeats 400000 in
theorem whole_no (x : Nat) (w : World) (h : (FloatKind.f64.format.order x 13898108587504304128 == some .gt) = false ∨ (FloatKind.f64.format.order x 4674736413210574848 == some .lt) = false) :
    Calls Try.prog 8 #[.float .f64 x] w fun e w' => e = .returned (.tuple #[.int .i16 0, .bool false]) ∧ w' = w := by
  cases g1 : FloatKind.f64.format.order x 13898108587504304128 == some .gt with
  | false =>
    clear h
    go_enter Try.func8, Try.ntmps8
    go_wp2
    go_ret2
    exact ⟨rfl, rfl⟩
  | true =>
    have g2 : (FloatKind.f64.format.order x 4674736413210574848 == some .lt) = false := by
      rcases h with h | h
      · rw [g1] at h; cases h
      · exact h
    clear h
    go_enter Try.func8, Try.ntmps8
    go_wp2
    go_ret2
    exact ⟨rfl, rfl⟩

set_option maxHeartbeats 400000 in
theorem draw_real (v : Value) (w : World) (h : CodeAt v w) :
    Calls Try.prog 9 #[v] w fun e w' => ∃ x : Nat, e = .returned (.float .f64 x) ∧ Below w.heap.size w w' := by
  go_enter Try.func9, Try.ntmps9
  go_wp2_with fail
  refine (open_any v w h).mono ?_
  rintro e w1 ⟨rfl, rd1, hb1⟩
  have hs1 := hb1.size
  clear h
  go_wp2_with fail
  refine (real_any w.heap.size 0 w1 rd1 (by omega)).mono ?_
  rintro e w2 ⟨x, rfl, rd2, mv2⟩
  have B : Hid (Below w.heap.size w w2) := hb1.trans (mv2.below hs1 (Nat.le_refl _))
  clear rd1 rd2 mv2 hb1
  go_wp2
  go_ret
  exact ⟨x, rfl, B.out⟩

theorem fmt_double : FloatKind.f64.format = Ieee.double := rfl

theorem beq_of {a b : Option Ordering} (h : a = b) : (a == b) = true := by subst h; cases a with | none => rfl | some o => cases o <;> rfl

/-- A whole number that was made a real one is cut to itself. -/
theorem int_back (a : Int) (a1 : -32768 ≤ a) (a2 : a ≤ 32767) : (FloatKind.f64.format.order (floatOfInt .f64 a) 13898108587504304128 == some .gt) = true ∧ (FloatKind.f64.format.order (floatOfInt .f64 a) 4674736413210574848 == some .lt) = true ∧ floatToIntVal .f64 (floatOfInt .f64 a) .i16 = some a := by
  rw [fmt_double, ← lit_lo, ← lit_hi]
  refine ⟨beq_of ?_, beq_of ?_, ?_⟩
  · rw [order_int _ _ (by omega) (by decide), cmp_gt.2 (by omega)]
  · rw [order_int _ _ (by omega) (by decide), cmp_lt.2 (by omega)]
  · obtain ⟨m, k, h1, h2⟩ := num_int a (by omega)
    have e : (FloatKind.f64.decode (floatOfInt .f64 a)).toInt .zero = some a := by
      rw [cut_num h1, h2, Nat.mul_div_cancel _ (Nat.two_pow_pos _)]
      congr 1
      by_cases h0 : a < 0 <;> simp [sg, h0] <;> omega
    simp only [floatToIntVal, e]
    rw [if_pos]
    simp [IntKind.min, IntKind.max, IntKind.signed, IntKind.bits]
    omega

set_option maxHeartbeats 400000 in
theorem law_longR (a0 : Option Addr) (l0 c0 : Nat) (w : World) (h : 1048576 < l0) (m0 : l0 ≤ 9223372036854775807) :
    Calls Try.prog 4 #[.slice a0 l0 c0] w fun e w' => e = .returned (.bool true) ∧ Below w.heap.size w w' := by
  go_enter Try.func4, Try.ntmps4
  go_wp2
  go_ret
  exact ⟨rfl, Below.refl _ _⟩

/-- What the law asks of a number that was cut. -/
theorem cut_facts {x : Nat} (g1 : (FloatKind.f64.format.order x 13898108587504304128 == some .gt) = true) (g2 : (FloatKind.f64.format.order x 4674736413210574848 == some .lt) = true) :
    ∃ (n : Int) (r : Nat), floatToIntVal .f64 x .i16 = some n ∧ floatBits .sub .f64 x (floatOfInt .f64 n) = some r ∧
      (FloatKind.f64.format.order r 13830554455654793216 == some .gt) = true ∧ (FloatKind.f64.format.order r 4607182418800017408 == some .lt) = true ∧
      ((FloatKind.f64.format.order x 0 == some .lt) = true ∨ (FloatKind.f64.format.order r 0 == some .gt || FloatKind.f64.format.order r 0 == some .eq) = true) ∧
      ((FloatKind.f64.format.order x 0 == some .gt) = true ∨ (FloatKind.f64.format.order r 0 == some .lt || FloatKind.f64.format.order r 0 == some .eq) = true) := by
  rw [fmt_double, ← lit_lo] at g1
  rw [fmt_double, ← lit_hi] at g2
  have h1 : Ieee.double.order x (floatOfInt .f64 (-32769)) = some .gt := by simpa using g1
  have h2 : Ieee.double.order x (floatOfInt .f64 32768) = some .lt := by simpa using g2
  obtain ⟨n, n1, n2, n3, r, r1, r2, r3, r4, r5⟩ := real_whole h1 h2
  rw [lit_neg1] at r2
  rw [lit_1] at r3
  rw [lit_0] at r4 r5
  refine ⟨n, r, ?_, r1, beq_of r2, beq_of r3, ?_, ?_⟩
  · simp only [floatToIntVal, n3]
    rw [if_pos]
    simp [IntKind.min, IntKind.max, IntKind.signed, IntKind.bits]
    omega
  · rcases r4 with h | h | h
    · exact Or.inl (beq_of h)
    · exact Or.inr (by rw [fmt_double, h]; rfl)
    · exact Or.inr (by rw [fmt_double, h]; rfl)
  · rcases r5 with h | h | h
    · exact Or.inl (beq_of h)
    · exact Or.inr (by rw [fmt_double, h]; rfl)
    · exact Or.inr (by rw [fmt_double, h]; rfl)

end Go.Proofs.Ytdhoimjkgicneaa
