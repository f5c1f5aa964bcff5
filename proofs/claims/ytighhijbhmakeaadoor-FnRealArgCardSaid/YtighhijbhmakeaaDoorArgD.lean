/- Two real numbers that are the same to the law; the specification's real number of an operand. -/
import Derived.Test.YtighhijbhmakeaaDoorArgC
namespace Go.Proofs.YtighhijbhmakeaaDoor
open Go Go.RowKit Ieee

theorem nan_of {x : Nat} (h : 9218868437227405312 < x % 9223372036854775808) : ∃ s t, double.read x = .nan s t := by
  have h1 : ¬ x % 9223372036854775808 < 4503599627370496 := by omega
  have h2 : ¬ x % 9223372036854775808 < 9218868437227405312 := by omega
  have h3 : ¬ x % 9223372036854775808 = 9218868437227405312 := by omega
  exact ⟨x / 9223372036854775808 % 2 == 1, x % 9223372036854775808 - 9218868437227405312, by simp [Format.read, d_sw, d_bin, d_inf, h1, h2, h3]⟩

/-- What nought by nought gives is a nan. -/
theorem nan_got (w : World) : FloatKind.f64.format.order (fGot .quo 0 0 w) (fGot .quo 0 0 w) = none := by
  have e : fGot .quo 0 0 w = (Question.nanBits .f64 0 0).cut (w.tape w.drawn (.nanBits .f64 0 0)) := by
    unfold fGot
    rw [show floatBits .quo .f64 0 0 = none from by decide +kernel]
  obtain ⟨t, ht⟩ : ∃ t, t = w.tape w.drawn (.nanBits .f64 0 0) := ⟨_, rfl⟩
  rw [e, ← ht]
  obtain ⟨s, u, h⟩ := nan_of (x := (Question.nanBits .f64 0 0).cut t) (by
    simp only [Question.cut]
    obtain ⟨c, hc⟩ : ∃ c, t / 2 % (2 ^ 52 - 1) = c := ⟨_, rfl⟩
    have hc2 : c ≤ 4503599627370494 := by rw [← hc]; exact Nat.le_of_lt_succ (Nat.mod_lt _ (by decide))
    rw [hc]
    have h2 : t % 2 = 0 ∨ t % 2 = 1 := by omega
    rcases h2 with h2 | h2 <;> rw [h2] <;> omega)
  exact order_nan_left h

/-- One by nought is an infinity, of nought's sign. -/
theorem one_by_zero {x : Nat} (h : double.order x 0 = some .eq) : ∃ s k, Num x s 0 k ∧ double.div 4607182418800017408 x = some (double.word s 9218868437227405312) := by
  have v0 : Val 0 0 := by
    have := val_int 0 (by decide)
    rw [show floatOfInt .f64 0 = 0 from by decide +kernel] at this
    simpa using this
  rcases read_cases x with ⟨s, m, k, hx⟩ | ⟨s, hx⟩ | ⟨s, t, hx⟩
  · rw [order_val hx.val v0] at h
    have h1 := Int.compare_eq_eq.1 (Option.some.inj h)
    have h2 : m * 2 ^ k = 0 := by rw [← sg_abs s (m * 2 ^ k), h1]; rfl
    have hm : m = 0 := by
      rcases Nat.mul_eq_zero.1 h2 with h | h
      · exact h
      · exact absurd h (Nat.ne_of_gt (Nat.two_pow_pos _))
    subst hm
    refine ⟨s, k, hx, ?_⟩
    have r1 : double.read 4607182418800017408 = .number false 4503599627370496 (-52) := by decide +kernel
    simp [Format.div, r1, hx.read, Datum.quotient, Format.write, d_inf]
  · exfalso
    obtain ⟨s0, m0, k0, n0, -⟩ := v0
    simp only [Format.order, hx, n0.read, Datum.order] at h
    cases s <;> simp at h
  · rw [order_nan_left hx] at h
    cases h

set_option maxHeartbeats 400000 in
theorem wr_eq (x : Nat) (w : World) (h : FloatKind.f64.format.order x x = some .eq) :
    Calls Tryd.prog 26 #[.float .f64 x, .float .f64 x] w fun e w' => e = .returned (.bool true) ∧ w' = w := by
  cases hz : FloatKind.f64.format.order x 0 != some .eq with
  | true =>
    go_enter Tryd.func26, Tryd.ntmps26
    go_wp2
    go_ret
    exact ⟨rfl, rfl⟩
  | false =>
    obtain ⟨s, k, -, hd⟩ := one_by_zero (x := x) (by have h2 : FloatKind.f64.format.order x 0 = some .eq := by simpa using hz
                                                     exact h2)
    obtain ⟨r, hr⟩ : ∃ r, r = double.word s 9218868437227405312 := ⟨_, rfl⟩
    rw [← hr] at hd
    have q : ∀ t w, (binOp .quo t (.float .f64 4607182418800017408) (.float .f64 x)).run Tryd.prog w = .ok (.float .f64 r) w := fun t w => run_float_arith w .quo t .f64 _ _ _ hd
    clear hd hr
    go_enter Tryd.func26, Tryd.ntmps26
    go_wp2
    go_ret
    exact ⟨rfl, rfl⟩

set_option maxHeartbeats 400000 in
theorem wr_nan (x y : Nat) (w : World) (h : FloatKind.f64.format.order x x = none) (g : FloatKind.f64.format.order y y = none) :
    Calls Tryd.prog 26 #[.float .f64 x, .float .f64 y] w fun e w' => e = .returned (.bool true) ∧ w' = w := by
  go_enter Tryd.func26, Tryd.ntmps26
  go_wp2
  go_ret
  exact ⟨rfl, rfl⟩

/-- Both are nan, or they are one word that is none. -/
def SameF (x y : Nat) : Prop := (FloatKind.f64.format.order x x = none ∧ FloatKind.f64.format.order y y = none) ∨ (x = y ∧ FloatKind.f64.format.order x x = some .eq)

theorem wr_same {x y : Nat} (w : World) (h : SameF x y) :
    Calls Tryd.prog 26 #[.float .f64 x, .float .f64 y] w fun e w' => e = .returned (.bool true) ∧ w' = w := by
  rcases h with ⟨h1, h2⟩ | ⟨rfl, h⟩
  · exact wr_nan x y w h1 h2
  · exact wr_eq x w h

set_option maxHeartbeats 400000 in
theorem spec_word (n : Int) (w : World) (h1 : 0 ≤ n) (h2 : n ≤ 3) :
    Calls Tryd.prog 67 #[.int .i64 n] w fun e w' => ∃ y, e = .returned (.float .f64 y) ∧ SameF (wordF n) y ∧ ∃ d, w' = w.drewN d := by
  have neg : ∀ b, Op.unary .neg (.float .f64 b) = pure (.float .f64 (Op.negFloat .f64 b)) := fun _ => rfl
  have hc : n = 0 ∨ n = 1 ∨ n = 2 ∨ n = 3 := by omega
  clear h1 h2
  rcases hc with rfl | rfl | rfl | rfl
  · go_enter Tryd.func67, Tryd.ntmps67
    go_wp2_with fail
    refine (nan_any w).mono ?_
    rintro e w1 ⟨y, rfl, hy, rfl⟩
    have HY : Hid (y = fGot .quo 0 0 w) := hy
    clear hy
    go_wp2
    go_ret
    exact ⟨y, rfl, Or.inl ⟨by decide +kernel, by rw [HY.out]; exact nan_got w⟩, 1, rfl⟩
  · go_enter Tryd.func67, Tryd.ntmps67
    go_wp2_with fail
    refine (inf_any w).mono ?_
    rintro e w1 ⟨rfl, rfl⟩
    go_wp2
    go_ret
    exact ⟨_, rfl, Or.inr ⟨by decide +kernel, by decide +kernel⟩, 0, rfl⟩
  · go_enter Tryd.func67, Tryd.ntmps67
    go_wp2_with fail
    refine (inf_any w).mono ?_
    rintro e w1 ⟨rfl, rfl⟩
    go_wp2
    go_ret
    exact ⟨_, rfl, Or.inr ⟨by decide +kernel, by decide +kernel⟩, 0, rfl⟩
  · go_enter Tryd.func67, Tryd.ntmps67
    go_wp2
    go_ret
    exact ⟨_, rfl, Or.inr ⟨by decide +kernel, by decide +kernel⟩, 0, rfl⟩

end Go.Proofs.YtighhijbhmakeaaDoor
