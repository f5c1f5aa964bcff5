/- Whether two real numbers are the same, to the law. -/
import Derived.Test.YtdhoimjkgicneaaDoorTxtE
namespace Go.Proofs.YtdhoimjkgicneaaDoor
open Go Go.RowKit

theorem sg_zero {s : Bool} {n : Nat} (h : sg s n = 0) : n = 0 := by cases s <;> simp [sg] at h <;> exact h

theorem val_zero {m k : Nat} (h : m * 2 ^ k = 0) : m = 0 := by
  rcases Nat.mul_eq_zero.1 h with h | h
  · exact h
  · exact absurd h (Nat.ne_of_gt (Nat.two_pow_pos _))

theorem order_nn {x m k y n j : Nat} {s t : Bool} (hx : Num x s m k) (hy : Num y t n j) : FloatKind.f64.format.order x y = some (compare (sg s (m * 2 ^ k)) (sg t (n * 2 ^ j))) := order_val hx.val hy.val

theorem zero_num {x : Nat} (h : FloatKind.f64.format.order x 0 = some .eq) : ∃ s k, Num x s 0 k := by
  rcases read_cases x with ⟨s, m, k, hx⟩ | ⟨s, hx⟩ | ⟨s, t, hx⟩
  · rw [order_nn hx num_zero] at h
    have h1 := Int.compare_eq_eq.1 (Option.some.inj h)
    have h2 : sg false (0 * 2 ^ 0) = 0 := rfl
    rw [h2] at h1
    have := val_zero (sg_zero h1)
    subst this
    exact ⟨s, k, hx⟩
  · rw [inf_zero hx] at h
    cases s <;> cases h
  · have h' : FloatKind.f64.format.order x 0 = none := order_nan_left hx
    rw [h'] at h; cases h

theorem same_order {x y : Nat} (h : Same x y) : FloatKind.f64.format.order x y = some .eq ∨ ∃ s t, Ieee.double.read x = .nan s t := by
  rcases h with ⟨a, -⟩ | ⟨s, a, b⟩ | ⟨s, m, k, m', k', a, b, e⟩
  · exact Or.inr a
  · left
    show Ieee.double.order x y = _
    simp [Ieee.Format.order, a, b, Ieee.Datum.order]
  · left
    rw [order_nn a b, e]
    simp

theorem eq_same {x y : Nat} (h : FloatKind.f64.format.order x y = some .eq) (hz : FloatKind.f64.format.order x 0 ≠ some .eq) : Same x y := by
  rcases read_cases x with ⟨s, m, k, hx⟩ | ⟨s, hx⟩ | ⟨s, t, hx⟩
  · rcases read_cases y with ⟨t, n, j, hy⟩ | ⟨t, hy⟩ | ⟨t, u, hy⟩
    · rw [order_nn hx hy] at h
      have h1 := Int.compare_eq_eq.1 (Option.some.inj h)
      have hm : m ≠ 0 := by
        intro h0
        apply hz
        rw [hx.zero, if_pos h0]
      have hp : 0 < m * 2 ^ k := Nat.pos_of_ne_zero (Nat.mul_ne_zero hm (Nat.ne_of_gt (Nat.two_pow_pos _)))
      have hst : s = t ∧ m * 2 ^ k = n * 2 ^ j := by
        cases s <;> cases t <;> simp only [sg, Bool.false_eq_true, if_false, if_true] at h1 <;> first | exact ⟨rfl, by omega⟩ | (exfalso; omega)
      obtain ⟨rfl, e⟩ := hst
      exact Or.inr (Or.inr ⟨s, m, k, n, j, hx, hy, e⟩)
    · exfalso
      have h' : Ieee.double.order x y = some .eq := h
      simp only [Ieee.Format.order, hx.read, hy, Ieee.Datum.order] at h'
      cases t <;> simp at h'
    · have h' : FloatKind.f64.format.order x y = none := order_nan_right hy
      rw [h'] at h; cases h
  · rcases read_cases y with ⟨t, n, j, hy⟩ | ⟨t, hy⟩ | ⟨t, u, hy⟩
    · exfalso
      have h' : Ieee.double.order x y = some .eq := h
      simp only [Ieee.Format.order, hx, hy.read, Ieee.Datum.order] at h'
      cases s <;> simp at h'
    · have h' : Ieee.double.order x y = some .eq := h
      simp only [Ieee.Format.order, hx, hy, Ieee.Datum.order] at h'
      have hst : s = t := by cases s <;> cases t <;> first | rfl | (revert h'; decide)
      subst hst
      exact Or.inr (Or.inl ⟨s, hx, hy⟩)
    · have h' : FloatKind.f64.format.order x y = none := order_nan_right hy
      rw [h'] at h; cases h
  · have h' : FloatKind.f64.format.order x y = none := order_nan_left hx
    rw [h'] at h; cases h

/-- What the law's own sameness answers. -/
def WrOf (x y : Nat) (w : World) (e : Ending) (w' : World) : Prop := ∃ b : Bool, e = .returned (.bool b) ∧ (b = true ↔ Same x y) ∧ w' = w

theorem wr_t {x y : Nat} {w : World} (h : Same x y) : WrOf x y w (.returned (.bool true)) w := ⟨true, rfl, ⟨fun _ => h, fun _ => rfl⟩, rfl⟩
theorem wr_f {x y : Nat} {w : World} (h : ¬ Same x y) : WrOf x y w (.returned (.bool false)) w := ⟨false, rfl, ⟨fun h => (by cases h), fun g => absurd g h⟩, rfl⟩

theorem nan_none {x : Nat} (h : (FloatKind.f64.format.order x x == some .eq) = false) : ∃ s t, Ieee.double.read x = .nan s t := by
  rcases order_self x with g | g
  · have g' : FloatKind.f64.format.order x x = some .eq := g
    rw [g'] at h; cases h
  · exact g
theorem not_nan {x : Nat} (h : (FloatKind.f64.format.order x x == some .eq) = true) : ¬ ∃ s t, Ieee.double.read x = .nan s t := by
  rintro ⟨s, t, g⟩
  have g' : FloatKind.f64.format.order x x = none := order_nan_left g
  rw [g'] at h; cases h

set_option maxHeartbeats 800000 in
theorem wr_any (x y : Nat) (w : World) : Calls Tryd.prog 30 #[.float .f64 x, .float .f64 y] w (WrOf x y w) := by
  cases hx : FloatKind.f64.format.order x x == some .eq with
  | false =>
    have nx := nan_none hx
    have hx2 : (FloatKind.f64.format.order x x != some .eq) = true := by rw [bne, hx]; rfl
    cases hy : FloatKind.f64.format.order y y == some .eq with
    | false =>
      have S : Hid (Same x y) := Or.inl ⟨nx, nan_none hy⟩
      have hy2 : (FloatKind.f64.format.order y y != some .eq) = true := by rw [bne, hy]; rfl
      clear nx hx hy
      go_enter Tryd.func30, Tryd.ntmps30
      go_wp2_with fail
      go_ret
      exact wr_t S.out
    | true =>
      have S : Hid (¬ Same x y) := by
        rintro (⟨-, b⟩ | ⟨s, a, -⟩ | ⟨s, m, k, m', k', a, -, -⟩)
        · exact not_nan hy b
        · obtain ⟨s', t', n⟩ := nx; rw [a] at n; cases n
        · obtain ⟨s', t', n⟩ := nx; rw [a.read] at n; cases n
      have hy2 : (FloatKind.f64.format.order y y != some .eq) = false := by rw [bne, hy]; rfl
      clear nx hx hy
      go_enter Tryd.func30, Tryd.ntmps30
      go_wp2_with fail
      go_ret
      exact wr_f S.out
  | true =>
    have nx := not_nan hx
    have hx2 : (FloatKind.f64.format.order x x != some .eq) = false := by rw [bne, hx]; rfl
    cases hy : FloatKind.f64.format.order y y == some .eq with
    | false =>
      have S : Hid (¬ Same x y) := by
        rintro (⟨a, -⟩ | ⟨s, -, b⟩ | ⟨s, m, k, m', k', -, b, -⟩)
        · exact nx a
        · obtain ⟨s', t', n⟩ := nan_none hy; rw [b] at n; cases n
        · obtain ⟨s', t', n⟩ := nan_none hy; rw [b.read] at n; cases n
      have hy2 : (FloatKind.f64.format.order y y != some .eq) = true := by rw [bne, hy]; rfl
      clear nx hx hy
      go_enter Tryd.func30, Tryd.ntmps30
      go_wp2_with fail
      go_ret
      exact wr_f S.out
    | true =>
      have hy2 : (FloatKind.f64.format.order y y != some .eq) = false := by rw [bne, hy]; rfl
      cases he : FloatKind.f64.format.order x y == some .eq with
      | false =>
        have S : Hid (¬ Same x y) := by
          intro h
          rcases same_order h with g | g
          · rw [g] at he; cases he
          · exact nx g
        clear nx hx hy
        go_enter Tryd.func30, Tryd.ntmps30
        go_wp2_with fail
        go_ret
        exact wr_f S.out
      | true =>
        have he2 : FloatKind.f64.format.order x y = some .eq := by simpa using he
        cases hz : FloatKind.f64.format.order x 0 == some .eq with
        | false =>
          have hz2 : (FloatKind.f64.format.order x 0 != some .eq) = true := by rw [bne, hz]; rfl
          have S : Hid (Same x y) := eq_same he2 (by intro h; rw [h] at hz; cases hz)
          clear nx hx hy he2 hz
          go_enter Tryd.func30, Tryd.ntmps30
          go_wp2_with fail
          go_ret
          exact wr_t S.out
        | true =>
          have hz2 : (FloatKind.f64.format.order x 0 != some .eq) = false := by rw [bne, hz]; rfl
          obtain ⟨s, k, n1⟩ := zero_num (x := x) (by simpa using hz)
          have hy0 : ∃ t j, Num y t 0 j := by
            rcases read_cases y with ⟨t, n, j, h⟩ | ⟨t, h⟩ | h
            · rw [order_nn n1 h] at he2
              have h1 := Int.compare_eq_eq.1 (Option.some.inj he2)
              have h2 : sg s (0 * 2 ^ k) = 0 := by cases s <;> simp [sg]
              rw [h2] at h1
              have := val_zero (sg_zero h1.symm)
              subst this
              exact ⟨t, j, h⟩
            · exfalso
              have h' : Ieee.double.order x y = some .eq := he2
              simp only [Ieee.Format.order, n1.read, h, Ieee.Datum.order] at h'
              cases t <;> simp at h'
            · exact absurd h (not_nan hy)
          obtain ⟨t, j, n2⟩ := hy0
          have q1 := div_one_zero n1
          have q2 := div_one_zero n2
          obtain ⟨r1, hr1⟩ : ∃ r, r = Ieee.double.word s 9218868437227405312 := ⟨_, rfl⟩
          obtain ⟨r2, hr2⟩ : ∃ r, r = Ieee.double.word t 9218868437227405312 := ⟨_, rfl⟩
          have i1 : Ieee.double.read r1 = .infinity s := by rw [hr1]; exact word_inf s
          have i2 : Ieee.double.read r2 = .infinity t := by rw [hr2]; exact word_inf t
          rw [← hr1] at q1
          rw [← hr2] at q2
          have g1 : (FloatKind.f64.format.order r1 0 == some .gt) = !s := by rw [inf_zero i1]; cases s <;> rfl
          have g2 : (FloatKind.f64.format.order r2 0 == some .gt) = !t := by rw [inf_zero i2]; cases t <;> rfl
          have f1 : ∀ t w, (binOp .quo t (.float .f64 4607182418800017408) (.float .f64 x)).run Tryd.prog w = .ok (.float .f64 r1) w := fun t w => run_float_arith w .quo t .f64 _ _ _ q1
          have f2 : ∀ t w, (binOp .quo t (.float .f64 4607182418800017408) (.float .f64 y)).run Tryd.prog w = .ok (.float .f64 r2) w := fun t w => run_float_arith w .quo t .f64 _ _ _ q2
          have S : Hid (s = t ↔ Same x y) := by
            constructor
            · rintro rfl
              exact Or.inr (Or.inr ⟨s, 0, k, 0, j, n1, n2, by simp⟩)
            · rintro (⟨⟨s', t', n⟩, -⟩ | ⟨s', a, -⟩ | ⟨s', m, k', m', k'', a, b, -⟩)
              · rw [n1.read] at n; cases n
              · rw [n1.read] at a; cases a
              · exact (num_read n1 a).1.trans (num_read n2 b).1.symm
          clear nx hx hy he2 hz n1 n2 q1 q2 hr1 hr2 i1 i2
          cases s <;> cases t
          · go_enter Tryd.func30, Tryd.ntmps30
            go_wp2_with fail
            go_ret
            exact wr_t (S.out.1 (by simp))
          · go_enter Tryd.func30, Tryd.ntmps30
            go_wp2_with fail
            go_ret
            exact wr_f (fun h => by have := S.out.2 h; cases this)
          · go_enter Tryd.func30, Tryd.ntmps30
            go_wp2_with fail
            go_ret
            exact wr_f (fun h => by have := S.out.2 h; cases this)
          · go_enter Tryd.func30, Tryd.ntmps30
            go_wp2_with fail
            go_ret
            exact wr_t (S.out.1 (by simp))

end Go.Proofs.YtdhoimjkgicneaaDoor
