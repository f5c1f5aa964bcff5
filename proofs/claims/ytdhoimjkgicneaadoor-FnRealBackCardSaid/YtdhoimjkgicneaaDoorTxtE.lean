/- The text of any real number, the program's own; and the law's own sameness. -/
import Derived.Test.YtdhoimjkgicneaaDoorTxtD
namespace Go.Proofs.YtdhoimjkgicneaaDoor
open Go Go.RowKit

set_option maxHeartbeats 400000 in
theorem text_zero (x k : Nat) (s : Bool) (w : World) (h : Num x s 0 k) : Calls Tryd.prog 28 #[.float .f64 x] w (Wrote x w) := by
  have h1 : (FloatKind.f64.format.order x x != some .eq) = false := by rw [h.self]; rfl
  have h2 : (FloatKind.f64.format.order x 0 == some .lt) = false := by rw [h.zero]; rfl
  have h3 := h.max
  have h4 : (FloatKind.f64.format.order x 0 == some .gt) = false := by rw [h.zero]; rfl
  have hd := div_one_zero h
  obtain ⟨r, hr⟩ : ∃ r, r = Ieee.double.word s 9218868437227405312 := ⟨_, rfl⟩
  have hi : Ieee.double.read r = .infinity s := by rw [hr]; exact word_inf s
  rw [← hr] at hd
  have q : ∀ t w, (binOp .quo t (.float .f64 4607182418800017408) (.float .f64 x)).run Tryd.prog w = .ok (.float .f64 r) w := fun t w => run_float_arith w .quo t .f64 _ _ _ hd
  have H : Hid (Num x s 0 k) := h
  clear h hr hd
  cases s with
  | false =>
    have h5 : (FloatKind.f64.format.order r 0 == some .lt) = false := by rw [inf_zero hi]; rfl
    clear hi
    go_enter Tryd.func28, Tryd.ntmps28
    go_wp2_with fail
    go_ret
    exact ⟨[48], rfl, Or.inr (Or.inr (Or.inl ⟨false, k, H.out, rfl⟩)), by decide, Below.refl _ _⟩
  | true =>
    have h5 : (FloatKind.f64.format.order r 0 == some .lt) = true := by rw [inf_zero hi]; rfl
    clear hi
    go_enter Tryd.func28, Tryd.ntmps28
    go_wp2_with fail
    go_ret
    exact ⟨[45, 48], rfl, Or.inr (Or.inr (Or.inl ⟨true, k, H.out, rfl⟩)), by decide, Below.refl _ _⟩

theorem text_nonneg (x : Nat) (w : World) (T : RTab w) (h : Ieee.double.read x = .infinity false ∨ ∃ m k, Num x false m k ∧ m ≠ 0) : Calls Tryd.prog 28 #[.float .f64 x] w (fun e w' => ∃ l, e = .returned (.string ⟨l.toArray⟩) ∧ Txt x l ∧ l.length ≤ 40 ∧ Below w.heap.size w w') := by
  rcases h with h | ⟨m, k, h, h0⟩
  · exact (text_inf x w h).mono fun e w' ⟨he, hw⟩ => ⟨[105, 110, 102], he, Or.inr (Or.inl ⟨false, h, rfl⟩), by decide, by rw [hw]; exact Below.refl _ _⟩
  · refine (text_pos x m k w T h h0).mono ?_
    rintro e w' ⟨n, c, he, n1, n2, hv, hb⟩
    have := finL_bd (s := false) n2 (c_bound hv h.lt98 n1)
    exact ⟨_, he, Or.inr (Or.inr (Or.inr ⟨false, m, k, n, c, h, h0, n1, hv, rfl⟩)), by omega, hb⟩

set_option maxHeartbeats 400000 in
theorem text_minus (x : Nat) (w : World) (T : RTab w) (h : Ieee.double.read x = .infinity true ∨ ∃ m k, Num x true m k ∧ m ≠ 0) : Calls Tryd.prog 28 #[.float .f64 x] w (Wrote x w) := by
  have h1 : (FloatKind.f64.format.order x x != some .eq) = false := by
    rcases h with h | ⟨m, k, h, h0⟩
    · rw [inf_self h]; rfl
    · rw [h.self]; rfl
  have h2 : (FloatKind.f64.format.order x 0 == some .lt) = true := by
    rcases h with h | ⟨m, k, h, h0⟩
    · rw [inf_zero h]; rfl
    · rw [h.zero, if_neg h0]; rfl
  have hn : Hid (Ieee.double.read (Op.negFloat .f64 x) = .infinity false ∨ ∃ m k, Num (Op.negFloat .f64 x) false m k ∧ m ≠ 0) := by
    rcases h with h | ⟨m, k, h, h0⟩
    · exact Or.inl (by rw [read_neg, h]; rfl)
    · exact Or.inr ⟨m, k, h.neg, h0⟩
  have H : Hid (Ieee.double.read x = .infinity true ∨ ∃ m k, Num x true m k ∧ m ≠ 0) := h
  have ng : Op.unary .neg (.float .f64 x) = pure (.float .f64 (Op.negFloat .f64 x)) := rfl
  clear h
  go_enter Tryd.func28, Tryd.ntmps28
  go_wp2_with fail
  refine (text_nonneg (Op.negFloat .f64 x) w T hn.out).mono ?_
  rintro e w1 ⟨l, rfl, hl, hlen, hb⟩
  have HL : Hid (Txt (Op.negFloat .f64 x) l) := hl
  have B : Hid (Below w.heap.size w w1) := hb
  clear hl hb
  go_wp2_with fail
  go_ret
  refine ⟨45 :: l, ret_strR ?_, txt_minus H.out HL.out, by simp; omega, B.out⟩
  rw [show (⟨#[45]⟩ : ByteArray) = ⟨([45] : List UInt8).toArray⟩ from rfl, str_cat]
  rfl

theorem text_any (x : Nat) (w : World) (T : RTab w) : Calls Tryd.prog 28 #[.float .f64 x] w (Wrote x w) := by
  rcases read_cases x with ⟨s, m, k, h⟩ | ⟨s, h⟩ | h
  · by_cases h0 : m = 0
    · subst h0; exact text_zero x k s w h
    · cases s
      · exact (text_nonneg x w T (Or.inr ⟨m, k, h, h0⟩)).mono fun e w' ⟨l, a, b, c, d⟩ => ⟨l, a, b, by omega, d⟩
      · exact text_minus x w T (Or.inr ⟨m, k, h, h0⟩)
  · cases s
    · exact (text_nonneg x w T (Or.inl h)).mono fun e w' ⟨l, a, b, c, d⟩ => ⟨l, a, b, by omega, d⟩
    · exact text_minus x w T (Or.inl h)
  · exact text_nan x w h

end Go.Proofs.YtdhoimjkgicneaaDoor
